/-
  The document's own flash, by value: New.
-/
import Derived.Test.YtjmofjcdcmbecaaRefCrash
import Derived.Test.YtjmofjcdcmbecaaNorNew
namespace Go.Proofs.Ytjmofjcdcmbecaa
open Go.RowKit
set_option linter.unusedVariables false

/-- A world with its first blocks alone. -/
theorem cutW (w : World) (N : Nat) (h : N ≤ w.heap.size) : ∃ w0 : World, w0.heap.size = N ∧ Below N w0 w := by
  refine ⟨{ w with heap := w.heap.extract 0 N }, by simp; omega, rfl, rfl, rfl, by simp; omega, fun k hk => ?_⟩
  simp only [Array.getElem?_extract]
  rw [if_pos (by omega), Nat.zero_add]
theorem below_via {B N : Nat} {w w0 w1 w7 : World} (h : Below B w w1) (hBN : B ≤ N) (a : Below N w0 w1) (b : Below N w0 w7) (hs : w.heap.size ≤ w7.heap.size) : Below B w w7 :=
  ⟨b.os.trans (a.os.symm.trans h.os), b.tape.trans (a.tape.symm.trans h.tape), b.output.trans (a.output.symm.trans h.output), hs, fun k hk => (b.block k (by omega)).trans ((a.block k (by omega)).symm.trans (h.block k hk))⟩
section
variable {w : World}
set_option maxHeartbeats 1000000 in
set_option maxRecDepth 100000 in
theorem rNew_yes (n : Nat) (G : Int) (h1 : 1 ≤ n) (h2 : n ≤ 1024) (h3 : 0 ≤ G) (h4 : G ≤ n) :
    Calls Try.prog 38 #[.int .i64 (n : Int), .int .i64 G] w fun e w' => ∃ B c2, e = .returned (.tuple #[.agg ((Fl.made n G).rL B c2).toArray, .int .i64 0]) ∧ RnAt w' B c2 (Fl.made n G) ∧ Fresh w.heap.size 22 w' B (64 * n) c2 (cw (Fl.made n G).ws) ∧ Below w.heap.size w w' := by
  have dA : decide ((n : Int) < 1) = false := by simp; omega
  have dB : decide (1024 < (n : Int)) = false := by simp; omega
  have dC : decide (G < 0) = false := by simp; omega
  have dD : decide ((n : Int) < G) = false := by simp; omega
  have em : IntKind.i64.wrap ((n : Int) * 64) = (n : Int) * 64 := wrapI _ (by omega) (by omega)
  have HN := Lib.hid (And.intro h1 (And.intro h2 (And.intro h3 h4)))
  have hbd : ∀ w', (Instr.build 65 #[(1, .int .i64 G), (2, .int .i64 (-1)), (4, .int .i64 (-1))]).run Try.prog w' = .ok (.agg (rnL none 0 0 G (-1) false (-1)).toArray) w' := fun w' => run_build w' _ _ _ (by kernel_rfl)
  clear h1 h2 h3 h4
  go_enter Try.func38, Try.ntmps38
  go_wp2_with (first
    | (with_reducible refine wpList_alloc (o := ⟨some 4, _, _, _, _, _⟩) rfl 65 rfl (rnL none 0 0 0 0 false 0) (by kernel_rfl) 5 rfl (by decide) ?_; intro gr w1 hgr hFr hBr; have zr := hBr.size; have lgr := hFr.lt_size)
    | (with_reducible refine wpList_alloc (o := ⟨some 6, _, _, _, _, _⟩) rfl 65 rfl (rnL none 0 0 0 0 false 0) (by kernel_rfl) 5 rfl (by decide) ?_; intro g w2 hg hF hB; have zg := hB.size; have lg := hF.lt_size; have hFr2 := hFr.below hB; have hB2 := Below.then_ hBr hB; have gne : gr ≠ g := (by omega))
    | (with_reducible refine wpList_store rfl rfl (.tmp 6) (.tmp 25) 65 rfl g 0 w1.heap.size 65 5 (rnL none 0 0 0 0 false 0) (rnL none 0 0 G (-1) false (-1)) rfl rfl 5 rfl (by kernel_rfl) hF (by omega) (allOne_out (by kernel_rfl)) w hB2 (by omega) ?_; intro w3 hF3 hB3 ho3 hz3))
  have hF3' : Fresh w.heap.size 65 w3 (some ⟨g, 0, none⟩) 5 5 (rnL none 0 0 G (-1) false (-1)) := (hF3.lower (by omega))
  have hR3 : Fresh w.heap.size 65 w3 (some ⟨gr, 0, none⟩) 5 5 (rnL none 0 0 0 0 false 0) := (hFr2.other gne ho3).lower (by omega)
  obtain ⟨N, hN⟩ : ∃ N, w2.heap.size = N := ⟨_, rfl⟩
  have gN : g < N := by omega
  have grN : gr < N := by omega
  have wN : w.heap.size ≤ N := by omega
  have N3 : N ≤ w3.heap.size := by omega
  clear hF hB hF3 hFr hFr2 hBr hB2 ho3 hN hz3 hbd
  go_loopw [7] (fun i wr => ∃ (k : Nat) (B : Option Addr) (cb : Nat), k ≤ 64 * n ∧ i = .int .i64 (k : Int) ∧ Fresh w.heap.size 65 wr (some ⟨g, 0, none⟩) 5 5 (rnL B k cb G (-1) false (-1)) ∧ Fresh w.heap.size 65 wr (some ⟨gr, 0, none⟩) 5 5 (rnL none 0 0 0 0 false 0) ∧ Fresh N 22 wr B k cb (cw (List.replicate k 4294967295)) ∧ Below w.heap.size w wr ∧ N ≤ wr.heap.size) (fun i _ => 64 * n - (intOf i).toNat)
  case atStart => exact ⟨0, none, 0, by omega, rfl, hF3', hR3, fresh_nil _ _ _, hB3, N3⟩
  case round =>
    obtain ⟨k, B, cb, hk, rfl, hG, hR, hW, hBw, hNw⟩ := hrel
    clear hF3' hR3 hB3 N3
    have hn := HN.out.2.1
    by_cases hlt : k < 64 * n
    · have c0 : wr.cell? ⟨g, 0, none⟩ = some (.slice B k cb) := hG.cell (j := 0) rfl
      have hBa := below_alloc wr (.cells (cw [4294967295]).toArray 22 (0, 0))
      have hF1 := Fresh.new wr 22 (cw [4294967295]) 1 rfl (by decide)
      have hW1 := hW.below hBa
      have hG1 := hG.below hBa
      have hR1 := hR.below hBa
      have hBw1 := Below.then_ hBw hBa
      obtain ⟨w0, e0, hb0⟩ := cutW (wr.alloc (.cells (cw [4294967295]).toArray 22 (0, 0))) N (Nat.le_trans hNw hBa.size)
      have hW1' : Fresh w0.heap.size 22 (wr.alloc (.cells (cw [4294967295]).toArray 22 (0, 0))) B k cb (cw (List.replicate k 4294967295)) := by rw [e0]; exact hW1
      have hb0' : Below w0.heap.size w0 (wr.alloc (.cells (cw [4294967295]).toArray 22 (0, 0))) := by rw [e0]; exact hb0
      have ek : IntKind.i64.wrap ((k : Int) + 1) = (k : Int) + 1 := wrapI _ (by omega) (by omega)
      have hltI : (k : Int) < (n : Int) * 64 := by omega
      go_wp2_with (at_builtin; refine wpList_app32 rfl (.tmp 33) (.tmp 34) rfl B (some ⟨wr.heap.size, 0, none⟩) k cb 1 1 (List.replicate k 4294967295) [4294967295] w0 rfl rfl hW1' hF1.sees rfl (by omega) hb0' ?_; intro B2 cb2 w7 hF7 hB7; have hG7 := hG1.kept ((hB7.block g (by rw [e0]; exact gN)).trans (hb0'.block g (by rw [e0]; exact gN)).symm); have hR7 := hR1.kept ((hB7.block gr (by rw [e0]; exact grN)).trans (hb0'.block gr (by rw [e0]; exact grN)).symm); have d0 : w7.cell? ⟨g, 0, none⟩ = some (.slice B k cb) := hG7.cell (j := 0) rfl; have f0 : w7.frozen? ⟨g, 0, none⟩ = false := hG7.frozenAt)
      go_roundw
      case rel =>
        have hz7 : w.heap.size ≤ w7.heap.size := by have := hB7.size; omega
        have hB07 := below_via hBw1 (by omega) hb0' hB7 hz7
        have hF7' : Fresh N 22 w7 B2 (k + 1) cb2 (cw (List.replicate (k + 1) 4294967295)) := by
          rw [e0] at hF7
          rw [show List.replicate (k + 1) (4294967295 : UInt32) = List.replicate k 4294967295 ++ [4294967295] from List.replicate_succ']
          exact hF7
        refine ⟨k + 1, B2, cb2, by omega, by go_num, hG7.store 0 (.slice B2 (k + 1) cb2), hR7.other gne (rn_other w7 ⟨g, 0, none⟩ (.slice B2 (k + 1) cb2)), hF7'.apart fun q hq => rn_other w7 ⟨g, 0, none⟩ (.slice B2 (k + 1) cb2) q (by show q ≠ g; omega), hB07.setCell (p := ⟨g, 0, none⟩) (by show _ ≤ g; omega) _, ?_⟩
        have := hB7.size
        simp [World.setCell]
        omega
      case measure => simp [intOf]; omega
    · obtain rfl : k = 64 * n := by omega
      have hltI : ¬ ((64 * n : Nat) : Int) < (n : Int) * 64 := by omega
      have hG' : Fresh w.heap.size 65 wr (some ⟨g, 0, none⟩) 5 5 ((Fl.made n G).rL B cb) := hG
      go_wp2_with (first
        | (with_reducible refine wpList_load (o := ⟨some 37, _, _, _, _, _⟩) rfl (.tmp 6) 65 rfl g 0 _ rfl ((Fl.made n G).rL B cb) 5 rfl (by kernel_rfl) hG'.sees ?_)
        | (with_reducible refine wpList_store rfl rfl (.tmp 4) (.tmp 37) 65 rfl gr 0 w.heap.size 65 5 (rnL none 0 0 0 0 false 0) ((Fl.made n G).rL B cb) rfl rfl 5 rfl (by kernel_rfl) hR (by omega) (allOne_out (by kernel_rfl)) w hBw (by omega) ?_; intro w9 hF9 hB9 ho9 hz9))
      refine bodyPost_cellt rfl rfl (.int .i64 0) rfl ((Fl.made n G).rL B cb) 5 rfl (by kernel_rfl) hF9.sees rfl ⟨B, cb, rfl, RnAt.fresh (S := Fl.made n G) (hW.apart fun q hq => ho9 q (by omega)) (by simp [Fl.made]) hn, (hW.apart fun q hq => ho9 q (by omega)).lower wN, hB9⟩
set_option maxHeartbeats 1000000 in
set_option maxRecDepth 100000 in
theorem rNew_no (s G : Int) (hm : mayBe s G = false) :
    Calls Try.prog 38 #[.int .i64 s, .int .i64 G] w fun e w' => e = .returned (.tuple #[.agg (rnL none 0 0 0 0 false 0).toArray, .int .i64 2]) ∧ Below w.heap.size w w' := by
  have hbd : ∀ w', (Instr.build 65 #[]).run Try.prog w' = .ok (.agg (rnL none 0 0 0 0 false 0).toArray) w' := fun w' => run_build w' _ _ _ (by kernel_rfl)
  have key : ∀ (a1 a2 a3 a4 : Bool), decide (s < 1) = a1 → decide (1024 < s) = a2 → decide (G < 0) = a3 → decide (s < G) = a4 → (a1 || a2 || a3 || a4) = true →
      Calls Try.prog 38 #[.int .i64 s, .int .i64 G] w fun e w' => e = .returned (.tuple #[.agg (rnL none 0 0 0 0 false 0).toArray, .int .i64 2]) ∧ Below w.heap.size w w' := by
    intro a1 a2 a3 a4 h1 h2 h3 h4 hor
    clear hm
    cases a1 <;> cases a2 <;> cases a3 <;> cases a4
    all_goals first
      | (simp at hor; done)
      | (clear hor
         go_enter Try.func38, Try.ntmps38
         go_wp2_with (first
           | (with_reducible refine wpList_alloc (o := ⟨some 4, _, _, _, _, _⟩) rfl 65 rfl (rnL none 0 0 0 0 false 0) (by kernel_rfl) 5 rfl (by decide) ?_; intro gr w1 hgr hFr hBr)
           | (with_reducible refine wpList_store rfl rfl (.tmp 4) (.tmp 23) 65 rfl gr 0 w.heap.size 65 5 (rnL none 0 0 0 0 false 0) (rnL none 0 0 0 0 false 0) rfl rfl 5 rfl (by kernel_rfl) hFr (by omega) (allOne_out (by kernel_rfl)) w hBr hgr ?_; intro w9 hF9 hB9 ho9 hz9))
         exact bodyPost_cellt rfl rfl (.int .i64 2) rfl (rnL none 0 0 0 0 false 0) 5 rfl (by kernel_rfl) hF9.sees rfl ⟨rfl, hB9⟩)
  refine key _ _ _ _ rfl rfl rfl rfl ?_
  simp [mayBe] at hm
  simp
  omega
end
end Go.Proofs.Ytjmofjcdcmbecaa
