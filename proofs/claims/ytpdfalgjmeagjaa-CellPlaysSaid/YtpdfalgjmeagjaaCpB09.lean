/-
  What the calls upon a flash leave: as many sectors, and what is half erased is a sector.
-/
import Derived.Test.YtpdfalgjmeagjaaCpB07
import Derived.Test.YtpdfalgjmeagjaaCpB05
import Derived.Test.YtpdfalgjmeagjaaCpB08
import Derived.Test.YtpdfalgjmeagjaaCpB06
import Derived.Test.YtpdfalgjmeagjaaCpB01
namespace Go.Proofs.Ytpdfalgjmeagjaa
open Go.RowKit
set_option linter.unusedVariables false

theorem Fl.Ok.same {S T : Fl} (h : S.Ok) (h1 : T.n = S.n) (h2 : T.half = S.half) : T.n = S.n ∧ T.Ok := ⟨h1, by unfold Fl.Ok at *; rw [h1, h2]; exact h⟩
theorem Fl.rewrite_ok {S T : Fl} {s a : Int} {l : List UInt32} {r : Nat} (h : S.Ok) (hr : S.rewrite s a l = (T, r)) : T.n = S.n ∧ T.Ok := by
  obtain rfl : (S.rewrite s a l).1 = T := by rw [hr]
  unfold Fl.rewrite
  split <;> exact h.same rfl rfl
theorem Fl.arm_ok {S : Fl} (h : S.Ok) (k : Int) : (S.arm k).n = S.n ∧ (S.arm k).Ok := by
  unfold Fl.arm
  split <;> exact h.same rfl rfl
theorem Fl.crash_ok (S : Fl) (ks : List Bool) : (S.crash ks).n = S.n ∧ (S.crash ks).Ok := by
  unfold Fl.crash
  split <;> exact ⟨rfl, .inl rfl⟩
end Go.Proofs.Ytpdfalgjmeagjaa

/-
  A flash beside the document's own one: both are the same flash; what is left of that behind a call of both.
-/
namespace Go.Proofs.Ytpdfalgjmeagjaa
open Go.RowKit
set_option linter.unusedVariables false

theorem Fresh.butN {w w' : World} {base : Nat} {e : TypeId} {gb p b n c : Nat} {xs : List Value} (h : Fresh base e w (some ⟨gb, 0, none⟩) n c xs) (x : But p b w w') (h1 : gb ≠ p) (h2 : gb ≠ b) : Fresh base e w' (some ⟨gb, 0, none⟩) n c xs := by
  refine ⟨h.1, ?_⟩
  rcases h.2 with h3 | ⟨g', cap, cur, hv, hg, hh, hr⟩
  · exact .inl h3
  · have e : gb = g' := by
      simp only [Value.slice.injEq, Option.some.injEq, Addr.mk.injEq] at hv
      exact hv.1.1
    subst e
    exact .inr ⟨gb, cap, cur, hv, hg, by rw [x.keep gb (Array.getElem?_eq_some_iff.1 hh).1 h1 h2]; exact hh, hr⟩
/-- The flash (p, b) and the document's own one, in the box g with its words in gb. -/
structure Beside (W w : World) (p b g gb c : Nat) (S : Fl) : Prop where
  nor : NorAt W.heap.size w p b S
  box : Fresh W.heap.size 105 w (some ⟨g, 0, none⟩) 5 5 (S.rL (some ⟨gb, 0, none⟩) c)
  row : Fresh W.heap.size 22 w (some ⟨gb, 0, none⟩) (64 * S.n) c (cw S.ws)
  cap : 64 * S.n ≤ c
  n1 : 1 ≤ S.n
  gp : gb ≠ p
  gbb : gb ≠ b
  gg : gb ≠ g
  hp : g ≠ p
  hb : g ≠ b
  below : Below W.heap.size W w
section
variable {W w w1 w2 w3 : World} {p b g gb c c3 : Nat} {S T : Fl}
theorem RnAt.of_row (h : Fresh W.heap.size 22 w (some ⟨gb, 0, none⟩) (64 * S.n) c (cw S.ws)) (hn : S.n ≤ 1024) (hc : 64 * S.n ≤ c) : RnAt w (some ⟨gb, 0, none⟩) c S := ⟨h.sees, by simpa using h.len, hn, hc⟩
theorem Beside.rn (h : Beside W w p b g gb c S) : RnAt w (some ⟨gb, 0, none⟩) c S := RnAt.of_row h.row h.nor.n_le h.cap
theorem Beside.step (h : Beside W w p b g gb c S) (x : Below w.heap.size w w1) : Beside W w1 p b g gb c S :=
  ⟨h.nor.below x, h.box.below x, h.row.below x, h.cap, h.n1, h.gp, h.gbb, h.gg, h.hp, h.hb, Below.then_ h.below x⟩
/-- Behind the flash's own call, ahead of the document's. -/
theorem Beside.half (h : Beside W w p b g gb c S) (x : But p b w w1) : Fresh W.heap.size 105 w1 (some ⟨g, 0, none⟩) 5 5 (S.rL (some ⟨gb, 0, none⟩) c) ∧ RnAt w1 (some ⟨gb, 0, none⟩) c S ∧ Below W.heap.size W w1 ∧ p < w1.heap.size ∧ b < w1.heap.size ∧ g < w1.heap.size ∧ W.heap.size ≤ g := by
  obtain ⟨hp, hb, hp2, hb2⟩ := h.nor.lt
  have hg := h.box.lt_size
  have hs := x.size
  obtain ⟨_, hgg, _, _⟩ := h.box.spot_ (by omega)
  have : W.heap.size ≤ g := by
    obtain ⟨g', e, q, _⟩ := h.box.spot_ (by omega)
    obtain rfl : g = g' := by simpa using e
    exact q
  exact ⟨h.box.butN x h.hp h.hb, RnAt.of_row (h.row.butN x h.gp h.gbb) h.nor.n_le h.cap, h.below.trans (x.below hp2 hb2 h.below.size), by omega, by omega, by omega, this⟩
/-- Behind both calls, and the store of what the document's call told. -/
theorem Beside.then_ (h : Beside W w p b g gb c S) (x : But p b w w1) (hN : NorAt W.heap.size w1 p b T) (hn : T.n = S.n) {B : Option Addr} (hT : RnTo w1 w2 (some ⟨gb, 0, none⟩) B c c3 S T) (y : Below w1.heap.size w1 w2)
    (hF : Fresh W.heap.size 105 w3 (some ⟨g, 0, none⟩) 5 5 (T.rL B c3)) (ho : ∀ k, k ≠ g → w3.heap[k]? = w2.heap[k]?) (hB : Below W.heap.size W w3) : ∃ gb2, B = some ⟨gb2, 0, none⟩ ∧ Beside W w3 p b g gb2 c3 T := by
  obtain ⟨_, _, hBw, lp, lb, lg, hWg⟩ := h.half x
  have hN2 := hN.below y
  have hW1 := hBw.size
  have hN3 : NorAt W.heap.size w3 p b T := ⟨hN2.obj.other (Ne.symm h.hp) ho, hN2.row.other (Ne.symm h.hb) ho, hN2.ne, hN2.n_le, hN2.left_le⟩
  have hcap := hT.at_.cap
  have hn1 : 1 ≤ T.n := by rw [hn]; exact h.n1
  rcases hT.from_ with ⟨rfl, rfl, hw, -⟩ | hR
  · refine ⟨gb, rfl, hN3, hF, ?_, hcap, hn1, h.gp, h.gbb, h.gg, h.hp, h.hb, hB⟩
    have := ((h.row.butN x h.gp h.gbb).below y).otherC h.gg ho
    rw [hn, hw]
    exact this
  · obtain ⟨gb2, rfl, q1, q2⟩ := hR.spot_ (by omega)
    have n3 : gb2 ≠ g := by omega
    exact ⟨gb2, rfl, hN3, hF, (hR.lower hW1).otherC n3 ho, hcap, hn1, by omega, by omega, n3, h.hp, h.hb, hB⟩
theorem arm_to (h : RnAt w1 (some ⟨gb, 0, none⟩) c S) (y : Below w1.heap.size w1 w2) (k : Int) (hT : S.arm k = T) : RnTo w1 w2 (some ⟨gb, 0, none⟩) (some ⟨gb, 0, none⟩) c c S T := by
  obtain ⟨e1, e2⟩ : T.ws = S.ws ∧ T.n = S.n := by
    rw [← hT]
    unfold Fl.arm
    split <;> exact ⟨rfl, rfl⟩
  have h2 := h.step y
  exact ⟨⟨by rw [e1]; exact h2.sees, by rw [e1, e2]; exact h2.len, by rw [e2]; exact h2.n_le, by rw [e2]; exact h2.cap⟩, .inl ⟨rfl, rfl, e1, e2⟩⟩
end
end Go.Proofs.Ytpdfalgjmeagjaa

/-
  The document's own drive, by value: Open, Part, Erase.
-/
namespace Go.Proofs.Ytpdfalgjmeagjaa
open Go.RowKit
set_option linter.unusedVariables false

/-- The cells of the document's own drive: from which sector on, how many. -/
def rdL (f m : Int) : List Value := [.int .i64 f, .int .i64 m]
/-- What a call within a call leaves, behind a store into memory of the outer call's own. -/
theorem RnTo.shut {w w3 w4 w9 : World} {A B : Option Addr} {c c2 g : Nat} {S T : Fl} (h : RnAt w A c S) (hT : RnTo w3 w4 A B c c2 S T) (x : Below w.heap.size w w9) (hs : w.heap.size ≤ w3.heap.size) (hg : g < w3.heap.size) (ho : ∀ k, k ≠ g → w9.heap[k]? = w4.heap[k]?) : RnTo w w9 A B c c2 S T := by
  rcases hT.from_ with ⟨rfl, rfl, hw, hn⟩ | hR
  · have h9 := h.step x
    exact ⟨⟨by rw [hw]; exact h9.sees, by rw [hw, hn]; exact h9.len, by rw [hn]; exact h9.n_le, by rw [hn]; exact h9.cap⟩, .inl ⟨rfl, rfl, hw, hn⟩⟩
  · have hR9 := hR.apart fun k hk => ho k (by omega)
    exact ⟨⟨hR9.sees, hT.at_.len, hT.at_.n_le, hT.at_.cap⟩, .inr (hR9.lower hs)⟩
section
variable {w : World} {A : Option Addr} {c : Nat} {S : Fl}
set_option maxHeartbeats 1000000 in
set_option maxRecDepth 100000 in
theorem rdOpen_yes (h : RnAt w A c S) (f m : Nat) (hf : f + m ≤ S.n) (h1 : 1 ≤ m) :
    Calls Try.prog 57 #[.agg (S.rL A c).toArray, .int .i64 (f : Int), .int .i64 (m : Int)] w fun e w' => e = .returned (.tuple #[.agg (rdL (f : Int) (m : Int)).toArray, .int .i64 0]) ∧ Below w.heap.size w w' := by
  have hSe : ∀ w', Calls Try.prog 138 #[.agg (S.rL A c).toArray] w' fun e w2 => e = .returned (.int .i64 (S.n : Int)) ∧ Below w'.heap.size w' w2 := fun w' => rSectors_any (A := A) (c := c) S.n h.n_le S.guard S.leftR S.down S.half w'
  have hn := h.n_le
  have hN := Lib.hid h
  have dm : decide ((m : Int) < 1) = false := by simp; omega
  have df : decide ((f : Int) < 0) = false := by simp
  have dg : decide (S.n < f) = false := by simp; omega
  have dh : decide ((S.n : Int) - (f : Int) < (m : Int)) = false := by simp; omega
  have es : IntKind.i64.wrap ((S.n : Int) - (f : Int)) = (S.n : Int) - (f : Int) := wrapI _ (by omega) (by omega)
  have hbd : ∀ w', (Instr.build 109 #[(0, .int .i64 (f : Int)), (1, .int .i64 (m : Int))]).run Try.prog w' = .ok (.agg (rdL (f : Int) (m : Int)).toArray) w' := fun w' => run_build w' _ _ _ (by kernel_rfl)
  clear h
  go_enter Try.func57, Try.ntmps57
  go_wp2_with (first | ((with_reducible refine wpList_box (o := ⟨some 3, _, _, _, _, _⟩) rfl (.tmp 0) 105 rfl (S.rL A c) rfl 5 rfl (by decide) ?_); intro g w1 hg hF hB; have z1 := hB.size; have lg := hF.lt_size) | ((with_reducible refine wpList_alloc (o := ⟨some 6, _, _, _, _, _⟩) rfl 109 rfl (rdL 0 0) (by kernel_rfl) 2 rfl (by decide) ?_); intro gr w2 hgr hFr hBr; have z2 := hBr.size; have gne : gr ≠ g := (by omega); have hF2 := hF.below hBr; have hB2 := Below.then_ hB hBr) | (refine wpList_load_g (o := ⟨some 16, _, _, _, _, _⟩) (.tmp 3) 105 rfl g 0 _ rfl (S.rL A c) 5 rfl (by kernel_rfl) hF2.sees (by rfl) ?_))
  refine (hSe w2).mono ?_
  rintro e w3 ⟨rfl, hB3⟩
  have hF3 := hF2.below hB3
  have hR3 := hFr.below hB3
  have hB03 := Below.then_ hB2 hB3
  go_wp2_with (refine wpList_load_g (o := ⟨some 22, _, _, _, _, _⟩) (.tmp 3) 105 rfl g 0 _ rfl (S.rL A c) 5 rfl (by kernel_rfl) hF3.sees (by rfl) ?_)
  refine (hSe w3).mono ?_
  rintro e w4 ⟨rfl, hB4⟩
  have hR4 := hR3.below hB4
  have hB04 := Below.then_ hB03 hB4
  go_wp2_with ((with_reducible refine wpList_store rfl rfl (.tmp 6) (.tmp 31) 109 rfl gr 0 _ 109 2 (rdL 0 0) (rdL (f : Int) (m : Int)) rfl rfl 2 rfl (by kernel_rfl) hR4 (by omega) (allOne_out (by kernel_rfl)) w hB04 (by omega) ?_); intro w9 hF9 hB9 ho9 hz9)
  exact bodyPost_cellt rfl rfl (.int .i64 0) rfl (rdL (f : Int) (m : Int)) 2 rfl (by kernel_rfl) hF9.sees rfl ⟨rfl, hB9⟩
end
section
variable {w : World} {A : Option Addr} {c : Nat} {S : Fl}
set_option maxHeartbeats 1000000 in
set_option maxRecDepth 100000 in
theorem rdErase_any (h : RnAt w A c S) (hl2 : S.left < 9223372036854775808) (f m : Nat) (hfm : f + m ≤ 1024) (s : Int) (hs : s < 9223372036854775808) (T : Fl) (r : Nat) (hr : S.derase f m s = (T, r)) :
    Calls Try.prog 139 #[.agg (rdL (f : Int) (m : Int)).toArray, .agg (S.rL A c).toArray, .int .i64 s] w fun e w' => ∃ B c2, e = .returned (.tuple #[.agg (T.rL B c2).toArray, .int .i64 (r : Int)]) ∧ RnTo w w' A B c c2 S T ∧ Below w.heap.size w w' := by
  unfold Fl.derase at hr
  have NO : ∀ w', Below w.heap.size w w' → RnTo w w' A A c c S S := fun w' x => ⟨h.step x, .inl ⟨rfl, rfl, rfl, rfl⟩⟩
  by_cases a1 : s < 0
  · have hp : secsOk m s 1 = false := by simp [secsOk]; omega
    obtain ⟨rfl, rfl⟩ : S = T ∧ 2 = r := by rw [hp] at hr; simpa using hr
    clear hr hp hs hl2
    go_enter Try.func139, Try.ntmps139
    go_wp2_with (first | ((with_reducible refine wpList_box (o := ⟨some 3, _, _, _, _, _⟩) rfl (.tmp 0) 109 rfl (rdL (f : Int) (m : Int)) rfl 2 rfl (by decide) ?_); intro g w1 hg hF hB; have z1 := hB.size; have lg := hF.lt_size) | ((with_reducible refine wpList_box (o := ⟨some 4, _, _, _, _, _⟩) rfl (.tmp 1) 105 rfl (S.rL A c) rfl 5 rfl (by decide) ?_); intro gn w2 hgn hFn hBn; have z2 := hBn.size; have lgn := hFn.lt_size; have hF2 := hF.below hBn; have hB2 := Below.then_ hB hBn) | ((with_reducible refine wpList_alloc (o := ⟨some 6, _, _, _, _, _⟩) rfl 105 rfl (rnL none 0 0 0 0 false 0) (by kernel_rfl) 5 rfl (by decide) ?_); intro gr w3 hgr hFr hBr; have z3 := hBr.size; have hF3 := hF2.below hBr; have hFn3 := hFn.below hBr; have hB3 := Below.then_ hB2 hBr; have c0 : w3.cell? ⟨g, 0, none⟩ = some (.int .i64 (f : Int)) := hF3.cell (j := 0) rfl; have c1 : w3.cell? ⟨g, 1, none⟩ = some (.int .i64 (m : Int)) := hF3.cell (j := 1) rfl) | (with_reducible refine wpList_load (o := ⟨some 16, _, _, _, _, _⟩) rfl (.tmp 4) 105 rfl gn 0 _ rfl (S.rL A c) 5 rfl (by kernel_rfl) hFn3.sees ?_) | ((with_reducible refine wpList_store rfl rfl (.tmp 6) (.tmp 16) 105 rfl gr 0 _ 105 5 (rnL none 0 0 0 0 false 0) (S.rL A c) rfl rfl 5 rfl (by kernel_rfl) hFr (by omega) (allOne_out (by kernel_rfl)) w hB3 (by omega) ?_); intro w9 hF9 hB9 ho9 hz9))
    exact bodyPost_cellt rfl rfl (.int .i64 2) rfl (S.rL A c) 5 rfl (by kernel_rfl) hF9.sees rfl ⟨A, c, rfl, NO _ hB9, hB9⟩
  · have d1 : decide (s < 0) = false := by simp; omega
    by_cases a2 : (m : Int) ≤ s
    · have hp : secsOk m s 1 = false := by simp [secsOk]; omega
      obtain ⟨rfl, rfl⟩ : S = T ∧ 2 = r := by rw [hp] at hr; simpa using hr
      clear hr hp hs hl2
      go_enter Try.func139, Try.ntmps139
      go_wp2_with (first | ((with_reducible refine wpList_box (o := ⟨some 3, _, _, _, _, _⟩) rfl (.tmp 0) 109 rfl (rdL (f : Int) (m : Int)) rfl 2 rfl (by decide) ?_); intro g w1 hg hF hB; have z1 := hB.size; have lg := hF.lt_size) | ((with_reducible refine wpList_box (o := ⟨some 4, _, _, _, _, _⟩) rfl (.tmp 1) 105 rfl (S.rL A c) rfl 5 rfl (by decide) ?_); intro gn w2 hgn hFn hBn; have z2 := hBn.size; have lgn := hFn.lt_size; have hF2 := hF.below hBn; have hB2 := Below.then_ hB hBn) | ((with_reducible refine wpList_alloc (o := ⟨some 6, _, _, _, _, _⟩) rfl 105 rfl (rnL none 0 0 0 0 false 0) (by kernel_rfl) 5 rfl (by decide) ?_); intro gr w3 hgr hFr hBr; have z3 := hBr.size; have hF3 := hF2.below hBr; have hFn3 := hFn.below hBr; have hB3 := Below.then_ hB2 hBr; have c0 : w3.cell? ⟨g, 0, none⟩ = some (.int .i64 (f : Int)) := hF3.cell (j := 0) rfl; have c1 : w3.cell? ⟨g, 1, none⟩ = some (.int .i64 (m : Int)) := hF3.cell (j := 1) rfl) | (with_reducible refine wpList_load (o := ⟨some 16, _, _, _, _, _⟩) rfl (.tmp 4) 105 rfl gn 0 _ rfl (S.rL A c) 5 rfl (by kernel_rfl) hFn3.sees ?_) | ((with_reducible refine wpList_store rfl rfl (.tmp 6) (.tmp 16) 105 rfl gr 0 _ 105 5 (rnL none 0 0 0 0 false 0) (S.rL A c) rfl rfl 5 rfl (by kernel_rfl) hFr (by omega) (allOne_out (by kernel_rfl)) w hB3 (by omega) ?_); intro w9 hF9 hB9 ho9 hz9))
      exact bodyPost_cellt rfl rfl (.int .i64 2) rfl (S.rL A c) 5 rfl (by kernel_rfl) hF9.sees rfl ⟨A, c, rfl, NO _ hB9, hB9⟩
    · have hp : secsOk m s 1 = true := by simp [secsOk]; omega
      have d2 : decide ((m : Int) ≤ s) = false := by simp; omega
      have ea : IntKind.i64.wrap ((f : Int) + s) = (f : Int) + s := wrapI _ (by omega) (by omega)
      have hr2 : S.erase ((f : Int) + s) = (T, r) := by rw [hp] at hr; exact hr
      have hEr := fun (w' : World) (x : Below w.heap.size w w') => rErase_any (h.step x) hl2 ((f : Int) + s) T r hr2
      clear hr hp hs hl2 hr2
      go_enter Try.func139, Try.ntmps139
      go_wp2_with (first | ((with_reducible refine wpList_box (o := ⟨some 3, _, _, _, _, _⟩) rfl (.tmp 0) 109 rfl (rdL (f : Int) (m : Int)) rfl 2 rfl (by decide) ?_); intro g w1 hg hF hB; have z1 := hB.size; have lg := hF.lt_size) | ((with_reducible refine wpList_box (o := ⟨some 4, _, _, _, _, _⟩) rfl (.tmp 1) 105 rfl (S.rL A c) rfl 5 rfl (by decide) ?_); intro gn w2 hgn hFn hBn; have z2 := hBn.size; have lgn := hFn.lt_size; have hF2 := hF.below hBn; have hB2 := Below.then_ hB hBn) | ((with_reducible refine wpList_alloc (o := ⟨some 6, _, _, _, _, _⟩) rfl 105 rfl (rnL none 0 0 0 0 false 0) (by kernel_rfl) 5 rfl (by decide) ?_); intro gr w3 hgr hFr hBr; have z3 := hBr.size; have hF3 := hF2.below hBr; have hFn3 := hFn.below hBr; have hB3 := Below.then_ hB2 hBr; have c0 : w3.cell? ⟨g, 0, none⟩ = some (.int .i64 (f : Int)) := hF3.cell (j := 0) rfl; have c1 : w3.cell? ⟨g, 1, none⟩ = some (.int .i64 (m : Int)) := hF3.cell (j := 1) rfl) | (with_reducible refine wpList_load (o := ⟨some 17, _, _, _, _, _⟩) rfl (.tmp 4) 105 rfl gn 0 _ rfl (S.rL A c) 5 rfl (by kernel_rfl) hFn3.sees ?_))
      refine (hEr w3 hB3).mono ?_
      rintro e w4 ⟨B, c2, rfl, hT4, hB4⟩
      have hR4 := hFr.below hB4
      have hB04 := Below.then_ hB3 hB4
      have z4 := hB4.size
      have lgr := hFr.lt_size
      go_wp2_with ((with_reducible refine wpList_store rfl rfl (.tmp 6) (.tmp 23) 105 rfl gr 0 _ 105 5 (rnL none 0 0 0 0 false 0) (T.rL B c2) rfl rfl 5 rfl (by kernel_rfl) hR4 (by omega) (allOne_out (by kernel_rfl)) w hB04 (by omega) ?_); intro w9 hF9 hB9 ho9 hz9)
      exact bodyPost_cellt rfl rfl (.int .i64 (r : Int)) rfl (T.rL B c2) 5 rfl (by kernel_rfl) hF9.sees rfl ⟨B, c2, rfl, RnTo.shut h hT4 hB9 hB3.size lgr ho9, hB9⟩
end
end Go.Proofs.Ytpdfalgjmeagjaa

/-
  The document's own drive, by value: Read, Blank.
-/
namespace Go.Proofs.Ytpdfalgjmeagjaa
open Go.RowKit
set_option linter.unusedVariables false

theorem sees_w1 (w : World) (e : TypeId) (C : Array Value) (c : UInt32) (hC : C = (cw [c]).toArray) : Sees (w.alloc (.cells C e)) (w.alloc (.cells C e)).heap.size (some ⟨w.heap.size, 0, none⟩) (cw [c]) := fun _ => by
  subst hC
  exact ⟨w.heap.size, 0, rfl, by simp, fun j u hu => by rw [Nat.zero_add, World.cell?_alloc_mark]; simpa using hu⟩
/-- A word of a drive is the flash's own. -/
theorem read_at {S : Fl} {f m at_ many i : Nat} (hd : S.down = false) (hl : S.ws.length = 64 * S.n) (hfm : f + m ≤ S.n) (hok : at_ + many ≤ 64 * m) (hi : i < many) :
    ∃ x : UInt32, (S.at_ f at_ many)[i]? = some x ∧ S.read ((f + (at_ + i) / 64 : Nat) : Int) (((at_ + i) % 64 : Nat) : Int) = (x, 0) := by
  have h1 : 64 * f + at_ + i < S.ws.length := by omega
  refine ⟨S.ws[64 * f + at_ + i], ?_, ?_⟩
  · rw [Fl.at_, List.getElem?_take, if_pos hi, List.getElem?_drop, List.getElem?_eq_getElem h1]
  · have hpl : S.place ((f + (at_ + i) / 64 : Nat) : Int) (((at_ + i) % 64 : Nat) : Int) 1 = true := by simp [Fl.place, Fl.sector]; omega
    unfold Fl.read
    rw [hd, hpl]
    simp only [Int.toNat_natCast]
    rw [show (f + (at_ + i) / 64) * 64 + (at_ + i) % 64 = 64 * f + at_ + i from by omega, List.getD_eq_getElem?_getD, List.getElem?_eq_getElem h1]
    rfl
section
variable {w : World} {A : Option Addr} {c : Nat} {S : Fl}
set_option maxHeartbeats 1000000 in
set_option maxRecDepth 100000 in
theorem rdRead_ok (h : RnAt w A c S) (hd : S.down = false) (f m at_ many : Nat) (hfm : f + m ≤ S.n) (hok : at_ + many ≤ 64 * m) :
    Calls Try.prog 144 #[.agg (rdL (f : Int) (m : Int)).toArray, .agg (S.rL A c).toArray, .int .i64 (at_ : Int), .int .i64 (many : Int)] w fun e w' => ∃ B d, e = .returned (.tuple #[.slice B many d, .int .i64 0]) ∧ Fresh w.heap.size 22 w' B many d (cw (S.at_ f at_ many)) ∧ Below w.heap.size w w' := by
  have hn := h.n_le
  have HR := Lib.hid (fun (i : Nat) (hi : i < many) => read_at hd h.len hfm hok hi)
  have hAl : (S.at_ f at_ many).length = many := by simp [Fl.at_, h.len]; omega
  have HAL := Lib.hid hAl
  have HX3 : Hid ((S.rL A c)[3]? = some (.bool false)) := Lib.hid (by unfold Fl.rL; rw [hd]; rfl)
  have HH := Lib.hid h
  have em : IntKind.i64.wrap ((m : Int) * 64) = (m : Int) * 64 := wrapI _ (by omega) (by omega)
  have es : IntKind.i64.wrap ((m : Int) * 64 - (at_ : Int)) = (m : Int) * 64 - (at_ : Int) := wrapI _ (by omega) (by omega)
  have d1 : decide ((m : Int) * 64 < (at_ : Int)) = false := by simp; omega
  have d2 : decide ((m : Int) * 64 - (at_ : Int) < (many : Int)) = false := by simp; omega
  generalize S.at_ f at_ many = L at *
  clear hd hAl h
  go_enter Try.func144, Try.ntmps144
  go_wp2_with (first | ((with_reducible refine wpList_box (o := ⟨some 4, _, _, _, _, _⟩) rfl (.tmp 0) 109 rfl (rdL (f : Int) (m : Int)) rfl 2 rfl (by decide) ?_); intro g w1 hg hF hB; have z1 := hB.size; have lg := hF.lt_size) | ((with_reducible refine wpList_box (o := ⟨some 5, _, _, _, _, _⟩) rfl (.tmp 1) 105 rfl (S.rL A c) rfl 5 rfl (by decide) ?_); intro gn w2 hgn hFn hBn; have z2 := hBn.size; have lgn := hFn.lt_size; have hF2 := hF.below hBn; have hB2 := Below.then_ hB hBn; have c0 : w2.cell? ⟨g, 0, none⟩ = some (.int .i64 (f : Int)) := hF2.cell (j := 0) rfl; have c1 : w2.cell? ⟨g, 1, none⟩ = some (.int .i64 (m : Int)) := hF2.cell (j := 1) rfl; have nr : w2.cell? ⟨gn, 3, none⟩ = some (.bool false) := hFn.cell (j := 3) HX3.out))
  have HB2 := Lib.hid hB2
  clear hF hB hBn nr hB2
  go_loopw [10, 11] (fun v i wr => ∃ (k : Nat) (B : Option Addr) (d : Nat), k ≤ many ∧ i = .int .i64 (k : Int) ∧ v = .slice B k d ∧ Fresh w2.heap.size 22 wr B k d (cw (L.take k)) ∧ Below w2.heap.size w2 wr) (fun _ i _ => many - (intOf i).toNat)
  case atStart => exact ⟨0, none, 0, by omega, rfl, rfl, by simpa using fresh_nil w2.heap.size 22 w2, Below.refl _ _⟩
  case round =>
    obtain ⟨k, B, d, hk, rfl, rfl, hFk, hBk⟩ := hrel
    by_cases hlt : k < many
    · obtain ⟨x, hx, hrd⟩ := HR.out k hlt
      have HX := Lib.hid hx
      have HRD := Lib.hid hrd
      clear hx hrd
      have hFd := hF2.below hBk
      have hFn2 := hFn.below hBk
      have k0 : wr.cell? ⟨g, 0, none⟩ = some (.int .i64 (f : Int)) := hFd.cell (j := 0) rfl
      have hRn := HH.out.step (Below.then_ HB2.out hBk)
      have ea : IntKind.i64.wrap ((at_ : Int) + (k : Int)) = (at_ : Int) + (k : Int) := wrapI _ (by omega) (by omega)
      have ef : IntKind.i64.wrap ((f : Int) + ((at_ : Int) + (k : Int)) / 64) = (f : Int) + ((at_ : Int) + (k : Int)) / 64 := wrapI _ (by omega) (by omega)
      have hrd : S.read ((f : Int) + ((at_ : Int) + (k : Int)) / 64) (((at_ : Int) + (k : Int)) % 64) = (x, 0) := by
        rw [show (f : Int) + ((at_ : Int) + (k : Int)) / 64 = ((f + (at_ + k) / 64 : Nat) : Int) from by omega, show ((at_ : Int) + (k : Int)) % 64 = (((at_ + k) % 64 : Nat) : Int) from by omega]
        exact HRD.out
      have hRd := rRead_any hRn _ _ (by omega) x 0 hrd
      clear hrd
      go_wp2_with (with_reducible refine wpList_load (o := ⟨some 44, _, _, _, _, _⟩) rfl (.tmp 5) 105 rfl gn 0 _ rfl (S.rL A c) 5 rfl (by kernel_rfl) hFn2.sees ?_)
      refine hRd.mono ?_
      rintro e w3 ⟨rfl, hB3⟩
      have hbs := (Below.then_ hBk hB3).size
      go_wp2_with (at_builtin; refine wpList_app32 rfl (.tmp 59) (.tmp 61) rfl B (some ⟨w3.heap.size, 0, none⟩) k d 1 1 (L.take k) [x] w2 rfl rfl ((hFk.below hB3).below ((Below.refl _ _).alloc (Nat.le_refl _) _)) (sees_w1 w3 22 _ _ rfl) rfl (by omega) ((Below.then_ hBk hB3).alloc hbs _) ?_; intro B' d' w4 hF4 hB4)
      have e2 : L.take k ++ [x] = L.take (k + 1) := by rw [List.take_add_one, HX.out]; rfl
      rw [e2] at hF4
      go_roundw
      case rel => exact ⟨k + 1, B', d', by omega, by go_num, rfl, hF4, hB4⟩
      case measure => simp [intOf]; omega
    · obtain rfl : k = many := by omega
      rw [List.take_of_length_le (by rw [HAL.out]; exact Nat.le_refl _)] at hFk
      go_wp2_with fail
      go_ret2
      exact ⟨B, d, rfl, hFk.lower HB2.out.size, Below.then_ HB2.out hBk⟩
set_option maxHeartbeats 1000000 in
set_option maxRecDepth 100000 in
theorem rdRead_no (h : RnAt w A c S) (f m : Nat) (hfm : f + m ≤ 1024) (a k : Int) (ha : a < 9223372036854775808) (hno : wordsOk m a k = false ∨ S.down = true) :
    Calls Try.prog 144 #[.agg (rdL (f : Int) (m : Int)).toArray, .agg (S.rL A c).toArray, .int .i64 a, .int .i64 k] w fun e w' => e = .returned (.tuple #[.slice none 0 0, .int .i64 (readErr S m a k : Int)]) ∧ Below w.heap.size w w' := by
  have em : IntKind.i64.wrap ((m : Int) * 64) = (m : Int) * 64 := wrapI _ (by omega) (by omega)
  obtain ⟨r, hr⟩ : ∃ r, wordsOk m a k = r := ⟨_, rfl⟩
  cases r
  · rw [show readErr S m a k = 2 from by simp [readErr, hr]]
    simp [wordsOk] at hr
    by_cases a1 : a < 0
    · clear hr hno ha
      go_enter Try.func144, Try.ntmps144
      go_wp2_with (first | ((with_reducible refine wpList_box (o := ⟨some 4, _, _, _, _, _⟩) rfl (.tmp 0) 109 rfl (rdL (f : Int) (m : Int)) rfl 2 rfl (by decide) ?_); intro g w1 hg hF hB; have z1 := hB.size; have lg := hF.lt_size) | ((with_reducible refine wpList_box (o := ⟨some 5, _, _, _, _, _⟩) rfl (.tmp 1) 105 rfl (S.rL A c) rfl 5 rfl (by decide) ?_); intro gn w2 hgn hFn hBn; have z2 := hBn.size; have lgn := hFn.lt_size; have hF2 := hF.below hBn; have hB2 := Below.then_ hB hBn; have c0 : w2.cell? ⟨g, 0, none⟩ = some (.int .i64 (f : Int)) := hF2.cell (j := 0) rfl; have c1 : w2.cell? ⟨g, 1, none⟩ = some (.int .i64 (m : Int)) := hF2.cell (j := 1) rfl))
      go_ret2
      exact ⟨rfl, hB2⟩
    · have d1 : decide (a < 0) = false := by simp; omega
      by_cases a2 : k < 0
      · clear hr hno ha
        go_enter Try.func144, Try.ntmps144
        go_wp2_with (first | ((with_reducible refine wpList_box (o := ⟨some 4, _, _, _, _, _⟩) rfl (.tmp 0) 109 rfl (rdL (f : Int) (m : Int)) rfl 2 rfl (by decide) ?_); intro g w1 hg hF hB; have z1 := hB.size; have lg := hF.lt_size) | ((with_reducible refine wpList_box (o := ⟨some 5, _, _, _, _, _⟩) rfl (.tmp 1) 105 rfl (S.rL A c) rfl 5 rfl (by decide) ?_); intro gn w2 hgn hFn hBn; have z2 := hBn.size; have lgn := hFn.lt_size; have hF2 := hF.below hBn; have hB2 := Below.then_ hB hBn; have c0 : w2.cell? ⟨g, 0, none⟩ = some (.int .i64 (f : Int)) := hF2.cell (j := 0) rfl; have c1 : w2.cell? ⟨g, 1, none⟩ = some (.int .i64 (m : Int)) := hF2.cell (j := 1) rfl))
        go_ret2
        exact ⟨rfl, hB2⟩
      · have d2 : decide (k < 0) = false := by simp; omega
        by_cases a3 : (m : Int) * 64 < a
        · clear hr hno ha
          go_enter Try.func144, Try.ntmps144
          go_wp2_with (first | ((with_reducible refine wpList_box (o := ⟨some 4, _, _, _, _, _⟩) rfl (.tmp 0) 109 rfl (rdL (f : Int) (m : Int)) rfl 2 rfl (by decide) ?_); intro g w1 hg hF hB; have z1 := hB.size; have lg := hF.lt_size) | ((with_reducible refine wpList_box (o := ⟨some 5, _, _, _, _, _⟩) rfl (.tmp 1) 105 rfl (S.rL A c) rfl 5 rfl (by decide) ?_); intro gn w2 hgn hFn hBn; have z2 := hBn.size; have lgn := hFn.lt_size; have hF2 := hF.below hBn; have hB2 := Below.then_ hB hBn; have c0 : w2.cell? ⟨g, 0, none⟩ = some (.int .i64 (f : Int)) := hF2.cell (j := 0) rfl; have c1 : w2.cell? ⟨g, 1, none⟩ = some (.int .i64 (m : Int)) := hF2.cell (j := 1) rfl))
          go_ret2
          exact ⟨rfl, hB2⟩
        · have d3 : decide ((m : Int) * 64 < a) = false := by simp; omega
          have a4 : (m : Int) * 64 - a < k := by omega
          have es : IntKind.i64.wrap ((m : Int) * 64 - a) = (m : Int) * 64 - a := wrapI _ (by omega) (by omega)
          clear hr hno ha
          go_enter Try.func144, Try.ntmps144
          go_wp2_with (first | ((with_reducible refine wpList_box (o := ⟨some 4, _, _, _, _, _⟩) rfl (.tmp 0) 109 rfl (rdL (f : Int) (m : Int)) rfl 2 rfl (by decide) ?_); intro g w1 hg hF hB; have z1 := hB.size; have lg := hF.lt_size) | ((with_reducible refine wpList_box (o := ⟨some 5, _, _, _, _, _⟩) rfl (.tmp 1) 105 rfl (S.rL A c) rfl 5 rfl (by decide) ?_); intro gn w2 hgn hFn hBn; have z2 := hBn.size; have lgn := hFn.lt_size; have hF2 := hF.below hBn; have hB2 := Below.then_ hB hBn; have c0 : w2.cell? ⟨g, 0, none⟩ = some (.int .i64 (f : Int)) := hF2.cell (j := 0) rfl; have c1 : w2.cell? ⟨g, 1, none⟩ = some (.int .i64 (m : Int)) := hF2.cell (j := 1) rfl))
          go_ret2
          exact ⟨rfl, hB2⟩
  · rw [show readErr S m a k = 40 from by simp [readErr, hr]]
    obtain hd : S.down = true := by
      rcases hno with h1 | h1
      · rw [hr] at h1; cases h1
      · exact h1
    have HX3 : Hid ((S.rL A c)[3]? = some (.bool true)) := Lib.hid (by unfold Fl.rL; rw [hd]; rfl)
    simp [wordsOk] at hr
    have d1 : decide (a < 0) = false := by simp; omega
    have d2 : decide (k < 0) = false := by simp; omega
    have d3 : decide ((m : Int) * 64 < a) = false := by simp; omega
    have d4 : decide ((m : Int) * 64 - a < k) = false := by simp; omega
    have es : IntKind.i64.wrap ((m : Int) * 64 - a) = (m : Int) * 64 - a := wrapI _ (by omega) (by omega)
    clear hr hno ha hd
    go_enter Try.func144, Try.ntmps144
    go_wp2_with (first | ((with_reducible refine wpList_box (o := ⟨some 4, _, _, _, _, _⟩) rfl (.tmp 0) 109 rfl (rdL (f : Int) (m : Int)) rfl 2 rfl (by decide) ?_); intro g w1 hg hF hB; have z1 := hB.size; have lg := hF.lt_size) | ((with_reducible refine wpList_box (o := ⟨some 5, _, _, _, _, _⟩) rfl (.tmp 1) 105 rfl (S.rL A c) rfl 5 rfl (by decide) ?_); intro gn w2 hgn hFn hBn; have z2 := hBn.size; have lgn := hFn.lt_size; have hF2 := hF.below hBn; have hB2 := Below.then_ hB hBn; have c0 : w2.cell? ⟨g, 0, none⟩ = some (.int .i64 (f : Int)) := hF2.cell (j := 0) rfl; have c1 : w2.cell? ⟨g, 1, none⟩ = some (.int .i64 (m : Int)) := hF2.cell (j := 1) rfl; have nr : w2.cell? ⟨gn, 3, none⟩ = some (.bool true) := hFn.cell (j := 3) HX3.out))
    go_ret2
    exact ⟨rfl, hB2⟩
end
end Go.Proofs.Ytpdfalgjmeagjaa

/-
  A law of our own for a statement whose order is open and whose calls write: each operation yields one value, whatever the order, and what is known of the world goes by which operations have been.
  A law of our own for a statement whose order is open, with calls and stores that write: each operation's value has a fact of its own, each step tells that the facts of the others stay, and what is known of the world goes by which operations have been.
  The law of XRegionK once more, where what is known goes by the frame too: which blocks were made in the region, and that they are not the same.
-/
namespace Go.Proofs.Ytpdfalgjmeagjaa
open Go.RowKit
set_option linter.unusedVariables false

structure KeptJ (ops : Array Oper) (val : Nat → Value) (J : Array Bool → World → Prop) (a0 : Act) (listed : Array Bool) (a : Act) (w : World) : Prop where
  lsize : listed.size = ops.size
  defers : a.defers = a0.defers
  size : a.tmps.size = a0.tmps.size
  old : ∀ t, (∀ (j : Nat) (o : Oper), ops[j]? = some o → listed.getD j false = true → o.dst ≠ some t) → a.tmps[t]? = a0.tmps[t]?
  new : ∀ (j : Nat) (o : Oper) (t : Tmp), ops[j]? = some o → o.dst = some t → listed.getD j false = true → a.tmps[t]? = some (val j)
  inv : J listed w
section
variable {P : Program} {ops : Array Oper} {Q : Exit → Act → World → Prop} {val : Nat → Value} {J : Array Bool → World → Prop} {a0 a : Act} {w w' : World} {listed : Array Bool} {o : Oper} {i : Nat}
theorem KeptJ.put (hs : slotsOk ops a0.tmps.size = true) (h : KeptJ ops val J a0 listed a w) (hi : ops[i]? = some o) (hv : J (listed.setIfInBounds i true) w') : KeptJ ops val J a0 (listed.setIfInBounds i true) (a.put o.dst (val i)) w' := by
  have k : Kept ops (fun j v _ => v = val j) a0 w listed a w := ⟨h.lsize, Below.refl _ _, h.defers, h.size, h.old, fun j oj t hj hd hl => ⟨_, h.new j oj t hj hd hl, rfl⟩⟩
  have k2 := k.put (w' := w) hs (fun _ _ _ _ _ e => e) hi rfl (Below.refl _ _)
  refine ⟨k2.lsize, k2.defers, k2.size, k2.old, fun j oj t hj hd hl => ?_, hv⟩
  obtain ⟨v, h1, h2⟩ := k2.new j oj t hj hd hl
  rw [h1, h2]
theorem KeptJ.ev_old (hk : KeptJ ops val J a0 listed a w) (t : Tmp) (h : (ops.all fun o => o.dst != some t) = true) : a.eval (.tmp t) = a0.eval (.tmp t) := by
  have := hk.old t (fun j oj hj _ hd => by
    rw [Array.all_eq_true_iff_forall_mem] at h
    have := h oj (Array.mem_of_getElem? hj)
    simp [hd] at this)
  simp [Act.eval, Array.getD_eq_getD_getElem?, this]
theorem KeptJ.ev_new (hk : KeptJ ops val J a0 listed a w) (hd : ∀ e ∈ o.after, Region.binds .any e = true → listed.getD e.on false = true) (j : Nat) (t : Tmp)
    (hj : (o.after.any fun e => e.on == j && Region.binds .any e) = true) (ht : ((ops[j]?).bind (·.dst)) = some t) : a.eval (.tmp t) = val j ∧ listed.getD j false = true := by
  obtain ⟨e, he, hb⟩ := Array.any_eq_true'.1 hj
  simp only [Bool.and_eq_true, beq_iff_eq] at hb
  obtain ⟨oj, hoj, hdj⟩ := Option.bind_eq_some_iff.1 ht
  have hl := hd e he hb.2
  rw [hb.1] at hl
  exact ⟨by simp [Act.eval, Array.getD_eq_getD_getElem?, hk.new j oj t hoj hdj hl], hl⟩
end
end Go.Proofs.Ytpdfalgjmeagjaa
namespace Go.Proofs.Ytpdfalgjmeagjaa
open Go.RowKit
set_option linter.unusedVariables false

/-- Each slot is written once, within the frame, and each operation waits for earlier ones alone, as far as it waits in every order. -/
def bindsOk (ops : Array Oper) (n : Nat) : Bool :=
  (List.range ops.size).all fun i => match ops[i]? with
    | none => true
    | some o => (match o.dst with | none => true | some t => decide (t < n) && (List.range i).all fun j => ((ops[j]?).bind (·.dst)) != some t) && o.after.all fun e => !Region.binds .any e || decide (e.on < i)
theorem bindsOk_at {ops : Array Oper} {n i : Nat} {o : Oper} (h : bindsOk ops n = true) (hi : ops[i]? = some o) :
    (∀ t, o.dst = some t → t < n ∧ ∀ j oj, j < i → ops[j]? = some oj → oj.dst ≠ some t) ∧ ∀ e ∈ o.after, Region.binds .any e = true → e.on < i := by
  have hlt : i < ops.size := (Array.getElem?_eq_some_iff.1 hi).1
  have h1 := List.all_eq_true.1 h i (List.mem_range.2 hlt)
  simp only [hi, Bool.and_eq_true] at h1
  refine ⟨fun t ht => ?_, fun e he hb => ?_⟩
  · have h2 := h1.1
    simp only [ht, Bool.and_eq_true, decide_eq_true_eq] at h2
    refine ⟨h2.1, fun j oj hj hoj hd => ?_⟩
    have h3 := List.all_eq_true.1 h2.2 j (List.mem_range.2 hj)
    simp [hoj, hd] at h3
  · have h2 := h1.2
    rw [Array.all_eq_true_iff_forall_mem] at h2
    have h3 := h2 e he
    rw [hb] at h3
    simpa using h3
theorem bindsOk_ne {ops : Array Oper} {n i j : Nat} {o oj : Oper} {t : Tmp} (h : bindsOk ops n = true) (hi : ops[i]? = some o) (hj : ops[j]? = some oj) (hne : i ≠ j) (ht : o.dst = some t) : oj.dst ≠ some t := by
  intro htj
  rcases Nat.lt_or_gt_of_ne hne with hlt | hgt
  · exact ((bindsOk_at h hj).1 t htj).2 i o hlt hi ht
  · exact ((bindsOk_at h hi).1 t ht).2 j oj hgt hj htj
structure KeptK (ops : Array Oper) (pr : Nat → Value → World → Prop) (J : Array Bool → World → Prop) (a0 : Act) (listed : Array Bool) (a : Act) (w : World) : Prop where
  lsize : listed.size = ops.size
  defers : a.defers = a0.defers
  size : a.tmps.size = a0.tmps.size
  old : ∀ t, (∀ (j : Nat) (o : Oper), ops[j]? = some o → listed.getD j false = true → o.dst ≠ some t) → a.tmps[t]? = a0.tmps[t]?
  new : ∀ (j : Nat) (o : Oper) (t : Tmp), ops[j]? = some o → o.dst = some t → listed.getD j false = true → ∃ v, a.tmps[t]? = some v ∧ pr j v w
  inv : J listed w
def StepK (P : Program) (Q : Exit → Act → World → Prop) (pr : Nat → Value → World → Prop) (J : Array Bool → World → Prop) (i : Nat) (o : Oper) (listed : Array Bool) (a : Act) (w : World) : Prop :=
  o.guard = none ∧ o.wp P a w (fun a' w' => ∃ v, a' = a.put o.dst v ∧ pr i v w' ∧ J (listed.setIfInBounds i true) w' ∧ ∀ j u, pr j u w → pr j u w') Q
section
variable {P : Program} {ops : Array Oper} {Q : Exit → Act → World → Prop} {pr : Nat → Value → World → Prop} {J : Array Bool → World → Prop} {a0 a : Act} {w w' : World} {listed : Array Bool} {o : Oper} {i : Nat} {v : Value}
theorem KeptK.put (hs : bindsOk ops a0.tmps.size = true) (h : KeptK ops pr J a0 listed a w) (hi : ops[i]? = some o) (hp : pr i v w') (hk : ∀ j u, pr j u w → pr j u w') (hJ : J (listed.setIfInBounds i true) w') : KeptK ops pr J a0 (listed.setIfInBounds i true) (a.put o.dst v) w' := by
  have hlt : i < listed.size := by rw [h.lsize]; exact (Array.getElem?_eq_some_iff.1 hi).1
  refine ⟨by simpa using h.lsize, ?_, ?_, fun t ht => ?_, fun j oj t hj hd hl => ?_, hJ⟩
  · cases hd : o.dst <;> simpa [Act.put, hd] using h.defers
  · cases hd : o.dst <;> simpa [Act.put, hd] using h.size
  · have hne := ht i o hi (by simp [hlt])
    have ht' : ∀ (j : Nat) (oj : Oper), ops[j]? = some oj → listed.getD j false = true → oj.dst ≠ some t := fun j oj hj hlj => ht j oj hj (by
      by_cases e : i = j
      · subst e; simp [hlt]
      · have hjl : j < listed.size := by rw [h.lsize]; exact (Array.getElem?_eq_some_iff.1 hj).1
        simpa [Array.getElem?_setIfInBounds, e] using hlj)
    cases hd : o.dst with
    | none => simpa [Act.put] using h.old t ht'
    | some d =>
      have : d ≠ t := fun e => hne (by rw [hd, e])
      simpa [Act.put, Array.getElem?_setIfInBounds, this] using h.old t ht'
  · by_cases e : j = i
    · subst e
      obtain rfl : oj = o := Option.some.inj (hj.symm.trans hi)
      have hlt := ((bindsOk_at hs hi).1 t hd).1
      refine ⟨v, ?_, hp⟩
      simp [Act.put, hd, h.size, hlt]
    · obtain ⟨u, hu, hp2⟩ := h.new j oj t hj hd ((getD_listed hl).resolve_left e)
      refine ⟨u, ?_, hk j u hp2⟩
      cases hd' : o.dst with
      | none => simpa [Act.put] using hu
      | some d =>
        have : d ≠ t := fun e' => bindsOk_ne hs hj hi e hd (by rw [hd', e'])
        simpa [Act.put, Array.getElem?_setIfInBounds, this] using hu
theorem KeptK.ev_old (hk : KeptK ops pr J a0 listed a w) (t : Tmp) (h : (ops.all fun o => o.dst != some t) = true) : a.eval (.tmp t) = a0.eval (.tmp t) := by
  have := hk.old t (fun j oj hj _ hd => by
    rw [Array.all_eq_true_iff_forall_mem] at h
    have := h oj (Array.mem_of_getElem? hj)
    simp [hd] at this)
  simp [Act.eval, Array.getD_eq_getD_getElem?, this]
theorem KeptK.ev_new (hk : KeptK ops pr J a0 listed a w) (hd : ∀ e ∈ o.after, Region.binds .any e = true → listed.getD e.on false = true) (j : Nat) (t : Tmp)
    (hj : (o.after.any fun e => e.on == j && Region.binds .any e) = true) (ht : ((ops[j]?).bind (·.dst)) = some t) : ∃ v, a.eval (.tmp t) = v ∧ a.tmps[t]? = some v ∧ pr j v w ∧ listed.getD j false = true := by
  obtain ⟨e, he, hb⟩ := Array.any_eq_true'.1 hj
  simp only [Bool.and_eq_true, beq_iff_eq] at hb
  obtain ⟨oj, hoj, hdj⟩ := Option.bind_eq_some_iff.1 ht
  have hl := hd e he hb.2
  rw [hb.1] at hl
  obtain ⟨v, h1, h2⟩ := hk.new j oj t hoj hdj hl
  exact ⟨v, by simp [Act.eval, Array.getD_eq_getD_getElem?, h1], h1, h2, hl⟩
theorem wpAny_keptK (hs : bindsOk ops a0.tmps.size = true)
    (step : ∀ i o, ops[i]? = some o → ∀ listed a w, KeptK ops pr J a0 listed a w → listed.getD i true = false → (∀ e ∈ o.after, Region.binds .any e = true → listed.getD e.on false = true) → StepK P Q pr J i o listed a w)
    (fin : ∀ listed a w, KeptK ops pr J a0 listed a w → (∀ j, j < ops.size → listed.getD j false = true) → Q .normal a w) :
    ∀ (fuel : Nat) (listed : Array Bool) (a : Act) (w : World), KeptK ops pr J a0 listed a w → listed.toList.count false ≤ fuel → wpAny P .any ops Q fuel listed a w := by
  have done : ∀ listed a w, KeptK ops pr J a0 listed a w → Region.ready .any ops listed = [] → Q .normal a w := by
    intro listed a w hk hr
    refine fin listed a w hk fun j => ?_
    induction j using Nat.strongRecOn with
    | _ j ih =>
      intro hj
      have hjl : j < listed.size := by rw [hk.lsize]; exact hj
      cases hl : listed.getD j false
      · exfalso
        have hl' : listed.getD j true = false := by simp [hjl] at hl ⊢; exact hl
        have hm : j ∈ Region.ready .any ops listed := mem_ready.2 ⟨hl', ops[j], Array.getElem?_eq_getElem hj, fun e he hb => by
          have hon := (bindsOk_at hs (Array.getElem?_eq_getElem hj)).2 e he hb
          exact ih e.on hon (by omega)⟩
        rw [hr] at hm
        cases hm
      · rfl
  intro fuel
  induction fuel with
  | zero =>
    intro listed a w hk hc
    have hr : Region.ready .any ops listed = [] := by
      rw [List.eq_nil_iff_forall_not_mem]
      intro i hi
      have h0 := (mem_ready.1 hi).1
      have hlt : i < listed.size := by
        rcases Nat.lt_or_ge i listed.size with h | h
        · exact h
        · simp [Array.getElem?_eq_none h] at h0
      have hmem : false ∈ listed.toList := by
        simp [hlt] at h0
        rw [← h0]
        simp
      have := List.count_pos_iff.2 hmem
      omega
    exact ⟨hr, done listed a w hk hr⟩
  | succ fuel ih =>
    intro listed a w hk hc
    refine ⟨done listed a w hk, fun i hi => ?_⟩
    obtain ⟨h0, o, ho, hdep⟩ := mem_ready.1 hi
    have hlt : i < listed.size := by rw [hk.lsize]; exact (Array.getElem?_eq_some_iff.1 ho).1
    have hcount : (listed.setIfInBounds i true).toList.count false ≤ fuel := by
      rw [Array.toList_setIfInBounds, List.count_set (by simpa using hlt)]
      have hf : listed.toList[i]'(by simpa using hlt) = false := by simpa [hlt] using h0
      have hp : 0 < listed.toList.count false := List.count_pos_iff.2 (by rw [← hf]; exact List.getElem_mem _)
      rw [hf]
      simp only [beq_self_eq_true, if_true]
      show _ - 1 + 0 ≤ fuel
      omega
    obtain ⟨hg, hst⟩ := step i o ho listed a w hk h0 hdep
    have hw : Region.wanted o (yielded ops a.tmps) = true := by simp [Region.wanted, hg]
    unfold wpOp
    simp only [ho]
    rw [if_pos hw]
    refine .inl (Oper.wp_mono ?_ hst)
    rintro a' w' ⟨v, rfl, hp, hv, hst2⟩
    exact ih _ _ _ (hk.put hs ho hp hst2 hv) hcount
theorem deps_all (hd : ∀ e ∈ o.after, Region.binds .any e = true → listed.getD e.on false = true) (n : Nat) (h : ((List.range n).all fun j => o.after.any fun e => e.on == j && Region.binds .any e) = true) : ∀ j, j < n → listed.getD j false = true := by
  intro j hj
  have h1 := List.all_eq_true.1 h j (List.mem_range.2 hj)
  obtain ⟨e, he, hb⟩ := Array.any_eq_true'.1 h1
  simp only [Bool.and_eq_true, beq_iff_eq] at hb
  have hl := hd e he hb.2
  rwa [hb.1] at hl
theorem stepK_value (hg : o.guard = none) (hrun : (execOp a.eval o).run P w = .ok (.value v) w) (hp : pr i v w) (hJ : J (listed.setIfInBounds i true) w) : StepK P Q pr J i o listed a w := by
  refine ⟨hg, ?_⟩
  unfold Oper.wp
  rw [hrun]
  exact ⟨v, rfl, hp, hJ, fun _ _ h => h⟩
theorem stepK_skip (hg : o.guard = none) (hd : o.dst = none) (hrun : (execOp a.eval o).run P w = .ok .skip w') (hp : pr i undef w') (hJ : J (listed.setIfInBounds i true) w') (hst : ∀ j u, pr j u w → pr j u w') : StepK P Q pr J i o listed a w := by
  refine ⟨hg, ?_⟩
  unfold Oper.wp
  rw [hrun]
  exact ⟨undef, by rw [hd], hp, hJ, hst⟩
theorem stepK_enter {f : FuncId} {args : Array Value} (hg : o.guard = none) (hrun : (execOp a.eval o).run P w = .ok (.enter f args) w)
    (hc : Calls P f args w fun e w' => ∃ v, e = .returned v ∧ pr i v w' ∧ J (listed.setIfInBounds i true) w' ∧ ∀ j u, pr j u w → pr j u w') : StepK P Q pr J i o listed a w := by
  refine ⟨hg, ?_⟩
  unfold Oper.wp
  rw [hrun]
  refine hc.mono ?_
  rintro e w' ⟨v, rfl, h⟩
  exact ⟨v, rfl, h⟩
theorem region_K {id : Nat} {l : List Oper} (pr : Nat → Value → World → Prop) (J : Array Bool → World → Prop) (hm : P.follows .mixedOrders = true) (hs : bindsOk l.toArray a0.tmps.size = true)
    (h0 : J (Array.replicate l.toArray.size false) { w with drawn := w.drawn + 1 })
    (step : AllSteps (fun i o => ∀ listed a w', KeptK l.toArray pr J a0 listed a w' → listed.getD i true = false → (∀ e ∈ o.after, Region.binds .any e = true → listed.getD e.on false = true) → StepK P Q pr J i o listed a w') 0 l)
    (fin : ∀ listed a w', J listed w' → (∀ j, j < l.toArray.size → listed.getD j false = true) → PutsTo pr w' 0 l a0 a → Q .normal a w') : (Code.region id l.toArray true).wp P Q a0 w := by
  refine wp_region_any hm ?_
  refine wpAny_keptK (pr := pr) (J := J) hs (fun i o hi listed a w' hk h1 h2 => ?_) (fun listed a w' hk hall => ?_) l.toArray.size _ a0 _ ⟨by simp, rfl, rfl, fun _ _ => rfl, fun j o t _ _ hl => ?_, h0⟩ ?_
  · have := allSteps_get l 0 step i o (by simpa using hi)
    rw [Nat.zero_add] at this
    exact this listed a w' hk h1 h2
  · refine fin listed a w' hk.inv hall ?_
    have k : Kept l.toArray pr a0 w' listed a w' := ⟨hk.lsize, Below.refl _ _, hk.defers, hk.size, hk.old, fun j oj t hj hd hl => hk.new j oj t hj hd hl⟩
    have := k.puts l.length (fun j hj => hall j (by simpa using hj)) (fun j hj => by
      have h1 : listed.size ≤ j := by rw [hk.lsize]; simpa using hj
      simp [h1])
    rwa [List.take_length] at this
  · rw [getD_replicate_false] at hl
    cases hl
  · simp
end
end Go.Proofs.Ytpdfalgjmeagjaa
namespace Go.Proofs.Ytpdfalgjmeagjaa
open Go.RowKit
set_option linter.unusedVariables false

structure KeptL (ops : Array Oper) (pr : Nat → Value → World → Prop) (J : Array Bool → Act → World → Prop) (a0 : Act) (listed : Array Bool) (a : Act) (w : World) : Prop where
  lsize : listed.size = ops.size
  defers : a.defers = a0.defers
  size : a.tmps.size = a0.tmps.size
  old : ∀ t, (∀ (j : Nat) (o : Oper), ops[j]? = some o → listed.getD j false = true → o.dst ≠ some t) → a.tmps[t]? = a0.tmps[t]?
  new : ∀ (j : Nat) (o : Oper) (t : Tmp), ops[j]? = some o → o.dst = some t → listed.getD j false = true → ∃ v, a.tmps[t]? = some v ∧ pr j v w
  inv : J listed a w
section
variable {P : Program} {ops : Array Oper} {Q : Exit → Act → World → Prop} {pr : Nat → Value → World → Prop} {J : Array Bool → Act → World → Prop} {a0 a : Act} {w w' : World} {listed : Array Bool} {o : Oper} {i : Nat} {v : Value}
theorem KeptL.put (hs : bindsOk ops a0.tmps.size = true) (h : KeptL ops pr J a0 listed a w) (hi : ops[i]? = some o) (hp : pr i v w') (hk : ∀ j u, pr j u w → pr j u w') (hJ : J (listed.setIfInBounds i true) (a.put o.dst v) w') : KeptL ops pr J a0 (listed.setIfInBounds i true) (a.put o.dst v) w' := by
  have hlt : i < listed.size := by rw [h.lsize]; exact (Array.getElem?_eq_some_iff.1 hi).1
  refine ⟨by simpa using h.lsize, ?_, ?_, fun t ht => ?_, fun j oj t hj hd hl => ?_, hJ⟩
  · cases hd : o.dst <;> simpa [Act.put, hd] using h.defers
  · cases hd : o.dst <;> simpa [Act.put, hd] using h.size
  · have hne := ht i o hi (by simp [hlt])
    have ht' : ∀ (j : Nat) (oj : Oper), ops[j]? = some oj → listed.getD j false = true → oj.dst ≠ some t := fun j oj hj hlj => ht j oj hj (by
      by_cases e : i = j
      · subst e; simp [hlt]
      · have hjl : j < listed.size := by rw [h.lsize]; exact (Array.getElem?_eq_some_iff.1 hj).1
        simpa [Array.getElem?_setIfInBounds, e] using hlj)
    cases hd : o.dst with
    | none => simpa [Act.put] using h.old t ht'
    | some d =>
      have : d ≠ t := fun e => hne (by rw [hd, e])
      simpa [Act.put, Array.getElem?_setIfInBounds, this] using h.old t ht'
  · by_cases e : j = i
    · subst e
      obtain rfl : oj = o := Option.some.inj (hj.symm.trans hi)
      have hlt := ((bindsOk_at hs hi).1 t hd).1
      refine ⟨v, ?_, hp⟩
      simp [Act.put, hd, h.size, hlt]
    · obtain ⟨u, hu, hp2⟩ := h.new j oj t hj hd ((getD_listed hl).resolve_left e)
      refine ⟨u, ?_, hk j u hp2⟩
      cases hd' : o.dst with
      | none => simpa [Act.put] using hu
      | some d =>
        have : d ≠ t := fun e' => bindsOk_ne hs hj hi e hd (by rw [hd', e'])
        simpa [Act.put, Array.getElem?_setIfInBounds, this] using hu
theorem KeptL.ev_old (hk : KeptL ops pr J a0 listed a w) (t : Tmp) (h : (ops.all fun o => o.dst != some t) = true) : a.eval (.tmp t) = a0.eval (.tmp t) := by
  have := hk.old t (fun j oj hj _ hd => by
    rw [Array.all_eq_true_iff_forall_mem] at h
    have := h oj (Array.mem_of_getElem? hj)
    simp [hd] at this)
  simp [Act.eval, Array.getD_eq_getD_getElem?, this]
theorem KeptL.ev_new (hk : KeptL ops pr J a0 listed a w) (hd : ∀ e ∈ o.after, Region.binds .any e = true → listed.getD e.on false = true) (j : Nat) (t : Tmp)
    (hj : (o.after.any fun e => e.on == j && Region.binds .any e) = true) (ht : ((ops[j]?).bind (·.dst)) = some t) : ∃ v, a.eval (.tmp t) = v ∧ a.tmps[t]? = some v ∧ pr j v w ∧ listed.getD j false = true := by
  obtain ⟨e, he, hb⟩ := Array.any_eq_true'.1 hj
  simp only [Bool.and_eq_true, beq_iff_eq] at hb
  obtain ⟨oj, hoj, hdj⟩ := Option.bind_eq_some_iff.1 ht
  have hl := hd e he hb.2
  rw [hb.1] at hl
  obtain ⟨v, h1, h2⟩ := hk.new j oj t hoj hdj hl
  exact ⟨v, by simp [Act.eval, Array.getD_eq_getD_getElem?, h1], h1, h2, hl⟩
end
end Go.Proofs.Ytpdfalgjmeagjaa
