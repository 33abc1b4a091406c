/-
  The document's own flash, by value: what its small calls answer.
  The document's own flash, by value: words of its own, whether words have place, a word read.
  The document's own flash, by value: Program, word by word.
  The document's own flash, by value: Rewrite.
  The document's own flash, by value: Erase.
  The document's own flash, by value: Crash.
  The document's own flash, by value: New.
  Whether a flash is as the document's own one: where both are the same flash, it is.
-/
import Derived.Test.YtpdfalgjmeagjaaCpB01
import Derived.Test.YtpdfalgjmeagjaaCpB05
import Derived.Test.YtpdfalgjmeagjaaCpB04
import Derived.Test.YtpdfalgjmeagjaaCpB07
import Derived.Laws.ResultCell
namespace Go.Proofs.Ytpdfalgjmeagjaa
open Go.RowKit
set_option linter.unusedVariables false

/-- How many steps there are, as the document's own flash writes it. -/
def Fl.leftR (S : Fl) : Int := match S.armed with
  | true => (S.left : Int)
  | false => -1
/-- The cells of the document's own flash. -/
def rnL (A : Option Addr) (n c : Nat) (G L : Int) (D : Bool) (H : Int) : List Value := [.slice A n c, .int .i64 G, .int .i64 L, .bool D, .int .i64 H]
def Fl.rL (S : Fl) (A : Option Addr) (c : Nat) : List Value := rnL A (64 * S.n) c S.guard S.leftR S.down S.half
/-- The words of a flash lie here. -/
structure RnAt (w : World) (A : Option Addr) (c : Nat) (S : Fl) : Prop where
  sees : Sees w w.heap.size A (cw S.ws)
  len : S.ws.length = 64 * S.n
  n_le : S.n ≤ 1024
  cap : 64 * S.n ≤ c
theorem RnAt.step {w w' : World} {A : Option Addr} {c : Nat} {S : Fl} (h : RnAt w A c S) (x : Below w.heap.size w w') : RnAt w' A c S := ⟨h.sees.step x, h.len, h.n_le, h.cap⟩
/-- Two results: one in memory of this call's own, one beside it. -/
theorem bodyPost_cellt {P : Program} {a : Act} {w : World} {fn : Func} {R : Ending → World → Prop} {p q : Tmp} {T : TypeId} {g B off : Nat} (hr : fn.results = #[.cell p T, .tmp q]) (hp : a.tmps.getD p undef = .pointer (some ⟨g, off, none⟩)) (u : Value) (hq : a.tmps.getD q undef = u) (xs : List Value) (n : Nat) (hn : xs.length = n) (hT : aggB P T n = true) (hs : Sees w B (some ⟨g, off, none⟩) xs)
    (hd : a.defers = []) (hR : R (.returned (.tuple #[.agg xs.toArray, u])) w) : bodyPost P fn R .ret a w := by
  subst hn
  refine ⟨hd, _, ?_, hR⟩
  rw [results_cell_tmp hr, hp, hq]
  simp [asAddr, run_loadVar_sees T xs hT hs]
section
variable {w : World} {A : Option Addr} {c : Nat} {S : Fl}
theorem rSectors_any (n : Nat) (hn : n ≤ 1024) (G L : Int) (D : Bool) (H : Int) (w : World) :
    Calls Try.prog 138 #[.agg (rnL A (64 * n) c G L D H).toArray] w fun e w' => e = .returned (.int .i64 (n : Int)) ∧ Below w.heap.size w w' := by
  have e2 : (64 * (n : Int)) / 64 = (n : Int) := by omega
  go_enter Try.func138, Try.ntmps138
  go_wp2_with (with_reducible refine wpList_box (o := ⟨some 1, _, _, _, _, _⟩) rfl (.tmp 0) 105 rfl (rnL A (64 * n) c G L D H) rfl 5 rfl (by decide) ?_; intro g w1 hg hF hB; have c0 := hF.cell (j := 0) rfl)
  go_ret
  exact ⟨rfl, hB⟩
theorem rn_other (w : World) (a : Addr) (u : Value) : ∀ k, k ≠ a.block → (w.setCell a u).heap[k]? = w.heap[k]? := fun k hk => by
  simp only [World.setCell, Array.getElem?_modify]
  rw [if_neg (Ne.symm hk)]
set_option maxHeartbeats 1000000 in
theorem rArm_any (k : Int) (S : Fl) (w : World) :
    Calls Try.prog 59 #[.agg (S.rL A c).toArray, .int .i64 k] w fun e w' => e = .returned (.agg ((S.arm k).rL A c).toArray) ∧ Below w.heap.size w w' := by
  cases hd : S.down
  · rw [show S.arm k = { S with armed := true, left := k.toNat } from by simp [Fl.arm, hd]]
    have hc3 : S.rL A c = rnL A (64 * S.n) c S.guard S.leftR false S.half := by unfold Fl.rL; rw [hd]
    have hc4 : Fl.rL { S with armed := true, left := k.toNat } A c = rnL A (64 * S.n) c S.guard (k.toNat : Int) false S.half := by unfold Fl.rL Fl.leftR; simp only [hd]
    rw [hc3, hc4]
    clear hc3 hc4 hd
    generalize S.leftR = L
    by_cases hk : k < 0
    · rw [show (k.toNat : Int) = 0 from by omega]
      go_enter Try.func59, Try.ntmps59
      go_wp2_with (first
          | (with_reducible refine wpList_box (o := ⟨some 2, _, _, _, _, _⟩) rfl (.tmp 0) 105 rfl (rnL A (64 * S.n) c S.guard L false S.half) rfl 5 rfl (by decide) ?_; intro g w1 hg hF hB; have z1 := hB.size; have lg := hF.lt_size)
          | (with_reducible refine wpList_alloc (o := ⟨some 4, _, _, _, _, _⟩) rfl 105 rfl (rnL none 0 0 0 0 false 0) (by kernel_rfl) 5 rfl (by decide) ?_; intro gr w2 hgr hFr hBr; have z2 := hBr.size; have gne : gr ≠ g := (by omega); have hF2 := hF.below hBr; have hB2 := Below.then_ hB hBr; have c2 := hF2.cell (j := 2) rfl; have c3 := hF2.cell (j := 3) rfl; have f2 : w2.frozen? ⟨g, 2, none⟩ = false := hF2.frozenAt)
          | (with_reducible refine wpList_load (o := ⟨some 13, _, _, _, _, _⟩) rfl (.tmp 2) 105 rfl g 0 _ rfl (rnL A (64 * S.n) c S.guard 0 false S.half) 5 rfl (by kernel_rfl) ((hF2.store 2 (.int .i64 k)).store 2 (.int .i64 0)).sees ?_)
          | (with_reducible refine wpList_store rfl rfl (.tmp 4) (.tmp 13) 105 rfl gr 0 w1.heap.size 105 5 (rnL none 0 0 0 0 false 0) (rnL A (64 * S.n) c S.guard 0 false S.half) rfl rfl 5 rfl (by kernel_rfl) ((hFr.other gne (rn_other w2 ⟨g, 2, none⟩ (.int .i64 k))).other gne (rn_other _ ⟨g, 2, none⟩ (.int .i64 0))) (by omega) (allOne_out (by kernel_rfl)) w ((hB2.setCell (p := ⟨g, 2, none⟩) hg _).setCell (p := ⟨g, 2, none⟩) hg _) (by omega) ?_; intro w9 hF9 hB9 _ _))
      exact bodyPost_cell rfl rfl (rnL A (64 * S.n) c S.guard 0 false S.half) 5 rfl (by kernel_rfl) hF9.sees rfl ⟨rfl, hB9⟩
    · rw [show (k.toNat : Int) = k from by omega]
      go_enter Try.func59, Try.ntmps59
      go_wp2_with (first
          | (with_reducible refine wpList_box (o := ⟨some 2, _, _, _, _, _⟩) rfl (.tmp 0) 105 rfl (rnL A (64 * S.n) c S.guard L false S.half) rfl 5 rfl (by decide) ?_; intro g w1 hg hF hB; have z1 := hB.size; have lg := hF.lt_size)
          | (with_reducible refine wpList_alloc (o := ⟨some 4, _, _, _, _, _⟩) rfl 105 rfl (rnL none 0 0 0 0 false 0) (by kernel_rfl) 5 rfl (by decide) ?_; intro gr w2 hgr hFr hBr; have z2 := hBr.size; have gne : gr ≠ g := (by omega); have hF2 := hF.below hBr; have hB2 := Below.then_ hB hBr; have c2 := hF2.cell (j := 2) rfl; have c3 := hF2.cell (j := 3) rfl; have f2 : w2.frozen? ⟨g, 2, none⟩ = false := hF2.frozenAt)
          | (with_reducible refine wpList_load (o := ⟨some 13, _, _, _, _, _⟩) rfl (.tmp 2) 105 rfl g 0 _ rfl (rnL A (64 * S.n) c S.guard k false S.half) 5 rfl (by kernel_rfl) (hF2.store 2 (.int .i64 k)).sees ?_)
          | (with_reducible refine wpList_store rfl rfl (.tmp 4) (.tmp 13) 105 rfl gr 0 w1.heap.size 105 5 (rnL none 0 0 0 0 false 0) (rnL A (64 * S.n) c S.guard k false S.half) rfl rfl 5 rfl (by kernel_rfl) (hFr.other gne (rn_other w2 ⟨g, 2, none⟩ (.int .i64 k))) (by omega) (allOne_out (by kernel_rfl)) w (hB2.setCell (p := ⟨g, 2, none⟩) hg _) (by omega) ?_; intro w9 hF9 hB9 _ _))
      exact bodyPost_cell rfl rfl (rnL A (64 * S.n) c S.guard k false S.half) 5 rfl (by kernel_rfl) hF9.sees rfl ⟨rfl, hB9⟩
  · rw [show S.arm k = S from by simp [Fl.arm, hd]]
    have hc3 : S.rL A c = rnL A (64 * S.n) c S.guard S.leftR true S.half := by unfold Fl.rL; rw [hd]
    rw [hc3]
    clear hc3 hd
    generalize S.leftR = L
    go_enter Try.func59, Try.ntmps59
    go_wp2_with (first
        | (with_reducible refine wpList_box (o := ⟨some 2, _, _, _, _, _⟩) rfl (.tmp 0) 105 rfl (rnL A (64 * S.n) c S.guard L true S.half) rfl 5 rfl (by decide) ?_; intro g w1 hg hF hB; have z1 := hB.size; have lg := hF.lt_size)
        | (with_reducible refine wpList_alloc (o := ⟨some 4, _, _, _, _, _⟩) rfl 105 rfl (rnL none 0 0 0 0 false 0) (by kernel_rfl) 5 rfl (by decide) ?_; intro gr w2 hgr hFr hBr; have z2 := hBr.size; have gne : gr ≠ g := (by omega); have hF2 := hF.below hBr; have hB2 := Below.then_ hB hBr; have c3 := hF2.cell (j := 3) rfl)
        | (with_reducible refine wpList_load (o := ⟨some 7, _, _, _, _, _⟩) rfl (.tmp 2) 105 rfl g 0 _ rfl (rnL A (64 * S.n) c S.guard L true S.half) 5 rfl (by kernel_rfl) hF2.sees ?_)
        | (with_reducible refine wpList_store rfl rfl (.tmp 4) (.tmp 7) 105 rfl gr 0 w1.heap.size 105 5 (rnL none 0 0 0 0 false 0) (rnL A (64 * S.n) c S.guard L true S.half) rfl rfl 5 rfl (by kernel_rfl) hFr (by omega) (allOne_out (by kernel_rfl)) w hB2 (by omega) ?_; intro w9 hF9 hB9 _ _))
    exact bodyPost_cell rfl rfl (rnL A (64 * S.n) c S.guard L true S.half) 5 rfl (by kernel_rfl) hF9.sees rfl ⟨rfl, hB9⟩
set_option maxHeartbeats 1000000 in
theorem rstep_any (n : Nat) (ws : List UInt32) (G : Int) (ar : Bool) (left : Nat) (D : Bool) (H : Int) (hl : left < 9223372036854775808) (T : Fl) (b : Bool) (hr : Fl.step ⟨n, ws, G, ar, left, D, H⟩ = (T, b)) (w : World) :
    Calls Try.prog 205 #[.agg (Fl.rL ⟨n, ws, G, ar, left, D, H⟩ A c).toArray] w fun e w' => e = .returned (.tuple #[.agg (T.rL A c).toArray, .bool b]) ∧ Below w.heap.size w w' := by
  cases ar
  · obtain ⟨rfl, rfl⟩ : (⟨n, ws, G, false, left, D, H⟩ : Fl) = T ∧ true = b := by simpa [Fl.step] using hr
    rw [show Fl.rL ⟨n, ws, G, false, left, D, H⟩ A c = rnL A (64 * n) c G (-1) D H from rfl]
    clear hr hl
    go_enter Try.func205, Try.ntmps205
    go_wp2_with (first
        | (with_reducible refine wpList_box (o := ⟨some 1, _, _, _, _, _⟩) rfl (.tmp 0) 105 rfl (rnL A (64 * n) c G (-1) D H) rfl 5 rfl (by decide) ?_; intro g w1 hg hF hB; have z1 := hB.size; have lg := hF.lt_size)
        | (with_reducible refine wpList_alloc (o := ⟨some 2, _, _, _, _, _⟩) rfl 105 rfl (rnL none 0 0 0 0 false 0) (by kernel_rfl) 5 rfl (by decide) ?_; intro gr w2 hgr hFr hBr; have z2 := hBr.size; have gne : gr ≠ g := (by omega); have hF2 := hF.below hBr; have hB2 := Below.then_ hB hBr; have c2 := hF2.cell (j := 2) rfl)
        | (with_reducible refine wpList_load (o := ⟨some 17, _, _, _, _, _⟩) rfl (.tmp 1) 105 rfl g 0 _ rfl (rnL A (64 * n) c G (-1) D H) 5 rfl (by kernel_rfl) hF2.sees ?_)
        | (with_reducible refine wpList_store rfl rfl (.tmp 2) (.tmp 17) 105 rfl gr 0 w1.heap.size 105 5 (rnL none 0 0 0 0 false 0) (rnL A (64 * n) c G (-1) D H) rfl rfl 5 rfl (by kernel_rfl) hFr (by omega) (allOne_out (by kernel_rfl)) w hB2 (by omega) ?_; intro w9 hF9 hB9 _ _))
    exact bodyPost_cellt rfl rfl (.bool true) rfl (rnL A (64 * n) c G (-1) D H) 5 rfl (by kernel_rfl) hF9.sees rfl ⟨rfl, hB9⟩
  · rcases left with _ | left
    · obtain ⟨rfl, rfl⟩ : (⟨n, ws, G, false, 0, true, H⟩ : Fl) = T ∧ false = b := by simpa [Fl.step] using hr
      rw [show Fl.rL ⟨n, ws, G, true, 0, D, H⟩ A c = rnL A (64 * n) c G 0 D H from rfl, show Fl.rL ⟨n, ws, G, false, 0, true, H⟩ A c = rnL A (64 * n) c G (-1) true H from rfl]
      clear hr hl
      go_enter Try.func205, Try.ntmps205
      go_wp2_with (first
          | (with_reducible refine wpList_box (o := ⟨some 1, _, _, _, _, _⟩) rfl (.tmp 0) 105 rfl (rnL A (64 * n) c G 0 D H) rfl 5 rfl (by decide) ?_; intro g w1 hg hF hB; have z1 := hB.size; have lg := hF.lt_size)
          | (with_reducible refine wpList_alloc (o := ⟨some 2, _, _, _, _, _⟩) rfl 105 rfl (rnL none 0 0 0 0 false 0) (by kernel_rfl) 5 rfl (by decide) ?_; intro gr w2 hgr hFr hBr; have z2 := hBr.size; have gne : gr ≠ g := (by omega); have hF2 := hF.below hBr; have hB2 := Below.then_ hB hBr; have c2 := hF2.cell (j := 2) rfl; have f2 : w2.frozen? ⟨g, 2, none⟩ = false := hF2.frozenAt; have d3 := (hF2.store 2 (.int .i64 (-1))).cell (j := 3) rfl; have f3 : (w2.setCell ⟨g, 2, none⟩ (.int .i64 (-1))).frozen? ⟨g, 3, none⟩ = false := (hF2.store 2 (.int .i64 (-1))).frozenAt)
          | (with_reducible refine wpList_load (o := ⟨some 9, _, _, _, _, _⟩) rfl (.tmp 1) 105 rfl g 0 _ rfl (rnL A (64 * n) c G (-1) true H) 5 rfl (by kernel_rfl) ((hF2.store 2 (.int .i64 (-1))).store 3 (.bool true)).sees ?_)
          | (with_reducible refine wpList_store rfl rfl (.tmp 2) (.tmp 9) 105 rfl gr 0 w1.heap.size 105 5 (rnL none 0 0 0 0 false 0) (rnL A (64 * n) c G (-1) true H) rfl rfl 5 rfl (by kernel_rfl) ((hFr.other gne (rn_other w2 ⟨g, 2, none⟩ (.int .i64 (-1)))).other gne (rn_other _ ⟨g, 3, none⟩ (.bool true))) (by omega) (allOne_out (by kernel_rfl)) w ((hB2.setCell (p := ⟨g, 2, none⟩) hg _).setCell (p := ⟨g, 3, none⟩) hg _) (by omega) ?_; intro w9 hF9 hB9 _ _))
      exact bodyPost_cellt rfl rfl (.bool false) rfl (rnL A (64 * n) c G (-1) true H) 5 rfl (by kernel_rfl) hF9.sees rfl ⟨rfl, hB9⟩
    · obtain ⟨rfl, rfl⟩ : (⟨n, ws, G, true, left, D, H⟩ : Fl) = T ∧ true = b := by simpa [Fl.step] using hr
      rw [show Fl.rL ⟨n, ws, G, true, left + 1, D, H⟩ A c = rnL A (64 * n) c G ((left : Int) + 1) D H from rfl, show Fl.rL ⟨n, ws, G, true, left, D, H⟩ A c = rnL A (64 * n) c G (left : Int) D H from rfl]
      have ew : IntKind.i64.wrap ((left : Int) + 1 - 1) = (left : Int) := by rw [wrapI _ (by omega) (by omega)]; omega
      have q1 : ¬ ((left : Int) + 1 = 0) := by omega
      have q2 : (0 : Int) < (left : Int) + 1 := by omega
      clear hr
      go_enter Try.func205, Try.ntmps205
      go_wp2_with (first
          | (with_reducible refine wpList_box (o := ⟨some 1, _, _, _, _, _⟩) rfl (.tmp 0) 105 rfl (rnL A (64 * n) c G ((left : Int) + 1) D H) rfl 5 rfl (by decide) ?_; intro g w1 hg hF hB; have z1 := hB.size; have lg := hF.lt_size)
          | (with_reducible refine wpList_alloc (o := ⟨some 2, _, _, _, _, _⟩) rfl 105 rfl (rnL none 0 0 0 0 false 0) (by kernel_rfl) 5 rfl (by decide) ?_; intro gr w2 hgr hFr hBr; have z2 := hBr.size; have gne : gr ≠ g := (by omega); have hF2 := hF.below hBr; have hB2 := Below.then_ hB hBr; have c2 := hF2.cell (j := 2) rfl; have f2 : w2.frozen? ⟨g, 2, none⟩ = false := hF2.frozenAt)
          | (with_reducible refine wpList_load (o := ⟨some 17, _, _, _, _, _⟩) rfl (.tmp 1) 105 rfl g 0 _ rfl (rnL A (64 * n) c G (left : Int) D H) 5 rfl (by kernel_rfl) (hF2.store 2 (.int .i64 (left : Int))).sees ?_)
          | (with_reducible refine wpList_store rfl rfl (.tmp 2) (.tmp 17) 105 rfl gr 0 w1.heap.size 105 5 (rnL none 0 0 0 0 false 0) (rnL A (64 * n) c G (left : Int) D H) rfl rfl 5 rfl (by kernel_rfl) (hFr.other gne (rn_other w2 ⟨g, 2, none⟩ (.int .i64 (left : Int)))) (by omega) (allOne_out (by kernel_rfl)) w (hB2.setCell (p := ⟨g, 2, none⟩) hg _) (by omega) ?_; intro w9 hF9 hB9 _ _))
      exact bodyPost_cellt rfl rfl (.bool true) rfl (rnL A (64 * n) c G (left : Int) D H) 5 rfl (by kernel_rfl) hF9.sees rfl ⟨rfl, hB9⟩
end
end Go.Proofs.Ytpdfalgjmeagjaa
namespace Go.Proofs.Ytpdfalgjmeagjaa
open Go.RowKit
set_option linter.unusedVariables false

theorem RnAt.fresh {w : World} {base : Nat} {e : TypeId} {A : Option Addr} {c : Nat} {S : Fl} (h : Fresh base e w A (64 * S.n) c (cw S.ws)) (hl : S.ws.length = 64 * S.n) (hn : S.n ≤ 1024) : RnAt w A c S := ⟨h.sees, hl, hn, h.cap.1⟩
theorem Fresh.apart {w w' : World} {base : Nat} {e : TypeId} {A : Option Addr} {n c : Nat} {xs : List Value} (h : Fresh base e w A n c xs) (hk : ∀ k, base ≤ k → w'.heap[k]? = w.heap[k]?) : Fresh base e w' A n c xs := by
  refine ⟨h.1, ?_⟩
  rcases h.2 with h1 | ⟨g, cap, cur, hv, hg, hh, hr⟩
  · exact .inl h1
  · exact .inr ⟨g, cap, cur, hv, hg, by rw [hk g hg]; exact hh, hr⟩
/-- What a call that tells a flash anew leaves: the words lie where they lay, or in memory that was made in this call. -/
structure RnTo (w w' : World) (A B : Option Addr) (c c2 : Nat) (S T : Fl) : Prop where
  at_ : RnAt w' B c2 T
  from_ : (B = A ∧ c2 = c ∧ T.ws = S.ws ∧ T.n = S.n) ∨ Fresh w.heap.size 22 w' B (64 * T.n) c2 (cw T.ws)
section
variable {w : World} {A : Option Addr} {c : Nat} {S : Fl}
set_option maxHeartbeats 1000000 in
theorem rown_any (h : RnAt w A c S) : Calls Try.prog 143 #[.agg (S.rL A c).toArray] w fun e w' => ∃ B c2, e = .returned (.agg (S.rL B c2).toArray) ∧ Fresh w.heap.size 22 w' B (64 * S.n) c2 (cw S.ws) ∧ Below w.heap.size w w' := by
  obtain ⟨hs, hl, hn, hc⟩ := h
  have HL := Lib.hid hl
  unfold Fl.rL
  revert hs HL
  generalize S.leftR = L
  generalize S.guard = G
  generalize S.down = D
  generalize S.half = H
  generalize S.ws = ws
  obtain ⟨m, hm⟩ : ∃ m, 64 * S.n = m := ⟨_, rfl⟩
  have hm2 : m ≤ 65536 := by omega
  rw [hm]
  clear hl hn hc hm
  intro hs HL
  go_enter Try.func143, Try.ntmps143
  go_wp2_with (first
    | (with_reducible refine wpList_box (o := ⟨some 1, _, _, _, _, _⟩) rfl (.tmp 0) 105 rfl (rnL A m c G L D H) rfl 5 rfl (by decide) ?_; intro g w1 hg hF hB; have z1 := hB.size; have lg := hF.lt_size)
    | (with_reducible refine wpList_alloc (o := ⟨some 2, _, _, _, _, _⟩) rfl 105 rfl (rnL none 0 0 0 0 false 0) (by kernel_rfl) 5 rfl (by decide) ?_; intro gr w2 hgr hFr hBr; have z2 := hBr.size; have gne : gr ≠ g := (by omega); have hF2 := hF.below hBr; have hB2 := Below.then_ hB hBr; have c0 := hF2.cell (j := 0) rfl; have hs2 := hs.step hB2)
    | (at_builtin; refine wpList_app32 rfl (.tmp 4) (.tmp 6) rfl none A 0 0 m c [] ws w2 rfl rfl (fresh_nil _ _ _) hs2 HL.out (by omega) (Below.refl _ _) ?_; intro B c2 w3 hF3 hB3; rw [Nat.zero_add] at hF3; have hG3 := hF2.below hB3; have hR3 := hFr.below hB3; have d0 := hG3.cell (j := 0) rfl; have f0 : w3.frozen? ⟨g, 0, none⟩ = false := hG3.frozenAt; have hB03 := Below.then_ hB2 hB3)
    | (with_reducible refine wpList_load (o := ⟨some 9, _, _, _, _, _⟩) rfl (.tmp 1) 105 rfl g 0 _ rfl (rnL B m c2 G L D H) 5 rfl (by kernel_rfl) (hG3.store 0 (.slice B m c2)).sees ?_)
    | (with_reducible refine wpList_store rfl rfl (.tmp 2) (.tmp 9) 105 rfl gr 0 w1.heap.size 105 5 (rnL none 0 0 0 0 false 0) (rnL B m c2 G L D H) rfl rfl 5 rfl (by kernel_rfl) (hR3.other gne (rn_other w3 ⟨g, 0, none⟩ (.slice B m c2))) (by omega) (allOne_out (by kernel_rfl)) w (hB03.setCell (p := ⟨g, 0, none⟩) hg _) (by omega) ?_; intro w9 hF9 hB9 ho9 _))
  have hF10 : Fresh w2.heap.size 22 w9 B m c2 (cw ws) := hF3.apart fun k hk => by
    have lgr := hFr.lt_size
    rw [ho9 k (by omega), rn_other w3 ⟨g, 0, none⟩ (.slice B m c2) k (by show k ≠ g; omega)]
  exact bodyPost_cell rfl rfl (rnL B m c2 G L D H) 5 rfl (by kernel_rfl) hF9.sees rfl ⟨B, c2, rfl, hF10.lower (by omega), hB9⟩
/-- Have words place? (Their place is not behind the sector's end.) -/
theorem rright_any (S : Fl) (hn : S.n ≤ 1024) (s a : Int) (ha : -9223372036854775808 ≤ a ∧ a ≤ 64) (B : Option Addr) (m d : Nat) (hm : m ≤ 1099511627776) (r : Bool) (hr : S.place s a m = r) (w : World) :
    Calls Try.prog 142 #[.agg (S.rL A c).toArray, .int .i64 s, .int .i64 a, .slice B m d] w fun e w' => e = .returned (.bool r) ∧ Below w.heap.size w w' := by
  have hS := fun (w' : World) => rSectors_any (A := A) (c := c) S.n hn S.guard S.leftR S.down S.half w'
  unfold Fl.place Fl.sector at hr
  unfold Fl.rL
  revert hr hS
  generalize S.leftR = L
  generalize S.guard = G
  generalize S.down = D
  generalize S.half = H
  generalize S.n = n at hn ⊢
  intro hr hS
  have ew : IntKind.i64.wrap (a + (m : Int)) = a + (m : Int) := wrapI _ (by omega) (by omega)
  have ew' : wrap64 (a + (m : Int)) = a + (m : Int) := wrap64I _ (by omega) (by omega)
  have HA := Lib.hid ha
  have HM := Lib.hid hm
  have HN := Lib.hid hn
  clear ha hm hn
  by_cases h0 : 0 ≤ s
  · by_cases h1 : s < (n : Int)
    · by_cases h2 : 0 ≤ a
      · by_cases h3 : (m : Int) ≤ 64
        · by_cases h4 : a + (m : Int) ≤ 64
          · obtain rfl : r = true := by rw [← hr]; simp; omega
            clear hr
            go_enter Try.func142, Try.ntmps142
            go_wp2_with (first | (with_reducible refine wpList_box (o := ⟨some 4, _, _, _, _, _⟩) rfl (.tmp 0) 105 rfl (rnL A (64 * n) c G L D H) rfl 5 rfl (by decide) ?_; intro g w1 hg hF hB) | (refine wpList_load_g (o := ⟨some 13, _, _, _, _, _⟩) (.tmp 4) 105 rfl g 0 _ rfl (rnL A (64 * n) c G L D H) 5 rfl (by kernel_rfl) hF.sees (by rfl) ?_))
            refine (hS _).mono ?_
            rintro e w2 ⟨rfl, hB2⟩
            go_wp2_with fail
            go_ret
            exact ⟨rfl, Below.then_ hB hB2⟩
          · obtain rfl : r = false := by rw [← hr]; simp; omega
            clear hr
            go_enter Try.func142, Try.ntmps142
            go_wp2_with (first | (with_reducible refine wpList_box (o := ⟨some 4, _, _, _, _, _⟩) rfl (.tmp 0) 105 rfl (rnL A (64 * n) c G L D H) rfl 5 rfl (by decide) ?_; intro g w1 hg hF hB) | (refine wpList_load_g (o := ⟨some 13, _, _, _, _, _⟩) (.tmp 4) 105 rfl g 0 _ rfl (rnL A (64 * n) c G L D H) 5 rfl (by kernel_rfl) hF.sees (by rfl) ?_))
            refine (hS _).mono ?_
            rintro e w2 ⟨rfl, hB2⟩
            go_wp2_with fail
            go_ret
            exact ⟨ret_bool (by simp; omega), Below.then_ hB hB2⟩
        · obtain rfl : r = false := by rw [← hr]; simp; omega
          clear hr
          go_enter Try.func142, Try.ntmps142
          go_wp2_with (first | (with_reducible refine wpList_box (o := ⟨some 4, _, _, _, _, _⟩) rfl (.tmp 0) 105 rfl (rnL A (64 * n) c G L D H) rfl 5 rfl (by decide) ?_; intro g w1 hg hF hB) | (refine wpList_load_g (o := ⟨some 13, _, _, _, _, _⟩) (.tmp 4) 105 rfl g 0 _ rfl (rnL A (64 * n) c G L D H) 5 rfl (by kernel_rfl) hF.sees (by rfl) ?_))
          refine (hS _).mono ?_
          rintro e w2 ⟨rfl, hB2⟩
          go_wp2_with fail
          go_ret
          exact ⟨rfl, Below.then_ hB hB2⟩
      · obtain rfl : r = false := by rw [← hr]; simp; omega
        clear hr
        go_enter Try.func142, Try.ntmps142
        go_wp2_with (first | (with_reducible refine wpList_box (o := ⟨some 4, _, _, _, _, _⟩) rfl (.tmp 0) 105 rfl (rnL A (64 * n) c G L D H) rfl 5 rfl (by decide) ?_; intro g w1 hg hF hB) | (refine wpList_load_g (o := ⟨some 13, _, _, _, _, _⟩) (.tmp 4) 105 rfl g 0 _ rfl (rnL A (64 * n) c G L D H) 5 rfl (by kernel_rfl) hF.sees (by rfl) ?_))
        refine (hS _).mono ?_
        rintro e w2 ⟨rfl, hB2⟩
        go_wp2_with fail
        go_ret
        exact ⟨rfl, Below.then_ hB hB2⟩
    · obtain rfl : r = false := by rw [← hr]; simp; omega
      clear hr
      go_enter Try.func142, Try.ntmps142
      go_wp2_with (first | (with_reducible refine wpList_box (o := ⟨some 4, _, _, _, _, _⟩) rfl (.tmp 0) 105 rfl (rnL A (64 * n) c G L D H) rfl 5 rfl (by decide) ?_; intro g w1 hg hF hB) | (refine wpList_load_g (o := ⟨some 13, _, _, _, _, _⟩) (.tmp 4) 105 rfl g 0 _ rfl (rnL A (64 * n) c G L D H) 5 rfl (by kernel_rfl) hF.sees (by rfl) ?_))
      refine (hS _).mono ?_
      rintro e w2 ⟨rfl, hB2⟩
      go_wp2_with fail
      go_ret
      exact ⟨rfl, Below.then_ hB hB2⟩
  · obtain rfl : r = false := by rw [← hr]; simp; omega
    clear hr
    go_enter Try.func142, Try.ntmps142
    go_wp2_with (with_reducible refine wpList_box (o := ⟨some 4, _, _, _, _, _⟩) rfl (.tmp 0) 105 rfl (rnL A (64 * n) c G L D H) rfl 5 rfl (by decide) ?_; intro g w1 hg hF hB)
    go_ret
    exact ⟨rfl, hB⟩
set_option maxHeartbeats 1000000 in
theorem rRead_any (h : RnAt w A c S) (s a : Int) (ha : -9223372036854775808 ≤ a ∧ a < 9223372036854775808) (v : UInt32) (r : Nat) (hr : S.read s a = (v, r)) :
    Calls Try.prog 148 #[.agg (S.rL A c).toArray, .int .i64 s, .int .i64 a] w fun e w' => e = .returned (.tuple #[.int .u32 (v.toNat : Int), .int .i64 (r : Int)]) ∧ Below w.heap.size w w' := by
  obtain ⟨hs, hl, hn, hc⟩ := h
  have hS := fun (w' : World) => rSectors_any (A := A) (c := c) S.n hn S.guard S.leftR false S.half w'
  unfold Fl.read Fl.place Fl.sector at hr
  unfold Fl.rL
  have HL := Lib.hid hl
  revert hr hS hs HL
  generalize S.leftR = L
  generalize S.guard = G
  generalize S.half = H
  generalize S.ws = ws
  generalize S.n = n at hn hc hl ⊢
  cases hd : S.down
  · intro hr hs hS HL
    have HN := Lib.hid hn
    have HA := Lib.hid ha
    clear hd hn hc hl ha
    by_cases h0 : 0 ≤ s
    · have hd0 : decide (s < 0) = false := by simp; omega
      by_cases h1 : s < (n : Int)
      · by_cases h2 : 0 ≤ a
        · by_cases h3 : a < 64
          · obtain ⟨σ, rfl⟩ := Int.eq_ofNat_of_zero_le h0
            obtain ⟨α, rfl⟩ := Int.eq_ofNat_of_zero_le h2
            have hlt : σ * 64 + α < 64 * n := by omega
            obtain ⟨bq, oq, rfl, hbq, x, HX, hx', hcx⟩ := hs.word (k := σ * 64 + α) HL.out hlt
            obtain ⟨rfl, rfl⟩ : x = v ∧ 0 = r := by
              have e1 : (decide ((0 : Int) ≤ (σ : Int)) && decide ((σ : Int) < (n : Int)) && decide ((0 : Int) ≤ (α : Int)) && decide (((1 : Nat) : Int) ≤ 64 - (α : Int))) = true := by simp; omega
              rw [e1] at hr
              simp only [Int.toNat_natCast, Prod.mk.injEq, List.getD_eq_getElem?_getD, HX.out, Option.getD_some] at hr
              exact hr
            have hn1 := HN.out
            have em : IntKind.i64.wrap ((σ : Int) * 64) = (σ : Int) * 64 := wrapI _ (by omega) (by omega)
            have ea : IntKind.i64.wrap ((σ : Int) * 64 + (α : Int)) = (σ : Int) * 64 + (α : Int) := wrapI _ (by omega) (by omega)
            clear hr hn1
            go_enter Try.func148, Try.ntmps148
            go_wp2_with (first | (with_reducible refine wpList_box (o := ⟨some 3, _, _, _, _, _⟩) rfl (.tmp 0) 105 rfl (rnL (some ⟨bq, oq, none⟩) (64 * n) c G L false H) rfl 5 rfl (by decide) ?_; intro g w1 hg hF hB; have c0 := hF.cell (j := 0) rfl; have c3 := hF.cell (j := 3) rfl) | (refine wpList_load_g (o := ⟨some 14, _, _, _, _, _⟩) (.tmp 3) 105 rfl g 0 _ rfl (rnL (some ⟨bq, oq, none⟩) (64 * n) c G L false H) 5 rfl (by kernel_rfl) hF.sees (by rfl) ?_))
            refine (hS _).mono ?_
            rintro e w2 ⟨rfl, hB2⟩
            have hcx2 : w2.cell? ⟨bq, oq + (σ * 64 + α), none⟩ = some (.int .u32 (x.toNat : Int)) := by rw [(Below.then_ hB hB2).cell (p := ⟨bq, oq + (σ * 64 + α), none⟩) hbq]; exact hcx
            have c02 := (hF.below hB2).cell (j := 0) rfl
            go_wp2_with fail
            go_ret2
            exact ⟨rfl, Below.then_ hB hB2⟩
          · obtain ⟨rfl, rfl⟩ : 0 = v ∧ 2 = r := by
              have e1 : (decide (0 ≤ s) && decide (s < (n : Int)) && decide (0 ≤ a) && decide (((1 : Nat) : Int) ≤ 64 - a)) = false := by simp; omega
              rw [e1] at hr
              simp only [Prod.mk.injEq] at hr
              exact hr
            clear hr
            go_enter Try.func148, Try.ntmps148
            go_wp2_with (first | (with_reducible refine wpList_box (o := ⟨some 3, _, _, _, _, _⟩) rfl (.tmp 0) 105 rfl (rnL A (64 * n) c G L false H) rfl 5 rfl (by decide) ?_; intro g w1 hg hF hB; have c0 := hF.cell (j := 0) rfl; have c3 := hF.cell (j := 3) rfl) | (refine wpList_load_g (o := ⟨some 14, _, _, _, _, _⟩) (.tmp 3) 105 rfl g 0 _ rfl (rnL A (64 * n) c G L false H) 5 rfl (by kernel_rfl) hF.sees (by rfl) ?_))
            refine (hS _).mono ?_
            rintro e w2 ⟨rfl, hB2⟩
            go_wp2_with fail
            go_ret2
            exact ⟨rfl, Below.then_ hB hB2⟩
        · obtain ⟨rfl, rfl⟩ : 0 = v ∧ 2 = r := by
            have e1 : (decide (0 ≤ s) && decide (s < (n : Int)) && decide (0 ≤ a) && decide (((1 : Nat) : Int) ≤ 64 - a)) = false := by simp; omega
            rw [e1] at hr
            simp only [Prod.mk.injEq] at hr
            exact hr
          clear hr
          go_enter Try.func148, Try.ntmps148
          go_wp2_with (first | (with_reducible refine wpList_box (o := ⟨some 3, _, _, _, _, _⟩) rfl (.tmp 0) 105 rfl (rnL A (64 * n) c G L false H) rfl 5 rfl (by decide) ?_; intro g w1 hg hF hB; have c0 := hF.cell (j := 0) rfl; have c3 := hF.cell (j := 3) rfl) | (refine wpList_load_g (o := ⟨some 14, _, _, _, _, _⟩) (.tmp 3) 105 rfl g 0 _ rfl (rnL A (64 * n) c G L false H) 5 rfl (by kernel_rfl) hF.sees (by rfl) ?_))
          refine (hS _).mono ?_
          rintro e w2 ⟨rfl, hB2⟩
          go_wp2_with fail
          go_ret2
          exact ⟨rfl, Below.then_ hB hB2⟩
      · obtain ⟨rfl, rfl⟩ : 0 = v ∧ 2 = r := by
          have e1 : (decide (0 ≤ s) && decide (s < (n : Int)) && decide (0 ≤ a) && decide (((1 : Nat) : Int) ≤ 64 - a)) = false := by simp; omega
          rw [e1] at hr
          simp only [Prod.mk.injEq] at hr
          exact hr
        clear hr
        go_enter Try.func148, Try.ntmps148
        go_wp2_with (first | (with_reducible refine wpList_box (o := ⟨some 3, _, _, _, _, _⟩) rfl (.tmp 0) 105 rfl (rnL A (64 * n) c G L false H) rfl 5 rfl (by decide) ?_; intro g w1 hg hF hB; have c0 := hF.cell (j := 0) rfl; have c3 := hF.cell (j := 3) rfl) | (refine wpList_load_g (o := ⟨some 14, _, _, _, _, _⟩) (.tmp 3) 105 rfl g 0 _ rfl (rnL A (64 * n) c G L false H) 5 rfl (by kernel_rfl) hF.sees (by rfl) ?_))
        refine (hS _).mono ?_
        rintro e w2 ⟨rfl, hB2⟩
        go_wp2_with fail
        go_ret2
        exact ⟨rfl, Below.then_ hB hB2⟩
    · obtain ⟨rfl, rfl⟩ : 0 = v ∧ 2 = r := by
        have e1 : (decide (0 ≤ s) && decide (s < (n : Int)) && decide (0 ≤ a) && decide (((1 : Nat) : Int) ≤ 64 - a)) = false := by simp; omega
        rw [e1] at hr
        simp only [Prod.mk.injEq] at hr
        exact hr
      clear hr
      go_enter Try.func148, Try.ntmps148
      go_wp2_with (with_reducible refine wpList_box (o := ⟨some 3, _, _, _, _, _⟩) rfl (.tmp 0) 105 rfl (rnL A (64 * n) c G L false H) rfl 5 rfl (by decide) ?_; intro g w1 hg hF hB; have c0 := hF.cell (j := 0) rfl; have c3 := hF.cell (j := 3) rfl)
      go_ret2
      exact ⟨rfl, hB⟩
  · intro hr hs hS HL
    obtain ⟨rfl, rfl⟩ : 0 = v ∧ 40 = r := by
      simp only [Prod.mk.injEq] at hr
      exact hr
    clear hr hS hs hd
    go_enter Try.func148, Try.ntmps148
    go_wp2_with (with_reducible refine wpList_box (o := ⟨some 3, _, _, _, _, _⟩) rfl (.tmp 0) 105 rfl (rnL A (64 * n) c G L true H) rfl 5 rfl (by decide) ?_; intro g w1 hg hF hB; have c0 := hF.cell (j := 0) rfl; have c3 := hF.cell (j := 3) rfl)
    go_ret2
    exact ⟨rfl, hB⟩
end
end Go.Proofs.Ytpdfalgjmeagjaa
namespace Go.Proofs.Ytpdfalgjmeagjaa
open Go.RowKit
set_option linter.unusedVariables false

def rcode : Bool → Int
  | true => 0
  | false => 40
/-- The call's own blocks within a round: the flash by value, the result, the words. -/
structure RP (w0 : World) (g gr gb c2 : Nat) (T : Fl) (wr : World) : Prop where
  box : Fresh w0.heap.size 105 wr (some ⟨g, 0, none⟩) 5 5 (T.rL (some ⟨gb, 0, none⟩) c2)
  res : Fresh w0.heap.size 105 wr (some ⟨gr, 0, none⟩) 5 5 (rnL none 0 0 0 0 false 0)
  row : Fresh w0.heap.size 22 wr (some ⟨gb, 0, none⟩) (64 * T.n) c2 (cw T.ws)
  below : Below w0.heap.size w0 wr
theorem Fresh.otherC {w w' : World} {base : Nat} {e : TypeId} {gb g n c : Nat} {xs : List Value} (h : Fresh base e w (some ⟨gb, 0, none⟩) n c xs) (hne : gb ≠ g) (hk : ∀ k, k ≠ g → w'.heap[k]? = w.heap[k]?) : Fresh base e w' (some ⟨gb, 0, none⟩) n c xs := by
  refine ⟨h.1, ?_⟩
  rcases h.2 with h1 | ⟨g', cap, cur, hv, hg, hh, hr⟩
  · exact .inl h1
  · have e : gb = g' := by
      simp only [Value.slice.injEq, Option.some.injEq, Addr.mk.injEq] at hv
      exact hv.1.1
    subst e
    exact .inr ⟨gb, cap, cur, hv, hg, by rw [hk gb hne]; exact hh, hr⟩
theorem Fl.prog_len : ∀ (l : List UInt32) (S : Fl) (j : Nat), (S.prog j l).1.ws.length = S.ws.length
  | [], S, j => rfl
  | x :: l, S, j => by
    have h1 := S.step_ws
    simp only [Fl.prog]
    revert h1
    rcases S.step with ⟨T, _ | _⟩
    · intro h1; exact congrArg List.length h1
    · intro h1
      have h2 := Fl.prog_len l (T.put1 j x) (j + 1)
      refine h2.trans ?_
      simp only [Fl.put1, List.length_set]
      exact congrArg List.length h1
theorem step_ok {S T : Fl} {b : Bool} (h : S.step = (T, b)) (hl : S.left < 9223372036854775808) : T.n = S.n ∧ T.ws = S.ws ∧ T.left < 9223372036854775808 := by
  obtain ⟨n, ws, G, ar, left, D, H⟩ := S
  cases ar
  · simp only [Fl.step, Prod.mk.injEq] at h
    rw [← h.1]
    exact ⟨rfl, rfl, hl⟩
  · rcases left with _ | left
    · simp only [Fl.step, Prod.mk.injEq] at h
      rw [← h.1]
      exact ⟨rfl, rfl, hl⟩
    · simp only [Fl.step, Prod.mk.injEq] at h
      rw [← h.1]
      refine ⟨rfl, rfl, ?_⟩
      simp only at hl ⊢
      omega
theorem rstep_at {A : Option Addr} {c : Nat} (S T : Fl) (b : Bool) (h : S.step = (T, b)) (hl : S.left < 9223372036854775808) (w : World) :
    Calls Try.prog 205 #[.agg (S.rL A c).toArray] w fun e w' => e = .returned (.tuple #[.agg (T.rL A c).toArray, .bool b]) ∧ Below w.heap.size w w' :=
  rstep_any S.n S.ws S.guard S.armed S.left S.down S.half hl T b h w
section
variable {w : World} {A : Option Addr} {c : Nat} {S : Fl}
set_option maxHeartbeats 2000000 in
set_option maxRecDepth 100000 in
theorem rprog_ok (h : RnAt w A c S) (hd : S.down = false) (hl2 : S.left < 9223372036854775808) (σ α m d : Nat) (C : Option Addr) (l : List UInt32) (hs : Sees w w.heap.size C (cw l)) (hl : l.length = m) (hσ : σ < S.n) (hα : α + m ≤ 64) (T : Fl) (r : Bool) (hr : S.prog (σ * 64 + α) l = (T, r)) :
    Calls Try.prog 191 #[.agg (S.rL A c).toArray, .int .i64 (σ : Int), .int .i64 (α : Int), .slice C m d] w fun e w' => ∃ gb c2, e = .returned (.tuple #[.agg (T.rL (some ⟨gb, 0, none⟩) c2).toArray, .int .i64 (rcode r)]) ∧ Fresh w.heap.size 22 w' (some ⟨gb, 0, none⟩) (64 * S.n) c2 (cw T.ws) ∧ Below w.heap.size w w' := by
  have hpl : S.place (σ : Int) (α : Int) m = true := by simp [Fl.place, Fl.sector]; omega
  have hRt := fun (w' : World) => rright_any (A := A) (c := c) S h.n_le (σ : Int) (α : Int) (by omega) C m d (by omega) true hpl w'
  have hOw := fun (w' : World) (x : Below w.heap.size w w') => rown_any (h.step x)
  have hc3 : S.rL A c = rnL A (64 * S.n) c S.guard S.leftR false S.half := by unfold Fl.rL; rw [hd]
  have hn := h.n_le
  have HL := Lib.hid hl
  have HR := Lib.hid hr
  have HL2 := Lib.hid hl2
  have HX3 : Hid ((S.rL A c)[3]? = some (.bool false)) := Lib.hid (by rw [hc3]; rfl)
  have hαI : decide ((64 : Int) < (α : Int)) = false := by simp; omega
  clear hl hr hl2 hd hpl hc3
  go_enter Try.func191, Try.ntmps191
  go_wp2_with (first
    | (with_reducible refine wpList_box (o := ⟨some 4, _, _, _, _, _⟩) rfl (.tmp 0) 105 rfl (S.rL A c) rfl 5 rfl (by decide) ?_; intro g w1 hg hF hB; have z1 := hB.size; have lg := hF.lt_size)
    | (with_reducible refine wpList_alloc (o := ⟨some 8, _, _, _, _, _⟩) rfl 105 rfl (rnL none 0 0 0 0 false 0) (by kernel_rfl) 5 rfl (by decide) ?_; intro gr w2 hgr hFr hBr; have z2 := hBr.size; have gne : gr ≠ g := (by omega); have hF2 := hF.below hBr; have hB2 := Below.then_ hB hBr; have c3 : w2.cell? ⟨g, 3, none⟩ = some (.bool false) := hF2.cell (j := 3) HX3.out)
    | (refine wpList_load_g (o := ⟨some 18, _, _, _, _, _⟩) (.tmp 4) 105 rfl g 0 _ rfl (S.rL A c) 5 rfl (by kernel_rfl) hF2.sees (by rfl) ?_))
  refine (hRt w2).mono ?_
  rintro e w3 ⟨rfl, hB3⟩
  have hF3 := hF2.below hB3
  have hR3 := hFr.below hB3
  have hB03 := Below.then_ hB2 hB3
  have lgr := hFr.lt_size
  have z3 := hB3.size
  have hOw3 := hOw w3 hB03
  clear hRt hOw hF2 hFr hB2 hB3 c3 HX3
  go_wp2_with (with_reducible refine wpList_load (o := ⟨some 26, _, _, _, _, _⟩) rfl (.tmp 4) 105 rfl g 0 _ rfl (S.rL A c) 5 rfl (by kernel_rfl) hF3.sees ?_)
  refine hOw3.mono ?_
  rintro e w4 ⟨B, c2, rfl, hW4, hB4⟩
  obtain ⟨gb, rfl, hgb, hgb2⟩ := hW4.spot_ (by omega)
  have hF4 := hF3.below hB4
  have hR4 := hR3.below hB4
  have hB04 := Below.then_ hB03 hB4
  have z4 := hB4.size
  have gg : g < w3.heap.size := by omega
  have ggr : gr < w3.heap.size := by omega
  clear hOw3 hF3 hR3
  go_wp2_with (with_reducible refine wpList_store rfl rfl (.tmp 4) (.tmp 27) 105 rfl g 0 w.heap.size 105 5 (S.rL A c) (S.rL (some ⟨gb, 0, none⟩) c2) rfl rfl 5 rfl (by kernel_rfl) hF4 (by omega) (allOne_out (by kernel_rfl)) w hB04 hg ?_; intro w5 hF5 hB5 ho5 hz5)
  have hF5' : Fresh w.heap.size 105 w5 (some ⟨g, 0, none⟩) 5 5 (S.rL (some ⟨gb, 0, none⟩) c2) := hF5
  have hRP : RP w g gr gb c2 S w5 := ⟨hF5', (hR4.lower (by omega)).other gne ho5, (hW4.apart fun k hk => ho5 k (by omega)).lower (by omega), hB5⟩
  have n1 : gb ≠ g := by omega
  have n2 : gb ≠ gr := by omega
  clear hF5 hF5' hR4 hW4 hF4 hB04 ho5
  go_loopw [10] (fun i wr => ∃ (k : Nat) (T2 : Fl), k ≤ m ∧ i = .int .i64 (k : Int) ∧ RP w g gr gb c2 T2 wr ∧ T2.n = S.n ∧ Hid (T2.left < 9223372036854775808) ∧ Hid (T2.prog (σ * 64 + α + k) (l.drop k) = (T, r))) (fun i _ => m - (intOf i).toNat)
  case atStart => exact ⟨0, S, by omega, rfl, hRP, rfl, HL2, Lib.hid (by simpa using HR.out)⟩
  case round =>
    obtain ⟨k, T2, hk, rfl, hQ, hTn, HLe, HP⟩ := hrel
    by_cases hlt : k < m
    · obtain ⟨x, hx⟩ : ∃ x, l[k]? = some x := ⟨_, List.getElem?_eq_getElem (by rw [HL.out]; exact hlt)⟩
      have hdr := drop_at32 hx
      obtain ⟨T1, r1, hst⟩ : ∃ T1 r1, T2.step = (T1, r1) := ⟨_, _, rfl⟩
      obtain ⟨s1, s2, s3⟩ := step_ok hst HLe.out
      have hSt := fun (w' : World) => rstep_at (A := some ⟨gb, 0, none⟩) (c := c2) T2 T1 r1 hst HLe.out w'
      have hpr := HP.out
      rw [hdr, Fl.prog, hst] at hpr
      have HPR := Lib.hid hpr
      have HX := Lib.hid hx
      have HS := Lib.hid (And.intro s1 (And.intro s2 s3))
      clear hpr hst hdr hx s1 s2 s3 HP hRP
      cases r1
      · go_wp2_with (with_reducible refine wpList_load (o := ⟨some 35, _, _, _, _, _⟩) rfl (.tmp 4) 105 rfl g 0 _ rfl (T2.rL (some ⟨gb, 0, none⟩) c2) 5 rfl (by kernel_rfl) hQ.box.sees ?_)
        refine (hSt wr).mono ?_
        rintro e w6 ⟨rfl, hB6⟩
        go_wp2_with (first
          | (with_reducible refine wpList_store rfl rfl (.tmp 4) (.tmp 37) 105 rfl g 0 w.heap.size 105 5 (T2.rL (some ⟨gb, 0, none⟩) c2) (T1.rL (some ⟨gb, 0, none⟩) c2) rfl rfl 5 rfl (by kernel_rfl) (hQ.box.below hB6) (by omega) (allOne_out (by kernel_rfl)) w (Below.then_ hQ.below hB6) hg ?_; intro w7 hF7 hB7 ho7 hz7; have hR7 := (hQ.res.below hB6).other gne ho7; have hW7 := (hQ.row.below hB6).otherC n1 ho7)
          | (with_reducible refine wpList_load (o := ⟨some 41, _, _, _, _, _⟩) rfl (.tmp 4) 105 rfl g 0 _ rfl (T1.rL (some ⟨gb, 0, none⟩) c2) 5 rfl (by kernel_rfl) hF7.sees ?_)
          | (with_reducible refine wpList_store rfl rfl (.tmp 8) (.tmp 41) 105 rfl gr 0 w.heap.size 105 5 (rnL none 0 0 0 0 false 0) (T1.rL (some ⟨gb, 0, none⟩) c2) rfl rfl 5 rfl (by kernel_rfl) hR7 (by omega) (allOne_out (by kernel_rfl)) w hB7 (by omega) ?_; intro w8 hF8 hB8 ho8 hz8))
        have hpr := HPR.out
        simp only [Prod.mk.injEq] at hpr
        obtain ⟨rfl, rfl⟩ := hpr
        (try simp only [Exit.inBlock, Exit.then])
        refine bodyPost_cellt rfl rfl (.int .i64 40) rfl (T1.rL (some ⟨gb, 0, none⟩) c2) 5 rfl (by kernel_rfl) hF8.sees rfl ⟨gb, c2, rfl, ?_, hB8⟩
        have := hW7.otherC n2 ho8
        rw [HS.out.2.1, ← hTn]
        exact this
      · have hpr := HPR.out
        simp only at hpr
        have HPR2 := Lib.hid hpr
        have hsr := hs.step hQ.below
        have em : IntKind.i64.wrap ((σ : Int) * 64) = (σ : Int) * 64 := wrapI _ (by omega) (by omega)
        have ea : IntKind.i64.wrap ((σ : Int) * 64 + (α : Int)) = (σ : Int) * 64 + (α : Int) := wrapI _ (by omega) (by omega)
        have eb : IntKind.i64.wrap ((σ : Int) * 64 + (α : Int) + (k : Int)) = (σ : Int) * 64 + (α : Int) + (k : Int) := wrapI _ (by omega) (by omega)
        clear hpr HPR
        go_wp2_with (with_reducible refine wpList_load (o := ⟨some 35, _, _, _, _, _⟩) rfl (.tmp 4) 105 rfl g 0 _ rfl (T2.rL (some ⟨gb, 0, none⟩) c2) 5 rfl (by kernel_rfl) hQ.box.sees ?_)
        refine (hSt wr).mono ?_
        rintro e w6 ⟨rfl, hB6⟩
        go_wp2_with (with_reducible refine wpList_store rfl rfl (.tmp 4) (.tmp 37) 105 rfl g 0 w.heap.size 105 5 (T2.rL (some ⟨gb, 0, none⟩) c2) (T1.rL (some ⟨gb, 0, none⟩) c2) rfl rfl 5 rfl (by kernel_rfl) (hQ.box.below hB6) (by omega) (allOne_out (by kernel_rfl)) w (Below.then_ hQ.below hB6) hg ?_; intro w7 hF7 hB7 ho7 hz7)
        have hF7' : Fresh w.heap.size 105 w7 (some ⟨g, 0, none⟩) 5 5 (T1.rL (some ⟨gb, 0, none⟩) c2) := hF7
        have hR7 := (hQ.res.below hB6).other gne ho7
        have hW7 := (hQ.row.below hB6).otherC n1 ho7
        have hT1n : T1.n = S.n := HS.out.1.trans hTn
        rw [← HS.out.2.1, ← HS.out.1] at hW7
        have hs7 := (hs.below hB7).more hB7.size
        obtain ⟨gx, ox, rfl, hgx, x', HX2, hx', hcx⟩ := hs7.word HL.out hlt
        obtain rfl : x' = x := by have := HX2.out; rw [HX.out] at this; exact (Option.some.inj this).symm
        have hwl : T1.ws.length = 64 * T1.n := by simpa using hW7.len
        obtain ⟨gy, oy, ey, hgy, y, HY, hy', hcy⟩ := hW7.sees.word (k := σ * 64 + α + k) hwl (by rw [hT1n]; omega)
        obtain ⟨rfl, rfl⟩ : gb = gy ∧ 0 = oy := by simpa using ey
        rw [Nat.zero_add] at hcy
        have hzy : w7.frozen? ⟨gb, σ * 64 + α + k, none⟩ = false := World.ownsRow.frozenAt hW7 _
        have c0 : w7.cell? ⟨g, 0, none⟩ = some (.slice (some ⟨gb, 0, none⟩) (64 * S.n) c2) := by
          have := hF7'.cell (j := 0) (u := .slice (some ⟨gb, 0, none⟩) (64 * T1.n) c2) rfl
          rw [← hT1n]
          exact this
        have hraw := and32 y x'
        clear hF7 hQ hSt ey hsr hwl
        refine region_qtail 24 (by kernel_rfl) (by kernel_rfl) ?_
        simp only [List.take_succ_cons, List.take_zero, List.drop_succ_cons, List.drop_zero]
        repeat (go_big_quiet_step (fail))
        refine wpQuiet_nil ?_
        rintro _ ⟨nq, rfl⟩
        go_wp2_with fail
        go_roundw
        case rel =>
          rw [← UInt32.toNat_and]
          have hDr := below_drewN' (Below.refl w7.heap.size w7) nq
          have e1 : (T1.put1 (σ * 64 + α + k) x').ws = T1.ws.set (σ * 64 + α + k) (y &&& x') := by
            unfold Fl.put1
            simp only [List.getD_eq_getElem?_getD, HY.out, Option.getD_some]
          have hW8 := (World.ownsRow.stored (hW7.below hDr) (σ * 64 + α + k) (.int .u32 ((y &&& x').toNat : Int))).1
          rw [show (cw T1.ws).set (σ * 64 + α + k) (.int .u32 ((y &&& x').toNat : Int)) = cw (T1.put1 (σ * 64 + α + k) x').ws from by rw [e1]; simp [cw, List.map_set]] at hW8
          refine ⟨k + 1, T1.put1 (σ * 64 + α + k) x', by omega, by go_num, ⟨?_, ?_, hW8, ?_⟩, hT1n, Lib.hid HS.out.2.2, Lib.hid ?_⟩
          · exact (hF7'.below hDr).other (Ne.symm n1) (rn_other _ ⟨gb, _, none⟩ _)
          · exact (hR7.below hDr).other (Ne.symm n2) (rn_other _ ⟨gb, _, none⟩ _)
          · exact (below_drewN' hB7 nq).setCell (p := ⟨gb, σ * 64 + α + k, none⟩) (by show _ ≤ gb; omega) _
          · have := HPR2.out
            rwa [Nat.add_assoc (σ * 64 + α) k 1] at this
        case measure => simp [intOf]; omega
    · obtain rfl : k = m := by omega
      have hpr := HP.out
      rw [List.drop_of_length_le (by rw [HL.out]; exact Nat.le_refl _), Fl.prog] at hpr
      simp only [Prod.mk.injEq] at hpr
      obtain ⟨rfl, rfl⟩ := hpr
      have hW7 := hQ.row
      rw [hTn] at hW7
      clear hRP
      go_wp2_with (first
        | (with_reducible refine wpList_load (o := ⟨some 66, _, _, _, _, _⟩) rfl (.tmp 4) 105 rfl g 0 _ rfl (T2.rL (some ⟨gb, 0, none⟩) c2) 5 rfl (by kernel_rfl) hQ.box.sees ?_)
        | (with_reducible refine wpList_store rfl rfl (.tmp 8) (.tmp 66) 105 rfl gr 0 w.heap.size 105 5 (rnL none 0 0 0 0 false 0) (T2.rL (some ⟨gb, 0, none⟩) c2) rfl rfl 5 rfl (by kernel_rfl) hQ.res (by omega) (allOne_out (by kernel_rfl)) w hQ.below (by omega) ?_; intro w8 hF8 hB8 ho8 hz8))
      refine bodyPost_cellt rfl rfl (.int .i64 0) rfl (T2.rL (some ⟨gb, 0, none⟩) c2) 5 rfl (by kernel_rfl) hF8.sees rfl ⟨gb, c2, rfl, hW7.otherC n2 ho8, hB8⟩
set_option maxHeartbeats 2000000 in
set_option maxRecDepth 100000 in
theorem rProgram_any (h : RnAt w A c S) (hl2 : S.left < 9223372036854775808) (s a : Int) (ha : -9223372036854775808 ≤ a ∧ a < 9223372036854775808) (m d : Nat) (hm : m ≤ 1099511627776) (C : Option Addr) (l : List UInt32) (hs : Sees w w.heap.size C (cw l)) (hl : l.length = m) (T : Fl) (r : Nat) (hr : S.program s a l = (T, r)) :
    Calls Try.prog 191 #[.agg (S.rL A c).toArray, .int .i64 s, .int .i64 a, .slice C m d] w fun e w' => ∃ B c2, e = .returned (.tuple #[.agg (T.rL B c2).toArray, .int .i64 (r : Int)]) ∧ RnTo w w' A B c c2 S T ∧ Below w.heap.size w w' := by
  unfold Fl.program at hr
  rw [hl] at hr
  cases hd : S.down
  · cases hp : S.place s a m
    · obtain ⟨rfl, rfl⟩ : S = T ∧ 2 = r := by rw [hd, hp] at hr; simpa using hr
      have HX3 : Hid ((S.rL A c)[3]? = some (.bool false)) := Lib.hid (by unfold Fl.rL; rw [hd]; rfl)
      have HP := Lib.hid hp
      by_cases h64 : 64 < a
      · clear hr hd hl hp hs hl2
        go_enter Try.func191, Try.ntmps191
        go_wp2_with (first
            | (with_reducible refine wpList_box (o := ⟨some 4, _, _, _, _, _⟩) rfl (.tmp 0) 105 rfl (S.rL A c) rfl 5 rfl (by decide) ?_; intro g w1 hg hF hB; have z1 := hB.size; have lg := hF.lt_size)
            | (with_reducible refine wpList_alloc (o := ⟨some 8, _, _, _, _, _⟩) rfl 105 rfl (rnL none 0 0 0 0 false 0) (by kernel_rfl) 5 rfl (by decide) ?_; intro gr w2 hgr hFr hBr; have z2 := hBr.size; have gne : gr ≠ g := (by omega); have hF2 := hF.below hBr; have hB2 := Below.then_ hB hBr; have c3 : w2.cell? ⟨g, 3, none⟩ = some (.bool false) := hF2.cell (j := 3) HX3.out)
            | (with_reducible refine wpList_load (o := ⟨some 25, _, _, _, _, _⟩) rfl (.tmp 4) 105 rfl g 0 _ rfl (S.rL A c) 5 rfl (by kernel_rfl) hF2.sees ?_)
            | (with_reducible refine wpList_store rfl rfl (.tmp 8) (.tmp 25) 105 rfl gr 0 w1.heap.size 105 5 (rnL none 0 0 0 0 false 0) (S.rL A c) rfl rfl 5 rfl (by kernel_rfl) hFr (by omega) (allOne_out (by kernel_rfl)) w hB2 (by omega) ?_; intro w9 hF9 hB9 ho9 hz9))
        refine bodyPost_cellt rfl rfl (.int .i64 2) rfl (S.rL A c) 5 rfl (by kernel_rfl) hF9.sees rfl ⟨A, c, rfl, ⟨h.step hB9, .inl ⟨rfl, rfl, rfl, rfl⟩⟩, hB9⟩
      · have hRt := fun (w' : World) => rright_any (A := A) (c := c) S h.n_le s a (by omega) C m d hm false hp w'
        have hD : decide ((64 : Int) < a) = false := by simp; omega
        clear hr hd hl hp hs hl2
        go_enter Try.func191, Try.ntmps191
        go_wp2_with (first
            | (with_reducible refine wpList_box (o := ⟨some 4, _, _, _, _, _⟩) rfl (.tmp 0) 105 rfl (S.rL A c) rfl 5 rfl (by decide) ?_; intro g w1 hg hF hB; have z1 := hB.size; have lg := hF.lt_size)
            | (with_reducible refine wpList_alloc (o := ⟨some 8, _, _, _, _, _⟩) rfl 105 rfl (rnL none 0 0 0 0 false 0) (by kernel_rfl) 5 rfl (by decide) ?_; intro gr w2 hgr hFr hBr; have z2 := hBr.size; have gne : gr ≠ g := (by omega); have hF2 := hF.below hBr; have hB2 := Below.then_ hB hBr; have c3 : w2.cell? ⟨g, 3, none⟩ = some (.bool false) := hF2.cell (j := 3) HX3.out)
            | (refine wpList_load_g (o := ⟨some 18, _, _, _, _, _⟩) (.tmp 4) 105 rfl g 0 _ rfl (S.rL A c) 5 rfl (by kernel_rfl) hF2.sees (by rfl) ?_))
        refine (hRt w2).mono ?_
        rintro e w3 ⟨rfl, hB3⟩
        have hF3 := hF2.below hB3
        have hR3 := hFr.below hB3
        have hB03 := Below.then_ hB2 hB3
        go_wp2_with (first
            | (with_reducible refine wpList_load (o := ⟨some 25, _, _, _, _, _⟩) rfl (.tmp 4) 105 rfl g 0 _ rfl (S.rL A c) 5 rfl (by kernel_rfl) hF3.sees ?_)
            | (with_reducible refine wpList_store rfl rfl (.tmp 8) (.tmp 25) 105 rfl gr 0 w1.heap.size 105 5 (rnL none 0 0 0 0 false 0) (S.rL A c) rfl rfl 5 rfl (by kernel_rfl) hR3 (by omega) (allOne_out (by kernel_rfl)) w hB03 (by omega) ?_; intro w9 hF9 hB9 ho9 hz9))
        refine bodyPost_cellt rfl rfl (.int .i64 2) rfl (S.rL A c) 5 rfl (by kernel_rfl) hF9.sees rfl ⟨A, c, rfl, ⟨h.step hB9, .inl ⟨rfl, rfl, rfl, rfl⟩⟩, hB9⟩
    · obtain ⟨σ, α, rfl, rfl, hσ, hα⟩ := Fl.place_out hp
      obtain ⟨T', b, hb⟩ : ∃ T' b, S.prog (σ * 64 + α) l = (T', b) := ⟨_, _, rfl⟩
      have hT : T' = T ∧ (r : Int) = rcode b := by
        rw [hd, hp] at hr
        simp only [Int.toNat_natCast] at hr
        rw [hb] at hr
        cases b
        · simp only [Prod.mk.injEq] at hr
          exact ⟨hr.1, by rw [← hr.2]; rfl⟩
        · simp only [Prod.mk.injEq] at hr
          exact ⟨hr.1, by rw [← hr.2]; rfl⟩
      obtain ⟨rfl, hrc⟩ := hT
      rw [hrc]
      have hk := Fl.prog_half l S (σ * 64 + α)
      rw [hb] at hk
      have hTl : T'.ws.length = 64 * S.n := by
        have := Fl.prog_len l S (σ * 64 + α)
        rw [hb] at this
        rw [this]
        exact h.len
      refine (rprog_ok h hd hl2 σ α m d C l hs hl hσ hα T' b hb).mono ?_
      rintro e w' ⟨gb, c2, rfl, hF, hB⟩
      have hn : T'.n = S.n := hk.1
      rw [← hn] at hF
      exact ⟨some ⟨gb, 0, none⟩, c2, rfl, ⟨RnAt.fresh hF (by rw [hTl, hn]) (by rw [hn]; exact h.n_le), .inr hF⟩, hB⟩
  · obtain ⟨rfl, rfl⟩ : S = T ∧ 40 = r := by rw [hd] at hr; simpa using hr
    have HX3 : Hid ((S.rL A c)[3]? = some (.bool true)) := Lib.hid (by unfold Fl.rL; rw [hd]; rfl)
    clear hr hd hl hs hl2 ha
    go_enter Try.func191, Try.ntmps191
    go_wp2_with (first
        | (with_reducible refine wpList_box (o := ⟨some 4, _, _, _, _, _⟩) rfl (.tmp 0) 105 rfl (S.rL A c) rfl 5 rfl (by decide) ?_; intro g w1 hg hF hB; have z1 := hB.size; have lg := hF.lt_size)
        | (with_reducible refine wpList_alloc (o := ⟨some 8, _, _, _, _, _⟩) rfl 105 rfl (rnL none 0 0 0 0 false 0) (by kernel_rfl) 5 rfl (by decide) ?_; intro gr w2 hgr hFr hBr; have z2 := hBr.size; have gne : gr ≠ g := (by omega); have hF2 := hF.below hBr; have hB2 := Below.then_ hB hBr; have c3 : w2.cell? ⟨g, 3, none⟩ = some (.bool true) := hF2.cell (j := 3) HX3.out)
        | (with_reducible refine wpList_load (o := ⟨some 14, _, _, _, _, _⟩) rfl (.tmp 4) 105 rfl g 0 _ rfl (S.rL A c) 5 rfl (by kernel_rfl) hF2.sees ?_)
        | (with_reducible refine wpList_store rfl rfl (.tmp 8) (.tmp 14) 105 rfl gr 0 w1.heap.size 105 5 (rnL none 0 0 0 0 false 0) (S.rL A c) rfl rfl 5 rfl (by kernel_rfl) hFr (by omega) (allOne_out (by kernel_rfl)) w hB2 (by omega) ?_; intro w9 hF9 hB9 ho9 hz9))
    refine bodyPost_cellt rfl rfl (.int .i64 40) rfl (S.rL A c) 5 rfl (by kernel_rfl) hF9.sees rfl ⟨A, c, rfl, ⟨h.step hB9, .inl ⟨rfl, rfl, rfl, rfl⟩⟩, hB9⟩
end
end Go.Proofs.Ytpdfalgjmeagjaa
namespace Go.Proofs.Ytpdfalgjmeagjaa
open Go.RowKit
set_option linter.unusedVariables false

section
variable {w : World} {A : Option Addr} {c : Nat} {S : Fl}
/-- Other words. -/
def Fl.with_ (S : Fl) (ws : List UInt32) : Fl := { S with ws := ws }
set_option maxHeartbeats 2000000 in
set_option maxRecDepth 100000 in
theorem rRewrite_any (h : RnAt w A c S) (s a : Int) (ha : -9223372036854775808 ≤ a ∧ a < 9223372036854775808) (m d : Nat) (hm : m ≤ 1099511627776) (C : Option Addr) (l : List UInt32) (hs : Sees w w.heap.size C (cw l)) (hl : l.length = m) (T : Fl) (r : Nat) (hr : S.rewrite s a l = (T, r)) :
    Calls Try.prog 61 #[.agg (S.rL A c).toArray, .int .i64 s, .int .i64 a, .slice C m d] w fun e w' => ∃ B c2, e = .returned (.tuple #[.agg (T.rL B c2).toArray, .int .i64 (r : Int)]) ∧ RnTo w w' A B c c2 S T ∧ Below w.heap.size w w' := by
  unfold Fl.rewrite at hr
  rw [hl] at hr
  cases hp : S.place s a m
  · obtain ⟨rfl, rfl⟩ : S = T ∧ 2 = r := by rw [hp] at hr; simpa using hr
    by_cases h64 : 64 < a
    · clear hr hl hp hs
      go_enter Try.func61, Try.ntmps61
      go_wp2_with (first
          | (with_reducible refine wpList_box (o := ⟨some 4, _, _, _, _, _⟩) rfl (.tmp 0) 105 rfl (S.rL A c) rfl 5 rfl (by decide) ?_; intro g w1 hg hF hB; have z1 := hB.size; have lg := hF.lt_size)
          | (with_reducible refine wpList_alloc (o := ⟨some 8, _, _, _, _, _⟩) rfl 105 rfl (rnL none 0 0 0 0 false 0) (by kernel_rfl) 5 rfl (by decide) ?_; intro gr w2 hgr hFr hBr; have z2 := hBr.size; have gne : gr ≠ g := (by omega); have hF2 := hF.below hBr; have hB2 := Below.then_ hB hBr)
          | (with_reducible refine wpList_load (o := ⟨some 21, _, _, _, _, _⟩) rfl (.tmp 4) 105 rfl g 0 _ rfl (S.rL A c) 5 rfl (by kernel_rfl) hF2.sees ?_)
          | (with_reducible refine wpList_store rfl rfl (.tmp 8) (.tmp 21) 105 rfl gr 0 w1.heap.size 105 5 (rnL none 0 0 0 0 false 0) (S.rL A c) rfl rfl 5 rfl (by kernel_rfl) hFr (by omega) (allOne_out (by kernel_rfl)) w hB2 (by omega) ?_; intro w9 hF9 hB9 ho9 hz9))
      refine bodyPost_cellt rfl rfl (.int .i64 2) rfl (S.rL A c) 5 rfl (by kernel_rfl) hF9.sees rfl ⟨A, c, rfl, ⟨h.step hB9, .inl ⟨rfl, rfl, rfl, rfl⟩⟩, hB9⟩
    · have hRt := fun (w' : World) => rright_any (A := A) (c := c) S h.n_le s a (by omega) C m d hm false hp w'
      have hD : decide ((64 : Int) < a) = false := by simp; omega
      clear hr hl hp hs
      go_enter Try.func61, Try.ntmps61
      go_wp2_with (first
          | (with_reducible refine wpList_box (o := ⟨some 4, _, _, _, _, _⟩) rfl (.tmp 0) 105 rfl (S.rL A c) rfl 5 rfl (by decide) ?_; intro g w1 hg hF hB; have z1 := hB.size; have lg := hF.lt_size)
          | (with_reducible refine wpList_alloc (o := ⟨some 8, _, _, _, _, _⟩) rfl 105 rfl (rnL none 0 0 0 0 false 0) (by kernel_rfl) 5 rfl (by decide) ?_; intro gr w2 hgr hFr hBr; have z2 := hBr.size; have gne : gr ≠ g := (by omega); have hF2 := hF.below hBr; have hB2 := Below.then_ hB hBr)
          | (refine wpList_load_g (o := ⟨some 14, _, _, _, _, _⟩) (.tmp 4) 105 rfl g 0 _ rfl (S.rL A c) 5 rfl (by kernel_rfl) hF2.sees (by rfl) ?_))
      refine (hRt w2).mono ?_
      rintro e w3 ⟨rfl, hB3⟩
      have hF3 := hF2.below hB3
      have hR3 := hFr.below hB3
      have hB03 := Below.then_ hB2 hB3
      go_wp2_with (first
          | (with_reducible refine wpList_load (o := ⟨some 21, _, _, _, _, _⟩) rfl (.tmp 4) 105 rfl g 0 _ rfl (S.rL A c) 5 rfl (by kernel_rfl) hF3.sees ?_)
          | (with_reducible refine wpList_store rfl rfl (.tmp 8) (.tmp 21) 105 rfl gr 0 w1.heap.size 105 5 (rnL none 0 0 0 0 false 0) (S.rL A c) rfl rfl 5 rfl (by kernel_rfl) hR3 (by omega) (allOne_out (by kernel_rfl)) w hB03 (by omega) ?_; intro w9 hF9 hB9 ho9 hz9))
      refine bodyPost_cellt rfl rfl (.int .i64 2) rfl (S.rL A c) 5 rfl (by kernel_rfl) hF9.sees rfl ⟨A, c, rfl, ⟨h.step hB9, .inl ⟨rfl, rfl, rfl, rfl⟩⟩, hB9⟩
  · obtain ⟨σ, α, rfl, rfl, hσ, hα⟩ := Fl.place_out hp
    have hRt := fun (w' : World) => rright_any (A := A) (c := c) S h.n_le (σ : Int) (α : Int) (by omega) C m d hm true hp w'
    have hD : decide ((64 : Int) < (α : Int)) = false := by simp; omega
    have pre := 0
    by_cases hG : (σ : Int) < S.guard
    · obtain ⟨rfl, rfl⟩ : S = T ∧ 41 = r := by rw [hp, decide_eq_true hG] at hr; simpa using hr
      clear hr hl hp hs pre
      go_enter Try.func61, Try.ntmps61
      go_wp2_with (first
          | (with_reducible refine wpList_box (o := ⟨some 4, _, _, _, _, _⟩) rfl (.tmp 0) 105 rfl (S.rL A c) rfl 5 rfl (by decide) ?_; intro g w1 hg hF hB; have z1 := hB.size; have lg := hF.lt_size)
          | (with_reducible refine wpList_alloc (o := ⟨some 8, _, _, _, _, _⟩) rfl 105 rfl (rnL none 0 0 0 0 false 0) (by kernel_rfl) 5 rfl (by decide) ?_; intro gr w2 hgr hFr hBr; have z2 := hBr.size; have gne : gr ≠ g := (by omega); have hF2 := hF.below hBr; have hB2 := Below.then_ hB hBr)
          | (refine wpList_load_g (o := ⟨some 14, _, _, _, _, _⟩) (.tmp 4) 105 rfl g 0 _ rfl (S.rL A c) 5 rfl (by kernel_rfl) hF2.sees (by rfl) ?_))
      refine (hRt w2).mono ?_
      rintro e w3 ⟨rfl, hB3⟩
      have hF3 := hF2.below hB3
      have hR3 := hFr.below hB3
      have hB03 := Below.then_ hB2 hB3
      have c1 : w3.cell? ⟨g, 1, none⟩ = some (.int .i64 S.guard) := hF3.cell (j := 1) rfl
      go_wp2_with (first
          | (with_reducible refine wpList_load (o := ⟨some 26, _, _, _, _, _⟩) rfl (.tmp 4) 105 rfl g 0 _ rfl (S.rL A c) 5 rfl (by kernel_rfl) hF3.sees ?_)
          | (with_reducible refine wpList_store rfl rfl (.tmp 8) (.tmp 26) 105 rfl gr 0 w1.heap.size 105 5 (rnL none 0 0 0 0 false 0) (S.rL A c) rfl rfl 5 rfl (by kernel_rfl) hR3 (by omega) (allOne_out (by kernel_rfl)) w hB03 (by omega) ?_; intro w9 hF9 hB9 ho9 hz9))
      refine bodyPost_cellt rfl rfl (.int .i64 41) rfl (S.rL A c) 5 rfl (by kernel_rfl) hF9.sees rfl ⟨A, c, rfl, ⟨h.step hB9, .inl ⟨rfl, rfl, rfl, rfl⟩⟩, hB9⟩
    · have hn := h.n_le
      have hlen := h.len
      obtain ⟨rfl, rfl⟩ : S.with_ (splice S.ws (σ * 64 + α) l) = T ∧ 0 = r := by
        rw [hp, decide_eq_false hG] at hr
        simpa [Fl.with_] using hr
      have hOw := fun (w' : World) (x : Below w.heap.size w w') => rown_any (h.step x)
      have HL := Lib.hid hl
      have HN := Lib.hid hlen
      have hGI : ¬ (σ : Int) < S.guard := hG
      clear hr hl hp pre hlen hG
      go_enter Try.func61, Try.ntmps61
      go_wp2_with (first
          | (with_reducible refine wpList_box (o := ⟨some 4, _, _, _, _, _⟩) rfl (.tmp 0) 105 rfl (S.rL A c) rfl 5 rfl (by decide) ?_; intro g w1 hg hF hB; have z1 := hB.size; have lg := hF.lt_size)
          | (with_reducible refine wpList_alloc (o := ⟨some 8, _, _, _, _, _⟩) rfl 105 rfl (rnL none 0 0 0 0 false 0) (by kernel_rfl) 5 rfl (by decide) ?_; intro gr w2 hgr hFr hBr; have z2 := hBr.size; have gne : gr ≠ g := (by omega); have hF2 := hF.below hBr; have hB2 := Below.then_ hB hBr)
          | (refine wpList_load_g (o := ⟨some 14, _, _, _, _, _⟩) (.tmp 4) 105 rfl g 0 _ rfl (S.rL A c) 5 rfl (by kernel_rfl) hF2.sees (by rfl) ?_))
      refine (hRt w2).mono ?_
      rintro e w3 ⟨rfl, hB3⟩
      have hF3 := hF2.below hB3
      have hR3 := hFr.below hB3
      have hB03 := Below.then_ hB2 hB3
      have c1 : w3.cell? ⟨g, 1, none⟩ = some (.int .i64 S.guard) := hF3.cell (j := 1) rfl
      have lgr := hFr.lt_size
      have z3 := hB3.size
      have hOw3 := hOw w3 hB03
      clear hRt hOw hF2 hFr hB2 hB3
      go_wp2_with (with_reducible refine wpList_load (o := ⟨some 27, _, _, _, _, _⟩) rfl (.tmp 4) 105 rfl g 0 _ rfl (S.rL A c) 5 rfl (by kernel_rfl) hF3.sees ?_)
      refine hOw3.mono ?_
      rintro e w4 ⟨B, c2, rfl, hW4, hB4⟩
      obtain ⟨gb, rfl, hgb, hgb2⟩ := hW4.spot_ (by omega)
      have hF4 := hF3.below hB4
      have hR4 := hR3.below hB4
      have hB04 := Below.then_ hB03 hB4
      have z4 := hB4.size
      have gg : g < w3.heap.size := by omega
      have ggr : gr < w3.heap.size := by omega
      clear hOw3 hF3 hR3 c1
      go_wp2_with (with_reducible refine wpList_store rfl rfl (.tmp 4) (.tmp 28) 105 rfl g 0 w.heap.size 105 5 (S.rL A c) (S.rL (some ⟨gb, 0, none⟩) c2) rfl rfl 5 rfl (by kernel_rfl) hF4 (by omega) (allOne_out (by kernel_rfl)) w hB04 hg ?_; intro w5 hF5 hB5 ho5 hz5)
      have hF5' : Fresh w.heap.size 105 w5 (some ⟨g, 0, none⟩) 5 5 (S.rL (some ⟨gb, 0, none⟩) c2) := hF5
      have hRP : RP w g gr gb c2 S w5 := ⟨hF5', (hR4.lower (by omega)).other gne ho5, (hW4.apart fun k hk => ho5 k (by omega)).lower (by omega), hB5⟩
      have n1 : gb ≠ g := by omega
      have n2 : gb ≠ gr := by omega
      clear hF5 hF5' hR4 hW4 hF4 hB04 ho5
      have em : IntKind.i64.wrap ((σ : Int) * 64) = (σ : Int) * 64 := wrapI _ (by omega) (by omega)
      have ea : IntKind.i64.wrap ((σ : Int) * 64 + (α : Int)) = (σ : Int) * 64 + (α : Int) := wrapI _ (by omega) (by omega)
      go_loopw [10] (fun i wr => ∃ k : Nat, k ≤ m ∧ i = .int .i64 (k : Int) ∧ RP w g gr gb c2 (S.with_ (splice S.ws (σ * 64 + α) (l.take k))) wr) (fun i _ => m - (intOf i).toNat)
      case atStart => exact ⟨0, by omega, rfl, by rw [List.take_zero, show splice S.ws (σ * 64 + α) ([] : List UInt32) = S.ws from by simp [splice]]; exact hRP⟩
      case round =>
        obtain ⟨k, hk, rfl, hQ⟩ := hrel
        by_cases hlt : k < m
        · have hs7 := (hs.below hQ.below).more hQ.below.size
          obtain ⟨gx, ox, rfl, hgx, x, HX, hx', hcx⟩ := hs7.word HL.out hlt
          have hzy : wr.frozen? ⟨gb, σ * 64 + α + k, none⟩ = false := World.ownsRow.frozenAt hQ.row _
          have eb : IntKind.i64.wrap ((σ : Int) * 64 + (α : Int) + (k : Int)) = (σ : Int) * 64 + (α : Int) + (k : Int) := wrapI _ (by omega) (by omega)
          have c0 : wr.cell? ⟨g, 0, none⟩ = some (.slice (some ⟨gb, 0, none⟩) (64 * S.n) c2) := hQ.box.cell (j := 0) rfl
          have hwl : (splice S.ws (σ * 64 + α) (l.take k)).length = 64 * S.n := by rw [length_splice _ _ _ (by simp [HN.out, HL.out]; omega), HN.out]
          obtain ⟨gy, oy, ey, hgy, y, HY, hy', hcy⟩ := hQ.row.sees.word (k := σ * 64 + α + k) hwl (by omega)
          obtain ⟨rfl, rfl⟩ : gb = gy ∧ 0 = oy := by simpa using ey
          rw [Nat.zero_add] at hcy
          clear hRP ey hwl
          go_wp2_with fail
          refine region_qtail 13 (by kernel_rfl) (by kernel_rfl) ?_
          simp only [List.take_succ_cons, List.take_zero, List.drop_succ_cons, List.drop_zero]
          repeat (go_big_quiet_step (fail))
          refine wpQuiet_nil ?_
          rintro _ ⟨nq, rfl⟩
          go_wp2_with fail
          go_roundw
          case rel =>
            have hDr := below_drewN' (Below.refl wr.heap.size wr) nq
            have hkl : k < l.length := by rw [HL.out]; exact hlt
            have hx2 : l[k] = x := by have := HX.out; rw [List.getElem?_eq_getElem hkl] at this; exact Option.some.inj this
            have hW8 := (World.ownsRow.stored (hQ.row.below hDr) (σ * 64 + α + k) (.int .u32 (x.toNat : Int))).1
            rw [show (cw (S.with_ (splice S.ws (σ * 64 + α) (l.take k))).ws).set (σ * 64 + α + k) (.int .u32 (x.toNat : Int)) = cw (S.with_ (splice S.ws (σ * 64 + α) (l.take (k + 1)))).ws from by
              show (cw (splice S.ws (σ * 64 + α) (l.take k))).set (σ * 64 + α + k) _ = cw (splice S.ws (σ * 64 + α) (l.take (k + 1)))
              rw [← splice_step S.ws l (σ * 64 + α) k hkl (by rw [HN.out, HL.out]; omega), hx2]
              simp [cw, List.map_set]] at hW8
            refine ⟨k + 1, by omega, by go_num, ⟨?_, ?_, hW8, ?_⟩⟩
            · exact (hQ.box.below hDr).other (Ne.symm n1) (rn_other _ ⟨gb, _, none⟩ _)
            · exact (hQ.res.below hDr).other (Ne.symm n2) (rn_other _ ⟨gb, _, none⟩ _)
            · exact (below_drewN' hQ.below nq).setCell (p := ⟨gb, σ * 64 + α + k, none⟩) (by show _ ≤ gb; omega) _
          case measure => simp [intOf]; omega
        · obtain rfl : k = m := by omega
          rw [List.take_of_length_le (by rw [HL.out]; exact Nat.le_refl _)] at hQ
          clear hRP
          go_wp2_with (first
            | (with_reducible refine wpList_load (o := ⟨some 48, _, _, _, _, _⟩) rfl (.tmp 4) 105 rfl g 0 _ rfl ((S.with_ (splice S.ws (σ * 64 + α) l)).rL (some ⟨gb, 0, none⟩) c2) 5 rfl (by kernel_rfl) hQ.box.sees ?_)
            | (with_reducible refine wpList_store rfl rfl (.tmp 8) (.tmp 48) 105 rfl gr 0 w.heap.size 105 5 (rnL none 0 0 0 0 false 0) ((S.with_ (splice S.ws (σ * 64 + α) l)).rL (some ⟨gb, 0, none⟩) c2) rfl rfl 5 rfl (by kernel_rfl) hQ.res (by omega) (allOne_out (by kernel_rfl)) w hQ.below (by omega) ?_; intro w8 hF8 hB8 ho8 hz8))
          refine bodyPost_cellt rfl rfl (.int .i64 0) rfl ((S.with_ (splice S.ws (σ * 64 + α) l)).rL (some ⟨gb, 0, none⟩) c2) 5 rfl (by kernel_rfl) hF8.sees rfl ⟨some ⟨gb, 0, none⟩, c2, rfl, ⟨RnAt.fresh (hQ.row.otherC n2 ho8) (by show (splice S.ws (σ * 64 + α) l).length = 64 * S.n; rw [length_splice _ _ _ (by rw [HN.out, HL.out]; omega), HN.out]) hn, .inr (hQ.row.otherC n2 ho8)⟩, hB8⟩
end
end Go.Proofs.Ytpdfalgjmeagjaa
namespace Go.Proofs.Ytpdfalgjmeagjaa
open Go.RowKit
set_option linter.unusedVariables false

section
variable {w : World} {A : Option Addr} {c : Nat} {S : Fl}
theorem ones_len : ones64.length = 64 := rfl
set_option maxHeartbeats 2000000 in
set_option maxRecDepth 100000 in
theorem rErase_any (h : RnAt w A c S) (hl2 : S.left < 9223372036854775808) (s : Int) (T : Fl) (r : Nat) (hr : S.erase s = (T, r)) :
    Calls Try.prog 189 #[.agg (S.rL A c).toArray, .int .i64 s] w fun e w' => ∃ B c2, e = .returned (.tuple #[.agg (T.rL B c2).toArray, .int .i64 (r : Int)]) ∧ RnTo w w' A B c c2 S T ∧ Below w.heap.size w w' := by
  have hSe := fun (w' : World) => rSectors_any (A := A) (c := c) S.n h.n_le S.guard S.leftR S.down S.half w'
  replace hSe : ∀ w', Calls Try.prog 138 #[.agg (S.rL A c).toArray] w' fun e w2 => e = .returned (.int .i64 (S.n : Int)) ∧ Below w'.heap.size w' w2 := hSe
  unfold Fl.erase at hr
  cases hd : S.down
  · have HX3 : Hid ((S.rL A c)[3]? = some (.bool false)) := Lib.hid (by unfold Fl.rL; rw [hd]; rfl)
    by_cases h0 : s < 0
    · have hp : S.sector s = false := by simp [Fl.sector]; omega
      obtain ⟨rfl, rfl⟩ : S = T ∧ 2 = r := by rw [hd, hp] at hr; simpa using hr
      clear hr hd hp hl2 hSe
      go_enter Try.func189, Try.ntmps189
      go_wp2_with (first
          | (with_reducible refine wpList_box (o := ⟨some 2, _, _, _, _, _⟩) rfl (.tmp 0) 105 rfl (S.rL A c) rfl 5 rfl (by decide) ?_; intro g w1 hg hF hB; have z1 := hB.size; have lg := hF.lt_size)
          | (with_reducible refine wpList_alloc (o := ⟨some 4, _, _, _, _, _⟩) rfl 105 rfl (rnL none 0 0 0 0 false 0) (by kernel_rfl) 5 rfl (by decide) ?_; intro gr w2 hgr hFr hBr; have z2 := hBr.size; have gne : gr ≠ g := (by omega); have hF2 := hF.below hBr; have hB2 := Below.then_ hB hBr; have c3 : w2.cell? ⟨g, 3, none⟩ = some (.bool false) := hF2.cell (j := 3) HX3.out)
          | (with_reducible refine wpList_load (o := ⟨some 19, _, _, _, _, _⟩) rfl (.tmp 2) 105 rfl g 0 _ rfl (S.rL A c) 5 rfl (by kernel_rfl) hF2.sees ?_)
          | (with_reducible refine wpList_store rfl rfl (.tmp 4) (.tmp 19) 105 rfl gr 0 w1.heap.size 105 5 (rnL none 0 0 0 0 false 0) (S.rL A c) rfl rfl 5 rfl (by kernel_rfl) hFr (by omega) (allOne_out (by kernel_rfl)) w hB2 (by omega) ?_; intro w9 hF9 hB9 ho9 hz9))
      refine bodyPost_cellt rfl rfl (.int .i64 2) rfl (S.rL A c) 5 rfl (by kernel_rfl) hF9.sees rfl ⟨A, c, rfl, ⟨h.step hB9, .inl ⟨rfl, rfl, rfl, rfl⟩⟩, hB9⟩
    · have hD0 : decide (s < 0) = false := by simp; omega
      by_cases h1 : (S.n : Int) ≤ s
      · have hp : S.sector s = false := by simp [Fl.sector]; omega
        obtain ⟨rfl, rfl⟩ : S = T ∧ 2 = r := by rw [hd, hp] at hr; simpa using hr
        clear hr hd hp hl2
        go_enter Try.func189, Try.ntmps189
        go_wp2_with (first
            | (with_reducible refine wpList_box (o := ⟨some 2, _, _, _, _, _⟩) rfl (.tmp 0) 105 rfl (S.rL A c) rfl 5 rfl (by decide) ?_; intro g w1 hg hF hB; have z1 := hB.size; have lg := hF.lt_size)
            | (with_reducible refine wpList_alloc (o := ⟨some 4, _, _, _, _, _⟩) rfl 105 rfl (rnL none 0 0 0 0 false 0) (by kernel_rfl) 5 rfl (by decide) ?_; intro gr w2 hgr hFr hBr; have z2 := hBr.size; have gne : gr ≠ g := (by omega); have hF2 := hF.below hBr; have hB2 := Below.then_ hB hBr; have c3 : w2.cell? ⟨g, 3, none⟩ = some (.bool false) := hF2.cell (j := 3) HX3.out)
            | (refine wpList_load_g (o := ⟨some 15, _, _, _, _, _⟩) (.tmp 2) 105 rfl g 0 _ rfl (S.rL A c) 5 rfl (by kernel_rfl) hF2.sees (by rfl) ?_))
        refine (hSe w2).mono ?_
        rintro e w3 ⟨rfl, hB3⟩
        have hF3 := hF2.below hB3
        have hR3 := hFr.below hB3
        have hB03 := Below.then_ hB2 hB3
        have lgr := hFr.lt_size
        have z3 := hB3.size
        go_wp2_with (first
            | (with_reducible refine wpList_load (o := ⟨some 19, _, _, _, _, _⟩) rfl (.tmp 2) 105 rfl g 0 _ rfl (S.rL A c) 5 rfl (by kernel_rfl) hF3.sees ?_)
            | (with_reducible refine wpList_store rfl rfl (.tmp 4) (.tmp 19) 105 rfl gr 0 w1.heap.size 105 5 (rnL none 0 0 0 0 false 0) (S.rL A c) rfl rfl 5 rfl (by kernel_rfl) hR3 (by omega) (allOne_out (by kernel_rfl)) w hB03 (by omega) ?_; intro w9 hF9 hB9 ho9 hz9))
        refine bodyPost_cellt rfl rfl (.int .i64 2) rfl (S.rL A c) 5 rfl (by kernel_rfl) hF9.sees rfl ⟨A, c, rfl, ⟨h.step hB9, .inl ⟨rfl, rfl, rfl, rfl⟩⟩, hB9⟩
      · obtain ⟨σ, rfl⟩ := Int.eq_ofNat_of_zero_le (show 0 ≤ s by omega)
        have hσ : σ < S.n := by omega
        have hp : S.sector (σ : Int) = true := by simp [Fl.sector]; omega
        obtain ⟨T1, b, hst⟩ : ∃ T1 b, S.step = (T1, b) := ⟨_, _, rfl⟩
        obtain ⟨s1, s2, s3⟩ := step_ok hst hl2
        have hSt := fun (w' : World) => rstep_at (A := A) (c := c) S T1 b hst hl2 w'
        have hn := h.n_le
        have hRn1 : ∀ w', Below w.heap.size w w' → RnAt w' A c T1 := fun w' x => by
          have := h.step x
          exact ⟨by rw [s2]; exact this.sees, by rw [s2, s1]; exact this.len, by rw [s1]; exact hn, by rw [s1]; exact this.cap⟩
        have HS := Lib.hid (And.intro s1 s2)
        have hlen := h.len
        rw [hd, hp, hst] at hr
        simp only [Int.toNat_natCast] at hr
        clear hd hp hst s1 s2 s3 hl2 h0
        cases b
        · obtain ⟨rfl, rfl⟩ : { T1 with half := (σ : Int) } = T ∧ 40 = r := by simpa using hr
          clear hr hlen
          go_enter Try.func189, Try.ntmps189
          go_wp2_with (first
              | (with_reducible refine wpList_box (o := ⟨some 2, _, _, _, _, _⟩) rfl (.tmp 0) 105 rfl (S.rL A c) rfl 5 rfl (by decide) ?_; intro g w1 hg hF hB; have z1 := hB.size; have lg := hF.lt_size)
              | (with_reducible refine wpList_alloc (o := ⟨some 4, _, _, _, _, _⟩) rfl 105 rfl (rnL none 0 0 0 0 false 0) (by kernel_rfl) 5 rfl (by decide) ?_; intro gr w2 hgr hFr hBr; have z2 := hBr.size; have gne : gr ≠ g := (by omega); have hF2 := hF.below hBr; have hB2 := Below.then_ hB hBr; have c3 : w2.cell? ⟨g, 3, none⟩ = some (.bool false) := hF2.cell (j := 3) HX3.out)
              | (refine wpList_load_g (o := ⟨some 15, _, _, _, _, _⟩) (.tmp 2) 105 rfl g 0 _ rfl (S.rL A c) 5 rfl (by kernel_rfl) hF2.sees (by rfl) ?_))
          refine (hSe w2).mono ?_
          rintro e w3 ⟨rfl, hB3⟩
          have hF3 := hF2.below hB3
          have hR3 := hFr.below hB3
          have hB03 := Below.then_ hB2 hB3
          have lgr := hFr.lt_size
          have z3 := hB3.size
          clear hSe hF2 hFr hB2 hB3
          go_wp2_with (with_reducible refine wpList_load (o := ⟨some 21, _, _, _, _, _⟩) rfl (.tmp 2) 105 rfl g 0 _ rfl (S.rL A c) 5 rfl (by kernel_rfl) hF3.sees ?_)
          refine (hSt w3).mono ?_
          rintro e w4 ⟨rfl, hB4⟩
          have hF4 := hF3.below hB4
          have hR4 := hR3.below hB4
          have hB04 := Below.then_ hB03 hB4
          have z4 := hB4.size
          go_wp2_with (first | (with_reducible refine wpList_store rfl rfl (.tmp 2) (.tmp 23) 105 rfl g 0 w.heap.size 105 5 (S.rL A c) (T1.rL A c) rfl rfl 5 rfl (by kernel_rfl) hF4 (by omega) (allOne_out (by kernel_rfl)) w hB04 hg ?_; intro w5 hF5 hB5 ho5 hz5; have hF5' : Fresh w.heap.size 105 w5 (some ⟨g, 0, none⟩) 5 5 (T1.rL A c) := (by with_unfolding_all exact hF5); have hR4l : Fresh w.heap.size 105 w4 (some ⟨gr, 0, none⟩) 5 5 (rnL none 0 0 0 0 false 0) := hR4.lower z1; have hR5 := hR4l.other gne ho5; have c4 : w5.cell? ⟨g, 4, none⟩ = some (.int .i64 T1.half) := (by with_unfolding_all exact hF5'.cell (j := 4) rfl); have f4 : w5.frozen? ⟨g, 4, none⟩ = false := hF5'.frozenAt; have hF6 : Fresh w.heap.size 105 (w5.setCell ⟨g, 4, none⟩ (.int .i64 (σ : Int))) (some ⟨g, 0, none⟩) 5 5 (Fl.rL { T1 with half := (σ : Int) } A c) := (by with_unfolding_all exact hF5'.store 4 (.int .i64 (σ : Int))); have hR6 := hR5.other gne (rn_other w5 ⟨g, 4, none⟩ (.int .i64 (σ : Int))); have hB6 := hB5.setCell (p := ⟨g, 4, none⟩) hg (.int .i64 (σ : Int))) | (with_reducible refine wpList_load (o := ⟨some 29, _, _, _, _, _⟩) rfl (.tmp 2) 105 rfl g 0 _ rfl (Fl.rL { T1 with half := (σ : Int) } A c) 5 rfl (by kernel_rfl) hF6.sees ?_) | (with_reducible refine wpList_store rfl rfl (.tmp 4) (.tmp 29) 105 rfl gr 0 w.heap.size 105 5 (rnL none 0 0 0 0 false 0) (Fl.rL { T1 with half := (σ : Int) } A c) rfl rfl 5 rfl (by kernel_rfl) hR6 (by omega) (allOne_out (by kernel_rfl)) w hB6 (by omega) ?_; intro w9 hF9 hB9 ho9 hz9))
          have hq := hRn1 w9 hB9
          refine bodyPost_cellt rfl rfl (.int .i64 40) rfl (Fl.rL { T1 with half := (σ : Int) } A c) 5 rfl (by kernel_rfl) hF9.sees rfl ⟨A, c, rfl, ⟨⟨hq.sees, hq.len, hq.n_le, hq.cap⟩, .inl ⟨rfl, rfl, HS.out.2, HS.out.1⟩⟩, hB9⟩
        · obtain ⟨rfl, rfl⟩ : T1.with_ (splice T1.ws (σ * 64) ones64) = T ∧ 0 = r := by simpa [Fl.with_] using hr
          have hOw := fun (w' : World) (x : Below w.heap.size w w') => rown_any (hRn1 w' x)
          have hn1 : T1.n = S.n := HS.out.1
          have HN : Hid (T1.ws.length = 64 * T1.n) := Lib.hid (by rw [HS.out.2, hn1]; exact hlen)
          clear hr hlen hRn1
          go_enter Try.func189, Try.ntmps189
          go_wp2_with (first
              | (with_reducible refine wpList_box (o := ⟨some 2, _, _, _, _, _⟩) rfl (.tmp 0) 105 rfl (S.rL A c) rfl 5 rfl (by decide) ?_; intro g w1 hg hF hB; have z1 := hB.size; have lg := hF.lt_size)
              | (with_reducible refine wpList_alloc (o := ⟨some 4, _, _, _, _, _⟩) rfl 105 rfl (rnL none 0 0 0 0 false 0) (by kernel_rfl) 5 rfl (by decide) ?_; intro gr w2 hgr hFr hBr; have z2 := hBr.size; have gne : gr ≠ g := (by omega); have hF2 := hF.below hBr; have hB2 := Below.then_ hB hBr; have c3 : w2.cell? ⟨g, 3, none⟩ = some (.bool false) := hF2.cell (j := 3) HX3.out)
              | (refine wpList_load_g (o := ⟨some 15, _, _, _, _, _⟩) (.tmp 2) 105 rfl g 0 _ rfl (S.rL A c) 5 rfl (by kernel_rfl) hF2.sees (by rfl) ?_))
          refine (hSe w2).mono ?_
          rintro e w3 ⟨rfl, hB3⟩
          have hF3 := hF2.below hB3
          have hR3 := hFr.below hB3
          have hB03 := Below.then_ hB2 hB3
          have lgr := hFr.lt_size
          have z3 := hB3.size
          clear hSe hF2 hFr hB2 hB3
          go_wp2_with (with_reducible refine wpList_load (o := ⟨some 21, _, _, _, _, _⟩) rfl (.tmp 2) 105 rfl g 0 _ rfl (S.rL A c) 5 rfl (by kernel_rfl) hF3.sees ?_)
          refine (hSt w3).mono ?_
          rintro e w4 ⟨rfl, hB4⟩
          have hF4 := hF3.below hB4
          have hR4 := hR3.below hB4
          have hB04 := Below.then_ hB03 hB4
          have z4 := hB4.size
          go_wp2_with (first | (with_reducible refine wpList_store rfl rfl (.tmp 2) (.tmp 23) 105 rfl g 0 w.heap.size 105 5 (S.rL A c) (T1.rL A c) rfl rfl 5 rfl (by kernel_rfl) hF4 (by omega) (allOne_out (by kernel_rfl)) w hB04 hg ?_; intro w5 hF5 hB5 ho5 hz5; have hF5' : Fresh w.heap.size 105 w5 (some ⟨g, 0, none⟩) 5 5 (T1.rL A c) := (by with_unfolding_all exact hF5); have hR4l : Fresh w.heap.size 105 w4 (some ⟨gr, 0, none⟩) 5 5 (rnL none 0 0 0 0 false 0) := hR4.lower z1; have hR5 := hR4l.other gne ho5) | (with_reducible refine wpList_load (o := ⟨some 30, _, _, _, _, _⟩) rfl (.tmp 2) 105 rfl g 0 _ rfl (T1.rL A c) 5 rfl (by kernel_rfl) hF5'.sees ?_))
          refine (hOw w5 hB5).mono ?_
          rintro e w6 ⟨B, c2, rfl, hW6, hB6⟩
          obtain ⟨gb, rfl, hgb, hgb2⟩ := hW6.spot_ (by omega)
          have z5 := hB6.size
          have hF6 := hF5'.below hB6
          have hR6 := hR5.below hB6
          have hB06 := Below.then_ hB5 hB6
          have n1 : gb ≠ g := by omega
          have n2 : gb ≠ gr := by omega
          clear hF5 hF5' hR5 hF4 hR4 hF3 hR3 hSt hOw
          go_wp2_with (with_reducible refine wpList_store rfl rfl (.tmp 2) (.tmp 31) 105 rfl g 0 w.heap.size 105 5 (T1.rL A c) (T1.rL (some ⟨gb, 0, none⟩) c2) rfl rfl 5 rfl (by kernel_rfl) hF6 (by omega) (allOne_out (by kernel_rfl)) w hB06 hg ?_; intro w7 hF7 hB7 ho7 hz7)
          have hF7' : Fresh w.heap.size 105 w7 (some ⟨g, 0, none⟩) 5 5 (T1.rL (some ⟨gb, 0, none⟩) c2) := hF7
          have hRP : RP w g gr gb c2 T1 w7 := ⟨hF7', hR6.other gne ho7, (hW6.lower (by omega)).otherC n1 ho7, hB7⟩
          clear hF7 hF7' hR6 hW6 hF6 hB06 ho7
          have em : IntKind.i64.wrap ((σ : Int) * 64) = (σ : Int) * 64 := wrapI _ (by omega) (by omega)
          go_loopw [7] (fun i wr => ∃ k : Nat, k ≤ 64 ∧ i = .int .i64 (k : Int) ∧ RP w g gr gb c2 (T1.with_ (splice T1.ws (σ * 64) (ones64.take k))) wr) (fun i _ => 64 - (intOf i).toNat)
          case atStart => exact ⟨0, by omega, rfl, by rw [List.take_zero, show splice T1.ws (σ * 64) ([] : List UInt32) = T1.ws from by simp [splice]]; exact hRP⟩
          case round =>
            obtain ⟨k, hk, rfl, hQ⟩ := hrel
            by_cases hlt : k < 64
            · have hzy : wr.frozen? ⟨gb, σ * 64 + k, none⟩ = false := World.ownsRow.frozenAt hQ.row _
              have eb : IntKind.i64.wrap ((σ : Int) * 64 + (k : Int)) = (σ : Int) * 64 + (k : Int) := wrapI _ (by omega) (by omega)
              have c0 : wr.cell? ⟨g, 0, none⟩ = some (.slice (some ⟨gb, 0, none⟩) (64 * T1.n) c2) := hQ.box.cell (j := 0) rfl
              have hwl : (splice T1.ws (σ * 64) (ones64.take k)).length = 64 * T1.n := by rw [length_splice _ _ _ (by rw [List.length_take, ones_len, HN.out]; omega), HN.out]
              obtain ⟨gy, oy, ey, hgy, y, HY, hy', hcy⟩ := hQ.row.sees.word (k := σ * 64 + k) hwl (by omega)
              obtain ⟨rfl, rfl⟩ : gb = gy ∧ 0 = oy := by simpa using ey
              rw [Nat.zero_add] at hcy
              clear hRP ey hwl
              go_wp2_with fail
              go_roundw
              case rel =>
                have hkl : k < ones64.length := hlt
                have hx2 : ones64[k] = 4294967295 := List.getElem_replicate _
                have hW8 := (World.ownsRow.stored hQ.row (σ * 64 + k) (.int .u32 4294967295)).1
                rw [show (cw (T1.with_ (splice T1.ws (σ * 64) (ones64.take k))).ws).set (σ * 64 + k) (.int .u32 4294967295) = cw (T1.with_ (splice T1.ws (σ * 64) (ones64.take (k + 1)))).ws from by
                  show (cw (splice T1.ws (σ * 64) (ones64.take k))).set (σ * 64 + k) _ = cw (splice T1.ws (σ * 64) (ones64.take (k + 1)))
                  rw [← splice_step T1.ws ones64 (σ * 64) k hkl (by rw [HN.out, ones_len]; omega), hx2]
                  simp [cw, List.map_set]] at hW8
                refine ⟨k + 1, by omega, by go_num, ⟨?_, ?_, hW8, ?_⟩⟩
                · exact hQ.box.other (Ne.symm n1) (rn_other _ ⟨gb, _, none⟩ _)
                · exact hQ.res.other (Ne.symm n2) (rn_other _ ⟨gb, _, none⟩ _)
                · exact hQ.below.setCell (p := ⟨gb, σ * 64 + k, none⟩) (by show _ ≤ gb; omega) _
              case measure => simp [intOf]; omega
            · obtain rfl : k = 64 := by omega
              rw [List.take_of_length_le (by rw [ones_len]; exact Nat.le_refl _)] at hQ
              clear hRP
              go_wp2_with (first
                  | (with_reducible refine wpList_load (o := ⟨some 43, _, _, _, _, _⟩) rfl (.tmp 2) 105 rfl g 0 _ rfl ((T1.with_ (splice T1.ws (σ * 64) ones64)).rL (some ⟨gb, 0, none⟩) c2) 5 rfl (by kernel_rfl) hQ.box.sees ?_)
                  | (with_reducible refine wpList_store rfl rfl (.tmp 4) (.tmp 43) 105 rfl gr 0 w.heap.size 105 5 (rnL none 0 0 0 0 false 0) ((T1.with_ (splice T1.ws (σ * 64) ones64)).rL (some ⟨gb, 0, none⟩) c2) rfl rfl 5 rfl (by kernel_rfl) hQ.res (by omega) (allOne_out (by kernel_rfl)) w hQ.below (by omega) ?_; intro w8 hF8 hB8 ho8 hz8))
              refine bodyPost_cellt rfl rfl (.int .i64 0) rfl ((T1.with_ (splice T1.ws (σ * 64) ones64)).rL (some ⟨gb, 0, none⟩) c2) 5 rfl (by kernel_rfl) hF8.sees rfl ⟨some ⟨gb, 0, none⟩, c2, rfl, ⟨RnAt.fresh (hQ.row.otherC n2 ho8) (by show (splice T1.ws (σ * 64) ones64).length = 64 * T1.n; rw [length_splice _ _ _ (by rw [HN.out, ones_len]; omega), HN.out]) (by show T1.n ≤ 1024; omega), .inr (hQ.row.otherC n2 ho8)⟩, hB8⟩
  · obtain ⟨rfl, rfl⟩ : S = T ∧ 40 = r := by rw [hd] at hr; simpa using hr
    have HX3 : Hid ((S.rL A c)[3]? = some (.bool true)) := Lib.hid (by unfold Fl.rL; rw [hd]; rfl)
    clear hr hd hl2 hSe
    go_enter Try.func189, Try.ntmps189
    go_wp2_with (first
        | (with_reducible refine wpList_box (o := ⟨some 2, _, _, _, _, _⟩) rfl (.tmp 0) 105 rfl (S.rL A c) rfl 5 rfl (by decide) ?_; intro g w1 hg hF hB; have z1 := hB.size; have lg := hF.lt_size)
        | (with_reducible refine wpList_alloc (o := ⟨some 4, _, _, _, _, _⟩) rfl 105 rfl (rnL none 0 0 0 0 false 0) (by kernel_rfl) 5 rfl (by decide) ?_; intro gr w2 hgr hFr hBr; have z2 := hBr.size; have gne : gr ≠ g := (by omega); have hF2 := hF.below hBr; have hB2 := Below.then_ hB hBr; have c3 : w2.cell? ⟨g, 3, none⟩ = some (.bool true) := hF2.cell (j := 3) HX3.out)
        | (with_reducible refine wpList_load (o := ⟨some 10, _, _, _, _, _⟩) rfl (.tmp 2) 105 rfl g 0 _ rfl (S.rL A c) 5 rfl (by kernel_rfl) hF2.sees ?_)
        | (with_reducible refine wpList_store rfl rfl (.tmp 4) (.tmp 10) 105 rfl gr 0 w1.heap.size 105 5 (rnL none 0 0 0 0 false 0) (S.rL A c) rfl rfl 5 rfl (by kernel_rfl) hFr (by omega) (allOne_out (by kernel_rfl)) w hB2 (by omega) ?_; intro w9 hF9 hB9 ho9 hz9))
    refine bodyPost_cellt rfl rfl (.int .i64 40) rfl (S.rL A c) 5 rfl (by kernel_rfl) hF9.sees rfl ⟨A, c, rfl, ⟨h.step hB9, .inl ⟨rfl, rfl, rfl, rfl⟩⟩, hB9⟩
end
end Go.Proofs.Ytpdfalgjmeagjaa
namespace Go.Proofs.Ytpdfalgjmeagjaa
open Go.RowKit
set_option linter.unusedVariables false

theorem mask_app : ∀ (a b : List Bool) (ws : List UInt32) (j : Nat), mask ws j (a ++ b) = mask (mask ws j a) (j + a.length) b
  | [], b, ws, j => rfl
  | true :: a, b, ws, j => by
    rw [List.cons_append, mask, mask, mask_app a b, List.length_cons, show j + 1 + a.length = j + (a.length + 1) from by omega]
  | false :: a, b, ws, j => by
    rw [List.cons_append, mask, mask, mask_app a b, List.length_cons, show j + 1 + a.length = j + (a.length + 1) from by omega]
theorem mask_on (ws : List UInt32) (j k : Nat) (ks : List Bool) (h : ks[k]? = some true) : mask ws j (ks.take (k + 1)) = (mask ws j (ks.take k)).set (j + k) 4294967295 := by
  have hk := (List.getElem?_eq_some_iff.1 h).1
  rw [List.take_add_one, h, Option.toList_some, mask_app, List.length_take, Nat.min_eq_left (by omega)]
  rfl
theorem mask_off (ws : List UInt32) (j k : Nat) (ks : List Bool) (h : ks[k]? ≠ some true) : mask ws j (ks.take (k + 1)) = mask ws j (ks.take k) := by
  cases e : ks[k]? with
  | none => rw [List.take_add_one, e]; simp
  | some b =>
    cases b
    · rw [List.take_add_one, e, Option.toList_some, mask_app]
      rfl
    · exact absurd e h
theorem mask_len7 : ∀ (l : List Bool) (ws : List UInt32) (j : Nat), (mask ws j l).length = ws.length
  | [], ws, j => rfl
  | true :: l, ws, j => by rw [mask, mask_len7 l, List.length_set]
  | false :: l, ws, j => by rw [mask, mask_len7 l]
section
variable {w : World} {A : Option Addr} {c : Nat} {S : Fl}
set_option maxHeartbeats 2000000 in
set_option maxRecDepth 100000 in
theorem rCrash_any (h : RnAt w A c S) (hok : S.Ok) (h1n : 1 ≤ S.n) (C : Option Addr) (m d : Nat) (hm : m ≤ 1099511627776) (ks : List Bool) (hs : Sees w w.heap.size C (cl ks)) (hl : ks.length = m) :
    Calls Try.prog 62 #[.agg (S.rL A c).toArray, .slice C m d] w fun e w' => ∃ B c2, e = .returned (.agg ((S.crash ks).rL B c2).toArray) ∧ RnTo w w' A B c c2 S (S.crash ks) ∧ Below w.heap.size w w' := by
  have hn := h.n_le
  have hOw := fun (w' : World) (x : Below w.heap.size w w') => rown_any (h.step x)
  have HN := Lib.hid h.len
  have HL := Lib.hid hl
  clear hl
  rcases hok with hh | ⟨σ, hh, hσ⟩
  · have hcr : S.crash ks = { S with half := -1, down := false, armed := false } := by unfold Fl.crash; rw [hh]; rfl
    rw [hcr]
    have hhD : decide ((0 : Int) ≤ S.half) = false := by simp; omega
    have HH := Lib.hid hh
    clear hcr hh
    go_enter Try.func62, Try.ntmps62
    go_wp2_with (first
        | (with_reducible refine wpList_box (o := ⟨some 2, _, _, _, _, _⟩) rfl (.tmp 0) 105 rfl (S.rL A c) rfl 5 rfl (by decide) ?_; intro g w1 hg hF hB; have z1 := hB.size; have lg := hF.lt_size)
        | (with_reducible refine wpList_alloc (o := ⟨some 4, _, _, _, _, _⟩) rfl 105 rfl (rnL none 0 0 0 0 false 0) (by kernel_rfl) 5 rfl (by decide) ?_; intro gr w2 hgr hFr hBr; have z2 := hBr.size; have gne : gr ≠ g := (by omega); have hF2 := hF.below hBr; have hB2 := Below.then_ hB hBr)
        | (with_reducible refine wpList_load (o := ⟨some 6, _, _, _, _, _⟩) rfl (.tmp 2) 105 rfl g 0 _ rfl (S.rL A c) 5 rfl (by kernel_rfl) hF2.sees ?_))
    refine (hOw w2 hB2).mono ?_
    rintro e w3 ⟨B, c2, rfl, hW3, hB3⟩
    have hF3 := hF2.below hB3
    have hR3 : Fresh w.heap.size 105 w3 (some ⟨gr, 0, none⟩) 5 5 (rnL none 0 0 0 0 false 0) := (hFr.below hB3).lower z1
    have hB03 := Below.then_ hB2 hB3
    have lgr := hFr.lt_size
    obtain ⟨gb, rfl, hgb, hgb2⟩ := hW3.spot_ (by omega)
    have n1 : gb ≠ g := by omega
    have n2 : gb ≠ gr := by omega
    clear hF2 hFr hB2 hOw
    go_wp2_with (with_reducible refine wpList_store rfl rfl (.tmp 2) (.tmp 7) 105 rfl g 0 w.heap.size 105 5 (S.rL A c) (S.rL (some ⟨gb, 0, none⟩) c2) rfl rfl 5 rfl (by kernel_rfl) hF3 (by omega) (allOne_out (by kernel_rfl)) w hB03 hg ?_; intro w5 hF5 hB5 ho5 hz5)
    have hF5' : Fresh w.heap.size 105 w5 (some ⟨g, 0, none⟩) 5 5 (S.rL (some ⟨gb, 0, none⟩) c2) := hF5
    have hRP : RP w g gr gb c2 S w5 := ⟨hF5', hR3.other gne ho5, (hW3.lower (by omega)).otherC n1 ho5, hB5⟩
    clear hF5 hF5' hR3 hW3 hF3 hB03 ho5
    go_loopw [5] (fun i wr => i = .int .i64 0 ∧ wr = w5) (fun i _ => 0)
    case atStart => exact ⟨rfl, rfl⟩
    case round =>
      obtain ⟨rfl, rfl⟩ := hrel
      have d4 : wr.cell? ⟨g, 4, none⟩ = some (.int .i64 (S).half) := hRP.box.cell (j := 4) rfl
      have f4 : wr.frozen? ⟨g, 4, none⟩ = false := hRP.box.frozenAt
      have hG1 := hRP.box.store 4 (.int .i64 (-1))
      have d3 : (wr.setCell ⟨g, 4, none⟩ (.int .i64 (-1))).cell? ⟨g, 3, none⟩ = some (.bool (S).down) := hG1.cell (j := 3) rfl
      have f3 : (wr.setCell ⟨g, 4, none⟩ (.int .i64 (-1))).frozen? ⟨g, 3, none⟩ = false := hG1.frozenAt
      have hG2 := hG1.store 3 (.bool false)
      have d2 : ((wr.setCell ⟨g, 4, none⟩ (.int .i64 (-1))).setCell ⟨g, 3, none⟩ (.bool false)).cell? ⟨g, 2, none⟩ = some (.int .i64 (S).leftR) := hG2.cell (j := 2) rfl
      have f2 : ((wr.setCell ⟨g, 4, none⟩ (.int .i64 (-1))).setCell ⟨g, 3, none⟩ (.bool false)).frozen? ⟨g, 2, none⟩ = false := hG2.frozenAt
      have hG3 : Fresh w.heap.size 105 (((wr.setCell ⟨g, 4, none⟩ (.int .i64 (-1))).setCell ⟨g, 3, none⟩ (.bool false)).setCell ⟨g, 2, none⟩ (.int .i64 (-1))) (some ⟨g, 0, none⟩) 5 5 (Fl.rL { S with half := -1, down := false, armed := false } (some ⟨gb, 0, none⟩) c2) := hG2.store 2 (.int .i64 (-1))
      have hR3x := ((hRP.res.other gne (rn_other wr ⟨g, 4, none⟩ (.int .i64 (-1)))).other gne (rn_other _ ⟨g, 3, none⟩ (.bool false))).other gne (rn_other _ ⟨g, 2, none⟩ (.int .i64 (-1)))
      have hW3x := ((hRP.row.otherC n1 (rn_other wr ⟨g, 4, none⟩ (.int .i64 (-1)))).otherC n1 (rn_other _ ⟨g, 3, none⟩ (.bool false))).otherC n1 (rn_other _ ⟨g, 2, none⟩ (.int .i64 (-1)))
      have hB3x := ((hRP.below.setCell (p := ⟨g, 4, none⟩) hg (.int .i64 (-1))).setCell (p := ⟨g, 3, none⟩) hg (.bool false)).setCell (p := ⟨g, 2, none⟩) hg (.int .i64 (-1))
      clear hG1 hG2
      go_wp2_with (first
          | (with_reducible refine wpList_load (o := ⟨some 38, _, _, _, _, _⟩) rfl (.tmp 2) 105 rfl g 0 _ rfl (Fl.rL { S with half := -1, down := false, armed := false } (some ⟨gb, 0, none⟩) c2) 5 rfl (by kernel_rfl) hG3.sees ?_)
          | (with_reducible refine wpList_store rfl rfl (.tmp 4) (.tmp 38) 105 rfl gr 0 w.heap.size 105 5 (rnL none 0 0 0 0 false 0) (Fl.rL { S with half := -1, down := false, armed := false } (some ⟨gb, 0, none⟩) c2) rfl rfl 5 rfl (by kernel_rfl) hR3x (by omega) (allOne_out (by kernel_rfl)) w hB3x (by omega) ?_; intro w9 hF9 hB9 ho9 hz9))
      exact bodyPost_cell rfl rfl (Fl.rL { S with half := -1, down := false, armed := false } (some ⟨gb, 0, none⟩) c2) 5 rfl (by kernel_rfl) hF9.sees rfl ⟨some ⟨gb, 0, none⟩, c2, rfl, ⟨RnAt.fresh (S := { S with half := -1, down := false, armed := false }) (hW3x.otherC n2 ho9) HN.out hn, .inr (hW3x.otherC n2 ho9)⟩, hB9⟩
  · have hcr : S.crash ks = { S.with_ (mask S.ws (σ * 64) (ks.take 64)) with half := -1, down := false, armed := false } := by
      unfold Fl.crash
      rw [decide_eq_false (by omega), hh]
      rfl
    rw [hcr]
    have HH := Lib.hid hh
    clear hcr hh
    go_enter Try.func62, Try.ntmps62
    go_wp2_with (first
        | (with_reducible refine wpList_box (o := ⟨some 2, _, _, _, _, _⟩) rfl (.tmp 0) 105 rfl (S.rL A c) rfl 5 rfl (by decide) ?_; intro g w1 hg hF hB; have z1 := hB.size; have lg := hF.lt_size)
        | (with_reducible refine wpList_alloc (o := ⟨some 4, _, _, _, _, _⟩) rfl 105 rfl (rnL none 0 0 0 0 false 0) (by kernel_rfl) 5 rfl (by decide) ?_; intro gr w2 hgr hFr hBr; have z2 := hBr.size; have gne : gr ≠ g := (by omega); have hF2 := hF.below hBr; have hB2 := Below.then_ hB hBr)
        | (with_reducible refine wpList_load (o := ⟨some 6, _, _, _, _, _⟩) rfl (.tmp 2) 105 rfl g 0 _ rfl (S.rL A c) 5 rfl (by kernel_rfl) hF2.sees ?_))
    refine (hOw w2 hB2).mono ?_
    rintro e w3 ⟨B, c2, rfl, hW3, hB3⟩
    have hF3 := hF2.below hB3
    have hR3 : Fresh w.heap.size 105 w3 (some ⟨gr, 0, none⟩) 5 5 (rnL none 0 0 0 0 false 0) := (hFr.below hB3).lower z1
    have hB03 := Below.then_ hB2 hB3
    have lgr := hFr.lt_size
    obtain ⟨gb, rfl, hgb, hgb2⟩ := hW3.spot_ (by omega)
    have n1 : gb ≠ g := by omega
    have n2 : gb ≠ gr := by omega
    clear hF2 hFr hB2 hOw
    go_wp2_with (with_reducible refine wpList_store rfl rfl (.tmp 2) (.tmp 7) 105 rfl g 0 w.heap.size 105 5 (S.rL A c) (S.rL (some ⟨gb, 0, none⟩) c2) rfl rfl 5 rfl (by kernel_rfl) hF3 (by omega) (allOne_out (by kernel_rfl)) w hB03 hg ?_; intro w5 hF5 hB5 ho5 hz5)
    have hF5' : Fresh w.heap.size 105 w5 (some ⟨g, 0, none⟩) 5 5 (S.rL (some ⟨gb, 0, none⟩) c2) := hF5
    have hRP : RP w g gr gb c2 S w5 := ⟨hF5', hR3.other gne ho5, (hW3.lower (by omega)).otherC n1 ho5, hB5⟩
    clear hF5 hF5' hR3 hW3 hF3 hB03 ho5
    have em : IntKind.i64.wrap ((σ : Int) * 64) = (σ : Int) * 64 := wrapI _ (by omega) (by omega)
    go_loopw [5] (fun i wr => ∃ k : Nat, k ≤ 64 ∧ i = .int .i64 (k : Int) ∧ RP w g gr gb c2 (S.with_ (mask S.ws (σ * 64) (ks.take k))) wr) (fun i _ => 64 - (intOf i).toNat)
    case atStart => exact ⟨0, by omega, rfl, by rw [List.take_zero]; exact hRP⟩
    case round =>
      obtain ⟨k, hk, rfl, hQ⟩ := hrel
      clear hRP
      have c4 : wr.cell? ⟨g, 4, none⟩ = some (.int .i64 (σ : Int)) := by
        have := hQ.box.cell (j := 4) (u := .int .i64 S.half) rfl
        rw [HH.out] at this
        exact this
      have hml : (mask S.ws (σ * 64) (ks.take k)).length = 64 * S.n := by rw [mask_len7]; exact HN.out
      have HML := Lib.hid hml
      clear hml
      by_cases hlt : k < 64
      · have c0 : wr.cell? ⟨g, 0, none⟩ = some (.slice (some ⟨gb, 0, none⟩) (64 * S.n) c2) := hQ.box.cell (j := 0) rfl
        have hzy : wr.frozen? ⟨gb, σ * 64 + k, none⟩ = false := World.ownsRow.frozenAt hQ.row _
        have eb : IntKind.i64.wrap ((σ : Int) * 64 + (k : Int)) = (σ : Int) * 64 + (k : Int) := wrapI _ (by omega) (by omega)
        obtain ⟨gy, oy, ey, hgy, y, HY, hy', hcy⟩ := hQ.row.sees.word (k := σ * 64 + k) HML.out (by omega)
        obtain ⟨rfl, rfl⟩ : gb = gy ∧ 0 = oy := by simpa using ey
        rw [Nat.zero_add] at hcy
        clear ey
        by_cases hkm : k < m
        · have hs7 := (hs.below hQ.below).more hQ.below.size
          obtain ⟨gx, ox, rfl, hgx, b, HX, hcx⟩ := hs7.bool HL.out hkm
          cases b
          · go_wp2_with fail
            go_roundw
            case rel => exact ⟨k + 1, by omega, by go_num, by rw [mask_off _ _ _ _ (by rw [HX.out]; simp)]; exact hQ⟩
            case measure => simp [intOf]; omega
          · go_wp2_with fail
            go_roundw
            case rel =>
              have hW8 := (World.ownsRow.stored hQ.row (σ * 64 + k) (.int .u32 4294967295)).1
              rw [show (cw (S.with_ (mask S.ws (σ * 64) (ks.take k))).ws).set (σ * 64 + k) (.int .u32 4294967295) = cw (S.with_ (mask S.ws (σ * 64) (ks.take (k + 1)))).ws from by
                show (cw (mask S.ws (σ * 64) (ks.take k))).set (σ * 64 + k) _ = cw (mask S.ws (σ * 64) (ks.take (k + 1)))
                rw [mask_on _ _ _ _ HX.out]
                simp [cw, List.map_set]] at hW8
              refine ⟨k + 1, by omega, by go_num, ⟨?_, ?_, hW8, ?_⟩⟩
              · exact hQ.box.other (Ne.symm n1) (rn_other _ ⟨gb, _, none⟩ _)
              · exact hQ.res.other (Ne.symm n2) (rn_other _ ⟨gb, _, none⟩ _)
              · exact hQ.below.setCell (p := ⟨gb, σ * 64 + k, none⟩) (by show _ ≤ gb; omega) _
            case measure => simp [intOf]; omega
        · go_wp2_with fail
          go_roundw
          case rel => exact ⟨k + 1, by omega, by go_num, by rw [mask_off _ _ _ _ (by rw [List.getElem?_eq_none (by rw [HL.out]; omega)]; simp)]; exact hQ⟩
          case measure => simp [intOf]; omega
      · obtain rfl : k = 64 := by omega
        have d4 : wr.cell? ⟨g, 4, none⟩ = some (.int .i64 (S.with_ (mask S.ws (σ * 64) (ks.take 64))).half) := hQ.box.cell (j := 4) rfl
        have f4 : wr.frozen? ⟨g, 4, none⟩ = false := hQ.box.frozenAt
        have hG1 := hQ.box.store 4 (.int .i64 (-1))
        have d3 : (wr.setCell ⟨g, 4, none⟩ (.int .i64 (-1))).cell? ⟨g, 3, none⟩ = some (.bool (S.with_ (mask S.ws (σ * 64) (ks.take 64))).down) := hG1.cell (j := 3) rfl
        have f3 : (wr.setCell ⟨g, 4, none⟩ (.int .i64 (-1))).frozen? ⟨g, 3, none⟩ = false := hG1.frozenAt
        have hG2 := hG1.store 3 (.bool false)
        have d2 : ((wr.setCell ⟨g, 4, none⟩ (.int .i64 (-1))).setCell ⟨g, 3, none⟩ (.bool false)).cell? ⟨g, 2, none⟩ = some (.int .i64 (S.with_ (mask S.ws (σ * 64) (ks.take 64))).leftR) := hG2.cell (j := 2) rfl
        have f2 : ((wr.setCell ⟨g, 4, none⟩ (.int .i64 (-1))).setCell ⟨g, 3, none⟩ (.bool false)).frozen? ⟨g, 2, none⟩ = false := hG2.frozenAt
        have hG3 : Fresh w.heap.size 105 (((wr.setCell ⟨g, 4, none⟩ (.int .i64 (-1))).setCell ⟨g, 3, none⟩ (.bool false)).setCell ⟨g, 2, none⟩ (.int .i64 (-1))) (some ⟨g, 0, none⟩) 5 5 (Fl.rL { S.with_ (mask S.ws (σ * 64) (ks.take 64)) with half := -1, down := false, armed := false } (some ⟨gb, 0, none⟩) c2) := hG2.store 2 (.int .i64 (-1))
        have hR3x := ((hQ.res.other gne (rn_other wr ⟨g, 4, none⟩ (.int .i64 (-1)))).other gne (rn_other _ ⟨g, 3, none⟩ (.bool false))).other gne (rn_other _ ⟨g, 2, none⟩ (.int .i64 (-1)))
        have hW3x := ((hQ.row.otherC n1 (rn_other wr ⟨g, 4, none⟩ (.int .i64 (-1)))).otherC n1 (rn_other _ ⟨g, 3, none⟩ (.bool false))).otherC n1 (rn_other _ ⟨g, 2, none⟩ (.int .i64 (-1)))
        have hB3x := ((hQ.below.setCell (p := ⟨g, 4, none⟩) hg (.int .i64 (-1))).setCell (p := ⟨g, 3, none⟩) hg (.bool false)).setCell (p := ⟨g, 2, none⟩) hg (.int .i64 (-1))
        clear hG1 hG2
        go_wp2_with (first
            | (with_reducible refine wpList_load (o := ⟨some 38, _, _, _, _, _⟩) rfl (.tmp 2) 105 rfl g 0 _ rfl (Fl.rL { S.with_ (mask S.ws (σ * 64) (ks.take 64)) with half := -1, down := false, armed := false } (some ⟨gb, 0, none⟩) c2) 5 rfl (by kernel_rfl) hG3.sees ?_)
            | (with_reducible refine wpList_store rfl rfl (.tmp 4) (.tmp 38) 105 rfl gr 0 w.heap.size 105 5 (rnL none 0 0 0 0 false 0) (Fl.rL { S.with_ (mask S.ws (σ * 64) (ks.take 64)) with half := -1, down := false, armed := false } (some ⟨gb, 0, none⟩) c2) rfl rfl 5 rfl (by kernel_rfl) hR3x (by omega) (allOne_out (by kernel_rfl)) w hB3x (by omega) ?_; intro w9 hF9 hB9 ho9 hz9))
        exact bodyPost_cell rfl rfl (Fl.rL { S.with_ (mask S.ws (σ * 64) (ks.take 64)) with half := -1, down := false, armed := false } (some ⟨gb, 0, none⟩) c2) 5 rfl (by kernel_rfl) hF9.sees rfl ⟨some ⟨gb, 0, none⟩, c2, rfl, ⟨RnAt.fresh (S := { S.with_ (mask S.ws (σ * 64) (ks.take 64)) with half := -1, down := false, armed := false }) (hW3x.otherC n2 ho9) HML.out hn, .inr (hW3x.otherC n2 ho9)⟩, hB9⟩
end
end Go.Proofs.Ytpdfalgjmeagjaa
namespace Go.Proofs.Ytpdfalgjmeagjaa
open Go.RowKit
set_option linter.unusedVariables false

/-- A world with its first blocks alone. -/
theorem cutW (w : World) (N : Nat) (h : N ≤ w.heap.size) : ∃ w0 : World, w0.heap.size = N ∧ Below N w0 w := by
  refine ⟨{ w with heap := w.heap.extract 0 N }, by simp; omega, rfl, rfl, rfl, by simp; omega, fun k hk => ?_⟩
  simp only [Array.getElem?_extract]
  rw [if_pos (by omega), Nat.zero_add]
theorem below_via {B N : Nat} {w w0 w1 w7 : World} (h : Below B w w1) (hBN : B ≤ N) (a : Below N w0 w1) (b : Below N w0 w7) (hs : w.heap.size ≤ w7.heap.size) : Below B w w7 :=
  ⟨b.os.trans (a.os.symm.trans h.os), b.tape.trans (a.tape.symm.trans h.tape), b.output.trans (a.output.symm.trans h.output), hs, fun k hk => (b.block k (by omega)).trans ((a.block k (by omega)).symm.trans (h.block k hk))⟩
section
variable {w : World}
set_option maxHeartbeats 1000000 in
set_option maxRecDepth 100000 in
theorem rNew_yes (n : Nat) (G : Int) (h1 : 1 ≤ n) (h2 : n ≤ 1024) (h3 : 0 ≤ G) (h4 : G ≤ n) :
    Calls Try.prog 56 #[.int .i64 (n : Int), .int .i64 G] w fun e w' => ∃ B c2, e = .returned (.tuple #[.agg ((Fl.made n G).rL B c2).toArray, .int .i64 0]) ∧ RnAt w' B c2 (Fl.made n G) ∧ Fresh w.heap.size 22 w' B (64 * n) c2 (cw (Fl.made n G).ws) ∧ Below w.heap.size w w' := by
  have dA : decide ((n : Int) < 1) = false := by simp; omega
  have dB : decide (1024 < (n : Int)) = false := by simp; omega
  have dC : decide (G < 0) = false := by simp; omega
  have dD : decide ((n : Int) < G) = false := by simp; omega
  have em : IntKind.i64.wrap ((n : Int) * 64) = (n : Int) * 64 := wrapI _ (by omega) (by omega)
  have HN := Lib.hid (And.intro h1 (And.intro h2 (And.intro h3 h4)))
  have hbd : ∀ w', (Instr.build 105 #[(1, .int .i64 G), (2, .int .i64 (-1)), (4, .int .i64 (-1))]).run Try.prog w' = .ok (.agg (rnL none 0 0 G (-1) false (-1)).toArray) w' := fun w' => run_build w' _ _ _ (by kernel_rfl)
  clear h1 h2 h3 h4
  go_enter Try.func56, Try.ntmps56
  go_wp2_with (first
    | (with_reducible refine wpList_alloc (o := ⟨some 4, _, _, _, _, _⟩) rfl 105 rfl (rnL none 0 0 0 0 false 0) (by kernel_rfl) 5 rfl (by decide) ?_; intro gr w1 hgr hFr hBr; have zr := hBr.size; have lgr := hFr.lt_size)
    | (with_reducible refine wpList_alloc (o := ⟨some 6, _, _, _, _, _⟩) rfl 105 rfl (rnL none 0 0 0 0 false 0) (by kernel_rfl) 5 rfl (by decide) ?_; intro g w2 hg hF hB; have zg := hB.size; have lg := hF.lt_size; have hFr2 := hFr.below hB; have hB2 := Below.then_ hBr hB; have gne : gr ≠ g := (by omega))
    | (with_reducible refine wpList_store rfl rfl (.tmp 6) (.tmp 25) 105 rfl g 0 w1.heap.size 105 5 (rnL none 0 0 0 0 false 0) (rnL none 0 0 G (-1) false (-1)) rfl rfl 5 rfl (by kernel_rfl) hF (by omega) (allOne_out (by kernel_rfl)) w hB2 (by omega) ?_; intro w3 hF3 hB3 ho3 hz3))
  have hF3' : Fresh w.heap.size 105 w3 (some ⟨g, 0, none⟩) 5 5 (rnL none 0 0 G (-1) false (-1)) := (hF3.lower (by omega))
  have hR3 : Fresh w.heap.size 105 w3 (some ⟨gr, 0, none⟩) 5 5 (rnL none 0 0 0 0 false 0) := (hFr2.other gne ho3).lower (by omega)
  obtain ⟨N, hN⟩ : ∃ N, w2.heap.size = N := ⟨_, rfl⟩
  have gN : g < N := by omega
  have grN : gr < N := by omega
  have wN : w.heap.size ≤ N := by omega
  have N3 : N ≤ w3.heap.size := by omega
  clear hF hB hF3 hFr hFr2 hBr hB2 ho3 hN hz3 hbd
  go_loopw [7] (fun i wr => ∃ (k : Nat) (B : Option Addr) (cb : Nat), k ≤ 64 * n ∧ i = .int .i64 (k : Int) ∧ Fresh w.heap.size 105 wr (some ⟨g, 0, none⟩) 5 5 (rnL B k cb G (-1) false (-1)) ∧ Fresh w.heap.size 105 wr (some ⟨gr, 0, none⟩) 5 5 (rnL none 0 0 0 0 false 0) ∧ Fresh N 22 wr B k cb (cw (List.replicate k 4294967295)) ∧ Below w.heap.size w wr ∧ N ≤ wr.heap.size) (fun i _ => 64 * n - (intOf i).toNat)
  case atStart => exact ⟨0, none, 0, by omega, rfl, hF3', hR3, fresh_nil _ _ _, hB3, N3⟩
  case round =>
    obtain ⟨k, B, cb, hk, rfl, hG, hR, hW, hBw, hNw⟩ := hrel
    clear hF3' hR3 hB3 N3
    have hn := HN.out.2.1
    by_cases hlt : k < 64 * n
    · have c0 : wr.cell? ⟨g, 0, none⟩ = some (.slice B k cb) := hG.cell (j := 0) rfl
      have hBa := below_alloc wr (.cells (cw [4294967295]).toArray 22 (0, 0))
      have hF1 := Fresh.new wr 22 (cw [4294967295]) 1 rfl (by decide)
      have hW1 := hW.below hBa
      have hG1 := hG.below hBa
      have hR1 := hR.below hBa
      have hBw1 := Below.then_ hBw hBa
      obtain ⟨w0, e0, hb0⟩ := cutW (wr.alloc (.cells (cw [4294967295]).toArray 22 (0, 0))) N (Nat.le_trans hNw hBa.size)
      have hW1' : Fresh w0.heap.size 22 (wr.alloc (.cells (cw [4294967295]).toArray 22 (0, 0))) B k cb (cw (List.replicate k 4294967295)) := by rw [e0]; exact hW1
      have hb0' : Below w0.heap.size w0 (wr.alloc (.cells (cw [4294967295]).toArray 22 (0, 0))) := by rw [e0]; exact hb0
      have ek : IntKind.i64.wrap ((k : Int) + 1) = (k : Int) + 1 := wrapI _ (by omega) (by omega)
      have hltI : (k : Int) < (n : Int) * 64 := by omega
      go_wp2_with (at_builtin; refine wpList_app32 rfl (.tmp 33) (.tmp 34) rfl B (some ⟨wr.heap.size, 0, none⟩) k cb 1 1 (List.replicate k 4294967295) [4294967295] w0 rfl rfl hW1' hF1.sees rfl (by omega) hb0' ?_; intro B2 cb2 w7 hF7 hB7; have hG7 := hG1.kept ((hB7.block g (by rw [e0]; exact gN)).trans (hb0'.block g (by rw [e0]; exact gN)).symm); have hR7 := hR1.kept ((hB7.block gr (by rw [e0]; exact grN)).trans (hb0'.block gr (by rw [e0]; exact grN)).symm); have d0 : w7.cell? ⟨g, 0, none⟩ = some (.slice B k cb) := hG7.cell (j := 0) rfl; have f0 : w7.frozen? ⟨g, 0, none⟩ = false := hG7.frozenAt)
      go_roundw
      case rel =>
        have hz7 : w.heap.size ≤ w7.heap.size := by have := hB7.size; omega
        have hB07 := below_via hBw1 (by omega) hb0' hB7 hz7
        have hF7' : Fresh N 22 w7 B2 (k + 1) cb2 (cw (List.replicate (k + 1) 4294967295)) := by
          rw [e0] at hF7
          rw [show List.replicate (k + 1) (4294967295 : UInt32) = List.replicate k 4294967295 ++ [4294967295] from List.replicate_succ']
          exact hF7
        refine ⟨k + 1, B2, cb2, by omega, by go_num, hG7.store 0 (.slice B2 (k + 1) cb2), hR7.other gne (rn_other w7 ⟨g, 0, none⟩ (.slice B2 (k + 1) cb2)), hF7'.apart fun q hq => rn_other w7 ⟨g, 0, none⟩ (.slice B2 (k + 1) cb2) q (by show q ≠ g; omega), hB07.setCell (p := ⟨g, 0, none⟩) (by show _ ≤ g; omega) _, ?_⟩
        have := hB7.size
        simp [World.setCell]
        omega
      case measure => simp [intOf]; omega
    · obtain rfl : k = 64 * n := by omega
      have hltI : ¬ ((64 * n : Nat) : Int) < (n : Int) * 64 := by omega
      have hG' : Fresh w.heap.size 105 wr (some ⟨g, 0, none⟩) 5 5 ((Fl.made n G).rL B cb) := hG
      go_wp2_with (first
        | (with_reducible refine wpList_load (o := ⟨some 37, _, _, _, _, _⟩) rfl (.tmp 6) 105 rfl g 0 _ rfl ((Fl.made n G).rL B cb) 5 rfl (by kernel_rfl) hG'.sees ?_)
        | (with_reducible refine wpList_store rfl rfl (.tmp 4) (.tmp 37) 105 rfl gr 0 w.heap.size 105 5 (rnL none 0 0 0 0 false 0) ((Fl.made n G).rL B cb) rfl rfl 5 rfl (by kernel_rfl) hR (by omega) (allOne_out (by kernel_rfl)) w hBw (by omega) ?_; intro w9 hF9 hB9 ho9 hz9))
      refine bodyPost_cellt rfl rfl (.int .i64 0) rfl ((Fl.made n G).rL B cb) 5 rfl (by kernel_rfl) hF9.sees rfl ⟨B, cb, rfl, RnAt.fresh (S := Fl.made n G) (hW.apart fun q hq => ho9 q (by omega)) (by simp [Fl.made]) hn, (hW.apart fun q hq => ho9 q (by omega)).lower wN, hB9⟩
end
end Go.Proofs.Ytpdfalgjmeagjaa
namespace Go.Proofs.Ytpdfalgjmeagjaa
open Go.RowKit
set_option linter.unusedVariables false

def snFacts (p g : Nat) (n : Nat) (G : Int) (D : Bool) (rL : List Value) (j : Nat) (v : Value) (w : World) : Prop :=
  match j with
  | 0 => v = .pointer (some ⟨p, 0, none⟩)
  | 1 => v = .int .i64 (n : Int)
  | 2 => v = .agg (rL).toArray
  | 3 => v = .int .i64 (n : Int)
  | 4 => v = .bool false
  | 5 => v = .bool false
  | 6 => v = .pointer (some ⟨p, 0, none⟩)
  | 7 => v = .int .i64 G
  | 8 => v = .pointer (some ⟨g, 1, none⟩)
  | 9 => v = .int .i64 G
  | 10 => v = .bool false
  | 11 => v = .bool false
  | 12 => v = .bool false
  | 13 => v = .pointer (some ⟨p, 0, none⟩)
  | 14 => v = .bool D
  | 15 => v = .pointer (some ⟨g, 3, none⟩)
  | 16 => v = .bool D
  | 17 => v = .bool false
  | _ => True
theorem snFacts_stab (p g : Nat) (n : Nat) (G : Int) (D : Bool) (rL : List Value) : ∀ j v w w', Below w.heap.size w w' → snFacts p g n G D rL j v w → snFacts p g n G D rL j v w' := by
  intro j v w w' hb h
  exact h
section
variable {w : World} {base p b : Nat} {A : Option Addr} {c : Nat} {S : Fl}
set_option maxHeartbeats 2000000 in
set_option maxRecDepth 100000 in
theorem SameNor_any (h : NorAt base w p b S) (hr : RnAt w A c S) :
    Calls Try.prog 66 #[.pointer (some ⟨p, 0, none⟩), .agg (S.rL A c).toArray] w fun e w' => e = .returned (.bool true) ∧ Below w.heap.size w w' := by
  have hSr : ∀ w', Calls Try.prog 138 #[.agg (S.rL A c).toArray] w' fun e w2 => e = .returned (.int .i64 (S.n : Int)) ∧ Below w'.heap.size w' w2 := fun w' => rSectors_any (A := A) (c := c) S.n hr.n_le S.guard S.leftR S.down S.half w'
  have hn := hr.n_le
  go_enter Try.func66, Try.ntmps66
  go_wp2_with (with_reducible refine wpList_box (o := ⟨some 3, _, _, _, _, _⟩) rfl (.tmp 1) 105 rfl (S.rL A c) rfl 5 rfl (by decide) ?_; intro g w1 hg hF hB)
  have h1 := h.below hB
  have hr1 := hr.step hB
  refine region_all_tail 18 (snFacts p g S.n S.guard S.down (S.rL A c)) (by kernel_rfl) (by kernel_rfl) (by kernel_rfl) (snFacts_stab _ _ _ _ _ _) ?_ ?_
  · intro w0 hb0
    simp only [List.take_succ_cons, List.take_zero]
    refine ⟨?_, ?_, ?_, ?_, ?_, ?_, ?_, ?_, ?_, ?_, ?_, ?_, ?_, ?_, ?_, ?_, ?_, ?_, trivial⟩
    all_goals intro listed a1 w' hk hd
    · have f2 := hk.ev_old 0 (by kernel_rfl)
      exact stepOk_value rfl (v := .pointer (some ⟨p, 0, none⟩)) (by simp [execOp]; exact f2) rfl
    · obtain ⟨v0, e0, q0, rfl⟩ := hk.ev_new hd 0 11 (by kernel_rfl) rfl
      have hN := (h1.below hb0).below hk.below
      refine stepOk_enter (by simp [Region.wanted]) (f := 101) (args := #[.pointer (some ⟨p, 0, none⟩)]) (by go_simp) ?_
      refine (Sectors_any hN).mono ?_
      rintro e w5 ⟨rfl, rfl⟩
      exact ⟨_, rfl, rfl, Below.refl _ _⟩
    · have hX := (hF.below hb0).below hk.below
      have f2 : a1.eval (.tmp 3) = .pointer (some ⟨g, 0, none⟩) := hk.ev_old 3 (by kernel_rfl)
      exact stepOk_value rfl (run_load_agg (.tmp 3) 105 rfl f2 (S.rL A c) 5 rfl (by kernel_rfl) hX.sees) rfl
    · obtain ⟨v2, e2, q2, rfl⟩ := hk.ev_new hd 2 13 (by kernel_rfl) rfl
      refine stepOk_enter (by simp [Region.wanted]) (f := 138) (args := #[.agg (S.rL A c).toArray]) (by go_simp) ?_
      refine (hSr _).mono ?_
      rintro e w5 ⟨rfl, hB5⟩
      exact ⟨_, rfl, rfl, hB5⟩
    · obtain ⟨v1, e1, q1, rfl⟩ := hk.ev_new hd 1 12 (by kernel_rfl) rfl
      obtain ⟨v3, e3, q3, rfl⟩ := hk.ev_new hd 3 14 (by kernel_rfl) rfl
      exact stepOk_value rfl (v := .bool false) (by go_simp) rfl
    · obtain ⟨v4, e4, q4, rfl⟩ := hk.ev_new hd 4 15 (by kernel_rfl) rfl
      exact stepOk_value rfl (v := .bool false) (by go_simp) rfl
    · obtain ⟨v5, e5, q5, rfl⟩ := hk.ev_new hd 5 16 (by kernel_rfl) rfl
      have f2 := hk.ev_old 0 (by kernel_rfl)
      exact stepOk_val_q (wanted_at (t := 16) rfl rfl q5) (v := .pointer (some ⟨p, 0, none⟩)) (by simp [execOp]; exact f2) rfl
    · obtain ⟨v5, e5, q5, rfl⟩ := hk.ev_new hd 5 16 (by kernel_rfl) rfl
      obtain ⟨v6, e6, q6, rfl⟩ := hk.ev_new hd 6 17 (by kernel_rfl) rfl
      have hN := (h1.below hb0).below hk.below
      refine stepOk_enter (wanted_at (t := 16) rfl rfl q5) (f := 147) (args := #[.pointer (some ⟨p, 0, none⟩)]) (by go_simp) ?_
      refine (Guard_any hN).mono ?_
      rintro e w5 ⟨rfl, rfl⟩
      exact ⟨_, rfl, rfl, Below.refl _ _⟩
    · obtain ⟨v5, e5, q5, rfl⟩ := hk.ev_new hd 5 16 (by kernel_rfl) rfl
      have f2 : a1.eval (.tmp 3) = .pointer (some ⟨g, 0, none⟩) := hk.ev_old 3 (by kernel_rfl)
      have f3 : a1.tmps[3]?.getD undef = .pointer (some ⟨g, 0, none⟩) := by simpa [Act.eval] using f2
      exact stepOk_val_q (wanted_at (t := 16) rfl rfl q5) (v := .pointer (some ⟨g, 1, none⟩)) (by go_simp) rfl
    · obtain ⟨v5, e5, q5, rfl⟩ := hk.ev_new hd 5 16 (by kernel_rfl) rfl
      obtain ⟨v8, e8, q8, rfl⟩ := hk.ev_new hd 8 19 (by kernel_rfl) rfl
      have hX := (hF.below hb0).below hk.below
      have c1 : w'.cell? ⟨g, 1, none⟩ = some (.int .i64 S.guard) := hX.cell (j := 1) rfl
      exact stepOk_val_q (wanted_at (t := 16) rfl rfl q5) (v := .int .i64 S.guard) (by go_simp) rfl
    · obtain ⟨v5, e5, q5, rfl⟩ := hk.ev_new hd 5 16 (by kernel_rfl) rfl
      obtain ⟨v7, e7, q7, rfl⟩ := hk.ev_new hd 7 18 (by kernel_rfl) rfl
      obtain ⟨v9, e9, q9, rfl⟩ := hk.ev_new hd 9 20 (by kernel_rfl) rfl
      exact stepOk_val_q (wanted_at (t := 16) rfl rfl q5) (v := .bool false) (by go_simp) rfl
    · obtain ⟨v5, e5, q5, rfl⟩ := hk.ev_new hd 5 16 (by kernel_rfl) rfl
      obtain ⟨v10, e10, q10, rfl⟩ := hk.ev_new hd 10 21 (by kernel_rfl) rfl
      exact stepOk_value rfl (v := .bool false) (by go_simp) rfl
    · obtain ⟨v11, e11, q11, rfl⟩ := hk.ev_new hd 11 22 (by kernel_rfl) rfl
      exact stepOk_value rfl (v := .bool false) (by go_simp) rfl
    · obtain ⟨v12, e12, q12, rfl⟩ := hk.ev_new hd 12 23 (by kernel_rfl) rfl
      have f2 := hk.ev_old 0 (by kernel_rfl)
      exact stepOk_val_q (wanted_at (t := 23) rfl rfl q12) (v := .pointer (some ⟨p, 0, none⟩)) (by simp [execOp]; exact f2) rfl
    · obtain ⟨v12, e12, q12, rfl⟩ := hk.ev_new hd 12 23 (by kernel_rfl) rfl
      obtain ⟨v13, e13, q13, rfl⟩ := hk.ev_new hd 13 24 (by kernel_rfl) rfl
      have hN := (h1.below hb0).below hk.below
      refine stepOk_enter (wanted_at (t := 23) rfl rfl q12) (f := 34) (args := #[.pointer (some ⟨p, 0, none⟩)]) (by go_simp) ?_
      refine (Down_any hN).mono ?_
      rintro e w5 ⟨rfl, rfl⟩
      exact ⟨_, rfl, rfl, Below.refl _ _⟩
    · obtain ⟨v12, e12, q12, rfl⟩ := hk.ev_new hd 12 23 (by kernel_rfl) rfl
      have f2 : a1.eval (.tmp 3) = .pointer (some ⟨g, 0, none⟩) := hk.ev_old 3 (by kernel_rfl)
      have f3 : a1.tmps[3]?.getD undef = .pointer (some ⟨g, 0, none⟩) := by simpa [Act.eval] using f2
      exact stepOk_val_q (wanted_at (t := 23) rfl rfl q12) (v := .pointer (some ⟨g, 3, none⟩)) (by go_simp) rfl
    · obtain ⟨v12, e12, q12, rfl⟩ := hk.ev_new hd 12 23 (by kernel_rfl) rfl
      obtain ⟨v15, e15, q15, rfl⟩ := hk.ev_new hd 15 26 (by kernel_rfl) rfl
      have hX := (hF.below hb0).below hk.below
      have c3 : w'.cell? ⟨g, 3, none⟩ = some (.bool S.down) := hX.cell (j := 3) rfl
      exact stepOk_val_q (wanted_at (t := 23) rfl rfl q12) (v := .bool S.down) (by go_simp) rfl
    · obtain ⟨v12, e12, q12, rfl⟩ := hk.ev_new hd 12 23 (by kernel_rfl) rfl
      obtain ⟨v14, e14, q14, rfl⟩ := hk.ev_new hd 14 25 (by kernel_rfl) rfl
      obtain ⟨v16, e16, q16, rfl⟩ := hk.ev_new hd 16 27 (by kernel_rfl) rfl
      exact stepOk_val_q (wanted_at (t := 23) rfl rfl q12) (v := .bool false) (by go_simp) rfl
  · intro a1 w2 hbw hp
    obtain ⟨v0, p0, v1, p1, v2, p2, v3, p3, v4, p4, v5, p5, v6, p6, v7, p7, v8, p8, v9, p9, v10, p10, v11, p11, v12, p12, v13, p13, v14, p14, v15, p15, v16, p16, v17, p17, rfl⟩ := hp
    simp only [snFacts] at p0 p1 p2 p3 p4 p5 p6 p7 p8 p9 p10 p11 p12 p13 p14 p15 p16 p17
    subst p0 p1 p2 p3 p4 p5 p6 p7 p8 p9 p10 p11 p12 p13 p14 p15 p16 p17
    simp only [List.drop_succ_cons, List.drop_zero, Act.put, List.setIfInBounds_toArray, List.set_cons_succ, List.set_cons_zero]
    have hF2 := hF.below hbw
    have h2 := h1.below hbw
    have hr2 := hr1.step hbw
    have hB2 := Below.then_ hB hbw
    clear hF h1 hr1 hB hbw
    go_wp2_with fail
    go_loopw [5] (fun iv wr => ∃ i : Nat, i ≤ S.n ∧ iv = .int .i64 (i : Int) ∧ Below w2.heap.size w2 wr) (fun iv _ => S.n - (intOf iv).toNat)
    case atStart => exact ⟨0, by omega, rfl, Below.refl _ _⟩
    case round =>
      obtain ⟨i, hi, rfl, hBw⟩ := hrel
      have hFw := hF2.below hBw
      go_wp2_with (with_reducible refine wpList_load (o := ⟨some 31, _, _, _, _, _⟩) rfl (.tmp 3) 105 rfl g 0 _ rfl (S.rL A c) 5 rfl (by kernel_rfl) hFw.sees ?_)
      refine (hSr wr).mono ?_
      rintro e w3 ⟨rfl, hB3⟩
      have hB23 := Below.then_ hBw hB3
      by_cases hlt : i < S.n
      · go_wp2_with fail
        go_loopw [6] (fun jv wr => ∃ j : Nat, j ≤ 64 ∧ jv = .int .i64 (j : Int) ∧ Below w2.heap.size w2 wr) (fun jv _ => 64 - (intOf jv).toNat)
        case atStart => exact ⟨0, by omega, rfl, hB23⟩
        case round =>
          obtain ⟨j, hj, rfl, hBj⟩ := hrel
          by_cases hj2 : j < 64
          · obtain ⟨v, r, hvr⟩ : ∃ v r, S.read (i : Int) (j : Int) = (v, r) := ⟨_, _, rfl⟩
            have hA := Read_any (h2.below hBj) (i : Int) (j : Int) (by omega) v r hvr
            have hFj := hF2.below hBj
            have hBq := fun (w' : World) (x : Below wr.heap.size wr w') => rRead_any ((hr2.step hBj).step x) (i : Int) (j : Int) (by omega) v r hvr
            clear hvr
            go_wp2_with fail
            refine hA.mono ?_
            rintro e w4 ⟨rfl, rfl⟩
            go_wp2_with (with_reducible refine wpList_load (o := ⟨some 48, _, _, _, _, _⟩) rfl (.tmp 3) 105 rfl g 0 _ rfl (S.rL A c) 5 rfl (by kernel_rfl) hFj.sees ?_)
            refine (hBq w4 (Below.refl _ _)).mono ?_
            rintro e w5 ⟨rfl, hB5⟩
            have hB25 := Below.then_ hBj hB5
            go_wp2_with fail
            go_roundw
            case rel => exact ⟨j + 1, by omega, by go_num, hB25⟩
            case measure => simp [intOf]; omega
          · obtain rfl : j = 64 := by omega
            go_wp2_with fail
            go_roundw
            case rel => exact ⟨i + 1, by omega, by go_num, hBj⟩
            case measure => simp [intOf]; omega
      · go_wp2_with fail
        go_ret
        exact ⟨rfl, Below.then_ hB2 hB23⟩
/-- What a call leaves is off the flash's own blocks, as what it was handed was. -/
theorem RnTo.off {w' : World} {B : Option Addr} {c2 : Nat} {T : Fl} (h : RnTo w w' A B c c2 S T) (x : Below w.heap.size w w') (hA : Off p b w A (cw S.ws)) (hp : p < w.heap.size) (hb : b < w.heap.size) : Off p b w' B (cw T.ws) := by
  rcases h.from_ with ⟨rfl, -, hw, -⟩ | hF
  · rw [hw]
    exact hA.step (But.of_below x)
  · intro w'' y
    exact (hF.butC y hp hb).sees
end
end Go.Proofs.Ytpdfalgjmeagjaa
