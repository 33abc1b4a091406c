/-
  The document's own flash, by value: what its small calls answer.
-/
import Derived.Test.YtjmofjcdcmbecaaNorOps
import Derived.Test.YtjmofjcdcmbecaaLow
import Derived.Test.YtjmofjcdcmbecaaShaLeaf
import Derived.Laws.ResultCell
namespace Go.Proofs.Ytjmofjcdcmbecaa
open Go.RowKit
set_option linter.unusedVariables false

/-- How many steps there are, as the document's own flash writes it. -/
def Fl.leftR (S : Fl) : Int := match S.armed with
  | true => (S.left : Int)
  | false => -1
/-- The cells of the document's own flash. -/
def rnL (A : Option Addr) (n c : Nat) (G L : Int) (D : Bool) (H : Int) : List Value := [.slice A n c, .int .i64 G, .int .i64 L, .bool D, .int .i64 H]
def Fl.rL (S : Fl) (A : Option Addr) (c : Nat) : List Value := rnL A (64 * S.n) c S.guard S.leftR S.down S.half
/-- The words of a flash lie here. -/
structure RnAt (w : World) (A : Option Addr) (c : Nat) (S : Fl) : Prop where
  sees : Sees w w.heap.size A (cw S.ws)
  len : S.ws.length = 64 * S.n
  n_le : S.n ≤ 1024
  cap : 64 * S.n ≤ c
theorem RnAt.step {w w' : World} {A : Option Addr} {c : Nat} {S : Fl} (h : RnAt w A c S) (x : Below w.heap.size w w') : RnAt w' A c S := ⟨h.sees.step x, h.len, h.n_le, h.cap⟩
/-- Two results: one in memory of this call's own, one beside it. -/
theorem bodyPost_cellt {P : Program} {a : Act} {w : World} {fn : Func} {R : Ending → World → Prop} {p q : Tmp} {T : TypeId} {g B off : Nat} (hr : fn.results = #[.cell p T, .tmp q]) (hp : a.tmps.getD p undef = .pointer (some ⟨g, off, none⟩)) (u : Value) (hq : a.tmps.getD q undef = u) (xs : List Value) (n : Nat) (hn : xs.length = n) (hT : aggB P T n = true) (hs : Sees w B (some ⟨g, off, none⟩) xs)
    (hd : a.defers = []) (hR : R (.returned (.tuple #[.agg xs.toArray, u])) w) : bodyPost P fn R .ret a w := by
  subst hn
  refine ⟨hd, _, ?_, hR⟩
  rw [results_cell_tmp hr, hp, hq]
  simp [asAddr, run_loadVar_sees T xs hT hs]
section
variable {w : World} {A : Option Addr} {c : Nat} {S : Fl}
theorem rSectors_any (n : Nat) (hn : n ≤ 1024) (G L : Int) (D : Bool) (H : Int) (w : World) :
    Calls Try.prog 107 #[.agg (rnL A (64 * n) c G L D H).toArray] w fun e w' => e = .returned (.int .i64 (n : Int)) ∧ Below w.heap.size w w' := by
  have e2 : (64 * (n : Int)) / 64 = (n : Int) := by omega
  go_enter Try.func107, Try.ntmps107
  go_wp2_with (with_reducible refine wpList_box (o := ⟨some 1, _, _, _, _, _⟩) rfl (.tmp 0) 65 rfl (rnL A (64 * n) c G L D H) rfl 5 rfl (by decide) ?_; intro g w1 hg hF hB; have c0 := hF.cell (j := 0) rfl)
  go_ret
  exact ⟨rfl, hB⟩
theorem rn_other (w : World) (a : Addr) (u : Value) : ∀ k, k ≠ a.block → (w.setCell a u).heap[k]? = w.heap[k]? := fun k hk => by
  simp only [World.setCell, Array.getElem?_modify]
  rw [if_neg (Ne.symm hk)]
set_option maxHeartbeats 1000000 in
theorem rArm_any (k : Int) (S : Fl) (w : World) :
    Calls Try.prog 46 #[.agg (S.rL A c).toArray, .int .i64 k] w fun e w' => e = .returned (.agg ((S.arm k).rL A c).toArray) ∧ Below w.heap.size w w' := by
  cases hd : S.down
  · rw [show S.arm k = { S with armed := true, left := k.toNat } from by simp [Fl.arm, hd]]
    have hc3 : S.rL A c = rnL A (64 * S.n) c S.guard S.leftR false S.half := by unfold Fl.rL; rw [hd]
    have hc4 : Fl.rL { S with armed := true, left := k.toNat } A c = rnL A (64 * S.n) c S.guard (k.toNat : Int) false S.half := by unfold Fl.rL Fl.leftR; simp only [hd]
    rw [hc3, hc4]
    clear hc3 hc4 hd
    generalize S.leftR = L
    by_cases hk : k < 0
    · rw [show (k.toNat : Int) = 0 from by omega]
      go_enter Try.func46, Try.ntmps46
      go_wp2_with (first
          | (with_reducible refine wpList_box (o := ⟨some 2, _, _, _, _, _⟩) rfl (.tmp 0) 65 rfl (rnL A (64 * S.n) c S.guard L false S.half) rfl 5 rfl (by decide) ?_; intro g w1 hg hF hB; have z1 := hB.size; have lg := hF.lt_size)
          | (with_reducible refine wpList_alloc (o := ⟨some 4, _, _, _, _, _⟩) rfl 65 rfl (rnL none 0 0 0 0 false 0) (by kernel_rfl) 5 rfl (by decide) ?_; intro gr w2 hgr hFr hBr; have z2 := hBr.size; have gne : gr ≠ g := (by omega); have hF2 := hF.below hBr; have hB2 := Below.then_ hB hBr; have c2 := hF2.cell (j := 2) rfl; have c3 := hF2.cell (j := 3) rfl; have f2 : w2.frozen? ⟨g, 2, none⟩ = false := hF2.frozenAt)
          | (with_reducible refine wpList_load (o := ⟨some 13, _, _, _, _, _⟩) rfl (.tmp 2) 65 rfl g 0 _ rfl (rnL A (64 * S.n) c S.guard 0 false S.half) 5 rfl (by kernel_rfl) ((hF2.store 2 (.int .i64 k)).store 2 (.int .i64 0)).sees ?_)
          | (with_reducible refine wpList_store rfl rfl (.tmp 4) (.tmp 13) 65 rfl gr 0 w1.heap.size 65 5 (rnL none 0 0 0 0 false 0) (rnL A (64 * S.n) c S.guard 0 false S.half) rfl rfl 5 rfl (by kernel_rfl) ((hFr.other gne (rn_other w2 ⟨g, 2, none⟩ (.int .i64 k))).other gne (rn_other _ ⟨g, 2, none⟩ (.int .i64 0))) (by omega) (allOne_out (by kernel_rfl)) w ((hB2.setCell (p := ⟨g, 2, none⟩) hg _).setCell (p := ⟨g, 2, none⟩) hg _) (by omega) ?_; intro w9 hF9 hB9 _ _))
      exact bodyPost_cell rfl rfl (rnL A (64 * S.n) c S.guard 0 false S.half) 5 rfl (by kernel_rfl) hF9.sees rfl ⟨rfl, hB9⟩
    · rw [show (k.toNat : Int) = k from by omega]
      go_enter Try.func46, Try.ntmps46
      go_wp2_with (first
          | (with_reducible refine wpList_box (o := ⟨some 2, _, _, _, _, _⟩) rfl (.tmp 0) 65 rfl (rnL A (64 * S.n) c S.guard L false S.half) rfl 5 rfl (by decide) ?_; intro g w1 hg hF hB; have z1 := hB.size; have lg := hF.lt_size)
          | (with_reducible refine wpList_alloc (o := ⟨some 4, _, _, _, _, _⟩) rfl 65 rfl (rnL none 0 0 0 0 false 0) (by kernel_rfl) 5 rfl (by decide) ?_; intro gr w2 hgr hFr hBr; have z2 := hBr.size; have gne : gr ≠ g := (by omega); have hF2 := hF.below hBr; have hB2 := Below.then_ hB hBr; have c2 := hF2.cell (j := 2) rfl; have c3 := hF2.cell (j := 3) rfl; have f2 : w2.frozen? ⟨g, 2, none⟩ = false := hF2.frozenAt)
          | (with_reducible refine wpList_load (o := ⟨some 13, _, _, _, _, _⟩) rfl (.tmp 2) 65 rfl g 0 _ rfl (rnL A (64 * S.n) c S.guard k false S.half) 5 rfl (by kernel_rfl) (hF2.store 2 (.int .i64 k)).sees ?_)
          | (with_reducible refine wpList_store rfl rfl (.tmp 4) (.tmp 13) 65 rfl gr 0 w1.heap.size 65 5 (rnL none 0 0 0 0 false 0) (rnL A (64 * S.n) c S.guard k false S.half) rfl rfl 5 rfl (by kernel_rfl) (hFr.other gne (rn_other w2 ⟨g, 2, none⟩ (.int .i64 k))) (by omega) (allOne_out (by kernel_rfl)) w (hB2.setCell (p := ⟨g, 2, none⟩) hg _) (by omega) ?_; intro w9 hF9 hB9 _ _))
      exact bodyPost_cell rfl rfl (rnL A (64 * S.n) c S.guard k false S.half) 5 rfl (by kernel_rfl) hF9.sees rfl ⟨rfl, hB9⟩
  · rw [show S.arm k = S from by simp [Fl.arm, hd]]
    have hc3 : S.rL A c = rnL A (64 * S.n) c S.guard S.leftR true S.half := by unfold Fl.rL; rw [hd]
    rw [hc3]
    clear hc3 hd
    generalize S.leftR = L
    go_enter Try.func46, Try.ntmps46
    go_wp2_with (first
        | (with_reducible refine wpList_box (o := ⟨some 2, _, _, _, _, _⟩) rfl (.tmp 0) 65 rfl (rnL A (64 * S.n) c S.guard L true S.half) rfl 5 rfl (by decide) ?_; intro g w1 hg hF hB; have z1 := hB.size; have lg := hF.lt_size)
        | (with_reducible refine wpList_alloc (o := ⟨some 4, _, _, _, _, _⟩) rfl 65 rfl (rnL none 0 0 0 0 false 0) (by kernel_rfl) 5 rfl (by decide) ?_; intro gr w2 hgr hFr hBr; have z2 := hBr.size; have gne : gr ≠ g := (by omega); have hF2 := hF.below hBr; have hB2 := Below.then_ hB hBr; have c3 := hF2.cell (j := 3) rfl)
        | (with_reducible refine wpList_load (o := ⟨some 7, _, _, _, _, _⟩) rfl (.tmp 2) 65 rfl g 0 _ rfl (rnL A (64 * S.n) c S.guard L true S.half) 5 rfl (by kernel_rfl) hF2.sees ?_)
        | (with_reducible refine wpList_store rfl rfl (.tmp 4) (.tmp 7) 65 rfl gr 0 w1.heap.size 65 5 (rnL none 0 0 0 0 false 0) (rnL A (64 * S.n) c S.guard L true S.half) rfl rfl 5 rfl (by kernel_rfl) hFr (by omega) (allOne_out (by kernel_rfl)) w hB2 (by omega) ?_; intro w9 hF9 hB9 _ _))
    exact bodyPost_cell rfl rfl (rnL A (64 * S.n) c S.guard L true S.half) 5 rfl (by kernel_rfl) hF9.sees rfl ⟨rfl, hB9⟩
set_option maxHeartbeats 1000000 in
theorem rstep_any (n : Nat) (ws : List UInt32) (G : Int) (ar : Bool) (left : Nat) (D : Bool) (H : Int) (hl : left < 9223372036854775808) (T : Fl) (b : Bool) (hr : Fl.step ⟨n, ws, G, ar, left, D, H⟩ = (T, b)) (w : World) :
    Calls Try.prog 105 #[.agg (Fl.rL ⟨n, ws, G, ar, left, D, H⟩ A c).toArray] w fun e w' => e = .returned (.tuple #[.agg (T.rL A c).toArray, .bool b]) ∧ Below w.heap.size w w' := by
  cases ar
  · obtain ⟨rfl, rfl⟩ : (⟨n, ws, G, false, left, D, H⟩ : Fl) = T ∧ true = b := by simpa [Fl.step] using hr
    rw [show Fl.rL ⟨n, ws, G, false, left, D, H⟩ A c = rnL A (64 * n) c G (-1) D H from rfl]
    clear hr hl
    go_enter Try.func105, Try.ntmps105
    go_wp2_with (first
        | (with_reducible refine wpList_box (o := ⟨some 1, _, _, _, _, _⟩) rfl (.tmp 0) 65 rfl (rnL A (64 * n) c G (-1) D H) rfl 5 rfl (by decide) ?_; intro g w1 hg hF hB; have z1 := hB.size; have lg := hF.lt_size)
        | (with_reducible refine wpList_alloc (o := ⟨some 2, _, _, _, _, _⟩) rfl 65 rfl (rnL none 0 0 0 0 false 0) (by kernel_rfl) 5 rfl (by decide) ?_; intro gr w2 hgr hFr hBr; have z2 := hBr.size; have gne : gr ≠ g := (by omega); have hF2 := hF.below hBr; have hB2 := Below.then_ hB hBr; have c2 := hF2.cell (j := 2) rfl)
        | (with_reducible refine wpList_load (o := ⟨some 17, _, _, _, _, _⟩) rfl (.tmp 1) 65 rfl g 0 _ rfl (rnL A (64 * n) c G (-1) D H) 5 rfl (by kernel_rfl) hF2.sees ?_)
        | (with_reducible refine wpList_store rfl rfl (.tmp 2) (.tmp 17) 65 rfl gr 0 w1.heap.size 65 5 (rnL none 0 0 0 0 false 0) (rnL A (64 * n) c G (-1) D H) rfl rfl 5 rfl (by kernel_rfl) hFr (by omega) (allOne_out (by kernel_rfl)) w hB2 (by omega) ?_; intro w9 hF9 hB9 _ _))
    exact bodyPost_cellt rfl rfl (.bool true) rfl (rnL A (64 * n) c G (-1) D H) 5 rfl (by kernel_rfl) hF9.sees rfl ⟨rfl, hB9⟩
  · rcases left with _ | left
    · obtain ⟨rfl, rfl⟩ : (⟨n, ws, G, false, 0, true, H⟩ : Fl) = T ∧ false = b := by simpa [Fl.step] using hr
      rw [show Fl.rL ⟨n, ws, G, true, 0, D, H⟩ A c = rnL A (64 * n) c G 0 D H from rfl, show Fl.rL ⟨n, ws, G, false, 0, true, H⟩ A c = rnL A (64 * n) c G (-1) true H from rfl]
      clear hr hl
      go_enter Try.func105, Try.ntmps105
      go_wp2_with (first
          | (with_reducible refine wpList_box (o := ⟨some 1, _, _, _, _, _⟩) rfl (.tmp 0) 65 rfl (rnL A (64 * n) c G 0 D H) rfl 5 rfl (by decide) ?_; intro g w1 hg hF hB; have z1 := hB.size; have lg := hF.lt_size)
          | (with_reducible refine wpList_alloc (o := ⟨some 2, _, _, _, _, _⟩) rfl 65 rfl (rnL none 0 0 0 0 false 0) (by kernel_rfl) 5 rfl (by decide) ?_; intro gr w2 hgr hFr hBr; have z2 := hBr.size; have gne : gr ≠ g := (by omega); have hF2 := hF.below hBr; have hB2 := Below.then_ hB hBr; have c2 := hF2.cell (j := 2) rfl; have f2 : w2.frozen? ⟨g, 2, none⟩ = false := hF2.frozenAt; have d3 := (hF2.store 2 (.int .i64 (-1))).cell (j := 3) rfl; have f3 : (w2.setCell ⟨g, 2, none⟩ (.int .i64 (-1))).frozen? ⟨g, 3, none⟩ = false := (hF2.store 2 (.int .i64 (-1))).frozenAt)
          | (with_reducible refine wpList_load (o := ⟨some 9, _, _, _, _, _⟩) rfl (.tmp 1) 65 rfl g 0 _ rfl (rnL A (64 * n) c G (-1) true H) 5 rfl (by kernel_rfl) ((hF2.store 2 (.int .i64 (-1))).store 3 (.bool true)).sees ?_)
          | (with_reducible refine wpList_store rfl rfl (.tmp 2) (.tmp 9) 65 rfl gr 0 w1.heap.size 65 5 (rnL none 0 0 0 0 false 0) (rnL A (64 * n) c G (-1) true H) rfl rfl 5 rfl (by kernel_rfl) ((hFr.other gne (rn_other w2 ⟨g, 2, none⟩ (.int .i64 (-1)))).other gne (rn_other _ ⟨g, 3, none⟩ (.bool true))) (by omega) (allOne_out (by kernel_rfl)) w ((hB2.setCell (p := ⟨g, 2, none⟩) hg _).setCell (p := ⟨g, 3, none⟩) hg _) (by omega) ?_; intro w9 hF9 hB9 _ _))
      exact bodyPost_cellt rfl rfl (.bool false) rfl (rnL A (64 * n) c G (-1) true H) 5 rfl (by kernel_rfl) hF9.sees rfl ⟨rfl, hB9⟩
    · obtain ⟨rfl, rfl⟩ : (⟨n, ws, G, true, left, D, H⟩ : Fl) = T ∧ true = b := by simpa [Fl.step] using hr
      rw [show Fl.rL ⟨n, ws, G, true, left + 1, D, H⟩ A c = rnL A (64 * n) c G ((left : Int) + 1) D H from rfl, show Fl.rL ⟨n, ws, G, true, left, D, H⟩ A c = rnL A (64 * n) c G (left : Int) D H from rfl]
      have ew : IntKind.i64.wrap ((left : Int) + 1 - 1) = (left : Int) := by rw [wrapI _ (by omega) (by omega)]; omega
      have q1 : ¬ ((left : Int) + 1 = 0) := by omega
      have q2 : (0 : Int) < (left : Int) + 1 := by omega
      clear hr
      go_enter Try.func105, Try.ntmps105
      go_wp2_with (first
          | (with_reducible refine wpList_box (o := ⟨some 1, _, _, _, _, _⟩) rfl (.tmp 0) 65 rfl (rnL A (64 * n) c G ((left : Int) + 1) D H) rfl 5 rfl (by decide) ?_; intro g w1 hg hF hB; have z1 := hB.size; have lg := hF.lt_size)
          | (with_reducible refine wpList_alloc (o := ⟨some 2, _, _, _, _, _⟩) rfl 65 rfl (rnL none 0 0 0 0 false 0) (by kernel_rfl) 5 rfl (by decide) ?_; intro gr w2 hgr hFr hBr; have z2 := hBr.size; have gne : gr ≠ g := (by omega); have hF2 := hF.below hBr; have hB2 := Below.then_ hB hBr; have c2 := hF2.cell (j := 2) rfl; have f2 : w2.frozen? ⟨g, 2, none⟩ = false := hF2.frozenAt)
          | (with_reducible refine wpList_load (o := ⟨some 17, _, _, _, _, _⟩) rfl (.tmp 1) 65 rfl g 0 _ rfl (rnL A (64 * n) c G (left : Int) D H) 5 rfl (by kernel_rfl) (hF2.store 2 (.int .i64 (left : Int))).sees ?_)
          | (with_reducible refine wpList_store rfl rfl (.tmp 2) (.tmp 17) 65 rfl gr 0 w1.heap.size 65 5 (rnL none 0 0 0 0 false 0) (rnL A (64 * n) c G (left : Int) D H) rfl rfl 5 rfl (by kernel_rfl) (hFr.other gne (rn_other w2 ⟨g, 2, none⟩ (.int .i64 (left : Int)))) (by omega) (allOne_out (by kernel_rfl)) w (hB2.setCell (p := ⟨g, 2, none⟩) hg _) (by omega) ?_; intro w9 hF9 hB9 _ _))
      exact bodyPost_cellt rfl rfl (.bool true) rfl (rnL A (64 * n) c G (left : Int) D H) 5 rfl (by kernel_rfl) hF9.sees rfl ⟨rfl, hB9⟩
end
end Go.Proofs.Ytjmofjcdcmbecaa
