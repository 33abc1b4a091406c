/-
  What Pins and letters of package code answer, for every input.
-/
import Derived.Test.YtangblcfdboghaaCodeLeaf
import Derived.Test.YtangblcfdboghaaArr
import Derived.Below
import Derived.Laws.ResultCell
namespace Go.Proofs.Ytangblcfdboghaa
open Go.RowKit
set_option linter.unusedVariables false

/-- Two results: one in memory of this call's own, one beside it. -/
theorem post_cell_tmp {P : Program} {a : Act} {w : World} {fn : Func} {R : Ending → World → Prop} {p q : Tmp} {T : TypeId} {g B off : Nat} (hr : fn.results = #[.cell p T, .tmp q]) (hp : a.tmps.getD p undef = .pointer (some ⟨g, off, none⟩)) (u : Value) (hq : a.tmps.getD q undef = u) (xs : List Value) (n : Nat) (hn : xs.length = n) (hT : aggB P T n = true) (hs : Sees w B (some ⟨g, off, none⟩) xs)
    (hd : a.defers = []) (hR : R (.returned (.tuple #[.agg xs.toArray, u])) w) : bodyPost P fn R .ret a w := by
  subst hn
  refine ⟨hd, _, ?_, hR⟩
  rw [results_cell_tmp hr, hp, hq]
  simp [asAddr, run_loadVar_sees T xs hT hs]

theorem sees_new (w : World) (e : TypeId) (xs : List Value) : Sees (w.alloc (.cells xs.toArray e (0, 0))) (w.alloc (.cells xs.toArray e (0, 0))).heap.size (some ⟨w.heap.size, 0, none⟩) xs := fun _ =>
  ⟨w.heap.size, 0, rfl, by simp, fun j u hu => by rw [Nat.zero_add, World.cell?_alloc_mark]; simpa using hu⟩
/-- What stands for the fields of an Op, as a value. -/
def trioV : Option (Nat × Nat × Nat) → Value
  | some (a, b, c) => .tuple #[.agg #[.int .u8 (a : Int), .int .u8 (b : Int), .int .u8 (c : Int)], .bool true]
  | none => .tuple #[.agg #[.int .u8 0, .int .u8 0, .int .u8 0], .bool false]

set_option maxHeartbeats 4000000 in
theorem letters_any (o : Nat) (w : World) :
    Calls Try.prog 74 #[.int .u8 (o : Int)] w fun e w' => e = .returned (trioV (letF o)) ∧ Below w.heap.size w w' := by
  have h : o = 1 ∨ o = 2 ∨ o = 3 ∨ o = 4 ∨ o = 5 ∨ o = 6 ∨ o = 7 ∨ o = 8 ∨ o = 9 ∨ o = 10 ∨ o = 11 ∨ o = 12 ∨ o = 13 ∨ o = 14 ∨ o = 15 ∨ o = 16 ∨ o = 17 ∨ o = 18 ∨ o = 19 ∨ o = 20 ∨ o = 21 ∨ o = 22 ∨ (o ≠ 1 ∧ o ≠ 2 ∧ o ≠ 3 ∧ o ≠ 4 ∧ o ≠ 5 ∧ o ≠ 6 ∧ o ≠ 7 ∧ o ≠ 8 ∧ o ≠ 9 ∧ o ≠ 10 ∧ o ≠ 11 ∧ o ≠ 12 ∧ o ≠ 13 ∧ o ≠ 14 ∧ o ≠ 15 ∧ o ≠ 16 ∧ o ≠ 17 ∧ o ≠ 18 ∧ o ≠ 19 ∧ o ≠ 20 ∧ o ≠ 21 ∧ o ≠ 22) := by omega
  rcases h with rfl | rfl | rfl | rfl | rfl | rfl | rfl | rfl | rfl | rfl | rfl | rfl | rfl | rfl | rfl | rfl | rfl | rfl | rfl | rfl | rfl | rfl | ⟨h1, h2, h3, h4, h5, h6, h7, h8, h9, h10, h11, h12, h13, h14, h15, h16, h17, h18, h19, h20, h21, h22⟩
  iterate 22
    · go_enter Try.func74, Try.ntmps74
      go_wp2
      exact post_cell_tmp rfl rfl _ rfl _ 3 rfl (by kernel_rfl) (sees_new _ _ _) rfl ⟨rfl, below_alloc _ _⟩
  · have e1 : ((o : Int) == 1) = false := by simp; omega
    have e2 : ((o : Int) == 2) = false := by simp; omega
    have e3 : ((o : Int) == 3) = false := by simp; omega
    have e4 : ((o : Int) == 4) = false := by simp; omega
    have e5 : ((o : Int) == 5) = false := by simp; omega
    have e6 : ((o : Int) == 6) = false := by simp; omega
    have e7 : ((o : Int) == 7) = false := by simp; omega
    have e8 : ((o : Int) == 8) = false := by simp; omega
    have e9 : ((o : Int) == 9) = false := by simp; omega
    have e10 : ((o : Int) == 10) = false := by simp; omega
    have e11 : ((o : Int) == 11) = false := by simp; omega
    have e12 : ((o : Int) == 12) = false := by simp; omega
    have e13 : ((o : Int) == 13) = false := by simp; omega
    have e14 : ((o : Int) == 14) = false := by simp; omega
    have e15 : ((o : Int) == 15) = false := by simp; omega
    have e16 : ((o : Int) == 16) = false := by simp; omega
    have e17 : ((o : Int) == 17) = false := by simp; omega
    have e18 : ((o : Int) == 18) = false := by simp; omega
    have e19 : ((o : Int) == 19) = false := by simp; omega
    have e20 : ((o : Int) == 20) = false := by simp; omega
    have e21 : ((o : Int) == 21) = false := by simp; omega
    have e22 : ((o : Int) == 22) = false := by simp; omega
    have el : letF o = none := by simp [letF, h1, h2, h3, h4, h5, h6, h7, h8, h9, h10, h11, h12, h13, h14, h15, h16, h17, h18, h19, h20, h21, h22]
    go_enter Try.func74, Try.ntmps74
    go_wp2
    exact post_cell_tmp rfl rfl _ rfl _ 3 rfl (by kernel_rfl) (sees_new _ _ _) rfl ⟨by rw [el]; rfl, below_alloc _ _⟩

/-- Two lists of types in new memory. -/
def TwoMade (w : World) (r : List UInt8 × List UInt8) (e : Ending) (w' : World) : Prop :=
  ∃ A c B d, e = .returned (.tuple #[.slice A r.1.length c, .slice B r.2.length d]) ∧ Fresh w.heap.size 28 w' A r.1.length c (cb r.1) ∧ Fresh w.heap.size 28 w' B r.2.length d (cb r.2) ∧ Below w.heap.size w w'
theorem two_made (w : World) (l m : List UInt8) (e : Ending) (hl : l.length ≤ 10) (hm : m.length ≤ 10) (h : e = .returned (.tuple #[.slice (some ⟨w.heap.size, 0, none⟩) l.length l.length, .slice (some ⟨w.heap.size + 1, 0, none⟩) m.length m.length])) :
    TwoMade w (l, m) e ((w.alloc (.cells (cb l).toArray 28)).alloc (.cells (cb m).toArray 28)) := by
  have h1 := Fresh.new w 28 (cb l) l.length (by simp) (by omega)
  have h2 := Fresh.new (w.alloc (.cells (cb l).toArray 28)) 28 (cb m) m.length (by simp) (by omega)
  have es : (w.alloc (.cells (cb l).toArray 28)).heap.size = w.heap.size + 1 := by simp
  rw [es] at h2
  exact ⟨_, _, _, _, h, h1.below (below_alloc _ _), h2.lower (by omega), (below_alloc _ _).alloc (by simp) _⟩

set_option maxHeartbeats 4000000 in
theorem Pins_any (k : Nat) (w : World) :
    Calls Try.prog 20 #[.int .u8 (k : Int)] w (TwoMade w (pinsF k)) := by
  have h : k = 1 ∨ k = 2 ∨ k = 3 ∨ k = 4 ∨ k = 5 ∨ k = 6 ∨ k = 7 ∨ k = 8 ∨ k = 9 ∨ k = 10 ∨ k = 11 ∨ (k ≠ 1 ∧ k ≠ 2 ∧ k ≠ 3 ∧ k ≠ 4 ∧ k ≠ 5 ∧ k ≠ 6 ∧ k ≠ 7 ∧ k ≠ 8 ∧ k ≠ 9 ∧ k ≠ 10 ∧ k ≠ 11) := by omega
  rcases h with rfl | rfl | rfl | rfl | rfl | rfl | rfl | rfl | rfl | rfl | rfl | ⟨h1, h2, h3, h4, h5, h6, h7, h8, h9, h10, h11⟩
  iterate 11
    · go_enter Try.func20, Try.ntmps20
      go_wp2
      go_ret2
      exact two_made _ _ _ _ (by decide) (by decide) rfl
  · have e1 : ((k : Int) == 1) = false := by simp; omega
    have e2 : ((k : Int) == 2) = false := by simp; omega
    have e3 : ((k : Int) == 3) = false := by simp; omega
    have e4 : ((k : Int) == 4) = false := by simp; omega
    have e5 : ((k : Int) == 5) = false := by simp; omega
    have e6 : ((k : Int) == 6) = false := by simp; omega
    have e7 : ((k : Int) == 7) = false := by simp; omega
    have e8 : ((k : Int) == 8) = false := by simp; omega
    have e9 : ((k : Int) == 9) = false := by simp; omega
    have e10 : ((k : Int) == 10) = false := by simp; omega
    have e11 : ((k : Int) == 11) = false := by simp; omega
    have el : pinsF k = ([], []) := by simp [pinsF, h1, h2, h3, h4, h5, h6, h7, h8, h9, h10, h11]
    go_enter Try.func20, Try.ntmps20
    go_wp2
    go_ret2
    rw [el]
    exact ⟨_, _, _, _, rfl, ⟨rfl, .inl ⟨rfl, rfl⟩⟩, ⟨rfl, .inl ⟨rfl, rfl⟩⟩, Below.refl _ _⟩
end Go.Proofs.Ytangblcfdboghaa
