/-
  A drive in memory: its object beside its flash; and what its small inner functions answer.
-/
import Derived.Test.YtjmofjcdcmbecaaNorOps
import Derived.Test.YtjmofjcdcmbecaaNorMake
namespace Go.Proofs.Ytjmofjcdcmbecaa
open Go.RowKit
set_option linter.unusedVariables false

def drObj (d p f m : Nat) : List Value := [.pointer (some ⟨d, 0, none⟩), .pointer (some ⟨p, 0, none⟩), .int .i64 (f : Int), .int .i64 (m : Int)]
/-- A drive of m sectors of a flash, from its sector f on. -/
structure DrAt (base : Nat) (w : World) (d p b f m : Nat) (S : Fl) : Prop where
  nor : NorAt base w p b S
  obj : Fresh base 168 w (some ⟨d, 0, none⟩) 4 4 (drObj d p f m)
  fits : f + m ≤ S.n
  some_ : 1 ≤ m
section
variable {w w' : World} {base d p b f m : Nat} {S S' : Fl}
theorem DrAt.below (h : DrAt base w d p b f m S) (x : Below w.heap.size w w') : DrAt base w' d p b f m S := ⟨h.nor.below x, h.obj.below x, h.fits, h.some_⟩
theorem DrAt.dp (h : DrAt base w d p b f m S) : d ≠ p := fun e => by
  have h1 := h.obj.block.1
  have h2 := h.nor.obj.block.1
  rw [e, h2] at h1
  simp at h1
theorem DrAt.db (h : DrAt base w d p b f m S) : d ≠ b := fun e => by
  have h1 := h.obj.block.1
  have h2 := h.nor.row.block.1
  rw [e, h2] at h1
  simp at h1
/-- The flash is another one; the drive stays. -/
theorem DrAt.turn (h : DrAt base w d p b f m S) (x : But p b w w') (hN : NorAt base w' p b S') (hn : S'.n = S.n) : DrAt base w' d p b f m S' := ⟨hN, h.obj.but x h.dp h.db, by rw [hn]; exact h.fits, h.some_⟩
theorem DrAt.c (h : DrAt base w d p b f m S) : w.cell? ⟨d, 0, none⟩ = some (.pointer (some ⟨d, 0, none⟩)) ∧ w.cell? ⟨d, 1, none⟩ = some (.pointer (some ⟨p, 0, none⟩)) ∧ w.cell? ⟨d, 2, none⟩ = some (.int .i64 (f : Int)) ∧ w.cell? ⟨d, 3, none⟩ = some (.int .i64 (m : Int)) :=
  ⟨h.obj.cell rfl, h.obj.cell rfl, h.obj.cell rfl, h.obj.cell rfl⟩
theorem DrAt.small (h : DrAt base w d p b f m S) : f + m ≤ 1024 := Nat.le_trans h.fits h.nor.n_le
theorem run_drive (d : Nat) (w : World) : (binOp .eql 85 (.pointer (some ⟨d, 0, none⟩)) (.pointer (some ⟨d, 0, none⟩))).run Try.prog w = .ok (.bool true) w := by
  obtain ⟨j, hj⟩ : ∃ j, Try.prog.info? 168 = some j := Option.isSome_iff_exists.1 (by kernel_rfl)
  exact run_eql_ptr_same w (te := 168) ⟨d, 0, none⟩ (by kernel_rfl) hj
theorem isDrive_any (h : DrAt base w d p b f m S) : Calls Try.prog 115 #[.pointer (some ⟨d, 0, none⟩)] w fun e w' => e = .returned (.bool true) ∧ w' = w := by
  obtain ⟨c0, -⟩ := h.c
  have hq := run_drive d w
  go_enter Try.func115, Try.ntmps115
  go_wp2_with fail
  go_ret
  exact ⟨rfl, rfl⟩
/-- Are so many sectors there from this one on? -/
def secsOk (n : Nat) (first many : Int) : Bool := decide (0 ≤ first) && decide (1 ≤ many) && decide (many ≤ (n : Int) - first)
theorem hasSectors_any (n : Nat) (hn : n ≤ 1024) (s k : Int) (hs : s < 9223372036854775808) (r : Bool) (hr : secsOk n s k = r) (w : World) :
    Calls Try.prog 113 #[.int .i64 (n : Int), .int .i64 s, .int .i64 k] w fun e w' => e = .returned (.bool r) ∧ w' = w := by
  unfold secsOk at hr
  by_cases h0 : 0 ≤ s
  · have e : IntKind.i64.wrap ((n : Int) - s) = (n : Int) - s := wrapI _ (by omega) (by omega)
    have e' : wrap64 ((n : Int) - s) = (n : Int) - s := wrap64I _ (by omega) (by omega)
    by_cases h1 : 1 ≤ k
    · have q1 : decide (1 ≤ k) = true := by simp; exact h1
      rw [decide_eq_true h0, q1, Bool.true_and, Bool.true_and] at hr
      subst hr
      clear hs
      go_enter Try.func113, Try.ntmps113
      go_wp2_with fail
      go_ret
      exact ⟨rfl, rfl⟩
    · rw [decide_eq_false h1] at hr
      simp at hr
      subst hr
      clear hs
      go_enter Try.func113, Try.ntmps113
      go_wp2_with fail
      go_ret
      exact ⟨rfl, rfl⟩
  · rw [decide_eq_false h0] at hr
    simp at hr
    subst hr
    clear hs
    go_enter Try.func113, Try.ntmps113
    go_wp2_with fail
    go_ret
    exact ⟨rfl, rfl⟩
theorem dSectors_any (h : DrAt base w d p b f m S) : Calls Try.prog 64 #[.pointer (some ⟨d, 0, none⟩)] w fun e w' => e = .returned (.int .i64 (m : Int)) ∧ w' = w := by
  obtain ⟨-, -, -, c3⟩ := h.c
  go_enter Try.func64, Try.ntmps64
  go_wp2_with fail
  refine (isDrive_any h).mono ?_
  rintro e w1 ⟨rfl, rfl⟩
  go_wp2_with fail
  go_ret
  exact ⟨rfl, rfl⟩
theorem dSize_any (h : DrAt base w d p b f m S) (N : Nat) (hN : 64 * m = N) : Calls Try.prog 65 #[.pointer (some ⟨d, 0, none⟩)] w fun e w' => e = .returned (.int .i64 (N : Int)) ∧ w' = w := by
  have hm := h.small
  have e1 : 64 * (m : Int) = (N : Int) := by omega
  have e2 : wrap64 (64 * (m : Int)) = (N : Int) := by rw [wrap64I _ (by omega) (by omega)]; exact e1
  have e3 : IntKind.i64.wrap (64 * (m : Int)) = (N : Int) := by rw [wrapI _ (by omega) (by omega)]; exact e1
  go_enter Try.func65, Try.ntmps65
  go_wp2_with fail
  refine (dSectors_any h).mono ?_
  rintro e w1 ⟨rfl, rfl⟩
  go_wp2_with fail
  go_ret
  exact ⟨rfl, rfl⟩
/-- Are so many words there from this one on? -/
def wordsOk (m : Nat) (a k : Int) : Bool := decide (0 ≤ a) && decide (0 ≤ k) && decide (k ≤ 64 * (m : Int) - a)
theorem dPlace_any (h : DrAt base w d p b f m S) (a k : Int) (ha : a < 9223372036854775808) (r : Bool) (hr : wordsOk m a k = r) :
    Calls Try.prog 120 #[.pointer (some ⟨d, 0, none⟩), .int .i64 a, .int .i64 k] w fun e w' => e = .returned (.bool r) ∧ w' = w := by
  unfold wordsOk at hr
  have hm := h.small
  obtain ⟨N, hN⟩ : ∃ N, 64 * m = N := ⟨_, rfl⟩
  have hS := dSize_any h N hN
  rw [show 64 * (m : Int) = (N : Int) from by omega] at hr
  have hN2 : N ≤ 65536 := by omega
  clear hN
  by_cases h0 : 0 ≤ a
  · have e : IntKind.i64.wrap ((N : Int) - a) = (N : Int) - a := wrapI _ (by omega) (by omega)
    have e' : wrap64 ((N : Int) - a) = (N : Int) - a := wrap64I _ (by omega) (by omega)
    by_cases h1 : 0 ≤ k
    · have q1 : decide (0 ≤ k) = true := by simp; exact h1
      rw [decide_eq_true h0, q1, Bool.true_and, Bool.true_and] at hr
      subst hr
      clear ha
      go_enter Try.func120, Try.ntmps120
      go_wp2_with fail
      refine hS.mono ?_
      rintro e w1 ⟨rfl, rfl⟩
      go_wp2_with fail
      go_ret
      exact ⟨rfl, rfl⟩
    · rw [decide_eq_false h1] at hr
      simp at hr
      subst hr
      clear ha
      go_enter Try.func120, Try.ntmps120
      go_wp2_with fail
      go_ret
      exact ⟨rfl, rfl⟩
  · rw [decide_eq_false h0] at hr
    simp at hr
    subst hr
    clear ha
    go_enter Try.func120, Try.ntmps120
    go_wp2_with fail
    go_ret
    exact ⟨rfl, rfl⟩
end
end Go.Proofs.Ytjmofjcdcmbecaa
