/-
  A piece of a list of bytes.
-/
import Derived.Test.YtpdfalgjmeagjaaSlice
namespace Go.Proofs.Ytpdfalgjmeagjaa
open Go.RowKit
set_option linter.unusedVariables false

/-- 'b[l:h]'. -/
theorem run_between (A : Option Addr) (n c l h : Nat) (hl : l ≤ h) (hh : h ≤ n) (hc : n ≤ c) :
    ∃ A' : Option Addr, (∀ w, (Instr.slice 27 (.slice A n c) (some (.int .i64 (l : Int))) (some (.int .i64 (h : Int))) none).run Try.prog w = .ok (.slice A' (h - l) (c - l)) w) ∧ ∀ (w : World) (B : Nat) (xs : List UInt8), xs.length = n → Sees w B A (cb xs) → Sees w B A' (cb ((xs.drop l).take (h - l))) := by
  have hz : ∀ w, (sizeOf (Try.prog.elem 27)).run Try.prog w = .ok 1 w := fun w => by kernel_rfl
  have he : Try.prog.underlying 27 = some (.slice (Try.prog.elem 27)) := by kernel_rfl
  have hr : ∀ w, (Instr.slice 27 (.slice A n c) (some (.int .i64 (l : Int))) (some (.int .i64 (h : Int))) none).run Try.prog w = .ok (sliced A l h c 1) w := fun w => by
    rw [run_slice_lh w 27 A n c he .i64 .i64 (l : Int) (h : Int) (by omega) (by omega) (by omega), hz]
    simp only [Result.andThen, Int.toNat_natCast]
  have hcb : ∀ xs : List UInt8, cb ((xs.drop l).take (h - l)) = ((cb xs).drop l).take (h - l) := fun xs => by simp [cb]
  by_cases hlc : l = c
  · refine ⟨A, fun w => ?_, fun w B xs hx hs => ?_⟩
    · rw [hr]
      cases A <;> simp [sliced, hlc]
    · rw [show h - l = 0 from by omega, List.take_zero]
      exact Sees.nil
  · refine ⟨A.map (·.add l), fun w => ?_, fun w B xs hx hs => ?_⟩
    · rw [hr]
      cases A <;> simp [sliced, Ne.symm hlc]
    · rw [hcb]
      by_cases hln : l < n
      · exact (hs.add l (by simp; omega)).take_ _
      · rw [List.drop_of_length_le (by simp; omega), List.take_nil]
        exact Sees.nil

end Go.Proofs.Ytpdfalgjmeagjaa
