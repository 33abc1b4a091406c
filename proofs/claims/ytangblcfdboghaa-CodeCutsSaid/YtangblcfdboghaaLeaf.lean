/-
  What the inner functions of package bytes answer, for every input: how many digits a number has, the bytes of a word, whether a place is one, whether a digit may be the last.
-/
import Derived.Test.YtangblcfdboghaaDigits
import Derived.Test.YtangblcfdboghaaProg
import Derived.Test.YtangblcfdboghaaGrow
import Derived.Test.YtangblcfdboghaaMem
import Derived.Test.YtangblcfdboghaaPure
namespace Go.Proofs.Ytangblcfdboghaa
open Go.RowKit
set_option linter.unusedVariables false


set_option maxHeartbeats 400000 in
theorem isPlace_any (A : Option Addr) (n c : Nat) (p : Int) (w : World) :
    Calls Try.prog 68 #[.slice A n c, .int .i64 p] w fun e w' => e = .returned (.bool (isAt n p)) ∧ w = w' := by
  go_enter Try.func68, Try.ntmps68
  go_wp2
  · go_ret
    have h : 0 ≤ p := by assumption
    exact ⟨ret_bool (by simp [isAt, h]), rfl⟩
  · go_ret
    have h : p < 0 := by assumption
    have h' : ¬ 0 ≤ p := by omega
    exact ⟨ret_bool (by simp [isAt, h']), rfl⟩

set_option maxHeartbeats 400000 in
theorem mayEnd_any (c : UInt8) (i : Nat) (w : World) :
    Calls Try.prog 69 #[.int .u8 (c.toNat : Int), .int .i64 (i : Int)] w fun e w' => e = .returned (.bool (endOk c i)) ∧ w = w' := by
  have h1 : (((c.toNat : Int)) == 1) = (c == 1) := by
    rw [Bool.eq_iff_iff]
    simp [← UInt8.toNat_inj]
    omega
  have h0 : (c != 0) = decide (c.toNat ≠ 0) := by
    rw [Bool.eq_iff_iff]
    simp [← UInt8.toNat_inj]
  have hi : ((i : Int) == 0) = (i == 0) := by
    rw [Bool.eq_iff_iff]
    simp
  have H1 := Lib.hid h1
  have H0 := Lib.hid h0
  have HI := Lib.hid hi
  clear h1 h0 hi
  by_cases h9 : i = 9
  · subst h9
    go_enter Try.func69, Try.ntmps69
    go_wp2
    go_ret
    exact ⟨ret_bool (by rw [H1.out]; simp [endOk]), rfl⟩
  · have h9' : ((i : Int) == 9) = false := by simp; omega
    go_enter Try.func69, Try.ntmps69
    go_wp2
    · go_ret
      have h : c.toNat = 0 := by assumption
      exact ⟨ret_bool (by rw [HI.out]; simp [endOk, h9, H0.out, h]), rfl⟩
    · go_ret
      have h : ¬ c.toNat = 0 := by assumption
      exact ⟨ret_bool (by simp [endOk, h9, H0.out, h]), rfl⟩

end Go.Proofs.Ytangblcfdboghaa
