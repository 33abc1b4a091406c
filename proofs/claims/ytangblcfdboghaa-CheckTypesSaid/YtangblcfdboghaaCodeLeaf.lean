/-
  What the small functions of package code answer, for every input.
-/
import Derived.Test.YtangblcfdboghaaProg
import Derived.Test.YtangblcfdboghaaCodePure
import Derived.Test.YtangblcfdboghaaGrow
import Derived.Test.YtangblcfdboghaaMem
import Derived.Test.YtangblcfdboghaaVarint
namespace Go.Proofs.Ytangblcfdboghaa
open Go.RowKit
set_option linter.unusedVariables false

abbrev sv (l : List UInt8) : Value := .string ⟨l.toArray⟩

set_option maxHeartbeats 1000000 in
theorem Range_any (t : Nat) (w : World) :
    Calls Try.prog 18 #[.int .u8 (t : Int)] w fun e w' => e = .returned (.tuple #[.int .i64 (rng t).1, .int .i64 (rng t).2]) ∧ w = w' := by
  have h : t = 1 ∨ t = 2 ∨ t = 3 ∨ t = 4 ∨ t = 5 ∨ (t ≠ 1 ∧ t ≠ 2 ∧ t ≠ 3 ∧ t ≠ 4 ∧ t ≠ 5) := by omega
  rcases h with rfl | rfl | rfl | rfl | rfl | ⟨h1, h2, h3, h4, h5⟩
  iterate 5
    · go_enter Try.func18, Try.ntmps18
      go_wp2
      go_ret2
      exact ⟨rfl, rfl⟩
  · have e1 : ((t : Int) == 1) = false := by simp; omega
    have e2 : ((t : Int) == 2) = false := by simp; omega
    have e3 : ((t : Int) == 3) = false := by simp; omega
    have e4 : ((t : Int) == 4) = false := by simp; omega
    have e5 : ((t : Int) == 5) = false := by simp; omega
    have er : rng t = (0, 0) := by simp [rng, h1, h2, h3, h4, h5]
    go_enter Try.func18, Try.ntmps18
    go_wp2
    go_ret2
    exact ⟨by rw [er]; rfl, rfl⟩

set_option maxHeartbeats 1000000 in
theorem cName_any (l : List UInt8) (w : World) :
    Calls Try.prog 52 #[sv l] w fun e w' => e = .returned (.bool (nameOk l)) ∧ w = w' := by
  have hs : (ByteArray.mk l.toArray).size = l.length := by simp [ByteArray.size]
  go_enter Try.func52, Try.ntmps52
  go_wp2
  · go_ret
    have h : 1 ≤ (l.length : Int) := by assumption
    have h1 : 1 ≤ l.length := by omega
    exact ⟨ret_bool (by simp [nameOk, h1]; omega), rfl⟩
  · go_ret
    have h : (l.length : Int) < 1 := by assumption
    exact ⟨ret_bool (by simp [nameOk]; omega), rfl⟩

set_option maxHeartbeats 1000000 in
theorem cType_any (n : Int) (w : World) :
    Calls Try.prog 83 #[.int .i64 n] w fun e w' => e = .returned (.bool (isTy n)) ∧ w = w' := by
  go_enter Try.func83, Try.ntmps83
  go_wp2
  · go_ret
    have h : 1 ≤ n := by assumption
    exact ⟨ret_bool (by simp [isTy, h]), rfl⟩
  · go_ret
    have h : n < 1 := by assumption
    exact ⟨ret_bool (by simp [isTy]; omega), rfl⟩

set_option maxHeartbeats 1000000 in
theorem cPlace_any (n many : Int) (w : World) :
    Calls Try.prog 91 #[.int .i64 n, .int .i64 many] w fun e w' => e = .returned (.bool (isPl n many)) ∧ w = w' := by
  go_enter Try.func91, Try.ntmps91
  go_wp2
  · go_ret
    have h : 0 ≤ n := by assumption
    exact ⟨ret_bool (by simp [isPl, h]), rfl⟩
  · go_ret
    have h : n < 0 := by assumption
    exact ⟨ret_bool (by simp [isPl]; omega), rfl⟩

set_option maxHeartbeats 1000000 in
theorem cWhole_any (n : Int) (w : World) :
    Calls Try.prog 88 #[.int .i64 n] w fun e w' => e = .returned (.bool (isWh n)) ∧ w = w' := by
  have S := cType_any n w
  cases h : isTy n
  · rw [h] at S
    go_enter Try.func88, Try.ntmps88
    go_wp2_with (go_at_call 83; refine S.mono ?_; rintro e w' ⟨rfl, rfl⟩)
    go_ret
    exact ⟨ret_bool (by simp [isWh, h]), rfl⟩
  · rw [h] at S
    go_enter Try.func88, Try.ntmps88
    go_wp2_with (go_at_call 83; refine S.mono ?_; rintro e w' ⟨rfl, rfl⟩)
    go_ret
    exact ⟨ret_bool (by simp [isWh, h, bne, BEq.beq]), rfl⟩

set_option maxHeartbeats 1000000 in
theorem cOf_any (t : Nat) (n : Int) (w : World) :
    Calls Try.prog 84 #[.int .u8 (t : Int), .int .i64 n] w fun e w' => e = .returned (.bool (inR t n)) ∧ w = w' := by
  obtain ⟨⟨a, b⟩, hr⟩ : ∃ r, rng t = r := ⟨_, rfl⟩
  have S := Range_any t w
  rw [hr] at S
  go_enter Try.func84, Try.ntmps84
  go_wp2_with (go_at_call 18; refine S.mono ?_; rintro e w' ⟨rfl, rfl⟩)
  · go_ret
    have h : a ≤ n := by assumption
    exact ⟨ret_bool (by simp [inR, hr, h]), rfl⟩
  · go_ret
    have h : n < a := by assumption
    exact ⟨ret_bool (by simp [inR, hr]; omega), rfl⟩

set_option maxHeartbeats 1000000 in
theorem folded_any (n : Int) (w : World) (hn : -9223372036854775808 ≤ n ∧ n < 9223372036854775808) :
    Calls Try.prog 40 #[.int .i64 n] w fun e w' => e = .returned (.int .u64 (foldF n : Int)) ∧ w = w' := by
  go_enter Try.func40, Try.ntmps40
  go_wp2
  · go_ret
    have h : n < 0 := by assumption
    exact ⟨ret_int (by simp only [IntKind.wrap_u64, wrap64, foldF, h, if_true]; omega), rfl⟩
  · go_ret
    have h : 0 ≤ n := by assumption
    exact ⟨ret_int (by simp only [foldF, show ¬ n < 0 from by omega, if_false]; omega), rfl⟩

set_option maxHeartbeats 1000000 in
theorem unfolded_any (n : Nat) (w : World) (hn : n < 18446744073709551616) :
    Calls Try.prog 49 #[.int .u64 (n : Int)] w fun e w' => e = .returned (.int .i64 (unfF n)) ∧ w = w' := by
  by_cases h : n % 2 = 1
  · have g : ((n : Int) % 2 == 1) = true := by simp; omega
    go_enter Try.func49, Try.ntmps49
    go_wp2
    go_ret
    exact ⟨ret_int (by simp only [unfF, h, if_true]; omega), rfl⟩
  · have g : ((n : Int) % 2 == 1) = false := by simp; omega
    go_enter Try.func49, Try.ntmps49
    go_wp2
    go_ret
    exact ⟨ret_int (by simp only [unfF, h, if_false]; omega), rfl⟩

set_option maxHeartbeats 1000000 in
theorem Wrap_any (t : Nat) (n : Int) (w : World) (hn : -9223372036854775808 ≤ n ∧ n < 9223372036854775808) :
    Calls Try.prog 24 #[.int .u8 (t : Int), .int .i64 n] w fun e w' => e = .returned (.int .i64 (wrapF t n)) ∧ w = w' := by
  have h : t = 1 ∨ t = 2 ∨ t = 3 ∨ t = 4 ∨ t = 5 ∨ (t ≠ 1 ∧ t ≠ 2 ∧ t ≠ 3 ∧ t ≠ 4 ∧ t ≠ 5) := by omega
  rcases h with rfl | rfl | rfl | rfl | rfl | ⟨h1, h2, h3, h4, h5⟩
  · by_cases h : n = 0
    · have g : (n != 0) = false := by simp [h]
      go_enter Try.func24, Try.ntmps24
      go_wp2
      go_ret
      exact ⟨ret_int (by simp [wrapF, h]), rfl⟩
    · have g : (n != 0) = true := by simp [h]
      go_enter Try.func24, Try.ntmps24
      go_wp2
      go_ret
      exact ⟨ret_int (by simp [wrapF, h]), rfl⟩
  · go_enter Try.func24, Try.ntmps24
    go_wp2
    go_ret
    exact ⟨ret_int (by simp only [wrapF, into, wrap64, IntKind.wrap, IntKind.bits, IntKind.signed] <;> simp <;> omega), rfl⟩
  · go_enter Try.func24, Try.ntmps24
    go_wp2
    go_ret
    exact ⟨ret_int (by simp only [wrapF, into, wrap64, IntKind.wrap, IntKind.bits, IntKind.signed] <;> simp <;> omega), rfl⟩
  · go_enter Try.func24, Try.ntmps24
    go_wp2
    go_ret
    exact ⟨ret_int (by simp only [wrapF, into, wrap64, wrap32] <;> simp <;> omega), rfl⟩
  · go_enter Try.func24, Try.ntmps24
    go_wp2
    go_ret
    exact ⟨ret_int (by simp [wrapF, into]), rfl⟩
  · have e1 : ((t : Int) == 1) = false := by simp; omega
    have e2 : ((t : Int) == 2) = false := by simp; omega
    have e3 : ((t : Int) == 3) = false := by simp; omega
    have e4 : ((t : Int) == 4) = false := by simp; omega
    have e5 : ((t : Int) == 5) = false := by simp; omega
    have er : wrapF t n = 0 := by simp [wrapF, h1, h2, h3, h4, h5]
    go_enter Try.func24, Try.ntmps24
    go_wp2
    go_ret
    exact ⟨by rw [er]; rfl, rfl⟩

end Go.Proofs.Ytangblcfdboghaa
