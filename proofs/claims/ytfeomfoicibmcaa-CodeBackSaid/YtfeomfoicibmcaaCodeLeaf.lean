/-
  What the small functions of package code answer, for every input.
-/
import Derived.Test.YtfeomfoicibmcaaProg
import Derived.Test.YtfeomfoicibmcaaCodePure
import Derived.Test.YtfeomfoicibmcaaGrow
import Derived.Test.YtfeomfoicibmcaaMem
import Derived.Test.YtfeomfoicibmcaaVarint
namespace Go.Proofs.Ytfeomfoicibmcaa
open Go.RowKit
set_option linter.unusedVariables false

abbrev sv (l : List UInt8) : Value := .string ⟨l.toArray⟩

set_option maxHeartbeats 1000000 in
theorem Range_any (t : Nat) (w : World) :
    Calls Try.prog 14 #[.int .u8 (t : Int)] w fun e w' => e = .returned (.tuple #[.int .i64 (rng t).1, .int .i64 (rng t).2]) ∧ w = w' := by
  have h : t = 1 ∨ t = 2 ∨ t = 3 ∨ t = 4 ∨ t = 5 ∨ (t ≠ 1 ∧ t ≠ 2 ∧ t ≠ 3 ∧ t ≠ 4 ∧ t ≠ 5) := by omega
  rcases h with rfl | rfl | rfl | rfl | rfl | ⟨h1, h2, h3, h4, h5⟩
  iterate 5
    · go_enter Try.func14, Try.ntmps14
      go_wp2
      go_ret2
      exact ⟨rfl, rfl⟩
  · have e1 : ((t : Int) == 1) = false := by simp; omega
    have e2 : ((t : Int) == 2) = false := by simp; omega
    have e3 : ((t : Int) == 3) = false := by simp; omega
    have e4 : ((t : Int) == 4) = false := by simp; omega
    have e5 : ((t : Int) == 5) = false := by simp; omega
    have er : rng t = (0, 0) := by simp [rng, h1, h2, h3, h4, h5]
    go_enter Try.func14, Try.ntmps14
    go_wp2
    go_ret2
    exact ⟨by rw [er]; rfl, rfl⟩

set_option maxHeartbeats 1000000 in
theorem cName_any (l : List UInt8) (w : World) :
    Calls Try.prog 39 #[sv l] w fun e w' => e = .returned (.bool (nameOk l)) ∧ w = w' := by
  have hs : (ByteArray.mk l.toArray).size = l.length := by simp [ByteArray.size]
  go_enter Try.func39, Try.ntmps39
  go_wp2
  · go_ret
    have h : 1 ≤ (l.length : Int) := by assumption
    have h1 : 1 ≤ l.length := by omega
    exact ⟨ret_bool (by simp [nameOk, h1]; omega), rfl⟩
  · go_ret
    have h : (l.length : Int) < 1 := by assumption
    exact ⟨ret_bool (by simp [nameOk]; omega), rfl⟩

set_option maxHeartbeats 1000000 in
theorem cType_any (n : Int) (w : World) :
    Calls Try.prog 61 #[.int .i64 n] w fun e w' => e = .returned (.bool (isTy n)) ∧ w = w' := by
  go_enter Try.func61, Try.ntmps61
  go_wp2
  · go_ret
    have h : 1 ≤ n := by assumption
    exact ⟨ret_bool (by simp [isTy, h]), rfl⟩
  · go_ret
    have h : n < 1 := by assumption
    exact ⟨ret_bool (by simp [isTy]; omega), rfl⟩

set_option maxHeartbeats 1000000 in
theorem cPlace_any (n many : Int) (w : World) :
    Calls Try.prog 69 #[.int .i64 n, .int .i64 many] w fun e w' => e = .returned (.bool (isPl n many)) ∧ w = w' := by
  go_enter Try.func69, Try.ntmps69
  go_wp2
  · go_ret
    have h : 0 ≤ n := by assumption
    exact ⟨ret_bool (by simp [isPl, h]), rfl⟩
  · go_ret
    have h : n < 0 := by assumption
    exact ⟨ret_bool (by simp [isPl]; omega), rfl⟩

set_option maxHeartbeats 1000000 in
theorem cWhole_any (n : Int) (w : World) :
    Calls Try.prog 66 #[.int .i64 n] w fun e w' => e = .returned (.bool (isWh n)) ∧ w = w' := by
  have S := cType_any n w
  cases h : isTy n
  · rw [h] at S
    go_enter Try.func66, Try.ntmps66
    go_wp2_with (go_at_call 61; refine S.mono ?_; rintro e w' ⟨rfl, rfl⟩)
    go_ret
    exact ⟨ret_bool (by simp [isWh, h]), rfl⟩
  · rw [h] at S
    go_enter Try.func66, Try.ntmps66
    go_wp2_with (go_at_call 61; refine S.mono ?_; rintro e w' ⟨rfl, rfl⟩)
    go_ret
    exact ⟨ret_bool (by simp [isWh, h, bne, BEq.beq]), rfl⟩

set_option maxHeartbeats 1000000 in
theorem cOf_any (t : Nat) (n : Int) (w : World) :
    Calls Try.prog 62 #[.int .u8 (t : Int), .int .i64 n] w fun e w' => e = .returned (.bool (inR t n)) ∧ w = w' := by
  obtain ⟨⟨a, b⟩, hr⟩ : ∃ r, rng t = r := ⟨_, rfl⟩
  have S := Range_any t w
  rw [hr] at S
  go_enter Try.func62, Try.ntmps62
  go_wp2_with (go_at_call 14; refine S.mono ?_; rintro e w' ⟨rfl, rfl⟩)
  · go_ret
    have h : a ≤ n := by assumption
    exact ⟨ret_bool (by simp [inR, hr, h]), rfl⟩
  · go_ret
    have h : n < a := by assumption
    exact ⟨ret_bool (by simp [inR, hr]; omega), rfl⟩

set_option maxHeartbeats 1000000 in
theorem folded_any (n : Int) (w : World) (hn : -9223372036854775808 ≤ n ∧ n < 9223372036854775808) :
    Calls Try.prog 27 #[.int .i64 n] w fun e w' => e = .returned (.int .u64 (foldF n : Int)) ∧ w = w' := by
  go_enter Try.func27, Try.ntmps27
  go_wp2
  · go_ret
    have h : n < 0 := by assumption
    exact ⟨ret_int (by simp only [IntKind.wrap_u64, wrap64, foldF, h, if_true]; omega), rfl⟩
  · go_ret
    have h : 0 ≤ n := by assumption
    exact ⟨ret_int (by simp only [foldF, show ¬ n < 0 from by omega, if_false]; omega), rfl⟩

set_option maxHeartbeats 1000000 in
theorem unfolded_any (n : Nat) (w : World) (hn : n < 18446744073709551616) :
    Calls Try.prog 36 #[.int .u64 (n : Int)] w fun e w' => e = .returned (.int .i64 (unfF n)) ∧ w = w' := by
  by_cases h : n % 2 = 1
  · have g : ((n : Int) % 2 == 1) = true := by simp; omega
    go_enter Try.func36, Try.ntmps36
    go_wp2
    go_ret
    exact ⟨ret_int (by simp only [unfF, h, if_true]; omega), rfl⟩
  · have g : ((n : Int) % 2 == 1) = false := by simp; omega
    go_enter Try.func36, Try.ntmps36
    go_wp2
    go_ret
    exact ⟨ret_int (by simp only [unfF, h, if_false]; omega), rfl⟩

set_option maxHeartbeats 1000000 in
theorem Wrap_any (t : Nat) (n : Int) (w : World) (hn : -9223372036854775808 ≤ n ∧ n < 9223372036854775808) :
    Calls Try.prog 20 #[.int .u8 (t : Int), .int .i64 n] w fun e w' => e = .returned (.int .i64 (wrapF t n)) ∧ w = w' := by
  have h : t = 1 ∨ t = 2 ∨ t = 3 ∨ t = 4 ∨ t = 5 ∨ (t ≠ 1 ∧ t ≠ 2 ∧ t ≠ 3 ∧ t ≠ 4 ∧ t ≠ 5) := by omega
  rcases h with rfl | rfl | rfl | rfl | rfl | ⟨h1, h2, h3, h4, h5⟩
  · by_cases h : n = 0
    · have g : (n != 0) = false := by simp [h]
      go_enter Try.func20, Try.ntmps20
      go_wp2
      go_ret
      exact ⟨ret_int (by simp [wrapF, h]), rfl⟩
    · have g : (n != 0) = true := by simp [h]
      go_enter Try.func20, Try.ntmps20
      go_wp2
      go_ret
      exact ⟨ret_int (by simp [wrapF, h]), rfl⟩
  · go_enter Try.func20, Try.ntmps20
    go_wp2
    go_ret
    exact ⟨ret_int (by simp only [wrapF, into, wrap64, IntKind.wrap, IntKind.bits, IntKind.signed] <;> simp <;> omega), rfl⟩
  · go_enter Try.func20, Try.ntmps20
    go_wp2
    go_ret
    exact ⟨ret_int (by simp only [wrapF, into, wrap64, IntKind.wrap, IntKind.bits, IntKind.signed] <;> simp <;> omega), rfl⟩
  · go_enter Try.func20, Try.ntmps20
    go_wp2
    go_ret
    exact ⟨ret_int (by simp only [wrapF, into, wrap64, wrap32] <;> simp <;> omega), rfl⟩
  · go_enter Try.func20, Try.ntmps20
    go_wp2
    go_ret
    exact ⟨ret_int (by simp [wrapF, into]), rfl⟩
  · have e1 : ((t : Int) == 1) = false := by simp; omega
    have e2 : ((t : Int) == 2) = false := by simp; omega
    have e3 : ((t : Int) == 3) = false := by simp; omega
    have e4 : ((t : Int) == 4) = false := by simp; omega
    have e5 : ((t : Int) == 5) = false := by simp; omega
    have er : wrapF t n = 0 := by simp [wrapF, h1, h2, h3, h4, h5]
    go_enter Try.func20, Try.ntmps20
    go_wp2
    go_ret
    exact ⟨by rw [er]; rfl, rfl⟩

end Go.Proofs.Ytfeomfoicibmcaa
