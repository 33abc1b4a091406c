/-
  How many digits a number has, as the program counts them.
-/
import Derived.Test.YtangblcfdboghaaProg
import Derived.Test.YtangblcfdboghaaGrow
import Derived.Test.YtangblcfdboghaaMem
import Derived.Test.YtangblcfdboghaaPure
namespace Go.Proofs.Ytangblcfdboghaa
open Go.RowKit
set_option linter.unusedVariables false

theorem digits_hit (n k : Nat) (hk : k ≤ 9) (h : ((n : Int) / 2 ^ (7 * k) == 0) = true) (hp : k = 0 ∨ n / 128 ^ (k - 1) ≠ 0) : nd n = max 1 k := by
  have h' : n / 128 ^ k = 0 := by
    rw [shr_nat, pow7, beq_iff_eq] at h
    exact_mod_cast h
  rcases k with _ | k
  · simp at h'
    subst h'
    rfl
  · rw [Nat.add_sub_cancel] at hp
    rw [nd_is n k (by omega) h' (.inr (hp.resolve_left (by omega)))]
    omega
theorem digits_miss (n k : Nat) (h : ((n : Int) / 2 ^ (7 * k) == 0) = false) : n / 128 ^ k ≠ 0 := by
  rw [shr_nat, pow7] at h
  intro h'
  rw [h'] at h
  simp at h
set_option maxHeartbeats 400000 in
theorem digits_any (n : Nat) (w : World) (hn : n < 18446744073709551616) :
    Calls Try.prog 64 #[.int .u64 (n : Int)] w fun e w' => e = .returned (.int .i64 (nd n : Int)) ∧ w = w' := by
  go_enter Try.func64, Try.ntmps64
  go_wp2
  go_loop [4] (fun i => ∃ k : Nat, k ≤ 10 ∧ i = .int .i64 k ∧ (k = 0 ∨ n / 128 ^ (k - 1) ≠ 0)) (fun i => 10 - (intOf i).toNat)
  case atStart => exact ⟨0, by omega, rfl, .inl rfl⟩
  case round =>
    obtain ⟨k, hk, rfl, hp⟩ := hrel
    have HP := Lib.hid hp
    clear hp
    by_cases hlt : k < 10
    · go_wp2
      · go_ret
        have h := digits_hit n k (by omega) ‹_› HP.out
        exact ⟨ret_int (by omega), rfl⟩
      · go_ret
        have h := digits_hit n k (by omega) ‹_› HP.out
        exact ⟨ret_int (by omega), rfl⟩
      · go_round
        case rel => exact ⟨k + 1, by omega, by go_num, .inr (digits_miss n k ‹_›)⟩
        case measure => simp [intOf]; omega
    · go_wp2
      go_ret
      obtain rfl : k = 10 := by omega
      have h := nd_ten n hn (HP.out.resolve_left (by omega))
      exact ⟨ret_int (by omega), rfl⟩
end Go.Proofs.Ytangblcfdboghaa
