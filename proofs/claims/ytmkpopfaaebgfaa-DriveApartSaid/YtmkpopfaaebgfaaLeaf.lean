/-
  What the inner functions of package bytes answer, for every input: how many digits a number has, the bytes of a word, whether a place is one, whether a digit may be the last.
-/
import Derived.Test.YtmkpopfaaebgfaaProg
import Derived.Test.YtmkpopfaaebgfaaMem
import Derived.Test.YtmkpopfaaebgfaaPure
namespace Go.Proofs.Ytmkpopfaaebgfaa
open Go.RowKit
set_option linter.unusedVariables false

theorem ret_int {k : IntKind} {a b : Int} (h : a = b) : Ending.returned (.int k a) = .returned (.int k b) := by rw [h]
theorem ret_bool {a b : Bool} (h : a = b) : Ending.returned (.bool a) = .returned (.bool b) := by rw [h]
theorem pow7 (k : Nat) : (2 : Nat) ^ (7 * k) = 128 ^ k := by rw [Nat.pow_mul]
theorem shr_nat (n k : Nat) : (n : Int) / 2 ^ k = ((n / 2 ^ k : Nat) : Int) := by simp

theorem digits_hit (n k : Nat) (hk : k ≤ 9) (h : ((n : Int) / 2 ^ (7 * k) == 0) = true) (hp : k = 0 ∨ n / 128 ^ (k - 1) ≠ 0) : nd n = max 1 k := by
  have h' : n / 128 ^ k = 0 := by
    rw [shr_nat, pow7, beq_iff_eq] at h
    exact_mod_cast h
  rcases k with _ | k
  · simp at h'
    subst h'
    rfl
  · rw [Nat.add_sub_cancel] at hp
    rw [nd_is n k (by omega) h' (.inr (hp.resolve_left (by omega)))]
    omega
theorem digits_miss (n k : Nat) (h : ((n : Int) / 2 ^ (7 * k) == 0) = false) : n / 128 ^ k ≠ 0 := by
  rw [shr_nat, pow7] at h
  intro h'
  rw [h'] at h
  simp at h

set_option maxHeartbeats 400000 in
theorem digits_any (n : Nat) (w : World) (hn : n < 18446744073709551616) :
    Calls Try.prog 115 #[.int .u64 (n : Int)] w fun e w' => e = .returned (.int .i64 (nd n : Int)) ∧ w = w' := by
  go_enter Try.func115, Try.ntmps115
  go_wp2
  go_loop [4] (fun i => ∃ k : Nat, k ≤ 10 ∧ i = .int .i64 k ∧ (k = 0 ∨ n / 128 ^ (k - 1) ≠ 0)) (fun i => 10 - (intOf i).toNat)
  case atStart => exact ⟨0, by omega, rfl, .inl rfl⟩
  case round =>
    obtain ⟨k, hk, rfl, hp⟩ := hrel
    have HP := Lib.hid hp
    clear hp
    by_cases hlt : k < 10
    · go_wp2
      · go_ret
        have h := digits_hit n k (by omega) ‹_› HP.out
        exact ⟨ret_int (by omega), rfl⟩
      · go_ret
        have h := digits_hit n k (by omega) ‹_› HP.out
        exact ⟨ret_int (by omega), rfl⟩
      · go_round
        case rel => exact ⟨k + 1, by omega, by go_num, .inr (digits_miss n k ‹_›)⟩
        case measure => simp [intOf]; omega
    · go_wp2
      go_ret
      obtain rfl : k = 10 := by omega
      have h := nd_ten n hn (HP.out.resolve_left (by omega))
      exact ⟨ret_int (by omega), rfl⟩

theorem byteAt_nat (n i : Nat) : ((byteAt n i).toNat : Int) = (n : Int) / 2 ^ (8 * (3 - i)) % 256 := by
  unfold byteAt
  rw [ofNat_toNat _ (Nat.mod_lt _ (by omega)), shr_nat]
  rfl
set_option maxHeartbeats 400000 in
theorem byteOf_any (n i : Nat) (w : World) (hn : n < 4294967296) (hi : i < 4) :
    Calls Try.prog 114 #[.int .u32 (n : Int), .int .i64 (i : Int)] w fun e w' => e = .returned (.int .u8 ((byteAt n i).toNat : Int)) ∧ w = w' := by
  go_enter Try.func114, Try.ntmps114
  go_wp2
  go_ret
  exact ⟨ret_int (byteAt_nat n i).symm, rfl⟩

set_option maxHeartbeats 400000 in
theorem isPlace_any (A : Option Addr) (n c : Nat) (p : Int) (w : World) :
    Calls Try.prog 106 #[.slice A n c, .int .i64 p] w fun e w' => e = .returned (.bool (isAt n p)) ∧ w = w' := by
  go_enter Try.func106, Try.ntmps106
  go_wp2
  · go_ret
    have h : 0 ≤ p := by assumption
    exact ⟨ret_bool (by simp [isAt, h]), rfl⟩
  · go_ret
    have h : p < 0 := by assumption
    have h' : ¬ 0 ≤ p := by omega
    exact ⟨ret_bool (by simp [isAt, h']), rfl⟩

set_option maxHeartbeats 400000 in
theorem mayEnd_any (c : UInt8) (i : Nat) (w : World) :
    Calls Try.prog 107 #[.int .u8 (c.toNat : Int), .int .i64 (i : Int)] w fun e w' => e = .returned (.bool (endOk c i)) ∧ w = w' := by
  have h1 : (((c.toNat : Int)) == 1) = (c == 1) := by
    rw [Bool.eq_iff_iff]
    simp [← UInt8.toNat_inj]
    omega
  have h0 : (c != 0) = decide (c.toNat ≠ 0) := by
    rw [Bool.eq_iff_iff]
    simp [← UInt8.toNat_inj]
  have hi : ((i : Int) == 0) = (i == 0) := by
    rw [Bool.eq_iff_iff]
    simp
  have H1 := Lib.hid h1
  have H0 := Lib.hid h0
  have HI := Lib.hid hi
  clear h1 h0 hi
  by_cases h9 : i = 9
  · subst h9
    go_enter Try.func107, Try.ntmps107
    go_wp2
    go_ret
    exact ⟨ret_bool (by rw [H1.out]; simp [endOk]), rfl⟩
  · have h9' : ((i : Int) == 9) = false := by simp; omega
    go_enter Try.func107, Try.ntmps107
    go_wp2
    · go_ret
      have h : c.toNat = 0 := by assumption
      exact ⟨ret_bool (by rw [HI.out]; simp [endOk, h9, H0.out, h]), rfl⟩
    · go_ret
      have h : ¬ c.toNat = 0 := by assumption
      exact ⟨ret_bool (by simp [endOk, h9, H0.out, h]), rfl⟩

end Go.Proofs.Ytmkpopfaaebgfaa
