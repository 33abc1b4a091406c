/-
  Bits of a word: how many are 1, which one is the highest. No function of the program is named here.
-/
import Derived.Lib.BitFns
namespace Go.Proofs.Ytpdfalgjmeagjaa
open Go.Lib

theorem pop_zero : ∀ (f : Nat), popAux f 0 = 0
  | 0 => rfl
  | f + 1 => by simp [popAux, pop_zero f]
/-- A number and the one with all bits turned have all bits, once. -/
theorem pop_turn : ∀ (f x : Nat), x < 2 ^ f → popAux f (2 ^ f - 1 - x) + popAux f x = f
  | 0, _, _ => rfl
  | f + 1, x, h => by
    have hp : 2 ^ (f + 1) = 2 * 2 ^ f := by rw [Nat.pow_succ, Nat.mul_comm]
    have h2 : x / 2 < 2 ^ f := by omega
    have ih := pop_turn f (x / 2) h2
    have e1 : (2 ^ (f + 1) - 1 - x) / 2 = 2 ^ f - 1 - x / 2 := by omega
    have e2 : (2 ^ (f + 1) - 1 - x) % 2 = 1 - x % 2 := by omega
    simp only [popAux]
    rw [e1, e2]
    omega
/-- How many bits a number wants. -/
theorem bitLen_bounds : ∀ (k x : Nat), k ≤ 64 → x < 2 ^ k → x ≠ 0 → 2 ^ (bitLen x - 1) ≤ x ∧ x < 2 * 2 ^ (bitLen x - 1) ∧ 1 ≤ bitLen x ∧ bitLen x ≤ k
  | 0, x, _, h, h0 => by simp at h; omega
  | k + 1, x, hk, h, h0 => by
    have hp : 2 ^ (k + 1) = 2 * 2 ^ k := by rw [Nat.pow_succ, Nat.mul_comm]
    have hx : x < 2 ^ 64 := Nat.lt_of_lt_of_le h (Nat.pow_le_pow_right (by omega) hk)
    rw [bitLen_half x h0 hx]
    by_cases h1 : x / 2 = 0
    · have : x = 1 := by omega
      subst this
      simp [show bitLen 0 = 0 from rfl]
    · obtain ⟨a, b, c, d⟩ := bitLen_bounds k (x / 2) (by omega) (by omega) h1
      have e : 2 ^ (1 + bitLen (x / 2) - 1) = 2 * 2 ^ (bitLen (x / 2) - 1) := by
        rw [show 1 + bitLen (x / 2) - 1 = (bitLen (x / 2) - 1) + 1 from by omega, Nat.pow_succ, Nat.mul_comm]
      rw [e]
      omega
/-- Without its highest bit a number has one bit less. -/
theorem pop_high : ∀ (f x : Nat), f ≤ 64 → x < 2 ^ f → x ≠ 0 → popAux f (x - 2 ^ (bitLen x - 1)) + 1 = popAux f x
  | 0, x, _, h, h0 => by simp at h; omega
  | f + 1, x, hf, h, h0 => by
    have hp : 2 ^ (f + 1) = 2 * 2 ^ f := by rw [Nat.pow_succ, Nat.mul_comm]
    have hx : x < 2 ^ 64 := Nat.lt_of_lt_of_le h (Nat.pow_le_pow_right (by omega) hf)
    rw [bitLen_half x h0 hx]
    by_cases h1 : x / 2 = 0
    · have : x = 1 := by omega
      subst this
      simp [show bitLen 0 = 0 from rfl, popAux, pop_zero]
    · obtain ⟨a, b, c, d⟩ := bitLen_bounds f (x / 2) (by omega) (by omega) h1
      have ih := pop_high f (x / 2) (by omega) (by omega) h1
      have e : 2 ^ (1 + bitLen (x / 2) - 1) = 2 * 2 ^ (bitLen (x / 2) - 1) := by
        rw [show 1 + bitLen (x / 2) - 1 = (bitLen (x / 2) - 1) + 1 from by omega, Nat.pow_succ, Nat.mul_comm]
      rw [e]
      have e1 : (x - 2 * 2 ^ (bitLen (x / 2) - 1)) / 2 = x / 2 - 2 ^ (bitLen (x / 2) - 1) := by omega
      have e2 : (x - 2 * 2 ^ (bitLen (x / 2) - 1)) % 2 = x % 2 := by omega
      simp only [popAux]
      rw [e1, e2]
      omega

/-- How many bits of a word are 0. -/
def zer (x : UInt32) : Nat := popAux 32 (4294967295 - x.toNat)
/-- How many bits of these words are 0. -/
def zers : List UInt32 → Nat
  | [] => 0
  | x :: l => zer x + zers l
/-- A word without its highest bit. -/
def low32 (x : UInt32) : UInt32 := UInt32.ofNat (x.toNat - 2 ^ (bitLen x.toNat - 1))
theorem ne0 {x : UInt32} (h : x ≠ 0) : x.toNat ≠ 0 := fun e => h (UInt32.toNat_inj.1 (by rw [e]; rfl))
theorem low32_nat (x : UInt32) : (low32 x).toNat = x.toNat - 2 ^ (bitLen x.toNat - 1) := by
  have := x.toNat_lt
  rw [low32, UInt32.toNat_ofNat']
  exact Nat.mod_eq_of_lt (Nat.lt_of_le_of_lt (Nat.sub_le _ _) (by omega))
theorem zer_low {x : UInt32} (h : x ≠ 0) : zer (low32 x) = zer x + 1 := by
  have hx := x.toNat_lt
  have hl := (low32 x).toNat_lt
  have h1 := pop_high 32 x.toNat (by omega) (by omega) (ne0 h)
  have h2 := pop_turn 32 x.toNat (by omega)
  have h3 := pop_turn 32 (low32 x).toNat (by omega)
  rw [← low32_nat] at h1
  simp only [zer]
  simp only [show (2 : Nat) ^ 32 - 1 = 4294967295 from rfl] at h2 h3
  omega
theorem zer_ones : zer 4294967295 = 0 := by decide
end Go.Proofs.Ytpdfalgjmeagjaa
