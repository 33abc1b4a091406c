/-
  What GetUint of package bytes answers, for every input: the number at a place, or the error that chapter 1 asks.
-/
import Derived.Test.YtpdfalgjmeagjaaWordAt
namespace Go.Proofs.Ytpdfalgjmeagjaa
open Go.RowKit
set_option linter.unusedVariables false

/-- The digits' value so far. -/
def accTo (l : List UInt8) (p : Nat) : Nat → Nat
  | 0 => 0
  | k + 1 => accTo l p k + oct l (p + k) % 128 * 128 ^ k
/-- Behind k digits, each of which another one follows. -/
def On (l : List UInt8) (p k x : Nat) : Prop := gu (l.drop p) = guF (10 - k) (l.drop (p + k)) k (accTo l p k) ∧ (k ≤ 9 → x = accTo l p k) ∧ x < 18446744073709551616

theorem accTo_lt (l : List UInt8) (p : Nat) : ∀ k, accTo l p k < 128 ^ k
  | 0 => by simp [accTo]
  | k + 1 => by
    have h := accTo_lt l p k
    have h2 : oct l (p + k) % 128 ≤ 127 := by omega
    have h3 : oct l (p + k) % 128 * 128 ^ k ≤ 127 * 128 ^ k := Nat.mul_le_mul_right _ h2
    rw [accTo, Nat.pow_succ]
    omega
def orTo (x d k : Nat) : Nat := x ||| (d % 128 * 128 ^ k % 18446744073709551616)
theorem orTo_is (x d k : Nat) (hx : x < 18446744073709551616) : bits .or .u64 (x : Int) (IntKind.u64.wrap ((d : Int) % 128 * 2 ^ (7 * k))) = (orTo x d k : Int) := by
  have e : IntKind.u64.wrap ((d : Int) % 128 * 2 ^ (7 * k)) = ((d % 128 * 128 ^ k % 18446744073709551616 : Nat) : Int) := by
    rw [IntKind.wrap_u64, ← pow7]
    simp
  rw [e, u64_or_nat _ _ hx (Nat.mod_lt _ (by omega)), orTo]
theorem orTo_lt (x d k : Nat) (hx : x < 18446744073709551616) : orTo x d k < 18446744073709551616 :=
  Nat.or_lt_two_pow (n := 64) hx (Nat.mod_lt _ (by omega))
theorem orTo_add (x d k : Nat) (hk : k ≤ 9) (hx : x < 128 ^ k) (hd : d % 128 * 128 ^ k < 18446744073709551616) : orTo x d k = x + d % 128 * 128 ^ k := by
  unfold orTo
  rw [Nat.mod_eq_of_lt hd, Nat.or_comm, nat_join (7 * k) _ _ (by rw [pow7]; simp) (by rw [pow7]; exact hx), Nat.add_comm]
theorem dig_small (d k : Nat) (hk : k ≤ 8) : d % 128 * 128 ^ k < 18446744073709551616 := by
  have h1 : 128 ^ k ≤ 128 ^ 8 := Nat.pow_le_pow_right (by omega) hk
  have h2 : d % 128 ≤ 127 := by omega
  have h3 : d % 128 * 128 ^ k ≤ 127 * 128 ^ 8 := Nat.mul_le_mul h2 h1
  omega

theorem drop_at {l : List UInt8} {i : Nat} {d : UInt8} (h : l[i]? = some d) : l.drop i = d :: l.drop (i + 1) := by
  obtain ⟨hi, rfl⟩ := List.getElem?_eq_some_iff.1 h
  exact List.drop_eq_getElem_cons hi
theorem oct_at {l : List UInt8} {i : Nat} {d : UInt8} (h : l[i]? = some d) : oct l i = d.toNat := by simp [oct, List.getD, h]
theorem guF_cons (f : Nat) (d : UInt8) (l : List UInt8) (i a : Nat) : guF (f + 1) (d :: l) i a = if 128 ≤ d.toNat then guF f l (i + 1) (a + d.toNat % 128 * 128 ^ i) else if endOk d i then (a + d.toNat * 128 ^ i, i + 1, 0) else (0, 0, 11) := rfl

theorem on_more {l : List UInt8} {p k x : Nat} {d : UInt8} (h : On l p k x) (hk : k < 10) (hd : l[p + k]? = some d) (h128 : 128 ≤ d.toNat) : On l p (k + 1) (orTo x d.toNat k) := by
  obtain ⟨h1, h2, h3⟩ := h
  refine ⟨?_, fun hk2 => ?_, orTo_lt _ _ _ h3⟩
  · rw [h1, drop_at hd, show 10 - k = (10 - (k + 1)) + 1 from by omega, guF_cons, if_pos h128, accTo, oct_at hd, Nat.add_assoc]
  · rw [accTo, oct_at hd, h2 (by omega), orTo_add _ _ _ (by omega) (accTo_lt l p k) (dig_small _ _ (by omega))]
theorem on_bad {l : List UInt8} {p k x : Nat} {d : UInt8} (h : On l p k x) (hk : k < 10) (hd : l[p + k]? = some d) (h128 : ¬ 128 ≤ d.toNat) (he : endOk d k = false) : getU l p = (0, 0, 11) := by
  have hl : p + k < l.length := (List.getElem?_eq_some_iff.1 hd).1
  have ha : isAt l.length p = true := by simp [isAt]; omega
  have hg : gu (l.drop p) = (0, 0, 11) := by
    rw [h.1, drop_at hd, show 10 - k = (10 - (k + 1)) + 1 from by omega, guF_cons, if_neg h128, he]
    simp
  simp [getU, ha, hg]
theorem on_hit {l : List UInt8} {p k x : Nat} {d : UInt8} (h : On l p k x) (hk : k < 10) (hd : l[p + k]? = some d) (h128 : ¬ 128 ≤ d.toNat) (he : endOk d k = true) : getU l p = (orTo x d.toNat k, p + k + 1, 0) := by
  have hl : p + k < l.length := (List.getElem?_eq_some_iff.1 hd).1
  have ha : isAt l.length p = true := by simp [isAt]; omega
  have hx := h.2.1 (by omega)
  have hsm : d.toNat % 128 * 128 ^ k < 18446744073709551616 := by
    by_cases h8 : k ≤ 8
    · exact dig_small _ _ h8
    · obtain rfl : k = 9 := by omega
      simp [endOk] at he
      subst he
      decide
  have e : orTo x d.toNat k = accTo l p k + d.toNat * 128 ^ k := by
    rw [hx, orTo_add _ _ _ (by omega) (accTo_lt l p k) hsm, Nat.mod_eq_of_lt (by omega : d.toNat < 128)]
  have hg : gu (l.drop p) = (orTo x d.toNat k, k + 1, 0) := by
    rw [h.1, drop_at hd, show 10 - k = (10 - (k + 1)) + 1 from by omega, guF_cons, if_neg h128, he, e]
    simp
  simp [getU, ha, hg]
  omega
theorem on_ten {l : List UInt8} {p x : Nat} (h : On l p 10 x) (hl : p + 10 ≤ l.length) : getU l p = (0, 0, 11) := by
  have ha : isAt l.length p = true := by simp [isAt]; omega
  have hg : gu (l.drop p) = (0, 0, 11) := by rw [h.1]; rfl
  simp [getU, ha, hg]
theorem on_short {l : List UInt8} {p k x : Nat} (h : On l p k x) (hk : k < 10) (hl : p + k = l.length) : getU l p = (0, 0, 10) := by
  have ha : isAt l.length p = true := by simp [isAt]; omega
  have hg : gu (l.drop p) = (0, 0, 10) := by
    rw [h.1, List.drop_of_length_le (by omega), show 10 - k = (10 - (k + 1)) + 1 from by omega]
    rfl
  simp [getU, ha, hg]

end Go.Proofs.Ytpdfalgjmeagjaa
