/-
  What the small functions of package sha answer: isRight, owned, byteOf, New, Pad.
-/
import Derived.Test.YtangblcfdboghaaBlock
import Derived.Test.YtangblcfdboghaaLow
import Derived.Test.YtangblcfdboghaaPut
namespace Go.Proofs.Ytangblcfdboghaa
open Go.RowKit
set_option linter.unusedVariables false
/-- The cells of a hasher. -/
abbrev hz (s : List UInt32) (v : Value) (L : Int) : List Value := cw s ++ [v, .int .i64 L]
theorem hz_len (s : List UInt32) (v : Value) (L : Int) (h : s.length = 8) : (hz s v L).length = 10 := by simp [h]
theorem hz_rest (s : List UInt32) (v : Value) (L : Int) (h : s.length = 8) : (hz s v L)[8]? = some v := by
  rw [List.getElem?_append_right (by simp [h])]
  simp [h]
theorem hz_n (s : List UInt32) (v : Value) (L : Int) (h : s.length = 8) : (hz s v L)[9]? = some (.int .i64 L) := by
  rw [List.getElem?_append_right (by simp [h])]
  simp [h]
theorem Fresh.cell_ {base : Nat} {e : TypeId} {w : World} {g n k : Nat} {xs : List Value} (h : Fresh base e w (some ⟨g, 0, none⟩) n n xs) {u : Value} (hk : xs[k]? = some u) : w.cell? ⟨g, k, none⟩ = some u := by
  obtain ⟨hlt, _⟩ := List.getElem?_eq_some_iff.1 hk
  obtain ⟨b, o, he, _, hc⟩ := h.sees (by omega)
  obtain ⟨rfl, rfl⟩ : g = b ∧ 0 = o := by simpa using he
  simpa using hc k u hk
/-- A right hasher. -/
def Right (n : Nat) (L : Int) : Prop := 0 ≤ L ∧ L ≤ 72057594037927936 ∧ (n : Int) = L % 64
/-- The padding with its last k bytes laid. -/
def padK (x z k : Nat) : List UInt8 := 128 :: (List.replicate z 0 ++ (List.replicate (8 - k) 0 ++ (be8 x).drop (8 - k)))
theorem len_padK (x z k : Nat) (hk : k ≤ 8) : (padK x z k).length = 9 + z := by
  simp [padK, len_be8]
  omega
theorem be8_get (x k : Nat) (hk : k < 8) : (be8 x)[k]? = some (UInt8.ofNat (x / 2 ^ (8 * (7 - k)) % 256)) := by simp [be8, hk]
theorem padK_set (x z k : Nat) (hk : k < 8) : (padK x z k).set (8 + z - k) (UInt8.ofNat (x / 2 ^ (8 * k) % 256)) = padK x z (k + 1) := by
  unfold padK
  have hg := be8_get x (7 - k) (by omega)
  rw [show 7 - (7 - k) = k from by omega] at hg
  obtain ⟨hlt, hg'⟩ := List.getElem?_eq_some_iff.1 hg
  rw [show 8 + z - k = (7 + z - k) + 1 from by omega, List.set_cons_succ, List.set_append_right _ _ (by simp; omega), List.length_replicate, show 7 + z - k - z = 7 - k from by omega,
    show 8 - k = (7 - k) + 1 from by omega, List.set_append_left _ _ (by simp), List.replicate_succ', List.set_append_right _ _ (by simp), List.length_replicate, Nat.sub_self, List.set_cons_zero,
    show 8 - (k + 1) = 7 - k from by omega, List.drop_eq_getElem_cons hlt, hg', List.append_assoc]
  rfl
theorem padK_zero (x z : Nat) : (128 : UInt8) :: List.replicate (8 + z) 0 = padK x z 0 := by
  unfold padK
  rw [show 8 - 0 = 8 from rfl, List.drop_of_length_le (by simp [len_be8]), List.append_nil, List.replicate_append_replicate, Nat.add_comm]
theorem padK_all (n : Nat) : padK (8 * n) (noughts n) 8 = padL n := by
  unfold padK padL
  simp
theorem size_byte (n k : Nat) (hk : k < 8) : 8 * n % 18446744073709551616 / 2 ^ (8 * k) % 256 = 8 * n / 2 ^ (8 * k) % 256 := by
  have e : (18446744073709551616 : Nat) = 2 ^ (8 * k) * 2 ^ (64 - 8 * k) := by rw [← Nat.pow_add, show 8 * k + (64 - 8 * k) = 64 from by omega]
  rw [e, Nat.mod_mul_right_div_self]
  have e2 : (2 : Nat) ^ (64 - 8 * k) = 256 * 2 ^ (56 - 8 * k) := by rw [show 64 - 8 * k = 8 + (56 - 8 * k) from by omega, Nat.pow_add]
  rw [e2, Nat.mod_mul_right_mod]
end Go.Proofs.Ytangblcfdboghaa
