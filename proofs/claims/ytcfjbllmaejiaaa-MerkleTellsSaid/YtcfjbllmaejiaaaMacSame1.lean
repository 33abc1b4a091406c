/-
  What mac.Same answers, for any two lists of bytes.
-/
import Derived.Test.YtcfjbllmaejiaaaLow
import Derived.Test.YtcfjbllmaejiaaaBlock
import Derived.Laws.BitsAll
namespace Go.Proofs.Ytcfjbllmaejiaaa
open Go.RowKit
set_option linter.unusedVariables false
theorem nat_xor_zero (a b : Nat) : a ^^^ b = 0 ↔ a = b := by
  constructor
  · intro h
    have h1 : a ^^^ (a ^^^ b) = a := by rw [h, Nat.xor_zero]
    rw [← Nat.xor_assoc, Nat.xor_self, Nat.zero_xor] at h1
    exact h1.symm
  · rintro rfl
    exact Nat.xor_self a
theorem i64_xor_small (a b : Nat) (ha : a < 2 ^ 41) (hb : b < 2 ^ 41) : bits .xor .i64 (a : Int) (b : Int) = ((a ^^^ b : Nat) : Int) := by
  have hx : a ^^^ b < 2 ^ 41 := Nat.xor_lt_two_pow ha hb
  show IntKind.i64.wrap ((BitVec.ofInt 64 (a : Int) ^^^ BitVec.ofInt 64 (b : Int)).toNat : Int) = _
  rw [BitVec.toNat_xor, ofInt_u64 a (by omega), ofInt_u64 b (by omega)]
  exact wrap_small _ (by omega) (by omega)
theorem byte_take (l b : List UInt8) (k : Nat) (x y : UInt8) (hx : l[k]? = some x) (hy : b[k]? = some y) : l.take (k + 1) = b.take (k + 1) ↔ l.take k = b.take k ∧ x = y := by
  rw [List.take_add_one, List.take_add_one, hx, hy]
  have hl : (l.take k).length = (b.take k).length := by
    have h1 := (List.getElem?_eq_some_iff.1 hx).1
    have h2 := (List.getElem?_eq_some_iff.1 hy).1
    simp
    omega
  constructor
  · intro h
    obtain ⟨h1, h2⟩ := List.append_inj h hl
    exact ⟨h1, by simpa using h2⟩
  · rintro ⟨h1, h2⟩
    rw [h1, h2]
def Unlike (a b : List UInt8) (k x : Nat) : Prop := x < 18446744073709551616 ∧ (x = 0 ↔ a.length = b.length ∧ a.take k = b.take k)
theorem Unlike.start (a b : List UInt8) (n m : Nat) (ha : a.length = n) (hb : b.length = m) (h1 : n ≤ 1099511627776) (h2 : m ≤ 1099511627776) : Unlike a b 0 (n ^^^ m) := by
  have hx : n ^^^ m < 2 ^ 41 := Nat.xor_lt_two_pow (by omega) (by omega)
  refine ⟨by omega, ?_⟩
  rw [nat_xor_zero, ha, hb]
  simp
theorem Unlike.next {a b : List UInt8} {k x : Nat} (h : Unlike a b k x) (c d : UInt8) (hc : a[k]? = some c) (hd : b[k]? = some d) : Unlike a b (k + 1) (x ||| (c ^^^ d).toNat) := by
  have hcd := (c ^^^ d).toNat_lt
  have hlt : x ||| (c ^^^ d).toNat < 2 ^ 64 := Nat.or_lt_two_pow h.1 (by omega)
  refine ⟨by omega, ?_⟩
  rw [Nat.or_eq_zero_iff, h.2, byte_take a b k c d hc hd]
  have e : (c ^^^ d).toNat = 0 ↔ c = d := by
    rw [UInt8.toNat_xor, nat_xor_zero, UInt8.toNat_inj]
  rw [e]
  constructor
  · rintro ⟨⟨p, q⟩, r⟩; exact ⟨p, q, r⟩
  · rintro ⟨p, q, r⟩; exact ⟨⟨p, q⟩, r⟩
theorem Unlike.done {a b : List UInt8} {k x : Nat} (h : Unlike a b k x) (hk : k = min a.length b.length) : decide (x = 0) = (a == b) := by
  have e : (x = 0) ↔ a = b := by
    rw [h.2]
    constructor
    · rintro ⟨p, q⟩
      rw [hk, p, Nat.min_self] at q
      rw [← p, List.take_length] at q
      rw [q, p, List.take_length]
    · rintro rfl; exact ⟨rfl, rfl⟩
  by_cases hx : x = 0
  · simp [hx, (e.1 hx)]
  · have : a ≠ b := fun h' => hx (e.2 h')
    simp [hx, this]
end Go.Proofs.Ytcfjbllmaejiaaa
