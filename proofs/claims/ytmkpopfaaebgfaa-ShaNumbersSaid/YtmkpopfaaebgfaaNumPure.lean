/-
  Numbers as digits of sixteen bits, the lowest first: their values, plainly.
-/
import Derived.Test.YtmkpopfaaebgfaaMem
namespace Go.Proofs.Ytmkpopfaaebgfaa
open Go.RowKit
set_option linter.unusedVariables false

/-- The value of digits. -/
def dv : List UInt32 → Nat
  | [] => 0
  | x :: l => x.toNat + 65536 * dv l
def Small (l : List UInt32) : Prop := ∀ x ∈ l, x.toNat < 65536
def dg (l : List UInt32) (j : Nat) : Nat := (l.getD j 0).toNat
theorem dg_get {l : List UInt32} {j : Nat} {x : UInt32} (h : l[j]? = some x) : dg l j = x.toNat := by
  unfold dg
  rw [List.getD_eq_getElem?_getD, h]
  rfl
theorem dg_out {l : List UInt32} {j : Nat} (h : l.length ≤ j) : dg l j = 0 := by
  unfold dg
  rw [List.getD_eq_getElem?_getD, List.getElem?_eq_none h]
  rfl
theorem dg_lt {l : List UInt32} (h : Small l) (j : Nat) : dg l j < 65536 := by
  by_cases hj : j < l.length
  · rw [dg_get (List.getElem?_eq_getElem hj)]
    exact h _ (List.getElem_mem _)
  · rw [dg_out (by omega)]
    decide
theorem dv_drop (l : List UInt32) (i : Nat) : dv (l.drop i) = dg l i + 65536 * dv (l.drop (i + 1)) := by
  by_cases h : i < l.length
  · rw [List.drop_eq_getElem_cons h, dv, dg_get (List.getElem?_eq_getElem h)]
  · rw [List.drop_of_length_le (by omega), List.drop_of_length_le (by omega), dg_out (by omega)]
    rfl
theorem dv_append (a b : List UInt32) : dv (a ++ b) = dv a + 65536 ^ a.length * dv b := by
  induction a with
  | nil => simp [dv]
  | cons x l ih =>
    rw [List.cons_append, dv, dv, ih, List.length_cons, Nat.pow_succ, Nat.mul_add, Nat.add_assoc, ← Nat.mul_assoc, Nat.mul_comm (65536 ^ l.length) 65536]
theorem dv_split (l : List UInt32) (i : Nat) (h : i ≤ l.length) : dv l = dv (l.take i) + 65536 ^ i * dv (l.drop i) := by
  have e := dv_append (l.take i) (l.drop i)
  rwa [List.take_append_drop, List.length_take, Nat.min_eq_left h] at e
theorem dv_lt (l : List UInt32) (h : Small l) : dv l < 65536 ^ l.length := by
  induction l with
  | nil => decide
  | cons x l ih =>
    have h1 := h x List.mem_cons_self
    have h2 := ih (fun y hy => h y (List.mem_cons_of_mem _ hy))
    rw [dv, List.length_cons, Nat.pow_succ, Nat.mul_comm]
    omega
theorem dv_take_succ (l : List UInt32) (k : Nat) (h : k < l.length) : dv (l.take (k + 1)) = dv (l.take k) + 65536 ^ k * dg l k := by
  rw [List.take_succ_eq_append_getElem h, dv_append, List.length_take, Nat.min_eq_left (by omega), dg_get (List.getElem?_eq_getElem h)]
  rfl
theorem dv_set (l : List UInt32) (j : Nat) (v : UInt32) (h : j < l.length) : dv (l.set j v) + 65536 ^ j * dg l j = dv l + 65536 ^ j * v.toNat := by
  induction l generalizing j with
  | nil => simp at h
  | cons x l ih =>
    cases j with
    | zero =>
      rw [List.set_cons_zero, dv, dv, dg_get (l := x :: l) (j := 0) rfl]
      omega
    | succ j =>
      have := ih j (by simpa using h)
      have e : dg (x :: l) (j + 1) = dg l j := by unfold dg; simp
      rw [List.set_cons_succ, dv, dv, e, Nat.pow_succ, Nat.mul_comm (65536 ^ j) 65536, Nat.mul_assoc, Nat.mul_assoc]
      omega
theorem dv_zeros (n : Nat) : dv (List.replicate n 0) = 0 := by
  induction n with
  | zero => rfl
  | succ n ih => rw [List.replicate_succ, dv, ih]; rfl
theorem small_zeros (n : Nat) : Small (List.replicate n 0) := fun x hx => by
  obtain rfl := List.eq_of_mem_replicate hx
  decide
theorem small_set {l : List UInt32} (h : Small l) (j : Nat) (v : UInt32) (hv : v.toNat < 65536) : Small (l.set j v) := fun x hx => by
  rcases List.mem_or_eq_of_mem_set hx with h1 | h1
  · exact h x h1
  · subst h1; exact hv
theorem small_append {a b : List UInt32} (h : Small a) (k : Small b) : Small (a ++ b) := fun x hx => by
  rcases List.mem_append.1 hx with h1 | h1
  · exact h x h1
  · exact k x h1
/-- What stands higher tells which number is greater. -/
theorem dv_gt (a b : List UInt32) (ha : Small a) (hb : Small b) (i : Nat) (h : dv (b.drop i) < dv (a.drop i)) : dv b < dv a := by
  have hi : i ≤ a.length := by
    rcases Nat.lt_or_ge a.length i with h1 | h1
    · rw [List.drop_of_length_le (l := a) (i := i) (by omega)] at h
      simp [dv] at h
    · exact h1
  rw [dv_split a i hi]
  rcases Nat.lt_or_ge b.length i with h1 | h1
  · have h2 := dv_lt b hb
    have h3 : 65536 ^ b.length ≤ 65536 ^ i := Nat.pow_le_pow_right (by decide) (by omega)
    have h4 : 65536 ^ i * 1 ≤ 65536 ^ i * dv (a.drop i) := Nat.mul_le_mul_left _ (by omega)
    omega
  · rw [dv_split b i h1]
    have h2 := dv_lt (b.take i) (fun x hx => hb x (List.mem_of_mem_take hx))
    rw [List.length_take, Nat.min_eq_left h1] at h2
    have h4 : 65536 ^ i * (dv (b.drop i) + 1) ≤ 65536 ^ i * dv (a.drop i) := Nat.mul_le_mul_left _ (by omega)
    rw [Nat.mul_add] at h4
    omega
end Go.Proofs.Ytmkpopfaaebgfaa
