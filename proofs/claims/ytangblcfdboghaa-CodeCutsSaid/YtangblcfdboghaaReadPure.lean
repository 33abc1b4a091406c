/-
  What is written down is read back, whatever stands ahead and behind; what is read is what stands there, written down; which error there is: plain facts on lists.
-/
import Derived.Test.YtangblcfdboghaaGetBlob
import Derived.Test.YtangblcfdboghaaFlashPure
import Derived.Test.YtangblcfdboghaaShortPure
namespace Go.Proofs.Ytangblcfdboghaa
set_option linter.unusedVariables false

theorem guF_digs (t : List UInt8) : ∀ f n i acc, i + f = 9 → n * 128 ^ i < 18446744073709551616 → (i = 0 ∨ n ≠ 0) → guF (f + 1) (digsF f n ++ t) i acc = (acc + n * 128 ^ i, i + ndF f n, 0)
  | 0, n, i, acc, hi, hn, hz => by
    obtain rfl : i = 9 := by omega
    have e9 : (128 : Nat) ^ 9 = 9223372036854775808 := by decide
    rw [e9] at hn ⊢
    obtain rfl : n = 1 := by omega
    rfl
  | f + 1, n, i, acc, hi, hn, hz => by
    unfold digsF ndF
    by_cases h : n < 128
    · rw [if_pos h, if_pos h, List.cons_append, guF_cons, ofNat_toNat _ (by omega), if_neg (by omega)]
      have he : endOk (UInt8.ofNat n) i = true := by
        have h9 : ¬ i = 9 := by omega
        simp only [endOk, h9, if_false, Bool.or_eq_true, bne_iff_ne, ne_eq, beq_iff_eq]
        rcases hz with h0 | h0
        · exact .inr h0
        · left
          intro e
          have := congrArg UInt8.toNat e
          rw [ofNat_toNat _ (by omega)] at this
          exact h0 this
      rw [he, if_pos rfl]
    · rw [if_neg h, if_neg h, List.cons_append, guF_cons, ofNat_toNat _ (by omega), if_pos (by omega)]
      have h2 : n / 128 * 128 ^ (i + 1) ≤ n * 128 ^ i := by
        rw [Nat.pow_succ', ← Nat.mul_assoc]
        exact Nat.mul_le_mul_right _ (Nat.div_mul_le_self _ _)
      rw [guF_digs t f (n / 128) (i + 1) _ (by omega) (by omega) (.inr (by omega))]
      have e1 : acc + (128 + n % 128) % 128 * 128 ^ i + n / 128 * 128 ^ (i + 1) = acc + n * 128 ^ i := by
        rw [Nat.add_mod_left, Nat.mod_mod, Nat.pow_succ', ← Nat.mul_assoc, Nat.add_assoc, ← Nat.add_mul]
        congr 2
        omega
      rw [e1, Nat.add_assoc i 1, Nat.add_comm 1]
/-- What is written down is read back, whatever stands behind it. -/
theorem gu_digs (n : Nat) (t : List UInt8) (h : n < 18446744073709551616) : gu (digs n ++ t) = (n, nd n, 0) := by
  have := guF_digs t 9 n 0 0 rfl (by simpa using h) (.inl rfl)
  simpa [gu, digs, nd] using this

theorem guF_read : ∀ f l i acc x k, i + f = 10 → guF f l i acc = (x, k, 0) → ∃ y, x = acc + y * 128 ^ i ∧ i + 1 ≤ k ∧ l.take (k - i) = digsF (f - 1) y ∧ (i = 0 ∨ y ≠ 0)
  | 0, l, i, acc, x, k, _, h => by simp [guF] at h
  | f + 1, [], i, acc, x, k, _, h => by simp [guF] at h
  | f + 1, c :: l, i, acc, x, k, hi, h => by
    rw [guF_cons] at h
    by_cases h1 : 128 ≤ c.toNat
    · rw [if_pos h1] at h
      obtain ⟨y, hy, hk, ht, hz⟩ := guF_read f l (i + 1) _ x k (by omega) h
      have hy0 : y ≠ 0 := by omega
      have hf : 1 ≤ f := by
        rcases f with _ | f
        · simp [guF] at h
        · omega
      have hc := UInt8.toNat_lt c
      refine ⟨c.toNat % 128 + 128 * y, ?_, by omega, ?_, .inr (by omega)⟩
      · rw [hy, Nat.pow_succ', Nat.add_mul, Nat.add_assoc, ← Nat.mul_assoc, Nat.mul_comm y 128]
      · rw [show k - i = (k - (i + 1)) + 1 from by omega, List.take_succ_cons, ht, show f + 1 - 1 = (f - 1) + 1 from by omega]
        conv => rhs; unfold digsF
        rw [if_neg (by omega), show (c.toNat % 128 + 128 * y) / 128 = y from by omega]
        congr 1
        rw [← UInt8.toNat_inj, ofNat_toNat _ (by omega)]
        omega
    · rw [if_neg h1] at h
      cases he : endOk c i
      · simp [he] at h
      · rw [he, if_pos rfl] at h
        simp only [Prod.mk.injEq, and_true] at h
        obtain ⟨rfl, rfl⟩ := h
        have hc0 : i = 0 ∨ c.toNat ≠ 0 := by
          by_cases h9 : i = 9
          · subst h9
            simp [endOk] at he
            subst he
            right; decide
          · simp only [endOk, h9, if_false, Bool.or_eq_true, bne_iff_ne, ne_eq, beq_iff_eq] at he
            rcases he with h0 | h0
            · right
              intro e
              exact h0 (UInt8.toNat_inj.1 e)
            · exact .inl h0
        refine ⟨c.toNat, rfl, Nat.le_refl _, ?_, hc0⟩
        rw [show i + 1 - i = 1 from by omega, List.take_succ_cons, List.take_zero]
        rcases f with _ | f
        · simp [digsF]
        · rw [show f + 1 + 1 - 1 = f + 1 from by omega]
          unfold digsF
          rw [if_pos (by omega)]
          simp
/-- What is read is what stands there, written down. -/
theorem gu_read (l : List UInt8) (x k : Nat) (h : gu l = (x, k, 0)) : l.take k = digs x := by
  obtain ⟨y, hy, _, ht, _⟩ := guF_read 10 l 0 0 x k rfl h
  simp at hy
  subst hy
  exact ht
/-- Which error there is. -/
def starts (l : List UInt8) : Bool := decide (l.length < 10) && l.all fun c => decide (128 ≤ c.toNat)
theorem guF_err : ∀ f l i acc, (guF f l i acc).2.2 ≠ 0 → guF f l i acc = (0, 0, if l.length < f ∧ (l.all fun c => decide (128 ≤ c.toNat)) = true then 10 else 11)
  | 0, l, i, acc, _ => by simp [guF]
  | f + 1, [], i, acc, _ => by simp [guF]
  | f + 1, c :: l, i, acc, h => by
    rw [guF_cons] at h ⊢
    by_cases h1 : 128 ≤ c.toNat
    · rw [if_pos h1] at h ⊢
      rw [guF_err f l (i + 1) _ h]
      simp [h1]
    · rw [if_neg h1] at h ⊢
      cases he : endOk c i
      · simp [h1]
      · simp [he] at h
theorem gu_err (l : List UInt8) (h : (gu l).2.2 ≠ 0) : gu l = (0, 0, if starts l then 10 else 11) := by
  have := guF_err 10 l 0 0 h
  unfold gu
  rw [this]
  simp [starts, Bool.and_eq_true]

theorem getU_at (a t : List UInt8) (p : Int) (hp : p = (a.length : Int)) : getU (a ++ t) p = if (gu t).2.2 = 0 then ((gu t).1, a.length + (gu t).2.1, 0) else (0, 0, (gu t).2.2) := by
  subst hp
  have ha : isAt (a ++ t).length (a.length : Int) = true := by simp [isAt]; omega
  unfold getU
  rw [ha, if_pos rfl]
  simp
theorem getU_digs (a t : List UInt8) (n : Nat) (p : Int) (hp : p = (a.length : Int)) (h : n < 18446744073709551616) : getU (a ++ (digs n ++ t)) p = (n, a.length + nd n, 0) := by
  rw [getU_at a _ p hp, gu_digs n t h]
  simp
theorem getW_wd (a t : List UInt8) (n : Nat) (p : Int) (hp : p = (a.length : Int)) (h : n < 4294967296) : getW (a ++ (wd n ++ t)) p = (n, a.length + 4, 0) := by
  subst hp
  have ha : isAt (a ++ (wd n ++ t)).length (a.length : Int) = true := by simp [isAt]; omega
  have hw : wAt (a ++ (wd n ++ t)) a.length = n := by
    have g : ∀ j, j < 4 → oct (a ++ (wd n ++ t)) (a.length + j) = (byteAt n j).toNat := by
      intro j hj
      apply oct_get
      rw [List.getElem?_append_right (by omega), Nat.add_sub_cancel_left, List.getElem?_append_left (by rw [len_wd]; exact hj)]
      match j, hj with
      | 0, _ => rfl
      | 1, _ => rfl
      | 2, _ => rfl
      | 3, _ => rfl
    have h0 := g 0 (by omega)
    rw [Nat.add_zero] at h0
    unfold wAt
    rw [h0, g 1 (by omega), g 2 (by omega), g 3 (by omega)]
    exact wd_val n h
  unfold getW
  rw [ha, if_pos rfl, if_neg (by simp [len_wd])]
  simp [hw]
theorem getB_blob (a b t : List UInt8) (p most : Int) (hp : p = (a.length : Int)) (hb : b.length < 18446744073709551616) (hm : (b.length : Int) ≤ most) : getB (a ++ (blob b ++ t)) p most = (b, a.length + (nd b.length + b.length), 0) := by
  have hg := getU_digs a (b ++ t) b.length p hp hb
  have e : a ++ (blob b ++ t) = a ++ (digs b.length ++ (b ++ t)) := by simp [blob]
  rw [e]
  simp only [getB, hg]
  rw [if_neg (by simp), if_neg (by omega), if_neg (by simp [len_digs]; omega)]
  have ed : (a ++ (digs b.length ++ (b ++ t))).drop (a.length + nd b.length) = b ++ t := by
    rw [← List.append_assoc, List.drop_left' (by simp [len_digs])]
  rw [ed]
  simp [Nat.add_assoc]
end Go.Proofs.Ytangblcfdboghaa
