/-
  Unlike numbers, words and strings are written down unlike; a number that is less is not longer; words stand as their numbers do: plain facts on lists.
-/
import Derived.Test.YtangblcfdboghaaPure
import GoSem.Op.String
namespace Go.Proofs.Ytangblcfdboghaa
set_option linter.unusedVariables false

/-- What digits are worth. -/
def valF : List UInt8 → Nat
  | [] => 0
  | c :: l => c.toNat % 128 + 128 * valF l
theorem valF_digsF : ∀ f n, n < 128 ^ (f + 1) → valF (digsF f n) = n
  | 0, n, h => by
    simp at h
    simp [digsF, valF]
    omega
  | f + 1, n, h => by
    unfold digsF
    by_cases hn : n < 128
    · simp [hn, valF]
    · have h2 := valF_digsF f (n / 128) (by rw [Nat.div_lt_iff_lt_mul (by omega), ← Nat.pow_succ]; exact h)
      simp only [hn, if_false, valF, h2]
      rw [ofNat_toNat _ (by omega)]
      omega
theorem digs_inj (n m : Nat) (hn : n < 18446744073709551616) (hm : m < 18446744073709551616) (h : digs n = digs m) : n = m := by
  have h1 := valF_digsF 9 n (by simp; omega)
  have h2 := valF_digsF 9 m (by simp; omega)
  unfold digs at h
  rw [h] at h1
  exact h1.symm.trans h2
theorem ndF_mono : ∀ f n m, n ≤ m → ndF f n ≤ ndF f m
  | 0, _, _, _ => Nat.le_refl _
  | f + 1, n, m, h => by
    unfold ndF
    have h2 := ndF_mono f (n / 128) (m / 128) (by omega)
    by_cases hn : n < 128
    · simp only [hn, if_true]; split <;> omega
    · have hm : ¬ m < 128 := by omega
      simp only [hn, hm, if_false]
      omega
theorem nd_mono (n m : Nat) (h : n ≤ m) : nd n ≤ nd m := ndF_mono 9 n m h

theorem byte_lt (n i : Nat) : n / 2 ^ (8 * (3 - i)) % 256 < 256 := Nat.mod_lt _ (by omega)
theorem wd_val (n : Nat) (h : n < 4294967296) : (((byteAt n 0).toNat * 256 + (byteAt n 1).toNat) * 256 + (byteAt n 2).toNat) * 256 + (byteAt n 3).toNat = n := by
  unfold byteAt
  rw [ofNat_toNat _ (byte_lt _ _), ofNat_toNat _ (byte_lt _ _), ofNat_toNat _ (byte_lt _ _), ofNat_toNat _ (byte_lt _ _)]
  simp
  omega
theorem u8_lt (a b : UInt8) : decide (a < b) = decide (a.toNat < b.toNat) := by
  rw [Bool.eq_iff_iff]; simp [UInt8.lt_iff_toNat_lt]
theorem u8_eq (a b : UInt8) : (a == b) = decide (a.toNat = b.toNat) := by
  rw [Bool.eq_iff_iff]; simp [← UInt8.toNat_inj]
theorem less4 (a b c d x y z t : Nat) (ha : a < 256) (hb : b < 256) (hc : c < 256) (hd : d < 256) (hx : x < 256) (hy : y < 256) (hz : z < 256) (ht : t < 256) :
    (a < x ∨ a = x ∧ (b < y ∨ b = y ∧ (c < z ∨ c = z ∧ d < t))) ↔ ((a * 256 + b) * 256 + c) * 256 + d < ((x * 256 + y) * 256 + z) * 256 + t := by omega
theorem wd_less (n m : Nat) (hn : n < 4294967296) (hm : m < 4294967296) : Op.bytesLess (wd n) (wd m) = decide (n < m) := by
  have h := less4 (byteAt n 0).toNat (byteAt n 1).toNat (byteAt n 2).toNat (byteAt n 3).toNat (byteAt m 0).toNat (byteAt m 1).toNat (byteAt m 2).toNat (byteAt m 3).toNat
    (UInt8.toNat_lt _) (UInt8.toNat_lt _) (UInt8.toNat_lt _) (UInt8.toNat_lt _) (UInt8.toNat_lt _) (UInt8.toNat_lt _) (UInt8.toNat_lt _) (UInt8.toNat_lt _)
  rw [wd_val n hn, wd_val m hm] at h
  rw [Bool.eq_iff_iff, decide_eq_true_iff, ← h]
  simp only [wd, Op.bytesLess, u8_lt, u8_eq, Bool.or_eq_true, Bool.and_eq_true, decide_eq_true_iff, Bool.or_false, Bool.and_false]
theorem blob_inj (a b : List UInt8) (ha : a.length < 18446744073709551616) (hb : b.length < 18446744073709551616) (h : blob a = blob b) : a = b := by
  unfold blob at h
  have key : ∀ f n m (x y : List UInt8), n < 128 ^ (f + 1) → m < 128 ^ (f + 1) → digsF f n ++ x = digsF f m ++ y → n = m ∧ x = y := by
    intro f
    induction f with
    | zero =>
      intro n m x y hn hm h
      simp [digsF] at h
      refine ⟨?_, h.2⟩
      have := congrArg UInt8.toNat h.1
      rw [ofNat_toNat _ (by omega), ofNat_toNat _ (by omega)] at this
      exact this
    | succ f ih =>
      intro n m x y hn hm h
      unfold digsF at h
      by_cases h1 : n < 128 <;> by_cases h2 : m < 128
      · simp only [h1, h2, if_true, List.cons_append, List.nil_append, List.cons.injEq] at h
        refine ⟨?_, h.2⟩
        have := congrArg UInt8.toNat h.1
        rw [ofNat_toNat _ (by omega), ofNat_toNat _ (by omega)] at this
        exact this
      · simp only [h1, h2, if_true, if_false, List.cons_append, List.nil_append, List.cons.injEq] at h
        have := congrArg UInt8.toNat h.1
        rw [ofNat_toNat _ (by omega), ofNat_toNat _ (by omega)] at this
        omega
      · simp only [h1, h2, if_true, if_false, List.cons_append, List.nil_append, List.cons.injEq] at h
        have := congrArg UInt8.toNat h.1
        rw [ofNat_toNat _ (by omega), ofNat_toNat _ (by omega)] at this
        omega
      · simp only [h1, h2, if_false, List.cons_append, List.cons.injEq] at h
        have e1 := congrArg UInt8.toNat h.1
        rw [ofNat_toNat _ (by omega), ofNat_toNat _ (by omega)] at e1
        have e2 := ih (n / 128) (m / 128) x y (by rw [Nat.div_lt_iff_lt_mul (by omega), ← Nat.pow_succ]; exact hn) (by rw [Nat.div_lt_iff_lt_mul (by omega), ← Nat.pow_succ]; exact hm) h.2
        exact ⟨by omega, e2.2⟩
  exact (key 9 _ _ _ _ (by simp; omega) (by simp; omega) h).2
end Go.Proofs.Ytangblcfdboghaa
