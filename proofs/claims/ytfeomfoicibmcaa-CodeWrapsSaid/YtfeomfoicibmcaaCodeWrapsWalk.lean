/-
  The walk of CodeWraps.
-/
import Derived.Test.YtfeomfoicibmcaaCodeAwake
namespace Go.Proofs.Ytfeomfoicibmcaa
open Go.RowKit
set_option linter.unusedVariables false
theorem into_range {lo many n : Int} (h : 0 < many) : lo ≤ into lo many n ∧ into lo many n < lo + many := by
  have h1 := Int.emod_nonneg (n - lo) (show many ≠ 0 by omega)
  have h2 := Int.emod_lt_of_pos (n - lo) h
  unfold into
  omega
theorem into_self {lo many n : Int} (h1 : lo ≤ n) (h2 : n < lo + many) : into lo many n = n := by
  unfold into
  rw [Int.emod_eq_of_lt (by omega) (by omega)]
  omega
theorem into_cong {lo many x y : Int} (h : x % many = y % many) : into lo many x = into lo many y := by
  unfold into
  rw [Int.sub_emod, h, ← Int.sub_emod]
theorem into_mod (lo many n : Int) : into lo many n % many = n % many := by
  unfold into
  rw [Int.emod_add_emod]
  congr 1
  omega
/-- The least, how many there are. -/
def manyF (t : Nat) : Int := (rng t).2 - (rng t).1 + 1
theorem wrap_into {t : Nat} (h : t = 2 ∨ t = 3 ∨ t = 4 ∨ t = 5) (n : Int) : wrapF t n = into (rng t).1 (manyF t) n := by
  rcases h with rfl | rfl | rfl | rfl <;> simp [wrapF, rng, manyF]
theorem many_dvd {t : Nat} (h : t = 2 ∨ t = 3 ∨ t = 4 ∨ t = 5) : 0 < manyF t ∧ ∃ k : Int, 18446744073709551616 = manyF t * k := by
  rcases h with rfl | rfl | rfl | rfl
  · exact ⟨by decide, 72057594037927936, by decide⟩
  · exact ⟨by decide, 281474976710656, by decide⟩
  · exact ⟨by decide, 4294967296, by decide⟩
  · exact ⟨by decide, 4294967296, by decide⟩
theorem wrap64_mod {m k : Int} (h : 18446744073709551616 = m * k) (x : Int) : wrap64 x % m = x % m := by
  unfold wrap64
  have h1 := Int.emod_def (x + 9223372036854775808) 18446744073709551616
  have e : (x + 9223372036854775808) % 18446744073709551616 - 9223372036854775808 = x + m * (-(k * ((x + 9223372036854775808) / 18446744073709551616))) := by
    have : 18446744073709551616 * ((x + 9223372036854775808) / 18446744073709551616) = m * (k * ((x + 9223372036854775808) / 18446744073709551616)) := by
      rw [← Int.mul_assoc, ← h]
    rw [Int.mul_neg, ← this, h1]
    omega
  rw [e, Int.add_mul_emod_self_left]
theorem wrap_same {t : Nat} (h : t = 2 ∨ t = 3 ∨ t = 4 ∨ t = 5) (x y : Int) (e : x % manyF t = y % manyF t) : wrapF t (wrap64 x) = wrapF t (wrap64 y) := by
  obtain ⟨_, k, hk⟩ := many_dvd h
  rw [wrap_into h, wrap_into h]
  exact into_cong (by rw [wrap64_mod hk, wrap64_mod hk, e])
theorem wrap_mod {t : Nat} (h : t = 2 ∨ t = 3 ∨ t = 4 ∨ t = 5) (x : Int) : wrapF t x % manyF t = x % manyF t := by
  rw [wrap_into h]
  exact into_mod _ _ _
theorem wrap_range {t : Nat} (h : 1 ≤ t ∧ t ≤ 5) (n : Int) : (rng t).1 ≤ wrapF t n ∧ wrapF t n ≤ (rng t).2 := by
  have h' : t = 1 ∨ (t = 2 ∨ t = 3 ∨ t = 4 ∨ t = 5) := by omega
  rcases h' with rfl | h'
  · simp only [rng, wrapF]
    simp
    split <;> omega
  · rw [wrap_into h']
    have h1 := into_range (lo := (rng t).1) (n := n) (many_dvd h').1
    unfold manyF at h1 ⊢
    omega
theorem wrap_self {t : Nat} (h : 1 ≤ t ∧ t ≤ 5) {n : Int} (h1 : (rng t).1 ≤ n) (h2 : n ≤ (rng t).2) : wrapF t n = n := by
  have h' : t = 1 ∨ (t = 2 ∨ t = 3 ∨ t = 4 ∨ t = 5) := by omega
  rcases h' with rfl | h'
  · simp only [rng] at h1 h2
    simp at h1 h2
    simp only [wrapF]
    simp
    split <;> omega
  · rw [wrap_into h']
    exact into_self h1 (by unfold manyF; omega)
theorem rng_lt {t : Nat} (h : 1 ≤ t ∧ t ≤ 5) : (rng t).1 < (rng t).2 := by
  have h' : t = 1 ∨ t = 2 ∨ t = 3 ∨ t = 4 ∨ t = 5 := by omega
  rcases h' with rfl | rfl | rfl | rfl | rfl <;> decide
theorem rng_none {t : Nat} (h : ¬ (1 ≤ t ∧ t ≤ 5)) : rng t = (0, 0) := by
  unfold rng
  repeat' split
  all_goals first | rfl | omega
theorem wrap_none {t : Nat} (h : ¬ (1 ≤ t ∧ t ≤ 5)) (n : Int) : wrapF t n = 0 := by
  unfold wrapF
  repeat' split
  all_goals first | rfl | omega

theorem wrap64_bd (x : Int) : -9223372036854775808 ≤ wrap64 x ∧ wrap64 x < 9223372036854775808 := by
  unfold wrap64
  omega
set_option maxHeartbeats 4000000 in
set_option maxRecDepth 100000 in
theorem codewraps_none (t : Nat) (a b : Int) (w : World) (ht : ¬ (1 ≤ t ∧ t ≤ 5)) (ha : -9223372036854775808 ≤ a ∧ a < 9223372036854775808) :
    Calls Try.prog 5 #[.int .u8 (t : Int), .int .i64 a, .int .i64 b] w fun e w' => e = .returned (.bool true) ∧ Below w.heap.size w w' := by
  have S1 : ∀ wq, Calls Try.prog 14 #[.int .u8 (t : Int)] wq fun e w' => e = .returned (.tuple #[.int .i64 0, .int .i64 0]) ∧ wq = w' := fun wq => by
    have := Range_any t wq
    rwa [rng_none ht] at this
  have S2 : ∀ wq, Calls Try.prog 20 #[.int .u8 (t : Int), .int .i64 a] wq fun e w' => e = .returned (.int .i64 0) ∧ wq = w' := fun wq => by
    have := Wrap_any t a wq ha
    rwa [wrap_none ht] at this
  have h : t < 1 ∨ 5 < t := by omega
  clear ht ha
  rcases h with h | h
  · have g : decide ((t : Int) < 1) = true := by simp; omega
    go_enter Try.func5, Try.ntmps5
    go_wp2_with (first
      | (go_at_call 14; with_reducible refine (S1 _).mono ?_; rintro e w' ⟨rfl, rfl⟩)
      | (go_at_call 20; with_reducible refine (S2 _).mono ?_; rintro e w' ⟨rfl, rfl⟩)
      | (go_at_call 9; refine (awake13_any _).mono ?_; rintro e w1 ⟨rfl, hB⟩))
    go_ret
    exact ⟨rfl, hB⟩
  · have g : decide ((t : Int) < 1) = false := by simp; omega
    have g2 : decide ((5 : Int) < t) = true := by simp; omega
    go_enter Try.func5, Try.ntmps5
    go_wp2_with (first
      | (go_at_call 14; with_reducible refine (S1 _).mono ?_; rintro e w' ⟨rfl, rfl⟩)
      | (go_at_call 20; with_reducible refine (S2 _).mono ?_; rintro e w' ⟨rfl, rfl⟩)
      | (go_at_call 9; refine (awake13_any _).mono ?_; rintro e w1 ⟨rfl, hB⟩))
    go_ret
    exact ⟨rfl, hB⟩
set_option maxHeartbeats 4000000 in
set_option maxRecDepth 100000 in
theorem codewraps_in (t : Nat) (a b : Int) (w : World) (ht : 1 ≤ t ∧ t ≤ 5) (ha : -9223372036854775808 ≤ a ∧ a < 9223372036854775808) (hb : -9223372036854775808 ≤ b ∧ b < 9223372036854775808) :
    Calls Try.prog 5 #[.int .u8 (t : Int), .int .i64 a, .int .i64 b] w fun e w' => e = .returned (.bool true) ∧ Below w.heap.size w w' := by
  have k1 := wrap_range ht a
  have k2 := wrap_range ht b
  have k3 := wrap_self ht k1.1 k1.2
  have k4 := rng_lt ht
  have k5 : (rng t).1 ≤ a → a ≤ (rng t).2 → wrapF t a = a := fun h1 h2 => wrap_self ht h1 h2
  obtain ⟨⟨lo, hi⟩, hr⟩ : ∃ r, rng t = r := ⟨_, rfl⟩
  obtain ⟨W, hW⟩ : ∃ W, wrapF t a = W := ⟨_, rfl⟩
  obtain ⟨V, hV⟩ : ∃ V, wrapF t b = V := ⟨_, rfl⟩
  have S1 : ∀ wq, Calls Try.prog 14 #[.int .u8 (t : Int)] wq fun e w' => e = .returned (.tuple #[.int .i64 lo, .int .i64 hi]) ∧ wq = w' := fun wq => by
    have := Range_any t wq
    rwa [hr] at this
  have S2 : ∀ wq, Calls Try.prog 20 #[.int .u8 (t : Int), .int .i64 a] wq fun e w' => e = .returned (.int .i64 W) ∧ wq = w' := fun wq => by
    have := Wrap_any t a wq ha
    rwa [hW] at this
  have S3 : ∀ wq, Calls Try.prog 20 #[.int .u8 (t : Int), .int .i64 b] wq fun e w' => e = .returned (.int .i64 V) ∧ wq = w' := fun wq => by
    have := Wrap_any t b wq hb
    rwa [hV] at this
  have S4 : ∀ wq, Calls Try.prog 20 #[.int .u8 (t : Int), .int .i64 W] wq fun e w' => e = .returned (.int .i64 W) ∧ wq = w' := fun wq => by
    have := Wrap_any t W wq (by have := rng_wide t; omega)
    rw [hW] at k3
    rwa [k3] at this
  rw [hr] at k1 k2 k4 k5
  rw [hW] at k1 k3 k5
  simp only [] at k1 k2 k4 k5
  have g1 : decide ((t : Int) < 1) = false := by simp; omega
  have g2 : decide ((5 : Int) < t) = false := by simp; omega
  have g3 : decide (W < lo) = false := by simp; omega
  have g4 : decide (hi < W) = false := by simp; omega
  have g5 : decide (hi ≤ lo) = false := by simp; omega
  have cs : decide (lo ≤ a) = false ∨ (decide (lo ≤ a) = true ∧ decide (a ≤ hi) = false) ∨ (decide (lo ≤ a) = true ∧ decide (a ≤ hi) = true ∧ (W != a) = false) := by
    by_cases h1 : lo ≤ a
    · by_cases h2 : a ≤ hi
      · exact .inr (.inr ⟨by simpa using h1, by simpa using h2, by simp [k5 h1 h2]⟩)
      · exact .inr (.inl ⟨by simpa using h1, by simpa using h2⟩)
    · exact .inl (by simpa using h1)
  have h' : t = 1 ∨ (t = 2 ∨ t = 3 ∨ t = 4 ∨ t = 5) := by omega
  rcases h' with h1 | h'
  · have g6 : ((t : Int) == 1) = true := by simp; omega
    have g7 : ((W == 1) == (a != 0)) = true := by
      rw [← hW, h1]
      simp only [wrapF]
      by_cases h0 : a = 0
      · simp [h0]
      · simp [h0]
    clear k1 k2 k3 k4 k5 ha hb ht h1 hW hV hr S3
    rcases cs with c1 | ⟨c1, c2⟩ | ⟨c1, c2, c3⟩
    all_goals go_enter Try.func5, Try.ntmps5
    all_goals go_wp2_with (first
      | (go_at_call 14; with_reducible refine (S1 _).mono ?_; rintro e w' ⟨rfl, rfl⟩)
      | (go_at_call 20; with_reducible refine (S2 _).mono ?_; rintro e w' ⟨rfl, rfl⟩)
      | (go_at_call 20; with_reducible refine (S4 _).mono ?_; rintro e w' ⟨rfl, rfl⟩)
      | (go_at_call 9; refine (awake13_any _).mono ?_; rintro e w1 ⟨rfl, hB⟩))
    all_goals go_ret
    all_goals exact ⟨rfl, hB⟩
  · have g6 : ((t : Int) == 1) = false := by simp; omega
    have e1 : wrapF t (wrap64 (a + b)) = wrapF t (wrap64 (W + V)) := by
      refine wrap_same h' _ _ ?_
      rw [Int.add_emod, ← wrap_mod h' a, ← wrap_mod h' b, ← Int.add_emod, hW, hV]
    have e2 : wrapF t (wrap64 (a * b)) = wrapF t (wrap64 (W * V)) := by
      refine wrap_same h' _ _ ?_
      rw [Int.mul_emod, ← wrap_mod h' a, ← wrap_mod h' b, ← Int.mul_emod, hW, hV]
    have e3 : wrapF t (wrap64 (a - b)) = wrapF t (wrap64 (W - V)) := by
      refine wrap_same h' _ _ ?_
      rw [Int.sub_emod, ← wrap_mod h' a, ← wrap_mod h' b, ← Int.sub_emod, hW, hV]
    obtain ⟨P1, p1⟩ : ∃ P, wrapF t (wrap64 (W + V)) = P := ⟨_, rfl⟩
    obtain ⟨P2, p2⟩ : ∃ P, wrapF t (wrap64 (W * V)) = P := ⟨_, rfl⟩
    obtain ⟨P3, p3⟩ : ∃ P, wrapF t (wrap64 (W - V)) = P := ⟨_, rfl⟩
    have T : ∀ (x P : Int), wrapF t (wrap64 x) = P → ∀ wq, Calls Try.prog 20 #[.int .u8 (t : Int), .int .i64 (wrap64 x)] wq fun e w' => e = .returned (.int .i64 P) ∧ wq = w' := fun x P h wq => by
      have := Wrap_any t (wrap64 x) wq (wrap64_bd x)
      rwa [h] at this
    have T1 := T _ _ p1
    have T2 := T _ _ p2
    have T3 := T _ _ p3
    have U1 := T _ _ (e1.trans p1)
    have U2 := T _ _ (e2.trans p2)
    have U3 := T _ _ (e3.trans p3)
    clear k1 k2 k3 k4 k5 ha hb ht hW hV hr h' T e1 e2 e3 p1 p2 p3
    rcases cs with c1 | ⟨c1, c2⟩ | ⟨c1, c2, c3⟩
    all_goals go_enter Try.func5, Try.ntmps5
    all_goals go_wp2_with (first
      | (go_at_call 14; with_reducible refine (S1 _).mono ?_; rintro e w' ⟨rfl, rfl⟩)
      | (go_at_call 20; with_reducible refine (S2 _).mono ?_; rintro e w' ⟨rfl, rfl⟩)
      | (go_at_call 20; with_reducible refine (S3 _).mono ?_; rintro e w' ⟨rfl, rfl⟩)
      | (go_at_call 20; with_reducible refine (S4 _).mono ?_; rintro e w' ⟨rfl, rfl⟩)
      | (go_at_call 20; with_reducible refine (T1 _).mono ?_; rintro e w' ⟨rfl, rfl⟩)
      | (go_at_call 20; with_reducible refine (T2 _).mono ?_; rintro e w' ⟨rfl, rfl⟩)
      | (go_at_call 20; with_reducible refine (T3 _).mono ?_; rintro e w' ⟨rfl, rfl⟩)
      | (go_at_call 20; with_reducible refine (U1 _).mono ?_; rintro e w' ⟨rfl, rfl⟩)
      | (go_at_call 20; with_reducible refine (U2 _).mono ?_; rintro e w' ⟨rfl, rfl⟩)
      | (go_at_call 20; with_reducible refine (U3 _).mono ?_; rintro e w' ⟨rfl, rfl⟩)
      | (go_at_call 9; refine (awake13_any _).mono ?_; rintro e w1 ⟨rfl, hB⟩))
    all_goals go_ret
    all_goals exact ⟨rfl, hB⟩
theorem codewraps_walk (t : Nat) (a b : Int) (w : World) (ha : -9223372036854775808 ≤ a ∧ a < 9223372036854775808) (hb : -9223372036854775808 ≤ b ∧ b < 9223372036854775808) :
    Calls Try.prog 5 #[.int .u8 (t : Int), .int .i64 a, .int .i64 b] w fun e w' => e = .returned (.bool true) ∧ Below w.heap.size w w' := by
  by_cases ht : 1 ≤ t ∧ t ≤ 5
  · exact codewraps_in t a b w ht ha hb
  · exact codewraps_none t a b w ht ha
end Go.Proofs.Ytfeomfoicibmcaa
