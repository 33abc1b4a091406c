/-
  What math/bits.Mul64 and the statement's own cube answer.
-/
import Derived.Test.YtmkpopfaaebgfaaRootsPure
import Derived.Lib.Mul64
import Derived.Laws.Bits64b
namespace Go.Proofs.Ytmkpopfaaebgfaa
open Go.RowKit
set_option linter.unusedVariables false

abbrev M64 : Nat := 18446744073709551616
theorem low_half (a : Nat) (ha : a < 18446744073709551616) : bits .and .u64 (a : Int) 4294967295 = ((a % 4294967296 : Nat) : Int) := by
  have h := bits_and_u64_nat a 4294967295 ha (by omega)
  rwa [show a &&& 4294967295 = a % 4294967296 from Nat.and_two_pow_sub_one_eq_mod a 32] at h
theorem high_half (a : Nat) : (a : Int) / 4294967296 = ((a / 4294967296 : Nat) : Int) := by omega
theorem wrapU (a : Nat) (ha : a < 18446744073709551616) : IntKind.u64.wrap (a : Int) = (a : Int) := by rw [IntKind.wrap_u64]; omega
theorem wrapV (a : Nat) : IntKind.u64.wrap (a : Int) = ((a % 18446744073709551616 : Nat) : Int) := by rw [IntKind.wrap_u64]; omega
set_option maxHeartbeats 1000000 in
theorem mul64_any (x y : Nat) (hx : x < 18446744073709551616) (hy : y < 18446744073709551616) (w : World) :
    Calls Try.prog 57 #[.int .u64 (x : Int), .int .u64 (y : Int)] w fun e w' => e = .returned (.tuple #[.int .u64 ((x * y / 18446744073709551616 : Nat) : Int), .int .u64 ((x * y % 18446744073709551616 : Nat) : Int)]) ∧ w' = w := by
  obtain ⟨h1, h2, h3, h4⟩ := Lib.mul64_hi x y hx hy
  have q1 := Lib.half_mul_le (a := x / 4294967296) (b := y / 4294967296) (by omega) (by omega)
  have q2 := Lib.half_mul_le (a := x / 4294967296) (b := y % 4294967296) (by omega) (by omega)
  have q3 := Lib.half_mul_le (a := x % 4294967296) (b := y / 4294967296) (by omega) (by omega)
  have n1 : x / 4294967296 * (y / 4294967296) < 18446744073709551616 := by omega
  have n2 : x / 4294967296 * (y % 4294967296) < 18446744073709551616 := by omega
  have n3 : x % 4294967296 * (y / 4294967296) < 18446744073709551616 := by omega
  have n4 : x / 4294967296 * (y / 4294967296) + (x / 4294967296 * (y % 4294967296) + x % 4294967296 * (y % 4294967296) / 4294967296) / 4294967296 < 18446744073709551616 := by omega
  have n5 : x / 4294967296 * (y / 4294967296) + (x / 4294967296 * (y % 4294967296) + x % 4294967296 * (y % 4294967296) / 4294967296) / 4294967296 + ((x / 4294967296 * (y % 4294967296) + x % 4294967296 * (y % 4294967296) / 4294967296) % 4294967296 + x % 4294967296 * (y / 4294967296)) / 4294967296 < 18446744073709551616 := by omega
  go_enter Try.func57, Try.ntmps57
  go_wp2
  simp only [low_half x hx, low_half y hy, high_half, ← Int.natCast_mul, ← Int.natCast_add, wrapU _ h1, wrapU _ n2, wrapU _ h2, low_half _ h2, wrapU _ n3, wrapU _ h3, wrapU _ n1, wrapU _ n4, wrapU _ n5, wrapV (x * y)]
  rw [h4]
  go_ret2
  exact ⟨rfl, rfl⟩
theorem cube_nums (c : Nat) (hc : c < 1099511627776) : c * c / 18446744073709551616 * c < 18446744073709551616 ∧ c * c / 18446744073709551616 * c + c * c % 18446744073709551616 * c / 18446744073709551616 < 18446744073709551616 := by
  have h1 : c * c < 1099511627776 * 1099511627776 := Nat.mul_lt_mul'' hc hc
  have h2 : c * c / 18446744073709551616 < 65536 := Nat.div_lt_of_lt_mul h1
  have h3 : c * c / 18446744073709551616 * c < 65536 * 1099511627776 := Nat.mul_lt_mul'' h2 hc
  have h4 : c * c % 18446744073709551616 * c < 18446744073709551616 * 1099511627776 := Nat.mul_lt_mul'' (Nat.mod_lt _ (by decide)) hc
  have h5 : c * c % 18446744073709551616 * c / 18446744073709551616 < 1099511627776 := Nat.div_lt_of_lt_mul h4
  generalize c * c / 18446744073709551616 * c = x at *
  generalize c * c % 18446744073709551616 * c / 18446744073709551616 = y at *
  exact ⟨Nat.lt_trans h3 (by decide), Nat.lt_of_lt_of_le (Nat.add_lt_add h3 h5) (by decide)⟩
theorem cube_walk (c p hi low h l S P : Nat) (r : Bool) (w : World) (m1 : Calls Try.prog 57 #[.int .u64 (c : Int), .int .u64 (c : Int)] w fun e w' => e = .returned (.tuple #[.int .u64 (hi : Int), .int .u64 (low : Int)]) ∧ w' = w)
    (m2 : Calls Try.prog 57 #[.int .u64 (low : Int), .int .u64 (c : Int)] w fun e w' => e = .returned (.tuple #[.int .u64 (h : Int), .int .u64 (l : Int)]) ∧ w' = w)
    (w1 : IntKind.u64.wrap ((hi : Int) * (c : Int)) = (hi : Int) * (c : Int)) (w2 : IntKind.u64.wrap ((hi : Int) * (c : Int) + (h : Int)) = (S : Int)) (w3 : IntKind.u64.wrap ((p : Int) * 4294967296) = (P : Int))
    (hr : (Nat.blt S P || (Nat.beq S P && Nat.beq l 0)) = r) :
    Calls Try.prog 56 #[.int .u64 (c : Int), .int .u64 (p : Int)] w fun e w' => e = .returned (.bool r) ∧ w' = w := by
  by_cases h1 : S < P
  · have b1 : decide (S < P) = true := by simp; exact h1
    obtain rfl : r = true := by rw [← hr, show Nat.blt S P = true from Nat.ble_eq_true_of_le h1]; rfl
    clear h1 hr
    go_enter Try.func56, Try.ntmps56
    go_wp2_with fail
    refine m1.mono ?_
    rintro e w' ⟨rfl, rfl⟩
    go_wp2_with fail
    refine m2.mono ?_
    rintro e w' ⟨rfl, rfl⟩
    go_wp2_with fail
    go_ret
    exact ⟨rfl, rfl⟩
  · have b0 : Nat.blt S P = false := by
      cases hb : Nat.blt S P
      · rfl
      · exact absurd (Nat.le_of_ble_eq_true hb) h1
    have b1 : decide (S < P) = false := by simp; omega
    rw [b0, Bool.false_or] at hr
    by_cases h2 : S = P
    · subst h2
      have b2 : ((S : Int) == (S : Int)) = true := by simp
      by_cases h3 : l = 0
      · subst h3
        obtain rfl : r = true := by rw [← hr, Nat.beq_refl]; rfl
        clear h1 hr b0
        go_enter Try.func56, Try.ntmps56
        go_wp2_with fail
        refine m1.mono ?_
        rintro e w' ⟨rfl, rfl⟩
        go_wp2_with fail
        refine m2.mono ?_
        rintro e w' ⟨rfl, rfl⟩
        go_wp2_with fail
        go_ret
        exact ⟨rfl, rfl⟩
      · have b3 : ((l : Int) == 0) = false := by simp; omega
        obtain rfl : r = false := by
          rw [← hr, Nat.beq_refl]
          cases hb : Nat.beq l 0
          · rfl
          · exact absurd (Nat.eq_of_beq_eq_true hb) h3
        have H3 := Lib.hid h3
        clear h1 hr b0 h3
        go_enter Try.func56, Try.ntmps56
        go_wp2_with fail
        refine m1.mono ?_
        rintro e w' ⟨rfl, rfl⟩
        go_wp2_with fail
        refine m2.mono ?_
        rintro e w' ⟨rfl, rfl⟩
        go_wp2_with fail
        go_ret
        exact ⟨rfl, rfl⟩
    · have b2 : ((S : Int) == (P : Int)) = false := by simp; omega
      have b4 : Nat.beq S P = false := by
        cases hb : Nat.beq S P
        · rfl
        · exact absurd (Nat.eq_of_beq_eq_true hb) h2
      obtain rfl : r = false := by rw [← hr, b4]; rfl
      have H2 := Lib.hid h2
      clear h1 hr b0 h2 b4
      go_enter Try.func56, Try.ntmps56
      go_wp2_with fail
      refine m1.mono ?_
      rintro e w' ⟨rfl, rfl⟩
      go_wp2_with fail
      refine m2.mono ?_
      rintro e w' ⟨rfl, rfl⟩
      go_wp2_with fail
      go_ret
      exact ⟨rfl, rfl⟩
theorem cube_any (c p : Nat) (hc : c < 1099511627776) (hp : p ≤ 311) (r : Bool) (hr : cubeF c p = r) (w : World) :
    Calls Try.prog 56 #[.int .u64 (c : Int), .int .u64 (p : Int)] w fun e w' => e = .returned (.bool r) ∧ w' = w := by
  obtain ⟨n1, n2⟩ := cube_nums c hc
  have hP : p * 4294967296 < 18446744073709551616 := Nat.lt_of_le_of_lt (Nat.mul_le_mul_right _ hp) (by decide)
  unfold cubeF at hr
  rw [Nat.mod_eq_of_lt n2, Nat.mod_eq_of_lt hP] at hr
  refine cube_walk c p _ _ _ _ _ _ r w (mul64_any c c (Nat.lt_trans hc (by decide)) (Nat.lt_trans hc (by decide)) w) (mul64_any _ c (Nat.mod_lt _ (by decide)) (Nat.lt_trans hc (by decide)) w) ?_ ?_ ?_ hr
  · rw [← Int.natCast_mul]; exact wrapU _ n1
  · rw [← Int.natCast_mul, ← Int.natCast_add]; exact wrapU _ n2
  · rw [show (p : Int) * 4294967296 = ((p * 4294967296 : Nat) : Int) from (Int.natCast_mul _ _).symm]; exact wrapU _ hP
end Go.Proofs.Ytmkpopfaaebgfaa
