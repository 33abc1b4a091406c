/-
  NorFalls: small laws for the walk.
-/
import Derived.Test.YtpdfalgjmeagjaaNorFall
import Derived.Test.YtpdfalgjmeagjaaNorAwake
namespace Go.Proofs.Ytpdfalgjmeagjaa
open Go.RowKit
set_option linter.unusedVariables false

theorem clear0 (x p : UInt32) : bits .andNot .u32 ((x &&& p).toNat : Int) (x.toNat : Int) = 0 := by
  rw [u32_andNot_nat _ _ (x &&& p).toNat_lt x.toNat_lt]
  have h : (x &&& p).toNat &&& (4294967295 - x.toNat) = ((x &&& p) &&& ~~~x).toNat := by
    rw [UInt32.toNat_and _ (~~~x), UInt32.toNat_not]
    rfl
  rw [h, and_not_self]
  rfl
theorem clear1 (x : UInt32) : bits .andNot .u32 (x.toNat : Int) (x.toNat : Int) = 0 := by
  have := clear0 x 4294967295
  rwa [and_ones] at this
theorem pick_in (l : List UInt32) (σ κ i j D : Nat) (y : UInt32) (hi : i = σ) (h1 : κ ≤ j) (hy : l[j - κ]? = some y) : pickL l (σ * 64 + κ) (i * 64 + j) = y := by
  subst hi
  unfold pickL
  rw [if_pos (by omega), show i * 64 + j - (i * 64 + κ) = j - κ from by omega, List.getD_eq_getElem?_getD, hy]
  rfl
theorem pick_out (l : List UInt32) (σ κ i j D : Nat) (hD : l.length = D) (hk : κ + D ≤ 64) (hj : j < 64) (h : ¬ (i = σ ∧ κ ≤ j ∧ j < κ + D)) : pickL l (σ * 64 + κ) (i * 64 + j) = 4294967295 := by
  unfold pickL
  split
  · rename_i hle
    rw [List.getD_eq_getElem?_getD, List.getElem?_eq_none, Option.getD_none]
    rw [hD]
    rcases Nat.lt_trichotomy i σ with h1 | h1 | h1
    · omega
    · subst h1
      omega
    · omega
  · rfl
theorem mask_in (ks : List Bool) (σ a j : Nat) (hj : j < 64) (h : a = σ) (hk : ks[j]? = some true) : σ * 64 ≤ a * 64 + j ∧ (ks.take 64)[a * 64 + j - σ * 64]? = some true := by
  subst h
  refine ⟨by omega, ?_⟩
  rw [show a * 64 + j - a * 64 = j from by omega, List.getElem?_take, if_pos hj, hk]
theorem mask_out (ks : List Bool) (σ a j : Nat) (hj : j < 64) (h : ¬ (a = σ ∧ ks[j]? = some true)) : ¬ (σ * 64 ≤ a * 64 + j ∧ (ks.take 64)[a * 64 + j - σ * 64]? = some true) := by
  rintro ⟨h1, h2⟩
  rw [List.getElem?_take] at h2
  split at h2
  · rename_i h3
    have e : a = σ := by omega
    subst e
    rw [show a * 64 + j - a * 64 = j from by omega] at h2
    exact h ⟨rfl, h2⟩
  · cases h2
theorem rem70 (t : UInt8) : ∃ L : Nat, L < 70 ∧ ((t.toNat : Int).tmod 70) = (L : Int) := ⟨t.toNat % 70, Nat.mod_lt _ (by omega), by
  rw [Int.tmod_eq_emod_of_nonneg (by omega)]
  omega⟩
theorem Pick_at (z : Int) (n : Nat) (hn : 0 < n) (hb : n ≤ 1000) (hz : -9223372036854775808 ≤ z ∧ z ≤ 9223372036854775807) :
    ∃ r : Nat, r < n ∧ ∀ w, Calls Try.prog 30 #[.int .i64 z, .int .i64 (n : Int)] w fun e w' => e = .returned (.int .i64 (r : Int)) ∧ w' = w := by
  have h0 : (decide ((n : Int) ≤ 0)) = false := by simp; omega
  have h1 : z.tmod (n : Int) < (n : Int) := Int.tmod_lt_of_pos _ (by omega)
  have h2 : -(n : Int) < z.tmod (n : Int) := Int.lt_tmod_of_pos z (by omega)
  by_cases hs : z.tmod (n : Int) < 0
  · refine ⟨(z.tmod (n : Int) + (n : Int)).toNat, by omega, fun w => ?_⟩
    have hw : IntKind.i64.wrap (z.tmod (n : Int) + (n : Int)) = z.tmod (n : Int) + (n : Int) := wrapI _ (by omega) (by omega)
    go_enter Try.func30, Try.ntmps30
    go_wp2
    all_goals first | omega | skip
    go_ret
    exact ⟨ret_int (by omega), rfl⟩
  · refine ⟨(z.tmod (n : Int)).toNat, by omega, fun w => ?_⟩
    go_enter Try.func30, Try.ntmps30
    go_wp2
    all_goals first | omega | skip
    go_ret
    exact ⟨ret_int (by omega), rfl⟩
end Go.Proofs.Ytpdfalgjmeagjaa
