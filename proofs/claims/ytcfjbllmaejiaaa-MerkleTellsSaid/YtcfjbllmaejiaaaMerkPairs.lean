/-
  Root, Path, Climb: the program and the document's own answer tell the same, whichever case holds.
-/
import Derived.Test.YtcfjbllmaejiaaaMerkRefP
namespace Go.Proofs.Ytcfjbllmaejiaaa
open Go.RowKit
set_option linter.unusedVariables false
section
variable (first keys : List UInt32) (h8 : first.length = 8) (h64 : keys.length = 64)
include h64
theorem root_pair (n : Nat) (hn : n ≤ 1000) (ds : List (List UInt8)) (hl : ds.length = n) (ha : ∀ d ∈ ds, d.length = 32) : ∃ (R : List UInt8) (E : Int), R.length = 32 ∧
    (∀ (w : World) (A : Option Addr) (c : Nat) (T : Option Addr), OfAt w T (Dg.tabO first keys h8) → Digs w A n ds → Calls Try.prog 37 #[.pointer T, .slice A n c] w fun e w' => e = .returned (.tuple #[.agg (cb R).toArray, .int .i64 E]) ∧ Below w.heap.size w w') ∧
    (∀ (w : World) (A : Option Addr) (c : Nat), n ≤ c → Digs w A n ds → Calls Try.prog 38 #[.agg (cw (first ++ keys)).toArray, .slice A n c] w fun e w' => e = .returned (.tuple #[.agg (cb R).toArray, .int .i64 E]) ∧ Below w.heap.size w w') := by
  cases hm : mayB n with
  | false => exact ⟨_, _, List.length_replicate, fun w A c T _ _ => Root_no A n c (by omega) hm, fun w A c _ _ => rRoot_no first keys h8 h64 A n c (by omega) hm⟩
  | true =>
    obtain ⟨h, hh, e⟩ := (may_iff n).1 hm
    exact ⟨_, _, len_rootF _ (by rw [hl, e]) ha, fun w A c T h1 h2 => Root_yes h1 A n c ds h2 h hh e, fun w A c h1 h2 => rRoot_yes first keys h8 h64 A n c ds h2 h hh e h1⟩
theorem path_pair (n : Nat) (hn : n ≤ 1000) (ds : List (List UInt8)) (leaf : Int) : ∃ (L : Int) (H : Nat) (P : List (List UInt8)) (E : Int), H ≤ 8 ∧
    (∀ (w : World) (A : Option Addr) (c : Nat) (T : Option Addr), OfAt w T (Dg.tabO first keys h8) → Digs w A n ds → Calls Try.prog 39 #[.pointer T, .slice A n c, .int .i64 leaf] w fun e w' => ∃ B cB, e = .returned (.tuple #[.agg #[.int .i64 L, .slice B H cB], .int .i64 E]) ∧ OwnD w.heap.size w' B H cB P ∧ Below w.heap.size w w') ∧
    (∀ (w : World) (A : Option Addr) (c : Nat), n ≤ c → Digs w A n ds → Calls Try.prog 40 #[.agg (cw (first ++ keys)).toArray, .slice A n c, .int .i64 leaf] w fun e w' => ∃ B cB, e = .returned (.tuple #[.agg #[.int .i64 L, .slice B H cB], .int .i64 E]) ∧ OwnD w.heap.size w' B H cB P ∧ Below w.heap.size w w') := by
  by_cases hno : mayB n = false ∨ leaf < 0 ∨ (n : Int) ≤ leaf
  · refine ⟨0, 0, [], 2, by decide, fun w A c T _ _ => (Path_no A n c leaf (by omega) hno).mono ?_, fun w A c _ _ => (rPath_no first keys h8 h64 A n c (by omega) leaf hno).mono ?_⟩
    · rintro e w' ⟨rfl, hB⟩
      exact ⟨none, 0, rfl, OwnD.nil, hB⟩
    · rintro e w' ⟨rfl, hB⟩
      exact ⟨none, 0, rfl, OwnD.nil, hB⟩
  · have hm : mayB n = true := by
      cases h : mayB n
      · exact absurd (.inl h) hno
      · rfl
    have h0 : 0 ≤ leaf := by
      apply Int.not_lt.1
      exact fun h => hno (.inr (.inl h))
    have h1 : leaf < (n : Int) := by
      apply Int.not_le.1
      exact fun h => hno (.inr (.inr h))
    obtain ⟨h, hh, e⟩ := (may_iff n).1 hm
    obtain ⟨k, rfl⟩ := Int.eq_ofNat_of_zero_le h0
    exact ⟨_, _, _, _, hh, fun w A c T h2 h3 => Path_yes h2 A n c ds h3 h hh e k (by omega), fun w A c h2 h3 => rPath_yes first keys h8 h64 A n c ds h3 h hh e h2 k (by omega)⟩
theorem climb_pair (x : List UInt8) (hx : x.length = 32) (leaf : Int) (n : Nat) (ds : List (List UInt8)) (hl : ds.length = n) (ha : ∀ d ∈ ds, d.length = 32) : ∃ (Z : List UInt8) (E : Int), Z.length = 32 ∧
    (∀ (w : World) (A : Option Addr) (c : Nat) (T : Option Addr), OfAt w T (Dg.tabO first keys h8) → Digs w A n ds → Calls Try.prog 41 #[.pointer T, .agg (cb x).toArray, .agg #[.int .i64 leaf, .slice A n c]] w fun e w' => e = .returned (.tuple #[.agg (cb Z).toArray, .int .i64 E]) ∧ Below w.heap.size w w') ∧
    (∀ (w : World) (A : Option Addr) (c : Nat), Digs w A n ds → Calls Try.prog 42 #[.agg (cw (first ++ keys)).toArray, .agg (cb x).toArray, .agg #[.int .i64 leaf, .slice A n c]] w fun e w' => e = .returned (.tuple #[.agg (cb Z).toArray, .int .i64 E]) ∧ Below w.heap.size w w') := by
  cases hr : rightB leaf n with
  | false => exact ⟨_, _, List.length_replicate, fun w A c T _ _ => Climb_no x hx leaf A n c hr, fun w A c _ => rClimb_no first keys h8 h64 x hx leaf A n c hr⟩
  | true =>
    obtain ⟨a1, a2, a3⟩ := of_decide_eq_true hr
    obtain ⟨k, rfl⟩ := Int.eq_ofNat_of_zero_le a2
    have hk : k < 2 ^ n := by
      have e : ((2 : Int) ^ n) = ((2 ^ n : Nat) : Int) := by simp
      rw [e] at a3
      omega
    exact ⟨_, _, len_climbF _ ds x k hx, fun w A c T h1 h2 => Climb_yes h1 x hx k A n c ds h2 a1 hk, fun w A c h2 => rClimb_yes first keys h8 h64 x hx k A n c ds h2 a1 hk⟩
end
end Go.Proofs.Ytcfjbllmaejiaaa
