/-
  ShaNumbers, run by the small machine in the kernel, with roots, primes, Block, Sum and awake known ahead.
-/
import Derived.Test.YtmkpopfaaebgfaaAbsSum
import Derived.Test.YtmkpopfaaebgfaaNumRoot
import Derived.Test.YtmkpopfaaebgfaaShaAwake
import Derived.KernelRfl
namespace Go.Proofs.Ytmkpopfaaebgfaa
open Go.RowKit
set_option linter.unusedVariables false

/-- The one, or else the other. -/
def knowOr (a b : Known) : Known := fun f args h => match a f args h with
  | some r => some r
  | none => b f args h
theorem knowOr_ok {P : Program} {a b : Known} (ha : Known.Ok P a) (hb : Known.Ok P b) : Known.Ok P (knowOr a b) := by
  intro f args h r h' e
  unfold knowOr at e
  split at e
  · rename_i q hq
    simp only [Option.some.injEq] at e
    subst e
    exact ha _ _ _ _ _ hq
  · exact hb _ _ _ _ _ e
def rootM (p pw : Nat) : Nat → Nat → Nat
  | 0, c => c
  | j + 1, c => pin (c + bitOf (j + 1)) fun d => match Nat.ble (pwr pw d) (p * 65536 ^ (2 * pw)) with
    | true => rootM p pw j d
    | false => rootM p pw j c
theorem rootM_eq (p pw : Nat) : ∀ j c, rootM p pw j c = rootGo p pw j c
  | 0, c => rfl
  | j + 1, c => by
    rw [rootM, pin_eq, rootGo]
    cases Nat.ble (pwr pw (c + bitOf (j + 1))) (p * 65536 ^ (2 * pw)) <;> exact rootM_eq p pw j _
def knowRoot : Known := fun f args h => match Nat.beq f 119, args with
  | true, [.int .u64 (.ofNat p), .int .i64 (.ofNat pw)] => match Nat.ble p 311 && (Nat.beq pw 2 || Nat.beq pw 3) with
    | true => pin (rootM p pw 36 0 % 4294967296) fun r => some (.int .u32 (.ofNat r), h)
    | false => none
  | _, _ => none
theorem knowRoot_ok : Known.Ok Try.prog knowRoot := by
  intro f args h r h' e
  unfold knowRoot at e
  split at e
  · rename_i p pw hf
    have hf := Nat.eq_of_beq_eq_true hf
    subst hf
    split at e
    · rename_i hc
      simp only [Bool.and_eq_true, Bool.or_eq_true] at hc
      have h1 := Nat.le_of_ble_eq_true hc.1
      have h2 : pw = 2 ∨ pw = 3 := hc.2.elim (fun x => .inl (Nat.eq_of_beq_eq_true x)) (fun x => .inr (Nat.eq_of_beq_eq_true x))
      rw [pin_eq, rootM_eq] at e
      simp only [Option.some.injEq, Prod.mk.injEq] at e
      obtain ⟨rfl, rfl⟩ := e
      refine CallTo.of_below fun ρ w vs hv hm => ?_
      obtain ⟨u1, us1, c1, k1, rfl⟩ := conL_cons hv
      obtain ⟨u2, us2, c2, k2, rfl⟩ := conL_cons k1
      simp [conL] at k2
      simp [con] at c1 c2
      subst k2 c1 c2
      exact ⟨.int .u32 (rootF p pw : Int), rfl, rroot_any p pw h1 h2 w⟩
    · cases e
  · cases e
def knowPrime : Known := fun f args h => match Nat.beq f 118, args with
  | true, [.int .u64 (.ofNat n)] => match Nat.ble 2 n && Nat.ble n 311 with
    | true => match (List.range n).all fun k => Nat.blt k 2 || !(Nat.beq (n % k) 0) with
      | true => some (.bool true, h)
      | false => some (.bool false, h)
    | false => none
  | _, _ => none
theorem knowPrime_ok : Known.Ok Try.prog knowPrime := by
  intro f args h r h' e
  unfold knowPrime at e
  split at e
  · rename_i n hf
    have hf := Nat.eq_of_beq_eq_true hf
    subst hf
    split at e
    · rename_i hc
      simp only [Bool.and_eq_true] at hc
      have h1 := Nat.le_of_ble_eq_true hc.1
      have h2 := Nat.le_of_ble_eq_true hc.2
      have e2 : some (AV.bool ((List.range n).all fun k => Nat.blt k 2 || !(Nat.beq (n % k) 0)), h) = some (r, h') := by
        rw [← e]
        split <;> rename_i hq <;> rw [hq]
      simp only [Option.some.injEq, Prod.mk.injEq] at e2
      obtain ⟨rfl, rfl⟩ := e2
      refine CallTo.of_below fun ρ w vs hv hm => ?_
      obtain ⟨u1, us1, c1, k1, rfl⟩ := conL_cons hv
      simp [conL] at k1
      simp [con] at c1
      subst k1 c1
      refine ⟨.bool _, rfl, (rprime_any n h1 h2 _ rfl w).mono ?_⟩
      rintro e' w' ⟨rfl, rfl⟩
      exact ⟨rfl, Below.refl _ _⟩
    · cases e
  · cases e
def knowAwake2 : Known := fun f args h => match Nat.beq f 49, args with
  | true, [] => some (.bool true, h)
  | _, _ => none
theorem knowAwake2_ok : Known.Ok Try.prog knowAwake2 := by
  intro f args h r h' e
  unfold knowAwake2 at e
  split at e
  · rename_i hf
    have hf := Nat.eq_of_beq_eq_true hf
    subst hf
    simp only [Option.some.injEq, Prod.mk.injEq] at e
    obtain ⟨rfl, rfl⟩ := e
    refine CallTo.of_below fun ρ w vs hc hm => ?_
    simp [conL] at hc
    subst hc
    exact ⟨.bool true, rfl, awake2_any w⟩
  · cases e
def knowNum : Known := knowOr knowRoot (knowOr knowPrime (knowOr knowAwake2 knowAll))
theorem knowNum_ok : Known.Ok Try.prog knowNum := knowOr_ok knowRoot_ok (knowOr_ok knowPrime_ok (knowOr_ok knowAwake2_ok knowAll_ok))
end Go.Proofs.Ytmkpopfaaebgfaa
