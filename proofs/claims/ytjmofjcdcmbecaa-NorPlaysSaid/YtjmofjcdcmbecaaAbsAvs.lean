/-
  Lists of words and of bytes as the small machine's values.
-/
import Derived.Test.YtjmofjcdcmbecaaAbsKnow
import Derived.Test.YtjmofjcdcmbecaaMem
import Derived.Test.YtjmofjcdcmbecaaPure
namespace Go.Proofs.Ytjmofjcdcmbecaa
open Go.RowKit
set_option linter.unusedVariables false

/-- Natural numbers of one kind. -/
def natsOf (k : IntKind) (top : Nat) : List AV → Option (List Nat)
  | [] => some []
  | .int k' (.ofNat n) :: l => match decide (k' = k) && Nat.blt n top, natsOf k top l with
    | true, some ns => some (n :: ns)
    | _, _ => none
  | _ => none
def avsOf (k : IntKind) : List Nat → List AV
  | [] => []
  | n :: l => .int k (Int.ofNat n) :: avsOf k l
theorem nats32 {ρ : Pos} : ∀ {l : List AV} {ns : List Nat}, natsOf .u32 4294967296 l = some ns → ∃ us : List UInt32, us.map UInt32.toNat = ns ∧ conL ρ l = some (cw us)
  | [], ns, e => by simp [natsOf] at e; subst e; exact ⟨[], rfl, rfl⟩
  | v :: l, ns, e => by
    unfold natsOf at e
    split at e
    · simp at *
    · rename_i k' n l' heq
      simp only [List.cons.injEq] at heq
      obtain ⟨rfl, rfl⟩ := heq
      split at e <;> simp only [Option.some.injEq, reduceCtorEq] at e
      rename_i ns' hc hns
      subst e
      simp only [Bool.and_eq_true] at hc
      have hk : k' = .u32 := by simpa using hc.1
      subst hk
      have hn : n < 4294967296 := blt_true hc.2
      obtain ⟨us, h1, h2⟩ := nats32 hns
      have e1 : (UInt32.ofNat n).toNat = n := ofNat_toNat32 n hn
      refine ⟨UInt32.ofNat n :: us, by simp [h1, e1], ?_⟩
      show _ = some (.int .u32 ((UInt32.ofNat n).toNat : Int) :: cw us)
      rw [e1]
      exact conL_mk rfl h2
    · simp at e
theorem nats8 {ρ : Pos} : ∀ {l : List AV} {ns : List Nat}, natsOf .u8 256 l = some ns → ∃ us : List UInt8, us.map UInt8.toNat = ns ∧ conL ρ l = some (cb us)
  | [], ns, e => by simp [natsOf] at e; subst e; exact ⟨[], rfl, rfl⟩
  | v :: l, ns, e => by
    unfold natsOf at e
    split at e
    · simp at *
    · rename_i k' n l' heq
      simp only [List.cons.injEq] at heq
      obtain ⟨rfl, rfl⟩ := heq
      split at e <;> simp only [Option.some.injEq, reduceCtorEq] at e
      rename_i ns' hc hns
      subst e
      simp only [Bool.and_eq_true] at hc
      have hk : k' = .u8 := by simpa using hc.1
      subst hk
      have hn : n < 256 := blt_true hc.2
      obtain ⟨us, h1, h2⟩ := nats8 hns
      have e1 : (UInt8.ofNat n).toNat = n := ofNat_toNat n hn
      refine ⟨UInt8.ofNat n :: us, by simp [h1, e1], ?_⟩
      show _ = some (.int .u8 ((UInt8.ofNat n).toNat : Int) :: cb us)
      rw [e1]
      exact conL_mk rfl h2
    · simp at e
theorem avs32 (ρ : Pos) : ∀ (us : List UInt32), conL ρ (avsOf .u32 (us.map UInt32.toNat)) = some (cw us)
  | [] => rfl
  | u :: us => conL_mk rfl (avs32 ρ us)
end Go.Proofs.Ytjmofjcdcmbecaa
