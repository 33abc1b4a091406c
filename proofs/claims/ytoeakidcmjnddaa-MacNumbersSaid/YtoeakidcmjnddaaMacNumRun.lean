/-
  MacNumbers, run by the small machine in the kernel, with both blocks, Sum and awake known ahead.
-/
import Derived.Test.YtoeakidcmjnddaaAbsSum
import Derived.Test.YtoeakidcmjnddaaMacAwake
import Derived.KernelRfl
namespace Go.Proofs.Ytoeakidcmjnddaa
open Go.RowKit
set_option linter.unusedVariables false
/-- Both blocks, and awake. -/
def knowMac : Known := fun f args h => match Nat.beq f 63, args with
  | true, [] => some (.bool true, h)
  | true, _ => none
  | false, _ => knowAll f args h
theorem knowMac_ok : Known.Ok Try.prog knowMac := by
  intro f args h r h' e
  unfold knowMac at e
  split at e
  · rename_i hf
    have hf := Nat.eq_of_beq_eq_true hf
    subst hf
    simp only [Option.some.injEq, Prod.mk.injEq] at e
    obtain ⟨rfl, rfl⟩ := e
    refine CallTo.of_below fun ρ w vs hc hm => ?_
    simp [conL] at hc
    subst hc
    exact ⟨.bool true, rfl, awake3_any w⟩
  · cases e
  · exact knowAll_ok _ _ _ _ _ e
set_option maxRecDepth 100000 in
theorem macnum_told : tells (runF Try.prog knowMac 100000 30 9 [] noH) = true := by kernel_rfl
theorem macnum_walk (W : World) : Calls Try.prog 9 #[] W fun e w' => e = .returned (.bool true) ∧ Below W.heap.size W w' :=
  told_true (runF_ok follows_mixedS knowMac_ok 100000 30) macnum_told W
end Go.Proofs.Ytoeakidcmjnddaa
