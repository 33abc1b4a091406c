/-
  A drive's calls, a flash's New, and the examples (awake) as known ahead to the small machine.
-/
import Derived.Test.YtmkpopfaaebgfaaDrAwake
namespace Go.Proofs.Ytmkpopfaaebgfaa
open Go.RowKit
set_option linter.unusedVariables false
/-- awake, and the calls of a drive. -/
def knowDr5 : Known := fun f args h => match Nat.beq f 93, args with
  | true, [] => some (.bool true, h)
  | _, _ => knowDr f args h
theorem knowDr5_ok : Known.Ok Try.prog knowDr5 := by
  intro f args h r h' e
  unfold knowDr5 at e
  split at e
  · rename_i hf
    have hf := Nat.eq_of_beq_eq_true hf
    subst hf
    simp only [Option.some.injEq, Prod.mk.injEq] at e
    obtain ⟨rfl, rfl⟩ := e
    refine CallTo.of_below fun ρ w vs hc hm => ?_
    simp [conL] at hc
    subst hc
    exact ⟨.bool true, rfl, awake5_any w⟩
  · exact knowDr_ok _ _ _ _ _ e
end Go.Proofs.Ytmkpopfaaebgfaa
