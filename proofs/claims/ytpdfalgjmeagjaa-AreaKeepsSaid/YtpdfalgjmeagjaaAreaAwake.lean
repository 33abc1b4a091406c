/-
  The fixed examples of the chapter about areas (awake) come out true, whatever memory there is: run by the small machine.
-/
import Derived.Test.YtpdfalgjmeagjaaAbsArea
import Derived.Test.YtpdfalgjmeagjaaProg
import Derived.KernelRfl
namespace Go.Proofs.Ytpdfalgjmeagjaa
open Go.RowKit
set_option linter.unusedVariables false
theorem follows_mixed8 : Try.prog.follows .mixedOrders = true := by kernel_rfl
set_option maxRecDepth 100000 in
theorem awake8_told : tells (runF Try.prog knowDr8 100000 30 75 [] noH) = true := by kernel_rfl
theorem awake8_any (W : World) : Calls Try.prog 75 #[] W fun e w' => e = .returned (.bool true) ∧ Below W.heap.size W w' :=
  told_true (runF_ok follows_mixed8 knowDr8_ok 100000 30) awake8_told W
/-- awake, and what knowDr8 knows. -/
def knowAwake8 : Known := fun f args h => match Nat.beq f 75, args with
  | true, [] => some (.bool true, h)
  | _, _ => knowDr8 f args h
theorem knowAwake8_ok : Known.Ok Try.prog knowAwake8 := by
  intro f args h r h' e
  unfold knowAwake8 at e
  split at e
  · rename_i hf
    have hf := Nat.eq_of_beq_eq_true hf
    subst hf
    simp only [Option.some.injEq, Prod.mk.injEq] at e
    obtain ⟨rfl, rfl⟩ := e
    refine CallTo.of_below fun ρ w vs hc hm => ?_
    simp [conL] at hc
    subst hc
    exact ⟨.bool true, rfl, awake8_any w⟩
  · exact knowDr8_ok _ _ _ _ _ e
end Go.Proofs.Ytpdfalgjmeagjaa
