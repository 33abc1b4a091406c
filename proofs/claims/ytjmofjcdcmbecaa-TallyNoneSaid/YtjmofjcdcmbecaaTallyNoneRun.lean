/-
  TallyNone, run by the small machine in the kernel; the examples (awake) are known ahead.
-/
import Derived.Test.YtjmofjcdcmbecaaTallyAwake
import Derived.Test.YtjmofjcdcmbecaaAbsKnow
import Derived.Test.YtjmofjcdcmbecaaRow
namespace Go.Proofs.Ytjmofjcdcmbecaa
open Go.RowKit
set_option linter.unusedVariables false
/-- awake is known ahead. -/
def knowAwake6 : Known := fun f args h => match Nat.beq f 76, args with
  | true, [] => some (.bool true, h)
  | _, _ => none
theorem knowAwake6_ok : Known.Ok Try.prog knowAwake6 := by
  intro f args h r h' e
  unfold knowAwake6 at e
  split at e
  · rename_i hf
    have hf := Nat.eq_of_beq_eq_true hf
    subst hf
    simp only [Option.some.injEq, Prod.mk.injEq] at e
    obtain ⟨rfl, rfl⟩ := e
    refine CallTo.of_below fun ρ w vs hc hm => ?_
    simp [conL] at hc
    subst hc
    exact ⟨.bool true, rfl, awake6_any w⟩
  · cases e
theorem follows_mixed6 : Try.prog.follows .mixedOrders = true := by kernel_rfl
set_option maxRecDepth 100000 in
theorem tnone_told : tells (runF Try.prog knowAwake6 100000 30 9 [] noH) = true := by kernel_rfl
theorem tnone_law (W : World) :
    Calls Try.prog 9 #[] W fun e w' => e = .returned (.bool true) ∧ Below W.heap.size W w' :=
  told_true (runF_ok follows_mixed6 knowAwake6_ok 100000 30) tnone_told W
end Go.Proofs.Ytjmofjcdcmbecaa
