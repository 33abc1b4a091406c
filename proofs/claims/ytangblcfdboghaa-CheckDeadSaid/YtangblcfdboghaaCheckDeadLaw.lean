/-
  CheckDead over its arguments as they are opened.
-/
import Derived.Test.YtangblcfdboghaaCheckDeadWalk
import Derived.Test.YtangblcfdboghaaCodeOpen
import Derived.OpenShut
namespace Go.Proofs.Ytangblcfdboghaa
open Go.RowKit
set_option linter.unusedVariables false

theorem checkDead_law (w : World) (m : Pm) (hm : PmAt w.heap.size w m) (a : Int) (ha : (Lit.int .u16 a).wf = true) :
    Calls Try.prog 10 #[.agg m.cells.toArray, .int .u16 a] w fun e w' => e = .returned (.bool true) ∧ Below w.heap.size w w' := by
  have := bounds_u16 ha
  obtain ⟨k, rfl⟩ : ∃ k : Nat, a = (k : Int) := ⟨a.toNat, by omega⟩
  exact checkDead_any w m hm k (by omega)
end Go.Proofs.Ytangblcfdboghaa
