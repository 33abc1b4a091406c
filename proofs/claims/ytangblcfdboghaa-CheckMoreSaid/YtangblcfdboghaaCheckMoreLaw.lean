/-
  CheckMore over its arguments as they are opened.
-/
import Derived.Test.YtangblcfdboghaaCheckMoreWalk
import Derived.Test.YtangblcfdboghaaCodeOpen
import Derived.OpenShut
namespace Go.Proofs.Ytangblcfdboghaa
open Go.RowKit
set_option linter.unusedVariables false

theorem checkMore_law (w : World) (m : Pm) (hm : PmAt w.heap.size w m) (a : Int) (ha : (Lit.int .u16 a).wf = true) (b : Int) (hb : (Lit.int .u16 b).wf = true) :
    Calls Try.prog 8 #[.agg m.cells.toArray, .int .u16 a, .int .u16 b] w fun e w' => e = .returned (.bool true) ∧ Below w.heap.size w w' := by
  have h1 := bounds_u16 ha
  have h2 := bounds_u16 hb
  obtain ⟨k, rfl⟩ : ∃ k : Nat, a = (k : Int) := ⟨a.toNat, by omega⟩
  obtain ⟨q, rfl⟩ : ∃ q : Nat, b = (q : Int) := ⟨b.toNat, by omega⟩
  exact checkMore_any w m hm k q (by omega) (by omega)
end Go.Proofs.Ytangblcfdboghaa
