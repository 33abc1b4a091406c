/-
  NorSteps' walk for arguments as they come in.
-/
import Derived.Test.YtmeloffdaninmaaNorStepsWalk
import Derived.Test.YtmeloffdaninmaaNorOpen
namespace Go.Proofs.Ytmeloffdaninmaa
open Go.RowKit
set_option linter.unusedVariables false
theorem steps_law (W : World) (a0 : Option Addr) (len0 cap0 : Nat) (o0 : List Oc) (e0 : o0.length = len0) (s0 : Sees W W.heap.size a0 (ocs o0)) (w0 : ∀ p ∈ o0, p.Ok W.heap.size W) (a1 : Int) (w1 : (Lit.int .u8 a1).wf = true) :
    Calls Try.prog 16 #[.slice a0 len0 cap0, .int .u8 a1] W fun e w' => e = .returned (.bool true) ∧ Below W.heap.size W w' := by
  obtain ⟨t, rfl⟩ : ∃ t : UInt8, a1 = (t.toNat : Int) := by
    have := bounds_u8 w1
    exact ⟨UInt8.ofNat a1.toNat, by rw [ofNat_toNat _ (by omega)]; omega⟩
  exact steps_walk a0 len0 cap0 o0 t W s0 e0 w0
end Go.Proofs.Ytmeloffdaninmaa
