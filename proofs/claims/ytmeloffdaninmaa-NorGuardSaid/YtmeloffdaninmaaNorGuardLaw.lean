/-
  NorGuard's walk for arguments as they come in.
-/
import Derived.Test.YtmeloffdaninmaaNorGuardWalk
import Derived.Test.YtmeloffdaninmaaNorOpen
namespace Go.Proofs.Ytmeloffdaninmaa
open Go.RowKit
set_option linter.unusedVariables false
theorem guard_law (W : World) (a0 : Option Addr) (len0 cap0 : Nat) (o0 : List Oc) (e0 : o0.length = len0) (s0 : Sees W W.heap.size a0 (ocs o0)) (w0 : ∀ p ∈ o0, p.Ok W.heap.size W) :
    Calls Try.prog 17 #[.slice a0 len0 cap0] W fun e w' => e = .returned (.bool true) ∧ Below W.heap.size W w' :=
  guard_walk a0 len0 cap0 o0 W s0 e0 w0
end Go.Proofs.Ytmeloffdaninmaa
