/-
  NorNumbers, run by the small machine in the kernel, with New and awake known ahead.
-/
import Derived.Test.YtmeloffdaninmaaNorKnow
import Derived.KernelRfl
namespace Go.Proofs.Ytmeloffdaninmaa
open Go.RowKit
set_option linter.unusedVariables false
set_option maxRecDepth 100000 in
theorem nornum_told : tells (runF Try.prog knowNor 100000 30 12 [] noH) = true := by kernel_rfl
theorem nornum_walk (W : World) : Calls Try.prog 12 #[] W fun e w' => e = .returned (.bool true) ∧ Below W.heap.size W w' :=
  told_true (runF_ok follows_mixed4 knowNor_ok 100000 30) nornum_told W
end Go.Proofs.Ytmeloffdaninmaa
