/-
  The fixed examples of the chapter about drives (awake) come out true, whatever memory there is: run by the small machine.
-/
import Derived.Test.YtpdfalgjmeagjaaAbsDrives
import Derived.Test.YtpdfalgjmeagjaaProg
import Derived.KernelRfl
namespace Go.Proofs.Ytpdfalgjmeagjaa
open Go.RowKit
set_option linter.unusedVariables false
theorem follows_mixed5 : Try.prog.follows .mixedOrders = true := by kernel_rfl
set_option maxRecDepth 100000 in
theorem awake5_told : tells (runF Try.prog knowDr 100000 30 43 [] noH) = true := by kernel_rfl
theorem awake5_any (W : World) : Calls Try.prog 43 #[] W fun e w' => e = .returned (.bool true) ∧ Below W.heap.size W w' :=
  told_true (runF_ok follows_mixed5 knowDr_ok 100000 30) awake5_told W
end Go.Proofs.Ytpdfalgjmeagjaa
