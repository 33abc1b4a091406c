/-
  The fixed examples of the chapter about flashes (awake) come out true, whatever memory there is: run by the small machine.
-/
import Derived.Test.YtpdfalgjmeagjaaAbsMain
import Derived.Test.YtpdfalgjmeagjaaProg
import Derived.KernelRfl
namespace Go.Proofs.Ytpdfalgjmeagjaa
open Go.RowKit
set_option linter.unusedVariables false
theorem follows_mixed4 : Try.prog.follows .mixedOrders = true := by kernel_rfl
set_option maxRecDepth 100000 in
theorem awake4_told : tells (runF Try.prog noneKnown 100000 30 37 [] noH) = true := by kernel_rfl
theorem awake4_any (W : World) : Calls Try.prog 37 #[] W fun e w' => e = .returned (.bool true) ∧ Below W.heap.size W w' :=
  told_true (runF_ok follows_mixed4 noneKnown_ok 100000 30) awake4_told W
end Go.Proofs.Ytpdfalgjmeagjaa
