/-
  What the awake of the statements of layer 3 answers: run by the small machine in the kernel.
-/
import Derived.Test.YtpdfalgjmeagjaaAbsSha
import Derived.KernelRfl
namespace Go.Proofs.Ytpdfalgjmeagjaa
open Go.RowKit
set_option linter.unusedVariables false
theorem follows_mixed3 : Try.prog.follows .mixedOrders = true := by kernel_rfl
set_option maxRecDepth 100000 in
theorem awake3_told : tells (runF Try.prog knowBlock 100000 30 28 [] noH) = true := by kernel_rfl
theorem awake3_any (W : World) : Calls Try.prog 28 #[] W fun e w' => e = .returned (.bool true) ∧ Below W.heap.size W w' :=
  told_true (runF_ok follows_mixed3 knowBlock_ok 100000 30) awake3_told W
end Go.Proofs.Ytpdfalgjmeagjaa
