/-
  AreaNumbers, run by the small machine in the kernel, with the calls of a drive, bytes.Words, and awake, known ahead.
-/
import Derived.Test.YthigepkcgijbbaaAreaAwake
import Derived.KernelRfl
namespace Go.Proofs.Ythigepkcgijbbaa
open Go.RowKit
set_option linter.unusedVariables false
set_option maxRecDepth 100000 in
theorem areanum_told : tells (runF Try.prog knowAwake8 100000 30 7 [] noH) = true := by kernel_rfl
theorem areanum_walk (W : World) : Calls Try.prog 7 #[] W fun e w' => e = .returned (.bool true) ∧ Below W.heap.size W w' :=
  told_true (runF_ok follows_mixed8 knowAwake8_ok 100000 30) areanum_told W
end Go.Proofs.Ythigepkcgijbbaa
