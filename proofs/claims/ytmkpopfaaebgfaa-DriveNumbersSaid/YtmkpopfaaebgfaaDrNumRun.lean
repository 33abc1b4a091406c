/-
  DriveNumbers, run by the small machine in the kernel, with the calls of a drive, and awake, known ahead.
-/
import Derived.Test.YtmkpopfaaebgfaaDrKnow
import Derived.KernelRfl
namespace Go.Proofs.Ytmkpopfaaebgfaa
open Go.RowKit
set_option linter.unusedVariables false
set_option maxRecDepth 100000 in
theorem drnum_told : tells (runF Try.prog knowDr5 100000 30 12 [] noH) = true := by kernel_rfl
theorem drnum_walk (W : World) : Calls Try.prog 12 #[] W fun e w' => e = .returned (.bool true) ∧ Below W.heap.size W w' :=
  told_true (runF_ok follows_mixed5 knowDr5_ok 100000 30) drnum_told W
end Go.Proofs.Ytmkpopfaaebgfaa
