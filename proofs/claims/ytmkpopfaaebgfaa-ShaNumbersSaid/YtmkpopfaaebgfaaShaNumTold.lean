/-
  ShaNumbers tells true: the small machine's run.
-/
import Derived.Test.YtmkpopfaaebgfaaShaNumRun
namespace Go.Proofs.Ytmkpopfaaebgfaa
open Go.RowKit
set_option linter.unusedVariables false
set_option maxRecDepth 100000 in
theorem shanum_told : tells (runF Try.prog knowNum 100000 30 4 [] noH) = true := by kernel_rfl
theorem shanum_walk (W : World) : Calls Try.prog 4 #[] W fun e w' => e = .returned (.bool true) ∧ Below W.heap.size W w' :=
  told_true (runF_ok follows_mixedS knowNum_ok 100000 30) shanum_told W
end Go.Proofs.Ytmkpopfaaebgfaa
