/-
  BytesNumbers, run by the small machine in the kernel.
-/
import Derived.Test.YtoeakidcmjnddaaAbsMain
import Derived.Test.YtoeakidcmjnddaaProg
import Derived.KernelRfl
namespace Go.Proofs.Ytoeakidcmjnddaa
open Go.RowKit
set_option linter.unusedVariables false
theorem follows_mixed : Try.prog.follows .mixedOrders = true := by kernel_rfl
set_option maxRecDepth 100000 in
theorem num_told : tells (runF Try.prog noneKnown 100000 30 3 [] noH) = true := by kernel_rfl
theorem num_walk (W : World) : Calls Try.prog 3 #[] W fun e w' => e = .returned (.bool true) ∧ Below W.heap.size W w' :=
  told_true (runF_ok follows_mixed noneKnown_ok 100000 30) num_told W
end Go.Proofs.Ytoeakidcmjnddaa
