/-
  AreaOwn, for every input: what its frame wants.
-/
import Derived.Test.YthigepkcgijbbaaAreaOwnWalk
namespace Go.Proofs.Ythigepkcgijbbaa
open Go.RowKit
set_option linter.unusedVariables false
theorem aown_law (W : World) (a0 : Option Addr) (len0 cap0 : Nat) (o0 : List Pb) (s0 : Parts W a0 len0 o0) :
    Calls Try.prog 12 #[.slice a0 len0 cap0] W fun e w' => e = .returned (.bool true) ∧ Below W.heap.size W w' := aown_walk a0 len0 cap0 o0 W s0
end Go.Proofs.Ythigepkcgijbbaa
