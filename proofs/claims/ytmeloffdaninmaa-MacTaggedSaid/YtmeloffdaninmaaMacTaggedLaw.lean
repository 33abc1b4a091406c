/-
  MacTagged's walk for arguments as they come in.
-/
import Derived.Test.YtmeloffdaninmaaMacTaggedWalk
import Derived.Test.YtmeloffdaninmaaPartsOpen
namespace Go.Proofs.Ytmeloffdaninmaa
open Go.RowKit
set_option linter.unusedVariables false
theorem mactagged_law (W : World) (first0 keys0 : List UInt32) (lf0 : first0.length = 8) (lk0 : keys0.length = 64) (a1 : Int) (w1 : (Lit.int .u8 a1).wf = true) (a2 : Option Addr) (len2 cap2 : Nat) (o2 : List Pb) (s2 : Parts W a2 len2 o2) :
    Calls Try.prog 11 #[.agg (cw (first0 ++ keys0)).toArray, .int .u8 a1, .slice a2 len2 cap2] W fun e w' => e = .returned (.bool true) ∧ Below W.heap.size W w' := by
  obtain ⟨t, rfl⟩ := byte_is w1
  exact tagged_walk first0 keys0 lf0 lk0 t a2 len2 cap2 o2 s2
end Go.Proofs.Ytmeloffdaninmaa
