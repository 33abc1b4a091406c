/-
  AreaRoom, for every input: what its frame wants.
-/
import Derived.Test.YthigepkcgijbbaaAreaRoomWalk
namespace Go.Proofs.Ythigepkcgijbbaa
open Go.RowKit
set_option linter.unusedVariables false
theorem aroom_law (W : World) (a0 : Int) (w0 : (Lit.int .u8 a0).wf = true) (a1 : Option Addr) (len1 cap1 : Nat) (o1 : List Pb) (s1 : Parts W a1 len1 o1) :
    Calls Try.prog 10 #[.int .u8 a0, .slice a1 len1 cap1] W fun e w' => e = .returned (.bool true) ∧ Below W.heap.size W w' := by
  obtain ⟨s, rfl⟩ := byte_is w0
  exact aroom_walk s a1 len1 cap1 o1 W s1
end Go.Proofs.Ythigepkcgijbbaa
