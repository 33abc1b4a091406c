/-
  AreaKeeps, for every input: what its frame wants.
-/
import Derived.Test.YtpdfalgjmeagjaaAreaKeepsWalk
namespace Go.Proofs.Ytpdfalgjmeagjaa
open Go.RowKit
set_option linter.unusedVariables false
theorem akeeps_law (W : World) (a0 : Int) (w0 : (Lit.int .u8 a0).wf = true) (a1 : Option Addr) (len1 cap1 : Nat) (f1 : Lives8At W a1 len1) :
    Calls Try.prog 12 #[.int .u8 a0, .slice a1 len1 cap1] W fun e w' => e = .returned (.bool true) ∧ Below W.heap.size W w' := by
  obtain ⟨s, rfl⟩ := byte_is w0
  exact akeeps_walk s a1 len1 cap1 W f1
end Go.Proofs.Ytpdfalgjmeagjaa
