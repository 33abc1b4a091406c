/-
  DriveApart's walk for arguments as they come in.
-/
import Derived.Test.YtmkpopfaaebgfaaApartWalk
import Derived.Test.YtmkpopfaaebgfaaOpen5
namespace Go.Proofs.Ytmkpopfaaebgfaa
open Go.RowKit
set_option linter.unusedVariables false
theorem apart_law (W : World) (a0 : Option Addr) (len0 cap0 : Nat) (o0 : List Oc) (e0 : o0.length = len0) (s0 : Sees W W.heap.size a0 (ocs o0)) (w0 : ∀ p ∈ o0, p.Ok W.heap.size W) (a1 : Int) (w1 : (Lit.int .u32 a1).wf = true) :
    Calls Try.prog 16 #[.slice a0 len0 cap0, .int .u32 a1] W fun e w' => e = .returned (.bool true) ∧ Below W.heap.size W w' := by
  have b1 := bounds_u32 w1
  obtain ⟨m, rfl⟩ : ∃ m : UInt32, a1 = (m.toNat : Int) := ⟨UInt32.ofNat a1.toNat, by rw [UInt32.toNat_ofNat_of_lt' (show a1.toNat < 4294967296 by omega)]; omega⟩
  exact apart_walk a0 len0 cap0 o0 m W s0 e0 w0
end Go.Proofs.Ytmkpopfaaebgfaa
