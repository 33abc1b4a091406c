/-
  TallyRises' walk for arguments as they come in.
-/
import Derived.Test.YtpdfalgjmeagjaaRisesWalk
import Derived.Test.YtpdfalgjmeagjaaRisesWalk1
namespace Go.Proofs.Ytpdfalgjmeagjaa
open Go.RowKit
theorem rises_law (W : World) (a0 : Int) (w0 : (Lit.int .u32 a0).wf = true) (a1 : Option Addr) (len1 cap1 : Nat) (f1 : FallsAt W a1 len1) :
    Calls Try.prog 9 #[.int .u32 a0, .slice a1 len1 cap1] W fun e w' => e = .returned (.bool true) ∧ Below W.heap.size W w' := by
  have hb := bounds_u32 w0
  obtain ⟨z, rfl⟩ := Int.eq_ofNat_of_zero_le hb.1
  by_cases h : z % 2147483648 = 0
  · exact rises_walk0 z (by omega) h a1 len1 cap1 W f1
  · exact rises_walk1 z (by omega) h a1 len1 cap1 W f1
end Go.Proofs.Ytpdfalgjmeagjaa
