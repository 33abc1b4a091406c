/-
  CodeWraps' walk for arguments as they come in.
-/
import Derived.Test.YtfeomfoicibmcaaCodeWrapsWalk
import Derived.OpenShut
namespace Go.Proofs.Ytfeomfoicibmcaa
open Go.RowKit Go.ChangeShapes
set_option linter.unusedVariables false
theorem codewraps_law (W : World) (a0 : Int) (w0 : (Lit.int .u8 a0).wf = true) (a1 : Int) (w1 : (Lit.int .i64 a1).wf = true) (a2 : Int) (w2 : (Lit.int .i64 a2).wf = true) :
    Calls Try.prog 5 #[.int .u8 a0, .int .i64 a1, .int .i64 a2] W fun e w' => e = .returned (.bool true) ∧ Below W.heap.size W w' := by
  have b0 := bounds_u8 w0
  have b1 := bounds_i64 w1
  have b2 := bounds_i64 w2
  obtain ⟨t, rfl⟩ := Int.eq_ofNat_of_zero_le b0.1
  exact codewraps_walk t a1 a2 W (by omega) (by omega)
end Go.Proofs.Ytfeomfoicibmcaa
