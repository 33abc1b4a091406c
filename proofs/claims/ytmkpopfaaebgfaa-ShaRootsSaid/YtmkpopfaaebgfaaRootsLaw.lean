/-
  ShaRoots' walk as its frame asks for it.
-/
import Derived.Test.YtmkpopfaaebgfaaRootsWalk
import Derived.Test.YtmkpopfaaebgfaaRow
namespace Go.Proofs.Ytmkpopfaaebgfaa
open Go.RowKit
set_option linter.unusedVariables false
theorem roots_law (W : World) (a0 : Int) (w0 : (Lit.int .u8 a0).wf = true) :
    Calls Try.prog 7 #[.int .u8 a0] W fun e w' => e = .returned (.bool true) ∧ Below W.heap.size W w' := by
  obtain ⟨z, rfl⟩ : ∃ z : UInt8, a0 = (z.toNat : Int) := by
    have := bounds_u8 w0
    exact ⟨UInt8.ofNat a0.toNat, by rw [ofNat_toNat _ (by omega)]; omega⟩
  exact roots_walk z W
end Go.Proofs.Ytmkpopfaaebgfaa
