/-
  DriveErases' walk for arguments as they come in.
-/
import Derived.Test.YtmkpopfaaebgfaaErasesWalk
import Derived.Test.YtmkpopfaaebgfaaOpen5
namespace Go.Proofs.Ytmkpopfaaebgfaa
open Go.RowKit
set_option linter.unusedVariables false
theorem erases_law (W : World) (a0 : Option Addr) (len0 cap0 : Nat) (o0 : List Oc) (e0 : o0.length = len0) (s0 : Sees W W.heap.size a0 (ocs o0)) (w0 : ∀ p ∈ o0, p.Ok W.heap.size W) (a1 : Int) (w1 : (Lit.int .i64 a1).wf = true) (a2 : Option Addr) (len2 cap2 : Nat) (z2 : List Int) (w2 : IsRow .u32 W a2 len2 cap2 z2) :
    Calls Try.prog 17 #[.slice a0 len0 cap0, .int .i64 a1, .slice a2 len2 cap2] W fun e w' => e = .returned (.bool true) ∧ Below W.heap.size W w' := by
  have b1 := bounds_i64 w1
  obtain ⟨b, h1, h2, h3, h4⟩ := row_words w2
  exact erases_walk a0 len0 cap0 o0 a1 a2 len2 cap2 b W s0 e0 w0 (by omega) h2 h1 h3
end Go.Proofs.Ytmkpopfaaebgfaa
