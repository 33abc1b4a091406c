/-
  NorPlays' walk for arguments as they come in.
-/
import Derived.Test.YtjmofjcdcmbecaaNorPlaysWalk
namespace Go.Proofs.Ytjmofjcdcmbecaa
open Go.RowKit
set_option linter.unusedVariables false
theorem nplays_law (W : World) (a0 : Int) (w0 : (Lit.int .i64 a0).wf = true) (a1 : Int) (w1 : (Lit.int .i64 a1).wf = true) (a2 : Option Addr) (len2 cap2 : Nat) (o2 : List Oc) (e2 : o2.length = len2) (s2 : Sees W W.heap.size a2 (ocs o2)) (w2 : ∀ p ∈ o2, p.Ok W.heap.size W) :
    Calls Try.prog 6 #[.int .i64 a0, .int .i64 a1, .slice a2 len2 cap2] W fun e w' => e = .returned (.bool true) ∧ Below W.heap.size W w' := by
  have b0 := bounds_i64 w0
  have b1 := bounds_i64 w1
  exact nplays_walk W a0 a1 (by omega) (by omega) a2 len2 cap2 o2 e2 s2 w2
end Go.Proofs.Ytjmofjcdcmbecaa
