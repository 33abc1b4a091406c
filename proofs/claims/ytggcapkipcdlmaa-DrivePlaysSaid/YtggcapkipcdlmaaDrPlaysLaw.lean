/-
  DrivePlays' walk for arguments as they come in.
-/
import Derived.Test.YtggcapkipcdlmaaDrPlaysWalk
import Derived.Test.YtggcapkipcdlmaaArrInts
namespace Go.Proofs.Ytggcapkipcdlmaa
open Go.RowKit
set_option linter.unusedVariables false
theorem dplays_law (W : World) (a0 : Int) (w0 : (Lit.int .i64 a0).wf = true) (a1 : Int) (w1 : (Lit.int .i64 a1).wf = true) (a2 : Int) (w2 : (Lit.int .i64 a2).wf = true) (z3 : List Int) (l3 : z3.length = 2) (w3 : ∀ z ∈ z3, (Lit.int .i64 z).wf = true) (a4 : Option Addr) (len4 cap4 : Nat) (o4 : List Oc) (e4 : o4.length = len4) (s4 : Sees W W.heap.size a4 (ocs o4)) (w4 : ∀ p ∈ o4, p.Ok W.heap.size W) :
    Calls Try.prog 6 #[.int .i64 a0, .int .i64 a1, .int .i64 a2, .agg (z3.map (Value.int .i64)).toArray, .slice a4 len4 cap4] W fun e w' => e = .returned (.bool true) ∧ Below W.heap.size W w' := by
  have b0 := bounds_i64 w0
  have b1 := bounds_i64 w1
  have b2 := bounds_i64 w2
  match z3, l3 with
  | [x, y], _ =>
    have b3 := bounds_i64 (w3 x (by simp))
    have b4 := bounds_i64 (w3 y (by simp))
    exact dplays_walk W a0 a1 a2 x y (by omega) (by omega) (by omega) (by omega) (by omega) a4 len4 cap4 o4 e4 s4 w4
end Go.Proofs.Ytggcapkipcdlmaa
