/-
  CheckJoins over its arguments as they are opened.
-/
import Derived.Test.YtangblcfdboghaaCheckJoinsWalk
import Derived.Test.YtangblcfdboghaaCodeOpen
namespace Go.Proofs.Ytangblcfdboghaa
open Go.RowKit
set_option linter.unusedVariables false

theorem checkJoins_law (w : World) (m : Pm) (hm : PmAt w.heap.size w m) (T : Option Addr) (n tc : Nat) (bs : List Bool) (hb : bs.length = n) (hT : Sees w w.heap.size T (bs.map Value.bool)) :
    Calls Try.prog 7 #[.agg m.cells.toArray, .slice T n tc] w fun e w' => e = .returned (.bool true) ∧ Below w.heap.size w w' :=
  checkJoins_any w m hm T n tc bs hb hT
end Go.Proofs.Ytangblcfdboghaa
