/-
  CodeBack over its arguments as they are opened.
-/
import Derived.Test.YtfeomfoicibmcaaCodeBackWalk
import Derived.Test.YtfeomfoicibmcaaCodeOpen
import Derived.Test.YtfeomfoicibmcaaRow
namespace Go.Proofs.Ytfeomfoicibmcaa
open Go.RowKit
set_option linter.unusedVariables false

theorem codeBack_law (w : World) (m : Pm) (hm : PmAt w.heap.size w m) (A : Option Addr) (n c : Nat) (zs : List Int) (hr : IsRow .u8 w A n c zs) :
    Calls Try.prog 4 #[.agg m.cells.toArray, .slice A n c] w fun e w' => e = .returned (.bool true) ∧ Below w.heap.size w w' := by
  obtain ⟨l, h1, h2, h3, h4⟩ := row_bytes hr
  exact codeBack_any w m hm A n c l h1 h2 h3 h4
end Go.Proofs.Ytfeomfoicibmcaa
