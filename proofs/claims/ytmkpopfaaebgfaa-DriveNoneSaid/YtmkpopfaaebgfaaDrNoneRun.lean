/-
  DriveNone, run by the small machine in the kernel with whatever arguments: they are handed on, and never looked into.
-/
import Derived.Test.YtmkpopfaaebgfaaDrKnow
import Derived.Test.YtmkpopfaaebgfaaRow
namespace Go.Proofs.Ytmkpopfaaebgfaa
open Go.RowKit
set_option linter.unusedVariables false
set_option maxRecDepth 100000 in
theorem drnone_told (a b : Value) (x : Option Addr) (n c : Nat) : tells (runF Try.prog knowDr5 100000 30 14 [.opq a, .opq b, .opq (.slice x n c)] noH) = true := by kernel_rfl
theorem drnone_law (W : World) (a0 : Int) (w0 : (Lit.int .i64 a0).wf = true) (a1 : Int) (w1 : (Lit.int .i64 a1).wf = true) (a2 : Option Addr) (len2 cap2 : Nat) (z2 : List Int) (w2 : IsRow .u32 W a2 len2 cap2 z2) :
    Calls Try.prog 14 #[.int .i64 a0, .int .i64 a1, .slice a2 len2 cap2] W fun e w' => e = .returned (.bool true) ∧ Below W.heap.size W w' :=
  told_true_of (runF_ok follows_mixed5 knowDr5_ok 100000 30) (drnone_told (.int .i64 a0) (.int .i64 a1) a2 len2 cap2) (fun ρ => conL_mk (con_opq_mk rfl) (conL_mk (con_opq_mk rfl) (conL_mk (con_opq_mk rfl) rfl))) W
end Go.Proofs.Ytmkpopfaaebgfaa
