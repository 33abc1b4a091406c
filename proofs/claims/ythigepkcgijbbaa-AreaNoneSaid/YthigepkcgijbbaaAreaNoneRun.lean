/-
  AreaNone, run by the small machine in the kernel with whatever bytes; the examples (awake) are known ahead.
-/
import Derived.Test.YthigepkcgijbbaaAreaAwake
import Derived.Test.YthigepkcgijbbaaRow
namespace Go.Proofs.Ythigepkcgijbbaa
open Go.RowKit
set_option linter.unusedVariables false
set_option maxRecDepth 100000 in
theorem anone_told (x : Option Addr) (n c : Nat) : tells (runF Try.prog knowAwake8 100000 30 8 [.opq (.slice x n c)] noH) = true := by kernel_rfl
theorem anone_law (W : World) (a0 : Option Addr) (len0 cap0 : Nat) (z0 : List Int) (w0 : IsRow .u8 W a0 len0 cap0 z0) :
    Calls Try.prog 8 #[.slice a0 len0 cap0] W fun e w' => e = .returned (.bool true) ∧ Below W.heap.size W w' :=
  told_true_of (runF_ok follows_mixed8 knowAwake8_ok 100000 30) (anone_told a0 len0 cap0) (fun ρ => conL_mk (con_opq_mk rfl) rfl) W
end Go.Proofs.Ythigepkcgijbbaa
