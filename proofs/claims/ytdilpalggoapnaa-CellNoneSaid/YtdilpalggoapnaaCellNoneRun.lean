/-
  CellNone, run by the small machine in the kernel with whatever bytes; the examples (awake) are known ahead.
-/
import Derived.Test.YtdilpalggoapnaaCellOpen
import Derived.Test.YtdilpalggoapnaaAbsKnows
import Derived.Test.YtdilpalggoapnaaRow
namespace Go.Proofs.Ytdilpalggoapnaa
open Go.RowKit
set_option linter.unusedVariables false
/-- awake is known ahead. -/
def knowAwake7 : Known := fun f args h => match Nat.beq f 49, args with
  | true, [] => some (.bool true, h)
  | _, _ => none
theorem knowAwake7_ok : Known.Ok Try.prog knowAwake7 := by
  intro f args h r h' e
  unfold knowAwake7 at e
  split at e
  · rename_i hf
    have hf := Nat.eq_of_beq_eq_true hf
    subst hf
    simp only [Option.some.injEq, Prod.mk.injEq] at e
    obtain ⟨rfl, rfl⟩ := e
    refine CallTo.of_below fun ρ w vs hc hm => ?_
    simp [conL] at hc
    subst hc
    exact ⟨.bool true, rfl, awake7_any w⟩
  · cases e
theorem follows_mixed7 : Try.prog.follows .mixedOrders = true := by kernel_rfl
set_option maxRecDepth 100000 in
theorem cnone_told (x : Option Addr) (n c : Nat) : tells (runF Try.prog knowAwake7 100000 30 7 [.opq (.slice x n c)] noH) = true := by kernel_rfl
theorem cnone_law (W : World) (a0 : Option Addr) (len0 cap0 : Nat) (z0 : List Int) (w0 : IsRow .u8 W a0 len0 cap0 z0) :
    Calls Try.prog 7 #[.slice a0 len0 cap0] W fun e w' => e = .returned (.bool true) ∧ Below W.heap.size W w' :=
  told_true_of (runF_ok follows_mixed7 knowAwake7_ok 100000 30) (cnone_told a0 len0 cap0) (fun ρ => conL_mk (con_opq_mk rfl) rfl) W
end Go.Proofs.Ytdilpalggoapnaa
