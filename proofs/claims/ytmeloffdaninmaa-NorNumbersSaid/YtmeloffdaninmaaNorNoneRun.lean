/-
  NorNone, run by the small machine in the kernel with whatever arguments: they are handed on, and never looked into.
-/
import Derived.Test.YtmeloffdaninmaaNorAwake
import Derived.Test.YtmeloffdaninmaaAbsKnow
import Derived.Test.YtmeloffdaninmaaRow
namespace Go.Proofs.Ytmeloffdaninmaa
open Go.RowKit
set_option linter.unusedVariables false
/-- awake is known ahead. -/
def knowAwake4 : Known := fun f args h => match Nat.beq f 80, args with
  | true, [] => some (.bool true, h)
  | _, _ => none
theorem knowAwake4_ok : Known.Ok Try.prog knowAwake4 := by
  intro f args h r h' e
  unfold knowAwake4 at e
  split at e
  · rename_i hf
    have hf := Nat.eq_of_beq_eq_true hf
    subst hf
    simp only [Option.some.injEq, Prod.mk.injEq] at e
    obtain ⟨rfl, rfl⟩ := e
    refine CallTo.of_below fun ρ w vs hc hm => ?_
    simp [conL] at hc
    subst hc
    exact ⟨.bool true, rfl, awake4_any w⟩
  · cases e
set_option maxRecDepth 100000 in
theorem nornone_told (a b c : Value) : tells (runF Try.prog knowAwake4 100000 30 14 [.opq a, .opq b, .opq c] noH) = true := by kernel_rfl
theorem nornone_walk (W : World) (a b c : Value) (ha : opaqV a = true) (hb : opaqV b = true) (hc : opaqV c = true) : Calls Try.prog 14 #[a, b, c] W fun e w' => e = .returned (.bool true) ∧ Below W.heap.size W w' :=
  told_true_of (runF_ok follows_mixed4 knowAwake4_ok 100000 30) (nornone_told a b c) (fun ρ => conL_mk (con_opq_mk ha) (conL_mk (con_opq_mk hb) (conL_mk (con_opq_mk hc) rfl))) W
theorem nornone_law (W : World) (a0 : Int) (w0 : (Lit.int .i64 a0).wf = true) (a1 : Int) (w1 : (Lit.int .i64 a1).wf = true) (a2 : Option Addr) (len2 cap2 : Nat) (z2 : List Int) (w2 : IsRow .u32 W a2 len2 cap2 z2) :
    Calls Try.prog 14 #[.int .i64 a0, .int .i64 a1, .slice a2 len2 cap2] W fun e w' => e = .returned (.bool true) ∧ Below W.heap.size W w' := nornone_walk W _ _ _ rfl rfl rfl
end Go.Proofs.Ytmeloffdaninmaa
