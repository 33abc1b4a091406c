/-
  NorFalls' walk for arguments as they come in.
-/
import Derived.Test.YtpdfalgjmeagjaaNorFallsWalk
import Derived.Test.YtpdfalgjmeagjaaNorOpen
namespace Go.Proofs.Ytpdfalgjmeagjaa
open Go.RowKit
set_option linter.unusedVariables false
theorem falls_law (W : World) (a0 : Option Addr) (len0 cap0 : Nat) (o0 : List Oc) (e0 : o0.length = len0) (s0 : Sees W W.heap.size a0 (ocs o0)) (w0 : ∀ p ∈ o0, p.Ok W.heap.size W) (a1 : Int) (w1 : (Lit.int .i64 a1).wf = true) (a2 : Int) (w2 : (Lit.int .i64 a2).wf = true)
    (a3 : Option Addr) (len3 cap3 : Nat) (z3 : List Int) (w3 : IsRow .u32 W a3 len3 cap3 z3) (a4 : Int) (w4 : (Lit.int .u8 a4).wf = true) (a5 : Option Addr) (len5 cap5 : Nat) (b5 : List Bool) (e5 : b5.length = len5) (s5 : Sees W W.heap.size a5 (cl b5)) :
    Calls Try.prog 7 #[.slice a0 len0 cap0, .int .i64 a1, .int .i64 a2, .slice a3 len3 cap3, .int .u8 a4, .slice a5 len5 cap5] W fun e w' => e = .returned (.bool true) ∧ Below W.heap.size W w' := by
  obtain ⟨l3, hl3, hs3, hc3, _⟩ := row_words w3
  obtain ⟨z, rfl⟩ : ∃ t : UInt8, a4 = (t.toNat : Int) := by
    have := bounds_u8 w4
    exact ⟨UInt8.ofNat a4.toNat, by rw [ofNat_toNat _ (by omega)]; omega⟩
  exact falls_walk a0 len0 cap0 o0 a1 a2 a3 len3 cap3 l3 z a5 len5 cap5 b5 W s0 e0 w0 (bounds_i64 w1) (bounds_i64 w2) hs3 hl3 hc3 s5 e5
end Go.Proofs.Ytpdfalgjmeagjaa
