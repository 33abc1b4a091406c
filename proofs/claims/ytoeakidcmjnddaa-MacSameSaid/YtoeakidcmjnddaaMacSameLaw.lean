/-
  MacSame's walk for arguments as they come in.
-/
import Derived.Test.YtoeakidcmjnddaaMacSameWalk
import Derived.Test.YtoeakidcmjnddaaRow
namespace Go.Proofs.Ytoeakidcmjnddaa
open Go.RowKit
set_option linter.unusedVariables false
theorem byte_wf {a : Int} (h : (Lit.int .u8 a).wf = true) : ∃ t : UInt8, a = (t.toNat : Int) := by
  have := bounds_u8 h
  exact ⟨UInt8.ofNat a.toNat, by rw [ofNat_toNat _ (by omega)]; omega⟩
theorem macsame_law (W : World) (a0 : Option Addr) (len0 cap0 : Nat) (z0 : List Int) (w0 : IsRow .u8 W a0 len0 cap0 z0) (a1 : Int) (w1 : (Lit.int .i64 a1).wf = true) (a2 : Int) (w2 : (Lit.int .u8 a2).wf = true) (a3 : Int) (w3 : (Lit.int .u8 a3).wf = true) :
    Calls Try.prog 13 #[.slice a0 len0 cap0, .int .i64 a1, .int .u8 a2, .int .u8 a3] W fun e w' => e = .returned (.bool true) ∧ Below W.heap.size W w' := by
  obtain ⟨l, hl, hs, hc, _⟩ := row_bytes w0
  obtain ⟨t, rfl⟩ := byte_wf w2
  obtain ⟨u, rfl⟩ := byte_wf w3
  exact macsame_walk a0 len0 cap0 l a1 t u W hs hl (bounds_i64 w1)
end Go.Proofs.Ytoeakidcmjnddaa
