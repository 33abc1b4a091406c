/-
  AreaAny, for every input: what its frame wants.
-/
import Derived.Test.YthigepkcgijbbaaAreaAnyWalk
namespace Go.Proofs.Ythigepkcgijbbaa
open Go.RowKit
set_option linter.unusedVariables false
theorem aany_law (W : World) (a0 : Int) (w0 : (Lit.int .u8 a0).wf = true) (a1 : Option Addr) (len1 cap1 : Nat) (o1 : List Pw) (s1 : WParts W a1 len1 o1) (a2 : Option Addr) (len2 cap2 : Nat) (z2 : List Int) (w2 : IsRow .u8 W a2 len2 cap2 z2) :
    Calls Try.prog 11 #[.int .u8 a0, .slice a1 len1 cap1, .slice a2 len2 cap2] W fun e w' => e = .returned (.bool true) ∧ Below W.heap.size W w' := by
  obtain ⟨s, rfl⟩ := byte_is w0
  obtain ⟨bs, h1, h2, h3, h4⟩ := row_bytes w2
  unfold maxLen at h4
  exact aany_walk s a1 len1 cap1 o1 a2 len2 cap2 bs W s1 h2 h1 (by omega) h3
end Go.Proofs.Ythigepkcgijbbaa
