/-
  CellOther: what its frame asks; and that a list of byte strings is no longer than any list may be.
-/
import Derived.Test.YtdilpalggoapnaaCellOtherWalk
import Derived.Test.YtdilpalggoapnaaRow
namespace Go.Proofs.Ytdilpalggoapnaa
open Go.RowKit Go.ChangeShapes Go.WideShapes
set_option linter.unusedVariables false
section
variable {H : Type} {enc : TypeId × Value → H} {w : World} {held : Bool}
theorem parts_le {fuel : Nat} {A : Option Addr} {N c : Nat} {x : DataW H × List MemPlace} (h : DataW.trod enc Try.prog w 0 (fun _ => true) held fuel 28 [.slice A N c] = some x) :
    ∃ ps : List Pb, Parts w A N ps ∧ N ≤ 9223372036854775807 := by
  obtain ⟨ps, hps⟩ := parts_of h
  refine ⟨ps, hps, ?_⟩
  rcases Deep.open_slice Try.underlying28 h with ⟨hcs, _⟩ | ⟨a, len, cap, m, n, D, Pl, hcs, _, hl, hm, hmm, _, hi⟩
  · simp at hcs
    omega
  · simp at hcs
    unfold maxLen at hm
    omega
end
theorem cother_law (W : World) (a0 : Option Addr) (len0 cap0 : Nat) (o0 : List Pb) (s0 : Parts W a0 len0 o0) (m0 : len0 ≤ 9223372036854775807) (a1 : Option Addr) (len1 cap1 : Nat) (z1 : List Int) (w1 : IsRow .u32 W a1 len1 cap1 z1) (a2 : Option Addr) (len2 cap2 : Nat) (z2 : List Int) (w2 : IsRow .u8 W a2 len2 cap2 z2) (a3 : Bool) :
    Calls Try.prog 9 #[.slice a0 len0 cap0, .slice a1 len1 cap1, .slice a2 len2 cap2, .bool a3] W fun e w' => e = .returned (.bool true) ∧ Below W.heap.size W w' := by
  obtain ⟨ws, hwl, hws, -, -⟩ := row_words w1
  obtain ⟨nx, hnl, hnx, -, -⟩ := row_bytes w2
  exact cother_walk a0 len0 cap0 o0 a1 len1 cap1 ws a2 len2 cap2 nx a3 W s0 m0 hws hwl hnx hnl
end Go.Proofs.Ytdilpalggoapnaa
