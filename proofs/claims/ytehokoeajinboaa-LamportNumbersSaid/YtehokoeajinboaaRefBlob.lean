/-
  What Blob of the document's own answer tells, for every input.
-/
import Derived.Test.YtehokoeajinboaaBehind
namespace Go.Proofs.Ytehokoeajinboaa
open Go.RowKit
set_option linter.unusedVariables false

set_option maxRecDepth 100000 in
set_option maxHeartbeats 1000000 in
theorem rBlob_any (A B : Option Addr) (c d n m : Nat) (l b : List UInt8) (w : World) (hs : Sees w w.heap.size A (cb l)) (ht : Sees w w.heap.size B (cb b)) (hl : l.length = n) (hm : b.length = m) (hn : n ≤ 1000000) (hb : m ≤ 1000000) :
    Calls Try.prog 79 #[.slice A n c, .slice B m d] w (Made8 w (n + (nd m + m)) (l ++ blob b)) := by
  have HL := Lib.hid hl
  have HM := Lib.hid hm
  have hd := (nd_bd m).2
  clear hl hm
  go_enter Try.func79, Try.ntmps79
  go_wp2_with fail
  refine (Varint_any m w (by omega)).mono ?_
  rintro e w1 ⟨A1, c1, rfl, hF1, hB1⟩
  go_wp2_with fail
  refine (behind_any A A1 c c1 n (nd m) l (digs m) w1 (hs.step hB1) hF1.sees HL.out (len_digs m) (by omega) (by omega)).mono ?_
  rintro e w2 ⟨A2, c2, rfl, hF2, hB2⟩
  have hB12 := Below.then_ hB1 hB2
  go_wp2_with fail
  refine (behind_any A2 B c2 d (n + nd m) m (l ++ digs m) b w2 hF2.sees (ht.step hB12) (by rw [List.length_append, HL.out, len_digs]) HM.out (by omega) (by omega)).mono ?_
  rintro e w3 ⟨A3, c3, rfl, hF3, hB3⟩
  go_wp2
  go_ret
  refine ⟨A3, c3, by rw [Nat.add_assoc]; rfl, ?_, Below.then_ hB12 hB3⟩
  rw [blob, HM.out, ← List.append_assoc, ← Nat.add_assoc]
  exact hF3.lower hB12.size
end Go.Proofs.Ytehokoeajinboaa
