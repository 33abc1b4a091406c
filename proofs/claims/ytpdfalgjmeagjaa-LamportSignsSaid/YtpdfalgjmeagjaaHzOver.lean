/-
  A hasher laid over another one; worlds above one.
-/
import Derived.Test.YtpdfalgjmeagjaaShaLeaf
namespace Go.Proofs.Ytpdfalgjmeagjaa
open Go.RowKit
set_option linter.unusedVariables false

theorem hz_over {s t : List UInt32} {v u : Value} {L M : Int} (hs : s.length = 8) (ht : t.length = 8) : splice (hz s v L) 0 (hz t u M) = hz t u M := by
  have h1 := hz_len s v L hs
  have h2 := hz_len t u M ht
  simp [splice, h1, h2]
theorem below_from {B : Nat} {w w2 : World} {a : World} (h : Below B a w) (hB : Below B a w2) (hs : w.heap.size ≤ w2.heap.size) (hk : ∀ k, k < w.heap.size → w2.heap[k]? = w.heap[k]?) : Below w.heap.size w w2 := ⟨hB.os.trans h.os.symm, hB.tape.trans h.tape.symm, hB.output.trans h.output.symm, hs, hk⟩
end Go.Proofs.Ytpdfalgjmeagjaa
