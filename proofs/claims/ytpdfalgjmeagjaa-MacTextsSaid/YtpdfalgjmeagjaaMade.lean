/-
  What the program's Uint and Blob tell is in new memory.
-/
import Derived.Test.YtpdfalgjmeagjaaSeesLit
import Derived.Test.YtpdfalgjmeagjaaWriteU
namespace Go.Proofs.Ytpdfalgjmeagjaa
open Go.RowKit
set_option linter.unusedVariables false

theorem Grows.made {w w' : World} {n : Nat} {l : List UInt8} {e : Ending} (h : Grows w n l e w') : Made8 w n l e w' := ⟨_, _, h.1, h.2.1, h.2.2⟩
/-- The same calls, their answer wherever it lies. -/
theorem Uint_made {A : Option Addr} {c n x N : Nat} {l L : List UInt8} {w : World} (hs : Sees w w.heap.size A (cb l)) (hl : l.length = n) (hN : n + nd x = N) (hL : l ++ digs x = L) (hb : n ≤ 549755813888) (hx : x < 18446744073709551616) :
    Calls Try.prog 95 #[.slice A n c, .int .u64 (x : Int)] w (Made8 w N L) := by
  subst hN hL
  exact (Uint_any A c n x l w hs hl hb hx).mono fun _ _ h => h.made
theorem Blob_made {A B : Option Addr} {c d n m N : Nat} {l b L : List UInt8} {w : World} (hs : Sees w w.heap.size A (cb l)) (ht : Sees w w.heap.size B (cb b)) (hl : l.length = n) (hm : b.length = m) (hN : n + (nd m + m) = N) (hL : l ++ blob b = L)
    (hb : n ≤ 274877906944) (hc : m ≤ 274877906944) : Calls Try.prog 96 #[.slice A n c, .slice B m d] w (Made8 w N L) := by
  subst hN hL
  exact (Blob_any A B c d n m l b w hs ht hl hm hb hc).mono fun _ _ h => h.made
end Go.Proofs.Ytpdfalgjmeagjaa
