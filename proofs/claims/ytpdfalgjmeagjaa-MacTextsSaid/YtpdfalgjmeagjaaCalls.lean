/-
  The calls of package bytes, their answers wherever they lie; and what writes of the statements' package answers: true.
-/
import Derived.Test.YtpdfalgjmeagjaaMade
import Derived.Test.YtpdfalgjmeagjaaFlash
import Derived.Test.YtpdfalgjmeagjaaGetBlob
import Derived.Test.YtpdfalgjmeagjaaWrite
import Derived.Test.YtpdfalgjmeagjaaSeesLit
import Derived.Test.YtpdfalgjmeagjaaLow
import Derived.Lib.SlBytesConst
namespace Go.Proofs.Ytpdfalgjmeagjaa
open Go.RowKit
set_option linter.unusedVariables false

theorem Grows32.made {w w' : World} {n : Nat} {l : List UInt32} {e : Ending} (h : Grows32 w n l e w') : Made32 w n l e w' := ⟨_, _, h.1, h.2.1, h.2.2⟩
theorem Words_made {A : Option Addr} {c n m : Nat} {l : List UInt8} {L : List UInt32} {w : World} (hs : Sees w w.heap.size A (cb l)) (hl : l.length = n) (hm : (n + 3) / 4 = m) (hL : words l = L) (hn : n ≤ 274877906944) :
    Calls Try.prog 195 #[.slice A n c] w (Made32 w m L) := by
  subst hL
  exact (Words_any A c n m l w hs hl hn hm).mono fun _ _ h => h.made
/-- What GetBlob, and Bytes, tell, where it is known. -/
def ToldBlob (w : World) (n : Nat) (l : List UInt8) (q r : Nat) (e : Ending) (w' : World) : Prop :=
  ∃ A c, e = .returned (.tuple #[.slice A n c, .int .i64 (q : Int), .int .i64 (r : Int)]) ∧ Fresh w.heap.size 5 w' A n c (cb l) ∧ Below w.heap.size w w'
def Told2 (w : World) (n : Nat) (l : List UInt8) (r : Nat) (e : Ending) (w' : World) : Prop :=
  ∃ A c, e = .returned (.tuple #[.slice A n c, .int .i64 (r : Int)]) ∧ Fresh w.heap.size 5 w' A n c (cb l) ∧ Below w.heap.size w w'
theorem Bytes_told {A : Option Addr} {c n N r : Nat} {p : Int} {l : List UInt32} {L : List UInt8} {w : World} (hg : getBytes l p = (L, r)) (hs : Sees w w.heap.size A (cw l)) (hl : l.length = n) (hN : L.length = N) (hn : n ≤ 68719476736) :
    Calls Try.prog 204 #[.slice A n c, .int .i64 p] w (Told2 w N L r) := by
  subst hN
  have h := Bytes_any A c n p l w hs hl hn
  rw [hg] at h
  exact h

end Go.Proofs.Ytpdfalgjmeagjaa
