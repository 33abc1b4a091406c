/-
  The calls of package bytes, their answers wherever they lie; and what writes of the statements' package answers: true.
-/
import Derived.Test.YtmkpopfaaebgfaaLow
import Derived.Lib.SlBytesConst
namespace Go.Proofs.Ytmkpopfaaebgfaa
open Go.RowKit
set_option linter.unusedVariables false

theorem sees_lit (w : World) (e : TypeId) (m : Nat × Nat) (l : List UInt8) : Sees (w.alloc (.cells (cb l).toArray e m)) (w.alloc (.cells (cb l).toArray e m)).heap.size (some ⟨w.heap.size, 0, none⟩) (cb l) := fun _ =>
  ⟨w.heap.size, 0, rfl, by simp, fun j u hu => by rw [Nat.zero_add, World.cell?_alloc_mark]; simpa using hu⟩

theorem Grows.made {w w' : World} {n : Nat} {l : List UInt8} {e : Ending} (h : Grows w n l e w') : Made8 w n l e w' := ⟨_, _, h.1, h.2.1, h.2.2⟩
theorem Grows32.made {w w' : World} {n : Nat} {l : List UInt32} {e : Ending} (h : Grows32 w n l e w') : Made32 w n l e w' := ⟨_, _, h.1, h.2.1, h.2.2⟩
/-- The same calls, their answer wherever it lies. -/
theorem Uint_made {A : Option Addr} {c n x N : Nat} {l L : List UInt8} {w : World} (hs : Sees w w.heap.size A (cb l)) (hl : l.length = n) (hN : n + nd x = N) (hL : l ++ digs x = L) (hb : n ≤ 549755813888) (hx : x < 18446744073709551616) :
    Calls Try.prog 33 #[.slice A n c, .int .u64 (x : Int)] w (Made8 w N L) := by
  subst hN hL
  exact (Uint_any A c n x l w hs hl hb hx).mono fun _ _ h => h.made
theorem Word_made {A : Option Addr} {c n x N : Nat} {l L : List UInt8} {w : World} (hs : Sees w w.heap.size A (cb l)) (hl : l.length = n) (hN : n + 4 = N) (hL : l ++ wd x = L) (hb : n ≤ 549755813888) (hx : x < 4294967296) :
    Calls Try.prog 35 #[.slice A n c, .int .u32 (x : Int)] w (Made8 w N L) := by
  subst hN hL
  exact (Word_any A c n x l w hs hl hb hx).mono fun _ _ h => h.made
theorem Blob_made {A B : Option Addr} {c d n m N : Nat} {l b L : List UInt8} {w : World} (hs : Sees w w.heap.size A (cb l)) (ht : Sees w w.heap.size B (cb b)) (hl : l.length = n) (hm : b.length = m) (hN : n + (nd m + m) = N) (hL : l ++ blob b = L)
    (hb : n ≤ 274877906944) (hc : m ≤ 274877906944) : Calls Try.prog 37 #[.slice A n c, .slice B m d] w (Made8 w N L) := by
  subst hN hL
  exact (Blob_any A B c d n m l b w hs ht hl hm hb hc).mono fun _ _ h => h.made
theorem Words_made {A : Option Addr} {c n m : Nat} {l : List UInt8} {L : List UInt32} {w : World} (hs : Sees w w.heap.size A (cb l)) (hl : l.length = n) (hm : (n + 3) / 4 = m) (hL : words l = L) (hn : n ≤ 274877906944) :
    Calls Try.prog 31 #[.slice A n c] w (Made32 w m L) := by
  subst hL
  exact (Words_any A c n m l w hs hl hn hm).mono fun _ _ h => h.made
/-- What GetBlob, and Bytes, tell, where it is known. -/
def ToldBlob (w : World) (n : Nat) (l : List UInt8) (q r : Nat) (e : Ending) (w' : World) : Prop :=
  ∃ A c, e = .returned (.tuple #[.slice A n c, .int .i64 (q : Int), .int .i64 (r : Int)]) ∧ Fresh w.heap.size 5 w' A n c (cb l) ∧ Below w.heap.size w w'
def Told2 (w : World) (n : Nat) (l : List UInt8) (r : Nat) (e : Ending) (w' : World) : Prop :=
  ∃ A c, e = .returned (.tuple #[.slice A n c, .int .i64 (r : Int)]) ∧ Fresh w.heap.size 5 w' A n c (cb l) ∧ Below w.heap.size w w'
theorem GetBlob_told {A : Option Addr} {c n N q r : Nat} {p most : Int} {l L : List UInt8} {w : World} (hg : getB l p most = (L, q, r)) (hs : Sees w w.heap.size A (cb l)) (hl : l.length = n) (hc : n ≤ c) (hN : L.length = N) (hn : n ≤ 1099511627776) (hm : most ≤ 9223372036854775807) :
    Calls Try.prog 25 #[.slice A n c, .int .i64 p, .int .i64 most] w (ToldBlob w N L q r) := by
  subst hN
  have h := GetBlob_any A c n p most l w hs hl hc hn hm
  rw [hg] at h
  exact h
theorem Bytes_told {A : Option Addr} {c n N r : Nat} {p : Int} {l : List UInt32} {L : List UInt8} {w : World} (hg : getBytes l p = (L, r)) (hs : Sees w w.heap.size A (cw l)) (hl : l.length = n) (hN : L.length = N) (hn : n ≤ 68719476736) :
    Calls Try.prog 28 #[.slice A n c, .int .i64 p] w (Told2 w N L r) := by
  subst hN
  have h := Bytes_any A c n p l w hs hl hn
  rw [hg] at h
  exact h

set_option maxHeartbeats 400000 in
theorem writes_any (w : World) : Calls Try.prog 104 #[] w fun e w' => e = .returned (.bool true) ∧ Below w.heap.size w w' := by
  have kc := fun (w : World) (C : Array Value) (n c : Nat) => Lib.run_convert_bytes_const (P := Try.prog) w 23 5 C n c Try.underlying23 Try.underlying5
  go_enter Try.func104, Try.ntmps104
  go_wp2_with fail
  refine (Uint_made (n := 0) (x := 300) (N := 2) (L := [172, 2]) (l := []) Sees.nil rfl (by decide) (by decide) (by omega) (by omega)).mono ?_
  rintro e w1 ⟨A1, c1, rfl, hF1, hB1⟩
  go_wp2_with fail
  refine (Word_made (n := 0) (x := 258) (N := 4) (L := [0, 0, 1, 2]) (l := []) Sees.nil rfl rfl (by decide) (by omega) (by omega)).mono ?_
  rintro e w2 ⟨A2, c2, rfl, hF2, hB2⟩
  go_wp2_with fail
  refine (Blob_made (n := 0) (m := 2) (N := 3) (L := [2, 97, 98]) (l := []) (b := [97, 98]) Sees.nil (sees_lit w2 5 (2, 3) [97, 98]) rfl rfl (by decide) (by decide) (by omega) (by omega)).mono ?_
  rintro e w3 ⟨A3, c3, rfl, hF3, hB3⟩
  have hB4 := (Below.refl w2.heap.size w2).alloc (Nat.le_refl _) (.cells (cb [97, 98]).toArray 5 (2, 3))
  have hB5 := Below.then_ hB4 hB3
  have s1 := run_str (n := 2) (((hF1.below hB2).below hB5)).sees rfl c1
  have s2 := run_str (n := 4) ((hF2.below hB5)).sees rfl c2
  have s3 := run_str (n := 3) hF3.sees rfl c3
  clear kc
  go_wp2
  go_ret
  exact ⟨rfl, Below.then_ (Below.then_ hB1 hB2) hB5⟩
end Go.Proofs.Ytmkpopfaaebgfaa
