/-
  Signatures of digests that are given once, plain: bits, secrets, halves, keys, over flat bytes.
-/
import Derived.Test.YtehokoeajinboaaShaNat
import Derived.Test.YtehokoeajinboaaTextF
namespace Go.Proofs.Ytehokoeajinboaa
open Go.RowKit
set_option linter.unusedVariables false

/-- The bit i of a digest. -/
def bitF (d : List UInt8) (i : Nat) : Nat := (d.getD (i / 8) 0).toNat / 2 ^ (7 - i % 8) % 2
def bitI (d : List UInt8) (i : Int) : Nat := if 0 ≤ i ∧ i < 256 then bitF d i.toNat else 0
theorem bitF_lt (d : List UInt8) (i : Nat) : bitF d i < 2 := Nat.mod_lt _ (by decide)
theorem bitI_lt (d : List UInt8) (i : Int) : bitI d i < 2 := by
  unfold bitI
  split
  · exact bitF_lt _ _
  · decide
theorem bitI_nat (d : List UInt8) (i : Nat) (h : i < 256) : bitI d (i : Int) = bitF d i := by
  unfold bitI
  rw [if_pos (by omega)]
  simp
/-- The piece j of 32 bytes. -/
def chunk (l : List UInt8) (j : Nat) : List UInt8 := (l.drop (32 * j)).take 32
theorem len_chunk (l : List UInt8) (j : Nat) (h : 32 * j + 32 ≤ l.length) : (chunk l j).length = 32 := by
  simp only [chunk, List.length_take, List.length_drop]
  omega
theorem get_chunk (l : List UInt8) (j i : Nat) : (chunk l j)[i]? = if i < 32 then l[32 * j + i]? else none := by
  simp only [chunk, List.getElem?_take, List.getElem?_drop]
theorem get_splice8 (l p : List UInt8) (a i : Nat) (h : a + p.length ≤ l.length) : (splice l a p)[i]? = if i < a then l[i]? else if i < a + p.length then p[i - a]? else l[i]? := by
  unfold splice
  by_cases h1 : i < a
  · rw [if_pos h1, List.getElem?_append_left (by simp; omega), List.getElem?_take, if_pos h1]
  · rw [if_neg h1]
    by_cases h2 : i < a + p.length
    · rw [if_pos h2, List.getElem?_append_right (by simp; omega), List.getElem?_append_left (by simp; omega)]
      congr 1
      simp
      omega
    · rw [if_neg h2, List.getElem?_append_right (by simp; omega), List.getElem?_append_right (by simp; omega), List.getElem?_drop]
      congr 1
      simp
      omega
theorem chunk_splice (l p : List UInt8) (k j : Nat) (hp : p.length = 32) (hk : 32 * k + 32 ≤ l.length) : chunk (splice l (32 * k) p) j = if j = k then p else chunk l j := by
  apply List.ext_getElem?
  intro i
  rw [get_chunk]
  by_cases hi : i < 32
  · rw [if_pos hi, get_splice8 _ _ _ _ (by omega), hp]
    by_cases hj : j = k
    · subst hj
      rw [if_neg (by omega), if_pos (by omega), if_pos rfl, Nat.add_sub_cancel_left]
    · rw [if_neg hj, get_chunk, if_pos hi]
      by_cases h1 : 32 * j + i < 32 * k
      · rw [if_pos h1]
      · rw [if_neg h1, if_neg (by omega)]
  · rw [if_neg hi]
    by_cases hj : j = k
    · rw [if_pos hj]
      exact (List.getElem?_eq_none (by omega)).symm
    · rw [if_neg hj, get_chunk, if_neg hi]
theorem len_splice8 (l p : List UInt8) (a : Nat) (h : a + p.length ≤ l.length) : (splice l a p).length = l.length := by
  simp only [splice, List.length_append, List.length_take, List.length_drop]
  omega
theorem cb_splice (l p : List UInt8) (a : Nat) : splice (cb l) a (cb p) = cb (splice l a p) := by
  simp [splice, cb, List.map_take, List.map_drop]
/-- So many pieces, one behind the other. -/
def ofChunks (n : Nat) (f : Nat → List UInt8) : List UInt8 := (List.range n).flatMap f
theorem len_ofChunks (f : Nat → List UInt8) : ∀ n, (∀ j, j < n → (f j).length = 32) → (ofChunks n f).length = 32 * n
  | 0, _ => rfl
  | n + 1, h => by
    have := len_ofChunks f n (fun j hj => h j (by omega))
    unfold ofChunks at this ⊢
    rw [List.range_succ, List.flatMap_append, List.length_append, this]
    simp [h n (by omega)]
    omega
theorem chunk_ofChunks (f : Nat → List UInt8) : ∀ n, (∀ j, j < n → (f j).length = 32) → ∀ j, j < n → chunk (ofChunks n f) j = f j
  | 0, _, j, hj => by omega
  | n + 1, h, j, hj => by
    have hl := len_ofChunks f n (fun j hj => h j (by omega))
    have e : ofChunks (n + 1) f = ofChunks n f ++ f n := by
      unfold ofChunks
      rw [List.range_succ, List.flatMap_append]
      simp
    have hn := h n (by omega)
    rw [e]
    by_cases hj2 : j < n
    · rw [← chunk_ofChunks f n (fun j hj => h j (by omega)) j hj2]
      unfold chunk
      rw [List.drop_append_of_le_length (by omega), List.take_append_of_le_length (by simp; omega)]
    · obtain rfl : j = n := by omega
      unfold chunk
      rw [List.drop_append, hl, Nat.sub_self, List.drop_eq_nil_of_le (by omega), List.nil_append, List.drop_zero]
      exact List.take_of_length_le (by omega)
theorem chunks_eq (l : List UInt8) (f : Nat → List UInt8) : ∀ n, l.length = 32 * n → (∀ j, j < n → chunk l j = f j) → l = ofChunks n f := by
  intro n
  induction n generalizing l with
  | zero => intro hl _; exact List.eq_nil_of_length_eq_zero (by omega)
  | succ n ih =>
    intro hl h
    have h1 := ih (l.take (32 * n)) (by simp; omega) (fun j hj => by
      rw [← h j (by omega)]
      apply List.ext_getElem?
      intro i
      rw [get_chunk, get_chunk]
      split
      · rw [List.getElem?_take, if_pos (by omega)]
      · rfl)
    have h2 := h n (by omega)
    have e : ofChunks (n + 1) f = ofChunks n f ++ f n := by
      unfold ofChunks
      rw [List.range_succ, List.flatMap_append]
      simp
    rw [e, ← h1, ← h2]
    unfold chunk
    rw [List.take_of_length_le (l := l.drop (32 * n)) (by simp; omega), List.take_append_drop]
theorem chunks_ext (l m : List UInt8) (n : Nat) (hl : l.length = 32 * n) (hm : m.length = 32 * n) (h : ∀ j, j < n → chunk l j = chunk m j) : l = m :=
  (chunks_eq l (chunk m) n hl h).trans (chunks_eq m (chunk m) n hm fun _ _ => rfl).symm
/-- What digests are made by. -/
structure Dg where
  of : List UInt8 → List UInt8
  mac : List UInt8 → List UInt8 → List UInt8
  lof : ∀ b, (of b).length = 32
  lmac : ∀ k b, (mac k b).length = 32
/-- The secret of a seed, a leaf, a bit, a value. -/
def secF (D : Dg) (seed : List UInt8) (leaf bit val : Nat) : List UInt8 := D.mac seed (textF 1 [digs leaf, digs bit, digs val])
def halfF (D : Dg) (s : List UInt8) : List UInt8 := D.of (textF 2 [s])
/-- A key's halves: of d's bits those of hl, of the other values those of ol. -/
def pairF (d hl ol : List UInt8) (j : Nat) : List UInt8 := if j % 2 = bitF d (j / 2) then chunk hl (j / 2) else chunk ol (j / 2)
def pairsF (d hl ol : List UInt8) : List (List UInt8) := (List.range 512).map (pairF d hl ol)
def leafF (D : Dg) (seed : List UInt8) (leaf j : Nat) : List UInt8 := halfF D (secF D seed leaf (j / 2) (j % 2))
def keyF9 (D : Dg) (seed : List UInt8) (leaf : Nat) : List UInt8 := D.of (textF 3 ((List.range 512).map (leafF D seed leaf)))
def signSF (D : Dg) (seed : List UInt8) (leaf : Nat) (d : List UInt8) (i : Nat) : List UInt8 := secF D seed leaf i (bitF d i)
def signOF (D : Dg) (seed : List UInt8) (leaf : Nat) (d : List UInt8) (i : Nat) : List UInt8 := halfF D (secF D seed leaf i (1 - bitF d i))
def signS (D : Dg) (seed : List UInt8) (leaf : Nat) (d : List UInt8) : List UInt8 := ofChunks 256 (signSF D seed leaf d)
def signO (D : Dg) (seed : List UInt8) (leaf : Nat) (d : List UInt8) : List UInt8 := ofChunks 256 (signOF D seed leaf d)
def halvesF (D : Dg) (S : List UInt8) : List UInt8 := ofChunks 256 fun i => halfF D (chunk S i)
def openF (D : Dg) (d S O : List UInt8) : List UInt8 := D.of (textF 3 (pairsF d (halvesF D S) O))
theorem len_halfF (D : Dg) (s : List UInt8) : (halfF D s).length = 32 := D.lof _
theorem len_secF (D : Dg) (seed : List UInt8) (leaf bit val : Nat) : (secF D seed leaf bit val).length = 32 := D.lmac _ _
theorem len_signS (D : Dg) (seed : List UInt8) (leaf : Nat) (d : List UInt8) : (signS D seed leaf d).length = 8192 := len_ofChunks _ 256 fun j _ => len_secF _ _ _ _ _
theorem len_signO (D : Dg) (seed : List UInt8) (leaf : Nat) (d : List UInt8) : (signO D seed leaf d).length = 8192 := len_ofChunks _ 256 fun j _ => len_halfF _ _
theorem len_halvesF (D : Dg) (S : List UInt8) : (halvesF D S).length = 8192 := len_ofChunks _ 256 fun j _ => len_halfF _ _
theorem pairF_two (d : List UInt8) (j : Nat) : j % 2 = bitF d (j / 2) ∨ j % 2 = 1 - bitF d (j / 2) := by
  have := bitF_lt d (j / 2)
  omega
/-- Open of what was signed is the key. -/
theorem open_sign (D : Dg) (seed : List UInt8) (leaf : Nat) (d hl : List UInt8) (hl2 : ∀ i, i < 256 → chunk hl i = halfF D (secF D seed leaf i (bitF d i))) :
    pairsF d hl (signO D seed leaf d) = (List.range 512).map (leafF D seed leaf) := by
  unfold pairsF
  apply List.map_congr_left
  intro j hj
  have hj2 := List.mem_range.1 hj
  unfold pairF leafF
  by_cases h : j % 2 = bitF d (j / 2)
  · rw [if_pos h, hl2 _ (by omega), h]
  · rw [if_neg h, signO, chunk_ofChunks (signOF D seed leaf d) 256 (fun j _ => len_halfF _ _) _ (by omega)]
    have := bitF_lt d (j / 2)
    rw [signOF, show 1 - bitF d (j / 2) = j % 2 from by omega]
theorem open_sign' (D : Dg) (seed : List UInt8) (leaf : Nat) (d : List UInt8) : openF D d (signS D seed leaf d) (signO D seed leaf d) = keyF9 D seed leaf := by
  unfold openF keyF9
  rw [open_sign D seed leaf d _]
  intro i hi
  unfold halvesF
  rw [chunk_ofChunks (fun i => halfF D (chunk (signS D seed leaf d) i)) 256 (fun j _ => len_halfF _ _) _ hi, signS, chunk_ofChunks (signSF D seed leaf d) 256 (fun j _ => len_secF _ _ _ _ _) _ hi, signSF]
end Go.Proofs.Ytehokoeajinboaa
