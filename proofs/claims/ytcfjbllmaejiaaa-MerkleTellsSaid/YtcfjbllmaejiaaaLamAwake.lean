/-
  The program's bits of digests, halves in pairs, keys' texts; the chapter's examples of layer 9.
-/
import Derived.Test.YtcfjbllmaejiaaaShaNat
import Derived.Test.YtcfjbllmaejiaaaTextF
import Derived.Test.YtcfjbllmaejiaaaText600
import Derived.Test.YtcfjbllmaejiaaaMacSame1
import Derived.Deep.CutBlock
namespace Go.Proofs.Ytcfjbllmaejiaaa
open Go.RowKit
set_option linter.unusedVariables false

/-- The bit i of a digest. -/
def bitF (d : List UInt8) (i : Nat) : Nat := (d.getD (i / 8) 0).toNat / 2 ^ (7 - i % 8) % 2
def bitI (d : List UInt8) (i : Int) : Nat := if 0 ≤ i ∧ i < 256 then bitF d i.toNat else 0
theorem bitF_lt (d : List UInt8) (i : Nat) : bitF d i < 2 := Nat.mod_lt _ (by decide)
theorem bitI_lt (d : List UInt8) (i : Int) : bitI d i < 2 := by
  unfold bitI
  split
  · exact bitF_lt _ _
  · decide
theorem bitI_nat (d : List UInt8) (i : Nat) (h : i < 256) : bitI d (i : Int) = bitF d i := by
  unfold bitI
  rw [if_pos (by omega)]
  simp
/-- The piece j of 32 bytes. -/
def chunk (l : List UInt8) (j : Nat) : List UInt8 := (l.drop (32 * j)).take 32
theorem len_chunk (l : List UInt8) (j : Nat) (h : 32 * j + 32 ≤ l.length) : (chunk l j).length = 32 := by
  simp only [chunk, List.length_take, List.length_drop]
  omega
theorem get_chunk (l : List UInt8) (j i : Nat) : (chunk l j)[i]? = if i < 32 then l[32 * j + i]? else none := by
  simp only [chunk, List.getElem?_take, List.getElem?_drop]
theorem get_splice8 (l p : List UInt8) (a i : Nat) (h : a + p.length ≤ l.length) : (splice l a p)[i]? = if i < a then l[i]? else if i < a + p.length then p[i - a]? else l[i]? := by
  unfold splice
  by_cases h1 : i < a
  · rw [if_pos h1, List.getElem?_append_left (by simp; omega), List.getElem?_take, if_pos h1]
  · rw [if_neg h1]
    by_cases h2 : i < a + p.length
    · rw [if_pos h2, List.getElem?_append_right (by simp; omega), List.getElem?_append_left (by simp; omega)]
      congr 1
      simp
      omega
    · rw [if_neg h2, List.getElem?_append_right (by simp; omega), List.getElem?_append_right (by simp; omega), List.getElem?_drop]
      congr 1
      simp
      omega
theorem chunk_splice (l p : List UInt8) (k j : Nat) (hp : p.length = 32) (hk : 32 * k + 32 ≤ l.length) : chunk (splice l (32 * k) p) j = if j = k then p else chunk l j := by
  apply List.ext_getElem?
  intro i
  rw [get_chunk]
  by_cases hi : i < 32
  · rw [if_pos hi, get_splice8 _ _ _ _ (by omega), hp]
    by_cases hj : j = k
    · subst hj
      rw [if_neg (by omega), if_pos (by omega), if_pos rfl, Nat.add_sub_cancel_left]
    · rw [if_neg hj, get_chunk, if_pos hi]
      by_cases h1 : 32 * j + i < 32 * k
      · rw [if_pos h1]
      · rw [if_neg h1, if_neg (by omega)]
  · rw [if_neg hi]
    by_cases hj : j = k
    · rw [if_pos hj]
      exact (List.getElem?_eq_none (by omega)).symm
    · rw [if_neg hj, get_chunk, if_neg hi]
theorem len_splice8 (l p : List UInt8) (a : Nat) (h : a + p.length ≤ l.length) : (splice l a p).length = l.length := by
  simp only [splice, List.length_append, List.length_take, List.length_drop]
  omega
theorem cb_splice (l p : List UInt8) (a : Nat) : splice (cb l) a (cb p) = cb (splice l a p) := by
  simp [splice, cb, List.map_take, List.map_drop]
/-- So many pieces, one behind the other. -/
def ofChunks (n : Nat) (f : Nat → List UInt8) : List UInt8 := (List.range n).flatMap f
theorem len_ofChunks (f : Nat → List UInt8) : ∀ n, (∀ j, j < n → (f j).length = 32) → (ofChunks n f).length = 32 * n
  | 0, _ => rfl
  | n + 1, h => by
    have := len_ofChunks f n (fun j hj => h j (by omega))
    unfold ofChunks at this ⊢
    rw [List.range_succ, List.flatMap_append, List.length_append, this]
    simp [h n (by omega)]
    omega
theorem chunk_ofChunks (f : Nat → List UInt8) : ∀ n, (∀ j, j < n → (f j).length = 32) → ∀ j, j < n → chunk (ofChunks n f) j = f j
  | 0, _, j, hj => by omega
  | n + 1, h, j, hj => by
    have hl := len_ofChunks f n (fun j hj => h j (by omega))
    have e : ofChunks (n + 1) f = ofChunks n f ++ f n := by
      unfold ofChunks
      rw [List.range_succ, List.flatMap_append]
      simp
    have hn := h n (by omega)
    rw [e]
    by_cases hj2 : j < n
    · rw [← chunk_ofChunks f n (fun j hj => h j (by omega)) j hj2]
      unfold chunk
      rw [List.drop_append_of_le_length (by omega), List.take_append_of_le_length (by simp; omega)]
    · obtain rfl : j = n := by omega
      unfold chunk
      rw [List.drop_append, hl, Nat.sub_self, List.drop_eq_nil_of_le (by omega), List.nil_append, List.drop_zero]
      exact List.take_of_length_le (by omega)
theorem chunks_eq (l : List UInt8) (f : Nat → List UInt8) : ∀ n, l.length = 32 * n → (∀ j, j < n → chunk l j = f j) → l = ofChunks n f := by
  intro n
  induction n generalizing l with
  | zero => intro hl _; exact List.eq_nil_of_length_eq_zero (by omega)
  | succ n ih =>
    intro hl h
    have h1 := ih (l.take (32 * n)) (by simp; omega) (fun j hj => by
      rw [← h j (by omega)]
      apply List.ext_getElem?
      intro i
      rw [get_chunk, get_chunk]
      split
      · rw [List.getElem?_take, if_pos (by omega)]
      · rfl)
    have h2 := h n (by omega)
    have e : ofChunks (n + 1) f = ofChunks n f ++ f n := by
      unfold ofChunks
      rw [List.range_succ, List.flatMap_append]
      simp
    rw [e, ← h1, ← h2]
    unfold chunk
    rw [List.take_of_length_le (l := l.drop (32 * n)) (by simp; omega), List.take_append_drop]
theorem chunks_ext (l m : List UInt8) (n : Nat) (hl : l.length = 32 * n) (hm : m.length = 32 * n) (h : ∀ j, j < n → chunk l j = chunk m j) : l = m :=
  (chunks_eq l (chunk m) n hl h).trans (chunks_eq m (chunk m) n hm fun _ _ => rfl).symm
/-- What digests are made by. -/
structure Dg where
  of : List UInt8 → List UInt8
  mac : List UInt8 → List UInt8 → List UInt8
  lof : ∀ b, (of b).length = 32
  lmac : ∀ k b, (mac k b).length = 32
/-- The secret of a seed, a leaf, a bit, a value. -/
def secF (D : Dg) (seed : List UInt8) (leaf bit val : Nat) : List UInt8 := D.mac seed (textF 1 [digs leaf, digs bit, digs val])
def halfF (D : Dg) (s : List UInt8) : List UInt8 := D.of (textF 2 [s])
/-- A key's halves: of d's bits those of hl, of the other values those of ol. -/
def pairF (d hl ol : List UInt8) (j : Nat) : List UInt8 := if j % 2 = bitF d (j / 2) then chunk hl (j / 2) else chunk ol (j / 2)
def pairsF (d hl ol : List UInt8) : List (List UInt8) := (List.range 512).map (pairF d hl ol)
def leafF (D : Dg) (seed : List UInt8) (leaf j : Nat) : List UInt8 := halfF D (secF D seed leaf (j / 2) (j % 2))
def keyF9 (D : Dg) (seed : List UInt8) (leaf : Nat) : List UInt8 := D.of (textF 3 ((List.range 512).map (leafF D seed leaf)))
def signSF (D : Dg) (seed : List UInt8) (leaf : Nat) (d : List UInt8) (i : Nat) : List UInt8 := secF D seed leaf i (bitF d i)
def signOF (D : Dg) (seed : List UInt8) (leaf : Nat) (d : List UInt8) (i : Nat) : List UInt8 := halfF D (secF D seed leaf i (1 - bitF d i))
def signS (D : Dg) (seed : List UInt8) (leaf : Nat) (d : List UInt8) : List UInt8 := ofChunks 256 (signSF D seed leaf d)
def signO (D : Dg) (seed : List UInt8) (leaf : Nat) (d : List UInt8) : List UInt8 := ofChunks 256 (signOF D seed leaf d)
def halvesF (D : Dg) (S : List UInt8) : List UInt8 := ofChunks 256 fun i => halfF D (chunk S i)
def openF (D : Dg) (d S O : List UInt8) : List UInt8 := D.of (textF 3 (pairsF d (halvesF D S) O))
theorem len_halfF (D : Dg) (s : List UInt8) : (halfF D s).length = 32 := D.lof _
theorem len_secF (D : Dg) (seed : List UInt8) (leaf bit val : Nat) : (secF D seed leaf bit val).length = 32 := D.lmac _ _
theorem len_signS (D : Dg) (seed : List UInt8) (leaf : Nat) (d : List UInt8) : (signS D seed leaf d).length = 8192 := len_ofChunks _ 256 fun j _ => len_secF _ _ _ _ _
theorem len_signO (D : Dg) (seed : List UInt8) (leaf : Nat) (d : List UInt8) : (signO D seed leaf d).length = 8192 := len_ofChunks _ 256 fun j _ => len_halfF _ _
theorem len_halvesF (D : Dg) (S : List UInt8) : (halvesF D S).length = 8192 := len_ofChunks _ 256 fun j _ => len_halfF _ _
theorem pairF_two (d : List UInt8) (j : Nat) : j % 2 = bitF d (j / 2) ∨ j % 2 = 1 - bitF d (j / 2) := by
  have := bitF_lt d (j / 2)
  omega
/-- Open of what was signed is the key. -/
theorem open_sign (D : Dg) (seed : List UInt8) (leaf : Nat) (d hl : List UInt8) (hl2 : ∀ i, i < 256 → chunk hl i = halfF D (secF D seed leaf i (bitF d i))) :
    pairsF d hl (signO D seed leaf d) = (List.range 512).map (leafF D seed leaf) := by
  unfold pairsF
  apply List.map_congr_left
  intro j hj
  have hj2 := List.mem_range.1 hj
  unfold pairF leafF
  by_cases h : j % 2 = bitF d (j / 2)
  · rw [if_pos h, hl2 _ (by omega), h]
  · rw [if_neg h, signO, chunk_ofChunks (signOF D seed leaf d) 256 (fun j _ => len_halfF _ _) _ (by omega)]
    have := bitF_lt d (j / 2)
    rw [signOF, show 1 - bitF d (j / 2) = j % 2 from by omega]
theorem open_sign' (D : Dg) (seed : List UInt8) (leaf : Nat) (d : List UInt8) : openF D d (signS D seed leaf d) (signO D seed leaf d) = keyF9 D seed leaf := by
  unfold openF keyF9
  rw [open_sign D seed leaf d _]
  intro i hi
  unfold halvesF
  rw [chunk_ofChunks (fun i => halfF D (chunk (signS D seed leaf d) i)) 256 (fun j _ => len_halfF _ _) _ hi, signS, chunk_ofChunks (signSF D seed leaf d) 256 (fun j _ => len_secF _ _ _ _ _) _ hi, signSF]
end Go.Proofs.Ytcfjbllmaejiaaa

namespace Go.Proofs.Ytcfjbllmaejiaaa
open Go.RowKit
set_option linter.unusedVariables false

section
variable {w : World}
theorem i64_and1 (m : Nat) (h : m < 256) : bits .and .i64 (m : Int) 1 = ((m % 2 : Nat) : Int) := by
  have hx : m &&& 1 = m % 2 := Nat.and_one_is_mod m
  show IntKind.i64.wrap ((BitVec.ofInt 64 (m : Int) &&& BitVec.ofInt 64 ((1 : Nat) : Int)).toNat : Int) = _
  rw [BitVec.toNat_and, ofInt_u64 m (by omega), ofInt_u64 1 (by omega), hx]
  exact wrap_small _ (by omega) (by omega)
theorem bit_out (x : UInt8) (n : Nat) : bits .and .i64 (wrap64 ((x.toNat : Int) / 2 ^ n)) 1 = ((x.toNat / 2 ^ n % 2 : Nat) : Int) := by
  have h : x.toNat / 2 ^ n < 256 := Nat.lt_of_le_of_lt (Nat.div_le_self _ _) x.toNat_lt
  obtain ⟨m, hm⟩ : ∃ m, x.toNat / 2 ^ n = m := ⟨_, rfl⟩
  have e : ((x.toNat : Int) / 2 ^ n) = (m : Int) := by rw [← hm]; simp
  rw [hm] at h ⊢
  rw [e, show wrap64 (m : Int) = (m : Int) from by unfold wrap64; omega]
  exact i64_and1 _ h
end
end Go.Proofs.Ytcfjbllmaejiaaa

namespace Go.Proofs.Ytcfjbllmaejiaaa
open Go.RowKit
set_option linter.unusedVariables false

/-- An operation by its run equation. -/
theorem wpList_is {P : Program} {w : World} {ops : Array Oper} {rest : List Oper} {o : Oper} {a : Act} {Q : Exit → Act → World → Prop} {v : Value} (hg : o.guard = none) (hrun : (execOp a.eval o).run P w = .ok (.value v) w) (hK : wpList P ops Q rest (a.put o.dst v) w) : wpList P ops Q (o :: rest) a w := by
  refine wpList_plain hg fun K hK' => ?_
  unfold Oper.wp
  rw [hrun]
  exact hK' _ _ hK
/-- The place of an array's element. -/
theorem run_ixA {P : Program} {o : Oper} {a : Act} {w : World} {T e : TypeId} {m sz : Nat} (x y : Operand) (hop : o.op = .indexAddr T x y) (hT : P.underlying T = some (.array m e)) (hz : (P.info? e).map (·.size) = some sz) {g off k off' : Nat} {I : Int} (hx : a.eval x = .pointer (some ⟨g, off, none⟩)) (hy : a.eval y = .int .i64 I) (hI : I = (k : Int)) (hk : k < m) (ho : off + k * sz = off') : (execOp a.eval o).run P w = .ok (.value (.pointer (some ⟨g, off', none⟩))) w := by
  subst hI ho
  obtain ⟨i, hi, hsz⟩ := Option.map_eq_some_iff.1 hz
  unfold execOp
  simp [hop, hx, hy, Instr.indexAt, Instr.sureAddr, asIntOf, run_underlying hT, sizeOf, typeInfo, hi, hsz, hk, Addr.add, Sem.run_bind]
theorem sizeD : (Try.prog.info? 84).map (·.size) = some 32 := by kernel_rfl
theorem infoLB : (Try.prog.info? 62).map (fun i => (i.zero, i.size, i.bytes)) = some (some (.slice none 0 0), 1, 24) := by kernel_rfl
theorem len_zb (n : Nat) : (cb (List.replicate n 0)).length = n := by simp [cb]
/-- 'make([][]byte, 0, n)'. -/
theorem wpList_mk0LB {w : World} {ops : Array Oper} {rest : List Oper} {o : Oper} {a : Act} {Q : Exit → Act → World → Prop} (hg : o.guard = none) (l x : Operand) (hop : o.op = Op.makeSlice 149 l x)
    (n : Nat) (hl : a.eval l = .int .i64 0) (hx : a.eval x = .int .i64 (n : Int)) (hn : n ≤ 1099511627776)
    (hK : ∀ w', Fresh w.heap.size 62 w' (some ⟨w.heap.size, 0, none⟩) 0 n [] → Below w.heap.size w w' → wpList Try.prog ops Q rest (a.put o.dst (.slice (some ⟨w.heap.size, 0, none⟩) 0 n)) w') :
    wpList Try.prog ops Q (o :: rest) a w := by
  obtain ⟨i0, hi, hz0, hz1, hz2⟩ := info_parts infoLB
  refine wpList_make_own w hg l x 149 hop w.heap.size 62 i0 (.slice none 0 0) 1 Try.underlying149 hi hz0 hz1 .i64 .i64 (n : Int) n hl hx rfl (by rw [hz2]; omega) (by unfold maxLen; omega) (Nat.le_refl _) ?_
  intro w' h1 h2
  exact hK w' h1 ((Below.refl _ _).grown h2 (Nat.le_refl _) (by simp))
/-- The half k of a block of halves. -/
def pbF (g : Nat) (L : List UInt8) (k : Nat) : Pb := ⟨some ⟨g, 32 * k, none⟩, 32, 32, chunk L k⟩
theorem pbF_ok {w : World} {B g : Nat} {L : List UInt8} (h : Sees w w.heap.size (some ⟨g, 0, none⟩) (cb L)) (hL : L.length = 16384) (k : Nat) (hk : k < 512) : (pbF g L k).Ok w := by
  refine ⟨?_, len_chunk L k (by omega), Nat.le_refl _⟩
  have h1 := (h.drop_ (32 * k)).take_ 32
  rw [Nat.zero_add] at h1
  have e : ((cb L).drop (32 * k)).take 32 = cb (chunk L k) := by simp [cb, chunk, List.map_take, List.map_drop]
  rwa [e] at h1
section
variable {w : World}
end
/- PAIRED -/
def prA (gh ga k v : Nat) (hl : List UInt8) (j : Nat) (x : Value) (w : World) : Prop :=
  match j with
  | 0 => x = .int .i64 (k : Int)
  | 1 => x = .int .i64 (v : Int)
  | 2 => x = .int .i64 (k : Int)
  | 3 => x = .pointer (some ⟨gh, 32 * k, none⟩)
  | 4 => x = .agg (cb (chunk hl k)).toArray
  | 5 => x = .pointer (some ⟨ga, 64 * k, none⟩)
  | 6 => x = .pointer (some ⟨ga, 32 * (2 * k + v), none⟩)
  | _ => True
def prB (gh ga k v : Nat) (hl : List UInt8) (j : Nat) (x : Value) (w : World) : Prop :=
  match j with
  | 0 => x = .int .i64 (k : Int)
  | 1 => x = .int .i64 (v : Int)
  | 2 => x = .int .i64 (1 - (v : Int))
  | 3 => x = .int .i64 (k : Int)
  | 4 => x = .pointer (some ⟨gh, 32 * k, none⟩)
  | 5 => x = .agg (cb (chunk hl k)).toArray
  | 6 => x = .pointer (some ⟨ga, 64 * k, none⟩)
  | 7 => x = .pointer (some ⟨ga, 32 * (2 * k + (1 - v)), none⟩)
  | _ => True
theorem prA_stab (gh ga k v : Nat) (hl : List UInt8) : ∀ j x w w', Below w.heap.size w w' → prA gh ga k v hl j x w → prA gh ga k v hl j x w' := fun _ _ _ _ _ h => h
theorem prB_stab (gh ga k v : Nat) (hl : List UInt8) : ∀ j x w w', Below w.heap.size w w' → prB gh ga k v hl j x w → prB gh ga k v hl j x w' := fun _ _ _ _ _ h => h
def pairL (d hl ol : List UInt8) : List UInt8 := ofChunks 512 (pairF d hl ol)
theorem len_pairF (d hl ol : List UInt8) (h1 : hl.length = 8192) (h2 : ol.length = 8192) (j : Nat) (hj : j < 512) : (pairF d hl ol j).length = 32 := by
  unfold pairF
  split
  · exact len_chunk _ _ (by omega)
  · exact len_chunk _ _ (by omega)
theorem len_pairL (d hl ol : List UInt8) (h1 : hl.length = 8192) (h2 : ol.length = 8192) : (pairL d hl ol).length = 16384 := len_ofChunks _ 512 (len_pairF d hl ol h1 h2)
theorem chunks_pairL (d hl ol : List UInt8) (h1 : hl.length = 8192) (h2 : ol.length = 8192) : (List.range 512).map (chunk (pairL d hl ol)) = pairsF d hl ol := by
  unfold pairsF
  apply List.map_congr_left
  intro j hj
  exact chunk_ofChunks (pairF d hl ol) 512 (len_pairF d hl ol h1 h2) j (List.mem_range.1 hj)
theorem sees_chunk {w : World} {B g off : Nat} {L : List UInt8} (h : Sees w B (some ⟨g, 0, none⟩) (cb L)) (k : Nat) (ho : off = 32 * k) : Sees w B (some ⟨g, off, none⟩) (cb (chunk L k)) := by
  subst ho
  have h1 := (h.drop_ (32 * k)).take_ 32
  rw [Nat.zero_add] at h1
  have e : ((cb L).drop (32 * k)).take 32 = cb (chunk L k) := by simp [cb, chunk, List.map_take, List.map_drop]
  rwa [e] at h1
theorem splice_zb (n : Nat) (L : List UInt8) (h : L.length = n) : splice (cb (List.replicate n 0)) 0 (cb L) = cb L := by
  simp [splice, h]
section
variable {w : World}
end
end Go.Proofs.Ytcfjbllmaejiaaa

namespace Go.Proofs.Ytcfjbllmaejiaaa
open Go.RowKit
set_option linter.unusedVariables false

def textP (d hl ol : List UInt8) : List UInt8 := textF 3 (pairsF d hl ol)
theorem flat33 : ∀ (ls : List (List UInt8)), (∀ l ∈ ls, l.length = 32) → (ls.flatMap blob).length = 33 * ls.length
  | [], _ => rfl
  | l :: ls, h => by
    have h1 := h l List.mem_cons_self
    have h2 := flat33 ls (fun x hx => h x (List.mem_cons_of_mem _ hx))
    rw [List.flatMap_cons, List.length_append, h2, List.length_cons, blob, List.length_append, len_digs, h1, show nd 32 = 1 from by decide]
    omega
theorem pairsF_len (d hl ol : List UInt8) (h1 : hl.length = 8192) (h2 : ol.length = 8192) : ∀ l ∈ pairsF d hl ol, l.length = 32 := by
  intro l hl'
  obtain ⟨j, hj, rfl⟩ := List.mem_map.1 hl'
  exact len_pairF d hl ol h1 h2 j (List.mem_range.1 hj)
theorem len_textP (d hl ol : List UInt8) (h1 : hl.length = 8192) (h2 : ol.length = 8192) : (textP d hl ol).length = 16900 := by
  unfold textP textF
  rw [List.length_append, List.length_append, flat33 _ (pairsF_len d hl ol h1 h2), len_digs, pairsF, List.length_map, List.length_range, show nd 512 = 2 from by decide]
  simp
section
variable {w : World}
end
end Go.Proofs.Ytcfjbllmaejiaaa

namespace Go.Proofs.Ytcfjbllmaejiaaa
open Go.RowKit
set_option linter.unusedVariables false

def z32 : List UInt8 := List.replicate 32 0
def d128 : List UInt8 := 128 :: List.replicate 31 0
def zA : List UInt8 := List.replicate 8192 0
theorem run_bz (w : World) : (Instr.build 84 #[]).run Try.prog w = .ok (.agg (cb z32).toArray) w := run_build w _ _ _ (by kernel_rfl)
theorem run_b128 (w : World) : (Instr.build 84 #[(0, .int .u8 128)]).run Try.prog w = .ok (.agg (cb d128).toArray) w := run_build w _ _ _ (by kernel_rfl)
theorem head5 : ∀ (ls : List (List UInt8)), ls.length = 512 → (∀ l ∈ ls, l.length = 32) → (textF 3 ls).take 5 = [75, 3, 128, 4, 32]
  | [], h, _ => by simp at h
  | l :: ls, h, hl => by
    have h1 := hl l List.mem_cons_self
    unfold textF
    rw [h, show digs 512 = [128, 4] from by decide, List.flatMap_cons, blob, h1, show digs 32 = [32] from by decide]
    rfl
theorem wpList_bz {w : World} {ops : Array Oper} {rest : List Oper} {o : Oper} {a : Act} {Q : Exit → Act → World → Prop} {v : Value} (hg : o.guard = none) (hop : o.op = .build 84 #[]) (hrun : ∀ w, (Instr.build 84 #[]).run Try.prog w = .ok v w) (hK : wpList Try.prog ops Q rest (a.put o.dst v) w) : wpList Try.prog ops Q (o :: rest) a w := by
  refine wpList_is hg (v := v) ?_ hK
  simp only [execOp, hop]
  simp only [List.map_toArray, List.map_nil, Sem.run_bind]
  rw [hrun]
  rfl
theorem run_b1 {w : World} {o : Oper} {a : Act} {v : Value} (hop : o.op = .build 84 #[(0, .const (.int .u8 128))]) (hrun : ∀ w, (Instr.build 84 #[(0, .int .u8 128)]).run Try.prog w = .ok v w) : (execOp a.eval o).run Try.prog w = .ok (.value v) w := by
  simp only [execOp, hop]
  simp only [List.map_toArray, List.map_cons, List.map_nil, Act.eval, Sem.run_bind]
  rw [hrun]
  rfl
theorem Fresh.cut8 {w : World} {B n c : Nat} {e : TypeId} {A : Option Addr} {T : List UInt8} (h : Fresh B e w A n c (cb T)) (k : Nat) : Sees w w.heap.size A (cb (T.take k)) := by
  have h1 := h.sees.take_ k
  rwa [show (cb T).take k = cb (T.take k) from by simp [cb, List.map_take]] at h1
theorem elem8b : Try.prog.underlying 62 = some (.slice (Try.prog.elem 62)) := by kernel_rfl
theorem run_cut9 {w : World} (A : Option Addr) (n c k : Nat) (hk : k ≤ c) : (Instr.slice 62 (.slice A n c) none (some (.int .i64 (k : Int))) none).run Try.prog w = .ok (.slice A k c) w := by
  have hz : (sizeOf (Try.prog.elem 62)).run Try.prog w = .ok 1 w := by kernel_rfl
  rw [run_slice_h w 62 A n c elem8b .i64 (k : Int) (by omega) (by omega), hz]
  simp only [Result.andThen, sliced, Int.toNat_natCast, Nat.zero_mul, Nat.sub_zero]
  cases A <;> simp [Addr.add]
theorem zA_len : zA.length = 8192 := List.length_replicate
section
variable {w : World}
end
end Go.Proofs.Ytcfjbllmaejiaaa
