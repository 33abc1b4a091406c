/-
  The program's bits of digests, halves in pairs, keys' texts; the chapter's examples of layer 9.
-/
import Derived.Test.YtpdfalgjmeagjaaShaNat
import Derived.Test.YtpdfalgjmeagjaaTextF
import Derived.Test.YtpdfalgjmeagjaaText600
import Derived.Test.YtpdfalgjmeagjaaMacSame1
import Derived.Deep.CutBlock
namespace Go.Proofs.Ytpdfalgjmeagjaa
open Go.RowKit
set_option linter.unusedVariables false

/-- The bit i of a digest. -/
def bitF (d : List UInt8) (i : Nat) : Nat := (d.getD (i / 8) 0).toNat / 2 ^ (7 - i % 8) % 2
def bitI (d : List UInt8) (i : Int) : Nat := if 0 ≤ i ∧ i < 256 then bitF d i.toNat else 0
theorem bitF_lt (d : List UInt8) (i : Nat) : bitF d i < 2 := Nat.mod_lt _ (by decide)
theorem bitI_lt (d : List UInt8) (i : Int) : bitI d i < 2 := by
  unfold bitI
  split
  · exact bitF_lt _ _
  · decide
theorem bitI_nat (d : List UInt8) (i : Nat) (h : i < 256) : bitI d (i : Int) = bitF d i := by
  unfold bitI
  rw [if_pos (by omega)]
  simp
/-- The piece j of 32 bytes. -/
def chunk (l : List UInt8) (j : Nat) : List UInt8 := (l.drop (32 * j)).take 32
theorem len_chunk (l : List UInt8) (j : Nat) (h : 32 * j + 32 ≤ l.length) : (chunk l j).length = 32 := by
  simp only [chunk, List.length_take, List.length_drop]
  omega
theorem get_chunk (l : List UInt8) (j i : Nat) : (chunk l j)[i]? = if i < 32 then l[32 * j + i]? else none := by
  simp only [chunk, List.getElem?_take, List.getElem?_drop]
theorem get_splice8 (l p : List UInt8) (a i : Nat) (h : a + p.length ≤ l.length) : (splice l a p)[i]? = if i < a then l[i]? else if i < a + p.length then p[i - a]? else l[i]? := by
  unfold splice
  by_cases h1 : i < a
  · rw [if_pos h1, List.getElem?_append_left (by simp; omega), List.getElem?_take, if_pos h1]
  · rw [if_neg h1]
    by_cases h2 : i < a + p.length
    · rw [if_pos h2, List.getElem?_append_right (by simp; omega), List.getElem?_append_left (by simp; omega)]
      congr 1
      simp
      omega
    · rw [if_neg h2, List.getElem?_append_right (by simp; omega), List.getElem?_append_right (by simp; omega), List.getElem?_drop]
      congr 1
      simp
      omega
theorem chunk_splice (l p : List UInt8) (k j : Nat) (hp : p.length = 32) (hk : 32 * k + 32 ≤ l.length) : chunk (splice l (32 * k) p) j = if j = k then p else chunk l j := by
  apply List.ext_getElem?
  intro i
  rw [get_chunk]
  by_cases hi : i < 32
  · rw [if_pos hi, get_splice8 _ _ _ _ (by omega), hp]
    by_cases hj : j = k
    · subst hj
      rw [if_neg (by omega), if_pos (by omega), if_pos rfl, Nat.add_sub_cancel_left]
    · rw [if_neg hj, get_chunk, if_pos hi]
      by_cases h1 : 32 * j + i < 32 * k
      · rw [if_pos h1]
      · rw [if_neg h1, if_neg (by omega)]
  · rw [if_neg hi]
    by_cases hj : j = k
    · rw [if_pos hj]
      exact (List.getElem?_eq_none (by omega)).symm
    · rw [if_neg hj, get_chunk, if_neg hi]
theorem len_splice8 (l p : List UInt8) (a : Nat) (h : a + p.length ≤ l.length) : (splice l a p).length = l.length := by
  simp only [splice, List.length_append, List.length_take, List.length_drop]
  omega
theorem cb_splice (l p : List UInt8) (a : Nat) : splice (cb l) a (cb p) = cb (splice l a p) := by
  simp [splice, cb, List.map_take, List.map_drop]
/-- So many pieces, one behind the other. -/
def ofChunks (n : Nat) (f : Nat → List UInt8) : List UInt8 := (List.range n).flatMap f
theorem len_ofChunks (f : Nat → List UInt8) : ∀ n, (∀ j, j < n → (f j).length = 32) → (ofChunks n f).length = 32 * n
  | 0, _ => rfl
  | n + 1, h => by
    have := len_ofChunks f n (fun j hj => h j (by omega))
    unfold ofChunks at this ⊢
    rw [List.range_succ, List.flatMap_append, List.length_append, this]
    simp [h n (by omega)]
    omega
theorem chunk_ofChunks (f : Nat → List UInt8) : ∀ n, (∀ j, j < n → (f j).length = 32) → ∀ j, j < n → chunk (ofChunks n f) j = f j
  | 0, _, j, hj => by omega
  | n + 1, h, j, hj => by
    have hl := len_ofChunks f n (fun j hj => h j (by omega))
    have e : ofChunks (n + 1) f = ofChunks n f ++ f n := by
      unfold ofChunks
      rw [List.range_succ, List.flatMap_append]
      simp
    have hn := h n (by omega)
    rw [e]
    by_cases hj2 : j < n
    · rw [← chunk_ofChunks f n (fun j hj => h j (by omega)) j hj2]
      unfold chunk
      rw [List.drop_append_of_le_length (by omega), List.take_append_of_le_length (by simp; omega)]
    · obtain rfl : j = n := by omega
      unfold chunk
      rw [List.drop_append, hl, Nat.sub_self, List.drop_eq_nil_of_le (by omega), List.nil_append, List.drop_zero]
      exact List.take_of_length_le (by omega)
theorem chunks_eq (l : List UInt8) (f : Nat → List UInt8) : ∀ n, l.length = 32 * n → (∀ j, j < n → chunk l j = f j) → l = ofChunks n f := by
  intro n
  induction n generalizing l with
  | zero => intro hl _; exact List.eq_nil_of_length_eq_zero (by omega)
  | succ n ih =>
    intro hl h
    have h1 := ih (l.take (32 * n)) (by simp; omega) (fun j hj => by
      rw [← h j (by omega)]
      apply List.ext_getElem?
      intro i
      rw [get_chunk, get_chunk]
      split
      · rw [List.getElem?_take, if_pos (by omega)]
      · rfl)
    have h2 := h n (by omega)
    have e : ofChunks (n + 1) f = ofChunks n f ++ f n := by
      unfold ofChunks
      rw [List.range_succ, List.flatMap_append]
      simp
    rw [e, ← h1, ← h2]
    unfold chunk
    rw [List.take_of_length_le (l := l.drop (32 * n)) (by simp; omega), List.take_append_drop]
theorem chunks_ext (l m : List UInt8) (n : Nat) (hl : l.length = 32 * n) (hm : m.length = 32 * n) (h : ∀ j, j < n → chunk l j = chunk m j) : l = m :=
  (chunks_eq l (chunk m) n hl h).trans (chunks_eq m (chunk m) n hm fun _ _ => rfl).symm
/-- What digests are made by. -/
structure Dg where
  of : List UInt8 → List UInt8
  mac : List UInt8 → List UInt8 → List UInt8
  lof : ∀ b, (of b).length = 32
  lmac : ∀ k b, (mac k b).length = 32
/-- The secret of a seed, a leaf, a bit, a value. -/
def secF (D : Dg) (seed : List UInt8) (leaf bit val : Nat) : List UInt8 := D.mac seed (textF 1 [digs leaf, digs bit, digs val])
def halfF (D : Dg) (s : List UInt8) : List UInt8 := D.of (textF 2 [s])
/-- A key's halves: of d's bits those of hl, of the other values those of ol. -/
def pairF (d hl ol : List UInt8) (j : Nat) : List UInt8 := if j % 2 = bitF d (j / 2) then chunk hl (j / 2) else chunk ol (j / 2)
def pairsF (d hl ol : List UInt8) : List (List UInt8) := (List.range 512).map (pairF d hl ol)
def leafF (D : Dg) (seed : List UInt8) (leaf j : Nat) : List UInt8 := halfF D (secF D seed leaf (j / 2) (j % 2))
def keyF9 (D : Dg) (seed : List UInt8) (leaf : Nat) : List UInt8 := D.of (textF 3 ((List.range 512).map (leafF D seed leaf)))
def signSF (D : Dg) (seed : List UInt8) (leaf : Nat) (d : List UInt8) (i : Nat) : List UInt8 := secF D seed leaf i (bitF d i)
def signOF (D : Dg) (seed : List UInt8) (leaf : Nat) (d : List UInt8) (i : Nat) : List UInt8 := halfF D (secF D seed leaf i (1 - bitF d i))
def signS (D : Dg) (seed : List UInt8) (leaf : Nat) (d : List UInt8) : List UInt8 := ofChunks 256 (signSF D seed leaf d)
def signO (D : Dg) (seed : List UInt8) (leaf : Nat) (d : List UInt8) : List UInt8 := ofChunks 256 (signOF D seed leaf d)
def halvesF (D : Dg) (S : List UInt8) : List UInt8 := ofChunks 256 fun i => halfF D (chunk S i)
def openF (D : Dg) (d S O : List UInt8) : List UInt8 := D.of (textF 3 (pairsF d (halvesF D S) O))
theorem len_halfF (D : Dg) (s : List UInt8) : (halfF D s).length = 32 := D.lof _
theorem len_secF (D : Dg) (seed : List UInt8) (leaf bit val : Nat) : (secF D seed leaf bit val).length = 32 := D.lmac _ _
theorem len_signS (D : Dg) (seed : List UInt8) (leaf : Nat) (d : List UInt8) : (signS D seed leaf d).length = 8192 := len_ofChunks _ 256 fun j _ => len_secF _ _ _ _ _
theorem len_signO (D : Dg) (seed : List UInt8) (leaf : Nat) (d : List UInt8) : (signO D seed leaf d).length = 8192 := len_ofChunks _ 256 fun j _ => len_halfF _ _
theorem len_halvesF (D : Dg) (S : List UInt8) : (halvesF D S).length = 8192 := len_ofChunks _ 256 fun j _ => len_halfF _ _
theorem pairF_two (d : List UInt8) (j : Nat) : j % 2 = bitF d (j / 2) ∨ j % 2 = 1 - bitF d (j / 2) := by
  have := bitF_lt d (j / 2)
  omega
/-- Open of what was signed is the key. -/
theorem open_sign (D : Dg) (seed : List UInt8) (leaf : Nat) (d hl : List UInt8) (hl2 : ∀ i, i < 256 → chunk hl i = halfF D (secF D seed leaf i (bitF d i))) :
    pairsF d hl (signO D seed leaf d) = (List.range 512).map (leafF D seed leaf) := by
  unfold pairsF
  apply List.map_congr_left
  intro j hj
  have hj2 := List.mem_range.1 hj
  unfold pairF leafF
  by_cases h : j % 2 = bitF d (j / 2)
  · rw [if_pos h, hl2 _ (by omega), h]
  · rw [if_neg h, signO, chunk_ofChunks (signOF D seed leaf d) 256 (fun j _ => len_halfF _ _) _ (by omega)]
    have := bitF_lt d (j / 2)
    rw [signOF, show 1 - bitF d (j / 2) = j % 2 from by omega]
theorem open_sign' (D : Dg) (seed : List UInt8) (leaf : Nat) (d : List UInt8) : openF D d (signS D seed leaf d) (signO D seed leaf d) = keyF9 D seed leaf := by
  unfold openF keyF9
  rw [open_sign D seed leaf d _]
  intro i hi
  unfold halvesF
  rw [chunk_ofChunks (fun i => halfF D (chunk (signS D seed leaf d) i)) 256 (fun j _ => len_halfF _ _) _ hi, signS, chunk_ofChunks (signSF D seed leaf d) 256 (fun j _ => len_secF _ _ _ _ _) _ hi, signSF]
end Go.Proofs.Ytpdfalgjmeagjaa

namespace Go.Proofs.Ytpdfalgjmeagjaa
open Go.RowKit
set_option linter.unusedVariables false

section
variable {w : World}
theorem other_same (v : Int) (hv : v = 0 ∨ v = 1) : Calls Try.prog 161 #[.int .i64 v] w fun e w' => e = .returned (.int .i64 (1 - v)) ∧ w' = w := by
  rcases hv with rfl | rfl
  all_goals
    go_enter Try.func161, Try.ntmps161
    go_wp2
    go_ret
    exact ⟨rfl, rfl⟩
theorem i64_and1 (m : Nat) (h : m < 256) : bits .and .i64 (m : Int) 1 = ((m % 2 : Nat) : Int) := by
  have hx : m &&& 1 = m % 2 := Nat.and_one_is_mod m
  show IntKind.i64.wrap ((BitVec.ofInt 64 (m : Int) &&& BitVec.ofInt 64 ((1 : Nat) : Int)).toNat : Int) = _
  rw [BitVec.toNat_and, ofInt_u64 m (by omega), ofInt_u64 1 (by omega), hx]
  exact wrap_small _ (by omega) (by omega)
theorem bit_out (x : UInt8) (n : Nat) : bits .and .i64 (wrap64 ((x.toNat : Int) / 2 ^ n)) 1 = ((x.toNat / 2 ^ n % 2 : Nat) : Int) := by
  have h : x.toNat / 2 ^ n < 256 := Nat.lt_of_le_of_lt (Nat.div_le_self _ _) x.toNat_lt
  obtain ⟨m, hm⟩ : ∃ m, x.toNat / 2 ^ n = m := ⟨_, rfl⟩
  have e : ((x.toNat : Int) / 2 ^ n) = (m : Int) := by rw [← hm]; simp
  rw [hm] at h ⊢
  rw [e, show wrap64 (m : Int) = (m : Int) from by unfold wrap64; omega]
  exact i64_and1 _ h
set_option maxHeartbeats 1000000 in
theorem Bit_any (d : List UInt8) (i : Int) (hd : d.length = 32) :
    Calls Try.prog 160 #[.agg (cb d).toArray, .int .i64 i] w fun e w' => e = .returned (.int .i64 (bitI d i : Int)) ∧ Below w.heap.size w w' := by
  have HD := Lib.hid hd
  by_cases h : 0 ≤ i ∧ i < 256
  · obtain ⟨k, rfl⟩ := Int.eq_ofNat_of_zero_le h.1
    have hk : k < 256 := by omega
    rw [bitI_nat d k hk]
    obtain ⟨x, hx⟩ : ∃ x, d[k / 8]? = some x := ⟨d[k / 8]'(by omega), List.getElem?_eq_getElem (by omega)⟩
    have hb : bitF d k = x.toNat / 2 ^ (7 - k % 8) % 2 := by
      unfold bitF
      rw [List.getD_eq_getElem?_getD, hx]
      rfl
    rw [hb]
    have HX := Lib.hid hx
    clear hd hx hb
    go_enter Try.func160, Try.ntmps160
    go_wp2_with (with_reducible refine wpList_box (o := ⟨some 2, _, _, _, _, _⟩) rfl (.tmp 0) 38 rfl (cb d) rfl 32 (by simp [HD.out]) (by decide) ?_; intro gb w1 hgb hFb hBb; have hcell : w1.cell? ⟨gb, k / 8, none⟩ = some (.int .u8 (x.toNat : Int))  := hFb.cell_ (by simp [cb, HX.out]))
    go_ret
    exact ⟨ret_int (bit_out x _), hBb⟩
  · have hb : bitI d i = 0 := if_neg h
    rw [hb]
    clear hb
    rcases (by omega : i < 0 ∨ (0 ≤ i ∧ 256 ≤ i)) with h1 | ⟨h1, h2⟩
    all_goals
      go_enter Try.func160, Try.ntmps160
      go_wp2_with (with_reducible refine wpList_box (o := ⟨some 2, _, _, _, _, _⟩) rfl (.tmp 0) 38 rfl (cb d) rfl 32 (by simp [HD.out]) (by decide) ?_; intro gb w1 hgb hFb hBb)
      go_ret
      exact ⟨rfl, hBb⟩
end
end Go.Proofs.Ytpdfalgjmeagjaa

namespace Go.Proofs.Ytpdfalgjmeagjaa
open Go.RowKit
set_option linter.unusedVariables false

/-- An operation by its run equation. -/
theorem wpList_is {P : Program} {w : World} {ops : Array Oper} {rest : List Oper} {o : Oper} {a : Act} {Q : Exit → Act → World → Prop} {v : Value} (hg : o.guard = none) (hrun : (execOp a.eval o).run P w = .ok (.value v) w) (hK : wpList P ops Q rest (a.put o.dst v) w) : wpList P ops Q (o :: rest) a w := by
  refine wpList_plain hg fun K hK' => ?_
  unfold Oper.wp
  rw [hrun]
  exact hK' _ _ hK
/-- The place of an array's element. -/
theorem run_ixA {P : Program} {o : Oper} {a : Act} {w : World} {T e : TypeId} {m sz : Nat} (x y : Operand) (hop : o.op = .indexAddr T x y) (hT : P.underlying T = some (.array m e)) (hz : (P.info? e).map (·.size) = some sz) {g off k off' : Nat} {I : Int} (hx : a.eval x = .pointer (some ⟨g, off, none⟩)) (hy : a.eval y = .int .i64 I) (hI : I = (k : Int)) (hk : k < m) (ho : off + k * sz = off') : (execOp a.eval o).run P w = .ok (.value (.pointer (some ⟨g, off', none⟩))) w := by
  subst hI ho
  obtain ⟨i, hi, hsz⟩ := Option.map_eq_some_iff.1 hz
  unfold execOp
  simp [hop, hx, hy, Instr.indexAt, Instr.sureAddr, asIntOf, run_underlying hT, sizeOf, typeInfo, hi, hsz, hk, Addr.add, Sem.run_bind]
theorem arrP : Try.prog.underlying 229 = some (.array 256 227) := by kernel_rfl
theorem arr2 : Try.prog.underlying 227 = some (.array 2 38) := by kernel_rfl
theorem arrD : Try.prog.underlying 136 = some (.array 256 38) := by kernel_rfl
theorem size2D : (Try.prog.info? 227).map (·.size) = some 64 := by kernel_rfl
theorem sizeD : (Try.prog.info? 38).map (·.size) = some 32 := by kernel_rfl
theorem infoLB : (Try.prog.info? 27).map (fun i => (i.zero, i.size, i.bytes)) = some (some (.slice none 0 0), 1, 24) := by kernel_rfl
theorem len_zb (n : Nat) : (cb (List.replicate n 0)).length = n := by simp [cb]
/-- 'make([][]byte, 0, n)'. -/
theorem wpList_mk0LB {w : World} {ops : Array Oper} {rest : List Oper} {o : Oper} {a : Act} {Q : Exit → Act → World → Prop} (hg : o.guard = none) (l x : Operand) (hop : o.op = Op.makeSlice 48 l x)
    (n : Nat) (hl : a.eval l = .int .i64 0) (hx : a.eval x = .int .i64 (n : Int)) (hn : n ≤ 1099511627776)
    (hK : ∀ w', Fresh w.heap.size 27 w' (some ⟨w.heap.size, 0, none⟩) 0 n [] → Below w.heap.size w w' → wpList Try.prog ops Q rest (a.put o.dst (.slice (some ⟨w.heap.size, 0, none⟩) 0 n)) w') :
    wpList Try.prog ops Q (o :: rest) a w := by
  obtain ⟨i0, hi, hz0, hz1, hz2⟩ := info_parts infoLB
  refine wpList_make_own w hg l x 48 hop w.heap.size 27 i0 (.slice none 0 0) 1 Try.underlying48 hi hz0 hz1 .i64 .i64 (n : Int) n hl hx rfl (by rw [hz2]; omega) (by unfold maxLen; omega) (Nat.le_refl _) ?_
  intro w' h1 h2
  exact hK w' h1 ((Below.refl _ _).grown h2 (Nat.le_refl _) (by simp))
/-- The half k of a block of halves. -/
def pbF (g : Nat) (L : List UInt8) (k : Nat) : Pb := ⟨some ⟨g, 32 * k, none⟩, 32, 32, chunk L k⟩
theorem pbF_ok {w : World} {B g : Nat} {L : List UInt8} (h : Sees w w.heap.size (some ⟨g, 0, none⟩) (cb L)) (hL : L.length = 16384) (k : Nat) (hk : k < 512) : (pbF g L k).Ok w := by
  refine ⟨?_, len_chunk L k (by omega), Nat.le_refl _⟩
  have h1 := (h.drop_ (32 * k)).take_ 32
  rw [Nat.zero_add] at h1
  have e : ((cb L).drop (32 * k)).take 32 = cb (chunk L k) := by simp [cb, chunk, List.map_take, List.map_drop]
  rwa [e] at h1
section
variable {w : World}
set_option maxHeartbeats 2000000 in
set_option maxRecDepth 100000 in
theorem parts_any (g : Nat) (L : List UInt8) (hs : Sees w w.heap.size (some ⟨g, 0, none⟩) (cb L)) (hL : L.length = 16384) :
    Calls Try.prog 159 #[.pointer (some ⟨g, 0, none⟩)] w fun e w' => ∃ A c ps, e = .returned (.slice A 512 c) ∧ Parts w' A 512 ps ∧ ps.map Pb.l = (List.range 512).map (chunk L) ∧ (∀ p ∈ ps, p.m ≤ 300) ∧ Below w.heap.size w w' := by
  have HL := Lib.hid hL
  clear hL
  go_enter Try.func159, Try.ntmps159
  go_wp2_with (with_reducible refine wpList_mk0LB rfl _ _ rfl 512 rfl rfl (by decide) ?_; intro w1 hF1 hB1)
  go_loopw [3, 7] (fun v i wr => ∃ (k : Nat) (A : Option Addr) (c : Nat), k ≤ 256 ∧ i = .int .i64 (k : Int) ∧ v = .slice A (2 * k) c ∧ Fresh w.heap.size 27 wr A (2 * k) c ((List.range (2 * k)).map fun j => (pbF g L j).cell) ∧ Below w.heap.size w wr) (fun _ i _ => 256 - (intOf i).toNat)
  case atStart => exact ⟨0, _, 512, by omega, rfl, rfl, hF1, hB1⟩
  case round =>
    clear hF1 hB1
    obtain ⟨k, A, c, hk, rfl, rfl, hF, hB⟩ := hrel
    by_cases hlt : k < 256
    · have e8 : decide ((k : Int) < 256) = true := by simp; omega
      go_wp2
      clear e8
      go_loopw [3, 10] (fun v i wr => ∃ (m : Nat) (A : Option Addr) (c : Nat), m ≤ 2 ∧ i = .int .i64 (m : Int) ∧ v = .slice A (2 * k + m) c ∧ Fresh w.heap.size 27 wr A (2 * k + m) c ((List.range (2 * k + m)).map fun j => (pbF g L j).cell) ∧ Below w.heap.size w wr) (fun _ i _ => 2 - (intOf i).toNat)
      case atStart => exact ⟨0, A, c, by omega, rfl, rfl, hF, hB⟩
      case round =>
        clear hF hB
        obtain ⟨m, A, c, hm, rfl, rfl, hF, hB⟩ := hrel
        by_cases hlt2 : m < 2
        · have he : k * 64 + m * 32 = 32 * (2 * k + m) := by omega
          have HE := Lib.hid he
          have hba := below_alloc wr (.cells #[.slice (some ⟨g, k * 64 + m * 32, none⟩) 32 32] 27)
          have hcell : (wr.alloc (.cells #[.slice (some ⟨g, k * 64 + m * 32, none⟩) 32 32] 27)).cell? ⟨wr.heap.size, 0, none⟩ = some (.slice (some ⟨g, k * 64 + m * 32, none⟩) 32 32) := by
            rw [World.cell?_alloc_mark]; rfl
          clear he
          go_wp2_with (at_builtin; refine wpList_one rfl (.tmp 13) (.tmp 21) 48 27 (.slice none 0 0) 24 rfl Try.underlying48 (by kernel_rfl) rfl (by omega) A (2 * k + m) c wr.heap.size _ (.slice (some ⟨g, k * 64 + m * 32, none⟩) 32 32) w rfl rfl (hF.below hba) hcell rfl (by omega) (Below.then_ hB hba) ?_; intro A2 c2 w3 hF4 hB4 hgr)
          go_roundw
          case rel =>
            refine ⟨m + 1, A2, c2, by omega, by go_num, rfl, ?_, hB4⟩
            rw [HE.out] at hF4
            rw [show 2 * k + (m + 1) = (2 * k + m) + 1 from rfl, List.range_succ, List.map_append]
            exact hF4
          case measure => simp [intOf]; omega
        · obtain rfl : m = 2 := by omega
          go_wp2
          go_roundw
          case rel => exact ⟨k + 1, A, c, by omega, by go_num, rfl, hF, hB⟩
          case measure => simp [intOf]; omega
    · obtain rfl : k = 256 := by omega
      go_wp2
      go_ret
      refine ⟨A, c, (List.range 512).map (pbF g L), rfl, ⟨?_, by simp, ?_⟩, ?_, ?_, hB⟩
      · have := hF.sees
        simpa [List.map_map, Function.comp_def] using this
      · intro p hp
        obtain ⟨j, hj, rfl⟩ := List.mem_map.1 hp
        exact pbF_ok (B := 0) (hs.step hB) HL.out j (List.mem_range.1 hj)
      · simp [List.map_map, Function.comp_def, pbF]
      · intro p hp
        obtain ⟨j, hj, rfl⟩ := List.mem_map.1 hp
        simp [pbF]
end
/- PAIRED -/
def prA (gh ga k v : Nat) (hl : List UInt8) (j : Nat) (x : Value) (w : World) : Prop :=
  match j with
  | 0 => x = .int .i64 (k : Int)
  | 1 => x = .int .i64 (v : Int)
  | 2 => x = .int .i64 (k : Int)
  | 3 => x = .pointer (some ⟨gh, 32 * k, none⟩)
  | 4 => x = .agg (cb (chunk hl k)).toArray
  | 5 => x = .pointer (some ⟨ga, 64 * k, none⟩)
  | 6 => x = .pointer (some ⟨ga, 32 * (2 * k + v), none⟩)
  | _ => True
def prB (gh ga k v : Nat) (hl : List UInt8) (j : Nat) (x : Value) (w : World) : Prop :=
  match j with
  | 0 => x = .int .i64 (k : Int)
  | 1 => x = .int .i64 (v : Int)
  | 2 => x = .int .i64 (1 - (v : Int))
  | 3 => x = .int .i64 (k : Int)
  | 4 => x = .pointer (some ⟨gh, 32 * k, none⟩)
  | 5 => x = .agg (cb (chunk hl k)).toArray
  | 6 => x = .pointer (some ⟨ga, 64 * k, none⟩)
  | 7 => x = .pointer (some ⟨ga, 32 * (2 * k + (1 - v)), none⟩)
  | _ => True
theorem prA_stab (gh ga k v : Nat) (hl : List UInt8) : ∀ j x w w', Below w.heap.size w w' → prA gh ga k v hl j x w → prA gh ga k v hl j x w' := fun _ _ _ _ _ h => h
theorem prB_stab (gh ga k v : Nat) (hl : List UInt8) : ∀ j x w w', Below w.heap.size w w' → prB gh ga k v hl j x w → prB gh ga k v hl j x w' := fun _ _ _ _ _ h => h
def pairL (d hl ol : List UInt8) : List UInt8 := ofChunks 512 (pairF d hl ol)
theorem len_pairF (d hl ol : List UInt8) (h1 : hl.length = 8192) (h2 : ol.length = 8192) (j : Nat) (hj : j < 512) : (pairF d hl ol j).length = 32 := by
  unfold pairF
  split
  · exact len_chunk _ _ (by omega)
  · exact len_chunk _ _ (by omega)
theorem len_pairL (d hl ol : List UInt8) (h1 : hl.length = 8192) (h2 : ol.length = 8192) : (pairL d hl ol).length = 16384 := len_ofChunks _ 512 (len_pairF d hl ol h1 h2)
theorem chunks_pairL (d hl ol : List UInt8) (h1 : hl.length = 8192) (h2 : ol.length = 8192) : (List.range 512).map (chunk (pairL d hl ol)) = pairsF d hl ol := by
  unfold pairsF
  apply List.map_congr_left
  intro j hj
  exact chunk_ofChunks (pairF d hl ol) 512 (len_pairF d hl ol h1 h2) j (List.mem_range.1 hj)
theorem sees_chunk {w : World} {B g off : Nat} {L : List UInt8} (h : Sees w B (some ⟨g, 0, none⟩) (cb L)) (k : Nat) (ho : off = 32 * k) : Sees w B (some ⟨g, off, none⟩) (cb (chunk L k)) := by
  subst ho
  have h1 := (h.drop_ (32 * k)).take_ 32
  rw [Nat.zero_add] at h1
  have e : ((cb L).drop (32 * k)).take 32 = cb (chunk L k) := by simp [cb, chunk, List.map_take, List.map_drop]
  rwa [e] at h1
theorem splice_zb (n : Nat) (L : List UInt8) (h : L.length = n) : splice (cb (List.replicate n 0)) 0 (cb L) = cb L := by
  simp [splice, h]
section
variable {w : World}
set_option maxHeartbeats 4000000 in
set_option maxRecDepth 100000 in
theorem paired_any (d hl ol : List UInt8) (hd : d.length = 32) (h1 : hl.length = 8192) (h2 : ol.length = 8192) :
    Calls Try.prog 162 #[.agg (cb d).toArray, .agg (cb hl).toArray, .agg (cb ol).toArray] w fun e w' => e = .returned (.agg (cb (pairL d hl ol)).toArray) ∧ Below w.heap.size w w' := by
  have HD := Lib.hid hd
  have H1 := Lib.hid h1
  have H2 := Lib.hid h2
  clear hd h1 h2
  go_enter Try.func162, Try.ntmps162
  go_wp2_with (first
    | (with_reducible refine wpList_box (o := ⟨some 3, _, _, _, _, _⟩) rfl (.tmp 0) 38 rfl (cb d) rfl 32 (by rw [List.length_map]; exact HD.out) (by decide) ?_; intro gd w1 hgd hFd hBd)
    | (with_reducible refine wpList_box (o := ⟨some 4, _, _, _, _, _⟩) rfl (.tmp 1) 136 rfl (cb hl) rfl 8192 (by rw [List.length_map]; exact H1.out) (by decide) ?_; intro gh w2 hgh hFh hBh)
    | (with_reducible refine wpList_box (o := ⟨some 5, _, _, _, _, _⟩) rfl (.tmp 2) 136 rfl (cb ol) rfl 8192 (by rw [List.length_map]; exact H2.out) (by decide) ?_; intro go w3 hgo hFo hBo)
    | (with_reducible refine wpList_alloc (o := ⟨some 6, _, _, _, _, _⟩) rfl 229 rfl (cb (List.replicate 16384 0)) (by kernel_rfl) 16384 (len_zb 16384) (by decide) ?_; intro gr w4 hgr hFr hBr)
    | (with_reducible refine wpList_alloc (o := ⟨some 7, _, _, _, _, _⟩) rfl 229 rfl (cb (List.replicate 16384 0)) (by kernel_rfl) 16384 (len_zb 16384) (by decide) ?_; intro ga w5 hga hFa hBa))
  have z1 := hBd.size
  have z2 := hBh.size
  have z3 := hBo.size
  have z4 := hBr.size
  have lr := hFr.lt_size
  have la := hFa.lt_size
  have ld := hFd.lt_size
  have lh := hFh.lt_size
  have lo := hFo.lt_size
  have qh := hFh.block.2
  have qo := hFo.block.2
  have qr := hFr.block.2
  have qa := hFa.block.2
  have hB5 := Below.then_ (Below.then_ (Below.then_ (Below.then_ hBd hBh) hBo) hBr) hBa
  have fd := (((hFd.below hBh).below hBo).below hBr).below hBa
  have fh := (((hFh.below hBo).below hBr).below hBa).lower (base' := w.heap.size) (by omega)
  have fo := ((hFo.below hBr).below hBa).lower (base' := w.heap.size) (by omega)
  have fr := (hFr.below hBa).lower (base' := w.heap.size) (by omega)
  have fa := hFa.lower (base' := w.heap.size) (by omega)
  have n1 : gh ≠ ga := by omega
  have n2 : go ≠ ga := by omega
  have n3 : gr ≠ ga := by omega
  have n4 : gd ≠ ga := by omega
  have hga2 : w.heap.size ≤ ga := by omega
  have hgr2 : w.heap.size ≤ gr := by omega
  clear hFd hFh hFo hFr hFa hBd hBh hBo hBr hBa z1 z2 z3 z4 lr la ld lh lo qh qo qr qa hgd hgh hgo hgr hga
  go_loopw [10] (fun i wr => ∃ (k : Nat) (L : List UInt8), k ≤ 256 ∧ i = .int .i64 (k : Int) ∧ Hid (L.length = 16384) ∧ Hid (∀ j, j < 2 * k → chunk L j = pairF d hl ol j) ∧ Fresh w.heap.size 38 wr (some ⟨gd, 0, none⟩) 32 32 (cb d) ∧ Fresh w.heap.size 136 wr (some ⟨gh, 0, none⟩) 8192 8192 (cb hl) ∧ Fresh w.heap.size 136 wr (some ⟨go, 0, none⟩) 8192 8192 (cb ol) ∧ Fresh w.heap.size 229 wr (some ⟨ga, 0, none⟩) 16384 16384 (cb L) ∧ Fresh w.heap.size 229 wr (some ⟨gr, 0, none⟩) 16384 16384 (cb (List.replicate 16384 0)) ∧ Below w.heap.size w wr) (fun i _ => 256 - (intOf i).toNat)
  case atStart => exact ⟨0, _, by omega, rfl, Lib.hid List.length_replicate, Lib.hid (fun j hj => by omega), fd, fh, fo, fa, fr, hB5⟩
  case round =>
    clear fd fh fo fr fa hB5
    obtain ⟨k, L, hk, rfl, HL, HC, fd, fh, fo, fa, fr, hB⟩ := hrel
    by_cases hlt : k < 256
    · have hbit := Bit_any (w := wr) d (k : Int) HD.out
      rw [bitI_nat d k hlt] at hbit
      have hv2 := bitF_lt d k
      obtain ⟨v, hv⟩ : ∃ v, bitF d k = v := ⟨_, rfl⟩
      rw [hv] at hbit hv2
      have HV := Lib.hid hv
      clear hv
      go_wp2_with (first
        | (with_reducible refine wpList_load (o := ⟨some 13, _, _, _, _, _⟩) rfl (.tmp 3) 38 rfl gd 0 _ rfl (cb d) 32 (by rw [List.length_map]; exact HD.out) (by kernel_rfl) fd.sees ?_)
        | (go_at_call 160; refine hbit.mono ?_; rintro e w6 ⟨rfl, hB6⟩))
      have hBw := Below.then_ hB hB6
      have fd6 := fd.below hB6
      have fh6 := fh.below hB6
      have fo6 := fo.below hB6
      have fa6 := fa.below hB6
      have fr6 := fr.below hB6
      clear fd fh fo fa fr hB hbit hB6
      refine region_all_tail 7 (prA gh ga k v hl) (by kernel_rfl) (by kernel_rfl) (by kernel_rfl) (prA_stab _ _ _ _ _) ?_ ?_
      · intro w0 hb0
        simp only [List.take_succ_cons, List.take_zero]
        refine ⟨?_, ?_, ?_, ?_, ?_, ?_, ?_, trivial⟩
        all_goals intro listed a1 w' hk1 hd1
        · have f8_ : a1.eval (.tmp 8) = .int .i64 (k : Int) := hk1.ev_old 8 (by kernel_rfl)
          have g8_ : a1.tmps[8]?.getD undef = .int .i64 (k : Int) := by simpa [Act.eval] using f8_
          exact stepOk_value rfl (v := .int .i64 (k : Int)) (by go_simp) rfl
        · have f9_ : a1.eval (.tmp 9) = .int .i64 (v : Int) := hk1.ev_old 9 (by kernel_rfl)
          have g9_ : a1.tmps[9]?.getD undef = .int .i64 (v : Int) := by simpa [Act.eval] using f9_
          exact stepOk_value rfl (v := .int .i64 (v : Int)) (by go_simp) rfl
        · have f8_ : a1.eval (.tmp 8) = .int .i64 (k : Int) := hk1.ev_old 8 (by kernel_rfl)
          have g8_ : a1.tmps[8]?.getD undef = .int .i64 (k : Int) := by simpa [Act.eval] using f8_
          exact stepOk_value rfl (v := .int .i64 (k : Int)) (by go_simp) rfl
        · obtain ⟨y2, e2, q2, rfl⟩ := hk1.ev_new hd1 2 18 (by kernel_rfl) rfl
          exact stepOk_value rfl (run_ixA (.tmp 4) (.tmp 18) rfl arrD sizeD (hk1.ev_old 4 (by kernel_rfl)) e2 rfl (by omega) (by omega)) rfl
        · obtain ⟨y3, e3, q3, rfl⟩ := hk1.ev_new hd1 3 19 (by kernel_rfl) rfl
          exact stepOk_value rfl (run_load_agg (.tmp 19) 38 rfl e3 (cb (chunk hl k)) 32 (by rw [List.length_map]; exact len_chunk hl k (by rw [H1.out]; omega)) (by kernel_rfl) (sees_chunk ((fh6.below hb0).below hk1.below).sees k rfl)) rfl
        · obtain ⟨y0, e0, q0, rfl⟩ := hk1.ev_new hd1 0 16 (by kernel_rfl) rfl
          exact stepOk_value rfl (run_ixA (.tmp 7) (.tmp 16) rfl arrP size2D (hk1.ev_old 7 (by kernel_rfl)) e0 rfl (by omega) (by omega)) rfl
        · obtain ⟨y5, e5, q5, rfl⟩ := hk1.ev_new hd1 5 21 (by kernel_rfl) rfl
          obtain ⟨y1, e1, q1, rfl⟩ := hk1.ev_new hd1 1 17 (by kernel_rfl) rfl
          exact stepOk_value rfl (run_ixA (.tmp 21) (.tmp 17) rfl arr2 sizeD e5 e1 rfl (by omega) (by omega)) rfl
      · intro a1 w7 hb7 hp
        obtain ⟨x0, p0, x1, p1, x2, p2, x3, p3, x4, p4, x5, p5, x6, p6, rfl⟩ := hp
        simp only [prA] at p0 p1 p2 p3 p4 p5 p6
        subst p0 p1 p2 p3 p4 p5 p6
        simp only [List.drop_succ_cons, List.drop_zero, Act.put, List.setIfInBounds_toArray, List.set_cons_succ, List.set_cons_zero]
        have hC : Hid ((chunk hl k).length = 32) := Lib.hid (len_chunk hl k (by rw [H1.out]; omega))
        have hC2 : Hid ((chunk ol k).length = 32) := Lib.hid (len_chunk ol k (by rw [H2.out]; omega))
        have hBw7 := Below.then_ hBw hb7
        go_wp2_with (with_reducible refine wpList_store rfl rfl (.tmp 22) (.tmp 20) 38 rfl ga (32 * (2 * k + v)) w.heap.size 229 16384 (cb L) (cb (chunk hl k)) rfl rfl 32 (by rw [List.length_map]; exact hC.out) (by kernel_rfl) (fa6.below hb7) (by omega) (cb_one _) w hBw7 hga2 ?_; intro w8 f8 hB8 ho8 hz8)
        rw [cb_splice] at f8
        have fd8 := (fd6.below hb7).other n4 ho8
        have fh8 := (fh6.below hb7).other n1 ho8
        have fo8 := (fo6.below hb7).other n2 ho8
        have fr8 := (fr6.below hb7).other n3 ho8
        clear fd6 fh6 fo6 fr6 fa6 hBw7 ho8 hz8 hb7 hBw
        refine region_all_tail 8 (prB go ga k v ol) (by kernel_rfl) (by kernel_rfl) (by kernel_rfl) (prB_stab _ _ _ _ _) ?_ ?_
        · intro w0 hb0
          simp only [List.take_succ_cons, List.take_zero]
          refine ⟨?_, ?_, ?_, ?_, ?_, ?_, ?_, ?_, trivial⟩
          all_goals intro listed a1 w' hk1 hd1
          · have f8_ : a1.eval (.tmp 8) = .int .i64 (k : Int) := hk1.ev_old 8 (by kernel_rfl)
            have g8_ : a1.tmps[8]?.getD undef = .int .i64 (k : Int) := by simpa [Act.eval] using f8_
            exact stepOk_value rfl (v := .int .i64 (k : Int)) (by go_simp) rfl
          · have f9_ : a1.eval (.tmp 9) = .int .i64 (v : Int) := hk1.ev_old 9 (by kernel_rfl)
            have g9_ : a1.tmps[9]?.getD undef = .int .i64 (v : Int) := by simpa [Act.eval] using f9_
            exact stepOk_value rfl (v := .int .i64 (v : Int)) (by go_simp) rfl
          · obtain ⟨y1, e1, q1, rfl⟩ := hk1.ev_new hd1 1 24 (by kernel_rfl) rfl
            refine stepOk_enter rfl (f := 161) (args := #[.int .i64 (v : Int)]) (by go_simp) ?_
            refine (other_same (w := w') (v : Int) (by omega)).mono ?_
            rintro e w5 ⟨rfl, rfl⟩
            exact ⟨_, rfl, rfl, Below.refl _ _⟩
          · have f8_ : a1.eval (.tmp 8) = .int .i64 (k : Int) := hk1.ev_old 8 (by kernel_rfl)
            have g8_ : a1.tmps[8]?.getD undef = .int .i64 (k : Int) := by simpa [Act.eval] using f8_
            exact stepOk_value rfl (v := .int .i64 (k : Int)) (by go_simp) rfl
          · obtain ⟨y3, e3, q3, rfl⟩ := hk1.ev_new hd1 3 26 (by kernel_rfl) rfl
            exact stepOk_value rfl (run_ixA (.tmp 5) (.tmp 26) rfl arrD sizeD (hk1.ev_old 5 (by kernel_rfl)) e3 rfl (by omega) (by omega)) rfl
          · obtain ⟨y4, e4, q4, rfl⟩ := hk1.ev_new hd1 4 27 (by kernel_rfl) rfl
            exact stepOk_value rfl (run_load_agg (.tmp 27) 38 rfl e4 (cb (chunk ol k)) 32 (by rw [List.length_map]; exact hC2.out) (by kernel_rfl) (sees_chunk ((fo8.below hb0).below hk1.below).sees k rfl)) rfl
          · obtain ⟨y0, e0, q0, rfl⟩ := hk1.ev_new hd1 0 23 (by kernel_rfl) rfl
            exact stepOk_value rfl (run_ixA (.tmp 7) (.tmp 23) rfl arrP size2D (hk1.ev_old 7 (by kernel_rfl)) e0 rfl (by omega) (by omega)) rfl
          · obtain ⟨y6, e6, q6, rfl⟩ := hk1.ev_new hd1 6 29 (by kernel_rfl) rfl
            obtain ⟨y2, e2, q2, rfl⟩ := hk1.ev_new hd1 2 25 (by kernel_rfl) rfl
            exact stepOk_value rfl (run_ixA (k := 1 - v) (.tmp 29) (.tmp 25) rfl arr2 sizeD e6 e2 (by omega) (by omega) (by omega)) rfl
        · intro a1 w9 hb9 hp
          obtain ⟨x0, p0, x1, p1, x2, p2, x3, p3, x4, p4, x5, p5, x6, p6, x7, p7, rfl⟩ := hp
          simp only [prB] at p0 p1 p2 p3 p4 p5 p6 p7
          subst p0 p1 p2 p3 p4 p5 p6 p7
          simp only [List.drop_succ_cons, List.drop_zero, Act.put, List.setIfInBounds_toArray, List.set_cons_succ, List.set_cons_zero]
          have hBw9 := Below.then_ hB8 hb9
          go_wp2_with (with_reducible refine wpList_store rfl rfl (.tmp 30) (.tmp 28) 38 rfl ga (32 * (2 * k + (1 - v))) w.heap.size 229 16384 (cb (splice L (32 * (2 * k + v)) (chunk hl k))) (cb (chunk ol k)) rfl rfl 32 (by rw [List.length_map]; exact hC2.out) (by kernel_rfl) (f8.below hb9) (by omega) (cb_one _) w hBw9 hga2 ?_; intro w10 f10 hB10 ho10 hz10)
          rw [cb_splice] at f10
          go_roundw
          case rel =>
            have l1 : (splice L (32 * (2 * k + v)) (chunk hl k)).length = 16384 := by rw [len_splice8 _ _ _ (by rw [hC.out, HL.out]; omega), HL.out]
            refine ⟨k + 1, _, by omega, by go_num, Lib.hid ?_, Lib.hid ?_, (fd8.below hb9).other n4 ho10, (fh8.below hb9).other n1 ho10, (fo8.below hb9).other n2 ho10, f10, (fr8.below hb9).other n3 ho10, hB10⟩
            · rw [len_splice8 _ _ _ (by rw [hC2.out, l1]; omega), l1]
            · intro j hj
              rw [chunk_splice _ _ _ _ hC2.out (by rw [l1]; omega), chunk_splice _ _ _ _ hC.out (by rw [HL.out]; omega)]
              have hvv := HV.out
              by_cases j1 : j = 2 * k + (1 - v)
              · rw [if_pos j1]
                unfold pairF
                rw [show j / 2 = k from by omega, hvv, if_neg (by omega)]
              · rw [if_neg j1]
                by_cases j2 : j = 2 * k + v
                · rw [if_pos j2]
                  unfold pairF
                  rw [show j / 2 = k from by omega, hvv, if_pos (by omega)]
                · rw [if_neg j2]
                  exact HC.out j (by omega)
          case measure => simp [intOf]; omega
    · obtain rfl : k = 256 := by omega
      have e : L = pairL d hl ol := chunks_eq L (pairF d hl ol) 512 HL.out HC.out
      have HE := Lib.hid e
      have hHL : Hid ((cb L).length = 16384) := Lib.hid (by rw [List.length_map]; exact HL.out)
      have hsp := splice_zb 16384 L HL.out
      have HSP := Lib.hid hsp
      clear e hsp
      go_wp2_with (first
        | (with_reducible refine wpList_load rfl (.tmp 7) 229 rfl ga 0 _ rfl (cb L) 16384 hHL.out (by kernel_rfl) fa.sees ?_)
        | (with_reducible refine wpList_store rfl rfl (.tmp 6) (.tmp 32) 229 rfl gr 0 w.heap.size 229 16384 (cb (List.replicate 16384 0)) (cb L) rfl rfl 16384 hHL.out (by kernel_rfl) fr (by omega) (cb_one _) w hB hgr2 ?_; intro w9 f9 hB9 _ _))
      rw [HSP.out] at f9
      exact bodyPost_cell rfl rfl (cb L) 16384 hHL.out (by kernel_rfl) f9.sees rfl ⟨by rw [HE.out], hB9⟩
end
end Go.Proofs.Ytpdfalgjmeagjaa

namespace Go.Proofs.Ytpdfalgjmeagjaa
open Go.RowKit
set_option linter.unusedVariables false

def textP (d hl ol : List UInt8) : List UInt8 := textF 3 (pairsF d hl ol)
theorem flat33 : ∀ (ls : List (List UInt8)), (∀ l ∈ ls, l.length = 32) → (ls.flatMap blob).length = 33 * ls.length
  | [], _ => rfl
  | l :: ls, h => by
    have h1 := h l List.mem_cons_self
    have h2 := flat33 ls (fun x hx => h x (List.mem_cons_of_mem _ hx))
    rw [List.flatMap_cons, List.length_append, h2, List.length_cons, blob, List.length_append, len_digs, h1, show nd 32 = 1 from by decide]
    omega
theorem pairsF_len (d hl ol : List UInt8) (h1 : hl.length = 8192) (h2 : ol.length = 8192) : ∀ l ∈ pairsF d hl ol, l.length = 32 := by
  intro l hl'
  obtain ⟨j, hj, rfl⟩ := List.mem_map.1 hl'
  exact len_pairF d hl ol h1 h2 j (List.mem_range.1 hj)
theorem len_textP (d hl ol : List UInt8) (h1 : hl.length = 8192) (h2 : ol.length = 8192) : (textP d hl ol).length = 16900 := by
  unfold textP textF
  rw [List.length_append, List.length_append, flat33 _ (pairsF_len d hl ol h1 h2), len_digs, pairsF, List.length_map, List.length_range, show nd 512 = 2 from by decide]
  simp
section
variable {w : World}
set_option maxHeartbeats 2000000 in
set_option maxRecDepth 100000 in
theorem LText_any (d hl ol : List UInt8) (hd : d.length = 32) (h1 : hl.length = 8192) (h2 : ol.length = 8192) :
    Calls Try.prog 80 #[.agg (cb d).toArray, .agg (cb hl).toArray, .agg (cb ol).toArray] w (Made8 w 16900 (textP d hl ol)) := by
  have HD := Lib.hid hd
  have H1 := Lib.hid h1
  have H2 := Lib.hid h2
  have HLP : Hid ((cb (pairL d hl ol)).length = 16384) := Lib.hid (by rw [List.length_map]; exact len_pairL d hl ol h1 h2)
  have HLP2 := Lib.hid (len_pairL d hl ol h1 h2)
  have HT := Lib.hid (len_textP d hl ol h1 h2)
  have HCP := Lib.hid (chunks_pairL d hl ol h1 h2)
  have hpr := fun w' => paired_any (w := w') d hl ol hd h1 h2
  obtain ⟨X, hX⟩ : ∃ X, pairL d hl ol = X := ⟨_, rfl⟩
  rw [hX] at HLP HLP2 HCP hpr
  have HSP := Lib.hid (splice_zb 16384 X HLP2.out)
  clear hd h1 h2 hX
  go_enter Try.func80, Try.ntmps80
  go_wp2_with (first
    | (with_reducible refine wpList_box (o := ⟨some 3, _, _, _, _, _⟩) rfl (.tmp 0) 38 rfl (cb d) rfl 32 (by rw [List.length_map]; exact HD.out) (by decide) ?_; intro gd w1 hgd hFd hBd)
    | (with_reducible refine wpList_box (o := ⟨some 4, _, _, _, _, _⟩) rfl (.tmp 1) 136 rfl (cb hl) rfl 8192 (by rw [List.length_map]; exact H1.out) (by decide) ?_; intro gh w2 hgh hFh hBh)
    | (with_reducible refine wpList_box (o := ⟨some 5, _, _, _, _, _⟩) rfl (.tmp 2) 136 rfl (cb ol) rfl 8192 (by rw [List.length_map]; exact H2.out) (by decide) ?_; intro go w3 hgo hFo hBo)
    | (with_reducible refine wpList_load (o := ⟨some 8, _, _, _, _, _⟩) rfl (.tmp 3) 38 rfl gd 0 _ rfl (cb d) 32 (by rw [List.length_map]; exact HD.out) (by kernel_rfl) ((hFd.below hBh).below hBo).sees ?_)
    | (with_reducible refine wpList_load (o := ⟨some 9, _, _, _, _, _⟩) rfl (.tmp 4) 136 rfl gh 0 _ rfl (cb hl) 8192 (by rw [List.length_map]; exact H1.out) (by kernel_rfl) (hFh.below hBo).sees ?_)
    | (with_reducible refine wpList_load (o := ⟨some 10, _, _, _, _, _⟩) rfl (.tmp 5) 136 rfl go 0 _ rfl (cb ol) 8192 (by rw [List.length_map]; exact H2.out) (by kernel_rfl) hFo.sees ?_)
    | (go_at_call 162; refine (hpr _).mono ?_; rintro e w4 ⟨rfl, hB4⟩; have hBw := Below.then_ (Below.then_ (Below.then_ hBd hBh) hBo) hB4; have hzw := hBw.size)
    | (with_reducible refine wpList_alloc (o := ⟨some 7, _, _, _, _, _⟩) rfl 229 rfl (cb (List.replicate 16384 0)) (by kernel_rfl) 16384 (len_zb 16384) (by decide) ?_; intro ga w5 hga hFa hBa; have hBw5 := Below.then_ hBw hBa)
    | (with_reducible refine wpList_store rfl rfl (.tmp 7) (.tmp 11) 229 rfl ga 0 w4.heap.size 229 16384 (cb (List.replicate 16384 0)) (cb X) rfl rfl 16384 HLP.out (by kernel_rfl) hFa (by omega) (cb_one _) w hBw5 (by omega) ?_; intro w6 f6 hB6 _ _; rw [HSP.out] at f6)
    | (go_at_call 159; refine (parts_any ga X f6.sees HLP2.out).mono ?_; rintro e w7 ⟨A7, c7, ps, rfl, hP, hls, hm, hB7⟩; rw [HCP.out] at hls; have hBw7 := Below.then_ hB6 hB7)
    | (go_at_call 26; refine (Text_600 3 A7 512 c7 16900 ps (pairsF d hl ol) hP hls (by omega) hm HT.out).mono ?_; rintro e w8 ⟨A8, c8, rfl, hF8, hB8⟩))
  go_ret
  exact ⟨A8, c8, rfl, hF8.lower hBw7.size, Below.then_ hBw7 hB8⟩
end
end Go.Proofs.Ytpdfalgjmeagjaa

namespace Go.Proofs.Ytpdfalgjmeagjaa
open Go.RowKit
set_option linter.unusedVariables false

def z32 : List UInt8 := List.replicate 32 0
def d128 : List UInt8 := 128 :: List.replicate 31 0
def zA : List UInt8 := List.replicate 8192 0
theorem run_bz (w : World) : (Instr.build 38 #[]).run Try.prog w = .ok (.agg (cb z32).toArray) w := run_build w _ _ _ (by kernel_rfl)
theorem run_b128 (w : World) : (Instr.build 38 #[(0, .int .u8 128)]).run Try.prog w = .ok (.agg (cb d128).toArray) w := run_build w _ _ _ (by kernel_rfl)
theorem head5 : ∀ (ls : List (List UInt8)), ls.length = 512 → (∀ l ∈ ls, l.length = 32) → (textF 3 ls).take 5 = [75, 3, 128, 4, 32]
  | [], h, _ => by simp at h
  | l :: ls, h, hl => by
    have h1 := hl l List.mem_cons_self
    unfold textF
    rw [h, show digs 512 = [128, 4] from by decide, List.flatMap_cons, blob, h1, show digs 32 = [32] from by decide]
    rfl
theorem wpList_bz {w : World} {ops : Array Oper} {rest : List Oper} {o : Oper} {a : Act} {Q : Exit → Act → World → Prop} {v : Value} (hg : o.guard = none) (hop : o.op = .build 38 #[]) (hrun : ∀ w, (Instr.build 38 #[]).run Try.prog w = .ok v w) (hK : wpList Try.prog ops Q rest (a.put o.dst v) w) : wpList Try.prog ops Q (o :: rest) a w := by
  refine wpList_is hg (v := v) ?_ hK
  simp only [execOp, hop]
  simp only [List.map_toArray, List.map_nil, Sem.run_bind]
  rw [hrun]
  rfl
theorem run_b1 {w : World} {o : Oper} {a : Act} {v : Value} (hop : o.op = .build 38 #[(0, .const (.int .u8 128))]) (hrun : ∀ w, (Instr.build 38 #[(0, .int .u8 128)]).run Try.prog w = .ok v w) : (execOp a.eval o).run Try.prog w = .ok (.value v) w := by
  simp only [execOp, hop]
  simp only [List.map_toArray, List.map_cons, List.map_nil, Act.eval, Sem.run_bind]
  rw [hrun]
  rfl
theorem Fresh.cut8 {w : World} {B n c : Nat} {e : TypeId} {A : Option Addr} {T : List UInt8} (h : Fresh B e w A n c (cb T)) (k : Nat) : Sees w w.heap.size A (cb (T.take k)) := by
  have h1 := h.sees.take_ k
  rwa [show (cb T).take k = cb (T.take k) from by simp [cb, List.map_take]] at h1
theorem elem8b : Try.prog.underlying 27 = some (.slice (Try.prog.elem 27)) := by kernel_rfl
theorem run_cut9 {w : World} (A : Option Addr) (n c k : Nat) (hk : k ≤ c) : (Instr.slice 27 (.slice A n c) none (some (.int .i64 (k : Int))) none).run Try.prog w = .ok (.slice A k c) w := by
  have hz : (sizeOf (Try.prog.elem 27)).run Try.prog w = .ok 1 w := by kernel_rfl
  rw [run_slice_h w 27 A n c elem8b .i64 (k : Int) (by omega) (by omega), hz]
  simp only [Result.andThen, sliced, Int.toNat_natCast, Nat.zero_mul, Nat.sub_zero]
  cases A <;> simp [Addr.add]
theorem zA_len : zA.length = 8192 := List.length_replicate
section
variable {w : World}
set_option maxHeartbeats 2000000 in
set_option maxRecDepth 100000 in
theorem awake9_any : Calls Try.prog 81 #[] w fun e w' => e = .returned (.bool true) ∧ Below w.heap.size w w' := by
  have ht := fun w' => LText_any (w := w') z32 zA zA rfl zA_len zA_len
  have h5 : (textP z32 zA zA).take 5 = [75, 3, 128, 4, 32] := head5 _ (by unfold pairsF; rw [List.length_map, List.length_range]) (pairsF_len z32 zA zA zA_len zA_len)
  have b0 := fun w' => Bit_any (w := w') d128 0 rfl
  have b1 := fun w' => Bit_any (w := w') d128 1 rfl
  rw [show bitI d128 0 = 1 from by decide] at b0
  rw [show bitI d128 1 = 0 from by decide] at b1
  have HL : Hid ((cb zA).length = 8192) := Lib.hid (by rw [List.length_map]; exact zA_len)
  obtain ⟨T, hT⟩ : ∃ T, textP z32 zA zA = T := ⟨_, rfl⟩
  rw [hT] at ht h5
  have H5 := Lib.hid h5
  have hz : cb (List.replicate 8192 0) = cb zA := rfl
  obtain ⟨Z, hZ⟩ : ∃ Z, zA = Z := ⟨_, rfl⟩
  obtain ⟨Y, hY⟩ : ∃ Y, z32 = Y := ⟨_, rfl⟩
  obtain ⟨X, hX⟩ : ∃ X, d128 = X := ⟨_, rfl⟩
  have rz := run_bz
  have r1 := run_b128
  have ha : ((Try.prog.info? 136).map (·.zero)) = some (some (.agg (cb zA).toArray)) := by kernel_rfl
  rw [hZ] at ht HL ha
  rw [hY] at ht rz
  rw [hX] at b0 b1 r1
  clear hT h5 hZ hY hX hz
  have HA := Lib.hid ha
  have RZ := Lib.hid rz
  have R1 := Lib.hid r1
  have B0 := Lib.hid b0
  have B1 := Lib.hid b1
  have HT := Lib.hid ht
  clear ha rz r1 b0 b1 ht
  go_enter Try.func81, Try.ntmps81
  go_upto_region 3 with (first
    | (with_reducible refine wpList_alloc (o := ⟨some 1, _, _, _, _, _⟩) rfl 136 rfl (cb Z) HA.out 8192 HL.out (by decide) ?_; intro gn w1 hgn hFn hBn)
    | (with_reducible refine wpList_bz (o := ⟨some 3, _, _, _, _, _⟩) rfl rfl RZ.out ?_)
    | (with_reducible refine wpList_load (o := ⟨some 4, _, _, _, _, _⟩) rfl (.tmp 1) 136 rfl gn 0 _ rfl (cb Z) 8192 HL.out (by kernel_rfl) hFn.sees ?_)
    | (with_reducible refine wpList_load (o := ⟨some 5, _, _, _, _, _⟩) rfl (.tmp 1) 136 rfl gn 0 _ rfl (cb Z) 8192 HL.out (by kernel_rfl) hFn.sees ?_)
    | (go_at_call 80; refine (HT.out _).mono ?_; rintro e w2 ⟨A2, c2, rfl, hF2, hB2⟩; have hBw2 := Below.then_ hBn hB2))
  have hc5 : 5 ≤ c2 := by have := hF2.cap.1; omega
  have hcut : ∀ w', (Instr.slice 27 (.slice A2 16900 c2) none (some (.int .i64 5)) none).run Try.prog w' = .ok (.slice A2 5 c2) w' := fun w' => run_cut9 (w := w') A2 16900 c2 5 hc5
  go_wp2_with (first
    | (with_reducible refine wpList_is (o := ⟨some 7, _, _, _, _, _⟩) rfl (run_b1 rfl R1.out) ?_)
    | (with_reducible refine wpList_gis (o := ⟨some 11, _, _, _, _, _⟩) rfl (run_b1 rfl R1.out) ?_)
    | (go_at_call 160; with_reducible refine (B0.out _).mono ?_; rintro e w3 ⟨rfl, hB3⟩; have hBw3 := Below.then_ hBw2 hB3)
    | (go_at_call 160; with_reducible refine (B1.out _).mono ?_; rintro e w4 ⟨rfl, hB4⟩; have hBw4 := Below.then_ hBw3 hB4)
    | (go_at_call 18; refine (SameBytes_any A2 (some ⟨w4.heap.size, 0, none⟩) c2 5 5 5 (T.take 5) [75, 3, 128, 4, 32] _ ((((hF2.below hB3).below hB4).below (below_alloc _ _)).cut8 5) (sees_one w4 5 _ [75, 3, 128, 4, 32] rfl) (by rw [H5.out]; rfl) rfl).mono ?_; rintro e w5 ⟨rfl, rfl⟩; rw [H5.out]))
  go_ret
  exact ⟨rfl, Below.then_ hBw4 (below_alloc _ _)⟩
end
end Go.Proofs.Ytpdfalgjmeagjaa
