/-
  What Words and Bytes of package bytes answer, for every input: bytes as words of a flash, filled up with 255, and the first bytes of words.
-/
import Derived.Test.YtmkpopfaaebgfaaGetBlob
namespace Go.Proofs.Ytmkpopfaaebgfaa
open Go.RowKit
set_option linter.unusedVariables false

theorem info32 : (Try.prog.info? 31).map (fun i => (i.zero, i.size, i.bytes)) = some (some (.int .u32 0), 1, 4) := by kernel_rfl
theorem made32 (n : Nat) : (madeCells (Value.int .u32 0).cells (n * 1)).toList = cw (List.replicate n 0) := by
  rw [Nat.mul_one]
  exact (toList_madeCells_one _ n).trans (by simp [cw])
/-- 'make([]uint32, n)': n noughts in a new block. -/
theorem wpList_mk32 {w : World} {ops : Array Oper} {rest : List Oper} {o : Oper} {a : Act} {Q : Exit → Act → World → Prop} (hg : o.guard = none) (x : Operand) (hop : o.op = Op.makeSlice 24 x x)
    (L : Int) (n : Nat) (hl : a.eval x = .int .i64 L) (hL : L = (n : Int)) (hn : n ≤ 1099511627776)
    (hK : ∀ w', Fresh w.heap.size 31 w' (some ⟨w.heap.size, 0, none⟩) n n (cw (List.replicate n 0)) → Below w.heap.size w w' → wpList Try.prog ops Q rest (a.put o.dst (.slice (some ⟨w.heap.size, 0, none⟩) n n)) w') :
    wpList Try.prog ops Q (o :: rest) a w := by
  obtain ⟨i0, hi, hz0, hz1, hz2⟩ := info_parts info32
  refine wpList_make_full w hg x x 24 hop w.heap.size 31 i0 (.int .u32 0) 1 Try.underlying24 hi hz0 hz1 .i64 .i64 L L n hl hl hL hL (by rw [hz2]; omega) (by unfold maxLen; omega) (Nat.le_refl _) ?_
  intro w' h1 h2
  rw [made32] at h1
  exact hK w' h1 ((Below.refl _ _).grown h2 (Nat.le_refl _) (by simp))
theorem Fresh.store32 {w : World} {base g n : Nat} {e : TypeId} {l : List UInt32} (h : Fresh base e w (some ⟨g, 0, none⟩) n n (cw l)) (j : Nat) (c : UInt32) : Fresh base e (w.setCell ⟨g, j, none⟩ (.int .u32 (c.toNat : Int))) (some ⟨g, 0, none⟩) n n (cw (l.set j c)) := by
  have := h.store j (.int .u32 (c.toNat : Int))
  rwa [show (cw l).set j (.int .u32 (c.toNat : Int)) = cw (l.set j c) from by simp [cw, List.map_set]] at this

def Grows32 (w : World) (n : Nat) (l : List UInt32) (e : Ending) (w' : World) : Prop :=
  e = .returned (.slice (some ⟨w.heap.size, 0, none⟩) n n) ∧ Fresh w.heap.size 31 w' (some ⟨w.heap.size, 0, none⟩) n n (cw l) ∧ Below w.heap.size w w'
theorem splice_zero {α : Type} (z : α) (X : List α) (n : Nat) (h : X.length = n) : splice (List.replicate n z) 0 X = X := by
  subst h
  simp [splice]
theorem words_get (l : List UInt8) (k : Nat) (hk : k < (words l).length) : (words l)[k] = UInt32.ofNat (wAt l (4 * k)) := by simp [words]

set_option maxHeartbeats 400000 in
theorem Words_any (A : Option Addr) (c n m : Nat) (l : List UInt8) (w : World) (hs : Sees w w.heap.size A (cb l)) (hl : l.length = n) (hn : n ≤ 274877906944) (hm : (n + 3) / 4 = m) :
    Calls Try.prog 31 #[.slice A n c] w (Grows32 w m (words l)) := by
  have HL := Lib.hid hl
  have hm1 : 4 * m ≤ n + 3 := by omega
  have hm2 : n ≤ 4 * m := by omega
  have HM := Lib.hid hm
  have HW := Lib.hid (show (words l).length = m by rw [len_words, hl, hm])
  clear hl hm
  go_enter Try.func31, Try.ntmps31
  go_wp2_with (at_make; refine wpList_mk32 rfl (.tmp 9) rfl _ m rfl (by omega) (by omega) ?_; intro w1 hF1 hB1)
  go_loopw [13] (fun i wr => ∃ k : Nat, k ≤ m ∧ i = .int .i64 k ∧ Fresh w.heap.size 31 wr (some ⟨w.heap.size, 0, none⟩) m m (cw (splice (List.replicate m 0) 0 ((words l).take k))) ∧ Below w.heap.size w wr) (fun i _ => m - (intOf i).toNat)
  case atStart => exact ⟨0, by omega, rfl, by simpa [splice] using hF1, hB1⟩
  case round =>
    obtain ⟨k, hk, rfl, hFr, hbr⟩ := hrel
    by_cases hlt : k < m
    · obtain ⟨u, hc⟩ := hFr.cellAt (j := k) (by omega)
      have hz := hFr.frozenAt (j := k)
      go_wp2_with (go_at_call 111; refine (wordAt_any A c n (4 * k) _ l _ (by omega) (hs.step hbr) HL.out (by omega) (by omega)).mono ?_; rintro e w2 ⟨rfl, rfl⟩)
      have hkw : k < (words l).length := by rw [HW.out]; exact hlt
      have hs := hFr.store32 (0 + k) ((words l)[k])
      rw [splice_step _ _ _ _ hkw (by simp [HW.out]), Nat.zero_add, words_get, ofNat_toNat32 _ (wAt_lt _ _)] at hs
      go_roundw
      case rel => exact ⟨k + 1, by omega, by go_num, hs, hbr.setCell (Nat.le_refl _) _⟩
      case measure => simp [intOf]; omega
    · go_wp2
      go_ret
      obtain rfl : k = m := by omega
      have h := hFr
      rw [splice_all _ _ _ _ (by rw [HW.out]; exact Nat.le_refl _), splice_zero _ _ _ HW.out] at h
      exact ⟨rfl, h, hbr⟩

/-- A list in new memory, an error. -/
def Tells2 (w : World) (r : List UInt8 × Nat) (e : Ending) (w' : World) : Prop :=
  ∃ A c, e = .returned (.tuple #[.slice A r.1.length c, .int .i64 (r.2 : Int)]) ∧ Fresh w.heap.size 5 w' A r.1.length c (cb r.1) ∧ Below w.heap.size w w'

set_option maxHeartbeats 400000 in
theorem Bytes_any (A : Option Addr) (c n : Nat) (p : Int) (l : List UInt32) (w : World) (hs : Sees w w.heap.size A (cw l)) (hl : l.length = n) (hn : n ≤ 68719476736) :
    Calls Try.prog 28 #[.slice A n c, .int .i64 p] w (Tells2 w (getBytes l p)) := by
  have HL := Lib.hid hl
  clear hl
  by_cases h0 : p < 0
  · go_enter Try.func28, Try.ntmps28
    go_wp2
    go_ret2
    have e : getBytes l p = ([], 2) := by simp [getBytes, h0]
    rw [e]
    exact ⟨none, 0, rfl, fresh_nil _ _ _, Below.refl _ _⟩
  · obtain ⟨m, rfl⟩ := Int.eq_ofNat_of_zero_le (show 0 ≤ p by omega)
    by_cases hm : 4 * n < m
    · go_enter Try.func28, Try.ntmps28
      go_wp2
      go_ret2
      have e : getBytes l (m : Int) = ([], 10) := by
        simp only [getBytes, HL.out]
        rw [if_neg (by omega), if_pos (by omega)]
      rw [e]
      exact ⟨none, 0, rfl, fresh_nil _ _ _, Below.refl _ _⟩
    · have e : getBytes l (m : Int) = ((bytesOf l).take m, 0) := by
        simp only [getBytes, HL.out]
        rw [if_neg (by omega), if_neg (by omega)]
        rfl
      have HE := Lib.hid e
      have HN := Lib.hid (show ((bytesOf l).take m).length = m by rw [List.length_take, len_bytesOf, HL.out]; omega)
      clear e
      obtain ⟨L, hL⟩ : ∃ L, L = (bytesOf l).take m := ⟨_, rfl⟩
      have HLL := Lib.hid hL
      rw [← hL] at HE HN
      clear hL
      go_enter Try.func28, Try.ntmps28
      go_wp2_with (at_make; refine wpList_mk8 rfl (.tmp 15) rfl _ m rfl rfl (by omega) ?_; intro w1 hF1 hB1)
      go_loopw [18] (fun i wr => ∃ k : Nat, k ≤ m ∧ i = .int .i64 k ∧ Fresh w.heap.size 5 wr (some ⟨w.heap.size, 0, none⟩) m m (cb (splice (List.replicate m 0) 0 (L.take k))) ∧ Below w.heap.size w wr) (fun i _ => m - (intOf i).toNat)
      case atStart => exact ⟨0, by omega, rfl, by simpa [splice] using hF1, hB1⟩
      case round =>
        obtain ⟨k, hk, rfl, hFr, hbr⟩ := hrel
        by_cases hlt : k < m
        · obtain ⟨u, hc⟩ := hFr.cellAt (j := k) (by omega)
          have hz := hFr.frozenAt (j := k)
          obtain ⟨b, o, rfl, hb, d, HD, hd, hcd⟩ := (hs.below hbr).word HL.out (show k / 4 < n by omega)
          go_wp2_with (go_at_call 114; refine (byteOf_any d.toNat (k % 4) _ hd (by omega)).mono ?_; rintro e w2 ⟨rfl, rfl⟩)
          have hkL : k < L.length := by rw [HN.out]; exact hlt
          have hs := hFr.store8 (0 + k) (L[k])
          have hg : L[k] = byteAt d.toNat (k % 4) := by
            have h1 : k / 4 < l.length := by rw [HL.out]; omega
            have h2 := bytesOf_get l k h1
            have h3 := HD.out
            rw [List.getElem?_eq_getElem h1] at h3
            injection h3 with h3
            have h4 : L[k]? = (bytesOf l)[k]? := by rw [HLL.out, List.getElem?_take, if_pos hlt]
            rw [List.getElem?_eq_getElem hkL, h2, h3] at h4
            injection h4
          rw [splice_step _ _ _ _ hkL (by simp [HN.out]), Nat.zero_add, hg] at hs
          go_roundw
          case rel => exact ⟨k + 1, by omega, by go_num, hs, hbr.setCell (Nat.le_refl _) _⟩
          case measure => simp [intOf]; omega
        · go_wp2
          go_ret2
          obtain rfl : k = m := by omega
          have h := hFr
          rw [splice_all _ _ _ _ (by rw [HN.out]; exact Nat.le_refl _), splice_zero _ _ _ HN.out] at h
          rw [HE.out]
          exact ⟨some ⟨w.heap.size, 0, none⟩, k, by rw [HN.out]; rfl, by rw [HN.out]; exact h, hbr⟩
end Go.Proofs.Ytmkpopfaaebgfaa
