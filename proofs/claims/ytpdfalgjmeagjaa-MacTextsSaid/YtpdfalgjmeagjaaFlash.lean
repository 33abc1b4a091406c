/-
  What Words and Bytes of package bytes answer, for every input: bytes as words of a flash, filled up with 255, and the first bytes of words.
-/
import Derived.Test.YtpdfalgjmeagjaaGetBlob
namespace Go.Proofs.Ytpdfalgjmeagjaa
open Go.RowKit
set_option linter.unusedVariables false

def Grows32 (w : World) (n : Nat) (l : List UInt32) (e : Ending) (w' : World) : Prop :=
  e = .returned (.slice (some ⟨w.heap.size, 0, none⟩) n n) ∧ Fresh w.heap.size 22 w' (some ⟨w.heap.size, 0, none⟩) n n (cw l) ∧ Below w.heap.size w w'
theorem words_get (l : List UInt8) (k : Nat) (hk : k < (words l).length) : (words l)[k] = UInt32.ofNat (wAt l (4 * k)) := by simp [words]

set_option maxHeartbeats 400000 in
theorem Words_any (A : Option Addr) (c n m : Nat) (l : List UInt8) (w : World) (hs : Sees w w.heap.size A (cb l)) (hl : l.length = n) (hn : n ≤ 274877906944) (hm : (n + 3) / 4 = m) :
    Calls Try.prog 195 #[.slice A n c] w (Grows32 w m (words l)) := by
  have HL := Lib.hid hl
  have hm1 : 4 * m ≤ n + 3 := by omega
  have hm2 : n ≤ 4 * m := by omega
  have HM := Lib.hid hm
  have HW := Lib.hid (show (words l).length = m by rw [len_words, hl, hm])
  clear hl hm
  go_enter Try.func195, Try.ntmps195
  go_wp2_with (at_make; refine wpList_mk32 rfl (.tmp 9) rfl _ m rfl (by omega) (by omega) ?_; intro w1 hF1 hB1)
  go_loopw [13] (fun i wr => ∃ k : Nat, k ≤ m ∧ i = .int .i64 k ∧ Fresh w.heap.size 22 wr (some ⟨w.heap.size, 0, none⟩) m m (cw (splice (List.replicate m 0) 0 ((words l).take k))) ∧ Below w.heap.size w wr) (fun i _ => m - (intOf i).toNat)
  case atStart => exact ⟨0, by omega, rfl, by simpa [splice] using hF1, hB1⟩
  case round =>
    obtain ⟨k, hk, rfl, hFr, hbr⟩ := hrel
    by_cases hlt : k < m
    · obtain ⟨u, hc⟩ := hFr.cellAt (j := k) (by omega)
      have hz := hFr.frozenAt (j := k)
      go_wp2_with (go_at_call 209; refine (wordAt_any A c n (4 * k) _ l _ (by omega) (hs.step hbr) HL.out (by omega) (by omega)).mono ?_; rintro e w2 ⟨rfl, rfl⟩)
      have hkw : k < (words l).length := by rw [HW.out]; exact hlt
      have hs := hFr.store32 (0 + k) ((words l)[k])
      rw [splice_step _ _ _ _ hkw (by simp [HW.out]), Nat.zero_add, words_get, ofNat_toNat32 _ (wAt_lt _ _)] at hs
      go_roundw
      case rel => exact ⟨k + 1, by omega, by go_num, hs, hbr.setCell (Nat.le_refl _) _⟩
      case measure => simp [intOf]; omega
    · go_wp2
      go_ret
      obtain rfl : k = m := by omega
      have h := hFr
      rw [splice_all _ _ _ _ (by rw [HW.out]; exact Nat.le_refl _), splice_zero _ _ _ HW.out] at h
      exact ⟨rfl, h, hbr⟩

/-- A list in new memory, an error. -/
def Tells2 (w : World) (r : List UInt8 × Nat) (e : Ending) (w' : World) : Prop :=
  ∃ A c, e = .returned (.tuple #[.slice A r.1.length c, .int .i64 (r.2 : Int)]) ∧ Fresh w.heap.size 5 w' A r.1.length c (cb r.1) ∧ Below w.heap.size w w'

set_option maxHeartbeats 400000 in
theorem Bytes_any (A : Option Addr) (c n : Nat) (p : Int) (l : List UInt32) (w : World) (hs : Sees w w.heap.size A (cw l)) (hl : l.length = n) (hn : n ≤ 68719476736) :
    Calls Try.prog 204 #[.slice A n c, .int .i64 p] w (Tells2 w (getBytes l p)) := by
  have HL := Lib.hid hl
  clear hl
  by_cases h0 : p < 0
  · go_enter Try.func204, Try.ntmps204
    go_wp2
    go_ret2
    have e : getBytes l p = ([], 2) := by simp [getBytes, h0]
    rw [e]
    exact ⟨none, 0, rfl, fresh_nil _ _ _, Below.refl _ _⟩
  · obtain ⟨m, rfl⟩ := Int.eq_ofNat_of_zero_le (show 0 ≤ p by omega)
    by_cases hm : 4 * n < m
    · go_enter Try.func204, Try.ntmps204
      go_wp2
      go_ret2
      have e : getBytes l (m : Int) = ([], 10) := by
        simp only [getBytes, HL.out]
        rw [if_neg (by omega), if_pos (by omega)]
      rw [e]
      exact ⟨none, 0, rfl, fresh_nil _ _ _, Below.refl _ _⟩
    · have e : getBytes l (m : Int) = ((bytesOf l).take m, 0) := by
        simp only [getBytes, HL.out]
        rw [if_neg (by omega), if_neg (by omega)]
        rfl
      have HE := Lib.hid e
      have HN := Lib.hid (show ((bytesOf l).take m).length = m by rw [List.length_take, len_bytesOf, HL.out]; omega)
      clear e
      obtain ⟨L, hL⟩ : ∃ L, L = (bytesOf l).take m := ⟨_, rfl⟩
      have HLL := Lib.hid hL
      rw [← hL] at HE HN
      clear hL
      go_enter Try.func204, Try.ntmps204
      go_wp2_with (at_make; refine wpList_mk8 rfl (.tmp 15) rfl _ m rfl rfl (by omega) ?_; intro w1 hF1 hB1)
      go_loopw [18] (fun i wr => ∃ k : Nat, k ≤ m ∧ i = .int .i64 k ∧ Fresh w.heap.size 5 wr (some ⟨w.heap.size, 0, none⟩) m m (cb (splice (List.replicate m 0) 0 (L.take k))) ∧ Below w.heap.size w wr) (fun i _ => m - (intOf i).toNat)
      case atStart => exact ⟨0, by omega, rfl, by simpa [splice] using hF1, hB1⟩
      case round =>
        obtain ⟨k, hk, rfl, hFr, hbr⟩ := hrel
        by_cases hlt : k < m
        · obtain ⟨u, hc⟩ := hFr.cellAt (j := k) (by omega)
          have hz := hFr.frozenAt (j := k)
          obtain ⟨b, o, rfl, hb, d, HD, hd, hcd⟩ := (hs.below hbr).word HL.out (show k / 4 < n by omega)
          go_wp2_with (go_at_call 210; refine (byteOf_any d.toNat (k % 4) _ hd (by omega)).mono ?_; rintro e w2 ⟨rfl, rfl⟩)
          have hkL : k < L.length := by rw [HN.out]; exact hlt
          have hs := hFr.store8 (0 + k) (L[k])
          have hg : L[k] = byteAt d.toNat (k % 4) := by
            have h1 : k / 4 < l.length := by rw [HL.out]; omega
            have h2 := bytesOf_get l k h1
            have h3 := HD.out
            rw [List.getElem?_eq_getElem h1] at h3
            injection h3 with h3
            have h4 : L[k]? = (bytesOf l)[k]? := by rw [HLL.out, List.getElem?_take, if_pos hlt]
            rw [List.getElem?_eq_getElem hkL, h2, h3] at h4
            injection h4
          rw [splice_step _ _ _ _ hkL (by simp [HN.out]), Nat.zero_add, hg] at hs
          go_roundw
          case rel => exact ⟨k + 1, by omega, by go_num, hs, hbr.setCell (Nat.le_refl _) _⟩
          case measure => simp [intOf]; omega
        · go_wp2
          go_ret2
          obtain rfl : k = m := by omega
          have h := hFr
          rw [splice_all _ _ _ _ (by rw [HN.out]; exact Nat.le_refl _), splice_zero _ _ _ HN.out] at h
          rw [HE.out]
          exact ⟨some ⟨w.heap.size, 0, none⟩, k, by rw [HN.out]; rfl, by rw [HN.out]; exact h, hbr⟩
end Go.Proofs.Ytpdfalgjmeagjaa
