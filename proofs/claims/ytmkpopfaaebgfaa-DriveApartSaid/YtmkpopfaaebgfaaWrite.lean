/-
  What Uint, Word and Blob of package bytes answer, for every input: the digits of a number, the four bytes of a word, a string with its length, behind what was handed in, in new memory.
-/
import Derived.Test.YtmkpopfaaebgfaaPut
namespace Go.Proofs.Ytmkpopfaaebgfaa
open Go.RowKit
set_option linter.unusedVariables false

theorem splice_tail (l X : List UInt8) (m : Nat) (h : X.length = m) : splice (l ++ List.replicate m 0) l.length X = l ++ X := by
  subst h
  simp [splice]

set_option maxHeartbeats 400000 in
theorem Uint_any (A : Option Addr) (c n x : Nat) (l : List UInt8) (w : World) (hs : Sees w w.heap.size A (cb l)) (hl : l.length = n) (hb : n ≤ 549755813888) (hx : x < 18446744073709551616) :
    Calls Try.prog 33 #[.slice A n c, .int .u64 (x : Int)] w (Grows w (n + nd x) (l ++ digs x)) := by
  have hd := nd_bd x
  have h1 := hd.1
  have h2 := hd.2
  clear hd
  have HL := Lib.hid hl
  clear hl
  go_enter Try.func33, Try.ntmps33
  go_wp2_with (first
    | (go_at_call 115; refine (digits_any x _ hx).mono ?_; rintro e w1 ⟨rfl, rfl⟩)
    | (go_at_call 112; refine (grown_any A c n (nd x) _ l _ rfl hs HL.out (by omega)).mono ?_; rintro e w1 ⟨rfl, hF1, hB1⟩)
    | (go_at_call 116; refine (putUint_any x (nd x) n w.heap.size (n + nd x) w.heap.size _ (l ++ List.replicate (nd x) 0) _ w hx hF1 rfl (by omega) (by omega) hB1 (Nat.le_refl _)).mono ?_; rintro e w2 ⟨rfl, hF2, hB2⟩))
  go_ret
  refine ⟨rfl, ?_, hB2⟩
  have h := hF2
  have e := splice_tail l (digs x) (nd x) (len_digs x)
  rw [HL.out] at e
  rwa [e] at h

theorem wd_get (x k : Nat) (hk : k < 4) : (wd x)[k]'(by rw [len_wd]; exact hk) = byteAt x k := by
  match k, hk with
  | 0, _ => rfl
  | 1, _ => rfl
  | 2, _ => rfl
  | 3, _ => rfl

set_option maxHeartbeats 400000 in
theorem Word_any (A : Option Addr) (c n x : Nat) (l : List UInt8) (w : World) (hs : Sees w w.heap.size A (cb l)) (hl : l.length = n) (hb : n ≤ 549755813888) (hx : x < 4294967296) :
    Calls Try.prog 35 #[.slice A n c, .int .u32 (x : Int)] w (Grows w (n + 4) (l ++ wd x)) := by
  have HL := Lib.hid hl
  clear hl
  go_enter Try.func35, Try.ntmps35
  go_wp2_with (go_at_call 112; refine (grown_any A c n 4 _ l _ rfl hs HL.out (by omega)).mono ?_; rintro e w1 ⟨rfl, hF1, hB1⟩)
  go_loopw [9] (fun i wr => ∃ k : Nat, k ≤ 4 ∧ i = .int .i64 k ∧ Fresh w.heap.size 5 wr (some ⟨w.heap.size, 0, none⟩) (n + 4) (n + 4) (cb (splice (l ++ List.replicate 4 0) n ((wd x).take k))) ∧ Below w.heap.size w wr) (fun i _ => 4 - (intOf i).toNat)
  case atStart => exact ⟨0, by omega, rfl, by simpa [splice] using hF1, hB1⟩
  case round =>
    obtain ⟨k, hk, rfl, hFr, hbr⟩ := hrel
    by_cases hlt : k < 4
    · obtain ⟨u, hc⟩ := hFr.cellAt (j := n + k) (by omega)
      have hz := hFr.frozenAt (j := n + k)
      go_wp2_with (go_at_call 114; refine (byteOf_any x k _ hx hlt).mono ?_; rintro e w2 ⟨rfl, rfl⟩)
      have hl := HL.out
      have hs := hFr.store8 (n + k) (byteAt x k)
      rw [← wd_get x k hlt, splice_step _ _ _ _ (by rw [len_wd]; exact hlt) (by rw [len_wd]; simp; omega), wd_get x k hlt] at hs
      go_roundw
      case rel => exact ⟨k + 1, by omega, by go_num, hs, hbr.setCell (Nat.le_refl _) _⟩
      case measure => simp [intOf]; omega
    · go_wp2
      go_ret
      obtain rfl : k = 4 := by omega
      have hl := HL.out
      have h := hFr
      have e := splice_tail l (wd x) 4 (len_wd x)
      rw [hl] at e
      rw [splice_all _ _ _ _ (by rw [len_wd]; omega), e] at h
      exact ⟨rfl, h, hbr⟩

theorem splice_two (l X Y : List UInt8) (m k : Nat) (h : X.length = m) (hk : Y.length = k) : splice (splice (l ++ List.replicate (m + k) 0) l.length X) (l.length + m) Y = l ++ (X ++ Y) := by
  subst h hk
  have e : splice (l ++ List.replicate (X.length + Y.length) 0) l.length X = l ++ (X ++ List.replicate Y.length 0) := by
    simp [splice]
  rw [e]
  have e2 : l ++ (X ++ List.replicate Y.length 0) = (l ++ X) ++ List.replicate Y.length 0 := by simp
  have := splice_tail (l ++ X) Y Y.length rfl
  rw [List.length_append] at this
  rw [e2, this, List.append_assoc]

set_option maxHeartbeats 400000 in
theorem Blob_any (A B : Option Addr) (c d n m : Nat) (l b : List UInt8) (w : World) (hs : Sees w w.heap.size A (cb l)) (ht : Sees w w.heap.size B (cb b)) (hl : l.length = n) (hm : b.length = m) (hb : n ≤ 274877906944) (hc : m ≤ 274877906944) :
    Calls Try.prog 37 #[.slice A n c, .slice B m d] w (Grows w (n + (nd m + m)) (l ++ blob b)) := by
  have hd := nd_bd m
  have h1 := hd.1
  have h2 := hd.2
  clear hd
  have HL := Lib.hid hl
  have HM := Lib.hid hm
  clear hl hm
  rcases Nat.eq_zero_or_pos m with rfl | hp
  · go_enter Try.func37, Try.ntmps37
    go_wp2_with (first
      | (go_at_call 115; refine (digits_any 0 _ (by omega)).mono ?_; rintro e w1 ⟨rfl, rfl⟩)
      | (go_at_call 112; refine (grown_any A c n (nd 0 + 0) _ l _ (by omega) hs HL.out (by omega)).mono ?_; rintro e w1 ⟨rfl, hF1, hB1⟩)
      | (go_at_call 116; refine (putUint_any 0 (nd 0) n w.heap.size (n + (nd 0 + 0)) w.heap.size _ (l ++ List.replicate (nd 0 + 0) 0) _ w (by omega) hF1 rfl (by omega) (by omega) hB1 (Nat.le_refl _)).mono ?_; rintro e w2 ⟨rfl, hF2, hB2⟩)
      | (with_reducible refine wpList_copy8 rfl (.tmp 32) (.tmp 33) rfl _ _ _ _ _ _ rfl rfl w.heap.size (n + (nd 0 + 0)) (n + nd 0) w.heap.size _ b hF2 HM.out (by omega) (fun h0 => by omega) (ht.step hB2) (by omega) w hB2 (Nat.le_refl _) ?_; intro w3 hF3 hB3))
    go_ret
    refine ⟨rfl, ?_, hB3⟩
    have h := hF3
    have e := splice_two l (digs 0) b (nd 0) 0 (len_digs 0) HM.out
    rw [HL.out] at e
    rw [e] at h
    rw [blob, HM.out]
    exact h
  · go_enter Try.func37, Try.ntmps37
    go_wp2_with (first
      | (go_at_call 115; refine (digits_any m _ (by omega)).mono ?_; rintro e w1 ⟨rfl, rfl⟩)
      | (go_at_call 112; refine (grown_any A c n (nd m + m) _ l _ (by omega) hs HL.out (by omega)).mono ?_; rintro e w1 ⟨rfl, hF1, hB1⟩)
      | (go_at_call 116; refine (putUint_any m (nd m) n w.heap.size (n + (nd m + m)) w.heap.size _ (l ++ List.replicate (nd m + m) 0) _ w (by omega) hF1 rfl (by omega) (by omega) hB1 (Nat.le_refl _)).mono ?_; rintro e w2 ⟨rfl, hF2, hB2⟩)
      | (with_reducible refine wpList_copy8 rfl (.tmp 32) (.tmp 33) rfl _ _ _ _ _ _ rfl rfl w.heap.size (n + (nd m + m)) (n + nd m) w.heap.size _ b hF2 HM.out (by omega) (fun h0 => by first | rfl | omega) (ht.step hB2) (by omega) w hB2 (Nat.le_refl _) ?_; intro w3 hF3 hB3))
    go_ret
    refine ⟨rfl, ?_, hB3⟩
    have h := hF3
    have e := splice_two l (digs m) b (nd m) m (len_digs m) HM.out
    rw [HL.out] at e
    rw [e] at h
    rw [blob, HM.out]
    exact h
end Go.Proofs.Ytmkpopfaaebgfaa
