/-
  What the program writes: numbers and strings.
-/
import Derived.Test.YtangblcfdboghaaSeesLit
import Derived.Test.YtangblcfdboghaaPut
import Derived.Test.YtangblcfdboghaaDigits
namespace Go.Proofs.Ytangblcfdboghaa
open Go.RowKit
set_option linter.unusedVariables false

set_option maxHeartbeats 400000 in
theorem Uint_any (A : Option Addr) (c n x : Nat) (l : List UInt8) (w : World) (hs : Sees w w.heap.size A (cb l)) (hl : l.length = n) (hb : n ≤ 549755813888) (hx : x < 18446744073709551616) :
    Calls Try.prog 38 #[.slice A n c, .int .u64 (x : Int)] w (Grows w (n + nd x) (l ++ digs x)) := by
  have hd := nd_bd x
  have h1 := hd.1
  have h2 := hd.2
  clear hd
  have HL := Lib.hid hl
  clear hl
  go_enter Try.func38, Try.ntmps38
  go_wp2_with (first
    | (go_at_call 64; refine (digits_any x _ hx).mono ?_; rintro e w1 ⟨rfl, rfl⟩)
    | (go_at_call 63; refine (grown_any A c n (nd x) _ l _ rfl hs HL.out (by omega)).mono ?_; rintro e w1 ⟨rfl, hF1, hB1⟩)
    | (go_at_call 65; refine (putUint_any x (nd x) n w.heap.size (n + nd x) w.heap.size _ (l ++ List.replicate (nd x) 0) _ w hx hF1 rfl (by omega) (by omega) hB1 (Nat.le_refl _)).mono ?_; rintro e w2 ⟨rfl, hF2, hB2⟩))
  go_ret
  refine ⟨rfl, ?_, hB2⟩
  have h := hF2
  have e := splice_tail l (digs x) (nd x) (len_digs x)
  rw [HL.out] at e
  rwa [e] at h

theorem splice_two (l X Y : List UInt8) (m k : Nat) (h : X.length = m) (hk : Y.length = k) : splice (splice (l ++ List.replicate (m + k) 0) l.length X) (l.length + m) Y = l ++ (X ++ Y) := by
  subst h hk
  have e : splice (l ++ List.replicate (X.length + Y.length) 0) l.length X = l ++ (X ++ List.replicate Y.length 0) := by
    simp [splice]
  rw [e]
  have e2 : l ++ (X ++ List.replicate Y.length 0) = (l ++ X) ++ List.replicate Y.length 0 := by simp
  have := splice_tail (l ++ X) Y Y.length rfl
  rw [List.length_append] at this
  rw [e2, this, List.append_assoc]

set_option maxHeartbeats 400000 in
theorem Blob_any (A B : Option Addr) (c d n m : Nat) (l b : List UInt8) (w : World) (hs : Sees w w.heap.size A (cb l)) (ht : Sees w w.heap.size B (cb b)) (hl : l.length = n) (hm : b.length = m) (hb : n ≤ 274877906944) (hc : m ≤ 274877906944) :
    Calls Try.prog 39 #[.slice A n c, .slice B m d] w (Grows w (n + (nd m + m)) (l ++ blob b)) := by
  have hd := nd_bd m
  have h1 := hd.1
  have h2 := hd.2
  clear hd
  have HL := Lib.hid hl
  have HM := Lib.hid hm
  clear hl hm
  rcases Nat.eq_zero_or_pos m with rfl | hp
  · go_enter Try.func39, Try.ntmps39
    go_wp2_with (first
      | (go_at_call 64; refine (digits_any 0 _ (by omega)).mono ?_; rintro e w1 ⟨rfl, rfl⟩)
      | (go_at_call 63; refine (grown_any A c n (nd 0 + 0) _ l _ (by omega) hs HL.out (by omega)).mono ?_; rintro e w1 ⟨rfl, hF1, hB1⟩)
      | (go_at_call 65; refine (putUint_any 0 (nd 0) n w.heap.size (n + (nd 0 + 0)) w.heap.size _ (l ++ List.replicate (nd 0 + 0) 0) _ w (by omega) hF1 rfl (by omega) (by omega) hB1 (Nat.le_refl _)).mono ?_; rintro e w2 ⟨rfl, hF2, hB2⟩)
      | (with_reducible refine wpList_copy8 rfl (.tmp 32) (.tmp 33) rfl _ _ _ _ _ _ rfl rfl w.heap.size (n + (nd 0 + 0)) (n + nd 0) w.heap.size _ b hF2 HM.out (by omega) (fun h0 => by omega) (ht.step hB2) (by omega) w hB2 (Nat.le_refl _) ?_; intro w3 hF3 hB3))
    go_ret
    refine ⟨rfl, ?_, hB3⟩
    have h := hF3
    have e := splice_two l (digs 0) b (nd 0) 0 (len_digs 0) HM.out
    rw [HL.out] at e
    rw [e] at h
    rw [blob, HM.out]
    exact h
  · go_enter Try.func39, Try.ntmps39
    go_wp2_with (first
      | (go_at_call 64; refine (digits_any m _ (by omega)).mono ?_; rintro e w1 ⟨rfl, rfl⟩)
      | (go_at_call 63; refine (grown_any A c n (nd m + m) _ l _ (by omega) hs HL.out (by omega)).mono ?_; rintro e w1 ⟨rfl, hF1, hB1⟩)
      | (go_at_call 65; refine (putUint_any m (nd m) n w.heap.size (n + (nd m + m)) w.heap.size _ (l ++ List.replicate (nd m + m) 0) _ w (by omega) hF1 rfl (by omega) (by omega) hB1 (Nat.le_refl _)).mono ?_; rintro e w2 ⟨rfl, hF2, hB2⟩)
      | (with_reducible refine wpList_copy8 rfl (.tmp 32) (.tmp 33) rfl _ _ _ _ _ _ rfl rfl w.heap.size (n + (nd m + m)) (n + nd m) w.heap.size _ b hF2 HM.out (by omega) (fun h0 => by first | rfl | omega) (ht.step hB2) (by omega) w hB2 (Nat.le_refl _) ?_; intro w3 hF3 hB3))
    go_ret
    refine ⟨rfl, ?_, hB3⟩
    have h := hF3
    have e := splice_two l (digs m) b (nd m) m (len_digs m) HM.out
    rw [HL.out] at e
    rw [e] at h
    rw [blob, HM.out]
    exact h
end Go.Proofs.Ytangblcfdboghaa
