/-
  What parts, Word, Uint, Blob and GetWord of the document's own answer, for every input.
-/
import Derived.Test.YtmkpopfaaebgfaaRefA
import Derived.Test.YtmkpopfaaebgfaaWordAt
namespace Go.Proofs.Ytmkpopfaaebgfaa
open Go.RowKit
set_option linter.unusedVariables false

theorem pow256 (j : Nat) : (2 : Nat) ^ (8 * j) = 256 ^ j := by rw [Nat.pow_mul]
theorem unit_lt (j : Nat) (h : j ≤ 3) : 256 ^ j ≤ 16777216 := by
  have : 256 ^ j ≤ 256 ^ 3 := Nat.pow_le_pow_right (by omega) h
  omega
theorem part_byte (x i : Nat) (hi : i < 4) : (x % 256 ^ (4 - i)) / 256 ^ (3 - i) = (byteAt x i).toNat := by
  unfold byteAt
  rw [ofNat_toNat _ (Nat.mod_lt _ (by omega)), pow256]
  rw [show 4 - i = (3 - i) + 1 from by omega, Nat.pow_succ, Nat.mod_mul_right_div_self]
theorem part_rest (x i : Nat) (hi : i < 4) : (x % 256 ^ (4 - i)) % 256 ^ (3 - i) = x % 256 ^ (4 - (i + 1)) := by
  rw [show 4 - (i + 1) = 3 - i from by omega, show 4 - i = (3 - i) + 1 from by omega, Nat.pow_succ, Nat.mod_mul_right_mod]

set_option maxRecDepth 100000 in
set_option maxHeartbeats 1000000 in
theorem parts_any (x : Nat) (w : World) (hx : x < 4294967296) : Calls Try.prog 117 #[.int .u32 (x : Int)] w (Made8 w 4 (wd x)) := by
  go_enter Try.func117, Try.ntmps117
  go_wp2_with (at_make; refine wpList_mk8 rfl (.const (.int .i64 4)) rfl _ 4 rfl rfl (by omega) ?_; intro w1 hF1 hB1)
  go_loopw [0, 4] (fun n i wr => ∃ k y : Nat, k ≤ 4 ∧ i = .int .i64 k ∧ n = .int .u32 (y : Int) ∧ y = x % 256 ^ (4 - k) ∧ Fresh w.heap.size 5 wr (some ⟨w.heap.size, 0, none⟩) 4 4 (cb (splice (List.replicate 4 0) 0 ((wd x).take k))) ∧ Below w.heap.size w wr) (fun _ i _ => 4 - (intOf i).toNat)
  case atStart => exact ⟨0, x, by omega, rfl, rfl, (Nat.mod_eq_of_lt (by simpa using hx)).symm, by simpa [splice] using hF1, hB1⟩
  case round =>
    obtain ⟨k, y, hk, rfl, rfl, hy, hFr, hbr⟩ := hrel
    have hy2 : y < 4294967296 := by
      have := Nat.mod_le x (256 ^ (4 - k))
      omega
    have HY := Lib.hid hy
    clear hy
    by_cases hlt : k < 4
    · obtain ⟨wo, hwo⟩ : ∃ wo, wo = wr := ⟨_, rfl⟩
      rw [← hwo] at hFr hbr ⊢
      clear hwo
      go_wp2_with fail
      go_loop [5, 6] (fun u i => ∃ j v : Nat, k ≤ j ∧ j ≤ 3 ∧ i = .int .i64 j ∧ u = .int .u32 (v : Int) ∧ v = 256 ^ (j - k)) (fun _ i => 3 - (intOf i).toNat)
      case atStart => exact ⟨k, 1, by omega, by omega, rfl, rfl, by simp⟩
      case round =>
        obtain ⟨j, v, hj1, hj2, rfl, rfl, hv⟩ := hrel
        have hv1 : v ≤ 16777216 := by rw [hv]; exact unit_lt _ (by omega)
        have hv0 : 1 ≤ v := by rw [hv]; exact Nat.pos_of_ne_zero (by simp)
        have HV := Lib.hid hv
        clear hv
        by_cases hj3 : j < 3
        · have hv2 : v ≤ 65536 := by
            rw [HV.out]
            have : 256 ^ (j - k) ≤ 256 ^ 2 := Nat.pow_le_pow_right (by omega) (by omega)
            omega
          go_wp2_with fail
          go_round
          case rel => exact ⟨j + 1, v * 256, by omega, by omega, by go_num, by go_num, by rw [HV.out, show j + 1 - k = (j - k) + 1 from by omega, Nat.pow_succ]⟩
          case measure => simp [intOf]; omega
        · have hj' : j = 3 := by omega
          have hq : y / v = (byteAt x k).toNat := by rw [HY.out, HV.out, hj']; exact part_byte x k hlt
          have hr : y % v = x % 256 ^ (4 - (k + 1)) := by rw [HY.out, HV.out, hj']; exact part_rest x k hlt
          have HQ := Lib.hid hq
          have HR := Lib.hid hr
          clear hq hr hj'
          obtain ⟨u, hc⟩ := hFr.cellAt (j := k) (by omega)
          have hz := hFr.frozenAt (j := k)
          have hdz : ((v : Int) == 0) = false := by simp; omega
          go_wp2_with fail
          have hst := hFr.store8 (0 + k) (byteAt x k)
          rw [← wd_get x k hlt, splice_step _ _ _ _ (by rw [len_wd]; exact hlt) (by simp [len_wd]), wd_get x k hlt, Nat.zero_add, ← HQ.out] at hst
          have hbt := UInt8.toNat_lt (byteAt x k)
          have e8 : (y : Int) / (v : Int) % 256 = ((y / v : Nat) : Int) := by
            rw [← HQ.out] at hbt
            rw [← Int.natCast_ediv]
            generalize y / v = t at hbt ⊢
            omega
          rw [← e8] at hst
          go_roundw
          case rel => exact ⟨k + 1, y % v, by omega, by go_num, rfl, HR.out, hst, hbr.setCell (Nat.le_refl _) _⟩
          case measure => simp [intOf]; omega
    · go_wp2_with fail
      go_ret
      have h := hFr
      rw [splice_all _ _ _ _ (by rw [len_wd]; omega), splice_zero _ _ _ (len_wd x)] at h
      exact ⟨_, _, rfl, h, hbr⟩

set_option maxRecDepth 100000 in
set_option maxHeartbeats 1000000 in
theorem rWord_any (A : Option Addr) (c n x : Nat) (l : List UInt8) (w : World) (hs : Sees w w.heap.size A (cb l)) (hl : l.length = n) (hn : n ≤ 1000000) (hx : x < 4294967296) :
    Calls Try.prog 36 #[.slice A n c, .int .u32 (x : Int)] w (Made8 w (n + 4) (l ++ wd x)) := by
  have HL := Lib.hid hl
  clear hl
  go_enter Try.func36, Try.ntmps36
  go_wp2_with fail
  refine (parts_any x w hx).mono ?_
  rintro e w1 ⟨A1, c1, rfl, hF1, hB1⟩
  go_wp2_with fail
  refine (behind_any A A1 c c1 n 4 l (wd x) w1 (hs.step hB1) hF1.sees HL.out (len_wd x) (by omega) (by omega)).mono ?_
  rintro e w2 ⟨A2, c2, rfl, hF2, hB2⟩
  go_wp2
  go_ret
  exact ⟨A2, c2, rfl, hF2.lower hB1.size, Below.then_ hB1 hB2⟩

set_option maxRecDepth 100000 in
set_option maxHeartbeats 1000000 in
theorem rUint_any (A : Option Addr) (c n x : Nat) (l : List UInt8) (w : World) (hs : Sees w w.heap.size A (cb l)) (hl : l.length = n) (hn : n ≤ 1000000) (hx : x < 18446744073709551616) :
    Calls Try.prog 34 #[.slice A n c, .int .u64 (x : Int)] w (Made8 w (n + nd x) (l ++ digs x)) := by
  have HL := Lib.hid hl
  have HX := Lib.hid hx
  have hd := (nd_bd x).2
  clear hl hx
  go_enter Try.func34, Try.ntmps34
  go_wp2_with fail
  refine (Varint_any x w HX.out).mono ?_
  rintro e w1 ⟨A1, c1, rfl, hF1, hB1⟩
  go_wp2_with fail
  refine (behind_any A A1 c c1 n (nd x) l (digs x) w1 (hs.step hB1) hF1.sees HL.out (len_digs x) (by omega) (by omega)).mono ?_
  rintro e w2 ⟨A2, c2, rfl, hF2, hB2⟩
  go_wp2
  go_ret
  exact ⟨A2, c2, rfl, hF2.lower hB1.size, Below.then_ hB1 hB2⟩

set_option maxRecDepth 100000 in
set_option maxHeartbeats 1000000 in
theorem rBlob_any (A B : Option Addr) (c d n m : Nat) (l b : List UInt8) (w : World) (hs : Sees w w.heap.size A (cb l)) (ht : Sees w w.heap.size B (cb b)) (hl : l.length = n) (hm : b.length = m) (hn : n ≤ 1000000) (hb : m ≤ 1000000) :
    Calls Try.prog 38 #[.slice A n c, .slice B m d] w (Made8 w (n + (nd m + m)) (l ++ blob b)) := by
  have HL := Lib.hid hl
  have HM := Lib.hid hm
  have hd := (nd_bd m).2
  clear hl hm
  go_enter Try.func38, Try.ntmps38
  go_wp2_with fail
  refine (Varint_any m w (by omega)).mono ?_
  rintro e w1 ⟨A1, c1, rfl, hF1, hB1⟩
  go_wp2_with fail
  refine (behind_any A A1 c c1 n (nd m) l (digs m) w1 (hs.step hB1) hF1.sees HL.out (len_digs m) (by omega) (by omega)).mono ?_
  rintro e w2 ⟨A2, c2, rfl, hF2, hB2⟩
  have hB12 := Below.then_ hB1 hB2
  go_wp2_with fail
  refine (behind_any A2 B c2 d (n + nd m) m (l ++ digs m) b w2 hF2.sees (ht.step hB12) (by rw [List.length_append, HL.out, len_digs]) HM.out (by omega) (by omega)).mono ?_
  rintro e w3 ⟨A3, c3, rfl, hF3, hB3⟩
  go_wp2
  go_ret
  refine ⟨A3, c3, by rw [Nat.add_assoc]; rfl, ?_, Below.then_ hB12 hB3⟩
  rw [blob, HM.out, ← List.append_assoc, ← Nat.add_assoc]
  exact hF3.lower hB12.size

set_option maxRecDepth 100000 in
set_option maxHeartbeats 1000000 in
theorem rGetWord_any (A : Option Addr) (c n : Nat) (P : Int) (l : List UInt8) (w : World) (hs : Sees w w.heap.size A (cb l)) (hl : l.length = n) (hn : n ≤ 1000) (hP : P ≤ 9223372036854775807) (x q r : Nat) (hR : getW l P = (x, q, r)) :
    Calls Try.prog 24 #[.slice A n c, .int .i64 P] w fun e w' => e = .returned (.tuple #[.int .u32 (x : Int), .int .i64 (q : Int), .int .i64 (r : Int)]) ∧ w = w' := by
  have HL := Lib.hid hl
  have HR := Lib.hid hR
  clear hl hR
  by_cases h0 : P < 0
  · have e : getW l P = (0, 0, 2) := getW_no (by simp [isAt]; omega)
    have HE := Lib.hid (HR.out.symm.trans e)
    clear e
    go_enter Try.func24, Try.ntmps24
    go_wp2
    go_ret3
    have h := HE.out
    simp only [Prod.mk.injEq] at h
    obtain ⟨rfl, rfl, rfl⟩ := h
    exact ⟨rfl, rfl⟩
  · obtain ⟨p, rfl⟩ := Int.eq_ofNat_of_zero_le (show 0 ≤ P by omega)
    by_cases h1 : n < p
    · have e : getW l (p : Int) = (0, 0, 2) := getW_no (by simp [isAt, HL.out]; omega)
      have HE := Lib.hid (HR.out.symm.trans e)
      clear e
      go_enter Try.func24, Try.ntmps24
      go_wp2
      go_ret3
      have h := HE.out
      simp only [Prod.mk.injEq] at h
      obtain ⟨rfl, rfl, rfl⟩ := h
      exact ⟨rfl, rfl⟩
    · have ha : isAt l.length (p : Int) = true := by simp [isAt, HL.out]; omega
      have hd0 : decide ((p : Int) < 0) = false := by simp
      have hd1 : decide (n < p) = false := by simp; omega
      by_cases h2 : n < p + 4
      · have e : getW l (p : Int) = (0, 0, 10) := by
          unfold getW
          rw [ha, if_pos rfl, HL.out, Int.toNat_natCast, if_pos h2]
        have HE := Lib.hid (HR.out.symm.trans e)
        clear e
        go_enter Try.func24, Try.ntmps24
        go_wp2
        go_ret3
        have h := HE.out
        simp only [Prod.mk.injEq] at h
        obtain ⟨rfl, rfl, rfl⟩ := h
        exact ⟨rfl, rfl⟩
      · have e : getW l (p : Int) = (wAt l p, p + 4, 0) := by
          unfold getW
          rw [ha, if_pos rfl, HL.out, Int.toNat_natCast, if_neg h2]
        have HE := Lib.hid (HR.out.symm.trans e)
        have hd2 : decide ((n : Int) < (p : Int) + 4) = false := by simp; omega
        clear e
        go_enter Try.func24, Try.ntmps24
        go_wp2_with fail
        go_loop [7, 8] (fun v i => ∃ k y : Nat, k ≤ 4 ∧ i = .int .i64 ((p : Int) + (k : Int)) ∧ v = .int .u32 (y : Int) ∧ y = wP l p k) (fun _ i => p + 4 - (intOf i).toNat)
        case atStart => exact ⟨0, 0, by omega, by simp, rfl, rfl⟩
        case round =>
          obtain ⟨k, y, hk, rfl, rfl, hy⟩ := hrel
          have HY := Lib.hid hy
          clear hy
          by_cases hlt : k < 4
          · have hy4 : y < 16777216 := by rw [HY.out]; exact wP_lt4 l p k hlt
            obtain ⟨b, o, rfl, hb, d, HD, hd, hc⟩ := hs.byte HL.out (show p + k < n by omega)
            go_wp2_with fail
            go_round
            case rel => exact ⟨k + 1, y * 256 + d.toNat, by omega, by go_num, by go_num, by rw [wP, HY.out, oct_get l (p + k) d HD.out]⟩
            case measure => simp [intOf]; omega
          · have hk4 : k = 4 := by omega
            have hw : y = wAt l p := by rw [HY.out, hk4, wP_four]
            have HW := Lib.hid hw
            clear hw hk4
            go_wp2_with fail
            go_ret3
            have h := HE.out
            simp only [Prod.mk.injEq] at h
            obtain ⟨rfl, rfl, rfl⟩ := h
            exact ⟨by rw [← HW.out]; rfl, rfl⟩
end Go.Proofs.Ytmkpopfaaebgfaa
