/-
  BytesFlash returns true for every input, and writes nothing that was there: the walk.
-/
import Derived.Test.YtbmolgfjdjpniaaTools
import Derived.Test.YtbmolgfjdjpniaaFlashPure
namespace Go.Proofs.Ytbmolgfjdjpniaa
open Go.RowKit
set_option linter.unusedVariables false

set_option maxRecDepth 100000 in
set_option maxHeartbeats 1000000 in
theorem flash_walk (A B : Option Addr) (n c m d : Nat) (s : Nat) (b : List UInt8) (l : List UInt32) (w : World) (hs : Sees w w.heap.size A (cb b)) (ht : Sees w w.heap.size B (cw l)) (hb : b.length = n) (hl : l.length = m) (hS : s < 65536) (hn : n ≤ 300) (hm : m ≤ 100) :
    Calls Try.prog 7 #[.slice A n c, .slice B m d, .int .u16 (s : Int)] w fun e w' => e = .returned (.bool true) ∧ Below w.heap.size w w' := by
  have Hb := Lib.hid hb
  have Hl := Lib.hid hl
  clear hb hl
  go_enter Try.func7, Try.ntmps7
  go_wp2_with fail
  refine (Words_made (m := (n + 3) / 4) hs Hb.out rfl rfl (by omega)).mono ?_
  rintro e w1 ⟨A1, c1, rfl, hF1, hB1⟩
  go_wp2_with fail
  refine (Bytes_told (N := n) (L := b) (r := 0) (by rw [← Hb.out]; exact getBytes_words b) hF1.sees (by rw [len_words, Hb.out]) Hb.out (by omega)).mono ?_
  rintro e w2 ⟨A2, c2, rfl, hF2, hB2⟩
  have hB12 := Below.then_ hB1 hB2
  have s1 := run_str hF2.sees Hb.out c2
  have s2 := run_str (hs.step hB12) Hb.out c
  go_wp2_with fail
  clear s1 s2
  have HK := Lib.hid (getBytes_all l (4 * (m : Int)) (by rw [Hl.out]))
  have HN := Lib.hid (show (bytesOf l).length = 4 * m by rw [len_bytesOf, Hl.out])
  refine (Bytes_told (N := 4 * m) HK.out (ht.step hB12) Hl.out HN.out (by omega)).mono ?_
  rintro e w3 ⟨A3, c3, rfl, hF3, hB3⟩
  have hB13 := Below.then_ hB12 hB3
  go_wp2_with fail
  refine (Words_made (m := m) (L := l) hF3.sees HN.out (by omega) (words_bytesOf l) (by omega)).mono ?_
  rintro e w4 ⟨A4, c4, rfl, hF4, hB4⟩
  have hB14 := Below.then_ hB13 hB4
  go_wp2_with fail
  refine (SameWords_below (r := true) (beq_self_eq_true l) hF4.sees (ht.step hB14) Hl.out Hl.out (by omega)).mono ?_
  rintro e w5 ⟨rfl, hB5⟩
  have hB15 := Below.then_ hB14 hB5
  go_wp2_with fail
  obtain ⟨k, hk⟩ : ∃ k : Nat, k = s % (4 * m + 1) := ⟨_, rfl⟩
  have hk1 : ((s : Int) % (4 * (m : Int) + 1)) = (k : Int) := by rw [hk]; simp
  have hk2 : k ≤ 4 * m := by rw [hk]; have := Nat.mod_lt s (show 0 < 4 * m + 1 by omega); omega
  clear hk
  rw [hk1]
  have HP := Lib.hid (getBytes_some l k (by rw [Hl.out]; exact hk2))
  have HQ := Lib.hid (show ((bytesOf l).take k).length = k by rw [List.length_take, HN.out]; omega)
  refine (Bytes_told (N := k) HP.out (ht.step hB15) Hl.out HQ.out (by omega)).mono ?_
  rintro e w6 ⟨A6, c6, rfl, hF6, hB6⟩
  have hB16 := Below.then_ hB15 hB6
  go_wp2_with fail
  refine (Bytes_told (N := 0) (L := []) (r := 10) (getBytes_past l _ (by rw [Hl.out]; omega)) (ht.step hB16) Hl.out rfl (by omega)).mono ?_
  rintro e w7 ⟨A7, c7, rfl, hF7, hB7⟩
  have hB17 := Below.then_ hB16 hB7
  have hcut : Sees w7 w7.heap.size A3 (cb ((bytesOf l).take k)) := by
    have := (((hF3.below hB4).below hB5).below hB6).below hB7
    have := this.sees.take_ k
    rwa [show (cb (bytesOf l)).take k = cb ((bytesOf l).take k) from by simp [cb]] at this
  have hc3 := hF3.cap
  go_wp2_with fail
  refine region_tail 16 (by kernel_rfl) (by kernel_rfl) ?_
  intro w8 hB8
  have s1 := run_str ((hF6.below hB7).sees.step hB8) HQ.out c6
  have s2 := run_str (hcut.step hB8) HQ.out c3
  have s3 := run_cut (w := w8) A3 (4 * m) c3 k (by omega)
  clear hF1 hF2 hF3 hF4 hF6 hF7 hcut
  simp only [List.take_succ_cons, List.take_zero, List.drop_succ_cons, List.drop_zero]
  repeat still_step
  refine wpStill_nil ?_
  clear s1 s2 s3
  go_wp2_with (go_at_call 17; refine (awake_any _).mono ?_; rintro e w9 ⟨rfl, hB9⟩)
  go_ret
  exact ⟨rfl, Below.then_ hB17 (Below.then_ hB8 hB9)⟩
set_option maxHeartbeats 400000 in
theorem flash_over (A B : Option Addr) (n c m d : Nat) (s : Int) (w : World) (h : 300 < n ∨ 100 < m) :
    Calls Try.prog 7 #[.slice A n c, .slice B m d, .int .u16 s] w fun e w' => e = .returned (.bool true) ∧ Below w.heap.size w w' := by
  rcases Nat.lt_or_ge 300 n with h1 | h1
  · go_enter Try.func7, Try.ntmps7
    go_wp2_with (go_at_call 17; refine (awake_any _).mono ?_; rintro e w9 ⟨rfl, hB9⟩)
    go_ret
    exact ⟨rfl, hB9⟩
  · have h2 : 100 < m := by omega
    go_enter Try.func7, Try.ntmps7
    go_wp2_with (go_at_call 17; refine (awake_any _).mono ?_; rintro e w9 ⟨rfl, hB9⟩)
    go_ret
    exact ⟨rfl, hB9⟩
theorem flash_law (a0 : Option Addr) (len0 cap0 : Nat) (z0 : List Int) (a1 : Option Addr) (len1 cap1 : Nat) (z1 : List Int) (a2 : Int) (w : World) (w0 : IsRow .u8 w a0 len0 cap0 z0) (w1 : IsRow .u32 w a1 len1 cap1 z1) (w2 : (Lit.int .u16 a2).wf = true) :
    Calls Try.prog 7 #[.slice a0 len0 cap0, .slice a1 len1 cap1, .int .u16 a2] w fun e w' => e = .returned (.bool true) ∧ Below w.heap.size w w' := by
  obtain ⟨b, hb, hs, _⟩ := row_bytes w0
  obtain ⟨l, hl, ht, _⟩ := row_words w1
  by_cases h : 300 < len0 ∨ 100 < len1
  · exact flash_over a0 a1 len0 cap0 len1 cap1 a2 w h
  · have h2 := bounds_u16 w2
    obtain ⟨s, rfl⟩ := Int.eq_ofNat_of_zero_le (show 0 ≤ a2 by omega)
    exact flash_walk a0 a1 len0 cap0 len1 cap1 s b l w hs ht hb hl (by omega) (by omega) (by omega)
end Go.Proofs.Ytbmolgfjdjpniaa
