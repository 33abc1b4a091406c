/-
  The walk of ShaPad: bytes with their padding.
-/
import Derived.Test.YtpdfalgjmeagjaaShaAwake
import Derived.Test.YtpdfalgjmeagjaaRow
namespace Go.Proofs.Ytpdfalgjmeagjaa
open Go.RowKit
set_option linter.unusedVariables false
/-- The number that bytes are, the highest first. -/
def valL (l : List UInt8) : Nat := l.foldl (fun n c => n * 256 + c.toNat) 0
theorem valL_snoc (l : List UInt8) (c : UInt8) : valL (l ++ [c]) = valL l * 256 + c.toNat := by simp [valL]
theorem val_be8 : ∀ p, p < 301 → ∀ k, k < 9 → valL ((be8 (8 * p)).take k) ≤ 2400 := by decide +kernel
theorem val_all : ∀ p, p < 301 → valL (be8 (8 * p)) = 8 * p := by decide +kernel
theorem pad_last (n : Nat) : (padL n).drop (1 + noughts n) = be8 (8 * n) := by
  unfold padL
  rw [show 1 + noughts n = noughts n + 1 from by omega, List.drop_succ_cons, List.drop_append, List.drop_of_length_le (by simp)]
  simp
theorem last8 (a : List UInt8) (n k : Nat) (ha : a.length = n) (hk : k + 8 = n + (9 + noughts n)) : (a ++ padL n).drop k = be8 (8 * n) := by
  rw [List.drop_append, List.drop_of_length_le (by omega), List.nil_append, ← pad_last]
  congr 1
  omega
theorem pad_inj (a b : List UInt8) (p q : Nat) (ha : a.length = p) (hb : b.length = q) (hp : p ≤ 300) (hq : q ≤ 300) : (a ++ padL p == b ++ padL q) = (a == b) := by
  rw [Bool.eq_iff_iff, beq_iff_eq, beq_iff_eq]
  constructor
  · intro h
    have hl := congrArg List.length h
    rw [List.length_append, List.length_append, len_padL, len_padL] at hl
    have h1 := last8 a p (p + (9 + noughts p) - 8) ha (by omega)
    have h2 := last8 b q (p + (9 + noughts p) - 8) hb (by omega)
    rw [h, h2] at h1
    have h3 := val_all p (by omega)
    have h4 := val_all q (by omega)
    rw [h1] at h4
    have : p = q := by omega
    subst this
    exact (List.append_inj h (by omega)).1
  · rintro rfl
    rw [show p = q from by omega]
set_option maxHeartbeats 1000000 in
set_option maxRecDepth 100000 in
theorem pad_walk (A B : Option Addr) (p c q d : Nat) (a b : List UInt8) (w : World) (hA : Sees w w.heap.size A (cb a)) (hB : Sees w w.heap.size B (cb b)) (ha : a.length = p) (hb : b.length = q) (hp : p ≤ 300) (hq : q ≤ 300) :
    Calls Try.prog 5 #[.slice A p c, .slice B q d] w fun e w' => e = .returned (.bool true) ∧ Below w.heap.size w w' := by
  have Ha := Lib.hid ha
  have Hb := Lib.hid hb
  clear ha hb
  obtain ⟨z, hz⟩ : ∃ z, noughts p = z := ⟨_, rfl⟩
  obtain ⟨y, hy⟩ : ∃ y, noughts q = y := ⟨_, rfl⟩
  have hz64 : z < 64 := by rw [← hz]; exact Nat.mod_lt _ (by omega)
  have hy64 : y < 64 := by rw [← hy]; exact Nat.mod_lt _ (by omega)
  have hlp := len_padL p
  have hlq := len_padL q
  rw [hz] at hlp
  rw [hy] at hlq
  have HZ := Lib.hid hz
  have HY := Lib.hid hy
  have HLP := Lib.hid hlp
  have HLQ := Lib.hid hlq
  clear hz hy hlp hlq
  obtain ⟨N, hN⟩ : ∃ N, p + (9 + z) = N := ⟨_, rfl⟩
  obtain ⟨M, hM⟩ : ∃ M, q + (9 + y) = M := ⟨_, rfl⟩
  have hN1 : p + 9 ≤ N := by omega
  have hN2 : N ≤ p + 72 := by omega
  have hM2 : M ≤ 600 := by omega
  have hmod : N % 64 = 0 := by
    have h := pad_whole p
    rw [HLP.out] at h
    omega
  have hmod' : ((N : Int) % 64 == 0) = true := by rw [beq_iff_eq]; omega
  have HMOD := Lib.hid hmod'
  have HN := Lib.hid hN
  have HM := Lib.hid hM
  clear hN hM hmod hmod'
  have g1 : decide (300 < (p : Int)) = false := by simp; omega
  have g2 : decide (300 < (q : Int)) = false := by simp; omega
  go_enter Try.func5, Try.ntmps5
  go_wp2_with fail
  refine (CopyBytes_any A c p a _ hA Ha.out (by omega)).mono ?_
  rintro e w1 ⟨A1, c1, rfl, hF1, hB1⟩
  go_wp2_with fail
  refine (Pad_made _ p (9 + z) _ _ rfl (by omega) (by rw [HZ.out]) rfl).mono ?_
  rintro e w2 ⟨A2, c2, rfl, hF2, hB2⟩
  have hB02 := Below.then_ hB1 hB2
  go_wp2_with (at_builtin; refine wpList_app8 rfl (.tmp 20) (.tmp 23) rfl A1 A2 p c1 (9 + z) c2 a (padL p) w rfl rfl (hF1.below hB2) hF2.sees HLP.out (by omega) hB02 ?_; intro A3 c3 w3 hF3 hB03; rw [HN.out] at hF3 ⊢)
  refine (CopyBytes_any B d q b _ (hB.step hB03) Hb.out (by omega)).mono ?_
  rintro e w4 ⟨A4, c4, rfl, hF4, hB4⟩
  go_wp2_with fail
  refine (Pad_made _ q (9 + y) _ _ rfl (by omega) (by rw [HY.out]) rfl).mono ?_
  rintro e w5 ⟨A5, c5, rfl, hF5, hB5⟩
  have hB35 := Below.then_ hB4 hB5
  go_wp2_with (at_builtin; refine wpList_app8 rfl (.tmp 26) (.tmp 29) rfl A4 A5 q c4 (9 + y) c5 b (padL q) w3 rfl rfl (hF4.below hB5) hF5.sees HLQ.out (by omega) hB35 ?_; intro A6 c6 w6 hF6 hB36; rw [HM.out] at hF6 ⊢; obtain ⟨K, hK⟩ : ∃ K, K + 8 = N := ⟨N - 8, by omega⟩; obtain ⟨A7, hfr, hS7⟩ := run_from A3 N c3 K (by omega) hF3.cap.1; rw [show (K : Int) = (N : Int) - 8 from by omega, show N - K = 8 from by omega] at hfr; have HK := Lib.hid hK; clear hK; have hmx : max ((N : Int) - 8) 0 = (N : Int) - 8 := by omega)
  have hS8 : Sees w6 w6.heap.size A7 (cb (be8 (8 * p))) := by
    have h := hS7 w6 w6.heap.size (cb (a ++ padL p)) (by have := hF3.len; exact this) (hF3.sees.step hB36)
    have e := last8 a p K Ha.out (by have h1 := HK.out; have h2 := HN.out; have h3 := HZ.out; omega)
    rwa [show (cb (a ++ padL p)).drop K = cb ((a ++ padL p).drop K) from by simp [cb], e] at h
  have hX6 := hF3.sees.step hB36
  have hY6 := hF6.sees
  have hB06 := Below.then_ hB03 hB36
  have hA6 := hA.step hB06
  have hBb6 := hB.step hB06
  clear hfr hmx hF1 hF2 hF3 hF4 hF5 hF6 hB1 hB2 hB02 hB4 hB5 hB35 hB03 hB36 hS7
  go_loop [7, 38] (fun v i => ∃ k : Nat, ∃ m : Nat, k ≤ 8 ∧ i = .int .i64 k ∧ v = .int .i64 m ∧ m ≤ 2400 ∧ Hid (m = valL ((be8 (8 * p)).take k))) (fun _ i => 8 - (intOf i).toNat)
  case atStart => exact ⟨0, 0, by omega, rfl, rfl, by omega, Lib.hid rfl⟩
  case round =>
    obtain ⟨k, m, hk, rfl, rfl, hm, HV⟩ := hrel
    by_cases hlt : k < 8
    · obtain ⟨b1, o1, rfl, hb1, x, HX, hx, hcx⟩ := hS8.byte (len_be8 _) hlt
      go_wp2
      go_round
      case rel =>
        have hv : valL ((be8 (8 * p)).take (k + 1)) = m * 256 + x.toNat := by
          rw [List.take_add_one, HX.out]
          show valL (_ ++ [x]) = _
          rw [valL_snoc, ← HV.out]
        refine ⟨k + 1, m * 256 + x.toNat, by omega, by go_num, ?_, ?_, Lib.hid hv.symm⟩
        · push_cast
          rfl
        · rw [← hv]
          exact val_be8 p (by omega) (k + 1) (by omega)
      case measure => simp [intOf]; omega
    · have hmp : m = 8 * p := by
        rw [HV.out, List.take_of_length_le (by rw [len_be8]; omega)]
        exact val_all p (by omega)
      have t1 : decide ((p : Int) + 8 < (N : Int)) = true := by simp; omega
      have t2 : decide ((N : Int) ≤ (p : Int) + 72) = true := by simp; omega
      have t3 : ((m : Int) == 8 * (p : Int)) = true := by rw [beq_iff_eq]; omega
      have t0 := HMOD.out
      have hsame := pad_inj a b p q Ha.out Hb.out hp hq
      clear hmp
      have HSA := Lib.hid hsame
      clear hsame
      go_wp2_with fail
      refine (SameBytes_any A3 A6 c3 c6 N M (a ++ padL p) (b ++ padL q) _ hX6 hY6 (by rw [List.length_append, Ha.out, HLP.out]; exact HN.out) (by rw [List.length_append, Hb.out, HLQ.out]; exact HM.out)).mono ?_
      rintro e w7 ⟨rfl, rfl⟩
      rw [HSA.out]
      go_wp2_with fail
      refine (SameBytes_any A B c d p q a b _ hA6 hBb6 Ha.out Hb.out).mono ?_
      rintro e w8 ⟨rfl, rfl⟩
      generalize (a == b) = r
      go_wp2_with (go_at_call 15; refine (awake2_any _).mono ?_; rintro e w9 ⟨rfl, hB9⟩)
      go_ret
      exact ⟨rfl, Below.then_ hB06 hB9⟩
set_option maxHeartbeats 400000 in
theorem pad_over (A B : Option Addr) (p c q d : Nat) (w : World) (h : 300 < p ∨ 300 < q) :
    Calls Try.prog 5 #[.slice A p c, .slice B q d] w fun e w' => e = .returned (.bool true) ∧ Below w.heap.size w w' := by
  rcases Nat.lt_or_ge 300 p with h1 | h1
  · go_enter Try.func5, Try.ntmps5
    go_wp2_with (go_at_call 15; refine (awake2_any _).mono ?_; rintro e w9 ⟨rfl, hB9⟩)
    go_ret
    exact ⟨rfl, hB9⟩
  · have h2 : 300 < q := by omega
    go_enter Try.func5, Try.ntmps5
    go_wp2_with (go_at_call 15; refine (awake2_any _).mono ?_; rintro e w9 ⟨rfl, hB9⟩)
    go_ret
    exact ⟨rfl, hB9⟩
theorem pad_law (a0 : Option Addr) (len0 cap0 : Nat) (z0 : List Int) (a1 : Option Addr) (len1 cap1 : Nat) (z1 : List Int) (w : World) (w0 : IsRow .u8 w a0 len0 cap0 z0) (w1 : IsRow .u8 w a1 len1 cap1 z1) :
    Calls Try.prog 5 #[.slice a0 len0 cap0, .slice a1 len1 cap1] w fun e w' => e = .returned (.bool true) ∧ Below w.heap.size w w' := by
  obtain ⟨a, ha, hs, _⟩ := row_bytes w0
  obtain ⟨b, hb, ht, _⟩ := row_bytes w1
  by_cases h : 300 < len0 ∨ 300 < len1
  · exact pad_over a0 a1 len0 cap0 len1 cap1 w h
  · exact pad_walk a0 a1 len0 cap0 len1 cap1 a b w hs ht ha hb (by omega) (by omega)
end Go.Proofs.Ytpdfalgjmeagjaa
