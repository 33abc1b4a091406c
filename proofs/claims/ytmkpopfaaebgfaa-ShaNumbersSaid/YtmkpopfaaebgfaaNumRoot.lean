/-
  What the document's own root and prime answer (layer 2).
-/
import Derived.Test.YtmkpopfaaebgfaaNumTimes
namespace Go.Proofs.Ytmkpopfaaebgfaa
open Go.RowKit
set_option linter.unusedVariables false

def pwr (pw x : Nat) : Nat := match Nat.beq pw 3 with
  | true => x * x * x
  | false => x * x
def bitOf : Nat → Nat
  | 0 => 0
  | j + 1 => 2 ^ j
def rootGo (p pw : Nat) : Nat → Nat → Nat
  | 0, c => c
  | j + 1, c => rootGo p pw j (match Nat.ble (pwr pw (c + bitOf (j + 1))) (p * 65536 ^ (2 * pw)) with
    | true => c + bitOf (j + 1)
    | false => c)
def rootF (p pw : Nat) : Nat := rootGo p pw 36 0 % 4294967296
theorem bit_half (j : Nat) : bitOf (j + 1) / 2 = bitOf j := by
  cases j with
  | zero => rfl
  | succ j => show 2 ^ (j + 1) / 2 = 2 ^ j; rw [Nat.pow_succ]; omega
theorem bit_pos (j : Nat) : 0 < bitOf (j + 1) := Nat.two_pow_pos j
theorem bit_two (j : Nat) : 2 * bitOf j ≤ bitOf (j + 1) := by
  have := bit_half j
  omega
set_option maxHeartbeats 4000000 in
set_option maxRecDepth 100000 in
theorem rroot_any (p pw : Nat) (hp : p ≤ 311) (hpw : pw = 2 ∨ pw = 3) (w : World) :
    Calls Try.prog 119 #[.int .u64 (p : Int), .int .i64 (pw : Int)] w fun e w' => e = .returned (.int .u32 (rootF p pw : Int)) ∧ Below w.heap.size w w' := by
  obtain ⟨M, hM⟩ : ∃ M, 2 * pw = M := ⟨_, rfl⟩
  have hM6 : M ≤ 6 := by omega
  have hpw3 : pw ≤ 3 := by omega
  have HPW := Lib.hid hpw
  have HMM := Lib.hid hM
  have eM : 2 * (pw : Int) = (M : Int) := by omega
  have e3 : ((pw : Int) == 3) = Nat.beq pw 3 := by
    rcases hpw with rfl | rfl <;> rfl
  obtain ⟨b3, hb3⟩ : ∃ b, Nat.beq pw 3 = b := ⟨_, rfl⟩
  rw [hb3] at e3
  have HB3 := Lib.hid hb3
  clear hpw hM hb3
  go_enter Try.func119, Try.ntmps119
  go_wp2_with (with_reducible refine wpList_mk32 (o := ⟨some 12, _, _, _, _, _⟩) rfl (.tmp 11) rfl _ M rfl (by omega) (by omega) ?_; intro w1 hF1 hB1)
  refine (rdigits_any p w1 (by omega)).mono ?_
  rintro e w2 ⟨v2, rfl, ⟨A2, n2, c2, l2, rfl, hF2, hl2, hn2, HS2, HD2⟩, hB2⟩
  have hFm := hF1.below hB2
  have hB02 := Below.then_ hB1 hB2
  clear hF1 hB1 hB2
  go_wp2_with (at_builtin; refine wpList_app32 rfl (.tmp 13) (.tmp 15) rfl (some ⟨w.heap.size, 0, none⟩) A2 M M n2 c2 (List.replicate M 0) l2 w rfl rfl hFm hF2.sees hl2 (by omega) hB02 ?_; intro A3 c3 w3 hF3 hB3)
  obtain ⟨L, hL⟩ : ∃ L, List.replicate M 0 ++ l2 = L := ⟨_, rfl⟩
  rw [hL] at hF3
  obtain ⟨nL, hnL⟩ : ∃ n, M + n2 = n := ⟨_, rfl⟩
  rw [hnL] at hF3 ⊢
  have hnL9 : nL ≤ 9 := by omega
  have hLl : L.length = nL := by rw [← hL, List.length_append, List.length_replicate, hl2, hnL]
  have hLs : Small L := by rw [← hL]; exact small_append (small_zeros M) HS2.out
  have hLd : dv L = p * 65536 ^ (2 * pw) := by rw [← hL, dv_append, dv_zeros, List.length_replicate, HD2.out, HMM.out, Nat.zero_add, Nat.mul_comm]
  have HLl := Lib.hid hLl
  have HLs := Lib.hid hLs
  have HLd := Lib.hid hLd
  have hS3 := hF3.sees
  clear hL hnL hLl hLs hLd hFm hF2 hF3 hl2 hn2 hB02
  go_loopw [6, 7] (fun cv bv wr => ∃ (j c : Nat), j ≤ 36 ∧ bv = .int .u64 (bitOf j : Int) ∧ cv = .int .u64 (c : Int) ∧ c + 2 * bitOf j ≤ 68719476736 ∧ Hid (rootGo p pw j c = rootGo p pw 36 0) ∧ Below w3.heap.size w3 wr) (fun _ bv _ => (intOf bv).toNat)
  case atStart => exact ⟨36, 0, by omega, rfl, rfl, by decide, Lib.hid rfl, Below.refl _ _⟩
  case round =>
    obtain ⟨j, c, hj, rfl, rfl, hcb, HG, hB⟩ := hrel
    have hBw := Below.then_ hB3 hB
    cases j with
    | zero =>
      have e := HG.out
      have hc2 : c ≤ 68719476736 := by omega
      obtain ⟨x, hx⟩ : ∃ x, c % 4294967296 = x := ⟨_, rfl⟩
      have hxl : x < 4294967296 := by omega
      have hrem : ((c : Int)).tmod 4294967296 = (x : Int) := by rw [Int.tmod_eq_emod_of_nonneg (by omega)]; omega
      have er : rootF p pw = x := by
        unfold rootF
        rw [← e, ← hx]
        rfl
      have ER := Lib.hid er
      rw [show ((bitOf 0 : Nat) : Int) = 0 from rfl]
      clear e er hx hcb
      go_wp2_with fail
      go_ret
      exact ⟨by rw [ER.out]; rfl, hBw⟩
    | succ j =>
      have hbp := bit_pos j
      have hbh := bit_half j
      have hb2 := bit_two j
      have hg := HG.out
      rw [rootGo] at hg
      generalize hbj : bitOf (j + 1) = b at *
      generalize hbk : bitOf j = b0 at *
      have hb0 : decide ((0 : Int) < (b : Int)) = true := by simp; omega
      have hb00 : decide (0 < b) = true := by simp; omega
      have hquo : ((b : Int)).tdiv 2 = (b0 : Int) := by rw [Int.tdiv_eq_ediv_of_nonneg (by omega)]; omega
      obtain ⟨n, hn⟩ : ∃ n, c + b = n := ⟨_, rfl⟩
      rw [hn] at hg
      have ecb : (c : Int) + (b : Int) = (n : Int) := by omega
      have hn36 : n ≤ 68719476736 := by omega
      have HN := Lib.hid hn
      have HBJ := Lib.hid hbj
      have HBK := Lib.hid hbk
      have HGG := Lib.hid hg
      clear hbj hbk hg hbh
      have ewr : IntKind.u64.wrap ((c : Int) + (b : Int)) = (n : Int) := by rw [ecb, IntKind.wrap_u64]; omega
      go_wp2_with fail
      refine (rdigits_any n wr (by omega)).mono ?_
      rintro e w4 ⟨v4, rfl, ⟨A4, n4, c4, l4, rfl, hF4, hl4, hn4, HS4, HD4⟩, hB4⟩
      have hBw4 := Below.then_ hBw hB4
      go_wp2_with fail
      refine (rtimes_any A4 A4 n4 c4 n4 c4 l4 l4 w4 hF4.sees hF4.sees hl4 hl4 HS4.out HS4.out (by omega) (by omega) (n * n) (by rw [HD4.out])).mono ?_
      rintro e w5 ⟨v5, rfl, ⟨A5, n5, c5, l5, rfl, hF5, hl5, hn5, HS5, HD5⟩, hB5⟩
      have hBw5 := Below.then_ hBw4 hB5
      have S4 := hF4.sees.step hB5
      cases b3
      · have hpwn : pwr pw n = n * n := by unfold pwr; rw [HB3.out]
        have SL := hS3.step (Below.then_ (Below.then_ hB hB4) hB5)
        have hB45 := Below.then_ hB4 hB5
        clear S4 hF4 hB5 hB4
        cases hbl : Nat.ble (pwr pw n) (p * 65536 ^ (2 * pw))
        · have hgg := HGG.out
          rw [hbl] at hgg
          simp only at hgg
          have hgt : decide (dv L < dv l5) = true := by
            rw [HLd.out, HD5.out]
            refine decide_eq_true ?_
            rcases Nat.lt_or_ge (p * 65536 ^ (2 * pw)) (pwr pw n) with h | h
            · rwa [hpwn] at h
            · rw [Nat.ble_eq_true_of_le h] at hbl
              cases hbl
          have HG2 := Lib.hid hgg
          clear hgg hpwn
          go_wp2_with fail
          refine (rgreater_any _ _ _ _ _ _ l5 L w5 hF5.sees SL hl5 HLl.out HS5.out HLs.out (by omega) (by omega) true hgt).mono ?_
          rintro e w7 ⟨rfl, rfl⟩
          clear hgt
          go_wp2_with fail
          go_roundw
          case rel => exact ⟨j, c, by omega, by rw [HBK.out], rfl, by rw [HBK.out]; omega, HG2, Below.then_ hB hB45⟩
          case measure => simp [intOf]; omega
        · have hgg := HGG.out
          rw [hbl] at hgg
          simp only at hgg
          have hgt : decide (dv L < dv l5) = false := by
            rw [HLd.out, HD5.out]
            refine decide_eq_false ?_
            have := Nat.le_of_ble_eq_true hbl
            rw [hpwn] at this
            omega
          have HG2 := Lib.hid hgg
          clear hgg hpwn
          go_wp2_with fail
          refine (rgreater_any _ _ _ _ _ _ l5 L w5 hF5.sees SL hl5 HLl.out HS5.out HLs.out (by omega) (by omega) false hgt).mono ?_
          rintro e w7 ⟨rfl, rfl⟩
          clear hgt
          go_wp2_with fail
          go_roundw
          case rel => exact ⟨j, n, by omega, by rw [HBK.out], rfl, by rw [HBK.out]; omega, HG2, Below.then_ hB hB45⟩
          case measure => simp [intOf]; omega
      · have hpwn : pwr pw n = n * n * n := by unfold pwr; rw [HB3.out]
        go_wp2_with fail
        refine (rtimes_any A5 A4 n5 c5 n4 c4 l5 l4 w5 hF5.sees S4 hl5 hl4 HS5.out HS4.out (by omega) (by omega) (n * n * n) (by rw [HD5.out, HD4.out])).mono ?_
        rintro e w6 ⟨v6, rfl, ⟨A6, n6, c6, l6, rfl, hF6, hl6, hn6, HS6, HD6⟩, hB6⟩
        have hBw6 := Below.then_ hBw5 hB6
        have SL := hS3.step (Below.then_ (Below.then_ (Below.then_ hB hB4) hB5) hB6)
        have hB46 := Below.then_ (Below.then_ hB4 hB5) hB6
        clear S4 hF5 hF4 hB5 hB4 hB6
        cases hbl : Nat.ble (pwr pw n) (p * 65536 ^ (2 * pw))
        · have hgg := HGG.out
          rw [hbl] at hgg
          simp only at hgg
          have hgt : decide (dv L < dv l6) = true := by
            rw [HLd.out, HD6.out]
            refine decide_eq_true ?_
            rcases Nat.lt_or_ge (p * 65536 ^ (2 * pw)) (pwr pw n) with h | h
            · rwa [hpwn] at h
            · rw [Nat.ble_eq_true_of_le h] at hbl
              cases hbl
          have HG2 := Lib.hid hgg
          clear hgg hpwn
          go_wp2_with fail
          refine (rgreater_any _ _ _ _ _ _ l6 L w6 hF6.sees SL hl6 HLl.out HS6.out HLs.out (by omega) (by omega) true hgt).mono ?_
          rintro e w7 ⟨rfl, rfl⟩
          clear hgt
          go_wp2_with fail
          go_roundw
          case rel => exact ⟨j, c, by omega, by rw [HBK.out], rfl, by rw [HBK.out]; omega, HG2, Below.then_ hB hB46⟩
          case measure => simp [intOf]; omega
        · have hgg := HGG.out
          rw [hbl] at hgg
          simp only at hgg
          have hgt : decide (dv L < dv l6) = false := by
            rw [HLd.out, HD6.out]
            refine decide_eq_false ?_
            have := Nat.le_of_ble_eq_true hbl
            rw [hpwn] at this
            omega
          have HG2 := Lib.hid hgg
          clear hgg hpwn
          go_wp2_with fail
          refine (rgreater_any _ _ _ _ _ _ l6 L w6 hF6.sees SL hl6 HLl.out HS6.out HLs.out (by omega) (by omega) false hgt).mono ?_
          rintro e w7 ⟨rfl, rfl⟩
          clear hgt
          go_wp2_with fail
          go_roundw
          case rel => exact ⟨j, n, by omega, by rw [HBK.out], rfl, by rw [HBK.out]; omega, HG2, Below.then_ hB hB46⟩
          case measure => simp [intOf]; omega
set_option maxHeartbeats 1000000 in
theorem rprime_any (n : Nat) (h2 : 2 ≤ n) (hn : n ≤ 311) (r : Bool) (hr : ((List.range n).all fun k => Nat.blt k 2 || !(Nat.beq (n % k) 0)) = r) (w : World) :
    Calls Try.prog 118 #[.int .u64 (n : Int)] w fun e w' => e = .returned (.bool r) ∧ w = w' := by
  have HR := Lib.hid hr
  clear hr
  go_enter Try.func118, Try.ntmps118
  go_wp2_with fail
  go_loopw [3] (fun i wr => ∃ k : Nat, 2 ≤ k ∧ k ≤ n ∧ i = .int .u64 (k : Int) ∧ Hid (∀ j, 2 ≤ j → j < k → ¬ n % j = 0) ∧ w = wr) (fun i _ => n - (intOf i).toNat)
  case atStart => exact ⟨2, by omega, h2, rfl, Lib.hid (fun j h1 h2 => by omega), rfl⟩
  case round =>
    obtain ⟨k, hk2, hkn, rfl, HK, rfl⟩ := hrel
    by_cases hlt : k < n
    · have hq0 : decide ((k : Int) = 0) = false := by simp; omega
      have hq1 : ((k : Int) == 0) = false := by simp; omega
      obtain ⟨m, hm⟩ : ∃ m, n % k = m := ⟨_, rfl⟩
      have hrem : ((n : Int)).tmod (k : Int) = (m : Int) := by rw [Int.tmod_eq_emod_of_nonneg (by omega), ← hm, Int.natCast_emod]
      by_cases hm0 : m = 0
      · subst hm0
        obtain rfl : r = false := by
          rw [← HR.out, Bool.eq_false_iff]
          intro h
          have := List.all_eq_true.1 h k (List.mem_range.2 hlt)
          rw [hm] at this
          simp only [Bool.or_eq_true, Bool.not_eq_true'] at this
          rcases this with h1 | h1
          · have : k < 2 := Nat.le_of_ble_eq_true h1
            omega
          · cases h1
        have e0 : (((0 : Nat) : Int) == 0) = true := by simp
        clear hm
        go_wp2_with fail
        go_ret
        exact ⟨rfl, rfl⟩
      · have e0 : ((m : Int) == 0) = false := by simp; omega
        have HK2 : Hid (∀ j, 2 ≤ j → j < k + 1 → ¬ n % j = 0) := Lib.hid fun j h1 h2 => by
          rcases Nat.lt_or_ge j k with h3 | h3
          · exact HK.out j h1 h3
          · obtain rfl : j = k := by omega
            rw [hm]; exact hm0
        clear hm hm0
        go_wp2_with fail
        go_roundw
        case rel => exact ⟨k + 1, by omega, by omega, by go_num, HK2, trivial⟩
        case measure => simp [intOf]; omega
    · obtain rfl : k = n := by omega
      have hb : decide (k < k) = false := by simp
      obtain rfl : r = true := by
        rw [← HR.out, List.all_eq_true]
        intro j hj
        have hj := List.mem_range.1 hj
        rcases Nat.lt_or_ge j 2 with h1 | h1
        · rw [show Nat.blt j 2 = true from Nat.ble_eq_true_of_le h1]; rfl
        · have h3 := HK.out j h1 hj
          cases hz : Nat.beq (k % j) 0
          · simp
          · exact absurd (Nat.eq_of_beq_eq_true hz) h3
      go_wp2_with fail
      go_ret
      exact ⟨rfl, rfl⟩
end Go.Proofs.Ytmkpopfaaebgfaa
