/-
  DriveErases: what is erased is blank, takes any words, and nothing else is another one.
-/
import Derived.Test.YtmkpopfaaebgfaaErasesPure
import Derived.Test.YtmkpopfaaebgfaaDrAwake
import Derived.Test.YtmkpopfaaebgfaaPick
namespace Go.Proofs.Ytmkpopfaaebgfaa
open Go.RowKit
set_option linter.unusedVariables false

theorem made5_up5 {w : World} {base d p b f m : Nat} {l : List Oc} (h : DrAt base w d p b f m (made5 l)) : (made5 l).Up5 := by
  obtain ⟨h1, h2, h3, h4⟩ := made5_up l
  exact ⟨h1, h2, h4, by rw [h.nor.len, h4]⟩
set_option maxHeartbeats 4000000 in
set_option maxRecDepth 100000 in
theorem erases_walk (A : Option Addr) (N c : Nat) (o : List Oc) (z : Int) (B : Option Addr) (n q : Nat) (l : List UInt32) (W : World) (hs : Sees W W.heap.size A (ocs o)) (hl : o.length = N) (hok : ∀ x ∈ o, x.Ok W.heap.size W) (hz : -9223372036854775808 ≤ z ∧ z ≤ 9223372036854775807) (ht : Sees W W.heap.size B (cw l)) (hln : l.length = n) (hnq : n ≤ q) :
    Calls Try.prog 17 #[.slice A N c, .int .i64 z, .slice B n q] W fun e w' => e = .returned (.bool true) ∧ Below W.heap.size W w' := by
  have hMade := made5_any A N c o hs hl hok
  clear hs hl hok
  obtain ⟨M, hM⟩ : ∃ M, M = min n 64 := ⟨_, rfl⟩
  have hM1 : M ≤ q := by omega
  have hM2 : M ≤ 64 := by omega
  have hcut := fun w => run_cut32 (w := w) B n q M hM1
  have hs64 : Sees W W.heap.size B (cw (l.take 64)) := by
    have h1 := ht.take_ 64
    rwa [show (cw l).take 64 = cw (l.take 64) from by simp only [cw, List.map_take]] at h1
  have hl64 : (l.take 64).length = M := by rw [List.length_take, hln, hM, Nat.min_comm]
  clear ht hln hnq
  generalize l.take 64 = l7 at *
  have HL7 := Lib.hid hl64
  have hl64' : l7.length ≤ 64 := by omega
  clear hl64
  rcases (show (n ≤ 64 ∧ M = n) ∨ (¬ n ≤ 64 ∧ M = 64) by omega) with ⟨hm, rfl⟩ | ⟨hm, rfl⟩
  all_goals
    clear hM
    go_enter Try.func17, Try.ntmps17
    go_wp2_with fail
    refine hMade.mono ?_
    rintro e w1 ⟨p, b, d, rfl, hD, hB1⟩
    go_wp2_with fail
    refine (Pick_any z 3 w1 (by omega) (by omega) hz).mono ?_
    rintro e w2 ⟨s, hs3, rfl, rfl⟩
    have up := made5_up5 hD
    obtain ⟨S1, S2, S3, e1, up1, hbl, e2, up2, e3, up3, hfin⟩ := erases_pure up s hs3 l7 hl64'
    have HE1 := Lib.hid e1
    have HE2 := Lib.hid e2
    have HE3 := Lib.hid e3
    have HF := Lib.hid hfin
    have HBL := Lib.hid hbl
    clear e1 e2 e3 hfin hbl
    obtain ⟨hp1, hb1, hp2, hb2⟩ := hD.nor.lt
    have hOff : Off p b w2 B (cw l7) := Off.of hD.nor hB1.size (hs64.below hB1)
    have hw1 := wrapI (64 * (s : Int)) (by omega) (by omega)
    have hw1' := wrap64I (64 * (s : Int)) (by omega) (by omega)
    have hwas := hD.at_len (at_ := 0) (many := 192) (by omega)
    clear hMade hz
    go_wp2_with fail
    refine (dRead_at hD up.down 0 192 (by omega)).mono ?_
    rintro e w3 ⟨G, rfl, hFw, hB2⟩
    have hD3 := hD.below hB2
    have hGb := hFw.block.2
    go_wp2_with fail
    refine (dErase_any hD3 (s : Int) (by omega) S1 0 HE1.out (up1.n.trans up.n.symm)).mono ?_
    rintro e w4 ⟨rfl, hD4, hT1⟩
    go_wp2_with fail
    refine (dBlank_any hD4 (64 * (s : Int)) 64 (by omega) true HBL.out).mono ?_
    rintro e w5 ⟨rfl, hB3⟩
    have hD5 := hD4.below hB3
    have hT2 := hT1.then_ (But.of_below hB3)
    have hOff5 := (hOff.step (But.of_below hB2)).step hT2
    go_wp2_with fail
    refine (dWrite_any hD5 (64 * (s : Int)) (by omega) _ q B l7 hOff5 HL7.out hM1 S2 0 HE2.out).mono ?_
    rintro e w6 ⟨rfl, hD6, hT3⟩
    have hT4 := hT2.then_ hT3
    have hOff6 := hOff5.step hT3
    go_wp2_with fail
    refine (dWrite_any hD6 (64 * (s : Int)) (by omega) _ q B l7 hOff6 HL7.out hM1 S3 0 HE3.out).mono ?_
    rintro e w7 ⟨rfl, hD7, hT5⟩
    have hT6 := hT4.then_ hT5
    have hOff7 := hOff6.step hT5
    go_wp2_with fail
    refine (dRead_at hD7 up3.down 0 192 (by omega)).mono ?_
    rintro e w8 ⟨Gn, rfl, hFn, hB4⟩
    have hT8 := hT6.then_ (But.of_below hB4)
    have sw := (hFw.but hT8 (by omega) (by omega)).sees
    have sn := hFn.sees
    have sl := (hOff7.step (But.of_below hB4)).sees
    have hnow := hD7.at_len (at_ := 0) (many := 192) (by omega)
    have hBW : Below W.heap.size W w8 := (hB1.trans (hB2.mono hB1.size)).trans (hT8.below hp2 hb2 (Nat.le_trans hB1.size hB2.size))
    clear hT1 hT2 hT3 hT4 hT5 hT6 hT8 hOff hOff5 hOff6 hOff7 hD hD3 hD4 hD5 hD6 hD7 hFw hFn hB1 hB2 hB3 hB4 HE1 HE2 HE3 HBL hs64 hcut
    revert sw sn hwas hnow HF
    generalize (made5 o).at_ 1 0 192 = was
    generalize S3.at_ 1 0 192 = now
    intro HF hwas sw sn hnow
    have HWL := Lib.hid hwas
    have HNL := Lib.hid hnow
    clear hwas hnow
    go_wp2_with fail
    go_loopw [87] (fun i wr => ∃ k : Nat, k ≤ 192 ∧ i = .int .i64 (k : Int) ∧ wr = w8) (fun i _ => 192 - (intOf i).toNat)
    case atStart => exact ⟨0, Nat.zero_le _, rfl, rfl⟩
    case round =>
      obtain ⟨k, hk, rfl, rfl⟩ := hrel
      by_cases hlt : k < 192
      · obtain ⟨gw, ow, hgw, hgwl, x, HX, hx', hcx⟩ := sw.word HWL.out hlt
        simp only [Option.some.injEq, Addr.mk.injEq] at hgw
        obtain ⟨rfl, rfl, -⟩ := hgw
        obtain ⟨gn, on, hgn, hgnl, y, HY, hy', hcy⟩ := sn.word HNL.out hlt
        simp only [Option.some.injEq, Addr.mk.injEq] at hgn
        obtain ⟨rfl, rfl, -⟩ := hgn
        rw [Nat.zero_add] at hcx hcy
        have hpt := HF.out k hlt
        rw [HX.out, HY.out] at hpt
        obtain ⟨σ, hσ⟩ : ∃ σ, k / 64 = σ := ⟨_, rfl⟩
        obtain ⟨α, hα⟩ : ∃ α, k % 64 = α := ⟨_, rfl⟩
        have hquo : (k : Int).tdiv 64 = (σ : Int) := by rw [Int.tdiv_eq_ediv_of_nonneg (by omega)]; omega
        have hrem : (k : Int).tmod 64 = (α : Int) := by rw [Int.tmod_eq_emod_of_nonneg (by omega)]; omega
        have hα64 : α < 64 := by omega
        have hσ3 : σ < 3 := by omega
        rw [hσ, hα] at hpt
        clear hσ hα sw sn
        by_cases hs1 : σ = s
        · subst hs1
          rw [if_pos rfl] at hpt
          by_cases h2 : α < l7.length
          · obtain ⟨gl, ol, rfl, hgl, v, HV, hv', hcv⟩ := sl.word rfl h2
            rw [if_pos h2, HV.out] at hpt
            rw [HL7.out] at h2
            obtain rfl : y = v := by simpa using hpt
            clear hpt sl
            go_wp2_with fail
            go_roundw
            case rel => exact ⟨k + 1, by omega, by go_num, (by first | rfl | trivial)⟩
            case measure => simp [intOf]; omega
          · rw [if_neg h2] at hpt
            rw [HL7.out] at h2
            first
              | (exfalso; omega)
              | (obtain rfl : y = 4294967295 := by simpa using hpt
                 clear hpt sl
                 go_wp2_with fail
                 go_roundw
                 case rel => exact ⟨k + 1, by omega, by go_num, (by first | rfl | trivial)⟩
                 case measure => simp [intOf]; omega)
        · rw [if_neg hs1] at hpt
          obtain rfl : y = x := by simpa using hpt
          have h0 : ¬ ((σ : Int) = (s : Int)) := by omega
          have h1 : ((σ : Int) == (s : Int)) = false := by simp; omega
          have h3 : (wrap64 (σ : Int) == (s : Int)) = false := by rw [wrap64I _ (by omega) (by omega)]; simp; omega
          clear hpt sl
          go_wp2_with fail
          go_roundw
          case rel => exact ⟨k + 1, by omega, by go_num, (by first | rfl | trivial)⟩
          case measure => simp [intOf]; omega
      · obtain rfl : k = 192 := by omega
        go_wp2_with fail
        refine (awake5_any wr).mono ?_
        rintro e w9 ⟨rfl, hB9⟩
        go_wp2_with fail
        go_ret
        exact ⟨rfl, hBW.trans (hB9.mono hBW.size)⟩
end Go.Proofs.Ytmkpopfaaebgfaa
