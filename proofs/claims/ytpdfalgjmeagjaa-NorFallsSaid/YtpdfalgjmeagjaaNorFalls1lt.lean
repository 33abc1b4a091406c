/-
  NorFalls returns true for every input, and writes nothing that was there: the walk, case 1 lt.
-/
import Derived.Test.YtpdfalgjmeagjaaNorFallsBase
namespace Go.Proofs.Ytpdfalgjmeagjaa
open Go.RowKit
set_option linter.unusedVariables false

set_option maxHeartbeats 16000000 in
set_option maxRecDepth 100000 in
theorem falls_1lt (A0 : Option Addr) (N0 c0 : Nat) (l0 : List Oc) (s t : Int) (A1 : Option Addr) (m1 c1 : Nat) (l1 : List UInt32) (zi : Int) (A3 : Option Addr) (q3 c3 : Nat) (ks : List Bool) (w : World)
    (hs0 : Sees w w.heap.size A0 (ocs l0)) (hl0 : l0.length = N0) (hok : ∀ o ∈ l0, o.Ok w.heap.size w) (σ κ K M1 : Nat) (hσ : σ < 4) (hκ : κ < 64) (hK : K < 70) (hrem : zi.tmod 70 = (K : Int)) (hM1 : M1 = min m1 (64 - κ)) (hPs : ∀ w, Calls Try.prog 30 #[.int .i64 s, .int .i64 4] w fun e w' => e = .returned (.int .i64 (σ : Int)) ∧ w' = w) (hPt : ∀ w, Calls Try.prog 30 #[.int .i64 t, .int .i64 64] w fun e w' => e = .returned (.int .i64 (κ : Int)) ∧ w' = w) (ha : ¬ (m1 : Int) ≤ 64 - (κ : Int)) (hKM : K < M1)
    (hs1 : Sees w w.heap.size A1 (cw l1)) (hl1 : l1.length = m1) (hc1 : m1 ≤ c1) (hs3 : Sees w w.heap.size A3 (cl ks)) (hl3 : ks.length = q3) :
    Calls Try.prog 7 #[.slice A0 N0 c0, .int .i64 s, .int .i64 t, .slice A1 m1 c1, .int .u8 zi, .slice A3 q3 c3] w fun e w' => e = .returned (.bool true) ∧ Below w.heap.size w w' := by
  have H0 := Lib.hid hl0
  have HO := Lib.hid hok
  have H1 := Lib.hid hl1
  have H3 := Lib.hid hl3
  have HPS := Lib.hid hPs
  have HPT := Lib.hid hPt
  clear hl0 hok hl1 hl3 hPs hPt
  have HKM := Lib.hid hKM
  have HMM := Lib.hid hM1
  have HAA := Lib.hid ha
  clear hKM hM1 ha
  have e8 : IntKind.u8.wrap (K : Int) = (K : Int) := by rw [IntKind.wrap_u8]; omega
  go_enter Try.func7, Try.ntmps7
  go_wp2_with fail
  refine (made_any A0 N0 c0 l0 hs0 H0.out HO.out).mono ?_
  rintro e w1 ⟨p, b, rfl, hN1, hB1⟩
  have hF1 : Free4 (made4 l0) (made4 l0).ws := ⟨(made4_up l0).2.2.2, (made4_up l0).1, (made4_up l0).2.1, (made4_up l0).2.2.1, rfl⟩
  have hlen := hN1.len
  rw [hF1.1] at hlen
  obtain ⟨x1, x2, g1, g2⟩ := hN1.lt
  generalize made4 l0 = T0 at *
  obtain ⟨ws0, hV⟩ : ∃ V, T0.ws = V := ⟨_, rfl⟩
  rw [hV] at hF1 hlen
  have HF1 := Lib.hid hF1
  have HLEN := Lib.hid hlen
  clear hV hF1 hlen
  go_wp2_with fail
  refine (HPS.out _).mono ?_
  rintro e w2 ⟨rfl, rfl⟩
  go_wp2_with fail
  refine (HPT.out _).mono ?_
  rintro e w2 ⟨rfl, rfl⟩
  have hM1 := HMM.out
  have ha := HAA.out
  have hcut1 := fun W => run_cut32 (w := W) A1 m1 c1 M1 (by omega)
  have hw64 := wrapI (64 - (κ : Int)) (by omega) (by omega)
  obtain ⟨L1, hL1⟩ : ∃ L, L = l1.take (64 - κ) := ⟨_, rfl⟩
  have HL1 := Lib.hid (show L1.length = M1 by rw [hL1, List.length_take, H1.out, hM1, Nat.min_comm])
  have hs1 : Sees w w.heap.size A1 (cw L1) := by
    have h := hs1.take_ (64 - κ)
    rwa [show (cw l1).take (64 - κ) = cw L1 from by rw [hL1]; simp only [cw, List.map_take]] at h
  have hM1k : κ + M1 ≤ 64 := by omega
  clear hL1
  rw [show ((M1 : Nat) : Int) = 64 - (κ : Int) from by omega] at hcut1
  clear hM1 HMM HAA
  go_wp2_with fail
  have hall := all_any hN1
  rw [HF1.out.1] at hall
  refine hall.mono ?_
  clear hall
  rintro e w3 ⟨GA, gc, rs0, rfl, hG3, hr0, hB3⟩
  have HR0 := Lib.hid hr0
  have hB03 := Below.then_ hB1 hB3
  have hN3 := hN1.below hB3
  clear hr0 hN1 hB3
  go_wp2_with fail
  refine (Arm_any hN3 (K : Int) (by omega)).mono ?_
  rintro e w4 ⟨rfl, hN4, hu4⟩
  have hG4 := hG3.but hu4 x1 x2
  have hB04 := hB03.trans (hu4.below g1 g2 hB03.size)
  obtain ⟨T1, r, hprog, hr, hdn, hhf, hF2⟩ := armed_prog T0 ws0 HF1.out K σ κ L1 hσ (by rw [HL1.out]; exact hM1k) ks
  rw [HL1.out] at hr hdn hF2
  have HF2 := Lib.hid hF2
  have HHF := Lib.hid hhf
  clear hhf hF2 hG3 hN3 hB03 hu4
  go_wp2_with fail
  refine (Program_any hN4 (σ : Int) (κ : Int) (by omega) M1 c1 A1 L1 hB04.size (hs1.below hB04) HL1.out T1 r hprog).mono ?_
  rintro e w5 ⟨rfl, hN5, hu5⟩
  have hG5 := hG4.but hu5 x1 x2
  have hB05 := hB04.trans (hu5.below g1 g2 hB04.size)
  clear hprog hG4 hN4 hB04 hu5
  have hKM := HKM.out
  clear HKM
  have r0 : (((r : Nat) : Int) == 0) = false := by simp; intro q; have := hr.1 q; omega
  rw [show decide (K < M1) = true from decide_eq_true hKM] at hdn
  have hqq : ((K : Int) == (M1 : Int)) = false := by simp; omega
  have hll : decide ((K : Int) < (M1 : Int)) = true := by simp; omega
  have hmm : (K : Int) ≤ (M1 : Int) := by omega
  obtain ⟨LD, hLD⟩ : ∃ LD, LD = L1.take K := ⟨_, rfl⟩
  have HLD := Lib.hid (show LD.length = K by rw [hLD, List.length_take, HL1.out]; omega)
  have hF2 := HF2.out
  rw [Nat.min_eq_left (by omega), ← hLD] at hF2
  have HY : Hid (∀ i, i < K → LD[i]? = L1[i]?) := Lib.hid fun i hi => by rw [hLD, List.getElem?_take, if_pos hi]
  clear hLD
  have HF2 := Lib.hid hF2
  clear hF2 hr
  go_wp2_with fail
  refine (Down_any hN5).mono ?_
  rintro e wx ⟨rfl, rfl⟩
  rw [hdn]
  go_wp2_with fail
  refine (Crash_any hN5 (.inl HHF.out) A3 q3 c3 ks hB05.size (hs3.below hB05) H3.out).mono ?_
  rintro e w6 ⟨rfl, hN6, hu6⟩
  have hG6 := hG5.but hu6 x1 x2
  have hB06 := hB05.trans (hu6.below g1 g2 hB05.size)
  generalize T1.crash ks = T2 at *
  obtain ⟨ws1, hws1⟩ : ∃ V, V = andL ws0 (σ * 64 + κ) LD := ⟨_, rfl⟩
  have hF2 := HF2.out
  rw [← hws1] at hF2
  have HL2 := Lib.hid (show ws1.length = 256 by rw [hws1, andL_len]; exact HLEN.out)
  have HW1 := Lib.hid hws1
  have HFF := Lib.hid hF2
  clear hF2 hws1 HF2 hG5 hN5 hB05 hu6 HHF hdn r0
  go_wp2_with fail
  have hall := all_any hN6
  rw [HFF.out.1] at hall
  refine hall.mono ?_
  clear hall
  rintro e w7 ⟨GB, gd, rs1, rfl, hG7, hr1, hB7⟩
  have HR1 := Lib.hid hr1
  have hB07 := Below.then_ hB06 hB7
  have hN7 := hN6.below hB7
  have hG0 := hG6.below hB7
  have lt6 := hB06.size
  have y1 : p < w6.heap.size := hN6.lt.1
  have y2 : b < w6.heap.size := hN6.lt.2.1
  clear hr1 hN6 hB7 hG6 hB06
  go_wp2_with fail
  go_loopw [87] (fun i wr => ∃ a : Nat, a ≤ 4 ∧ i = .int .i64 a ∧ Below w7.heap.size w7 wr) (fun i _ => 4 - (intOf i).toNat)
  case atStart => exact ⟨0, by omega, rfl, Below.refl _ _⟩
  case round =>
    obtain ⟨a, ha4, rfl, hBa⟩ := hrel
    obtain ⟨wa, hwa⟩ : ∃ wa, wa = wr := ⟨_, rfl⟩
    subst hwa
    by_cases hlt : a < 4
    · obtain ⟨ra, hra, hral⟩ := grid_row HR0.out a hlt
      obtain ⟨rb, hrb, hrbl⟩ := grid_row HR1.out a hlt
      have hlena : ra.l.length = 64 := by rw [hral]; exact words_len HF1.out HLEN.out a hlt
      have hlenb : rb.l.length = 64 := by rw [hrbl]; exact words_len HFF.out HL2.out a hlt
      obtain ⟨u1, v1, hGA, hca⟩ := (hG0.below hBa).row hra
      rw [hlena] at hca
      have HRA := Lib.hid hra
      have HRB := Lib.hid hrb
      have HRAL := Lib.hid hral
      have HRBL := Lib.hid hrbl
      have HGA := Lib.hid hGA
      subst hGA
      clear hra hrb hral hrbl
      go_wp2_with fail
      go_loopw [95] (fun i wr => ∃ j : Nat, j ≤ 64 ∧ i = .int .i64 j ∧ Below wa.heap.size wa wr) (fun i _ => 64 - (intOf i).toNat)
      case atStart => exact ⟨0, by omega, rfl, Below.refl _ _⟩
      case round =>
        obtain ⟨j, hj, rfl, hBj⟩ := hrel
        obtain ⟨wj, hwj⟩ : ∃ wj, wj = wr := ⟨_, rfl⟩
        subst hwj
        have hBaj := Below.then_ hBa hBj
        by_cases hltj : j < 64
        · obtain ⟨x0, hx0, hx0'⟩ := words_at HF1.out HLEN.out a j hlt hltj
          obtain ⟨xx, hx1, hx1'⟩ := words_at HFF.out HL2.out a j hlt hltj
          rw [HW1.out, andL_get, hx0'] at hx1'
          simp only [Option.map_some, Option.some.injEq] at hx1'
          rw [← HRAL.out] at hx0
          rw [← HRBL.out] at hx1
          obtain ⟨u2, v2, hA2, hc2⟩ := (hG0.below hBaj).row HRA.out
          obtain ⟨u3, v3, hA3', hc3'⟩ := (hG7.below hBaj).row HRB.out
          obtain ⟨u4, v4, hA4, hc4⟩ := (hG0.below hBaj).word HRA.out hx0
          obtain ⟨u5, v5, hA5, hc5⟩ := (hG7.below hBaj).word HRB.out hx1
          rw [hA4, hlena] at hc2
          rw [hA5, hlenb] at hc3'
          injection hA2 with hA2
          injection hA2 with q1 q2 _
          subst q1 q2 hA3'
          have HX1 := Lib.hid hx1'
          clear hx0 hx1 hx0' hx1' hA4 hA5 hca
          have hbj := below_drewN' hBj
          have hB0j := Below.then_ hB07 hBaj
          have hne : (((x0.toNat : Nat) : Int) != (x0.toNat : Int)) = false := by simp
          have hcz := clear1 x0
          have hsum := wrapI ((κ : Int) + (K : Int)) (by omega) (by omega)
          by_cases hcA : a = σ
          · have dA : ((a : Int) == (σ : Int)) = true := by simp [hcA]
            by_cases hcB : κ ≤ j
            · have dB : decide ((κ : Int) ≤ (j : Int)) = true := by simp; omega
              by_cases hcC : j < κ + K
              · have dC : decide ((j : Int) < (κ : Int) + (K : Int)) = true := by simp; omega
                obtain ⟨gl, ol, rfl, hgl, y, HYy, hy, hcy⟩ := (hs1.below hB0j).word HL1.out (show j - κ < M1 by omega)
                have hpk := pick_in LD σ κ a j K y hcA hcB (by rw [HY.out _ (by omega)]; exact HYy.out)
                have hxe := HX1.out
                rw [hpk] at hxe
                have hand := and32 x0 y
                have hsub : IntKind.i64.wrap ((j : Int) - (κ : Int)) = ((j - κ : Nat) : Int) := by rw [wrapI _ (by omega) (by omega)]; omega
                have hcz2 := clear0 x0 y
                rw [hxe] at hand hcz2
                have hne2 : (((xx.toNat : Nat) : Int) != (xx.toNat : Int)) = false := by simp
                have HXE := Lib.hid hxe
                clear hxe
                have HA := Lib.hid hcA
                clear hcA hpk hcz hne
                go_wp2_with fail
                go_quiet (fail)
                go_wp2_with fail
                go_roundw
                case rel => exact ⟨j + 1, by omega, by go_num, hbj _⟩
                case measure => simp [intOf]; omega
              · have dC : decide ((j : Int) < (κ : Int) + (K : Int)) = false := by simp; omega
                have hpk := pick_out LD σ κ a j K HLD.out (by omega) hltj (fun q => hcC q.2.2)
                have hxe := HX1.out
                rw [hpk, and_ones] at hxe
                subst hxe
                have HA := Lib.hid hcA
                clear hcA hpk hsum
                go_wp2_with fail
                go_quiet (fail)
                go_wp2_with fail
                go_roundw
                case rel => exact ⟨j + 1, by omega, by go_num, hbj _⟩
                case measure => simp [intOf]; omega
            · have dB : decide ((κ : Int) ≤ (j : Int)) = false := by simp; omega
              have hpk := pick_out LD σ κ a j K HLD.out (by omega) hltj (fun q => hcB q.2.1)
              have hxe := HX1.out
              rw [hpk, and_ones] at hxe
              subst hxe
              have HA := Lib.hid hcA
              clear hcA hpk hsum
              go_wp2_with fail
              go_quiet (fail)
              go_wp2_with fail
              go_roundw
              case rel => exact ⟨j + 1, by omega, by go_num, hbj _⟩
              case measure => simp [intOf]; omega
          · have dA : ((a : Int) == (σ : Int)) = false := by simp; omega
            have hpk := pick_out LD σ κ a j K HLD.out (by omega) hltj (fun q => hcA q.1)
            have hxe := HX1.out
            rw [hpk, and_ones] at hxe
            subst hxe
            have HA := Lib.hid hcA
            clear hcA hpk hsum
            go_wp2_with fail
            go_quiet (fail)
            go_wp2_with fail
            go_roundw
            case rel => exact ⟨j + 1, by omega, by go_num, hbj _⟩
            case measure => simp [intOf]; omega
        · go_wp2_with fail
          go_roundw
          case rel => exact ⟨a + 1, by omega, by go_num, Below.then_ hBa hBj⟩
          case measure => simp [intOf]; omega
    · go_wp2_with fail
      have hN8 := hN7.below hBa
      have hG8 := hG7.below hBa
      have hB08 := Below.then_ hB07 hBa
      clear hN7 hG7 hG0 hB07
      refine (Arm_any hN8 0 (by omega)).mono ?_
      rintro e w8 ⟨rfl, hN9, hu9⟩
      have hG9 := hG8.but hu9 y1 y2
      have hB09 := hB08.trans (hu9.below g1 g2 hB08.size)
      obtain ⟨T3, her, hok3, hF3⟩ := armed_erase T2 ws1 HFF.out σ hσ ks
      have HF3 := Lib.hid hF3
      clear hN8 hG8 hB08 hu9 hF3
      go_wp2_with fail
      refine (Erase_any hN9 (σ : Int) T3 40 her (by omega)).mono ?_
      rintro e w9 ⟨rfl, hN10, hu10⟩
      have hG10 := hG9.but hu10 y1 y2
      have hB10 := hB09.trans (hu10.below g1 g2 hB09.size)
      clear hN9 hG9 hB09 hu10 her
      go_wp2_with fail
      refine (Crash_any hN10 hok3 A3 q3 c3 ks hB10.size (hs3.below hB10) H3.out).mono ?_
      rintro e w10 ⟨rfl, hN11, hu11⟩
      have hG11 := hG10.but hu11 y1 y2
      have hB11 := hB10.trans (hu11.below g1 g2 hB10.size)
      generalize T3.crash ks = T4 at *
      obtain ⟨ws2, hws2⟩ : ∃ V, V = mask ws1 (σ * 64) (ks.take 64) := ⟨_, rfl⟩
      have hF4 := HF3.out
      rw [← hws2] at hF4
      have HL4 := Lib.hid (show ws2.length = 256 by rw [hws2, mask_len']; exact HL2.out)
      have HW2 := Lib.hid hws2
      have HF4 := Lib.hid hF4
      clear hF4 hws2 HF3 hN10 hG10 hB10 hu11
      go_wp2_with fail
      have hall := all_any hN11
      rw [HF4.out.1] at hall
      refine hall.mono ?_
      clear hall
      rintro e w12 ⟨GC, ge, rs2, rfl, hG12, hr2, hB12⟩
      have HR2 := Lib.hid hr2
      have hB012 := Below.then_ hB11 hB12
      have hG13 := hG11.below hB12
      clear hr2 hN11 hG11 hB11 hB12 hBa
      go_wp2_with fail
      go_loopw [169] (fun i wr => ∃ a : Nat, a ≤ 4 ∧ i = .int .i64 a ∧ Below w12.heap.size w12 wr) (fun i _ => 4 - (intOf i).toNat)
      case atStart => exact ⟨0, by omega, rfl, Below.refl _ _⟩
      case round =>
        obtain ⟨a, ha4, rfl, hBa⟩ := hrel
        obtain ⟨wa, hwa⟩ : ∃ wa, wa = wr := ⟨_, rfl⟩
        subst hwa
        by_cases hlt : a < 4
        · obtain ⟨rb, hrb, hrbl⟩ := grid_row HR1.out a hlt
          obtain ⟨rc, hrc, hrcl⟩ := grid_row HR2.out a hlt
          have hlenb : rb.l.length = 64 := by rw [hrbl]; exact words_len HFF.out HL2.out a hlt
          have hlenc : rc.l.length = 64 := by rw [hrcl]; exact words_len HF4.out HL4.out a hlt
          obtain ⟨u1, v1, hGC, hca⟩ := (hG12.below hBa).row hrc
          rw [hlenc] at hca
          have HRB := Lib.hid hrb
          have HRC := Lib.hid hrc
          have HRBL := Lib.hid hrbl
          have HRCL := Lib.hid hrcl
          subst hGC
          clear hrb hrc hrbl hrcl
          go_wp2_with fail
          go_loopw [176] (fun i wr => ∃ j : Nat, j ≤ 64 ∧ i = .int .i64 j ∧ Below wa.heap.size wa wr) (fun i _ => 64 - (intOf i).toNat)
          case atStart => exact ⟨0, by omega, rfl, Below.refl _ _⟩
          case round =>
            obtain ⟨j, hj, rfl, hBj⟩ := hrel
            obtain ⟨wj, hwj⟩ : ∃ wj, wj = wr := ⟨_, rfl⟩
            subst hwj
            have hBaj := Below.then_ hBa hBj
            by_cases hltj : j < 64
            · obtain ⟨x1, hx1, hx1'⟩ := words_at HFF.out HL2.out a j hlt hltj
              obtain ⟨xx, hx2, hx2'⟩ := words_at HF4.out HL4.out a j hlt hltj
              rw [HW2.out, mask_get, hx1'] at hx2'
              rw [← HRBL.out] at hx1
              rw [← HRCL.out] at hx2
              obtain ⟨u3, v3, hA3', hc3'⟩ := (hG13.below hBaj).row HRB.out
              obtain ⟨u5, v5, hA5, hc5⟩ := (hG13.below hBaj).word HRB.out hx1
              obtain ⟨u6, v6, hA6, hc6⟩ := (hG12.below hBaj).word HRC.out hx2
              rw [hA5, hlenb] at hc3'
              rw [hA6] at *
              subst hA3'
              have HX2 := Lib.hid hx2'
              have hbj := below_drewN' hBj
              have hB0j := Below.then_ hB012 hBaj
              clear hx1 hx2 hx1' hx2' hA5 hA6 hca hbj
              by_cases hcA : a = σ
              · have dA : ((a : Int) == (σ : Int)) = true := by simp [hcA]
                by_cases hcB : j < q3
                · obtain ⟨gk, ok, rfl, hgk, xb, HXB, hcb⟩ := (hs3.below hB0j).bool H3.out hcB
                  cases xb
                  · have hxe := HX2.out
                    rw [if_neg (mask_out ks σ a j hltj (fun q => by rw [HXB.out] at q; cases q.2))] at hxe
                    simp only [Option.some.injEq] at hxe
                    subst hxe
                    have hne : (((x1.toNat : Nat) : Int) != (x1.toNat : Int)) = false := by simp
                    clear hcA
                    go_wp2_with fail
                    go_roundw
                    case rel => exact ⟨j + 1, by omega, by go_num, hBj⟩
                    case measure => simp [intOf]; omega
                  · have hxe := HX2.out
                    rw [if_pos (mask_in ks σ a j hltj hcA HXB.out)] at hxe
                    simp only [Option.map_some, Option.some.injEq] at hxe
                    have hne : (((xx.toNat : Nat) : Int) != 4294967295) = false := by rw [← hxe]; rfl
                    clear hxe
                    clear hcA
                    go_wp2_with fail
                    go_roundw
                    case rel => exact ⟨j + 1, by omega, by go_num, hBj⟩
                    case measure => simp [intOf]; omega
                · have hxe := HX2.out
                  rw [if_neg (mask_out ks σ a j hltj (fun q => by rw [List.getElem?_eq_none (by rw [H3.out]; omega)] at q; cases q.2))] at hxe
                  simp only [Option.some.injEq] at hxe
                  subst hxe
                  have hne : (((x1.toNat : Nat) : Int) != (x1.toNat : Int)) = false := by simp
                  clear hcA
                  go_wp2_with fail
                  go_roundw
                  case rel => exact ⟨j + 1, by omega, by go_num, hBj⟩
                  case measure => simp [intOf]; omega
              · have dA : ((a : Int) == (σ : Int)) = false := by simp; omega
                have hxe := HX2.out
                rw [if_neg (mask_out ks σ a j hltj (fun q => hcA q.1))] at hxe
                simp only [Option.some.injEq] at hxe
                subst hxe
                have hne : (((x1.toNat : Nat) : Int) != (x1.toNat : Int)) = false := by simp
                clear hcA
                go_wp2_with fail
                go_roundw
                case rel => exact ⟨j + 1, by omega, by go_num, hBj⟩
                case measure => simp [intOf]; omega
            · go_wp2_with fail
              go_roundw
              case rel => exact ⟨a + 1, by omega, by go_num, Below.then_ hBa hBj⟩
              case measure => simp [intOf]; omega
        · go_wp2_with fail
          refine (awake4_any _).mono ?_
          rintro e w13 ⟨rfl, hB13⟩
          go_wp2_with fail
          go_ret
          exact ⟨rfl, Below.then_ (Below.then_ hB012 hBa) hB13⟩
end Go.Proofs.Ytpdfalgjmeagjaa
