/-
  TallyWears returns true for every input, and writes nothing that was there: the walk.
-/
import Derived.Test.YtjmofjcdcmbecaaTallyAwake
import Derived.Test.YtjmofjcdcmbecaaWearsPure
import Derived.Test.YtjmofjcdcmbecaaRow
namespace Go.Proofs.Ytjmofjcdcmbecaa
open Go.RowKit Go.Shelf
set_option linter.unusedVariables false

set_option maxHeartbeats 4000000 in
set_option maxRecDepth 100000 in
theorem wears_walk (z : Nat) (hz16 : z < 65536) (W : World) :
    Calls Try.prog 12 #[.int .u16 (z : Int)] W fun e w' => e = .returned (.bool true) ∧ Below W.heap.size W w' := by
  have h0 : Up6 (Fl.made 3 0) 1 := ⟨⟨by decide, by simp [Fl.made]⟩, rfl, rfl, rfl⟩
  have HW0 := Lib.hid worn_zero
  obtain ⟨m, hm⟩ : ∃ m, z % 4001 = m := ⟨_, rfl⟩
  have hm4 : m ≤ 4000 := by omega
  have HM := Lib.hid hm
  go_enter Try.func12, Try.ntmps12
  go_wp2_with fail
  refine (made6_any W).mono ?_
  rintro e w1 ⟨p, b, d, t, rfl, hT1, hB1⟩
  have hz1 := hB1.size
  go_wp2_with fail
  go_loopw [7, 8] (fun cv iv wr => ∃ (k c last : Nat) (S : Fl), k ≤ m ∧ iv = .int .i64 (k : Int) ∧ cv = .int .i64 (c : Int) ∧ Hid (c = (k + 1984) / 1985) ∧ TyAt W.heap.size wr t d p b 1 S last false ∧ Hid (Up6 S 1 ∧ Worn S 1 k) ∧ Below W.heap.size W wr ∧ W.heap.size ≤ wr.heap.size) (fun _ k _ => m - (intOf k).toNat)
  case atStart => exact ⟨0, 0, 0, Fl.made 3 0, by omega, rfl, rfl, Lib.hid rfl, hT1, Lib.hid ⟨h0, HW0.out⟩, hB1, hz1⟩
  case round =>
    obtain ⟨k, c, last, S, hk, rfl, rfl, HC, hT, HU, hB, hz⟩ := hrel
    clear hT1 hB1 hz1 h0 HW0
    by_cases hkm : k < m
    · obtain ⟨hup, hworn⟩ := HU.out
      obtain ⟨T, e1, e2, e3, e4⟩ := tstep_up hup hworn.count (by omega) last
      obtain ⟨f1, f2, f3⟩ := hworn.step (by omega) hup.two e2.two e4
      have hSt := fun (w' : World) (x : Below wr.heap.size wr w') (y : W.heap.size ≤ w'.heap.size) => Step_any (hT.below x) y T 0 (k + 1) false e1
      have hR1 := dRead_at hT.dr hup.down 0 128 (by omega)
      have hR2 := fun (w' : World) (D : DrAt W.heap.size w' d p b 1 2 T) => dRead_at D e2.down 0 128 (by omega)
      have hL1 : (S.at_ 1 0 128).length = 128 := hT.dr.at_len (by omega)
      have hL2 : (T.at_ 1 0 128).length = 128 := by
        have := e2.two.n
        have := e2.two.len
        simp [Fl.at_]
        omega
      have HN := Lib.hid (And.intro e2 f1)
      revert hR1 hR2 hL1 hL2 f2 f3
      generalize S.at_ 1 0 128 = L1
      generalize T.at_ 1 0 128 = L2
      intro f2 f3 hR1 hR2 hL1 hL2
      have HL1 := Lib.hid hL1
      have HL2 := Lib.hid hL2
      have HF := Lib.hid (And.intro f2 f3)
      have HSt := Lib.hid hSt
      have HR2 := Lib.hid hR2
      clear e1 e2 e3 e4 f1 f2 f3 hL1 hL2 hup hworn hSt hR2
      have hdk : decide ((k : Int) < (z : Int) % 4001) = true := by simp; omega
      go_wp2_with fail
      refine hR1.mono ?_
      rintro e w2 ⟨G1, rfl, hG1, hx2⟩
      have hT2 := hT.below hx2
      obtain ⟨hB2, hz2⟩ := hT.base0 hz hB hx2
      go_wp2_with fail
      refine (HSt.out w2 hx2 hz2).mono ?_
      rintro e w3 ⟨rfl, hT3, hx3⟩
      obtain ⟨hB3, hz3⟩ := hT2.base3 hz2 hB2 hx3
      have l1 := hG1.block.2
      have ltt := hT.lt.1
      have ltp := hT.dr.nor.lt.1
      have ltb := hT.dr.nor.lt.2.1
      have hG13 : Fresh wr.heap.size 22 w3 (some ⟨G1, 0, none⟩) 128 128 (cw L1) := hG1.kept (hx3.keep G1 hG1.lt_size (by omega) (by omega) (by omega))
      go_wp2_with fail
      refine (HR2.out w3 hT3.dr).mono ?_
      rintro e w4 ⟨G2, rfl, hG2, hx4⟩
      have hT4 := hT3.below hx4
      obtain ⟨hB4, hz4⟩ := hT3.base0 hz3 hB3 hx4
      have s1 := (hG13.below hx4).sees
      have s2 := hG2.sees
      clear hT2 hT3 hB2 hB3 hx2 hx3 hx4 hG1 hG2 hG13 HSt HR2 hR1 hT hB hz
      obtain ⟨D, hD⟩ : ∃ D, diffs L1 L2 = D := ⟨_, rfl⟩
      obtain ⟨R, hR⟩ : ∃ R, rises L1 L2 = R := ⟨_, rfl⟩
      have HD := Lib.hid hD
      have HR := Lib.hid hR
      have hDle : D ≤ 128 := by
        rw [← hD, ← HL1.out]
        exact diffs_le L1 L2
      clear hD hR
      go_wp2_with fail
      go_loopw [13, 14, 62] (fun wv rv jv wr => ∃ (j n : Nat) (r : Bool), j ≤ 128 ∧ jv = .int .i64 (j : Int) ∧ wv = .int .i64 (n : Int) ∧ rv = .bool r ∧ n ≤ 128 ∧ Hid (n + diffs (L1.drop j) (L2.drop j) = D) ∧ Hid ((r || rises (L1.drop j) (L2.drop j)) = R) ∧ ∃ q, wr = w4.drewN q) (fun _ _ jv _ => 128 - (intOf jv).toNat)
      case atStart => exact ⟨0, 0, false, by omega, rfl, rfl, rfl, by omega, Lib.hid (by simpa using HD.out), Lib.hid (by simpa using HR.out), 0, rfl⟩
      case round =>
        obtain ⟨j, n, r, hj, rfl, rfl, rfl, hn, HD2, HR2, q, rfl⟩ := hrel
        by_cases hj2 : j < 128
        · obtain ⟨ga, oa, ea, hga, x, HX, hx', hcx⟩ := s1.word HL1.out hj2
          obtain ⟨gb, ob, eb, hgb, y, HY, hy', hcy⟩ := s2.word HL2.out hj2
          obtain ⟨rfl, rfl⟩ : G1 = ga ∧ 0 = oa := by simpa using ea
          obtain ⟨rfl, rfl⟩ : G2 = gb ∧ 0 = ob := by simpa using eb
          rw [Nat.zero_add] at hcx hcy
          have hd2 := HD2.out
          have hr2 := HR2.out
          rw [drop_at32 HX.out, drop_at32 HY.out] at hd2 hr2
          simp only [diffs, rises] at hd2 hr2
          have hraw := andNot32 y x
          clear ea eb HD2 HR2 HD HR
          by_cases hxy : x = y
          · subst hxy
            rw [if_pos rfl] at hd2
            rw [nset_self] at hr2 hraw
            simp only [BEq.rfl, Bool.not_true, Bool.false_or, Nat.zero_add] at hd2 hr2
            have HD2 := Lib.hid hd2
            have HR2 := Lib.hid hr2
            clear hd2 hr2
            cases r
            · go_wp2_with fail
              go_quiet (fail)
              go_wp2_with fail
              go_quiet (fail)
              go_wp2_with fail
              go_roundw
              case rel => exact ⟨j + 1, n, false, by omega, by go_num, by go_num, rfl, by omega, HD2, HR2, _, rfl⟩
              case measure => simp [intOf]; omega
            · go_wp2_with fail
              go_quiet (fail)
              go_wp2_with fail
              go_quiet (fail)
              go_wp2_with fail
              go_roundw
              case rel => exact ⟨j + 1, n, true, by omega, by go_num, by go_num, rfl, by omega, HD2, HR2, _, rfl⟩
              case measure => simp [intOf]; omega
          · rw [if_neg hxy] at hd2
            have hne : ¬ ((x.toNat : Int) = (y.toNat : Int)) := fun e => hxy (UInt32.toNat_inj.1 (by omega))
            have hn1 : n + 1 ≤ 128 := by omega
            have HD2 : Hid (n + 1 + diffs (L1.drop (j + 1)) (L2.drop (j + 1)) = D) := Lib.hid (by omega)
            have ew : IntKind.i64.wrap ((n : Int) + 1) = (n : Int) + 1 := wrapI _ (by omega) (by omega)
            clear hd2 hxy
            cases r
            · obtain ⟨v, hv⟩ : ∃ v, nset y x = v := ⟨_, rfl⟩
              rw [hv] at hr2 hraw
              clear hv
              by_cases hv0 : v = 0
              · subst hv0
                have HR2 : Hid ((false || rises (L1.drop (j + 1)) (L2.drop (j + 1))) = R) := Lib.hid (by simpa using hr2)
                clear hr2
                go_wp2_with fail
                go_quiet (fail)
                go_wp2_with fail
                go_quiet (fail)
                go_wp2_with fail
                go_roundw
                case rel => exact ⟨j + 1, n + 1, false, by omega, by go_num, by go_num, rfl, by omega, HD2, HR2, _, rfl⟩
                case measure => simp [intOf]; omega
              · have HR2 : Hid ((true || rises (L1.drop (j + 1)) (L2.drop (j + 1))) = R) := Lib.hid (by rw [← hr2]; simp [hv0])
                have hvI : ¬ ((v : Int) = 0) := by omega
                clear hr2 hv0
                go_wp2_with fail
                go_quiet (fail)
                go_wp2_with fail
                go_quiet (fail)
                go_wp2_with fail
                go_roundw
                case rel => exact ⟨j + 1, n + 1, true, by omega, by go_num, by go_num, (by simp; omega), by omega, HD2, HR2, _, rfl⟩
                case measure => simp [intOf]; omega
            · have HR2 : Hid ((true || rises (L1.drop (j + 1)) (L2.drop (j + 1))) = R) := Lib.hid (by simpa using hr2)
              clear hr2
              go_wp2_with fail
              go_quiet (fail)
              go_wp2_with fail
              go_quiet (fail)
              go_wp2_with fail
              go_roundw
              case rel => exact ⟨j + 1, n + 1, true, by omega, by go_num, by go_num, rfl, by omega, HD2, HR2, _, rfl⟩
              case measure => simp [intOf]; omega
        · obtain rfl : j = 128 := by omega
          have hd2 := HD2.out
          have hr2 := HR2.out
          rw [List.drop_of_length_le (by rw [HL1.out]; exact Nat.le_refl _)] at hd2 hr2
          simp only [diffs, rises, Nat.add_zero, Bool.or_false] at hd2 hr2
          subst hd2 hr2
          have hf2 := HF.out.1
          have hf3 := HF.out.2
          rw [HD.out] at hf2 hf3
          rw [HR.out] at hf3
          have hc := HC.out
          have hT5 := hT4.below (below_drewN' (Below.refl w4.heap.size w4) q)
          have hB5 := below_drewN' hB4 q
          clear HD2 HR2 HD HR HF s1 s2 hT4 hB4
          have ec : IntKind.i64.wrap ((c : Int) + 1) = (c : Int) + 1 := wrapI _ (by omega) (by omega)
          by_cases hk0 : k % 1985 = 0
          · have hn1 := hf2 hk0
            have HC1 : Hid (c + 1 = (k + 1 + 1984) / 1985) := Lib.hid (by omega)
            have q1 : ((k : Int) % 1985 == 0) = true := by simp; omega
            have q2 : ¬ ((n : Int) < 1) := by omega
            clear hf2 hf3 hc HC
            go_wp2_with fail
            go_roundw
            case rel => exact ⟨k + 1, c + 1, k + 1, T, by omega, by go_num, by go_num, HC1, hT5, HN, hB5, hz4⟩
            case measure => simp [intOf]; omega
          · obtain ⟨rfl, rfl⟩ := hf3 hk0
            have HC1 : Hid (c = (k + 1 + 1984) / 1985) := Lib.hid (by omega)
            have q1 : ((k : Int) % 1985 == 0) = false := by simp; omega
            clear hf2 hf3 hc HC
            go_wp2_with fail
            go_roundw
            case rel => exact ⟨k + 1, c, k + 1, T, by omega, by go_num, rfl, HC1, hT5, HN, hB5, hz4⟩
            case measure => simp [intOf]; omega
    · obtain rfl : k = m := by omega
      go_wp2_with fail
      all_goals first | (exfalso; have := HC.out; have := HM.out; omega) | skip
      refine (awake6_any wr).mono ?_
      rintro e w2 ⟨rfl, hB2⟩
      go_wp2_with fail
      go_ret
      exact ⟨rfl, hB.trans (hB2.mono hz)⟩
theorem wears_law (W : World) (a0 : Int) (w0 : (Lit.int .u16 a0).wf = true) :
    Calls Try.prog 12 #[.int .u16 a0] W fun e w' => e = .returned (.bool true) ∧ Below W.heap.size W w' := by
  have hb := bounds_u16 w0
  obtain ⟨z, rfl⟩ := Int.eq_ofNat_of_zero_le hb.1
  exact wears_walk z (by omega) W
end Go.Proofs.Ytjmofjcdcmbecaa
