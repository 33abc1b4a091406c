/-
  AreaRoom returns true for every input, and writes nothing that was there: the walk.
-/
import Derived.Test.YthigepkcgijbbaaAreaLaw
import Derived.Test.YthigepkcgijbbaaAreaAwake
import Derived.Test.YthigepkcgijbbaaPartsOpen
import Derived.Deep.CutBlock
import Derived.Deep.OwnRows
namespace Go.Proofs.Ythigepkcgijbbaa
open Go.RowKit
set_option linter.unusedVariables false

theorem onesL_rep (n : Nat) : onesL (List.replicate n 4294967295) = true := by simp [onesL]
/-- What is behind all records is blank. -/
theorem blank_rest {S : Fl} {m u : Nat} {x : Ar} (h : AGood S 1 m x) (hu : u + x.left = 64 * (m - 1)) (a k : Int) (ha : a = ((64 + u : Nat) : Int)) (hk : k = ((64 * (m - 1) - u : Nat) : Int)) : S.blank 1 m a k = true := by
  subst ha hk
  have hm := h.live.many
  have hw : wordsOk m ((64 + u : Nat) : Int) ((64 * (m - 1) - u : Nat) : Int) = true := by simp [wordsOk]; omega
  have e : S.at_ 1 (64 + u) (64 * (m - 1) - u) = List.replicate x.left 4294967295 := by
    rw [← h.rest, show 64 * (m - 1) - x.left = u from by omega]
    unfold Fl.room Fl.at_
    rw [List.drop_take, List.drop_drop, Nat.add_assoc]
  unfold Fl.blank
  rw [hw, h.live.down, Int.toNat_natCast, Int.toNat_natCast, e, onesL_rep]
  rfl
theorem blank_all {S : Fl} {m : Nat} (hl : Live S 1 m) (h : OnesFrom S 1 m 0) (k : Int) (hk : k = ((64 * m : Nat) : Int)) : S.blank 1 m 0 k = true := by
  subst hk
  have hw : wordsOk m 0 ((64 * m : Nat) : Int) = true := by simp [wordsOk]; omega
  have e : S.at_ 1 0 (64 * m) = List.replicate (64 * m) 4294967295 := by
    apply List.ext_getElem?
    intro i
    unfold Fl.at_
    rw [List.getElem?_take, List.getElem?_replicate, List.getElem?_drop]
    by_cases hi : i < 64 * m
    · rw [if_pos hi, if_pos hi, Nat.add_zero]
      exact h i (Nat.zero_le _) hi
    · rw [if_neg hi, if_neg hi]
  unfold Fl.blank
  rw [hw, hl.down, Int.toNat_natCast, Int.toNat_zero, e, onesL_rep]
  rfl
theorem made8_cells (n : Nat) : madeCells #[Value.int .u8 0] n = (cb (List.replicate n 0)).toArray := by
  apply Array.toList_inj.1
  rw [toList_madeCells_one]
  simp [cb]
/-- So many noughts. -/
def z8 (n : Nat) : Obj := .cells (cb (List.replicate n 0)).toArray 5
theorem run_mk8 (n : Nat) (k : Int) (hk : k = (n : Int)) (hn : n ≤ 1099511627776) (w : World) : (Instr.makeSlice 27 (.int .i64 k) (.int .i64 k)).run Try.prog w = .ok (.slice (some ⟨w.heap.size, 0, none⟩) n n) (w.alloc (z8 n)) := by
  subst hk
  unfold z8
  rw [← made8_cells]
  exact run_make_row' 27 5 (.int .u8 0) 1 Try.underlying27 info8 rfl .i64 .i64 n (by omega) (by omega) w
section
variable {w w' : World} {base a d p b f m c n : Nat} {mk A : Option Addr} {over : Bool} {S : Fl} {x : Ar} {ps qs : List Pb} {B : Option Addr}
theorem off_new8 (hA : ArAt base w (some ⟨a, 0, none⟩) a d p b f m S x over A c ps) (n : Nat) (hn : n ≤ 1099511627776) : Off p b (w.alloc (z8 n)) (some ⟨w.heap.size, 0, none⟩) (cb (List.replicate n 0)) := by
  obtain ⟨l1, l2, -, -⟩ := hA.dr.nor.lt
  exact Off.fresh (Fresh.new w 5 (cb (List.replicate n 0)) n (by simp) hn) (by omega) (by omega)
set_option maxHeartbeats 16000000 in
set_option maxRecDepth 100000 in
theorem aroom_walk (s : UInt8) (A0 : Option Addr) (N C : Nat) (ls : List Pb) (W : World) (hf : Parts W A0 N ls) :
    Calls Try.prog 10 #[.int .u8 (s.toNat : Int), .slice A0 N C] W fun e w' => e = .returned (.bool true) ∧ Below W.heap.size W w' := by
  have HF := Lib.hid hf
  obtain ⟨r, hr⟩ : ∃ r, s.toNat % 3 = r := ⟨_, rfl⟩
  have hr3 : r < 3 := by omega
  have hs := s.toNat_lt
  obtain ⟨m, hm⟩ : ∃ m, 2 + r = m := ⟨_, rfl⟩
  have HMI : Hid (2 + (s.toNat : Int) % 3 = (m : Int)) := Lib.hid (by omega)
  have hm2 : 2 ≤ m := by omega
  have hm4 : m ≤ 4 := by omega
  have HG0 := Lib.hid (made_good m hm2)
  obtain ⟨R0, hR0⟩ : ∃ R0, roomI (emptyAr m).left = R0 := ⟨_, rfl⟩
  have HR0 := Lib.hid hR0
  clear hf hr hr3 hs hm hR0
  go_enter Try.func10, Try.ntmps10
  go_wp2_with fail
  rw [HMI.out]
  refine (made8_any m hm2 (by omega) W).mono ?_
  rintro e w1 ⟨p, b, d, a, A1, c1, ps1, rfl, hA1, hB1⟩
  have hz1 := hB1.size
  go_wp2_with fail
  refine (ARoom_any hA1 R0 HR0.out).mono ?_
  rintro e w2 ⟨rfl, rfl⟩
  go_wp2_with fail
  go_loopw [11, 12] (fun uv iv wr => ∃ (i u c : Nat) (A : Option Addr) (ps : List Pb) (S : Fl) (x : Ar), i ≤ 20 ∧ iv = .int .i64 (i : Int) ∧ uv = .int .i64 (u : Int) ∧ u ≤ 192 ∧ ArAt W.heap.size wr (some ⟨a, 0, none⟩) a d p b 1 m S x false A c ps ∧ Hid (AGood S 1 m x ∧ S.armed = false) ∧ Hid (u + x.left = 64 * (m - 1)) ∧ Below W.heap.size W wr ∧ W.heap.size ≤ wr.heap.size) (fun _ iv _ => 21 - (intOf iv).toNat)
  case atStart => exact ⟨0, 0, c1, A1, ps1, Fl.made (m + 1) 0, emptyAr m, by omega, rfl, rfl, by omega, hA1, Lib.hid ⟨HG0.out, rfl⟩, Lib.hid (by simp [emptyAr]), hB1, hz1⟩
  case round =>
    obtain ⟨i, u, c, A, ps, S, x, hi, rfl, rfl, hu, hA, HX, HU, hB, hz⟩ := hrel
    clear hA1 hB1 hz1 HG0 ps1
    by_cases hlt : i < N
    · by_cases hlt2 : i < 20
      · have hd1 : decide ((i : Int) < 20) = true := by simp; omega
        obtain ⟨g, o, rfl, pk, HPK, hpk, hck0⟩ := HF.out.at_ hlt
        have hgW : g < W.heap.size := World.block_lt_of_cell? _ _ hck0
        have HCK := Lib.hid (fun (w' : World) (y : Below W.heap.size W w') => (y.cell (p := ⟨g, o + i, none⟩) hgW).trans hck0)
        have HPS := Lib.hid hpk.sees
        have HPL := Lib.hid hpk.len
        have hck := HCK.out _ hB
        have hlf : x.left ≤ 192 := by have := HU.out; omega
        clear hck0 hpk
        by_cases hlen : pk.m ≤ 300
        · have hcmp : decide ((300 : Int) < (pk.m : Int)) = false := by simp; omega
          by_cases h2 : x.left < 2
          · as_aux_lemma =>
              have hRm : roomI x.left = -1 := by unfold roomI; rw [if_pos h2]
              have hmk := fun w => run_mk8 1 1 rfl (by omega) w
              go_wp2_with fail
              refine (ARoom_any hA (-1) hRm).mono ?_
              rintro e w3 ⟨rfl, rfl⟩
              have hba := below_alloc w3 (z8 1)
              have hA4 := hA.below hba
              have hoff := off_new8 hA 1 (by omega)
              have hB4 := hB.trans (hba.mono hz)
              have hz4 := Nat.le_trans hz hba.size
              have hfull : S.aappend 1 m x false (List.replicate 1 0) = (S, 5, x, false) := by
                unfold Fl.aappend
                simp only [List.length_replicate]
                rw [if_neg (by omega), if_pos (by unfold nW; omega)]
              have HFU := Lib.hid hfull
              clear hA hB hz hfull hba
              go_wp2_with fail
              refine (AAppend_any hA4 hz4 _ 1 1 (List.replicate 1 0) hoff (by simp) (by omega) S 5 x false HFU.out).mono ?_
              rintro e w5 ⟨rfl, A5, c5, ps5, hA5, hb5, ho5⟩
              have hlow5 := But4.low hA4 hz4 hb5
              have hB5 := hB4.trans hlow5
              have hz5 := Nat.le_trans hz4 hb5.size
              have hck := HCK.out _ hB5
              have hoff2 : Off p b w5 pk.A (cb pk.l) := (Aside.of_low hA5 hz5 (HPS.out.keep fun q hq => hB5.cell hq)).off
              clear hA4 hB4 hz4 hoff HFU hb5 ho5 hlow5 hmk
              have hfull : S.aappend 1 m x false pk.l = (S, 5, x, false) := by
                unfold Fl.aappend
                simp only [HPL.out]
                rw [if_neg (by omega), if_pos (by unfold nW; omega)]
              have HFU := Lib.hid hfull
              have q6 : decide ((pk.m : Int) ≤ (-1)) = false := by simp; omega
              clear hfull
              go_wp2_with fail
              refine (AAppend_any hA5 hz5 pk.A pk.m pk.c pk.l hoff2 HPL.out (by omega) S 5 x false HFU.out).mono ?_
              rintro e w7 ⟨rfl, A7, c7, ps7, hA7, hb7, ho7⟩
              have hlow7 := But4.low hA5 hz5 hb7
              have hB7 := hB5.trans hlow7
              have hz7 := Nat.le_trans hz5 hb7.size
              have hck := HCK.out _ hB7
              clear hA5 hB5 hz5 hoff2 HFU hb7 ho7 hlow7
              go_wp2_with fail
              refine (dBlank_any hA7.dr _ _ ?_ true ?_).mono ?_
              · omega
              · exact blank_rest HX.out.1 HU.out _ _ (by omega) (by have := HU.out; omega)
              rintro e w8 ⟨rfl, hB8⟩
              have hA8 := hA7.below hB8
              have hB9 := hB7.trans (hB8.mono hz7)
              have hz9 := Nat.le_trans hz7 hB8.size
              clear hA7 hB7 hz7 hB8
              go_wp2_with fail
              go_roundw
              case rel => exact ⟨i + 1, u, c7, A7, ps7, S, x, by omega, by go_num, rfl, by omega, hA8, HX, HU, hB9, hz9⟩
              case measure => simp [intOf]; omega
          · obtain ⟨R, hR⟩ : ∃ R, 4 * (x.left - 2) = R := ⟨_, rfl⟩
            have hRm : roomI x.left = (R : Int) := by unfold roomI; rw [if_neg h2, if_pos (by omega)]; omega
            have hR7 : R ≤ 760 := by omega
            have hmk := fun w => run_mk8 (R + 1) ((R : Int) + 1) rfl (by omega) w
            by_cases h3 : pk.m ≤ R
            · as_aux_lemma =>
                go_wp2_with fail
                refine (ARoom_any hA (R : Int) hRm).mono ?_
                rintro e w3 ⟨rfl, rfl⟩
                have hba := below_alloc w3 (z8 (R + 1))
                have hA4 := hA.below hba
                have hoff := off_new8 hA (R + 1) (by omega)
                have hB4 := hB.trans (hba.mono hz)
                have hz4 := Nat.le_trans hz hba.size
                have hfull : S.aappend 1 m x false (List.replicate (R + 1) 0) = (S, 5, x, false) := by
                  unfold Fl.aappend
                  simp only [List.length_replicate]
                  rw [if_neg (by omega), if_pos (by unfold nW; omega)]
                have HFU := Lib.hid hfull
                clear hA hB hz hfull hba
                go_wp2_with fail
                refine (AAppend_any hA4 hz4 _ (R + 1) (R + 1) (List.replicate (R + 1) 0) hoff (by simp) (by omega) S 5 x false HFU.out).mono ?_
                rintro e w5 ⟨rfl, A5, c5, ps5, hA5, hb5, ho5⟩
                have hlow5 := But4.low hA4 hz4 hb5
                have hB5 := hB4.trans hlow5
                have hz5 := Nat.le_trans hz4 hb5.size
                have hck := HCK.out _ hB5
                have hoff2 : Off p b w5 pk.A (cb pk.l) := (Aside.of_low hA5 hz5 (HPS.out.keep fun q hq => hB5.cell hq)).off
                clear hA4 hB4 hz4 hoff HFU hb5 ho5 hlow5 hmk
                obtain ⟨T, r, x', over', e1, e2, hTok, e4⟩ := append_law HX.out.1 pk.l (by rw [HPL.out]; omega)
                rcases e4 with ⟨-, -, -, -, h9⟩ | ⟨rfl, rfl, hxL, hx', f1, f2, f3⟩ | ⟨-, -, -, h9, -⟩
                · exfalso
                  rw [HPL.out] at h9
                  unfold nW at h9
                  omega
                · have q6 : decide ((pk.m : Int) ≤ (R : Int)) = true := by simp; omega
                  have HE1 := Lib.hid e1
                  have hxl : x'.left = x.left - nW pk.m := by rw [hx', HPL.out]
                  obtain ⟨u2, hu2⟩ : ∃ u2, u + nW pk.m = u2 := ⟨_, rfl⟩
                  have hnwb : nW pk.m ≤ x.left := by rw [← HPL.out]; exact f3
                  have hu3 : u2 ≤ 192 := by have := HU.out; omega
                  have HU2 : Hid (u2 + x'.left = 64 * (m - 1)) := Lib.hid (by have := HU.out; omega)
                  have HV : Hid ((u : Int) + (((pk.m : Int) + 3) / 4 + 2) = (u2 : Int)) := Lib.hid (by rw [← hu2]; unfold nW; omega)
                  have HX2 := Lib.hid (And.intro f1 (f2 HX.out.2))
                  clear e1 e2 hxl hu2 hxL hx' f1 f2 f3 hnwb hTok
                  go_wp2_with fail
                  refine (AAppend_any hA5 hz5 pk.A pk.m pk.c pk.l hoff2 HPL.out (by omega) T 0 x' false HE1.out).mono ?_
                  rintro e w7 ⟨rfl, A7, c7, ps7, hA7, hb7, ho7⟩
                  have hlow7 := But4.low hA5 hz5 hb7
                  have hB7 := hB5.trans hlow7
                  have hz7 := Nat.le_trans hz5 hb7.size
                  have hck := HCK.out _ hB7
                  clear hA5 hB5 hz5 hoff2 HE1 hb7 ho7 hlow7
                  go_wp2_with fail
                  rw [HV.out]
                  refine (dBlank_any hA7.dr _ _ ?_ true ?_).mono ?_
                  · omega
                  · exact blank_rest HX2.out.1 HU2.out _ _ (by omega) (by have := HU2.out; omega)
                  rintro e w8 ⟨rfl, hB8⟩
                  have hA8 := hA7.below hB8
                  have hB9 := hB7.trans (hB8.mono hz7)
                  have hz9 := Nat.le_trans hz7 hB8.size
                  clear hA7 hB7 hz7 hB8
                  go_wp2_with fail
                  go_roundw
                  case rel => exact ⟨i + 1, u2, c7, A7, ps7, T, x', by omega, by go_num, rfl, hu3, hA8, HX2, HU2, hB9, hz9⟩
                  case measure => simp [intOf]; omega
                · rw [HX.out.2] at h9
                  cases h9
            · as_aux_lemma =>
                go_wp2_with fail
                refine (ARoom_any hA (R : Int) hRm).mono ?_
                rintro e w3 ⟨rfl, rfl⟩
                have hba := below_alloc w3 (z8 (R + 1))
                have hA4 := hA.below hba
                have hoff := off_new8 hA (R + 1) (by omega)
                have hB4 := hB.trans (hba.mono hz)
                have hz4 := Nat.le_trans hz hba.size
                have hfull : S.aappend 1 m x false (List.replicate (R + 1) 0) = (S, 5, x, false) := by
                  unfold Fl.aappend
                  simp only [List.length_replicate]
                  rw [if_neg (by omega), if_pos (by unfold nW; omega)]
                have HFU := Lib.hid hfull
                clear hA hB hz hfull hba
                go_wp2_with fail
                refine (AAppend_any hA4 hz4 _ (R + 1) (R + 1) (List.replicate (R + 1) 0) hoff (by simp) (by omega) S 5 x false HFU.out).mono ?_
                rintro e w5 ⟨rfl, A5, c5, ps5, hA5, hb5, ho5⟩
                have hlow5 := But4.low hA4 hz4 hb5
                have hB5 := hB4.trans hlow5
                have hz5 := Nat.le_trans hz4 hb5.size
                have hck := HCK.out _ hB5
                have hoff2 : Off p b w5 pk.A (cb pk.l) := (Aside.of_low hA5 hz5 (HPS.out.keep fun q hq => hB5.cell hq)).off
                clear hA4 hB4 hz4 hoff HFU hb5 ho5 hlow5 hmk
                have hfull : S.aappend 1 m x false pk.l = (S, 5, x, false) := by
                  unfold Fl.aappend
                  simp only [HPL.out]
                  rw [if_neg (by omega), if_pos (by unfold nW; omega)]
                have HFU := Lib.hid hfull
                have q6 : decide ((pk.m : Int) ≤ (R : Int)) = false := by simp; omega
                clear hfull
                go_wp2_with fail
                refine (AAppend_any hA5 hz5 pk.A pk.m pk.c pk.l hoff2 HPL.out (by omega) S 5 x false HFU.out).mono ?_
                rintro e w7 ⟨rfl, A7, c7, ps7, hA7, hb7, ho7⟩
                have hlow7 := But4.low hA5 hz5 hb7
                have hB7 := hB5.trans hlow7
                have hz7 := Nat.le_trans hz5 hb7.size
                have hck := HCK.out _ hB7
                clear hA5 hB5 hz5 hoff2 HFU hb7 ho7 hlow7
                go_wp2_with fail
                refine (dBlank_any hA7.dr _ _ ?_ true ?_).mono ?_
                · omega
                · exact blank_rest HX.out.1 HU.out _ _ (by omega) (by have := HU.out; omega)
                rintro e w8 ⟨rfl, hB8⟩
                have hA8 := hA7.below hB8
                have hB9 := hB7.trans (hB8.mono hz7)
                have hz9 := Nat.le_trans hz7 hB8.size
                clear hA7 hB7 hz7 hB8
                go_wp2_with fail
                go_roundw
                case rel => exact ⟨i + 1, u, c7, A7, ps7, S, x, by omega, by go_num, rfl, by omega, hA8, HX, HU, hB9, hz9⟩
                case measure => simp [intOf]; omega
        · have hcmp : decide ((300 : Int) < (pk.m : Int)) = true := by simp; omega
          go_wp2_with fail
          go_roundw
          case rel => exact ⟨i + 1, u, c, A, ps, S, x, by omega, by go_num, rfl, hu, hA, HX, HU, hB, hz⟩
          case measure => simp [intOf]; omega
      · have hd1 : decide ((i : Int) < 20) = false := by simp; omega
        as_aux_lemma =>
          have hlf : x.left ≤ 192 := by have := HU.out; omega

          by_cases h2 : x.left < 2
          · have hRm : roomI x.left = -1 := by unfold roomI; rw [if_pos h2]
            go_wp2_with fail
            refine (ARoom_any hA (-1) hRm).mono ?_
            rintro e w3 ⟨rfl, rfl⟩
            have hAF := hA
            have hBF := hB
            have hzF := hz
            have HXF := HX
            clear hA hB hz HX HU
            obtain ⟨T, r, x', over', e1, e2, hTok, e4⟩ := empty_law HXF.out.1
            rcases e4 with ⟨rfl, rfl, hx', f1, f2, -⟩ | ⟨-, -, -, h9, -⟩
            · have HE1 := Lib.hid e1
              have HR1 : Hid (roomI x'.left = R0) := Lib.hid (by rw [hx']; exact HR0.out)
              have HXL : Hid (x'.L = []) := Lib.hid (by rw [hx']; rfl)
              have HF1 := Lib.hid (And.intro f1 f2)
              clear e1 e2 hx' f1 f2 hTok
              go_wp2_with fail
              refine (AEmpty_any hAF T 0 x' false HE1.out).mono ?_
              rintro e w7 ⟨rfl, A7, c7, ps7, hA7, hb7, ho7⟩
              have hlow7 := But4.low hAF hzF hb7
              have hB7 := hBF.trans hlow7
              have hz7 := Nat.le_trans hzF hb7.size
              clear hAF hBF hzF HE1 hb7 ho7 hlow7
              go_wp2_with fail
              refine (ARoom_any hA7 R0 HR1.out).mono ?_
              rintro e w8 ⟨rfl, rfl⟩
              go_wp2_with fail
              refine (All_any hA7).mono ?_
              rintro e w8 ⟨A8, c8, rs, rfl, hR8, hrl, hB8⟩
              obtain rfl : rs = [] := by rw [HXL.out] at hrl; simpa using hrl
              have hA8 := hA7.below hB8
              have hB9 := hB7.trans (hB8.mono hz7)
              have hz9 := Nat.le_trans hz7 hB8.size
              clear hA7 hB7 hz7 hB8 hR8 hrl
              go_wp2_with fail
              refine (dBlank_any hA8.dr 0 _ (by omega) true (blank_all HF1.out.1.live HF1.out.2 _ (by omega))).mono ?_
              rintro e w9 ⟨rfl, hBl⟩
              have hB10 := hB9.trans (hBl.mono hz9)
              have hz10 := Nat.le_trans hz9 hBl.size
              clear hA8 hB9 hz9 hBl
              go_wp2_with fail
              refine (awake8_any w9).mono ?_
              rintro e w10 ⟨rfl, hBa⟩
              go_wp2_with fail
              go_ret
              exact ⟨rfl, hB10.trans (hBa.mono hz10)⟩
            · rw [HXF.out.2] at h9
              cases h9
          · obtain ⟨R, hR⟩ : ∃ R, 4 * (x.left - 2) = R := ⟨_, rfl⟩
            have hRm : roomI x.left = (R : Int) := by unfold roomI; rw [if_neg h2, if_pos (by omega)]; omega
            have hR7 : R ≤ 760 := by omega
            have hmk := fun w => run_mk8 R (R : Int) rfl (by omega) w
            obtain ⟨T, r, x', over', e1, e2, hTok, e4⟩ := append_law HX.out.1 (List.replicate R 0) (by simp; omega)
            rcases e4 with ⟨-, -, -, -, h9⟩ | ⟨rfl, rfl, hxL, hx', f1, f2, f3⟩ | ⟨-, -, -, h9, -⟩
            · exfalso
              rw [List.length_replicate] at h9
              unfold nW at h9
              omega
            · have HE1 := Lib.hid e1
              have hRm2 : roomI x'.left = -1 := by
                rw [hx']
                simp only [List.length_replicate]
                unfold roomI nW
                rw [if_pos (by omega)]
              have HXF := Lib.hid (And.intro f1 (f2 HX.out.2))
              have hba := below_alloc wr (z8 R)
              have hA4 := hA.below hba
              have hoff := off_new8 hA R (by omega)
              have hB4 := hB.trans (hba.mono hz)
              have hz4 := Nat.le_trans hz hba.size
              clear e1 e2 hx' f1 f2 f3 hTok hxL
              go_wp2_with fail
              refine (ARoom_any hA (R : Int) hRm).mono ?_
              rintro e w3 ⟨rfl, rfl⟩
              clear hA hB hz hba
              go_wp2_with fail
              refine (AAppend_any hA4 hz4 _ R R (List.replicate R 0) hoff (by simp) (by omega) T 0 x' false HE1.out).mono ?_
              rintro e w5 ⟨rfl, A5, c5, ps5, hAF, hb5, ho5⟩
              have hlow5 := But4.low hA4 hz4 hb5
              have hBF := hB4.trans hlow5
              have hzF := Nat.le_trans hz4 hb5.size
              clear hA4 hB4 hz4 hoff HE1 hb5 ho5 hlow5 hmk
              go_wp2_with fail
              refine (ARoom_any hAF (-1) hRm2).mono ?_
              rintro e w6 ⟨rfl, rfl⟩
              go_wp2_with fail
              refine (ARoom_any hAF (-1) hRm2).mono ?_
              rintro e w6 ⟨rfl, rfl⟩
              obtain ⟨T, r, x', over', e1, e2, hTok, e4⟩ := empty_law HXF.out.1
              rcases e4 with ⟨rfl, rfl, hx', f1, f2, -⟩ | ⟨-, -, -, h9, -⟩
              · have HE1 := Lib.hid e1
                have HR1 : Hid (roomI x'.left = R0) := Lib.hid (by rw [hx']; exact HR0.out)
                have HXL : Hid (x'.L = []) := Lib.hid (by rw [hx']; rfl)
                have HF1 := Lib.hid (And.intro f1 f2)
                clear e1 e2 hx' f1 f2 hTok
                go_wp2_with fail
                refine (AEmpty_any hAF T 0 x' false HE1.out).mono ?_
                rintro e w7 ⟨rfl, A7, c7, ps7, hA7, hb7, ho7⟩
                have hlow7 := But4.low hAF hzF hb7
                have hB7 := hBF.trans hlow7
                have hz7 := Nat.le_trans hzF hb7.size
                clear hAF hBF hzF HE1 hb7 ho7 hlow7
                go_wp2_with fail
                refine (ARoom_any hA7 R0 HR1.out).mono ?_
                rintro e w8 ⟨rfl, rfl⟩
                go_wp2_with fail
                refine (All_any hA7).mono ?_
                rintro e w8 ⟨A8, c8, rs, rfl, hR8, hrl, hB8⟩
                obtain rfl : rs = [] := by rw [HXL.out] at hrl; simpa using hrl
                have hA8 := hA7.below hB8
                have hB9 := hB7.trans (hB8.mono hz7)
                have hz9 := Nat.le_trans hz7 hB8.size
                clear hA7 hB7 hz7 hB8 hR8 hrl
                go_wp2_with fail
                refine (dBlank_any hA8.dr 0 _ (by omega) true (blank_all HF1.out.1.live HF1.out.2 _ (by omega))).mono ?_
                rintro e w9 ⟨rfl, hBl⟩
                have hB10 := hB9.trans (hBl.mono hz9)
                have hz10 := Nat.le_trans hz9 hBl.size
                clear hA8 hB9 hz9 hBl
                go_wp2_with fail
                refine (awake8_any w9).mono ?_
                rintro e w10 ⟨rfl, hBa⟩
                go_wp2_with fail
                go_ret
                exact ⟨rfl, hB10.trans (hBa.mono hz10)⟩
              · rw [HXF.out.2] at h9
                cases h9
            · rw [HX.out.2] at h9
              cases h9
    · as_aux_lemma =>
        have hlf : x.left ≤ 192 := by have := HU.out; omega

        by_cases h2 : x.left < 2
        · have hRm : roomI x.left = -1 := by unfold roomI; rw [if_pos h2]
          go_wp2_with fail
          refine (ARoom_any hA (-1) hRm).mono ?_
          rintro e w3 ⟨rfl, rfl⟩
          have hAF := hA
          have hBF := hB
          have hzF := hz
          have HXF := HX
          clear hA hB hz HX HU
          obtain ⟨T, r, x', over', e1, e2, hTok, e4⟩ := empty_law HXF.out.1
          rcases e4 with ⟨rfl, rfl, hx', f1, f2, -⟩ | ⟨-, -, -, h9, -⟩
          · have HE1 := Lib.hid e1
            have HR1 : Hid (roomI x'.left = R0) := Lib.hid (by rw [hx']; exact HR0.out)
            have HXL : Hid (x'.L = []) := Lib.hid (by rw [hx']; rfl)
            have HF1 := Lib.hid (And.intro f1 f2)
            clear e1 e2 hx' f1 f2 hTok
            go_wp2_with fail
            refine (AEmpty_any hAF T 0 x' false HE1.out).mono ?_
            rintro e w7 ⟨rfl, A7, c7, ps7, hA7, hb7, ho7⟩
            have hlow7 := But4.low hAF hzF hb7
            have hB7 := hBF.trans hlow7
            have hz7 := Nat.le_trans hzF hb7.size
            clear hAF hBF hzF HE1 hb7 ho7 hlow7
            go_wp2_with fail
            refine (ARoom_any hA7 R0 HR1.out).mono ?_
            rintro e w8 ⟨rfl, rfl⟩
            go_wp2_with fail
            refine (All_any hA7).mono ?_
            rintro e w8 ⟨A8, c8, rs, rfl, hR8, hrl, hB8⟩
            obtain rfl : rs = [] := by rw [HXL.out] at hrl; simpa using hrl
            have hA8 := hA7.below hB8
            have hB9 := hB7.trans (hB8.mono hz7)
            have hz9 := Nat.le_trans hz7 hB8.size
            clear hA7 hB7 hz7 hB8 hR8 hrl
            go_wp2_with fail
            refine (dBlank_any hA8.dr 0 _ (by omega) true (blank_all HF1.out.1.live HF1.out.2 _ (by omega))).mono ?_
            rintro e w9 ⟨rfl, hBl⟩
            have hB10 := hB9.trans (hBl.mono hz9)
            have hz10 := Nat.le_trans hz9 hBl.size
            clear hA8 hB9 hz9 hBl
            go_wp2_with fail
            refine (awake8_any w9).mono ?_
            rintro e w10 ⟨rfl, hBa⟩
            go_wp2_with fail
            go_ret
            exact ⟨rfl, hB10.trans (hBa.mono hz10)⟩
          · rw [HXF.out.2] at h9
            cases h9
        · obtain ⟨R, hR⟩ : ∃ R, 4 * (x.left - 2) = R := ⟨_, rfl⟩
          have hRm : roomI x.left = (R : Int) := by unfold roomI; rw [if_neg h2, if_pos (by omega)]; omega
          have hR7 : R ≤ 760 := by omega
          have hmk := fun w => run_mk8 R (R : Int) rfl (by omega) w
          obtain ⟨T, r, x', over', e1, e2, hTok, e4⟩ := append_law HX.out.1 (List.replicate R 0) (by simp; omega)
          rcases e4 with ⟨-, -, -, -, h9⟩ | ⟨rfl, rfl, hxL, hx', f1, f2, f3⟩ | ⟨-, -, -, h9, -⟩
          · exfalso
            rw [List.length_replicate] at h9
            unfold nW at h9
            omega
          · have HE1 := Lib.hid e1
            have hRm2 : roomI x'.left = -1 := by
              rw [hx']
              simp only [List.length_replicate]
              unfold roomI nW
              rw [if_pos (by omega)]
            have HXF := Lib.hid (And.intro f1 (f2 HX.out.2))
            have hba := below_alloc wr (z8 R)
            have hA4 := hA.below hba
            have hoff := off_new8 hA R (by omega)
            have hB4 := hB.trans (hba.mono hz)
            have hz4 := Nat.le_trans hz hba.size
            clear e1 e2 hx' f1 f2 f3 hTok hxL
            go_wp2_with fail
            refine (ARoom_any hA (R : Int) hRm).mono ?_
            rintro e w3 ⟨rfl, rfl⟩
            clear hA hB hz hba
            go_wp2_with fail
            refine (AAppend_any hA4 hz4 _ R R (List.replicate R 0) hoff (by simp) (by omega) T 0 x' false HE1.out).mono ?_
            rintro e w5 ⟨rfl, A5, c5, ps5, hAF, hb5, ho5⟩
            have hlow5 := But4.low hA4 hz4 hb5
            have hBF := hB4.trans hlow5
            have hzF := Nat.le_trans hz4 hb5.size
            clear hA4 hB4 hz4 hoff HE1 hb5 ho5 hlow5 hmk
            go_wp2_with fail
            refine (ARoom_any hAF (-1) hRm2).mono ?_
            rintro e w6 ⟨rfl, rfl⟩
            go_wp2_with fail
            refine (ARoom_any hAF (-1) hRm2).mono ?_
            rintro e w6 ⟨rfl, rfl⟩
            obtain ⟨T, r, x', over', e1, e2, hTok, e4⟩ := empty_law HXF.out.1
            rcases e4 with ⟨rfl, rfl, hx', f1, f2, -⟩ | ⟨-, -, -, h9, -⟩
            · have HE1 := Lib.hid e1
              have HR1 : Hid (roomI x'.left = R0) := Lib.hid (by rw [hx']; exact HR0.out)
              have HXL : Hid (x'.L = []) := Lib.hid (by rw [hx']; rfl)
              have HF1 := Lib.hid (And.intro f1 f2)
              clear e1 e2 hx' f1 f2 hTok
              go_wp2_with fail
              refine (AEmpty_any hAF T 0 x' false HE1.out).mono ?_
              rintro e w7 ⟨rfl, A7, c7, ps7, hA7, hb7, ho7⟩
              have hlow7 := But4.low hAF hzF hb7
              have hB7 := hBF.trans hlow7
              have hz7 := Nat.le_trans hzF hb7.size
              clear hAF hBF hzF HE1 hb7 ho7 hlow7
              go_wp2_with fail
              refine (ARoom_any hA7 R0 HR1.out).mono ?_
              rintro e w8 ⟨rfl, rfl⟩
              go_wp2_with fail
              refine (All_any hA7).mono ?_
              rintro e w8 ⟨A8, c8, rs, rfl, hR8, hrl, hB8⟩
              obtain rfl : rs = [] := by rw [HXL.out] at hrl; simpa using hrl
              have hA8 := hA7.below hB8
              have hB9 := hB7.trans (hB8.mono hz7)
              have hz9 := Nat.le_trans hz7 hB8.size
              clear hA7 hB7 hz7 hB8 hR8 hrl
              go_wp2_with fail
              refine (dBlank_any hA8.dr 0 _ (by omega) true (blank_all HF1.out.1.live HF1.out.2 _ (by omega))).mono ?_
              rintro e w9 ⟨rfl, hBl⟩
              have hB10 := hB9.trans (hBl.mono hz9)
              have hz10 := Nat.le_trans hz9 hBl.size
              clear hA8 hB9 hz9 hBl
              go_wp2_with fail
              refine (awake8_any w9).mono ?_
              rintro e w10 ⟨rfl, hBa⟩
              go_wp2_with fail
              go_ret
              exact ⟨rfl, hB10.trans (hBa.mono hz10)⟩
            · rw [HXF.out.2] at h9
              cases h9
          · rw [HX.out.2] at h9
            cases h9
end
end Go.Proofs.Ythigepkcgijbbaa
