/-
  NorSteps returns true for every input, and writes nothing that was there: the walk.
-/
import Derived.Test.YtmeloffdaninmaaNorPair
import Derived.Test.YtmeloffdaninmaaNorGuardWalk
import Derived.Test.YtmeloffdaninmaaRegionJ
namespace Go.Proofs.Ytmeloffdaninmaa
open Go.RowKit
set_option linter.unusedVariables false

theorem getD_set_other {listed : Array Bool} {i j : Nat} (h : i ≠ j) : (listed.setIfInBounds i true).getD j false = listed.getD j false := by
  simp [h]
theorem getD_set_self {listed : Array Bool} {i : Nat} (h : listed.getD i true = false) : (listed.setIfInBounds i true).getD i false = true := by
  have hlt : i < listed.size := by
    rcases Nat.lt_or_ge i listed.size with h1 | h1
    · exact h1
    · simp [Array.getElem?_eq_none h1] at h
  simp [hlt]
theorem getD_false {listed : Array Bool} {i : Nat} (h : listed.getD i true = false) : listed.getD i false = false := by
  have hlt : i < listed.size := by
    rcases Nat.lt_or_ge i listed.size with h1 | h1
    · exact h1
    · simp [Array.getElem?_eq_none h1] at h
  simpa [hlt] using h
/-- What the operations of the two calls yield. -/
def stepVal (p q ra rb : Nat) (cs : List Value) (j : Nat) : Value := match j with
  | 0 => .pointer (some ⟨p, 0, none⟩)
  | 1 => .agg cs.toArray
  | 2 => .int .i64 (ra : Int)
  | 3 => .pointer (some ⟨q, 0, none⟩)
  | 4 => .agg cs.toArray
  | 5 => .int .i64 (rb : Int)
  | 6 => .int .i64 (ra : Int)
  | 7 => .int .i64 (rb : Int)
  | _ => undef
/-- What is known of the world between the two calls. -/
def stepJ (w wr : World) (p b q d ga : Nat) (x : Oc) (S S' T T' : Fl) (listed : Array Bool) (wz : World) : Prop :=
  Fresh wr.heap.size 111 wz (some ⟨ga, 0, none⟩) 5 5 x.cells ∧ Below w.heap.size w wz ∧ NorAt w.heap.size wz p b (cond (listed.getD 2 false) S' S) ∧ NorAt w.heap.size wz q d (cond (listed.getD 5 false) T' T)
theorem stepJ_other {w wr : World} {p b q d ga : Nat} {x : Oc} {S S' T T' : Fl} {listed : Array Bool} {wz : World} (h : stepJ w wr p b q d ga x S S' T T' listed wz) (i : Nat) (h2 : i ≠ 2) (h5 : i ≠ 5) : stepJ w wr p b q d ga x S S' T T' (listed.setIfInBounds i true) wz := by
  unfold stepJ
  rw [getD_set_other h2, getD_set_other h5]
  exact h
theorem rem201 (t : UInt8) : ∃ L : Nat, L < 201 ∧ ((t.toNat : Int).tmod 201) = (L : Int) := ⟨t.toNat % 201, Nat.mod_lt _ (by omega), by
  rw [Int.tmod_eq_emod_of_nonneg (by omega)]
  omega⟩
set_option maxHeartbeats 8000000 in
set_option maxRecDepth 100000 in
theorem steps_walk (A0 : Option Addr) (N0 c0 : Nat) (l0 : List Oc) (t : UInt8) (w : World) (hs0 : Sees w w.heap.size A0 (ocs l0)) (hl0 : l0.length = N0) (hok : ∀ o ∈ l0, o.Ok w.heap.size w) :
    Calls Try.prog 16 #[.slice A0 N0 c0, .int .u8 (t.toNat : Int)] w fun e w' => e = .returned (.bool true) ∧ Below w.heap.size w w' := by
  have H0 := Lib.hid hl0
  have HO := Lib.hid hok
  clear hl0 hok
  obtain ⟨L0, hL0, hrem⟩ := rem201 t
  generalize (t.toNat : Int) = z at *
  go_enter Try.func16, Try.ntmps16
  go_wp2_with fail
  refine (New_yes 4 2 (by omega) (by omega) (by omega) (by omega)).mono ?_
  rintro e w1 ⟨p, b, rfl, hA1, hB1⟩
  go_wp2_with fail
  refine (New_yes 4 2 (by omega) (by omega) (by omega) (by omega)).mono ?_
  rintro e w2 ⟨q, d, rfl, hC2, hB2⟩
  obtain ⟨x1, x2, g1, g2⟩ := hA1.lt
  obtain ⟨y1, y2, y3, y4⟩ := hC2.lt
  have z1 := hB1.size
  have g3 : w.heap.size ≤ q := Nat.le_trans z1 y3
  have g4 : w.heap.size ≤ d := Nat.le_trans z1 y4
  have ne1 : p ≠ q := by omega
  have ne2 : p ≠ d := by omega
  have ne3 : b ≠ q := by omega
  have ne4 : b ≠ d := by omega
  have hA2 := hA1.below hB2
  have hC2' := hC2.lower z1
  have hB02 := Below.then_ hB1 hB2
  clear hA1 hC2 hB1 hB2 x1 x2 y1 y2 y3 y4 z1
  have e8 : IntKind.u8.wrap (L0 : Int) = (L0 : Int) := by rw [IntKind.wrap_u8]; omega
  go_wp2_with fail
  refine (Arm_any hA2 (L0 : Int) (by omega)).mono ?_
  rintro e w3 ⟨rfl, hA3', hu3⟩
  have hP0 : Pair ((Fl.made 4 2).arm (L0 : Int)) (Fl.made 4 2) L0 := ⟨rfl, rfl, rfl, rfl, rfl, rfl, by show ((L0 : Int)).toNat = L0; omega, rfl, rfl, rfl, rfl, rfl⟩
  have hB03 := hB02.trans (hu3.below g1 g2 hB02.size)
  have hC3' := hC2'.but hu3 (Ne.symm ne1) (Ne.symm ne3) (Ne.symm ne2) (Ne.symm ne4)
  clear hA2 hC2' hB02 hu3
  go_wp2_with fail
  go_loopw [9, 10] (fun v i wr => ∃ (k : Nat) (S T : Fl) (L : Nat), k ≤ N0 ∧ k ≤ 40 ∧ L < 201 ∧ i = .int .i64 k ∧ v = .int .i64 L ∧ NorAt w.heap.size wr p b S ∧ NorAt w.heap.size wr q d T ∧ Pair S T L ∧ Below w.heap.size w wr) (fun _ i _ => 41 - (intOf i).toNat)
  case atStart => exact ⟨0, _, _, L0, by omega, by omega, hL0, rfl, rfl, hA3', hC3', hP0, hB03⟩
  case round =>
    obtain ⟨k, S, T, L, hk, hk2, hL, rfl, rfl, hA, hC, hPair, hB⟩ := hrel
    clear hA3' hC3' hP0 hB03 hrem e8
    by_cases hlt : k < N0
    · by_cases hlt2 : k < 40
      · obtain ⟨g, o, rfl, hg, x, HX, hx⟩ := (hs0.below hB).op H0.out hlt
        have hxo := HO.out x (List.mem_of_getElem? HX.out)
        have HXO : Hid (∀ wz, Below w.heap.size w wz → x.Ok w.heap.size wz) := Lib.hid fun wz h => hxo.below h
        have hxl := hxo.len
        have HPAIR := Lib.hid hPair
        have hSok : S.Ok := .inl hPair.half
        have hTok : T.Ok := .inl hPair.half'
        clear hPair hxo
        rcases (by omega : x.k ≤ 7 ∨ 11 ≤ x.k ∨ (8 ≤ x.k ∧ x.k ≤ 10)) with hq | hq | hq
        · have hk45 : x.kind ≠ 4 ∧ x.kind ≠ 5 := by
            unfold Oc.kind
            rw [if_neg (show ¬ x.k = 8 from by omega), if_neg (show ¬ (x.k = 9 ∨ x.k = 10) from by omega)]
            constructor <;> (repeat' split) <;> omega
          have d8 : decide (8 ≤ x.k) = false := decide_eq_false (by omega)
          have HQ7 := Lib.hid hq
          clear hq
          go_wp2_with (first
            | (with_reducible refine wpList_load (o := ⟨some 48, _, _, _, _, _⟩) rfl (.tmp 47) 111 rfl g (o + k * 5) w.heap.size rfl x.cells 5 rfl (by kernel_rfl) hx ?_)
            | (with_reducible refine wpList_alloc (o := ⟨some 11, _, _, _, _, _⟩) rfl 111 rfl noOc (by kernel_rfl) 5 rfl (by decide) ?_; intro ga wa hga hFa hBa)
            | (with_reducible refine wpList_store (o := ⟨none, _, _, _, _, _⟩) rfl rfl (.tmp 11) (.tmp 48) 111 rfl ga 0 wr.heap.size 111 5 noOc x.cells rfl rfl 5 rfl (by kernel_rfl) hFa (by omega) x.one wr hBa hga ?_; intro wb hFb hBb hob hsb; rw [noOc_splice] at hFb; have f0 : wb.cell? ⟨ga, 0, none⟩ = some (.int .i64 x.k) := hFb.cell (j := 0) rfl))
          have hA3 := hA.below hBb
          have hC3 := hC.below hBb
          have hB3 := hB.trans (hBb.mono hB.size)
          obtain ⟨lp, lb, -, -⟩ := hA.lt
          obtain ⟨lq, ld, -, -⟩ := hC.lt
          have na : ga ≠ p := by omega
          have nb : ga ≠ b := by omega
          have nq : ga ≠ q := by omega
          have nd : ga ≠ d := by omega
          clear lp lb lq ld f0
          obtain ⟨S', ra, hr⟩ : ∃ S' r, S.does x = (S', r) := ⟨_, _, rfl⟩
          obtain ⟨T', rb, hr'⟩ : ∃ T' r, T.does x = (T', r) := ⟨_, _, rfl⟩
          have hpd := HPAIR.out.does x hxl hk45.1 hk45.2
          rw [hr, hr'] at hpd
          simp only at hpd
          have hd0 : Below wb.heap.size wb { wb with drawn := wb.drawn + 1 } := ⟨rfl, rfl, rfl, Nat.le_refl _, fun _ _ => rfl⟩
          refine region_J (stepVal p q ra rb x.cells) (stepJ w wr p b q d ga x S S' T T') (by kernel_rfl) (by kernel_rfl) ⟨hFb.below hd0, hB3.trans (hd0.mono hB3.size), hA3.below hd0, hC3.below hd0⟩ ?_ ?_
          · refine ⟨?_, ?_, ?_, ?_, ?_, ?_, ?_, ?_, trivial⟩
            all_goals intro listed a1 wz hk h1 hd
            · have f2 := hk.ev_old 5 (by kernel_rfl)
              exact stepJ_value rfl (by simp [execOp]; exact f2) (stepJ_other hk.inv 0 (by omega) (by omega))
            · have f2 := hk.ev_old 11 (by kernel_rfl)
              exact stepJ_value rfl (run_load_agg (.tmp 11) 111 rfl f2 x.cells 5 rfl (by kernel_rfl) hk.inv.1.sees) (stepJ_other hk.inv 1 (by omega) (by omega))
            · have e0 : a1.eval (.tmp 57) = .pointer (some ⟨p, 0, none⟩) := (hk.ev_new hd 0 57 (by kernel_rfl) rfl).1
              have e1 : a1.eval (.tmp 58) = .agg x.cells.toArray := (hk.ev_new hd 1 58 (by kernel_rfl) rfl).1
              refine stepJ_enter rfl (f := 93) (args := #[.pointer (some ⟨p, 0, none⟩), .agg x.cells.toArray]) (by go_simp; exact ⟨by simpa [Act.eval, Array.getD_eq_getD_getElem?] using e0, by simpa [Act.eval, Array.getD_eq_getD_getElem?] using e1⟩) ?_
              obtain ⟨j1, j2, j3, j4⟩ := hk.inv
              rw [getD_false h1] at j3
              refine (does_any j3 hSok x (HXO.out wz j2) j2.size S' ra hr).mono ?_
              rintro e w5 ⟨rfl, hA5, hu5⟩
              refine ⟨rfl, j1.but hu5 na nb, j2.trans (hu5.below g1 g2 j2.size), ?_, ?_⟩
              · rw [getD_set_self h1]; exact hA5
              · rw [getD_set_other (by omega)]
                exact j4.but hu5 (Ne.symm ne1) (Ne.symm ne3) (Ne.symm ne2) (Ne.symm ne4)
            · have f2 := hk.ev_old 7 (by kernel_rfl)
              exact stepJ_value rfl (by simp [execOp]; exact f2) (stepJ_other hk.inv 3 (by omega) (by omega))
            · have f2 := hk.ev_old 11 (by kernel_rfl)
              exact stepJ_value rfl (run_load_agg (.tmp 11) 111 rfl f2 x.cells 5 rfl (by kernel_rfl) hk.inv.1.sees) (stepJ_other hk.inv 4 (by omega) (by omega))
            · have e0 : a1.eval (.tmp 60) = .pointer (some ⟨q, 0, none⟩) := (hk.ev_new hd 3 60 (by kernel_rfl) rfl).1
              have e1 : a1.eval (.tmp 61) = .agg x.cells.toArray := (hk.ev_new hd 4 61 (by kernel_rfl) rfl).1
              refine stepJ_enter rfl (f := 93) (args := #[.pointer (some ⟨q, 0, none⟩), .agg x.cells.toArray]) (by go_simp; exact ⟨by simpa [Act.eval, Array.getD_eq_getD_getElem?] using e0, by simpa [Act.eval, Array.getD_eq_getD_getElem?] using e1⟩) ?_
              obtain ⟨j1, j2, j3, j4⟩ := hk.inv
              rw [getD_false h1] at j4
              refine (does_any j4 hTok x (HXO.out wz j2) j2.size T' rb hr').mono ?_
              rintro e w5 ⟨rfl, hC5, hu5⟩
              refine ⟨rfl, j1.but hu5 nq nd, j2.trans (hu5.below g3 g4 j2.size), ?_, ?_⟩
              · rw [getD_set_other (by omega)]
                exact j3.but hu5 ne1 ne2 ne3 ne4
              · rw [getD_set_self h1]; exact hC5
            · have e0 : a1.eval (.tmp 59) = .int .i64 (ra : Int) := (hk.ev_new hd 2 59 (by kernel_rfl) rfl).1
              exact stepJ_value rfl (by simp [execOp]; exact e0) (stepJ_other hk.inv 6 (by omega) (by omega))
            · have e0 : a1.eval (.tmp 62) = .int .i64 (rb : Int) := (hk.ev_new hd 5 62 (by kernel_rfl) rfl).1
              exact stepJ_value rfl (by simp [execOp]; exact e0) (stepJ_other hk.inv 7 (by omega) (by omega))
          · intro listed a1 w6 hJ hall hp
            obtain ⟨v0, p0, v1, p1, v2, p2, v3, p3, v4, p4, v5, p5, v6, p6, v7, p7, rfl⟩ := hp
            simp only [stepVal] at p0 p1 p2 p3 p4 p5 p6 p7
            subst p0 p1 p2 p3 p4 p5 p6 p7
            simp only [Act.put, List.setIfInBounds_toArray, List.set_cons_succ, List.set_cons_zero]
            obtain ⟨hF6, hB6, hA6, hC6⟩ := hJ
            rw [hall 2 (by decide)] at hA6
            rw [hall 5 (by decide)] at hC6
            have hA6 : NorAt w.heap.size w6 p b S' := hA6
            have hC6 : NorAt w.heap.size w6 q d T' := hC6
            have f0 : w6.cell? ⟨ga, 0, none⟩ = some (.int .i64 x.k) := hF6.cell (j := 0) rfl
            have f3 : w6.cell? ⟨ga, 3, none⟩ = some (.slice x.A x.m x.c) := hF6.cell (j := 3) rfl
            clear hr hr' hFb hBb hob hsb hFa hBa hB3 hA3 hC3 hd0 hA hC hB hall
            clear hk45
            rcases (by have := HQ7.out; omega : (1 ≤ x.k ∧ x.k ≤ 4) ∨ x.k = 5 ∨ x.k = 6 ∨ x.k = 7 ∨ x.k ≤ 0) with hq | hq | hq | hq | hq
            · have hkind : x.kind = 1 := by unfold Oc.kind; rw [if_pos (by omega)]
              have d1 : decide (1 ≤ x.k) = true := decide_eq_true (by omega)
              have d4 : decide (x.k ≤ 4) = true := decide_eq_true (by omega)
              have e5 : (x.k == 5) = false := beq_eq_false_iff_ne.2 (by omega)
              have e6 : (x.k == 6) = false := beq_eq_false_iff_ne.2 (by omega)
              have HQ := Lib.hid hq
              clear hq
              by_cases hb0 : rb = 0
              · have r0 : (((rb : Nat) : Int) == 0) = true := by simp [hb0]
                by_cases hm : x.m ≤ 70
                · have hc : cost x rb = x.m := by unfold cost; rw [hkind, hb0]; exact Nat.min_eq_left hm
                  rw [hc] at hpd
                  by_cases hcl : x.m ≤ L
                  · obtain ⟨h1, hP2⟩ := hpd.1 hcl
                    have hrr : (((ra : Nat) : Int) != (rb : Int)) = false := by simp [h1]
                    have hgt : decide ((L : Int) < (x.m : Int)) = false := decide_eq_false (by omega)
                    have hsub := wrapI ((L : Int) - (x.m : Int)) (by omega) (by omega)
                    clear hpd hc h1 hb0
                    go_wp2_with fail
                    refine (SameNors_true hA6 hC6 (by rw [hP2.n, hP2.n']) (by rw [hP2.down, hP2.down']) hP2.ws.symm).mono ?_
                    rintro e w7 ⟨rfl, hB7⟩
                    go_wp2_with fail
                    go_roundw
                    case rel => exact ⟨k + 1, S', T', L - x.m, by omega, by omega, by omega, by go_num, by go_num, hA6.below hB7, hC6.below hB7, hP2, Below.then_ hB6 hB7⟩
                    case measure => simp [intOf]; omega
                  · obtain ⟨h1, hdn⟩ := hpd.2 (by omega)
                    have h40 : (((ra : Nat) : Int) == 40) = true := by simp [h1]
                    have hgt : decide ((L : Int) < (x.m : Int)) = true := decide_eq_true (by omega)
                    clear hpd hc h1 hb0
                    go_wp2_with fail
                    refine (Down_any hA6).mono ?_
                    rintro e wx ⟨rfl, rfl⟩
                    rw [hdn]
                    go_wp2_with fail
                    refine (awake4_any _).mono ?_
                    rintro e w7 ⟨rfl, hB7⟩
                    go_wp2_with fail
                    go_ret
                    exact ⟨rfl, Below.then_ hB6 hB7⟩
                · have hc : cost x rb = 70 := by unfold cost; rw [hkind, hb0]; exact Nat.min_eq_right (by omega)
                  rw [hc] at hpd
                  by_cases hcl : 70 ≤ L
                  · obtain ⟨h1, hP2⟩ := hpd.1 hcl
                    have hrr : (((ra : Nat) : Int) != (rb : Int)) = false := by simp [h1]
                    have hgt : decide ((L : Int) < 70) = false := decide_eq_false (by omega)
                    have hsub := wrapI ((L : Int) - 70) (by omega) (by omega)
                    clear hpd hc h1 hb0
                    go_wp2_with fail
                    refine (SameNors_true hA6 hC6 (by rw [hP2.n, hP2.n']) (by rw [hP2.down, hP2.down']) hP2.ws.symm).mono ?_
                    rintro e w7 ⟨rfl, hB7⟩
                    go_wp2_with fail
                    go_roundw
                    case rel => exact ⟨k + 1, S', T', L - 70, by omega, by omega, by omega, by go_num, by go_num, hA6.below hB7, hC6.below hB7, hP2, Below.then_ hB6 hB7⟩
                    case measure => simp [intOf]; omega
                  · obtain ⟨h1, hdn⟩ := hpd.2 (by omega)
                    have h40 : (((ra : Nat) : Int) == 40) = true := by simp [h1]
                    have hgt : decide ((L : Int) < 70) = true := decide_eq_true (by omega)
                    clear hpd hc h1 hb0
                    go_wp2_with fail
                    refine (Down_any hA6).mono ?_
                    rintro e wx ⟨rfl, rfl⟩
                    rw [hdn]
                    go_wp2_with fail
                    refine (awake4_any _).mono ?_
                    rintro e w7 ⟨rfl, hB7⟩
                    go_wp2_with fail
                    go_ret
                    exact ⟨rfl, Below.then_ hB6 hB7⟩
              · have r0 : (((rb : Nat) : Int) == 0) = false := by simp; exact hb0
                have hc : cost x rb = 0 := by unfold cost; rw [hkind]; rcases rb with _ | rb; exact absurd rfl hb0; rfl
                rw [hc] at hpd
                by_cases hcl : 0 ≤ L
                · obtain ⟨h1, hP2⟩ := hpd.1 hcl
                  have hrr : (((ra : Nat) : Int) != (rb : Int)) = false := by simp [h1]
                  have hgt : decide ((L : Int) < 0) = false := decide_eq_false (by omega)
                  have hsub := wrapI (L : Int) (by omega) (by omega)
                  clear hpd hc h1 hb0
                  go_wp2_with fail
                  refine (SameNors_true hA6 hC6 (by rw [hP2.n, hP2.n']) (by rw [hP2.down, hP2.down']) hP2.ws.symm).mono ?_
                  rintro e w7 ⟨rfl, hB7⟩
                  go_wp2_with fail
                  go_roundw
                  case rel => exact ⟨k + 1, S', T', L - 0, by omega, by omega, by omega, by go_num, by go_num, hA6.below hB7, hC6.below hB7, hP2, Below.then_ hB6 hB7⟩
                  case measure => simp [intOf]; omega
                · exact absurd (Nat.zero_le L) hcl
            · have hkind : x.kind = 2 := by unfold Oc.kind; rw [if_neg (by omega), if_pos (by omega)]
              have d1 : decide (1 ≤ x.k) = true := decide_eq_true (by omega)
              have d4 : decide (x.k ≤ 4) = false := decide_eq_false (by omega)
              have e5 : (x.k == 5) = true := beq_iff_eq.2 (by omega)
              have HQ := Lib.hid hq
              clear hq
              by_cases hb0 : rb = 0
              · have r0 : (((rb : Nat) : Int) == 0) = true := by simp [hb0]
                have hc : cost x rb = 1 := by simp only [cost, hkind, hb0]
                rw [hc] at hpd
                by_cases hcl : 1 ≤ L
                · obtain ⟨h1, hP2⟩ := hpd.1 hcl
                  have hrr : (((ra : Nat) : Int) != (rb : Int)) = false := by simp [h1]
                  have hgt : decide ((L : Int) < 1) = false := decide_eq_false (by omega)
                  have hsub := wrapI ((L : Int) - 1) (by omega) (by omega)
                  clear hpd hc h1 hb0
                  go_wp2_with fail
                  refine (SameNors_true hA6 hC6 (by rw [hP2.n, hP2.n']) (by rw [hP2.down, hP2.down']) hP2.ws.symm).mono ?_
                  rintro e w7 ⟨rfl, hB7⟩
                  go_wp2_with fail
                  go_roundw
                  case rel => exact ⟨k + 1, S', T', L - 1, by omega, by omega, by omega, by go_num, by go_num, hA6.below hB7, hC6.below hB7, hP2, Below.then_ hB6 hB7⟩
                  case measure => simp [intOf]; omega
                · obtain ⟨h1, hdn⟩ := hpd.2 (by omega)
                  have h40 : (((ra : Nat) : Int) == 40) = true := by simp [h1]
                  have hgt : decide ((L : Int) < 1) = true := decide_eq_true (by omega)
                  clear hpd hc h1 hb0
                  go_wp2_with fail
                  refine (Down_any hA6).mono ?_
                  rintro e wx ⟨rfl, rfl⟩
                  rw [hdn]
                  go_wp2_with fail
                  refine (awake4_any _).mono ?_
                  rintro e w7 ⟨rfl, hB7⟩
                  go_wp2_with fail
                  go_ret
                  exact ⟨rfl, Below.then_ hB6 hB7⟩
              · have r0 : (((rb : Nat) : Int) == 0) = false := by simp; exact hb0
                have hc : cost x rb = 0 := by unfold cost; rw [hkind]; rcases rb with _ | rb; exact absurd rfl hb0; rfl
                rw [hc] at hpd
                by_cases hcl : 0 ≤ L
                · obtain ⟨h1, hP2⟩ := hpd.1 hcl
                  have hrr : (((ra : Nat) : Int) != (rb : Int)) = false := by simp [h1]
                  have hgt : decide ((L : Int) < 0) = false := decide_eq_false (by omega)
                  have hsub := wrapI (L : Int) (by omega) (by omega)
                  clear hpd hc h1 hb0
                  go_wp2_with fail
                  refine (SameNors_true hA6 hC6 (by rw [hP2.n, hP2.n']) (by rw [hP2.down, hP2.down']) hP2.ws.symm).mono ?_
                  rintro e w7 ⟨rfl, hB7⟩
                  go_wp2_with fail
                  go_roundw
                  case rel => exact ⟨k + 1, S', T', L - 0, by omega, by omega, by omega, by go_num, by go_num, hA6.below hB7, hC6.below hB7, hP2, Below.then_ hB6 hB7⟩
                  case measure => simp [intOf]; omega
                · exact absurd (Nat.zero_le L) hcl
            · have hkind : x.kind = 2 := by unfold Oc.kind; rw [if_neg (by omega), if_pos (by omega)]
              have d1 : decide (1 ≤ x.k) = true := decide_eq_true (by omega)
              have d4 : decide (x.k ≤ 4) = false := decide_eq_false (by omega)
              have e5 : (x.k == 5) = false := beq_eq_false_iff_ne.2 (by omega)
              have e6 : (x.k == 6) = true := beq_iff_eq.2 (by omega)
              have HQ := Lib.hid hq
              clear hq
              by_cases hb0 : rb = 0
              · have r0 : (((rb : Nat) : Int) == 0) = true := by simp [hb0]
                have hc : cost x rb = 1 := by simp only [cost, hkind, hb0]
                rw [hc] at hpd
                by_cases hcl : 1 ≤ L
                · obtain ⟨h1, hP2⟩ := hpd.1 hcl
                  have hrr : (((ra : Nat) : Int) != (rb : Int)) = false := by simp [h1]
                  have hgt : decide ((L : Int) < 1) = false := decide_eq_false (by omega)
                  have hsub := wrapI ((L : Int) - 1) (by omega) (by omega)
                  clear hpd hc h1 hb0
                  go_wp2_with fail
                  refine (SameNors_true hA6 hC6 (by rw [hP2.n, hP2.n']) (by rw [hP2.down, hP2.down']) hP2.ws.symm).mono ?_
                  rintro e w7 ⟨rfl, hB7⟩
                  go_wp2_with fail
                  go_roundw
                  case rel => exact ⟨k + 1, S', T', L - 1, by omega, by omega, by omega, by go_num, by go_num, hA6.below hB7, hC6.below hB7, hP2, Below.then_ hB6 hB7⟩
                  case measure => simp [intOf]; omega
                · obtain ⟨h1, hdn⟩ := hpd.2 (by omega)
                  have h40 : (((ra : Nat) : Int) == 40) = true := by simp [h1]
                  have hgt : decide ((L : Int) < 1) = true := decide_eq_true (by omega)
                  clear hpd hc h1 hb0
                  go_wp2_with fail
                  refine (Down_any hA6).mono ?_
                  rintro e wx ⟨rfl, rfl⟩
                  rw [hdn]
                  go_wp2_with fail
                  refine (awake4_any _).mono ?_
                  rintro e w7 ⟨rfl, hB7⟩
                  go_wp2_with fail
                  go_ret
                  exact ⟨rfl, Below.then_ hB6 hB7⟩
              · have r0 : (((rb : Nat) : Int) == 0) = false := by simp; exact hb0
                have hc : cost x rb = 0 := by unfold cost; rw [hkind]; rcases rb with _ | rb; exact absurd rfl hb0; rfl
                rw [hc] at hpd
                by_cases hcl : 0 ≤ L
                · obtain ⟨h1, hP2⟩ := hpd.1 hcl
                  have hrr : (((ra : Nat) : Int) != (rb : Int)) = false := by simp [h1]
                  have hgt : decide ((L : Int) < 0) = false := decide_eq_false (by omega)
                  have hsub := wrapI (L : Int) (by omega) (by omega)
                  clear hpd hc h1 hb0
                  go_wp2_with fail
                  refine (SameNors_true hA6 hC6 (by rw [hP2.n, hP2.n']) (by rw [hP2.down, hP2.down']) hP2.ws.symm).mono ?_
                  rintro e w7 ⟨rfl, hB7⟩
                  go_wp2_with fail
                  go_roundw
                  case rel => exact ⟨k + 1, S', T', L - 0, by omega, by omega, by omega, by go_num, by go_num, hA6.below hB7, hC6.below hB7, hP2, Below.then_ hB6 hB7⟩
                  case measure => simp [intOf]; omega
                · exact absurd (Nat.zero_le L) hcl
            · have hkind : x.kind = 3 := by unfold Oc.kind; rw [if_neg (by omega), if_neg (by omega), if_pos (by omega)]
              have d1 : decide (1 ≤ x.k) = true := decide_eq_true (by omega)
              have d4 : decide (x.k ≤ 4) = false := decide_eq_false (by omega)
              have e5 : (x.k == 5) = false := beq_eq_false_iff_ne.2 (by omega)
              have e6 : (x.k == 6) = false := beq_eq_false_iff_ne.2 (by omega)
              have HQ := Lib.hid hq
              clear hq
              by_cases hb0 : rb = 0
              · have r0 : (((rb : Nat) : Int) == 0) = true := by simp [hb0]
                have hc : cost x rb = 0 := by simp only [cost, hkind]
                rw [hc] at hpd
                by_cases hcl : 0 ≤ L
                · obtain ⟨h1, hP2⟩ := hpd.1 hcl
                  have hrr : (((ra : Nat) : Int) != (rb : Int)) = false := by simp [h1]
                  have hgt : decide ((L : Int) < 0) = false := decide_eq_false (by omega)
                  have hsub := wrapI (L : Int) (by omega) (by omega)
                  clear hpd hc h1 hb0
                  go_wp2_with fail
                  refine (SameNors_true hA6 hC6 (by rw [hP2.n, hP2.n']) (by rw [hP2.down, hP2.down']) hP2.ws.symm).mono ?_
                  rintro e w7 ⟨rfl, hB7⟩
                  go_wp2_with fail
                  go_roundw
                  case rel => exact ⟨k + 1, S', T', L - 0, by omega, by omega, by omega, by go_num, by go_num, hA6.below hB7, hC6.below hB7, hP2, Below.then_ hB6 hB7⟩
                  case measure => simp [intOf]; omega
                · exact absurd (Nat.zero_le L) hcl
              · have r0 : (((rb : Nat) : Int) == 0) = false := by simp; exact hb0
                have hc : cost x rb = 0 := by simp only [cost, hkind]
                rw [hc] at hpd
                by_cases hcl : 0 ≤ L
                · obtain ⟨h1, hP2⟩ := hpd.1 hcl
                  have hrr : (((ra : Nat) : Int) != (rb : Int)) = false := by simp [h1]
                  have hgt : decide ((L : Int) < 0) = false := decide_eq_false (by omega)
                  have hsub := wrapI (L : Int) (by omega) (by omega)
                  clear hpd hc h1 hb0
                  go_wp2_with fail
                  refine (SameNors_true hA6 hC6 (by rw [hP2.n, hP2.n']) (by rw [hP2.down, hP2.down']) hP2.ws.symm).mono ?_
                  rintro e w7 ⟨rfl, hB7⟩
                  go_wp2_with fail
                  go_roundw
                  case rel => exact ⟨k + 1, S', T', L - 0, by omega, by omega, by omega, by go_num, by go_num, hA6.below hB7, hC6.below hB7, hP2, Below.then_ hB6 hB7⟩
                  case measure => simp [intOf]; omega
                · exact absurd (Nat.zero_le L) hcl
            · have hkind : x.kind = 0 := by unfold Oc.kind; rw [if_neg (by omega), if_neg (by omega), if_neg (by omega), if_neg (by omega), if_neg (by omega)]
              have d1 : decide (1 ≤ x.k) = false := decide_eq_false (by omega)
              have e5 : (x.k == 5) = false := beq_eq_false_iff_ne.2 (by omega)
              have e6 : (x.k == 6) = false := beq_eq_false_iff_ne.2 (by omega)
              have HQ := Lib.hid hq
              clear hq
              by_cases hb0 : rb = 0
              · have r0 : (((rb : Nat) : Int) == 0) = true := by simp [hb0]
                have hc : cost x rb = 0 := by simp only [cost, hkind]
                rw [hc] at hpd
                by_cases hcl : 0 ≤ L
                · obtain ⟨h1, hP2⟩ := hpd.1 hcl
                  have hrr : (((ra : Nat) : Int) != (rb : Int)) = false := by simp [h1]
                  have hgt : decide ((L : Int) < 0) = false := decide_eq_false (by omega)
                  have hsub := wrapI (L : Int) (by omega) (by omega)
                  clear hpd hc h1 hb0
                  go_wp2_with fail
                  refine (SameNors_true hA6 hC6 (by rw [hP2.n, hP2.n']) (by rw [hP2.down, hP2.down']) hP2.ws.symm).mono ?_
                  rintro e w7 ⟨rfl, hB7⟩
                  go_wp2_with fail
                  go_roundw
                  case rel => exact ⟨k + 1, S', T', L - 0, by omega, by omega, by omega, by go_num, by go_num, hA6.below hB7, hC6.below hB7, hP2, Below.then_ hB6 hB7⟩
                  case measure => simp [intOf]; omega
                · exact absurd (Nat.zero_le L) hcl
              · have r0 : (((rb : Nat) : Int) == 0) = false := by simp; exact hb0
                have hc : cost x rb = 0 := by simp only [cost, hkind]
                rw [hc] at hpd
                by_cases hcl : 0 ≤ L
                · obtain ⟨h1, hP2⟩ := hpd.1 hcl
                  have hrr : (((ra : Nat) : Int) != (rb : Int)) = false := by simp [h1]
                  have hgt : decide ((L : Int) < 0) = false := decide_eq_false (by omega)
                  have hsub := wrapI (L : Int) (by omega) (by omega)
                  clear hpd hc h1 hb0
                  go_wp2_with fail
                  refine (SameNors_true hA6 hC6 (by rw [hP2.n, hP2.n']) (by rw [hP2.down, hP2.down']) hP2.ws.symm).mono ?_
                  rintro e w7 ⟨rfl, hB7⟩
                  go_wp2_with fail
                  go_roundw
                  case rel => exact ⟨k + 1, S', T', L - 0, by omega, by omega, by omega, by go_num, by go_num, hA6.below hB7, hC6.below hB7, hP2, Below.then_ hB6 hB7⟩
                  case measure => simp [intOf]; omega
                · exact absurd (Nat.zero_le L) hcl
        · have hk45 : x.kind ≠ 4 ∧ x.kind ≠ 5 := by
            unfold Oc.kind
            rw [if_neg (show ¬ x.k = 8 from by omega), if_neg (show ¬ (x.k = 9 ∨ x.k = 10) from by omega)]
            constructor <;> (repeat' split) <;> omega
          have d8 : decide (8 ≤ x.k) = true := decide_eq_true (by omega)
          have d10 : decide (x.k ≤ 10) = false := decide_eq_false (by omega)
          have HQ7 := Lib.hid hq
          clear hq
          go_wp2_with (first
            | (with_reducible refine wpList_load (o := ⟨some 48, _, _, _, _, _⟩) rfl (.tmp 47) 111 rfl g (o + k * 5) w.heap.size rfl x.cells 5 rfl (by kernel_rfl) hx ?_)
            | (with_reducible refine wpList_alloc (o := ⟨some 11, _, _, _, _, _⟩) rfl 111 rfl noOc (by kernel_rfl) 5 rfl (by decide) ?_; intro ga wa hga hFa hBa)
            | (with_reducible refine wpList_store (o := ⟨none, _, _, _, _, _⟩) rfl rfl (.tmp 11) (.tmp 48) 111 rfl ga 0 wr.heap.size 111 5 noOc x.cells rfl rfl 5 rfl (by kernel_rfl) hFa (by omega) x.one wr hBa hga ?_; intro wb hFb hBb hob hsb; rw [noOc_splice] at hFb; have f0 : wb.cell? ⟨ga, 0, none⟩ = some (.int .i64 x.k) := hFb.cell (j := 0) rfl))
          have hA3 := hA.below hBb
          have hC3 := hC.below hBb
          have hB3 := hB.trans (hBb.mono hB.size)
          obtain ⟨lp, lb, -, -⟩ := hA.lt
          obtain ⟨lq, ld, -, -⟩ := hC.lt
          have na : ga ≠ p := by omega
          have nb : ga ≠ b := by omega
          have nq : ga ≠ q := by omega
          have nd : ga ≠ d := by omega
          clear lp lb lq ld f0
          obtain ⟨S', ra, hr⟩ : ∃ S' r, S.does x = (S', r) := ⟨_, _, rfl⟩
          obtain ⟨T', rb, hr'⟩ : ∃ T' r, T.does x = (T', r) := ⟨_, _, rfl⟩
          have hpd := HPAIR.out.does x hxl hk45.1 hk45.2
          rw [hr, hr'] at hpd
          simp only at hpd
          have hd0 : Below wb.heap.size wb { wb with drawn := wb.drawn + 1 } := ⟨rfl, rfl, rfl, Nat.le_refl _, fun _ _ => rfl⟩
          refine region_J (stepVal p q ra rb x.cells) (stepJ w wr p b q d ga x S S' T T') (by kernel_rfl) (by kernel_rfl) ⟨hFb.below hd0, hB3.trans (hd0.mono hB3.size), hA3.below hd0, hC3.below hd0⟩ ?_ ?_
          · refine ⟨?_, ?_, ?_, ?_, ?_, ?_, ?_, ?_, trivial⟩
            all_goals intro listed a1 wz hk h1 hd
            · have f2 := hk.ev_old 5 (by kernel_rfl)
              exact stepJ_value rfl (by simp [execOp]; exact f2) (stepJ_other hk.inv 0 (by omega) (by omega))
            · have f2 := hk.ev_old 11 (by kernel_rfl)
              exact stepJ_value rfl (run_load_agg (.tmp 11) 111 rfl f2 x.cells 5 rfl (by kernel_rfl) hk.inv.1.sees) (stepJ_other hk.inv 1 (by omega) (by omega))
            · have e0 : a1.eval (.tmp 57) = .pointer (some ⟨p, 0, none⟩) := (hk.ev_new hd 0 57 (by kernel_rfl) rfl).1
              have e1 : a1.eval (.tmp 58) = .agg x.cells.toArray := (hk.ev_new hd 1 58 (by kernel_rfl) rfl).1
              refine stepJ_enter rfl (f := 93) (args := #[.pointer (some ⟨p, 0, none⟩), .agg x.cells.toArray]) (by go_simp; exact ⟨by simpa [Act.eval, Array.getD_eq_getD_getElem?] using e0, by simpa [Act.eval, Array.getD_eq_getD_getElem?] using e1⟩) ?_
              obtain ⟨j1, j2, j3, j4⟩ := hk.inv
              rw [getD_false h1] at j3
              refine (does_any j3 hSok x (HXO.out wz j2) j2.size S' ra hr).mono ?_
              rintro e w5 ⟨rfl, hA5, hu5⟩
              refine ⟨rfl, j1.but hu5 na nb, j2.trans (hu5.below g1 g2 j2.size), ?_, ?_⟩
              · rw [getD_set_self h1]; exact hA5
              · rw [getD_set_other (by omega)]
                exact j4.but hu5 (Ne.symm ne1) (Ne.symm ne3) (Ne.symm ne2) (Ne.symm ne4)
            · have f2 := hk.ev_old 7 (by kernel_rfl)
              exact stepJ_value rfl (by simp [execOp]; exact f2) (stepJ_other hk.inv 3 (by omega) (by omega))
            · have f2 := hk.ev_old 11 (by kernel_rfl)
              exact stepJ_value rfl (run_load_agg (.tmp 11) 111 rfl f2 x.cells 5 rfl (by kernel_rfl) hk.inv.1.sees) (stepJ_other hk.inv 4 (by omega) (by omega))
            · have e0 : a1.eval (.tmp 60) = .pointer (some ⟨q, 0, none⟩) := (hk.ev_new hd 3 60 (by kernel_rfl) rfl).1
              have e1 : a1.eval (.tmp 61) = .agg x.cells.toArray := (hk.ev_new hd 4 61 (by kernel_rfl) rfl).1
              refine stepJ_enter rfl (f := 93) (args := #[.pointer (some ⟨q, 0, none⟩), .agg x.cells.toArray]) (by go_simp; exact ⟨by simpa [Act.eval, Array.getD_eq_getD_getElem?] using e0, by simpa [Act.eval, Array.getD_eq_getD_getElem?] using e1⟩) ?_
              obtain ⟨j1, j2, j3, j4⟩ := hk.inv
              rw [getD_false h1] at j4
              refine (does_any j4 hTok x (HXO.out wz j2) j2.size T' rb hr').mono ?_
              rintro e w5 ⟨rfl, hC5, hu5⟩
              refine ⟨rfl, j1.but hu5 nq nd, j2.trans (hu5.below g3 g4 j2.size), ?_, ?_⟩
              · rw [getD_set_other (by omega)]
                exact j3.but hu5 ne1 ne2 ne3 ne4
              · rw [getD_set_self h1]; exact hC5
            · have e0 : a1.eval (.tmp 59) = .int .i64 (ra : Int) := (hk.ev_new hd 2 59 (by kernel_rfl) rfl).1
              exact stepJ_value rfl (by simp [execOp]; exact e0) (stepJ_other hk.inv 6 (by omega) (by omega))
            · have e0 : a1.eval (.tmp 62) = .int .i64 (rb : Int) := (hk.ev_new hd 5 62 (by kernel_rfl) rfl).1
              exact stepJ_value rfl (by simp [execOp]; exact e0) (stepJ_other hk.inv 7 (by omega) (by omega))
          · intro listed a1 w6 hJ hall hp
            obtain ⟨v0, p0, v1, p1, v2, p2, v3, p3, v4, p4, v5, p5, v6, p6, v7, p7, rfl⟩ := hp
            simp only [stepVal] at p0 p1 p2 p3 p4 p5 p6 p7
            subst p0 p1 p2 p3 p4 p5 p6 p7
            simp only [Act.put, List.setIfInBounds_toArray, List.set_cons_succ, List.set_cons_zero]
            obtain ⟨hF6, hB6, hA6, hC6⟩ := hJ
            rw [hall 2 (by decide)] at hA6
            rw [hall 5 (by decide)] at hC6
            have hA6 : NorAt w.heap.size w6 p b S' := hA6
            have hC6 : NorAt w.heap.size w6 q d T' := hC6
            have f0 : w6.cell? ⟨ga, 0, none⟩ = some (.int .i64 x.k) := hF6.cell (j := 0) rfl
            have f3 : w6.cell? ⟨ga, 3, none⟩ = some (.slice x.A x.m x.c) := hF6.cell (j := 3) rfl
            clear hr hr' hFb hBb hob hsb hFa hBa hB3 hA3 hC3 hd0 hA hC hB hall
            clear hk45
            have hq := HQ7.out
            have hkind : x.kind = 0 := by unfold Oc.kind; rw [if_neg (by omega), if_neg (by omega), if_neg (by omega), if_neg (by omega), if_neg (by omega)]
            have d1 : decide (1 ≤ x.k) = true := decide_eq_true (by omega)
            have d4 : decide (x.k ≤ 4) = false := decide_eq_false (by omega)
            have e5 : (x.k == 5) = false := beq_eq_false_iff_ne.2 (by omega)
            have e6 : (x.k == 6) = false := beq_eq_false_iff_ne.2 (by omega)
            have HQ := Lib.hid hq
            clear hq
            by_cases hb0 : rb = 0
            · have r0 : (((rb : Nat) : Int) == 0) = true := by simp [hb0]
              have hc : cost x rb = 0 := by simp only [cost, hkind]
              rw [hc] at hpd
              by_cases hcl : 0 ≤ L
              · obtain ⟨h1, hP2⟩ := hpd.1 hcl
                have hrr : (((ra : Nat) : Int) != (rb : Int)) = false := by simp [h1]
                have hgt : decide ((L : Int) < 0) = false := decide_eq_false (by omega)
                have hsub := wrapI (L : Int) (by omega) (by omega)
                clear hpd hc h1 hb0
                go_wp2_with fail
                refine (SameNors_true hA6 hC6 (by rw [hP2.n, hP2.n']) (by rw [hP2.down, hP2.down']) hP2.ws.symm).mono ?_
                rintro e w7 ⟨rfl, hB7⟩
                go_wp2_with fail
                go_roundw
                case rel => exact ⟨k + 1, S', T', L - 0, by omega, by omega, by omega, by go_num, by go_num, hA6.below hB7, hC6.below hB7, hP2, Below.then_ hB6 hB7⟩
                case measure => simp [intOf]; omega
              · exact absurd (Nat.zero_le L) hcl
            · have r0 : (((rb : Nat) : Int) == 0) = false := by simp; exact hb0
              have hc : cost x rb = 0 := by simp only [cost, hkind]
              rw [hc] at hpd
              by_cases hcl : 0 ≤ L
              · obtain ⟨h1, hP2⟩ := hpd.1 hcl
                have hrr : (((ra : Nat) : Int) != (rb : Int)) = false := by simp [h1]
                have hgt : decide ((L : Int) < 0) = false := decide_eq_false (by omega)
                have hsub := wrapI (L : Int) (by omega) (by omega)
                clear hpd hc h1 hb0
                go_wp2_with fail
                refine (SameNors_true hA6 hC6 (by rw [hP2.n, hP2.n']) (by rw [hP2.down, hP2.down']) hP2.ws.symm).mono ?_
                rintro e w7 ⟨rfl, hB7⟩
                go_wp2_with fail
                go_roundw
                case rel => exact ⟨k + 1, S', T', L - 0, by omega, by omega, by omega, by go_num, by go_num, hA6.below hB7, hC6.below hB7, hP2, Below.then_ hB6 hB7⟩
                case measure => simp [intOf]; omega
              · exact absurd (Nat.zero_le L) hcl
        · have d8 : decide (8 ≤ x.k) = true := decide_eq_true (by omega)
          have d10 : decide (x.k ≤ 10) = true := decide_eq_true (by omega)
          have HQ7 := Lib.hid hq
          clear hq
          go_wp2_with (first
            | (with_reducible refine wpList_load (o := ⟨some 48, _, _, _, _, _⟩) rfl (.tmp 47) 111 rfl g (o + k * 5) w.heap.size rfl x.cells 5 rfl (by kernel_rfl) hx ?_)
            | (with_reducible refine wpList_alloc (o := ⟨some 11, _, _, _, _, _⟩) rfl 111 rfl noOc (by kernel_rfl) 5 rfl (by decide) ?_; intro ga wa hga hFa hBa)
            | (with_reducible refine wpList_store (o := ⟨none, _, _, _, _, _⟩) rfl rfl (.tmp 11) (.tmp 48) 111 rfl ga 0 wr.heap.size 111 5 noOc x.cells rfl rfl 5 rfl (by kernel_rfl) hFa (by omega) x.one wr hBa hga ?_; intro wb hFb hBb hob hsb; rw [noOc_splice] at hFb; have f0 : wb.cell? ⟨ga, 0, none⟩ = some (.int .i64 x.k) := hFb.cell (j := 0) rfl))
          go_roundw
          case rel => exact ⟨k + 1, S, T, L, by omega, by omega, hL, by go_num, rfl, hA.below hBb, hC.below hBb, HPAIR.out, hB.trans (hBb.mono hB.size)⟩
          case measure => simp [intOf]; omega
      · go_wp2_with fail
        refine (awake4_any _).mono ?_
        rintro e w4 ⟨rfl, hB4⟩
        go_wp2_with fail
        go_ret
        exact ⟨rfl, Below.then_ hB hB4⟩
    · go_wp2_with fail
      refine (awake4_any _).mono ?_
      rintro e w4 ⟨rfl, hB4⟩
      go_wp2_with fail
      go_ret
      exact ⟨rfl, Below.then_ hB hB4⟩
end Go.Proofs.Ytmeloffdaninmaa
