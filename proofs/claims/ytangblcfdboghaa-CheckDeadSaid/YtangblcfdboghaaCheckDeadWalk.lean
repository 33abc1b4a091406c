/-
  What stands where nothing comes to changes nothing: the walk of CheckDead.
-/
import Derived.Test.YtangblcfdboghaaCheckCopy
import Derived.Test.YtangblcfdboghaaRegionE
namespace Go.Proofs.Ytangblcfdboghaa
open Go.RowKit
set_option linter.unusedVariables false
set_option linter.constructorNameAsVariable false

theorem splice_cd (x y : Pm) : splice noC 0 y.cells = y.cells := by simp [splice, noC, Pm.cells]
def cd15 (g g2 M mo : Nat) (m d : Pm) (j : Nat) (x : Value) (w : World) : Prop :=
  match j with
  | 0 => x = .int .i64 0
  | 1 => x = .bool false
  | 2 => x = .bool false
  | 3 => x = .slice (some ⟨g, 0, none⟩) M M
  | 4 => x = .int .i64 (M : Int)
  | 5 => x = .slice (some ⟨g2, 0, none⟩) M M
  | 6 => x = .int .i64 (M : Int)
  | 7 => x = .bool false
  | 8 => x = .bool false
  | 9 => x = .bool false
  | 10 => x = .agg m.cells.toArray
  | 11 => x = .int .i64 (mo : Int)
  | 12 => x = .agg d.cells.toArray
  | 13 => x = .int .i64 (mo : Int)
  | 14 => x = .bool false
  | _ => True
theorem cd15_stab (g g2 M mo : Nat) (m d : Pm) : ∀ j x w w', Below w.heap.size w w' → cd15 g g2 M mo m d j x w → cd15 g g2 M mo m d j x w' := fun _ _ _ _ _ h => h
def cd20 (g1 g2 M1 M2 i N c1 c2 k0 : Nat) (r : Bool) (A1 A2 : Option Addr) (j : Nat) (x : Value) (w : World) : Prop :=
  match j with
  | 0 => x = .slice (some ⟨g1, 0, none⟩) M1 M1
  | 1 => x = .int .i64 (i : Int)
  | 2 => x = .pointer (some ⟨g1, i * 3, none⟩)
  | 3 => x = .pointer (some ⟨g1, i * 3, none⟩)
  | 4 => x = .bool r
  | 5 => x = .slice (some ⟨g2, 0, none⟩) M2 M2
  | 6 => x = .int .i64 (i : Int)
  | 7 => x = .pointer (some ⟨g2, i * 3, none⟩)
  | 8 => x = .pointer (some ⟨g2, i * 3, none⟩)
  | 9 => x = .bool r
  | 10 => x = .bool false
  | 11 => x = .bool false
  | 12 => x = .slice (some ⟨g1, 0, none⟩) M1 M1
  | 13 => x = .int .i64 (i : Int)
  | 14 => x = .pointer (some ⟨g1, i * 3, none⟩)
  | 15 => x = .pointer (some ⟨g1, i * 3 + 2, none⟩)
  | 16 => x = .int .i64 (k0 : Int)
  | 17 => x = .slice (some ⟨g2, 0, none⟩) M2 M2
  | 18 => x = .int .i64 (i : Int)
  | 19 => x = .pointer (some ⟨g2, i * 3, none⟩)
  | 20 => x = .pointer (some ⟨g2, i * 3 + 2, none⟩)
  | 21 => x = .int .i64 (k0 : Int)
  | 22 => x = .bool false
  | 23 => x = .bool false
  | 24 => x = .bool false
  | 25 => x = .slice (some ⟨g1, 0, none⟩) M1 M1
  | 26 => x = .int .i64 (i : Int)
  | 27 => x = .pointer (some ⟨g1, i * 3, none⟩)
  | 28 => x = .pointer (some ⟨g1, i * 3 + 1, none⟩)
  | 29 => x = .slice A1 N c1
  | 30 => x = .slice (some ⟨g2, 0, none⟩) M2 M2
  | 31 => x = .int .i64 (i : Int)
  | 32 => x = .pointer (some ⟨g2, i * 3, none⟩)
  | 33 => x = .pointer (some ⟨g2, i * 3 + 1, none⟩)
  | 34 => x = .slice A2 N c2
  | 35 => x = .bool true
  | 36 => x = .bool false
  | _ => True
theorem cd20_stab (g1 g2 M1 M2 i N c1 c2 k0 : Nat) (r : Bool) (A1 A2 : Option Addr) : ∀ j x w w', Below w.heap.size w w' → cd20 g1 g2 M1 M2 i N c1 c2 k0 r A1 A2 j x w → cd20 g1 g2 M1 M2 i N c1 c2 k0 r A1 A2 j x w' := fun _ _ _ _ _ h => h

set_option maxHeartbeats 8000000 in
set_option maxRecDepth 100000 in
theorem checkDead_any (w : World) (m : Pm) (hm : PmAt w.heap.size w m) (at_ : Nat) (hat : at_ < 65536) :
    Calls Try.prog 10 #[.agg m.cells.toArray, .int .u16 (at_ : Int)] w fun e w' => e = .returned (.bool true) ∧ Below w.heap.size w w' := by
  have quit : ∀ wq, Below w.heap.size w wq → Calls Try.prog 28 #[] wq fun e w' => e = .returned (.bool true) ∧ Below w.heap.size w w' := fun wq hq => (awake14_any wq).mono (fun e w' h => ⟨h.1, Below.then_ hq h.2⟩)
  have hSp : ∀ w', Below w.heap.size w w' → Calls Try.prog 29 #[.agg m.cells.toArray] w' (SpotsOut m.p w') := fun w' hw => Spots_any m w' (hm.step hw)
  have hSt : ∀ w', Below w.heap.size w w' → Calls Try.prog 31 #[.agg m.cells.toArray] w' fun e w2 => e = .returned (.int .i64 (stepsF m.p : Int)) ∧ Below w'.heap.size w' w2 := fun w' hw => Steps_any m w' (hm.step hw)
  have HST := Lib.hid hSt
  have HSP := Lib.hid hSp
  clear hSt hSp
  go_enter Try.func10, Try.ntmps10
  go_wp2_with (first
    | (with_reducible refine wpList_box (o := ⟨some 2, _, _, _, _, _⟩) rfl (.tmp 0) 26 rfl m.cells rfl 4 (pm4 m) (by decide) ?_; intro gc w1 hgc hC hB1; have hm1 := hm.step hB1)
    | (with_reducible refine wpList_load (o := ⟨some 14, _, _, _, _, _⟩) rfl (.tmp 2) 26 rfl gc 0 _ rfl m.cells 4 (pm4 m) aggCode hC.sees ?_)
    | (go_at_call 12; refine (GreatC_any m _ hm1).mono ?_))
  rintro e w2 ⟨⟨b, rfl, hgt⟩, hB2⟩
  have hC2 := hC.below hB2
  have hBw2 := Below.then_ hB1 hB2
  clear hB1 hB2 hC hgt hm1
  cases b
  rotate_left
  · go_wp2_with (first
      | (go_at_call 28; refine (quit _ hBw2).mono ?_; rintro e wz ⟨rfl, hBz⟩))
    go_ret
    exact ⟨rfl, hBz⟩
  cases hs : spotsF m.p with
  | error x =>
    obtain ⟨q, er⟩ := x
    have her := spots_err hs
    have hne : ((er : Int) != 0) = true := by simp; omega
    have hne2 : ((er : Int) == 0) = false := by simp; omega
    have hsp := HSP.out
    unfold SpotsOut at hsp
    rw [hs] at hsp
    simp only at hsp
    have HSP := Lib.hid hsp
    clear hsp hs her
    go_wp2_with (first
      | (with_reducible refine wpList_load (o := ⟨some 18, _, _, _, _, _⟩) rfl (.tmp 2) 26 rfl gc 0 _ rfl m.cells 4 (pm4 m) aggCode hC2.sees ?_)
      | (go_at_call 29; refine (HSP.out _ hBw2).mono ?_; rintro e w3 ⟨hB3, rfl⟩; have hBw3 := Below.then_ hBw2 hB3)
      | (go_at_call 28; refine (quit _ hBw3).mono ?_; rintro e wz ⟨rfl, hBz⟩))
    go_ret
    exact ⟨rfl, hBz⟩
  | ok l =>
    have hll := spots_len hs
    have hr := spots_right hs
    have hni := right_ins hr
    rw [hm.ni] at hll hni
    have hst0 : stepsF m.p = mostF l := by simp [stepsF, hs]
    have hsp := HSP.out
    unfold SpotsOut at hsp
    rw [hs] at hsp
    simp only at hsp
    have hst := HST.out
    obtain ⟨mo, hmo2⟩ : ∃ mo, mostF l = mo := ⟨_, rfl⟩
    rw [hst0, hmo2] at hst
    obtain ⟨M, hM⟩ : ∃ M, l.length = M := ⟨_, rfl⟩
    rw [hM] at hsp hll
    have hM2 : (m.ni : Int) + 1 = (M : Int) := by omega
    have hM3 : IntKind.i64.wrap (M : Int) = (M : Int) := by rw [IntKind.wrap_i64]; omega
    obtain ⟨k, hk⟩ : ∃ k, at_ % m.ni = k := ⟨_, rfl⟩
    have hkn : k < m.ni := by rw [← hk]; exact Nat.mod_lt _ (by omega)
    have hk1 : (at_ : Int).tmod (m.ni : Int) = (k : Int) := by rw [Int.tmod_eq_emod_of_nonneg (by omega)]; omega
    have hk2 : (at_ : Int) % (m.ni : Int) = (k : Int) := by omega
    have hz0 : ((m.ni : Int) == 0) = false := by simp; omega
    have hlow := spots_low hs
    have HSP := Lib.hid hsp
    have HST := Lib.hid hst
    have HM := Lib.hid hM
    have HLL := Lib.hid hll
    have HS := Lib.hid hs
    have HMO := Lib.hid hmo2
    have HK := Lib.hid hk
    clear hsp hst hst0 hs hmo2 hM hll hr hk
    have hkl : k < l.length := by rw [HM.out, HLL.out]; omega
    obtain ⟨rk, hrk⟩ : ∃ rk, (sp l k).r = rk := ⟨_, rfl⟩
    have HRK := Lib.hid hrk
    clear hrk
    cases rk with
    | true =>
      go_wp2_with (first
        | (with_reducible refine wpList_load (o := ⟨some 18, _, _, _, _, _⟩) rfl (.tmp 2) 26 rfl gc 0 _ rfl m.cells 4 (pm4 m) aggCode hC2.sees ?_)
        | (go_at_call 29; refine (HSP.out _ hBw2).mono ?_; rintro e w3 ⟨hB3, g, rfl, hS⟩; have hBw3 := Below.then_ hBw2 hB3; have hC3 := hC2.below hB3; have u3 := hC3.cell_ (k := 3) (u := .slice m.ai m.ni m.ci) rfl; obtain ⟨A0, c0, hc0, -⟩ := hS.get hkl; have v0 : w3.cell? ⟨g, k * 3, none⟩ = some (.bool true) := by (have h := hc0.cell4 0 _ rfl; rw [HRK.out] at h; exact h))
        | (go_at_call 28; refine (quit _ hBw3).mono ?_; rintro e wz ⟨rfl, hBz⟩))
      go_ret
      exact ⟨rfl, hBz⟩
    | false =>
      go_wp2_with (first
        | (with_reducible refine wpList_load (o := ⟨some 18, _, _, _, _, _⟩) rfl (.tmp 2) 26 rfl gc 0 _ rfl m.cells 4 (pm4 m) aggCode hC2.sees ?_)
        | (go_at_call 29; with_reducible refine HSPD.out.mono ?_; (rintro e w10 ⟨hB10, g2, rfl, hS2⟩; have hBwx := Below.then_ hBw9 hB10; have hCx := hC9.below hB10; have hDx := hF9.below hB10; have hPdx := hPd.step hB10; have hSx := hS9.below hB10))
        | (go_at_call 29; refine (HSP.out _ hBw2).mono ?_; rintro e w3 ⟨hB3, g, rfl, hS⟩; have hBw3 := Below.then_ hBw2 hB3; have hC3 := hC2.below hB3; have u3 := hC3.cell_ (k := 3) (u := .slice m.ai m.ni m.ci) rfl; obtain ⟨A0, c0, hc0, -⟩ := hS.get hkl; have v0 : w3.cell? ⟨g, k * 3, none⟩ = some (.bool false) := by (have h := hc0.cell4 0 _ rfl; rw [HRK.out] at h; exact h))
        | (with_reducible refine wpList_load (o := ⟨some 45, _, _, _, _, _⟩) rfl (.tmp 2) 26 rfl gc 0 _ rfl m.cells 4 (pm4 m) aggCode hC3.sees ?_)
        | (with_reducible refine wpList_alloc (o := ⟨some 9, _, _, _, _, _⟩) rfl 26 rfl noC zeroC 4 rfl (by decide) ?_; intro gd w4 hgw4 hFw4 hBw4)
        | (
            with_reducible refine wpList_store rfl rfl (.tmp 9) (.tmp 45) 26 rfl gd 0 w3.heap.size 26 4 noC m.cells ?_ ?_ 4 ?_ ?_ ?_ ?_ ?_ w3 ?_ ?_ ?_
            · rfl
            · rfl
            · rfl
            · exact aggCode
            · exact hFw4
            · omega
            · exact pm_one m
            · exact hBw4
            · exact hgw4
            intro w5 hFw5 hBw5 hkw5 hsw5
            rw [show splice noC 0 m.cells = m.cells from by simp [splice, noC, Pm.cells]] at hFw5; have hC5 := hC3.below hBw5; have hBw05 := Below.then_ hBw3 hBw5; have u3 := hC5.cell_ (k := 3) (u := .slice m.ai m.ni m.ci) rfl)
        | (with_reducible refine wpList_bs0 (o := ⟨some 46, _, _, _, _, _⟩) rfl rfl ?_; (intro w6 hJ6 hB6; have hC6 := hC5.below hB6; have hBw06 := Below.then_ hBw05 hB6; have u3 := hC6.cell_ (k := 3) (u := .slice m.ai m.ni m.ci) rfl; have hD6 := hFw5.below hB6))
        | (
            at_builtin
            with_reducible refine wpList_appJ (o := ⟨some 49, _, _, _, _, _⟩) (A := some ⟨w5.heap.size, 0, none⟩) (n := 0) (c := 0) (l := []) rfl (.tmp 46) (.tmp 48) rfl w5 m.ai m.ni m.ci m.p.ins ?_ ?_ ?_ ?_ ?_ ?_ ?_ ?_ ?_
            · rfl
            · rfl
            · exact hJ6
            · exact (hm.step hBw06).ins
            · exact hm.ni
            · omega
            · omega
            · exact hB6
            intro A7 c7 w7 hJ7 hB7
            (try rw [Nat.zero_add] at hJ7)
            (try rw [List.nil_append] at hJ7)
            obtain ⟨g7, rfl, h71, h72⟩ := hJ7.spot (by omega)
            have hD7 := hFw5.below hB7
            have hB37 := Below.then_ hBw5 hB7)
        | (
            with_reducible refine wpList_store1 rfl rfl (.tmp 50) (.tmp 49) 24 rfl gd 3 w3.heap.size 26 4 m.cells (.slice (some ⟨g7, 0, none⟩) m.ni c7) ?_ ?_ ?_ ?_ ?_ ?_ ?_ w3 ?_ ?_ ?_
            · rfl
            · rfl
            · rfl
            · rfl
            · kernel_rfl
            · exact hD7
            · omega
            · exact hB37
            · exact hgw4
            intro w8 hF8 hB8 hk8 hs8
            have hJ8 := hJ7.other (g := gd) (Nat.lt_of_lt_of_le hFw5.lt_size (Nat.le_refl _)) hk8
            have u8 := hF8.cell_ (k := 3) (u := .slice (some ⟨g7, 0, none⟩) m.ni c7) rfl)
        | (
            with_reducible refine wpList_storeJ (n := m.ni) (c := c7) (l := m.p.ins) rfl rfl (.tmp 55) (.tmp 54) rfl w3 g7 k ⟨22, 0, 0, 0⟩ ?_ ?_ ?_ ?_ ?_ ?_
            · rfl
            · rfl
            · exact hJ8.lower hBw5.size
            · exact hkn
            · exact hB8
            intro w9 hJ9 hB9 hk9 hs9
            have hg79 : gd ≠ g7 := fun e => by have := hFw5.lt_size; omega
            have hF9 := hF8.other hg79 hk9
            have hBw9 := Below.then_ hBw3 hB9
            obtain ⟨d, hdd⟩ : ∃ d : Pm, d = ⟨deadP m.p k, m.av, m.nv, m.cv, m.ab, m.nb, m.cb, some ⟨g7, 0, none⟩, m.ni, c7⟩ := ⟨_, rfl⟩
            have hdp : d.p = deadP m.p k := by rw [hdd]
            have hPd : PmAt w9.heap.size w9 d := by
              have h := hm.step hBw9
              subst hdd
              exact ⟨h.vars, h.blocks, hJ9.sees, h.nv, h.nb, (dead_len m.p k).trans h.ni, h.cv, h.cb, hJ9.cap, h.okv, (fun j hj => by
                rcases List.mem_or_eq_of_mem_set hj with hj | rfl
                · exact h.oki j hj
                · exact ⟨by decide, by decide, by decide, by decide⟩), h.name⟩
            have hcd : m.cells.set 3 (.slice (some ⟨g7, 0, none⟩) m.ni c7) = d.cells := by rw [hdd]; rfl
            rw [hcd] at hF9
            have hds : spotsF d.p = .ok l := by rw [hdp]; exact dead_spots HS.out HRK.out
            have hdst : stepsF d.p = mo := by simp only [stepsF, hds]; exact HMO.out
            have hSD := Spots_any d w9 hPd
            unfold SpotsOut at hSD
            rw [hds] at hSD
            simp only at hSD
            rw [HM.out] at hSD
            have HSPD := Lib.hid hSD
            have HSD := Lib.hid hdst
            have hC9 := hC3.below hB9
            have hS9 := hS.below hB9
            clear hSD hdst hds hcd hdp hdd hJ9 hF8 hk9 hs9 hJ8 hk8 hs8 hD7 hJ7 hFw4 hBw4 hFw5 hJ6 hC6 hD6 hC5 hB8 hB37 u8 u3 v0 hc0 hC3 hC2)
        | (with_reducible refine wpList_load (o := ⟨some 57, _, _, _, _, _⟩) rfl (.tmp 9) 26 rfl gd 0 _ rfl d.cells 4 (pm4 d) aggCode hF9.sees ?_))
      refine region_all_tail 15 (cd15 g g2 M mo m d) (by kernel_rfl) (by kernel_rfl) (by kernel_rfl) (cd15_stab _ _ _ _ _ _) ?_ ?_
      · intro wv hb0
        simp only [List.take_succ_cons, List.take_zero]
        refine ⟨?_, ?_, ?_, ?_, ?_, ?_, ?_, ?_, ?_, ?_, ?_, ?_, ?_, ?_, ?_, trivial⟩
        all_goals intro listed a1 w' hk1 hd1
        · have f12_ : a1.eval (.tmp 12) = .int .i64 0 := hk1.ev_old 12 (by kernel_rfl)
          have g12_ : a1.tmps[12]?.getD undef = .int .i64 0 := by simpa [Act.eval] using f12_
          exact stepOk_value rfl (v := .int .i64 0) (by go_simp) rfl
        · obtain ⟨y0, e0, q0, rfl⟩ := hk1.ev_new hd1 0 62 (by kernel_rfl) rfl
          exact stepOk_value rfl (v := .bool false) (by go_simp) rfl
        · obtain ⟨y1, e1, q1, rfl⟩ := hk1.ev_new hd1 1 63 (by kernel_rfl) rfl
          exact stepOk_value rfl (v := .bool false) (by go_simp) rfl
        · obtain ⟨y2, e2, q2, rfl⟩ := hk1.ev_new hd1 2 64 (by kernel_rfl) rfl
          have f5_ : a1.eval (.tmp 5) = .slice (some ⟨g, 0, none⟩) M M := hk1.ev_old 5 (by kernel_rfl)
          have g5_ : a1.tmps[5]?.getD undef = .slice (some ⟨g, 0, none⟩) M M := by simpa [Act.eval] using f5_
          exact stepOk_valK (wanted_at (t := 64) rfl rfl q2) (v := .slice (some ⟨g, 0, none⟩) M M) (by go_simp) rfl
        · obtain ⟨y2, e2, q2, rfl⟩ := hk1.ev_new hd1 2 64 (by kernel_rfl) rfl
          obtain ⟨y3, e3, q3, rfl⟩ := hk1.ev_new hd1 3 65 (by kernel_rfl) rfl
          exact stepOk_valK (wanted_at (t := 64) rfl rfl q2) (v := .int .i64 (M : Int)) (by go_simp) rfl
        · obtain ⟨y2, e2, q2, rfl⟩ := hk1.ev_new hd1 2 64 (by kernel_rfl) rfl
          have f10_ : a1.eval (.tmp 10) = .slice (some ⟨g2, 0, none⟩) M M := hk1.ev_old 10 (by kernel_rfl)
          have g10_ : a1.tmps[10]?.getD undef = .slice (some ⟨g2, 0, none⟩) M M := by simpa [Act.eval] using f10_
          exact stepOk_valK (wanted_at (t := 64) rfl rfl q2) (v := .slice (some ⟨g2, 0, none⟩) M M) (by go_simp) rfl
        · obtain ⟨y2, e2, q2, rfl⟩ := hk1.ev_new hd1 2 64 (by kernel_rfl) rfl
          obtain ⟨y5, e5, q5, rfl⟩ := hk1.ev_new hd1 5 67 (by kernel_rfl) rfl
          exact stepOk_valK (wanted_at (t := 64) rfl rfl q2) (v := .int .i64 (M : Int)) (by go_simp) rfl
        · obtain ⟨y2, e2, q2, rfl⟩ := hk1.ev_new hd1 2 64 (by kernel_rfl) rfl
          obtain ⟨y4, e4, q4, rfl⟩ := hk1.ev_new hd1 4 66 (by kernel_rfl) rfl
          obtain ⟨y6, e6, q6, rfl⟩ := hk1.ev_new hd1 6 68 (by kernel_rfl) rfl
          exact stepOk_valK (wanted_at (t := 64) rfl rfl q2) (v := .bool false) (by go_simp) rfl
        · obtain ⟨y2, e2, q2, rfl⟩ := hk1.ev_new hd1 2 64 (by kernel_rfl) rfl
          obtain ⟨y7, e7, q7, rfl⟩ := hk1.ev_new hd1 7 69 (by kernel_rfl) rfl
          exact stepOk_value rfl (v := .bool false) (by go_simp) rfl
        · obtain ⟨y8, e8, q8, rfl⟩ := hk1.ev_new hd1 8 70 (by kernel_rfl) rfl
          exact stepOk_value rfl (v := .bool false) (by go_simp) rfl
        · obtain ⟨y9, e9, q9, rfl⟩ := hk1.ev_new hd1 9 71 (by kernel_rfl) rfl
          have f2_ : a1.eval (.tmp 2) = .pointer (some ⟨gc, 0, none⟩) := hk1.ev_old 2 (by kernel_rfl)
          have g2_ : a1.tmps[2]?.getD undef = .pointer (some ⟨gc, 0, none⟩) := by simpa [Act.eval] using f2_
          exact stepOk_valK (wanted_at (t := 71) rfl rfl q9) (run_load_agg (.tmp 2) 26 rfl (hk1.ev_old 2 (by kernel_rfl)) m.cells 4 (pm4 m) aggCode ((hCx.below hb0).below hk1.below).sees) rfl
        · obtain ⟨y9, e9, q9, rfl⟩ := hk1.ev_new hd1 9 71 (by kernel_rfl) rfl
          obtain ⟨y10, e10, q10, rfl⟩ := hk1.ev_new hd1 10 72 (by kernel_rfl) rfl
          refine stepOk_enter (wanted_at (t := 71) rfl rfl q9) (f := 31) (args := #[.agg m.cells.toArray]) (by go_simp) ?_
          refine (HST.out _ (Below.then_ hBwx (Below.then_ hb0 hk1.below))).mono ?_
          rintro e w8 ⟨rfl, hB8⟩
          exact ⟨_, rfl, rfl, hB8⟩
        · obtain ⟨y9, e9, q9, rfl⟩ := hk1.ev_new hd1 9 71 (by kernel_rfl) rfl
          have f9_ : a1.eval (.tmp 9) = .pointer (some ⟨gd, 0, none⟩) := hk1.ev_old 9 (by kernel_rfl)
          have g9_ : a1.tmps[9]?.getD undef = .pointer (some ⟨gd, 0, none⟩) := by simpa [Act.eval] using f9_
          exact stepOk_valK (wanted_at (t := 71) rfl rfl q9) (run_load_agg (.tmp 9) 26 rfl (hk1.ev_old 9 (by kernel_rfl)) d.cells 4 (pm4 d) aggCode ((hDx.below hb0).below hk1.below).sees) rfl
        · obtain ⟨y9, e9, q9, rfl⟩ := hk1.ev_new hd1 9 71 (by kernel_rfl) rfl
          obtain ⟨y12, e12, q12, rfl⟩ := hk1.ev_new hd1 12 74 (by kernel_rfl) rfl
          refine stepOk_enter (wanted_at (t := 71) rfl rfl q9) (f := 31) (args := #[.agg d.cells.toArray]) (by go_simp) ?_
          have hsd := Steps_any d w' ((hPdx.step hb0).step hk1.below)
          rw [HSD.out] at hsd
          refine hsd.mono ?_
          rintro e w8 ⟨rfl, hB8⟩
          exact ⟨_, rfl, rfl, hB8⟩
        · obtain ⟨y9, e9, q9, rfl⟩ := hk1.ev_new hd1 9 71 (by kernel_rfl) rfl
          obtain ⟨y11, e11, q11, rfl⟩ := hk1.ev_new hd1 11 73 (by kernel_rfl) rfl
          obtain ⟨y13, e13, q13, rfl⟩ := hk1.ev_new hd1 13 75 (by kernel_rfl) rfl
          exact stepOk_valK (wanted_at (t := 71) rfl rfl q9) (v := .bool false) (by go_simp) rfl
      · intro a1 wy hb7 hp
        obtain ⟨x0, p0, x1, p1, x2, p2, x3, p3, x4, p4, x5, p5, x6, p6, x7, p7, x8, p8, x9, p9, x10, p10, x11, p11, x12, p12, x13, p13, x14, p14, rfl⟩ := hp
        simp only [cd15] at p0 p1 p2 p3 p4 p5 p6 p7 p8 p9 p10 p11 p12 p13 p14
        subst p0 p1 p2 p3 p4 p5 p6 p7 p8 p9 p10 p11 p12 p13 p14
        simp only [List.drop_succ_cons, List.drop_zero, Act.put, List.setIfInBounds_toArray, List.set_cons_succ, List.set_cons_zero]
        go_wp2_with fail
        have hSy := hSx.below hb7
        have hS2y := hS2.below hb7
        have hBwy := Below.then_ hBwx hb7
        clear hCx hDx hPdx hSx hS2 hb7 hC9 hS9 hF9 hPd
        go_loopw [13, 80] (fun s13 iv wr => ∃ i : Nat, i ≤ M ∧ iv = .int .i64 (i : Int) ∧ Below wy.heap.size wy wr) (fun _ iv _ => M - (intOf iv).toNat)
        case atStart => exact ⟨0, Nat.zero_le _, rfl, Below.refl _ _⟩
        case round =>
          obtain ⟨i, hi, rfl, hBr⟩ := hrel
          by_cases hlt : i < M
          · have hil : i < l.length := by rw [HM.out]; exact hlt
            obtain ⟨A1, c1, hc1, hf1⟩ := (hSy.below hBr).get hil
            obtain ⟨A2, c2, hc2, hf2⟩ := (hS2y.below hBr).get hil
            have hsk := hlow.sp i
            obtain ⟨⟨r, st, k0⟩, hse⟩ : ∃ s, sp l i = s := ⟨_, rfl⟩
            rw [hse] at hc1 hc2 hf1 hf2 hsk
            simp only at hf1 hf2 hsk
            obtain ⟨N, hN⟩ : ∃ N, st.length = N := ⟨_, rfl⟩
            have HN := Lib.hid hN
            rw [hN] at hf1 hf2 hsk
            clear hse hN
            go_wp2_with fail
            refine region_all_tail 37 (cd20 g g2 M M i N c1 c2 k0 r A1 A2) (by kernel_rfl) (by kernel_rfl) (by kernel_rfl) (cd20_stab _ _ _ _ _ _ _ _ _ _ _ _) ?_ ?_
            · intro wv hb0
              simp only [List.take_succ_cons, List.take_zero]
              refine ⟨?_, ?_, ?_, ?_, ?_, ?_, ?_, ?_, ?_, ?_, ?_, ?_, ?_, ?_, ?_, ?_, ?_, ?_, ?_, ?_, ?_, ?_, ?_, ?_, ?_, ?_, ?_, ?_, ?_, ?_, ?_, ?_, ?_, ?_, ?_, ?_, ?_, trivial⟩
              all_goals intro listed a1 w' hk1 hd1
              · have f5_ : a1.eval (.tmp 5) = .slice (some ⟨g, 0, none⟩) M M := hk1.ev_old 5 (by kernel_rfl)
                have g5_ : a1.tmps[5]?.getD undef = .slice (some ⟨g, 0, none⟩) M M := by simpa [Act.eval] using f5_
                exact stepOk_value rfl (v := .slice (some ⟨g, 0, none⟩) M M) (by go_simp) rfl
              · have f13_ : a1.eval (.tmp 13) = .int .i64 (i : Int) := hk1.ev_old 13 (by kernel_rfl)
                have g13_ : a1.tmps[13]?.getD undef = .int .i64 (i : Int) := by simpa [Act.eval] using f13_
                exact stepOk_value rfl (v := .int .i64 (i : Int)) (by go_simp) rfl
              · obtain ⟨y0, e0, q0, rfl⟩ := hk1.ev_new hd1 0 83 (by kernel_rfl) rfl
                obtain ⟨y1, e1, q1, rfl⟩ := hk1.ev_new hd1 1 84 (by kernel_rfl) rfl
                exact stepOk_value rfl (v := .pointer (some ⟨g, i * 3, none⟩)) (by go_simp) rfl
              · obtain ⟨y2, e2, q2, rfl⟩ := hk1.ev_new hd1 2 85 (by kernel_rfl) rfl
                exact stepOk_value rfl (v := .pointer (some ⟨g, i * 3, none⟩)) (by go_simp) rfl
              · obtain ⟨y3, e3, q3, rfl⟩ := hk1.ev_new hd1 3 86 (by kernel_rfl) rfl
                have kc := ((hc1.step hb0).step hk1.below)
                have kc := kc.cell4 0 (.bool r) (by rfl)
                simp only [Nat.add_zero] at kc
                exact stepOk_value rfl (v := .bool r) (by go_simp) rfl
              · have f10_ : a1.eval (.tmp 10) = .slice (some ⟨g2, 0, none⟩) M M := hk1.ev_old 10 (by kernel_rfl)
                have g10_ : a1.tmps[10]?.getD undef = .slice (some ⟨g2, 0, none⟩) M M := by simpa [Act.eval] using f10_
                exact stepOk_value rfl (v := .slice (some ⟨g2, 0, none⟩) M M) (by go_simp) rfl
              · have f13_ : a1.eval (.tmp 13) = .int .i64 (i : Int) := hk1.ev_old 13 (by kernel_rfl)
                have g13_ : a1.tmps[13]?.getD undef = .int .i64 (i : Int) := by simpa [Act.eval] using f13_
                exact stepOk_value rfl (v := .int .i64 (i : Int)) (by go_simp) rfl
              · obtain ⟨y5, e5, q5, rfl⟩ := hk1.ev_new hd1 5 88 (by kernel_rfl) rfl
                obtain ⟨y6, e6, q6, rfl⟩ := hk1.ev_new hd1 6 89 (by kernel_rfl) rfl
                exact stepOk_value rfl (v := .pointer (some ⟨g2, i * 3, none⟩)) (by go_simp) rfl
              · obtain ⟨y7, e7, q7, rfl⟩ := hk1.ev_new hd1 7 90 (by kernel_rfl) rfl
                exact stepOk_value rfl (v := .pointer (some ⟨g2, i * 3, none⟩)) (by go_simp) rfl
              · obtain ⟨y8, e8, q8, rfl⟩ := hk1.ev_new hd1 8 91 (by kernel_rfl) rfl
                have kc := ((hc2.step hb0).step hk1.below)
                have kc := kc.cell4 0 (.bool r) (by rfl)
                simp only [Nat.add_zero] at kc
                exact stepOk_value rfl (v := .bool r) (by go_simp) rfl
              · obtain ⟨y4, e4, q4, rfl⟩ := hk1.ev_new hd1 4 87 (by kernel_rfl) rfl
                obtain ⟨y9, e9, q9, rfl⟩ := hk1.ev_new hd1 9 92 (by kernel_rfl) rfl
                exact stepOk_value rfl (v := .bool false) (by go_simp) rfl
              · obtain ⟨y10, e10, q10, rfl⟩ := hk1.ev_new hd1 10 93 (by kernel_rfl) rfl
                exact stepOk_value rfl (v := .bool false) (by go_simp) rfl
              · obtain ⟨y11, e11, q11, rfl⟩ := hk1.ev_new hd1 11 94 (by kernel_rfl) rfl
                have f5_ : a1.eval (.tmp 5) = .slice (some ⟨g, 0, none⟩) M M := hk1.ev_old 5 (by kernel_rfl)
                have g5_ : a1.tmps[5]?.getD undef = .slice (some ⟨g, 0, none⟩) M M := by simpa [Act.eval] using f5_
                exact stepOk_valK (wanted_at (t := 94) rfl rfl q11) (v := .slice (some ⟨g, 0, none⟩) M M) (by go_simp) rfl
              · obtain ⟨y11, e11, q11, rfl⟩ := hk1.ev_new hd1 11 94 (by kernel_rfl) rfl
                have f13_ : a1.eval (.tmp 13) = .int .i64 (i : Int) := hk1.ev_old 13 (by kernel_rfl)
                have g13_ : a1.tmps[13]?.getD undef = .int .i64 (i : Int) := by simpa [Act.eval] using f13_
                exact stepOk_valK (wanted_at (t := 94) rfl rfl q11) (v := .int .i64 (i : Int)) (by go_simp) rfl
              · obtain ⟨y11, e11, q11, rfl⟩ := hk1.ev_new hd1 11 94 (by kernel_rfl) rfl
                obtain ⟨y12, e12, q12, rfl⟩ := hk1.ev_new hd1 12 95 (by kernel_rfl) rfl
                obtain ⟨y13, e13, q13, rfl⟩ := hk1.ev_new hd1 13 96 (by kernel_rfl) rfl
                exact stepOk_valK (wanted_at (t := 94) rfl rfl q11) (v := .pointer (some ⟨g, i * 3, none⟩)) (by go_simp) rfl
              · obtain ⟨y11, e11, q11, rfl⟩ := hk1.ev_new hd1 11 94 (by kernel_rfl) rfl
                obtain ⟨y14, e14, q14, rfl⟩ := hk1.ev_new hd1 14 97 (by kernel_rfl) rfl
                exact stepOk_valK (wanted_at (t := 94) rfl rfl q11) (v := .pointer (some ⟨g, i * 3 + 2, none⟩)) (by go_simp) rfl
              · obtain ⟨y11, e11, q11, rfl⟩ := hk1.ev_new hd1 11 94 (by kernel_rfl) rfl
                obtain ⟨y15, e15, q15, rfl⟩ := hk1.ev_new hd1 15 98 (by kernel_rfl) rfl
                have kc := ((hc1.step hb0).step hk1.below)
                have kc := kc.cell4 2 (.int .i64 (k0 : Int)) (by rfl)
                exact stepOk_valK (wanted_at (t := 94) rfl rfl q11) (v := .int .i64 (k0 : Int)) (by go_simp) rfl
              · obtain ⟨y11, e11, q11, rfl⟩ := hk1.ev_new hd1 11 94 (by kernel_rfl) rfl
                have f10_ : a1.eval (.tmp 10) = .slice (some ⟨g2, 0, none⟩) M M := hk1.ev_old 10 (by kernel_rfl)
                have g10_ : a1.tmps[10]?.getD undef = .slice (some ⟨g2, 0, none⟩) M M := by simpa [Act.eval] using f10_
                exact stepOk_valK (wanted_at (t := 94) rfl rfl q11) (v := .slice (some ⟨g2, 0, none⟩) M M) (by go_simp) rfl
              · obtain ⟨y11, e11, q11, rfl⟩ := hk1.ev_new hd1 11 94 (by kernel_rfl) rfl
                have f13_ : a1.eval (.tmp 13) = .int .i64 (i : Int) := hk1.ev_old 13 (by kernel_rfl)
                have g13_ : a1.tmps[13]?.getD undef = .int .i64 (i : Int) := by simpa [Act.eval] using f13_
                exact stepOk_valK (wanted_at (t := 94) rfl rfl q11) (v := .int .i64 (i : Int)) (by go_simp) rfl
              · obtain ⟨y11, e11, q11, rfl⟩ := hk1.ev_new hd1 11 94 (by kernel_rfl) rfl
                obtain ⟨y17, e17, q17, rfl⟩ := hk1.ev_new hd1 17 100 (by kernel_rfl) rfl
                obtain ⟨y18, e18, q18, rfl⟩ := hk1.ev_new hd1 18 101 (by kernel_rfl) rfl
                exact stepOk_valK (wanted_at (t := 94) rfl rfl q11) (v := .pointer (some ⟨g2, i * 3, none⟩)) (by go_simp) rfl
              · obtain ⟨y11, e11, q11, rfl⟩ := hk1.ev_new hd1 11 94 (by kernel_rfl) rfl
                obtain ⟨y19, e19, q19, rfl⟩ := hk1.ev_new hd1 19 102 (by kernel_rfl) rfl
                exact stepOk_valK (wanted_at (t := 94) rfl rfl q11) (v := .pointer (some ⟨g2, i * 3 + 2, none⟩)) (by go_simp) rfl
              · obtain ⟨y11, e11, q11, rfl⟩ := hk1.ev_new hd1 11 94 (by kernel_rfl) rfl
                obtain ⟨y20, e20, q20, rfl⟩ := hk1.ev_new hd1 20 103 (by kernel_rfl) rfl
                have kc := ((hc2.step hb0).step hk1.below)
                have kc := kc.cell4 2 (.int .i64 (k0 : Int)) (by rfl)
                exact stepOk_valK (wanted_at (t := 94) rfl rfl q11) (v := .int .i64 (k0 : Int)) (by go_simp) rfl
              · obtain ⟨y11, e11, q11, rfl⟩ := hk1.ev_new hd1 11 94 (by kernel_rfl) rfl
                obtain ⟨y16, e16, q16, rfl⟩ := hk1.ev_new hd1 16 99 (by kernel_rfl) rfl
                obtain ⟨y21, e21, q21, rfl⟩ := hk1.ev_new hd1 21 104 (by kernel_rfl) rfl
                exact stepOk_valK (wanted_at (t := 94) rfl rfl q11) (v := .bool false) (by go_simp) rfl
              · obtain ⟨y11, e11, q11, rfl⟩ := hk1.ev_new hd1 11 94 (by kernel_rfl) rfl
                obtain ⟨y22, e22, q22, rfl⟩ := hk1.ev_new hd1 22 105 (by kernel_rfl) rfl
                exact stepOk_value rfl (v := .bool false) (by go_simp) rfl
              · obtain ⟨y23, e23, q23, rfl⟩ := hk1.ev_new hd1 23 106 (by kernel_rfl) rfl
                exact stepOk_value rfl (v := .bool false) (by go_simp) rfl
              · obtain ⟨y24, e24, q24, rfl⟩ := hk1.ev_new hd1 24 107 (by kernel_rfl) rfl
                have f5_ : a1.eval (.tmp 5) = .slice (some ⟨g, 0, none⟩) M M := hk1.ev_old 5 (by kernel_rfl)
                have g5_ : a1.tmps[5]?.getD undef = .slice (some ⟨g, 0, none⟩) M M := by simpa [Act.eval] using f5_
                exact stepOk_valK (wanted_at (t := 107) rfl rfl q24) (v := .slice (some ⟨g, 0, none⟩) M M) (by go_simp) rfl
              · obtain ⟨y24, e24, q24, rfl⟩ := hk1.ev_new hd1 24 107 (by kernel_rfl) rfl
                have f13_ : a1.eval (.tmp 13) = .int .i64 (i : Int) := hk1.ev_old 13 (by kernel_rfl)
                have g13_ : a1.tmps[13]?.getD undef = .int .i64 (i : Int) := by simpa [Act.eval] using f13_
                exact stepOk_valK (wanted_at (t := 107) rfl rfl q24) (v := .int .i64 (i : Int)) (by go_simp) rfl
              · obtain ⟨y24, e24, q24, rfl⟩ := hk1.ev_new hd1 24 107 (by kernel_rfl) rfl
                obtain ⟨y25, e25, q25, rfl⟩ := hk1.ev_new hd1 25 108 (by kernel_rfl) rfl
                obtain ⟨y26, e26, q26, rfl⟩ := hk1.ev_new hd1 26 109 (by kernel_rfl) rfl
                exact stepOk_valK (wanted_at (t := 107) rfl rfl q24) (v := .pointer (some ⟨g, i * 3, none⟩)) (by go_simp) rfl
              · obtain ⟨y24, e24, q24, rfl⟩ := hk1.ev_new hd1 24 107 (by kernel_rfl) rfl
                obtain ⟨y27, e27, q27, rfl⟩ := hk1.ev_new hd1 27 110 (by kernel_rfl) rfl
                exact stepOk_valK (wanted_at (t := 107) rfl rfl q24) (v := .pointer (some ⟨g, i * 3 + 1, none⟩)) (by go_simp) rfl
              · obtain ⟨y24, e24, q24, rfl⟩ := hk1.ev_new hd1 24 107 (by kernel_rfl) rfl
                obtain ⟨y28, e28, q28, rfl⟩ := hk1.ev_new hd1 28 111 (by kernel_rfl) rfl
                have kc := ((hc1.step hb0).step hk1.below)
                have kc := kc.cell4 1 (.slice A1 N c1) (by rw [← HN.out]; rfl)
                exact stepOk_valK (wanted_at (t := 107) rfl rfl q24) (v := .slice A1 N c1) (by go_simp) rfl
              · obtain ⟨y24, e24, q24, rfl⟩ := hk1.ev_new hd1 24 107 (by kernel_rfl) rfl
                have f10_ : a1.eval (.tmp 10) = .slice (some ⟨g2, 0, none⟩) M M := hk1.ev_old 10 (by kernel_rfl)
                have g10_ : a1.tmps[10]?.getD undef = .slice (some ⟨g2, 0, none⟩) M M := by simpa [Act.eval] using f10_
                exact stepOk_valK (wanted_at (t := 107) rfl rfl q24) (v := .slice (some ⟨g2, 0, none⟩) M M) (by go_simp) rfl
              · obtain ⟨y24, e24, q24, rfl⟩ := hk1.ev_new hd1 24 107 (by kernel_rfl) rfl
                have f13_ : a1.eval (.tmp 13) = .int .i64 (i : Int) := hk1.ev_old 13 (by kernel_rfl)
                have g13_ : a1.tmps[13]?.getD undef = .int .i64 (i : Int) := by simpa [Act.eval] using f13_
                exact stepOk_valK (wanted_at (t := 107) rfl rfl q24) (v := .int .i64 (i : Int)) (by go_simp) rfl
              · obtain ⟨y24, e24, q24, rfl⟩ := hk1.ev_new hd1 24 107 (by kernel_rfl) rfl
                obtain ⟨y30, e30, q30, rfl⟩ := hk1.ev_new hd1 30 113 (by kernel_rfl) rfl
                obtain ⟨y31, e31, q31, rfl⟩ := hk1.ev_new hd1 31 114 (by kernel_rfl) rfl
                exact stepOk_valK (wanted_at (t := 107) rfl rfl q24) (v := .pointer (some ⟨g2, i * 3, none⟩)) (by go_simp) rfl
              · obtain ⟨y24, e24, q24, rfl⟩ := hk1.ev_new hd1 24 107 (by kernel_rfl) rfl
                obtain ⟨y32, e32, q32, rfl⟩ := hk1.ev_new hd1 32 115 (by kernel_rfl) rfl
                exact stepOk_valK (wanted_at (t := 107) rfl rfl q24) (v := .pointer (some ⟨g2, i * 3 + 1, none⟩)) (by go_simp) rfl
              · obtain ⟨y24, e24, q24, rfl⟩ := hk1.ev_new hd1 24 107 (by kernel_rfl) rfl
                obtain ⟨y33, e33, q33, rfl⟩ := hk1.ev_new hd1 33 116 (by kernel_rfl) rfl
                have kc := ((hc2.step hb0).step hk1.below)
                have kc := kc.cell4 1 (.slice A2 N c2) (by rw [← HN.out]; rfl)
                exact stepOk_valK (wanted_at (t := 107) rfl rfl q24) (v := .slice A2 N c2) (by go_simp) rfl
              · obtain ⟨y24, e24, q24, rfl⟩ := hk1.ev_new hd1 24 107 (by kernel_rfl) rfl
                obtain ⟨y29, e29, q29, rfl⟩ := hk1.ev_new hd1 29 112 (by kernel_rfl) rfl
                obtain ⟨y34, e34, q34, rfl⟩ := hk1.ev_new hd1 34 117 (by kernel_rfl) rfl
                refine stepOk_enter (wanted_at (t := 107) rfl rfl q24) (f := 35) (args := #[.slice A1 N c1, .slice A2 N c2]) (by go_simp) ?_
                have hsm := same14_any A1 A2 c1 c2 N N st st w' (((hf1.below hb0).below hk1.below).sees) (((hf2.below hb0).below hk1.below).sees) HN.out HN.out (by omega)
                rw [beq_self_eq_true] at hsm
                refine hsm.mono ?_
                rintro e w5 ⟨rfl, qz, rfl⟩
                exact ⟨_, rfl, rfl, below_drewN' (Below.refl _ _) qz⟩
              · obtain ⟨y24, e24, q24, rfl⟩ := hk1.ev_new hd1 24 107 (by kernel_rfl) rfl
                obtain ⟨y35, e35, q35, rfl⟩ := hk1.ev_new hd1 35 118 (by kernel_rfl) rfl
                exact stepOk_valK (wanted_at (t := 107) rfl rfl q24) (v := .bool false) (by go_simp) rfl
            · intro a1 w7 hb7 hp
              obtain ⟨x0, p0, x1, p1, x2, p2, x3, p3, x4, p4, x5, p5, x6, p6, x7, p7, x8, p8, x9, p9, x10, p10, x11, p11, x12, p12, x13, p13, x14, p14, x15, p15, x16, p16, x17, p17, x18, p18, x19, p19, x20, p20, x21, p21, x22, p22, x23, p23, x24, p24, x25, p25, x26, p26, x27, p27, x28, p28, x29, p29, x30, p30, x31, p31, x32, p32, x33, p33, x34, p34, x35, p35, x36, p36, rfl⟩ := hp
              simp only [cd20] at p0 p1 p2 p3 p4 p5 p6 p7 p8 p9 p10 p11 p12 p13 p14 p15 p16 p17 p18 p19 p20 p21 p22 p23 p24 p25 p26 p27 p28 p29 p30 p31 p32 p33 p34 p35 p36
              subst p0 p1 p2 p3 p4 p5 p6 p7 p8 p9 p10 p11 p12 p13 p14 p15 p16 p17 p18 p19 p20 p21 p22 p23 p24 p25 p26 p27 p28 p29 p30 p31 p32 p33 p34 p35 p36
              simp only [List.drop_succ_cons, List.drop_zero, Act.put, List.setIfInBounds_toArray, List.set_cons_succ, List.set_cons_zero]
              go_wp2_with fail
              go_roundw
              case rel => exact ⟨i + 1, by omega, by go_num, Below.then_ hBr hb7⟩
              case measure => simp [intOf]; omega
          · obtain rfl : i = M := by omega
            go_wp2_with (first
              | (go_at_call 28; refine (quit _ (Below.then_ hBwy hBr)).mono ?_; rintro e wz ⟨rfl, hBz⟩))
            go_ret
            exact ⟨rfl, hBz⟩
end Go.Proofs.Ytangblcfdboghaa
