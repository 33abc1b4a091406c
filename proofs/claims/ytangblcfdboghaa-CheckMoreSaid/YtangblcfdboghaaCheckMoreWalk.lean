/-
  A program passes with a budget just if it passes, and its steps are not more; two ends behind it change nothing: the walk of CheckMore.
-/
import Derived.Test.YtangblcfdboghaaCheckCopy
import Derived.Test.YtangblcfdboghaaRegionE
namespace Go.Proofs.Ytangblcfdboghaa
open Go.RowKit
set_option linter.unusedVariables false
set_option linter.constructorNameAsVariable false

def cm5 (lo hi cx cy : Nat) (m : Pm) (j : Nat) (x : Value) (w : World) : Prop :=
  match j with
  | 0 => x = .agg m.cells.toArray
  | 1 => x = .int .i64 (lo : Int)
  | 2 => x = .int .i64 (cx : Int)
  | 3 => x = .agg m.cells.toArray
  | 4 => x = .int .i64 (hi : Int)
  | 5 => x = .int .i64 (cy : Int)
  | 6 => x = .int .i64 (cx : Int)
  | 7 => x = .int .i64 (cy : Int)
  | _ => True
theorem cm5_stab (lo hi cx cy : Nat) (m : Pm) : ∀ j x w w', Below w.heap.size w w' → cm5 lo hi cx cy m j x w → cm5 lo hi cx cy m j x w' := fun _ _ _ _ _ h => h
def cm19 (g1 g2 M1 M2 i N c1 c2 k0 : Nat) (r : Bool) (A1 A2 : Option Addr) (j : Nat) (x : Value) (w : World) : Prop :=
  match j with
  | 0 => x = .slice (some ⟨g1, 0, none⟩) M1 M1
  | 1 => x = .int .i64 (i : Int)
  | 2 => x = .pointer (some ⟨g1, i * 3, none⟩)
  | 3 => x = .pointer (some ⟨g1, i * 3, none⟩)
  | 4 => x = .bool r
  | 5 => x = .slice (some ⟨g2, 0, none⟩) M2 M2
  | 6 => x = .int .i64 (i : Int)
  | 7 => x = .pointer (some ⟨g2, i * 3, none⟩)
  | 8 => x = .pointer (some ⟨g2, i * 3, none⟩)
  | 9 => x = .bool r
  | 10 => x = .bool false
  | 11 => x = .bool false
  | 12 => x = .slice (some ⟨g1, 0, none⟩) M1 M1
  | 13 => x = .int .i64 (i : Int)
  | 14 => x = .pointer (some ⟨g1, i * 3, none⟩)
  | 15 => x = .pointer (some ⟨g1, i * 3 + 2, none⟩)
  | 16 => x = .int .i64 (k0 : Int)
  | 17 => x = .slice (some ⟨g2, 0, none⟩) M2 M2
  | 18 => x = .int .i64 (i : Int)
  | 19 => x = .pointer (some ⟨g2, i * 3, none⟩)
  | 20 => x = .pointer (some ⟨g2, i * 3 + 2, none⟩)
  | 21 => x = .int .i64 (k0 : Int)
  | 22 => x = .bool false
  | 23 => x = .bool false
  | 24 => x = .bool false
  | 25 => x = .slice (some ⟨g1, 0, none⟩) M1 M1
  | 26 => x = .int .i64 (i : Int)
  | 27 => x = .pointer (some ⟨g1, i * 3, none⟩)
  | 28 => x = .pointer (some ⟨g1, i * 3 + 1, none⟩)
  | 29 => x = .slice A1 N c1
  | 30 => x = .slice (some ⟨g2, 0, none⟩) M2 M2
  | 31 => x = .int .i64 (i : Int)
  | 32 => x = .pointer (some ⟨g2, i * 3, none⟩)
  | 33 => x = .pointer (some ⟨g2, i * 3 + 1, none⟩)
  | 34 => x = .slice A2 N c2
  | 35 => x = .bool true
  | 36 => x = .bool false
  | _ => True
theorem cm19_stab (g1 g2 M1 M2 i N c1 c2 k0 : Nat) (r : Bool) (A1 A2 : Option Addr) : ∀ j x w w', Below w.heap.size w w' → cm19 g1 g2 M1 M2 i N c1 c2 k0 r A1 A2 j x w → cm19 g1 g2 M1 M2 i N c1 c2 k0 r A1 A2 j x w' := fun _ _ _ _ _ h => h

theorem sp_moreZ {l : List Sp} : (sp (l ++ moreZ) (l.length + 1)).r = false := by
  simp [sp, moreZ]
  rfl
theorem run_bs2J (w : World) : (Instr.buildSlice 24 2 #[(0, .agg #[.int .u8 22, .int .u8 0, .int .i64 0, .int .i64 0]), (1, .agg #[.int .u8 22, .int .u8 0, .int .i64 0, .int .i64 0])]).run Try.prog w = .ok (.slice (some ⟨w.heap.size, 0, none⟩) 2 2) (w.alloc (.cells (jcs [⟨22, 0, 0, 0⟩, ⟨22, 0, 0, 0⟩]).toArray 53 (0, 0))) := by kernel_rfl
set_option maxHeartbeats 8000000 in
set_option maxRecDepth 100000 in
theorem checkMore_any (w : World) (m : Pm) (hm : PmAt w.heap.size w m) (a b : Nat) (ha : a < 65536) (hb : b < 65536) :
    Calls Try.prog 8 #[.agg m.cells.toArray, .int .u16 (a : Int), .int .u16 (b : Int)] w fun e w' => e = .returned (.bool true) ∧ Below w.heap.size w w' := by
  have quit : ∀ wq, Below w.heap.size w wq → Calls Try.prog 28 #[] wq fun e w' => e = .returned (.bool true) ∧ Below w.heap.size w w' := fun wq hq => (awake14_any wq).mono (fun e w' h => ⟨h.1, Below.then_ hq h.2⟩)
  have hSp : ∀ w', Below w.heap.size w w' → Calls Try.prog 29 #[.agg m.cells.toArray] w' (SpotsOut m.p w') := fun w' hw => Spots_any m w' (hm.step hw)
  have hSt : ∀ w', Below w.heap.size w w' → Calls Try.prog 31 #[.agg m.cells.toArray] w' fun e w2 => e = .returned (.int .i64 (stepsF m.p : Int)) ∧ Below w'.heap.size w' w2 := fun w' hw => Steps_any m w' (hm.step hw)
  have hCk : ∀ (q : Int) w', Below w.heap.size w w' → Calls Try.prog 33 #[.agg m.cells.toArray, .int .i64 q] w' fun e w2 => e = .returned (.int .i64 (checkF m.p q : Int)) ∧ Below w'.heap.size w' w2 := fun q w' hw => Check_any m q w' (hm.step hw)
  have HST := Lib.hid hSt
  have HSP := Lib.hid hSp
  have HCK := Lib.hid hCk
  clear hSt hSp hCk
  obtain ⟨lo, hlo⟩ : ∃ lo, min a b = lo := ⟨_, rfl⟩
  obtain ⟨hi, hhi⟩ : ∃ hi, max a b = hi := ⟨_, rfl⟩
  have hmn : (if b < a then (b : Int) else (a : Int)) = (lo : Int) := by split <;> omega
  have hmx : (if a < b then (b : Int) else (a : Int)) = (hi : Int) := by split <;> omega
  have hlohi : lo ≤ hi := by omega
  have hhi2 : hi < 65536 := by omega
  clear hlo hhi
  go_enter Try.func8, Try.ntmps8
  go_wp2_with (first
    | (with_reducible refine wpList_box (o := ⟨some 3, _, _, _, _, _⟩) rfl (.tmp 0) 26 rfl m.cells rfl 4 (pm4 m) (by decide) ?_; intro gc w1 hgc hC hB1; have hm1 := hm.step hB1)
    | (with_reducible refine wpList_load (o := ⟨some 22, _, _, _, _, _⟩) rfl (.tmp 3) 26 rfl gc 0 _ rfl m.cells 4 (pm4 m) aggCode hC.sees ?_)
    | (go_at_call 12; refine (GreatC_any m _ hm1).mono ?_))
  rintro e w2 ⟨⟨b, rfl, hgt⟩, hB2⟩
  have hC2 := hC.below hB2
  have hBw2 := Below.then_ hB1 hB2
  clear hB1 hB2 hC hgt hm1
  cases b
  rotate_left
  · go_wp2_with (first
      | (go_at_call 28; refine (quit _ hBw2).mono ?_; rintro e wz ⟨rfl, hBz⟩))
    go_ret
    exact ⟨rfl, hBz⟩
  obtain ⟨cx, hx⟩ : ∃ z, checkF m.p lo = z := ⟨_, rfl⟩
  obtain ⟨cy, hy⟩ : ∃ z, checkF m.p hi = z := ⟨_, rfl⟩
  have HX := Lib.hid hx
  have HY := Lib.hid hy
  clear hx hy
  cases hs : spotsF m.p with
  | error ke =>
    obtain ⟨q, er⟩ := ke
    have her := spots_err hs
    have hne : ((er : Int) != 0) = true := by simp; omega
    have hne2 : ((er : Int) == 0) = false := by simp; omega
    have hxe : cx = er := by rw [← HX.out]; simp [checkF, hs]
    have hye : cy = er := by rw [← HY.out]; simp [checkF, hs]
    subst hxe
    obtain rfl : cy = cx := hye
    have hsp := HSP.out
    unfold SpotsOut at hsp
    rw [hs] at hsp
    simp only at hsp
    have HSP := Lib.hid hsp
    clear hsp hs her
    have HX2 : Hid (checkF m.p hi = cy) := HY
    go_wp2_with (first
      | (with_reducible refine wpList_load (o := ⟨some 34, _, _, _, _, _⟩) rfl (.tmp 3) 26 rfl gc 0 _ rfl m.cells 4 (pm4 m) aggCode hC2.sees ?_)
      | (go_at_call 29; refine (HSP.out _ hBw2).mono ?_; rintro e w3 ⟨hB3, rfl⟩; have hBw3 := Below.then_ hBw2 hB3; have hC3 := hC2.below hB3))
    refine region_all_end (cm5 lo hi cy cy m) (by kernel_rfl) (by kernel_rfl) (cm5_stab _ _ _ _ _) ?_ ?_
    · intro w0 hb0
      refine ⟨?_, ?_, ?_, ?_, ?_, ?_, ?_, ?_, trivial⟩
      all_goals intro listed a1 w' hk1 hd1
      · have f3_ : a1.eval (.tmp 3) = .pointer (some ⟨gc, 0, none⟩) := hk1.ev_old 3 (by kernel_rfl)
        have g3_ : a1.tmps[3]?.getD undef = .pointer (some ⟨gc, 0, none⟩) := by simpa [Act.eval] using f3_
        exact stepOk_value rfl (run_load_agg (.tmp 3) 26 rfl (hk1.ev_old 3 (by kernel_rfl)) m.cells 4 (pm4 m) aggCode ((hC3.below hb0).below hk1.below).sees) rfl
      · have f7_ : a1.eval (.tmp 7) = .int .i64 (lo : Int) := hk1.ev_old 7 (by kernel_rfl)
        have g7_ : a1.tmps[7]?.getD undef = .int .i64 (lo : Int) := by simpa [Act.eval] using f7_
        exact stepOk_value rfl (v := .int .i64 (lo : Int)) (by go_simp) rfl
      · obtain ⟨y0, e0, q0, rfl⟩ := hk1.ev_new hd1 0 39 (by kernel_rfl) rfl
        obtain ⟨y1, e1, q1, rfl⟩ := hk1.ev_new hd1 1 40 (by kernel_rfl) rfl
        refine stepOk_enter rfl (f := 33) (args := #[.agg m.cells.toArray, .int .i64 (lo : Int)]) (by go_simp) ?_
        have hck := (HCK.out (lo : Int) w' (Below.then_ hBw3 (Below.then_ hb0 hk1.below)))
        rw [HX.out] at hck
        refine hck.mono ?_
        rintro e w8 ⟨rfl, hB8⟩
        exact ⟨_, rfl, rfl, hB8⟩
      · have f3_ : a1.eval (.tmp 3) = .pointer (some ⟨gc, 0, none⟩) := hk1.ev_old 3 (by kernel_rfl)
        have g3_ : a1.tmps[3]?.getD undef = .pointer (some ⟨gc, 0, none⟩) := by simpa [Act.eval] using f3_
        exact stepOk_value rfl (run_load_agg (.tmp 3) 26 rfl (hk1.ev_old 3 (by kernel_rfl)) m.cells 4 (pm4 m) aggCode ((hC3.below hb0).below hk1.below).sees) rfl
      · have f8_ : a1.eval (.tmp 8) = .int .i64 (hi : Int) := hk1.ev_old 8 (by kernel_rfl)
        have g8_ : a1.tmps[8]?.getD undef = .int .i64 (hi : Int) := by simpa [Act.eval] using f8_
        exact stepOk_value rfl (v := .int .i64 (hi : Int)) (by go_simp) rfl
      · obtain ⟨y3, e3, q3, rfl⟩ := hk1.ev_new hd1 3 42 (by kernel_rfl) rfl
        obtain ⟨y4, e4, q4, rfl⟩ := hk1.ev_new hd1 4 43 (by kernel_rfl) rfl
        refine stepOk_enter rfl (f := 33) (args := #[.agg m.cells.toArray, .int .i64 (hi : Int)]) (by go_simp) ?_
        have hck := (HCK.out (hi : Int) w' (Below.then_ hBw3 (Below.then_ hb0 hk1.below)))
        rw [HX2.out] at hck
        refine hck.mono ?_
        rintro e w8 ⟨rfl, hB8⟩
        exact ⟨_, rfl, rfl, hB8⟩
      · obtain ⟨y2, e2, q2, rfl⟩ := hk1.ev_new hd1 2 41 (by kernel_rfl) rfl
        exact stepOk_value rfl (v := .int .i64 (cy : Int)) (by go_simp) rfl
      · obtain ⟨y5, e5, q5, rfl⟩ := hk1.ev_new hd1 5 44 (by kernel_rfl) rfl
        exact stepOk_value rfl (v := .int .i64 (cy : Int)) (by go_simp) rfl
    · intro a1 w7 hb7 hp
      obtain ⟨x0, p0, x1, p1, x2, p2, x3, p3, x4, p4, x5, p5, x6, p6, x7, p7, rfl⟩ := hp
      simp only [cm5] at p0 p1 p2 p3 p4 p5 p6 p7
      subst p0 p1 p2 p3 p4 p5 p6 p7
      simp only [Act.put, List.setIfInBounds_toArray, List.set_cons_succ, List.set_cons_zero]
      have hBw4 := Below.then_ hBw3 hb7
      go_wp2_with (first
        | (go_at_call 28; refine (quit _ hBw4).mono ?_; rintro e wz ⟨rfl, hBz⟩))
      go_ret
      exact ⟨rfl, hBz⟩
  | ok l =>
    have hll := spots_len hs
    have hr := spots_right hs
    have hni := right_ins hr
    rw [hm.ni] at hll hni
    have hst0 : stepsF m.p = mostF l := by simp [stepsF, hs]
    have hsp := HSP.out
    unfold SpotsOut at hsp
    rw [hs] at hsp
    simp only at hsp
    have hst := HST.out
    have hxe := HX.out
    have hye := HY.out
    simp only [checkF, hs] at hxe hye
    obtain ⟨mo, hmo2⟩ : ∃ mo, mostF l = mo := ⟨_, rfl⟩
    rw [hst0, hmo2] at hst
    rw [hmo2] at hxe hye
    obtain ⟨M, hM⟩ : ∃ M, l.length = M := ⟨_, rfl⟩
    rw [hM] at hsp hll
    have hMsm : M ≤ 2001 := by omega
    have hcase : (cx = 142 ∧ cy = 142 ∧ ¬ mo ≤ lo) ∨ (cx = 142 ∧ cy = 0 ∧ ¬ mo ≤ lo) ∨ (cx = 0 ∧ cy = 0 ∧ mo ≤ lo) := by
      by_cases h1 : (lo : Int) < mo
      · rw [if_pos h1] at hxe
        by_cases h2 : (hi : Int) < mo
        · rw [if_pos h2] at hye
          exact .inl ⟨hxe.symm, hye.symm, by omega⟩
        · rw [if_neg h2] at hye
          exact .inr (.inl ⟨hxe.symm, hye.symm, by omega⟩)
      · rw [if_neg h1] at hxe
        rw [if_neg (by omega)] at hye
        exact .inr (.inr ⟨hxe.symm, hye.symm, by omega⟩)
    have hlow := spots_low hs
    have HSP := Lib.hid hsp
    have HST := Lib.hid hst
    have HM := Lib.hid hM
    have HLL := Lib.hid hll
    have HS := Lib.hid hs
    have HNI := Lib.hid hm.ni
    clear hsp hst hst0 hs hmo2 hM hll hr hxe hye
    go_wp2_with (first
      | (with_reducible refine wpList_load (o := ⟨some 34, _, _, _, _, _⟩) rfl (.tmp 3) 26 rfl gc 0 _ rfl m.cells 4 (pm4 m) aggCode hC2.sees ?_)
      | (go_at_call 29; refine (HSP.out _ hBw2).mono ?_; rintro e w3 ⟨hB3, g0, rfl, hS⟩; have hBw3 := Below.then_ hBw2 hB3; have hC3 := hC2.below hB3))
    refine region_all_end (cm5 lo hi cx cy m) (by kernel_rfl) (by kernel_rfl) (cm5_stab _ _ _ _ _) ?_ ?_
    · intro w0 hb0
      refine ⟨?_, ?_, ?_, ?_, ?_, ?_, ?_, ?_, trivial⟩
      all_goals intro listed a1 w' hk1 hd1
      · have f3_ : a1.eval (.tmp 3) = .pointer (some ⟨gc, 0, none⟩) := hk1.ev_old 3 (by kernel_rfl)
        have g3_ : a1.tmps[3]?.getD undef = .pointer (some ⟨gc, 0, none⟩) := by simpa [Act.eval] using f3_
        exact stepOk_value rfl (run_load_agg (.tmp 3) 26 rfl (hk1.ev_old 3 (by kernel_rfl)) m.cells 4 (pm4 m) aggCode ((hC3.below hb0).below hk1.below).sees) rfl
      · have f7_ : a1.eval (.tmp 7) = .int .i64 (lo : Int) := hk1.ev_old 7 (by kernel_rfl)
        have g7_ : a1.tmps[7]?.getD undef = .int .i64 (lo : Int) := by simpa [Act.eval] using f7_
        exact stepOk_value rfl (v := .int .i64 (lo : Int)) (by go_simp) rfl
      · obtain ⟨y0, e0, q0, rfl⟩ := hk1.ev_new hd1 0 39 (by kernel_rfl) rfl
        obtain ⟨y1, e1, q1, rfl⟩ := hk1.ev_new hd1 1 40 (by kernel_rfl) rfl
        refine stepOk_enter rfl (f := 33) (args := #[.agg m.cells.toArray, .int .i64 (lo : Int)]) (by go_simp) ?_
        have hck := (HCK.out (lo : Int) w' (Below.then_ hBw3 (Below.then_ hb0 hk1.below)))
        rw [HX.out] at hck
        refine hck.mono ?_
        rintro e w8 ⟨rfl, hB8⟩
        exact ⟨_, rfl, rfl, hB8⟩
      · have f3_ : a1.eval (.tmp 3) = .pointer (some ⟨gc, 0, none⟩) := hk1.ev_old 3 (by kernel_rfl)
        have g3_ : a1.tmps[3]?.getD undef = .pointer (some ⟨gc, 0, none⟩) := by simpa [Act.eval] using f3_
        exact stepOk_value rfl (run_load_agg (.tmp 3) 26 rfl (hk1.ev_old 3 (by kernel_rfl)) m.cells 4 (pm4 m) aggCode ((hC3.below hb0).below hk1.below).sees) rfl
      · have f8_ : a1.eval (.tmp 8) = .int .i64 (hi : Int) := hk1.ev_old 8 (by kernel_rfl)
        have g8_ : a1.tmps[8]?.getD undef = .int .i64 (hi : Int) := by simpa [Act.eval] using f8_
        exact stepOk_value rfl (v := .int .i64 (hi : Int)) (by go_simp) rfl
      · obtain ⟨y3, e3, q3, rfl⟩ := hk1.ev_new hd1 3 42 (by kernel_rfl) rfl
        obtain ⟨y4, e4, q4, rfl⟩ := hk1.ev_new hd1 4 43 (by kernel_rfl) rfl
        refine stepOk_enter rfl (f := 33) (args := #[.agg m.cells.toArray, .int .i64 (hi : Int)]) (by go_simp) ?_
        have hck := (HCK.out (hi : Int) w' (Below.then_ hBw3 (Below.then_ hb0 hk1.below)))
        rw [HY.out] at hck
        refine hck.mono ?_
        rintro e w8 ⟨rfl, hB8⟩
        exact ⟨_, rfl, rfl, hB8⟩
      · obtain ⟨y2, e2, q2, rfl⟩ := hk1.ev_new hd1 2 41 (by kernel_rfl) rfl
        exact stepOk_value rfl (v := .int .i64 (cx : Int)) (by go_simp) rfl
      · obtain ⟨y5, e5, q5, rfl⟩ := hk1.ev_new hd1 5 44 (by kernel_rfl) rfl
        exact stepOk_value rfl (v := .int .i64 (cy : Int)) (by go_simp) rfl
    · intro a1 w7 hb7 hp
      obtain ⟨x0, p0, x1, p1, x2, p2, x3, p3, x4, p4, x5, p5, x6, p6, x7, p7, rfl⟩ := hp
      simp only [cm5] at p0 p1 p2 p3 p4 p5 p6 p7
      subst p0 p1 p2 p3 p4 p5 p6 p7
      simp only [Act.put, List.setIfInBounds_toArray, List.set_cons_succ, List.set_cons_zero]
      rcases hcase with ⟨rfl, rfl, hmo⟩ | ⟨rfl, rfl, hmo⟩ | ⟨rfl, rfl, hmo⟩
      · have hC4 := hC3.below hb7
        have hBw4 := Below.then_ hBw3 hb7
        have hle : decide ((mo : Int) ≤ (lo : Int)) = false := by simp; omega
        by_cases hbig : 2000 < m.ni + 2
        · have hbg : decide ((2000 : Int) < (m.ni : Int) + 2) = true := by simp; omega
          have hbg2 : decide ((m.ni : Int) + 2 > 2000) = true := by simp; omega
          go_wp2_with (first
            | (with_reducible refine wpList_load_g (.tmp 3) 26 rfl gc 0 _ rfl m.cells 4 (pm4 m) aggCode hC4.sees rfl ?_)
            | (go_at_call 31; with_reducible refine (HST.out _ hBw4).mono ?_; rintro e w5 ⟨rfl, hB5⟩; have hBw5 := Below.then_ hBw4 hB5; have hC5 := hC4.below hB5; have u3 := hC5.cell_ (k := 3) (u := .slice m.ai m.ni m.ci) rfl)
            | (go_at_call 28; refine (quit _ hBw5).mono ?_; rintro e wz ⟨rfl, hBz⟩))
          go_ret
          exact ⟨rfl, hBz⟩
        · have hbg : decide ((2000 : Int) < (m.ni : Int) + 2) = false := by simp; omega
          have hbg2 : decide ((m.ni : Int) + 2 > 2000) = false := by simp; omega
          go_wp2_with (first
            | (with_reducible refine wpList_load_g (.tmp 3) 26 rfl gc 0 _ rfl m.cells 4 (pm4 m) aggCode hC4.sees rfl ?_)
            | (go_at_call 31; with_reducible refine (HST.out _ hBw4).mono ?_; rintro e w5 ⟨rfl, hB5⟩; have hBw5 := Below.then_ hBw4 hB5; have hC5 := hC4.below hB5; have u3 := hC5.cell_ (k := 3) (u := .slice m.ai m.ni m.ci) rfl)
            | (with_reducible refine wpList_load (o := ⟨some 88, _, _, _, _, _⟩) rfl (.tmp 3) 26 rfl gc 0 _ rfl m.cells 4 (pm4 m) aggCode hC5.sees ?_)
            | (with_reducible refine wpList_alloc (o := ⟨some 14, _, _, _, _, _⟩) rfl 26 rfl noC zeroC 4 rfl (by decide) ?_; intro gd w6 hgw6 hFw6 hBw6)
            | (
                with_reducible refine wpList_store rfl rfl (.tmp 14) (.tmp 88) 26 rfl gd 0 w5.heap.size 26 4 noC m.cells ?_ ?_ 4 ?_ ?_ ?_ ?_ ?_ w5 ?_ ?_ ?_
                · rfl
                · rfl
                · rfl
                · exact aggCode
                · exact hFw6
                · omega
                · exact pm_one m
                · exact hBw6
                · exact hgw6
                intro w7 hFw7 hBw7 hkw7 hsw7
                rw [show splice noC 0 m.cells = m.cells from by simp [splice, noC, Pm.cells]] at hFw7; have hC7 := hC5.below hBw7; have hBw07 := Below.then_ hBw5 hBw7)
            | (with_reducible refine wpList_bs0 (o := ⟨some 89, _, _, _, _, _⟩) rfl rfl ?_; (intro w8 hJ8 hB8; have hC8 := hC7.below hB8; have hBw08 := Below.then_ hBw07 hB8; have u3 := hC8.cell_ (k := 3) (u := .slice m.ai m.ni m.ci) rfl))
            | (
                at_builtin
                with_reducible refine wpList_appJ (o := ⟨some 92, _, _, _, _, _⟩) (A := some ⟨w7.heap.size, 0, none⟩) (n := 0) (c := 0) (l := []) rfl (.tmp 89) (.tmp 91) rfl w7 m.ai m.ni m.ci m.p.ins ?_ ?_ ?_ ?_ ?_ ?_ ?_ ?_ ?_
                · rfl
                · rfl
                · exact hJ8
                · exact (hm.step hBw08).ins
                · exact hm.ni
                · omega
                · omega
                · exact hB8
                intro A9 c9 w9 hJ9 hB9
                (try rw [Nat.zero_add] at hJ9)
                (try rw [List.nil_append] at hJ9))
            | (
                at_builtin
                with_reducible refine wpList_appJ (o := ⟨some 96, _, _, _, _, _⟩) (A := A9) (n := m.ni) (c := c9) (l := m.p.ins) rfl (.tmp 92) (.tmp 95) rfl w7 (some ⟨w9.heap.size, 0, none⟩) 2 2 [⟨22, 0, 0, 0⟩, ⟨22, 0, 0, 0⟩] ?_ ?_ ?_ ?_ ?_ ?_ ?_ ?_ ?_
                · rfl
                · rfl
                · exact hJ9.below (below_alloc _ _)
                · exact sees_new w9 53 (jcs [⟨22, 0, 0, 0⟩, ⟨22, 0, 0, 0⟩])
                · rfl
                · omega
                · omega
                · exact Below.then_ hB9 (below_alloc _ _)
                intro Aa ca wa hJa hBa
                have hDa := hFw7.below hBa
                have hB5a := Below.then_ hBw7 hBa)
            | (
                with_reducible refine wpList_store1 rfl rfl (.tmp 97) (.tmp 96) 24 rfl gd 3 w5.heap.size 26 4 m.cells (.slice Aa (m.ni + 2) ca) ?_ ?_ ?_ ?_ ?_ ?_ ?_ w5 ?_ ?_ ?_
                · rfl
                · rfl
                · rfl
                · rfl
                · kernel_rfl
                · exact hDa
                · omega
                · exact hB5a
                · exact hgw6
                intro wb hFb hBb hkb hsb
                have hJb := hJa.other (g := gd) hFw7.lt_size hkb
                have hBwb := Below.then_ hBw5 hBb
                obtain ⟨d, hdd⟩ : ∃ d : Pm, d = ⟨moreP m.p, m.av, m.nv, m.cv, m.ab, m.nb, m.cb, Aa, m.ni + 2, ca⟩ := ⟨_, rfl⟩
                have hdp : d.p = moreP m.p := by rw [hdd]
                have hPd : PmAt wb.heap.size wb d := by
                  have h := hm.step hBwb
                  subst hdd
                  exact ⟨h.vars, h.blocks, hJb.sees, h.nv, h.nb, (more_len m.p).trans (by rw [h.ni]), h.cv, h.cb, hJb.cap, h.okv, (fun j hj => by
                    rcases List.mem_append.1 hj with hj | hj
                    · exact h.oki j hj
                    · have : j = ⟨22, 0, 0, 0⟩ := by simpa using hj
                      rw [this]
                      exact ⟨by decide, by decide, by decide, by decide⟩), h.name⟩
                have hcd : m.cells.set 3 (.slice Aa (m.ni + 2) ca) = d.cells := by rw [hdd]; rfl
                rw [hcd] at hFb
                have hds : spotsF d.p = .ok (l ++ moreZ) := by rw [hdp]; exact more_spots HS.out (by rw [HNI.out]; omega)
                have hSD := Spots_any d
                unfold SpotsOut at hSD
                rw [hds] at hSD
                simp only at hSD
                have hlz : (l ++ moreZ).length = M + 2 := by rw [List.length_append, HM.out]; rfl
                rw [hlz] at hSD
                have HSPD := Lib.hid hSD
                have HLZ := Lib.hid hlz
                have hCb := (hC5.below hBb)
                clear hSD hds hcd hdp hdd hkb hsb hJb hDa hJa hJ9 hFw6 hBw6 hFw7 hJ8 hC8 hC7 hB5a u3 hlz)
            | (with_reducible refine wpList_load (o := ⟨some 99, _, _, _, _, _⟩) rfl (.tmp 3) 26 rfl gc 0 _ rfl m.cells 4 (pm4 m) aggCode hCb.sees ?_)
            | (go_at_call 29; with_reducible refine (HSP.out _ hBwb).mono ?_; (rintro e wc ⟨hBc, g, rfl, hSc⟩; have hBwc := Below.then_ hBwb hBc; have hCc := hCb.below hBc; have hFc := hFb.below hBc; have hPc := hPd.step hBc))
            | (with_reducible refine wpList_load (o := ⟨some 105, _, _, _, _, _⟩) rfl (.tmp 14) 26 rfl gd 0 _ rfl d.cells 4 (pm4 d) aggCode hFc.sees ?_)
            | (go_at_call 29; with_reducible refine (HSPD.out _ hPc).mono ?_; (rintro e wd ⟨hBd, g2, rfl, hSd⟩; have hBwd := Below.then_ hBwc hBd; have hSx := hSc.below hBd)))
          clear hPc hPd hCb hFb hCc hFc hBb hBa hB9 hB8 hBw7 hgw6 hSc
          go_loopw [21, 126] (fun s21 iv wr => ∃ i : Nat, i ≤ M ∧ iv = .int .i64 (i : Int) ∧ Below wd.heap.size wd wr) (fun _ iv _ => M - (intOf iv).toNat)
          case atStart => exact ⟨0, Nat.zero_le _, rfl, Below.refl _ _⟩
          case round =>
            obtain ⟨i, hi, rfl, hBr⟩ := hrel
            have hS1 := hSx.below hBr
            have hS2 := hSd.below hBr
            have hBwr := Below.then_ hBwd hBr
            by_cases hlt : i < M
            · have hil : i < l.length := by rw [HM.out]; exact hlt
              obtain ⟨A1, c1, hc1, hf1⟩ := hS1.get hil
              obtain ⟨A2, c2, hc2, hf2⟩ := hS2.get (x := i) (by rw [HLZ.out]; omega)
              have hsk := hlow.sp i
              rw [sp_left hil] at hc2 hf2
              obtain ⟨⟨r, st, k0⟩, hse⟩ : ∃ s, sp l i = s := ⟨_, rfl⟩
              rw [hse] at hc1 hc2 hf1 hf2 hsk
              simp only at hf1 hf2 hsk
              obtain ⟨N, hN⟩ : ∃ N, st.length = N := ⟨_, rfl⟩
              have HN := Lib.hid hN
              rw [hN] at hf1 hf2 hsk
              have hM2i : ¬ ((M : Int) + 2 ≤ (i : Int)) := by omega
              clear hse hN
              go_wp2_with fail
              refine region_all_tail 37 (cm19 g g2 M (M + 2) i N c1 c2 k0 r A1 A2) (by kernel_rfl) (by kernel_rfl) (by kernel_rfl) (cm19_stab _ _ _ _ _ _ _ _ _ _ _ _) ?_ ?_
              · intro wv hb0
                simp only [List.take_succ_cons, List.take_zero]
                refine ⟨?_, ?_, ?_, ?_, ?_, ?_, ?_, ?_, ?_, ?_, ?_, ?_, ?_, ?_, ?_, ?_, ?_, ?_, ?_, ?_, ?_, ?_, ?_, ?_, ?_, ?_, ?_, ?_, ?_, ?_, ?_, ?_, ?_, ?_, ?_, ?_, ?_, trivial⟩
                all_goals intro listed a1 w' hk1 hd1
                · have f15_ : a1.eval (.tmp 15) = .slice (some ⟨g, 0, none⟩) M M := hk1.ev_old 15 (by kernel_rfl)
                  have g15_ : a1.tmps[15]?.getD undef = .slice (some ⟨g, 0, none⟩) M M := by simpa [Act.eval] using f15_
                  exact stepOk_value rfl (v := .slice (some ⟨g, 0, none⟩) M M) (by go_simp) rfl
                · have f21_ : a1.eval (.tmp 21) = .int .i64 (i : Int) := hk1.ev_old 21 (by kernel_rfl)
                  have g21_ : a1.tmps[21]?.getD undef = .int .i64 (i : Int) := by simpa [Act.eval] using f21_
                  exact stepOk_value rfl (v := .int .i64 (i : Int)) (by go_simp) rfl
                · obtain ⟨y0, e0, q0, rfl⟩ := hk1.ev_new hd1 0 129 (by kernel_rfl) rfl
                  obtain ⟨y1, e1, q1, rfl⟩ := hk1.ev_new hd1 1 130 (by kernel_rfl) rfl
                  exact stepOk_value rfl (v := .pointer (some ⟨g, i * 3, none⟩)) (by go_simp) rfl
                · obtain ⟨y2, e2, q2, rfl⟩ := hk1.ev_new hd1 2 131 (by kernel_rfl) rfl
                  exact stepOk_value rfl (v := .pointer (some ⟨g, i * 3, none⟩)) (by go_simp) rfl
                · obtain ⟨y3, e3, q3, rfl⟩ := hk1.ev_new hd1 3 132 (by kernel_rfl) rfl
                  have kc := ((hc1.step hb0).step hk1.below)
                  have kc := kc.cell4 0 (.bool r) (by rfl)
                  simp only [Nat.add_zero] at kc
                  exact stepOk_value rfl (v := .bool r) (by go_simp) rfl
                · have f18_ : a1.eval (.tmp 18) = .slice (some ⟨g2, 0, none⟩) (M + 2) (M + 2) := hk1.ev_old 18 (by kernel_rfl)
                  have g18_ : a1.tmps[18]?.getD undef = .slice (some ⟨g2, 0, none⟩) (M + 2) (M + 2) := by simpa [Act.eval] using f18_
                  exact stepOk_value rfl (v := .slice (some ⟨g2, 0, none⟩) (M + 2) (M + 2)) (by go_simp) rfl
                · have f21_ : a1.eval (.tmp 21) = .int .i64 (i : Int) := hk1.ev_old 21 (by kernel_rfl)
                  have g21_ : a1.tmps[21]?.getD undef = .int .i64 (i : Int) := by simpa [Act.eval] using f21_
                  exact stepOk_value rfl (v := .int .i64 (i : Int)) (by go_simp) rfl
                · obtain ⟨y5, e5, q5, rfl⟩ := hk1.ev_new hd1 5 134 (by kernel_rfl) rfl
                  obtain ⟨y6, e6, q6, rfl⟩ := hk1.ev_new hd1 6 135 (by kernel_rfl) rfl
                  exact stepOk_value rfl (v := .pointer (some ⟨g2, i * 3, none⟩)) (by go_simp) rfl
                · obtain ⟨y7, e7, q7, rfl⟩ := hk1.ev_new hd1 7 136 (by kernel_rfl) rfl
                  exact stepOk_value rfl (v := .pointer (some ⟨g2, i * 3, none⟩)) (by go_simp) rfl
                · obtain ⟨y8, e8, q8, rfl⟩ := hk1.ev_new hd1 8 137 (by kernel_rfl) rfl
                  have kc := ((hc2.step hb0).step hk1.below)
                  have kc := kc.cell4 0 (.bool r) (by rfl)
                  simp only [Nat.add_zero] at kc
                  exact stepOk_value rfl (v := .bool r) (by go_simp) rfl
                · obtain ⟨y4, e4, q4, rfl⟩ := hk1.ev_new hd1 4 133 (by kernel_rfl) rfl
                  obtain ⟨y9, e9, q9, rfl⟩ := hk1.ev_new hd1 9 138 (by kernel_rfl) rfl
                  exact stepOk_value rfl (v := .bool false) (by go_simp) rfl
                · obtain ⟨y10, e10, q10, rfl⟩ := hk1.ev_new hd1 10 139 (by kernel_rfl) rfl
                  exact stepOk_value rfl (v := .bool false) (by go_simp) rfl
                · obtain ⟨y11, e11, q11, rfl⟩ := hk1.ev_new hd1 11 140 (by kernel_rfl) rfl
                  have f15_ : a1.eval (.tmp 15) = .slice (some ⟨g, 0, none⟩) M M := hk1.ev_old 15 (by kernel_rfl)
                  have g15_ : a1.tmps[15]?.getD undef = .slice (some ⟨g, 0, none⟩) M M := by simpa [Act.eval] using f15_
                  exact stepOk_valK (wanted_at (t := 140) rfl rfl q11) (v := .slice (some ⟨g, 0, none⟩) M M) (by go_simp) rfl
                · obtain ⟨y11, e11, q11, rfl⟩ := hk1.ev_new hd1 11 140 (by kernel_rfl) rfl
                  have f21_ : a1.eval (.tmp 21) = .int .i64 (i : Int) := hk1.ev_old 21 (by kernel_rfl)
                  have g21_ : a1.tmps[21]?.getD undef = .int .i64 (i : Int) := by simpa [Act.eval] using f21_
                  exact stepOk_valK (wanted_at (t := 140) rfl rfl q11) (v := .int .i64 (i : Int)) (by go_simp) rfl
                · obtain ⟨y11, e11, q11, rfl⟩ := hk1.ev_new hd1 11 140 (by kernel_rfl) rfl
                  obtain ⟨y12, e12, q12, rfl⟩ := hk1.ev_new hd1 12 141 (by kernel_rfl) rfl
                  obtain ⟨y13, e13, q13, rfl⟩ := hk1.ev_new hd1 13 142 (by kernel_rfl) rfl
                  exact stepOk_valK (wanted_at (t := 140) rfl rfl q11) (v := .pointer (some ⟨g, i * 3, none⟩)) (by go_simp) rfl
                · obtain ⟨y11, e11, q11, rfl⟩ := hk1.ev_new hd1 11 140 (by kernel_rfl) rfl
                  obtain ⟨y14, e14, q14, rfl⟩ := hk1.ev_new hd1 14 143 (by kernel_rfl) rfl
                  exact stepOk_valK (wanted_at (t := 140) rfl rfl q11) (v := .pointer (some ⟨g, i * 3 + 2, none⟩)) (by go_simp) rfl
                · obtain ⟨y11, e11, q11, rfl⟩ := hk1.ev_new hd1 11 140 (by kernel_rfl) rfl
                  obtain ⟨y15, e15, q15, rfl⟩ := hk1.ev_new hd1 15 144 (by kernel_rfl) rfl
                  have kc := ((hc1.step hb0).step hk1.below)
                  have kc := kc.cell4 2 (.int .i64 (k0 : Int)) (by rfl)
                  exact stepOk_valK (wanted_at (t := 140) rfl rfl q11) (v := .int .i64 (k0 : Int)) (by go_simp) rfl
                · obtain ⟨y11, e11, q11, rfl⟩ := hk1.ev_new hd1 11 140 (by kernel_rfl) rfl
                  have f18_ : a1.eval (.tmp 18) = .slice (some ⟨g2, 0, none⟩) (M + 2) (M + 2) := hk1.ev_old 18 (by kernel_rfl)
                  have g18_ : a1.tmps[18]?.getD undef = .slice (some ⟨g2, 0, none⟩) (M + 2) (M + 2) := by simpa [Act.eval] using f18_
                  exact stepOk_valK (wanted_at (t := 140) rfl rfl q11) (v := .slice (some ⟨g2, 0, none⟩) (M + 2) (M + 2)) (by go_simp) rfl
                · obtain ⟨y11, e11, q11, rfl⟩ := hk1.ev_new hd1 11 140 (by kernel_rfl) rfl
                  have f21_ : a1.eval (.tmp 21) = .int .i64 (i : Int) := hk1.ev_old 21 (by kernel_rfl)
                  have g21_ : a1.tmps[21]?.getD undef = .int .i64 (i : Int) := by simpa [Act.eval] using f21_
                  exact stepOk_valK (wanted_at (t := 140) rfl rfl q11) (v := .int .i64 (i : Int)) (by go_simp) rfl
                · obtain ⟨y11, e11, q11, rfl⟩ := hk1.ev_new hd1 11 140 (by kernel_rfl) rfl
                  obtain ⟨y17, e17, q17, rfl⟩ := hk1.ev_new hd1 17 146 (by kernel_rfl) rfl
                  obtain ⟨y18, e18, q18, rfl⟩ := hk1.ev_new hd1 18 147 (by kernel_rfl) rfl
                  exact stepOk_valK (wanted_at (t := 140) rfl rfl q11) (v := .pointer (some ⟨g2, i * 3, none⟩)) (by go_simp) rfl
                · obtain ⟨y11, e11, q11, rfl⟩ := hk1.ev_new hd1 11 140 (by kernel_rfl) rfl
                  obtain ⟨y19, e19, q19, rfl⟩ := hk1.ev_new hd1 19 148 (by kernel_rfl) rfl
                  exact stepOk_valK (wanted_at (t := 140) rfl rfl q11) (v := .pointer (some ⟨g2, i * 3 + 2, none⟩)) (by go_simp) rfl
                · obtain ⟨y11, e11, q11, rfl⟩ := hk1.ev_new hd1 11 140 (by kernel_rfl) rfl
                  obtain ⟨y20, e20, q20, rfl⟩ := hk1.ev_new hd1 20 149 (by kernel_rfl) rfl
                  have kc := ((hc2.step hb0).step hk1.below)
                  have kc := kc.cell4 2 (.int .i64 (k0 : Int)) (by rfl)
                  exact stepOk_valK (wanted_at (t := 140) rfl rfl q11) (v := .int .i64 (k0 : Int)) (by go_simp) rfl
                · obtain ⟨y11, e11, q11, rfl⟩ := hk1.ev_new hd1 11 140 (by kernel_rfl) rfl
                  obtain ⟨y16, e16, q16, rfl⟩ := hk1.ev_new hd1 16 145 (by kernel_rfl) rfl
                  obtain ⟨y21, e21, q21, rfl⟩ := hk1.ev_new hd1 21 150 (by kernel_rfl) rfl
                  exact stepOk_valK (wanted_at (t := 140) rfl rfl q11) (v := .bool false) (by go_simp) rfl
                · obtain ⟨y11, e11, q11, rfl⟩ := hk1.ev_new hd1 11 140 (by kernel_rfl) rfl
                  obtain ⟨y22, e22, q22, rfl⟩ := hk1.ev_new hd1 22 151 (by kernel_rfl) rfl
                  exact stepOk_value rfl (v := .bool false) (by go_simp) rfl
                · obtain ⟨y23, e23, q23, rfl⟩ := hk1.ev_new hd1 23 152 (by kernel_rfl) rfl
                  exact stepOk_value rfl (v := .bool false) (by go_simp) rfl
                · obtain ⟨y24, e24, q24, rfl⟩ := hk1.ev_new hd1 24 153 (by kernel_rfl) rfl
                  have f15_ : a1.eval (.tmp 15) = .slice (some ⟨g, 0, none⟩) M M := hk1.ev_old 15 (by kernel_rfl)
                  have g15_ : a1.tmps[15]?.getD undef = .slice (some ⟨g, 0, none⟩) M M := by simpa [Act.eval] using f15_
                  exact stepOk_valK (wanted_at (t := 153) rfl rfl q24) (v := .slice (some ⟨g, 0, none⟩) M M) (by go_simp) rfl
                · obtain ⟨y24, e24, q24, rfl⟩ := hk1.ev_new hd1 24 153 (by kernel_rfl) rfl
                  have f21_ : a1.eval (.tmp 21) = .int .i64 (i : Int) := hk1.ev_old 21 (by kernel_rfl)
                  have g21_ : a1.tmps[21]?.getD undef = .int .i64 (i : Int) := by simpa [Act.eval] using f21_
                  exact stepOk_valK (wanted_at (t := 153) rfl rfl q24) (v := .int .i64 (i : Int)) (by go_simp) rfl
                · obtain ⟨y24, e24, q24, rfl⟩ := hk1.ev_new hd1 24 153 (by kernel_rfl) rfl
                  obtain ⟨y25, e25, q25, rfl⟩ := hk1.ev_new hd1 25 154 (by kernel_rfl) rfl
                  obtain ⟨y26, e26, q26, rfl⟩ := hk1.ev_new hd1 26 155 (by kernel_rfl) rfl
                  exact stepOk_valK (wanted_at (t := 153) rfl rfl q24) (v := .pointer (some ⟨g, i * 3, none⟩)) (by go_simp) rfl
                · obtain ⟨y24, e24, q24, rfl⟩ := hk1.ev_new hd1 24 153 (by kernel_rfl) rfl
                  obtain ⟨y27, e27, q27, rfl⟩ := hk1.ev_new hd1 27 156 (by kernel_rfl) rfl
                  exact stepOk_valK (wanted_at (t := 153) rfl rfl q24) (v := .pointer (some ⟨g, i * 3 + 1, none⟩)) (by go_simp) rfl
                · obtain ⟨y24, e24, q24, rfl⟩ := hk1.ev_new hd1 24 153 (by kernel_rfl) rfl
                  obtain ⟨y28, e28, q28, rfl⟩ := hk1.ev_new hd1 28 157 (by kernel_rfl) rfl
                  have kc := ((hc1.step hb0).step hk1.below)
                  have kc := kc.cell4 1 (.slice A1 N c1) (by rw [← HN.out]; rfl)
                  exact stepOk_valK (wanted_at (t := 153) rfl rfl q24) (v := .slice A1 N c1) (by go_simp) rfl
                · obtain ⟨y24, e24, q24, rfl⟩ := hk1.ev_new hd1 24 153 (by kernel_rfl) rfl
                  have f18_ : a1.eval (.tmp 18) = .slice (some ⟨g2, 0, none⟩) (M + 2) (M + 2) := hk1.ev_old 18 (by kernel_rfl)
                  have g18_ : a1.tmps[18]?.getD undef = .slice (some ⟨g2, 0, none⟩) (M + 2) (M + 2) := by simpa [Act.eval] using f18_
                  exact stepOk_valK (wanted_at (t := 153) rfl rfl q24) (v := .slice (some ⟨g2, 0, none⟩) (M + 2) (M + 2)) (by go_simp) rfl
                · obtain ⟨y24, e24, q24, rfl⟩ := hk1.ev_new hd1 24 153 (by kernel_rfl) rfl
                  have f21_ : a1.eval (.tmp 21) = .int .i64 (i : Int) := hk1.ev_old 21 (by kernel_rfl)
                  have g21_ : a1.tmps[21]?.getD undef = .int .i64 (i : Int) := by simpa [Act.eval] using f21_
                  exact stepOk_valK (wanted_at (t := 153) rfl rfl q24) (v := .int .i64 (i : Int)) (by go_simp) rfl
                · obtain ⟨y24, e24, q24, rfl⟩ := hk1.ev_new hd1 24 153 (by kernel_rfl) rfl
                  obtain ⟨y30, e30, q30, rfl⟩ := hk1.ev_new hd1 30 159 (by kernel_rfl) rfl
                  obtain ⟨y31, e31, q31, rfl⟩ := hk1.ev_new hd1 31 160 (by kernel_rfl) rfl
                  exact stepOk_valK (wanted_at (t := 153) rfl rfl q24) (v := .pointer (some ⟨g2, i * 3, none⟩)) (by go_simp) rfl
                · obtain ⟨y24, e24, q24, rfl⟩ := hk1.ev_new hd1 24 153 (by kernel_rfl) rfl
                  obtain ⟨y32, e32, q32, rfl⟩ := hk1.ev_new hd1 32 161 (by kernel_rfl) rfl
                  exact stepOk_valK (wanted_at (t := 153) rfl rfl q24) (v := .pointer (some ⟨g2, i * 3 + 1, none⟩)) (by go_simp) rfl
                · obtain ⟨y24, e24, q24, rfl⟩ := hk1.ev_new hd1 24 153 (by kernel_rfl) rfl
                  obtain ⟨y33, e33, q33, rfl⟩ := hk1.ev_new hd1 33 162 (by kernel_rfl) rfl
                  have kc := ((hc2.step hb0).step hk1.below)
                  have kc := kc.cell4 1 (.slice A2 N c2) (by rw [← HN.out]; rfl)
                  exact stepOk_valK (wanted_at (t := 153) rfl rfl q24) (v := .slice A2 N c2) (by go_simp) rfl
                · obtain ⟨y24, e24, q24, rfl⟩ := hk1.ev_new hd1 24 153 (by kernel_rfl) rfl
                  obtain ⟨y29, e29, q29, rfl⟩ := hk1.ev_new hd1 29 158 (by kernel_rfl) rfl
                  obtain ⟨y34, e34, q34, rfl⟩ := hk1.ev_new hd1 34 163 (by kernel_rfl) rfl
                  refine stepOk_enter (wanted_at (t := 153) rfl rfl q24) (f := 35) (args := #[.slice A1 N c1, .slice A2 N c2]) (by go_simp) ?_
                  have hsm := same14_any A1 A2 c1 c2 N N st st w' (((hf1.below hb0).below hk1.below).sees) (((hf2.below hb0).below hk1.below).sees) HN.out HN.out (by omega)
                  rw [beq_self_eq_true] at hsm
                  refine hsm.mono ?_
                  rintro e w5 ⟨rfl, qz, rfl⟩
                  exact ⟨_, rfl, rfl, below_drewN' (Below.refl _ _) qz⟩
                · obtain ⟨y24, e24, q24, rfl⟩ := hk1.ev_new hd1 24 153 (by kernel_rfl) rfl
                  obtain ⟨y35, e35, q35, rfl⟩ := hk1.ev_new hd1 35 164 (by kernel_rfl) rfl
                  exact stepOk_valK (wanted_at (t := 153) rfl rfl q24) (v := .bool false) (by go_simp) rfl
              · intro a1 wy hb7 hp
                obtain ⟨x0, p0, x1, p1, x2, p2, x3, p3, x4, p4, x5, p5, x6, p6, x7, p7, x8, p8, x9, p9, x10, p10, x11, p11, x12, p12, x13, p13, x14, p14, x15, p15, x16, p16, x17, p17, x18, p18, x19, p19, x20, p20, x21, p21, x22, p22, x23, p23, x24, p24, x25, p25, x26, p26, x27, p27, x28, p28, x29, p29, x30, p30, x31, p31, x32, p32, x33, p33, x34, p34, x35, p35, x36, p36, rfl⟩ := hp
                simp only [cm19] at p0 p1 p2 p3 p4 p5 p6 p7 p8 p9 p10 p11 p12 p13 p14 p15 p16 p17 p18 p19 p20 p21 p22 p23 p24 p25 p26 p27 p28 p29 p30 p31 p32 p33 p34 p35 p36
                subst p0 p1 p2 p3 p4 p5 p6 p7 p8 p9 p10 p11 p12 p13 p14 p15 p16 p17 p18 p19 p20 p21 p22 p23 p24 p25 p26 p27 p28 p29 p30 p31 p32 p33 p34 p35 p36
                simp only [List.drop_succ_cons, List.drop_zero, Act.put, List.setIfInBounds_toArray, List.set_cons_succ, List.set_cons_zero]
                go_wp2_with fail
                go_roundw
                case rel => exact ⟨i + 1, by omega, by go_num, Below.then_ hBr hb7⟩
                case measure => simp [intOf]; omega
            · obtain rfl : i = M := by omega
              obtain ⟨A2, c2, hc2, -⟩ := hS2.get (x := i + 1) (by rw [HLZ.out]; omega)
              have v0 : wr.cell? ⟨g2, (i + 1) * 3, none⟩ = some (.bool false) := by
                have h := hc2.cell4 0 _ rfl
                rw [show i + 1 = l.length + 1 from by rw [HM.out], sp_moreZ] at h
                rw [← HM.out]
                exact h
              have v0' : wr.cell? ⟨g2, (i + 1) * 3, none⟩ = some (.bool false) := v0
              obtain ⟨i1, hi1⟩ : ∃ i1, i + 1 = i1 := ⟨_, rfl⟩
              rw [hi1] at v0 v0'
              have hi2 : (i : Int) + 1 = (i1 : Int) := by omega
              have hi3 : IntKind.i64.wrap (i1 : Int) = (i1 : Int) := by rw [IntKind.wrap_i64]; omega
              have hi4 : i1 < i + 2 := by omega
              clear hc2 hi1
              go_wp2_with (first
                | (go_at_call 28; refine (quit _ hBwr).mono ?_; rintro e wz ⟨rfl, hBz⟩))
              go_ret
              exact ⟨rfl, hBz⟩
      · have hC4 := hC3.below hb7
        have hBw4 := Below.then_ hBw3 hb7
        have hle : decide ((mo : Int) ≤ (lo : Int)) = false := by simp; omega
        by_cases hbig : 2000 < m.ni + 2
        · have hbg : decide ((2000 : Int) < (m.ni : Int) + 2) = true := by simp; omega
          have hbg2 : decide ((m.ni : Int) + 2 > 2000) = true := by simp; omega
          go_wp2_with (first
            | (with_reducible refine wpList_load_g (.tmp 3) 26 rfl gc 0 _ rfl m.cells 4 (pm4 m) aggCode hC4.sees rfl ?_)
            | (go_at_call 31; with_reducible refine (HST.out _ hBw4).mono ?_; rintro e w5 ⟨rfl, hB5⟩; have hBw5 := Below.then_ hBw4 hB5; have hC5 := hC4.below hB5; have u3 := hC5.cell_ (k := 3) (u := .slice m.ai m.ni m.ci) rfl)
            | (go_at_call 28; refine (quit _ hBw5).mono ?_; rintro e wz ⟨rfl, hBz⟩))
          go_ret
          exact ⟨rfl, hBz⟩
        · have hbg : decide ((2000 : Int) < (m.ni : Int) + 2) = false := by simp; omega
          have hbg2 : decide ((m.ni : Int) + 2 > 2000) = false := by simp; omega
          go_wp2_with (first
            | (with_reducible refine wpList_load_g (.tmp 3) 26 rfl gc 0 _ rfl m.cells 4 (pm4 m) aggCode hC4.sees rfl ?_)
            | (go_at_call 31; with_reducible refine (HST.out _ hBw4).mono ?_; rintro e w5 ⟨rfl, hB5⟩; have hBw5 := Below.then_ hBw4 hB5; have hC5 := hC4.below hB5; have u3 := hC5.cell_ (k := 3) (u := .slice m.ai m.ni m.ci) rfl)
            | (with_reducible refine wpList_load (o := ⟨some 88, _, _, _, _, _⟩) rfl (.tmp 3) 26 rfl gc 0 _ rfl m.cells 4 (pm4 m) aggCode hC5.sees ?_)
            | (with_reducible refine wpList_alloc (o := ⟨some 14, _, _, _, _, _⟩) rfl 26 rfl noC zeroC 4 rfl (by decide) ?_; intro gd w6 hgw6 hFw6 hBw6)
            | (
                with_reducible refine wpList_store rfl rfl (.tmp 14) (.tmp 88) 26 rfl gd 0 w5.heap.size 26 4 noC m.cells ?_ ?_ 4 ?_ ?_ ?_ ?_ ?_ w5 ?_ ?_ ?_
                · rfl
                · rfl
                · rfl
                · exact aggCode
                · exact hFw6
                · omega
                · exact pm_one m
                · exact hBw6
                · exact hgw6
                intro w7 hFw7 hBw7 hkw7 hsw7
                rw [show splice noC 0 m.cells = m.cells from by simp [splice, noC, Pm.cells]] at hFw7; have hC7 := hC5.below hBw7; have hBw07 := Below.then_ hBw5 hBw7)
            | (with_reducible refine wpList_bs0 (o := ⟨some 89, _, _, _, _, _⟩) rfl rfl ?_; (intro w8 hJ8 hB8; have hC8 := hC7.below hB8; have hBw08 := Below.then_ hBw07 hB8; have u3 := hC8.cell_ (k := 3) (u := .slice m.ai m.ni m.ci) rfl))
            | (
                at_builtin
                with_reducible refine wpList_appJ (o := ⟨some 92, _, _, _, _, _⟩) (A := some ⟨w7.heap.size, 0, none⟩) (n := 0) (c := 0) (l := []) rfl (.tmp 89) (.tmp 91) rfl w7 m.ai m.ni m.ci m.p.ins ?_ ?_ ?_ ?_ ?_ ?_ ?_ ?_ ?_
                · rfl
                · rfl
                · exact hJ8
                · exact (hm.step hBw08).ins
                · exact hm.ni
                · omega
                · omega
                · exact hB8
                intro A9 c9 w9 hJ9 hB9
                (try rw [Nat.zero_add] at hJ9)
                (try rw [List.nil_append] at hJ9))
            | (
                at_builtin
                with_reducible refine wpList_appJ (o := ⟨some 96, _, _, _, _, _⟩) (A := A9) (n := m.ni) (c := c9) (l := m.p.ins) rfl (.tmp 92) (.tmp 95) rfl w7 (some ⟨w9.heap.size, 0, none⟩) 2 2 [⟨22, 0, 0, 0⟩, ⟨22, 0, 0, 0⟩] ?_ ?_ ?_ ?_ ?_ ?_ ?_ ?_ ?_
                · rfl
                · rfl
                · exact hJ9.below (below_alloc _ _)
                · exact sees_new w9 53 (jcs [⟨22, 0, 0, 0⟩, ⟨22, 0, 0, 0⟩])
                · rfl
                · omega
                · omega
                · exact Below.then_ hB9 (below_alloc _ _)
                intro Aa ca wa hJa hBa
                have hDa := hFw7.below hBa
                have hB5a := Below.then_ hBw7 hBa)
            | (
                with_reducible refine wpList_store1 rfl rfl (.tmp 97) (.tmp 96) 24 rfl gd 3 w5.heap.size 26 4 m.cells (.slice Aa (m.ni + 2) ca) ?_ ?_ ?_ ?_ ?_ ?_ ?_ w5 ?_ ?_ ?_
                · rfl
                · rfl
                · rfl
                · rfl
                · kernel_rfl
                · exact hDa
                · omega
                · exact hB5a
                · exact hgw6
                intro wb hFb hBb hkb hsb
                have hJb := hJa.other (g := gd) hFw7.lt_size hkb
                have hBwb := Below.then_ hBw5 hBb
                obtain ⟨d, hdd⟩ : ∃ d : Pm, d = ⟨moreP m.p, m.av, m.nv, m.cv, m.ab, m.nb, m.cb, Aa, m.ni + 2, ca⟩ := ⟨_, rfl⟩
                have hdp : d.p = moreP m.p := by rw [hdd]
                have hPd : PmAt wb.heap.size wb d := by
                  have h := hm.step hBwb
                  subst hdd
                  exact ⟨h.vars, h.blocks, hJb.sees, h.nv, h.nb, (more_len m.p).trans (by rw [h.ni]), h.cv, h.cb, hJb.cap, h.okv, (fun j hj => by
                    rcases List.mem_append.1 hj with hj | hj
                    · exact h.oki j hj
                    · have : j = ⟨22, 0, 0, 0⟩ := by simpa using hj
                      rw [this]
                      exact ⟨by decide, by decide, by decide, by decide⟩), h.name⟩
                have hcd : m.cells.set 3 (.slice Aa (m.ni + 2) ca) = d.cells := by rw [hdd]; rfl
                rw [hcd] at hFb
                have hds : spotsF d.p = .ok (l ++ moreZ) := by rw [hdp]; exact more_spots HS.out (by rw [HNI.out]; omega)
                have hSD := Spots_any d
                unfold SpotsOut at hSD
                rw [hds] at hSD
                simp only at hSD
                have hlz : (l ++ moreZ).length = M + 2 := by rw [List.length_append, HM.out]; rfl
                rw [hlz] at hSD
                have HSPD := Lib.hid hSD
                have HLZ := Lib.hid hlz
                have hCb := (hC5.below hBb)
                clear hSD hds hcd hdp hdd hkb hsb hJb hDa hJa hJ9 hFw6 hBw6 hFw7 hJ8 hC8 hC7 hB5a u3 hlz)
            | (with_reducible refine wpList_load (o := ⟨some 99, _, _, _, _, _⟩) rfl (.tmp 3) 26 rfl gc 0 _ rfl m.cells 4 (pm4 m) aggCode hCb.sees ?_)
            | (go_at_call 29; with_reducible refine (HSP.out _ hBwb).mono ?_; (rintro e wc ⟨hBc, g, rfl, hSc⟩; have hBwc := Below.then_ hBwb hBc; have hCc := hCb.below hBc; have hFc := hFb.below hBc; have hPc := hPd.step hBc))
            | (with_reducible refine wpList_load (o := ⟨some 105, _, _, _, _, _⟩) rfl (.tmp 14) 26 rfl gd 0 _ rfl d.cells 4 (pm4 d) aggCode hFc.sees ?_)
            | (go_at_call 29; with_reducible refine (HSPD.out _ hPc).mono ?_; (rintro e wd ⟨hBd, g2, rfl, hSd⟩; have hBwd := Below.then_ hBwc hBd; have hSx := hSc.below hBd)))
          clear hPc hPd hCb hFb hCc hFc hBb hBa hB9 hB8 hBw7 hgw6 hSc
          go_loopw [21, 126] (fun s21 iv wr => ∃ i : Nat, i ≤ M ∧ iv = .int .i64 (i : Int) ∧ Below wd.heap.size wd wr) (fun _ iv _ => M - (intOf iv).toNat)
          case atStart => exact ⟨0, Nat.zero_le _, rfl, Below.refl _ _⟩
          case round =>
            obtain ⟨i, hi, rfl, hBr⟩ := hrel
            have hS1 := hSx.below hBr
            have hS2 := hSd.below hBr
            have hBwr := Below.then_ hBwd hBr
            by_cases hlt : i < M
            · have hil : i < l.length := by rw [HM.out]; exact hlt
              obtain ⟨A1, c1, hc1, hf1⟩ := hS1.get hil
              obtain ⟨A2, c2, hc2, hf2⟩ := hS2.get (x := i) (by rw [HLZ.out]; omega)
              have hsk := hlow.sp i
              rw [sp_left hil] at hc2 hf2
              obtain ⟨⟨r, st, k0⟩, hse⟩ : ∃ s, sp l i = s := ⟨_, rfl⟩
              rw [hse] at hc1 hc2 hf1 hf2 hsk
              simp only at hf1 hf2 hsk
              obtain ⟨N, hN⟩ : ∃ N, st.length = N := ⟨_, rfl⟩
              have HN := Lib.hid hN
              rw [hN] at hf1 hf2 hsk
              have hM2i : ¬ ((M : Int) + 2 ≤ (i : Int)) := by omega
              clear hse hN
              go_wp2_with fail
              refine region_all_tail 37 (cm19 g g2 M (M + 2) i N c1 c2 k0 r A1 A2) (by kernel_rfl) (by kernel_rfl) (by kernel_rfl) (cm19_stab _ _ _ _ _ _ _ _ _ _ _ _) ?_ ?_
              · intro wv hb0
                simp only [List.take_succ_cons, List.take_zero]
                refine ⟨?_, ?_, ?_, ?_, ?_, ?_, ?_, ?_, ?_, ?_, ?_, ?_, ?_, ?_, ?_, ?_, ?_, ?_, ?_, ?_, ?_, ?_, ?_, ?_, ?_, ?_, ?_, ?_, ?_, ?_, ?_, ?_, ?_, ?_, ?_, ?_, ?_, trivial⟩
                all_goals intro listed a1 w' hk1 hd1
                · have f15_ : a1.eval (.tmp 15) = .slice (some ⟨g, 0, none⟩) M M := hk1.ev_old 15 (by kernel_rfl)
                  have g15_ : a1.tmps[15]?.getD undef = .slice (some ⟨g, 0, none⟩) M M := by simpa [Act.eval] using f15_
                  exact stepOk_value rfl (v := .slice (some ⟨g, 0, none⟩) M M) (by go_simp) rfl
                · have f21_ : a1.eval (.tmp 21) = .int .i64 (i : Int) := hk1.ev_old 21 (by kernel_rfl)
                  have g21_ : a1.tmps[21]?.getD undef = .int .i64 (i : Int) := by simpa [Act.eval] using f21_
                  exact stepOk_value rfl (v := .int .i64 (i : Int)) (by go_simp) rfl
                · obtain ⟨y0, e0, q0, rfl⟩ := hk1.ev_new hd1 0 129 (by kernel_rfl) rfl
                  obtain ⟨y1, e1, q1, rfl⟩ := hk1.ev_new hd1 1 130 (by kernel_rfl) rfl
                  exact stepOk_value rfl (v := .pointer (some ⟨g, i * 3, none⟩)) (by go_simp) rfl
                · obtain ⟨y2, e2, q2, rfl⟩ := hk1.ev_new hd1 2 131 (by kernel_rfl) rfl
                  exact stepOk_value rfl (v := .pointer (some ⟨g, i * 3, none⟩)) (by go_simp) rfl
                · obtain ⟨y3, e3, q3, rfl⟩ := hk1.ev_new hd1 3 132 (by kernel_rfl) rfl
                  have kc := ((hc1.step hb0).step hk1.below)
                  have kc := kc.cell4 0 (.bool r) (by rfl)
                  simp only [Nat.add_zero] at kc
                  exact stepOk_value rfl (v := .bool r) (by go_simp) rfl
                · have f18_ : a1.eval (.tmp 18) = .slice (some ⟨g2, 0, none⟩) (M + 2) (M + 2) := hk1.ev_old 18 (by kernel_rfl)
                  have g18_ : a1.tmps[18]?.getD undef = .slice (some ⟨g2, 0, none⟩) (M + 2) (M + 2) := by simpa [Act.eval] using f18_
                  exact stepOk_value rfl (v := .slice (some ⟨g2, 0, none⟩) (M + 2) (M + 2)) (by go_simp) rfl
                · have f21_ : a1.eval (.tmp 21) = .int .i64 (i : Int) := hk1.ev_old 21 (by kernel_rfl)
                  have g21_ : a1.tmps[21]?.getD undef = .int .i64 (i : Int) := by simpa [Act.eval] using f21_
                  exact stepOk_value rfl (v := .int .i64 (i : Int)) (by go_simp) rfl
                · obtain ⟨y5, e5, q5, rfl⟩ := hk1.ev_new hd1 5 134 (by kernel_rfl) rfl
                  obtain ⟨y6, e6, q6, rfl⟩ := hk1.ev_new hd1 6 135 (by kernel_rfl) rfl
                  exact stepOk_value rfl (v := .pointer (some ⟨g2, i * 3, none⟩)) (by go_simp) rfl
                · obtain ⟨y7, e7, q7, rfl⟩ := hk1.ev_new hd1 7 136 (by kernel_rfl) rfl
                  exact stepOk_value rfl (v := .pointer (some ⟨g2, i * 3, none⟩)) (by go_simp) rfl
                · obtain ⟨y8, e8, q8, rfl⟩ := hk1.ev_new hd1 8 137 (by kernel_rfl) rfl
                  have kc := ((hc2.step hb0).step hk1.below)
                  have kc := kc.cell4 0 (.bool r) (by rfl)
                  simp only [Nat.add_zero] at kc
                  exact stepOk_value rfl (v := .bool r) (by go_simp) rfl
                · obtain ⟨y4, e4, q4, rfl⟩ := hk1.ev_new hd1 4 133 (by kernel_rfl) rfl
                  obtain ⟨y9, e9, q9, rfl⟩ := hk1.ev_new hd1 9 138 (by kernel_rfl) rfl
                  exact stepOk_value rfl (v := .bool false) (by go_simp) rfl
                · obtain ⟨y10, e10, q10, rfl⟩ := hk1.ev_new hd1 10 139 (by kernel_rfl) rfl
                  exact stepOk_value rfl (v := .bool false) (by go_simp) rfl
                · obtain ⟨y11, e11, q11, rfl⟩ := hk1.ev_new hd1 11 140 (by kernel_rfl) rfl
                  have f15_ : a1.eval (.tmp 15) = .slice (some ⟨g, 0, none⟩) M M := hk1.ev_old 15 (by kernel_rfl)
                  have g15_ : a1.tmps[15]?.getD undef = .slice (some ⟨g, 0, none⟩) M M := by simpa [Act.eval] using f15_
                  exact stepOk_valK (wanted_at (t := 140) rfl rfl q11) (v := .slice (some ⟨g, 0, none⟩) M M) (by go_simp) rfl
                · obtain ⟨y11, e11, q11, rfl⟩ := hk1.ev_new hd1 11 140 (by kernel_rfl) rfl
                  have f21_ : a1.eval (.tmp 21) = .int .i64 (i : Int) := hk1.ev_old 21 (by kernel_rfl)
                  have g21_ : a1.tmps[21]?.getD undef = .int .i64 (i : Int) := by simpa [Act.eval] using f21_
                  exact stepOk_valK (wanted_at (t := 140) rfl rfl q11) (v := .int .i64 (i : Int)) (by go_simp) rfl
                · obtain ⟨y11, e11, q11, rfl⟩ := hk1.ev_new hd1 11 140 (by kernel_rfl) rfl
                  obtain ⟨y12, e12, q12, rfl⟩ := hk1.ev_new hd1 12 141 (by kernel_rfl) rfl
                  obtain ⟨y13, e13, q13, rfl⟩ := hk1.ev_new hd1 13 142 (by kernel_rfl) rfl
                  exact stepOk_valK (wanted_at (t := 140) rfl rfl q11) (v := .pointer (some ⟨g, i * 3, none⟩)) (by go_simp) rfl
                · obtain ⟨y11, e11, q11, rfl⟩ := hk1.ev_new hd1 11 140 (by kernel_rfl) rfl
                  obtain ⟨y14, e14, q14, rfl⟩ := hk1.ev_new hd1 14 143 (by kernel_rfl) rfl
                  exact stepOk_valK (wanted_at (t := 140) rfl rfl q11) (v := .pointer (some ⟨g, i * 3 + 2, none⟩)) (by go_simp) rfl
                · obtain ⟨y11, e11, q11, rfl⟩ := hk1.ev_new hd1 11 140 (by kernel_rfl) rfl
                  obtain ⟨y15, e15, q15, rfl⟩ := hk1.ev_new hd1 15 144 (by kernel_rfl) rfl
                  have kc := ((hc1.step hb0).step hk1.below)
                  have kc := kc.cell4 2 (.int .i64 (k0 : Int)) (by rfl)
                  exact stepOk_valK (wanted_at (t := 140) rfl rfl q11) (v := .int .i64 (k0 : Int)) (by go_simp) rfl
                · obtain ⟨y11, e11, q11, rfl⟩ := hk1.ev_new hd1 11 140 (by kernel_rfl) rfl
                  have f18_ : a1.eval (.tmp 18) = .slice (some ⟨g2, 0, none⟩) (M + 2) (M + 2) := hk1.ev_old 18 (by kernel_rfl)
                  have g18_ : a1.tmps[18]?.getD undef = .slice (some ⟨g2, 0, none⟩) (M + 2) (M + 2) := by simpa [Act.eval] using f18_
                  exact stepOk_valK (wanted_at (t := 140) rfl rfl q11) (v := .slice (some ⟨g2, 0, none⟩) (M + 2) (M + 2)) (by go_simp) rfl
                · obtain ⟨y11, e11, q11, rfl⟩ := hk1.ev_new hd1 11 140 (by kernel_rfl) rfl
                  have f21_ : a1.eval (.tmp 21) = .int .i64 (i : Int) := hk1.ev_old 21 (by kernel_rfl)
                  have g21_ : a1.tmps[21]?.getD undef = .int .i64 (i : Int) := by simpa [Act.eval] using f21_
                  exact stepOk_valK (wanted_at (t := 140) rfl rfl q11) (v := .int .i64 (i : Int)) (by go_simp) rfl
                · obtain ⟨y11, e11, q11, rfl⟩ := hk1.ev_new hd1 11 140 (by kernel_rfl) rfl
                  obtain ⟨y17, e17, q17, rfl⟩ := hk1.ev_new hd1 17 146 (by kernel_rfl) rfl
                  obtain ⟨y18, e18, q18, rfl⟩ := hk1.ev_new hd1 18 147 (by kernel_rfl) rfl
                  exact stepOk_valK (wanted_at (t := 140) rfl rfl q11) (v := .pointer (some ⟨g2, i * 3, none⟩)) (by go_simp) rfl
                · obtain ⟨y11, e11, q11, rfl⟩ := hk1.ev_new hd1 11 140 (by kernel_rfl) rfl
                  obtain ⟨y19, e19, q19, rfl⟩ := hk1.ev_new hd1 19 148 (by kernel_rfl) rfl
                  exact stepOk_valK (wanted_at (t := 140) rfl rfl q11) (v := .pointer (some ⟨g2, i * 3 + 2, none⟩)) (by go_simp) rfl
                · obtain ⟨y11, e11, q11, rfl⟩ := hk1.ev_new hd1 11 140 (by kernel_rfl) rfl
                  obtain ⟨y20, e20, q20, rfl⟩ := hk1.ev_new hd1 20 149 (by kernel_rfl) rfl
                  have kc := ((hc2.step hb0).step hk1.below)
                  have kc := kc.cell4 2 (.int .i64 (k0 : Int)) (by rfl)
                  exact stepOk_valK (wanted_at (t := 140) rfl rfl q11) (v := .int .i64 (k0 : Int)) (by go_simp) rfl
                · obtain ⟨y11, e11, q11, rfl⟩ := hk1.ev_new hd1 11 140 (by kernel_rfl) rfl
                  obtain ⟨y16, e16, q16, rfl⟩ := hk1.ev_new hd1 16 145 (by kernel_rfl) rfl
                  obtain ⟨y21, e21, q21, rfl⟩ := hk1.ev_new hd1 21 150 (by kernel_rfl) rfl
                  exact stepOk_valK (wanted_at (t := 140) rfl rfl q11) (v := .bool false) (by go_simp) rfl
                · obtain ⟨y11, e11, q11, rfl⟩ := hk1.ev_new hd1 11 140 (by kernel_rfl) rfl
                  obtain ⟨y22, e22, q22, rfl⟩ := hk1.ev_new hd1 22 151 (by kernel_rfl) rfl
                  exact stepOk_value rfl (v := .bool false) (by go_simp) rfl
                · obtain ⟨y23, e23, q23, rfl⟩ := hk1.ev_new hd1 23 152 (by kernel_rfl) rfl
                  exact stepOk_value rfl (v := .bool false) (by go_simp) rfl
                · obtain ⟨y24, e24, q24, rfl⟩ := hk1.ev_new hd1 24 153 (by kernel_rfl) rfl
                  have f15_ : a1.eval (.tmp 15) = .slice (some ⟨g, 0, none⟩) M M := hk1.ev_old 15 (by kernel_rfl)
                  have g15_ : a1.tmps[15]?.getD undef = .slice (some ⟨g, 0, none⟩) M M := by simpa [Act.eval] using f15_
                  exact stepOk_valK (wanted_at (t := 153) rfl rfl q24) (v := .slice (some ⟨g, 0, none⟩) M M) (by go_simp) rfl
                · obtain ⟨y24, e24, q24, rfl⟩ := hk1.ev_new hd1 24 153 (by kernel_rfl) rfl
                  have f21_ : a1.eval (.tmp 21) = .int .i64 (i : Int) := hk1.ev_old 21 (by kernel_rfl)
                  have g21_ : a1.tmps[21]?.getD undef = .int .i64 (i : Int) := by simpa [Act.eval] using f21_
                  exact stepOk_valK (wanted_at (t := 153) rfl rfl q24) (v := .int .i64 (i : Int)) (by go_simp) rfl
                · obtain ⟨y24, e24, q24, rfl⟩ := hk1.ev_new hd1 24 153 (by kernel_rfl) rfl
                  obtain ⟨y25, e25, q25, rfl⟩ := hk1.ev_new hd1 25 154 (by kernel_rfl) rfl
                  obtain ⟨y26, e26, q26, rfl⟩ := hk1.ev_new hd1 26 155 (by kernel_rfl) rfl
                  exact stepOk_valK (wanted_at (t := 153) rfl rfl q24) (v := .pointer (some ⟨g, i * 3, none⟩)) (by go_simp) rfl
                · obtain ⟨y24, e24, q24, rfl⟩ := hk1.ev_new hd1 24 153 (by kernel_rfl) rfl
                  obtain ⟨y27, e27, q27, rfl⟩ := hk1.ev_new hd1 27 156 (by kernel_rfl) rfl
                  exact stepOk_valK (wanted_at (t := 153) rfl rfl q24) (v := .pointer (some ⟨g, i * 3 + 1, none⟩)) (by go_simp) rfl
                · obtain ⟨y24, e24, q24, rfl⟩ := hk1.ev_new hd1 24 153 (by kernel_rfl) rfl
                  obtain ⟨y28, e28, q28, rfl⟩ := hk1.ev_new hd1 28 157 (by kernel_rfl) rfl
                  have kc := ((hc1.step hb0).step hk1.below)
                  have kc := kc.cell4 1 (.slice A1 N c1) (by rw [← HN.out]; rfl)
                  exact stepOk_valK (wanted_at (t := 153) rfl rfl q24) (v := .slice A1 N c1) (by go_simp) rfl
                · obtain ⟨y24, e24, q24, rfl⟩ := hk1.ev_new hd1 24 153 (by kernel_rfl) rfl
                  have f18_ : a1.eval (.tmp 18) = .slice (some ⟨g2, 0, none⟩) (M + 2) (M + 2) := hk1.ev_old 18 (by kernel_rfl)
                  have g18_ : a1.tmps[18]?.getD undef = .slice (some ⟨g2, 0, none⟩) (M + 2) (M + 2) := by simpa [Act.eval] using f18_
                  exact stepOk_valK (wanted_at (t := 153) rfl rfl q24) (v := .slice (some ⟨g2, 0, none⟩) (M + 2) (M + 2)) (by go_simp) rfl
                · obtain ⟨y24, e24, q24, rfl⟩ := hk1.ev_new hd1 24 153 (by kernel_rfl) rfl
                  have f21_ : a1.eval (.tmp 21) = .int .i64 (i : Int) := hk1.ev_old 21 (by kernel_rfl)
                  have g21_ : a1.tmps[21]?.getD undef = .int .i64 (i : Int) := by simpa [Act.eval] using f21_
                  exact stepOk_valK (wanted_at (t := 153) rfl rfl q24) (v := .int .i64 (i : Int)) (by go_simp) rfl
                · obtain ⟨y24, e24, q24, rfl⟩ := hk1.ev_new hd1 24 153 (by kernel_rfl) rfl
                  obtain ⟨y30, e30, q30, rfl⟩ := hk1.ev_new hd1 30 159 (by kernel_rfl) rfl
                  obtain ⟨y31, e31, q31, rfl⟩ := hk1.ev_new hd1 31 160 (by kernel_rfl) rfl
                  exact stepOk_valK (wanted_at (t := 153) rfl rfl q24) (v := .pointer (some ⟨g2, i * 3, none⟩)) (by go_simp) rfl
                · obtain ⟨y24, e24, q24, rfl⟩ := hk1.ev_new hd1 24 153 (by kernel_rfl) rfl
                  obtain ⟨y32, e32, q32, rfl⟩ := hk1.ev_new hd1 32 161 (by kernel_rfl) rfl
                  exact stepOk_valK (wanted_at (t := 153) rfl rfl q24) (v := .pointer (some ⟨g2, i * 3 + 1, none⟩)) (by go_simp) rfl
                · obtain ⟨y24, e24, q24, rfl⟩ := hk1.ev_new hd1 24 153 (by kernel_rfl) rfl
                  obtain ⟨y33, e33, q33, rfl⟩ := hk1.ev_new hd1 33 162 (by kernel_rfl) rfl
                  have kc := ((hc2.step hb0).step hk1.below)
                  have kc := kc.cell4 1 (.slice A2 N c2) (by rw [← HN.out]; rfl)
                  exact stepOk_valK (wanted_at (t := 153) rfl rfl q24) (v := .slice A2 N c2) (by go_simp) rfl
                · obtain ⟨y24, e24, q24, rfl⟩ := hk1.ev_new hd1 24 153 (by kernel_rfl) rfl
                  obtain ⟨y29, e29, q29, rfl⟩ := hk1.ev_new hd1 29 158 (by kernel_rfl) rfl
                  obtain ⟨y34, e34, q34, rfl⟩ := hk1.ev_new hd1 34 163 (by kernel_rfl) rfl
                  refine stepOk_enter (wanted_at (t := 153) rfl rfl q24) (f := 35) (args := #[.slice A1 N c1, .slice A2 N c2]) (by go_simp) ?_
                  have hsm := same14_any A1 A2 c1 c2 N N st st w' (((hf1.below hb0).below hk1.below).sees) (((hf2.below hb0).below hk1.below).sees) HN.out HN.out (by omega)
                  rw [beq_self_eq_true] at hsm
                  refine hsm.mono ?_
                  rintro e w5 ⟨rfl, qz, rfl⟩
                  exact ⟨_, rfl, rfl, below_drewN' (Below.refl _ _) qz⟩
                · obtain ⟨y24, e24, q24, rfl⟩ := hk1.ev_new hd1 24 153 (by kernel_rfl) rfl
                  obtain ⟨y35, e35, q35, rfl⟩ := hk1.ev_new hd1 35 164 (by kernel_rfl) rfl
                  exact stepOk_valK (wanted_at (t := 153) rfl rfl q24) (v := .bool false) (by go_simp) rfl
              · intro a1 wy hb7 hp
                obtain ⟨x0, p0, x1, p1, x2, p2, x3, p3, x4, p4, x5, p5, x6, p6, x7, p7, x8, p8, x9, p9, x10, p10, x11, p11, x12, p12, x13, p13, x14, p14, x15, p15, x16, p16, x17, p17, x18, p18, x19, p19, x20, p20, x21, p21, x22, p22, x23, p23, x24, p24, x25, p25, x26, p26, x27, p27, x28, p28, x29, p29, x30, p30, x31, p31, x32, p32, x33, p33, x34, p34, x35, p35, x36, p36, rfl⟩ := hp
                simp only [cm19] at p0 p1 p2 p3 p4 p5 p6 p7 p8 p9 p10 p11 p12 p13 p14 p15 p16 p17 p18 p19 p20 p21 p22 p23 p24 p25 p26 p27 p28 p29 p30 p31 p32 p33 p34 p35 p36
                subst p0 p1 p2 p3 p4 p5 p6 p7 p8 p9 p10 p11 p12 p13 p14 p15 p16 p17 p18 p19 p20 p21 p22 p23 p24 p25 p26 p27 p28 p29 p30 p31 p32 p33 p34 p35 p36
                simp only [List.drop_succ_cons, List.drop_zero, Act.put, List.setIfInBounds_toArray, List.set_cons_succ, List.set_cons_zero]
                go_wp2_with fail
                go_roundw
                case rel => exact ⟨i + 1, by omega, by go_num, Below.then_ hBr hb7⟩
                case measure => simp [intOf]; omega
            · obtain rfl : i = M := by omega
              obtain ⟨A2, c2, hc2, -⟩ := hS2.get (x := i + 1) (by rw [HLZ.out]; omega)
              have v0 : wr.cell? ⟨g2, (i + 1) * 3, none⟩ = some (.bool false) := by
                have h := hc2.cell4 0 _ rfl
                rw [show i + 1 = l.length + 1 from by rw [HM.out], sp_moreZ] at h
                rw [← HM.out]
                exact h
              have v0' : wr.cell? ⟨g2, (i + 1) * 3, none⟩ = some (.bool false) := v0
              obtain ⟨i1, hi1⟩ : ∃ i1, i + 1 = i1 := ⟨_, rfl⟩
              rw [hi1] at v0 v0'
              have hi2 : (i : Int) + 1 = (i1 : Int) := by omega
              have hi3 : IntKind.i64.wrap (i1 : Int) = (i1 : Int) := by rw [IntKind.wrap_i64]; omega
              have hi4 : i1 < i + 2 := by omega
              clear hc2 hi1
              go_wp2_with (first
                | (go_at_call 28; refine (quit _ hBwr).mono ?_; rintro e wz ⟨rfl, hBz⟩))
              go_ret
              exact ⟨rfl, hBz⟩
      · have hC4 := hC3.below hb7
        have hBw4 := Below.then_ hBw3 hb7
        have hle : decide ((mo : Int) ≤ (lo : Int)) = true := by simp; omega
        by_cases hbig : 2000 < m.ni + 2
        · have hbg : decide ((2000 : Int) < (m.ni : Int) + 2) = true := by simp; omega
          have hbg2 : decide ((m.ni : Int) + 2 > 2000) = true := by simp; omega
          go_wp2_with (first
            | (with_reducible refine wpList_load_g (.tmp 3) 26 rfl gc 0 _ rfl m.cells 4 (pm4 m) aggCode hC4.sees rfl ?_)
            | (go_at_call 31; with_reducible refine (HST.out _ hBw4).mono ?_; rintro e w5 ⟨rfl, hB5⟩; have hBw5 := Below.then_ hBw4 hB5; have hC5 := hC4.below hB5; have u3 := hC5.cell_ (k := 3) (u := .slice m.ai m.ni m.ci) rfl)
            | (go_at_call 28; refine (quit _ hBw5).mono ?_; rintro e wz ⟨rfl, hBz⟩))
          go_ret
          exact ⟨rfl, hBz⟩
        · have hbg : decide ((2000 : Int) < (m.ni : Int) + 2) = false := by simp; omega
          have hbg2 : decide ((m.ni : Int) + 2 > 2000) = false := by simp; omega
          go_wp2_with (first
            | (with_reducible refine wpList_load_g (.tmp 3) 26 rfl gc 0 _ rfl m.cells 4 (pm4 m) aggCode hC4.sees rfl ?_)
            | (go_at_call 31; with_reducible refine (HST.out _ hBw4).mono ?_; rintro e w5 ⟨rfl, hB5⟩; have hBw5 := Below.then_ hBw4 hB5; have hC5 := hC4.below hB5; have u3 := hC5.cell_ (k := 3) (u := .slice m.ai m.ni m.ci) rfl)
            | (with_reducible refine wpList_load (o := ⟨some 88, _, _, _, _, _⟩) rfl (.tmp 3) 26 rfl gc 0 _ rfl m.cells 4 (pm4 m) aggCode hC5.sees ?_)
            | (with_reducible refine wpList_alloc (o := ⟨some 14, _, _, _, _, _⟩) rfl 26 rfl noC zeroC 4 rfl (by decide) ?_; intro gd w6 hgw6 hFw6 hBw6)
            | (
                with_reducible refine wpList_store rfl rfl (.tmp 14) (.tmp 88) 26 rfl gd 0 w5.heap.size 26 4 noC m.cells ?_ ?_ 4 ?_ ?_ ?_ ?_ ?_ w5 ?_ ?_ ?_
                · rfl
                · rfl
                · rfl
                · exact aggCode
                · exact hFw6
                · omega
                · exact pm_one m
                · exact hBw6
                · exact hgw6
                intro w7 hFw7 hBw7 hkw7 hsw7
                rw [show splice noC 0 m.cells = m.cells from by simp [splice, noC, Pm.cells]] at hFw7; have hC7 := hC5.below hBw7; have hBw07 := Below.then_ hBw5 hBw7)
            | (with_reducible refine wpList_bs0 (o := ⟨some 89, _, _, _, _, _⟩) rfl rfl ?_; (intro w8 hJ8 hB8; have hC8 := hC7.below hB8; have hBw08 := Below.then_ hBw07 hB8; have u3 := hC8.cell_ (k := 3) (u := .slice m.ai m.ni m.ci) rfl))
            | (
                at_builtin
                with_reducible refine wpList_appJ (o := ⟨some 92, _, _, _, _, _⟩) (A := some ⟨w7.heap.size, 0, none⟩) (n := 0) (c := 0) (l := []) rfl (.tmp 89) (.tmp 91) rfl w7 m.ai m.ni m.ci m.p.ins ?_ ?_ ?_ ?_ ?_ ?_ ?_ ?_ ?_
                · rfl
                · rfl
                · exact hJ8
                · exact (hm.step hBw08).ins
                · exact hm.ni
                · omega
                · omega
                · exact hB8
                intro A9 c9 w9 hJ9 hB9
                (try rw [Nat.zero_add] at hJ9)
                (try rw [List.nil_append] at hJ9))
            | (
                at_builtin
                with_reducible refine wpList_appJ (o := ⟨some 96, _, _, _, _, _⟩) (A := A9) (n := m.ni) (c := c9) (l := m.p.ins) rfl (.tmp 92) (.tmp 95) rfl w7 (some ⟨w9.heap.size, 0, none⟩) 2 2 [⟨22, 0, 0, 0⟩, ⟨22, 0, 0, 0⟩] ?_ ?_ ?_ ?_ ?_ ?_ ?_ ?_ ?_
                · rfl
                · rfl
                · exact hJ9.below (below_alloc _ _)
                · exact sees_new w9 53 (jcs [⟨22, 0, 0, 0⟩, ⟨22, 0, 0, 0⟩])
                · rfl
                · omega
                · omega
                · exact Below.then_ hB9 (below_alloc _ _)
                intro Aa ca wa hJa hBa
                have hDa := hFw7.below hBa
                have hB5a := Below.then_ hBw7 hBa)
            | (
                with_reducible refine wpList_store1 rfl rfl (.tmp 97) (.tmp 96) 24 rfl gd 3 w5.heap.size 26 4 m.cells (.slice Aa (m.ni + 2) ca) ?_ ?_ ?_ ?_ ?_ ?_ ?_ w5 ?_ ?_ ?_
                · rfl
                · rfl
                · rfl
                · rfl
                · kernel_rfl
                · exact hDa
                · omega
                · exact hB5a
                · exact hgw6
                intro wb hFb hBb hkb hsb
                have hJb := hJa.other (g := gd) hFw7.lt_size hkb
                have hBwb := Below.then_ hBw5 hBb
                obtain ⟨d, hdd⟩ : ∃ d : Pm, d = ⟨moreP m.p, m.av, m.nv, m.cv, m.ab, m.nb, m.cb, Aa, m.ni + 2, ca⟩ := ⟨_, rfl⟩
                have hdp : d.p = moreP m.p := by rw [hdd]
                have hPd : PmAt wb.heap.size wb d := by
                  have h := hm.step hBwb
                  subst hdd
                  exact ⟨h.vars, h.blocks, hJb.sees, h.nv, h.nb, (more_len m.p).trans (by rw [h.ni]), h.cv, h.cb, hJb.cap, h.okv, (fun j hj => by
                    rcases List.mem_append.1 hj with hj | hj
                    · exact h.oki j hj
                    · have : j = ⟨22, 0, 0, 0⟩ := by simpa using hj
                      rw [this]
                      exact ⟨by decide, by decide, by decide, by decide⟩), h.name⟩
                have hcd : m.cells.set 3 (.slice Aa (m.ni + 2) ca) = d.cells := by rw [hdd]; rfl
                rw [hcd] at hFb
                have hds : spotsF d.p = .ok (l ++ moreZ) := by rw [hdp]; exact more_spots HS.out (by rw [HNI.out]; omega)
                have hSD := Spots_any d
                unfold SpotsOut at hSD
                rw [hds] at hSD
                simp only at hSD
                have hlz : (l ++ moreZ).length = M + 2 := by rw [List.length_append, HM.out]; rfl
                rw [hlz] at hSD
                have HSPD := Lib.hid hSD
                have HLZ := Lib.hid hlz
                have hCb := (hC5.below hBb)
                clear hSD hds hcd hdp hdd hkb hsb hJb hDa hJa hJ9 hFw6 hBw6 hFw7 hJ8 hC8 hC7 hB5a u3 hlz)
            | (with_reducible refine wpList_load (o := ⟨some 99, _, _, _, _, _⟩) rfl (.tmp 3) 26 rfl gc 0 _ rfl m.cells 4 (pm4 m) aggCode hCb.sees ?_)
            | (go_at_call 29; with_reducible refine (HSP.out _ hBwb).mono ?_; (rintro e wc ⟨hBc, g, rfl, hSc⟩; have hBwc := Below.then_ hBwb hBc; have hCc := hCb.below hBc; have hFc := hFb.below hBc; have hPc := hPd.step hBc))
            | (with_reducible refine wpList_load (o := ⟨some 105, _, _, _, _, _⟩) rfl (.tmp 14) 26 rfl gd 0 _ rfl d.cells 4 (pm4 d) aggCode hFc.sees ?_)
            | (go_at_call 29; with_reducible refine (HSPD.out _ hPc).mono ?_; (rintro e wd ⟨hBd, g2, rfl, hSd⟩; have hBwd := Below.then_ hBwc hBd; have hSx := hSc.below hBd)))
          clear hPc hPd hCb hFb hCc hFc hBb hBa hB9 hB8 hBw7 hgw6 hSc
          go_loopw [21, 126] (fun s21 iv wr => ∃ i : Nat, i ≤ M ∧ iv = .int .i64 (i : Int) ∧ Below wd.heap.size wd wr) (fun _ iv _ => M - (intOf iv).toNat)
          case atStart => exact ⟨0, Nat.zero_le _, rfl, Below.refl _ _⟩
          case round =>
            obtain ⟨i, hi, rfl, hBr⟩ := hrel
            have hS1 := hSx.below hBr
            have hS2 := hSd.below hBr
            have hBwr := Below.then_ hBwd hBr
            by_cases hlt : i < M
            · have hil : i < l.length := by rw [HM.out]; exact hlt
              obtain ⟨A1, c1, hc1, hf1⟩ := hS1.get hil
              obtain ⟨A2, c2, hc2, hf2⟩ := hS2.get (x := i) (by rw [HLZ.out]; omega)
              have hsk := hlow.sp i
              rw [sp_left hil] at hc2 hf2
              obtain ⟨⟨r, st, k0⟩, hse⟩ : ∃ s, sp l i = s := ⟨_, rfl⟩
              rw [hse] at hc1 hc2 hf1 hf2 hsk
              simp only at hf1 hf2 hsk
              obtain ⟨N, hN⟩ : ∃ N, st.length = N := ⟨_, rfl⟩
              have HN := Lib.hid hN
              rw [hN] at hf1 hf2 hsk
              have hM2i : ¬ ((M : Int) + 2 ≤ (i : Int)) := by omega
              clear hse hN
              go_wp2_with fail
              refine region_all_tail 37 (cm19 g g2 M (M + 2) i N c1 c2 k0 r A1 A2) (by kernel_rfl) (by kernel_rfl) (by kernel_rfl) (cm19_stab _ _ _ _ _ _ _ _ _ _ _ _) ?_ ?_
              · intro wv hb0
                simp only [List.take_succ_cons, List.take_zero]
                refine ⟨?_, ?_, ?_, ?_, ?_, ?_, ?_, ?_, ?_, ?_, ?_, ?_, ?_, ?_, ?_, ?_, ?_, ?_, ?_, ?_, ?_, ?_, ?_, ?_, ?_, ?_, ?_, ?_, ?_, ?_, ?_, ?_, ?_, ?_, ?_, ?_, ?_, trivial⟩
                all_goals intro listed a1 w' hk1 hd1
                · have f15_ : a1.eval (.tmp 15) = .slice (some ⟨g, 0, none⟩) M M := hk1.ev_old 15 (by kernel_rfl)
                  have g15_ : a1.tmps[15]?.getD undef = .slice (some ⟨g, 0, none⟩) M M := by simpa [Act.eval] using f15_
                  exact stepOk_value rfl (v := .slice (some ⟨g, 0, none⟩) M M) (by go_simp) rfl
                · have f21_ : a1.eval (.tmp 21) = .int .i64 (i : Int) := hk1.ev_old 21 (by kernel_rfl)
                  have g21_ : a1.tmps[21]?.getD undef = .int .i64 (i : Int) := by simpa [Act.eval] using f21_
                  exact stepOk_value rfl (v := .int .i64 (i : Int)) (by go_simp) rfl
                · obtain ⟨y0, e0, q0, rfl⟩ := hk1.ev_new hd1 0 129 (by kernel_rfl) rfl
                  obtain ⟨y1, e1, q1, rfl⟩ := hk1.ev_new hd1 1 130 (by kernel_rfl) rfl
                  exact stepOk_value rfl (v := .pointer (some ⟨g, i * 3, none⟩)) (by go_simp) rfl
                · obtain ⟨y2, e2, q2, rfl⟩ := hk1.ev_new hd1 2 131 (by kernel_rfl) rfl
                  exact stepOk_value rfl (v := .pointer (some ⟨g, i * 3, none⟩)) (by go_simp) rfl
                · obtain ⟨y3, e3, q3, rfl⟩ := hk1.ev_new hd1 3 132 (by kernel_rfl) rfl
                  have kc := ((hc1.step hb0).step hk1.below)
                  have kc := kc.cell4 0 (.bool r) (by rfl)
                  simp only [Nat.add_zero] at kc
                  exact stepOk_value rfl (v := .bool r) (by go_simp) rfl
                · have f18_ : a1.eval (.tmp 18) = .slice (some ⟨g2, 0, none⟩) (M + 2) (M + 2) := hk1.ev_old 18 (by kernel_rfl)
                  have g18_ : a1.tmps[18]?.getD undef = .slice (some ⟨g2, 0, none⟩) (M + 2) (M + 2) := by simpa [Act.eval] using f18_
                  exact stepOk_value rfl (v := .slice (some ⟨g2, 0, none⟩) (M + 2) (M + 2)) (by go_simp) rfl
                · have f21_ : a1.eval (.tmp 21) = .int .i64 (i : Int) := hk1.ev_old 21 (by kernel_rfl)
                  have g21_ : a1.tmps[21]?.getD undef = .int .i64 (i : Int) := by simpa [Act.eval] using f21_
                  exact stepOk_value rfl (v := .int .i64 (i : Int)) (by go_simp) rfl
                · obtain ⟨y5, e5, q5, rfl⟩ := hk1.ev_new hd1 5 134 (by kernel_rfl) rfl
                  obtain ⟨y6, e6, q6, rfl⟩ := hk1.ev_new hd1 6 135 (by kernel_rfl) rfl
                  exact stepOk_value rfl (v := .pointer (some ⟨g2, i * 3, none⟩)) (by go_simp) rfl
                · obtain ⟨y7, e7, q7, rfl⟩ := hk1.ev_new hd1 7 136 (by kernel_rfl) rfl
                  exact stepOk_value rfl (v := .pointer (some ⟨g2, i * 3, none⟩)) (by go_simp) rfl
                · obtain ⟨y8, e8, q8, rfl⟩ := hk1.ev_new hd1 8 137 (by kernel_rfl) rfl
                  have kc := ((hc2.step hb0).step hk1.below)
                  have kc := kc.cell4 0 (.bool r) (by rfl)
                  simp only [Nat.add_zero] at kc
                  exact stepOk_value rfl (v := .bool r) (by go_simp) rfl
                · obtain ⟨y4, e4, q4, rfl⟩ := hk1.ev_new hd1 4 133 (by kernel_rfl) rfl
                  obtain ⟨y9, e9, q9, rfl⟩ := hk1.ev_new hd1 9 138 (by kernel_rfl) rfl
                  exact stepOk_value rfl (v := .bool false) (by go_simp) rfl
                · obtain ⟨y10, e10, q10, rfl⟩ := hk1.ev_new hd1 10 139 (by kernel_rfl) rfl
                  exact stepOk_value rfl (v := .bool false) (by go_simp) rfl
                · obtain ⟨y11, e11, q11, rfl⟩ := hk1.ev_new hd1 11 140 (by kernel_rfl) rfl
                  have f15_ : a1.eval (.tmp 15) = .slice (some ⟨g, 0, none⟩) M M := hk1.ev_old 15 (by kernel_rfl)
                  have g15_ : a1.tmps[15]?.getD undef = .slice (some ⟨g, 0, none⟩) M M := by simpa [Act.eval] using f15_
                  exact stepOk_valK (wanted_at (t := 140) rfl rfl q11) (v := .slice (some ⟨g, 0, none⟩) M M) (by go_simp) rfl
                · obtain ⟨y11, e11, q11, rfl⟩ := hk1.ev_new hd1 11 140 (by kernel_rfl) rfl
                  have f21_ : a1.eval (.tmp 21) = .int .i64 (i : Int) := hk1.ev_old 21 (by kernel_rfl)
                  have g21_ : a1.tmps[21]?.getD undef = .int .i64 (i : Int) := by simpa [Act.eval] using f21_
                  exact stepOk_valK (wanted_at (t := 140) rfl rfl q11) (v := .int .i64 (i : Int)) (by go_simp) rfl
                · obtain ⟨y11, e11, q11, rfl⟩ := hk1.ev_new hd1 11 140 (by kernel_rfl) rfl
                  obtain ⟨y12, e12, q12, rfl⟩ := hk1.ev_new hd1 12 141 (by kernel_rfl) rfl
                  obtain ⟨y13, e13, q13, rfl⟩ := hk1.ev_new hd1 13 142 (by kernel_rfl) rfl
                  exact stepOk_valK (wanted_at (t := 140) rfl rfl q11) (v := .pointer (some ⟨g, i * 3, none⟩)) (by go_simp) rfl
                · obtain ⟨y11, e11, q11, rfl⟩ := hk1.ev_new hd1 11 140 (by kernel_rfl) rfl
                  obtain ⟨y14, e14, q14, rfl⟩ := hk1.ev_new hd1 14 143 (by kernel_rfl) rfl
                  exact stepOk_valK (wanted_at (t := 140) rfl rfl q11) (v := .pointer (some ⟨g, i * 3 + 2, none⟩)) (by go_simp) rfl
                · obtain ⟨y11, e11, q11, rfl⟩ := hk1.ev_new hd1 11 140 (by kernel_rfl) rfl
                  obtain ⟨y15, e15, q15, rfl⟩ := hk1.ev_new hd1 15 144 (by kernel_rfl) rfl
                  have kc := ((hc1.step hb0).step hk1.below)
                  have kc := kc.cell4 2 (.int .i64 (k0 : Int)) (by rfl)
                  exact stepOk_valK (wanted_at (t := 140) rfl rfl q11) (v := .int .i64 (k0 : Int)) (by go_simp) rfl
                · obtain ⟨y11, e11, q11, rfl⟩ := hk1.ev_new hd1 11 140 (by kernel_rfl) rfl
                  have f18_ : a1.eval (.tmp 18) = .slice (some ⟨g2, 0, none⟩) (M + 2) (M + 2) := hk1.ev_old 18 (by kernel_rfl)
                  have g18_ : a1.tmps[18]?.getD undef = .slice (some ⟨g2, 0, none⟩) (M + 2) (M + 2) := by simpa [Act.eval] using f18_
                  exact stepOk_valK (wanted_at (t := 140) rfl rfl q11) (v := .slice (some ⟨g2, 0, none⟩) (M + 2) (M + 2)) (by go_simp) rfl
                · obtain ⟨y11, e11, q11, rfl⟩ := hk1.ev_new hd1 11 140 (by kernel_rfl) rfl
                  have f21_ : a1.eval (.tmp 21) = .int .i64 (i : Int) := hk1.ev_old 21 (by kernel_rfl)
                  have g21_ : a1.tmps[21]?.getD undef = .int .i64 (i : Int) := by simpa [Act.eval] using f21_
                  exact stepOk_valK (wanted_at (t := 140) rfl rfl q11) (v := .int .i64 (i : Int)) (by go_simp) rfl
                · obtain ⟨y11, e11, q11, rfl⟩ := hk1.ev_new hd1 11 140 (by kernel_rfl) rfl
                  obtain ⟨y17, e17, q17, rfl⟩ := hk1.ev_new hd1 17 146 (by kernel_rfl) rfl
                  obtain ⟨y18, e18, q18, rfl⟩ := hk1.ev_new hd1 18 147 (by kernel_rfl) rfl
                  exact stepOk_valK (wanted_at (t := 140) rfl rfl q11) (v := .pointer (some ⟨g2, i * 3, none⟩)) (by go_simp) rfl
                · obtain ⟨y11, e11, q11, rfl⟩ := hk1.ev_new hd1 11 140 (by kernel_rfl) rfl
                  obtain ⟨y19, e19, q19, rfl⟩ := hk1.ev_new hd1 19 148 (by kernel_rfl) rfl
                  exact stepOk_valK (wanted_at (t := 140) rfl rfl q11) (v := .pointer (some ⟨g2, i * 3 + 2, none⟩)) (by go_simp) rfl
                · obtain ⟨y11, e11, q11, rfl⟩ := hk1.ev_new hd1 11 140 (by kernel_rfl) rfl
                  obtain ⟨y20, e20, q20, rfl⟩ := hk1.ev_new hd1 20 149 (by kernel_rfl) rfl
                  have kc := ((hc2.step hb0).step hk1.below)
                  have kc := kc.cell4 2 (.int .i64 (k0 : Int)) (by rfl)
                  exact stepOk_valK (wanted_at (t := 140) rfl rfl q11) (v := .int .i64 (k0 : Int)) (by go_simp) rfl
                · obtain ⟨y11, e11, q11, rfl⟩ := hk1.ev_new hd1 11 140 (by kernel_rfl) rfl
                  obtain ⟨y16, e16, q16, rfl⟩ := hk1.ev_new hd1 16 145 (by kernel_rfl) rfl
                  obtain ⟨y21, e21, q21, rfl⟩ := hk1.ev_new hd1 21 150 (by kernel_rfl) rfl
                  exact stepOk_valK (wanted_at (t := 140) rfl rfl q11) (v := .bool false) (by go_simp) rfl
                · obtain ⟨y11, e11, q11, rfl⟩ := hk1.ev_new hd1 11 140 (by kernel_rfl) rfl
                  obtain ⟨y22, e22, q22, rfl⟩ := hk1.ev_new hd1 22 151 (by kernel_rfl) rfl
                  exact stepOk_value rfl (v := .bool false) (by go_simp) rfl
                · obtain ⟨y23, e23, q23, rfl⟩ := hk1.ev_new hd1 23 152 (by kernel_rfl) rfl
                  exact stepOk_value rfl (v := .bool false) (by go_simp) rfl
                · obtain ⟨y24, e24, q24, rfl⟩ := hk1.ev_new hd1 24 153 (by kernel_rfl) rfl
                  have f15_ : a1.eval (.tmp 15) = .slice (some ⟨g, 0, none⟩) M M := hk1.ev_old 15 (by kernel_rfl)
                  have g15_ : a1.tmps[15]?.getD undef = .slice (some ⟨g, 0, none⟩) M M := by simpa [Act.eval] using f15_
                  exact stepOk_valK (wanted_at (t := 153) rfl rfl q24) (v := .slice (some ⟨g, 0, none⟩) M M) (by go_simp) rfl
                · obtain ⟨y24, e24, q24, rfl⟩ := hk1.ev_new hd1 24 153 (by kernel_rfl) rfl
                  have f21_ : a1.eval (.tmp 21) = .int .i64 (i : Int) := hk1.ev_old 21 (by kernel_rfl)
                  have g21_ : a1.tmps[21]?.getD undef = .int .i64 (i : Int) := by simpa [Act.eval] using f21_
                  exact stepOk_valK (wanted_at (t := 153) rfl rfl q24) (v := .int .i64 (i : Int)) (by go_simp) rfl
                · obtain ⟨y24, e24, q24, rfl⟩ := hk1.ev_new hd1 24 153 (by kernel_rfl) rfl
                  obtain ⟨y25, e25, q25, rfl⟩ := hk1.ev_new hd1 25 154 (by kernel_rfl) rfl
                  obtain ⟨y26, e26, q26, rfl⟩ := hk1.ev_new hd1 26 155 (by kernel_rfl) rfl
                  exact stepOk_valK (wanted_at (t := 153) rfl rfl q24) (v := .pointer (some ⟨g, i * 3, none⟩)) (by go_simp) rfl
                · obtain ⟨y24, e24, q24, rfl⟩ := hk1.ev_new hd1 24 153 (by kernel_rfl) rfl
                  obtain ⟨y27, e27, q27, rfl⟩ := hk1.ev_new hd1 27 156 (by kernel_rfl) rfl
                  exact stepOk_valK (wanted_at (t := 153) rfl rfl q24) (v := .pointer (some ⟨g, i * 3 + 1, none⟩)) (by go_simp) rfl
                · obtain ⟨y24, e24, q24, rfl⟩ := hk1.ev_new hd1 24 153 (by kernel_rfl) rfl
                  obtain ⟨y28, e28, q28, rfl⟩ := hk1.ev_new hd1 28 157 (by kernel_rfl) rfl
                  have kc := ((hc1.step hb0).step hk1.below)
                  have kc := kc.cell4 1 (.slice A1 N c1) (by rw [← HN.out]; rfl)
                  exact stepOk_valK (wanted_at (t := 153) rfl rfl q24) (v := .slice A1 N c1) (by go_simp) rfl
                · obtain ⟨y24, e24, q24, rfl⟩ := hk1.ev_new hd1 24 153 (by kernel_rfl) rfl
                  have f18_ : a1.eval (.tmp 18) = .slice (some ⟨g2, 0, none⟩) (M + 2) (M + 2) := hk1.ev_old 18 (by kernel_rfl)
                  have g18_ : a1.tmps[18]?.getD undef = .slice (some ⟨g2, 0, none⟩) (M + 2) (M + 2) := by simpa [Act.eval] using f18_
                  exact stepOk_valK (wanted_at (t := 153) rfl rfl q24) (v := .slice (some ⟨g2, 0, none⟩) (M + 2) (M + 2)) (by go_simp) rfl
                · obtain ⟨y24, e24, q24, rfl⟩ := hk1.ev_new hd1 24 153 (by kernel_rfl) rfl
                  have f21_ : a1.eval (.tmp 21) = .int .i64 (i : Int) := hk1.ev_old 21 (by kernel_rfl)
                  have g21_ : a1.tmps[21]?.getD undef = .int .i64 (i : Int) := by simpa [Act.eval] using f21_
                  exact stepOk_valK (wanted_at (t := 153) rfl rfl q24) (v := .int .i64 (i : Int)) (by go_simp) rfl
                · obtain ⟨y24, e24, q24, rfl⟩ := hk1.ev_new hd1 24 153 (by kernel_rfl) rfl
                  obtain ⟨y30, e30, q30, rfl⟩ := hk1.ev_new hd1 30 159 (by kernel_rfl) rfl
                  obtain ⟨y31, e31, q31, rfl⟩ := hk1.ev_new hd1 31 160 (by kernel_rfl) rfl
                  exact stepOk_valK (wanted_at (t := 153) rfl rfl q24) (v := .pointer (some ⟨g2, i * 3, none⟩)) (by go_simp) rfl
                · obtain ⟨y24, e24, q24, rfl⟩ := hk1.ev_new hd1 24 153 (by kernel_rfl) rfl
                  obtain ⟨y32, e32, q32, rfl⟩ := hk1.ev_new hd1 32 161 (by kernel_rfl) rfl
                  exact stepOk_valK (wanted_at (t := 153) rfl rfl q24) (v := .pointer (some ⟨g2, i * 3 + 1, none⟩)) (by go_simp) rfl
                · obtain ⟨y24, e24, q24, rfl⟩ := hk1.ev_new hd1 24 153 (by kernel_rfl) rfl
                  obtain ⟨y33, e33, q33, rfl⟩ := hk1.ev_new hd1 33 162 (by kernel_rfl) rfl
                  have kc := ((hc2.step hb0).step hk1.below)
                  have kc := kc.cell4 1 (.slice A2 N c2) (by rw [← HN.out]; rfl)
                  exact stepOk_valK (wanted_at (t := 153) rfl rfl q24) (v := .slice A2 N c2) (by go_simp) rfl
                · obtain ⟨y24, e24, q24, rfl⟩ := hk1.ev_new hd1 24 153 (by kernel_rfl) rfl
                  obtain ⟨y29, e29, q29, rfl⟩ := hk1.ev_new hd1 29 158 (by kernel_rfl) rfl
                  obtain ⟨y34, e34, q34, rfl⟩ := hk1.ev_new hd1 34 163 (by kernel_rfl) rfl
                  refine stepOk_enter (wanted_at (t := 153) rfl rfl q24) (f := 35) (args := #[.slice A1 N c1, .slice A2 N c2]) (by go_simp) ?_
                  have hsm := same14_any A1 A2 c1 c2 N N st st w' (((hf1.below hb0).below hk1.below).sees) (((hf2.below hb0).below hk1.below).sees) HN.out HN.out (by omega)
                  rw [beq_self_eq_true] at hsm
                  refine hsm.mono ?_
                  rintro e w5 ⟨rfl, qz, rfl⟩
                  exact ⟨_, rfl, rfl, below_drewN' (Below.refl _ _) qz⟩
                · obtain ⟨y24, e24, q24, rfl⟩ := hk1.ev_new hd1 24 153 (by kernel_rfl) rfl
                  obtain ⟨y35, e35, q35, rfl⟩ := hk1.ev_new hd1 35 164 (by kernel_rfl) rfl
                  exact stepOk_valK (wanted_at (t := 153) rfl rfl q24) (v := .bool false) (by go_simp) rfl
              · intro a1 wy hb7 hp
                obtain ⟨x0, p0, x1, p1, x2, p2, x3, p3, x4, p4, x5, p5, x6, p6, x7, p7, x8, p8, x9, p9, x10, p10, x11, p11, x12, p12, x13, p13, x14, p14, x15, p15, x16, p16, x17, p17, x18, p18, x19, p19, x20, p20, x21, p21, x22, p22, x23, p23, x24, p24, x25, p25, x26, p26, x27, p27, x28, p28, x29, p29, x30, p30, x31, p31, x32, p32, x33, p33, x34, p34, x35, p35, x36, p36, rfl⟩ := hp
                simp only [cm19] at p0 p1 p2 p3 p4 p5 p6 p7 p8 p9 p10 p11 p12 p13 p14 p15 p16 p17 p18 p19 p20 p21 p22 p23 p24 p25 p26 p27 p28 p29 p30 p31 p32 p33 p34 p35 p36
                subst p0 p1 p2 p3 p4 p5 p6 p7 p8 p9 p10 p11 p12 p13 p14 p15 p16 p17 p18 p19 p20 p21 p22 p23 p24 p25 p26 p27 p28 p29 p30 p31 p32 p33 p34 p35 p36
                simp only [List.drop_succ_cons, List.drop_zero, Act.put, List.setIfInBounds_toArray, List.set_cons_succ, List.set_cons_zero]
                go_wp2_with fail
                go_roundw
                case rel => exact ⟨i + 1, by omega, by go_num, Below.then_ hBr hb7⟩
                case measure => simp [intOf]; omega
            · obtain rfl : i = M := by omega
              obtain ⟨A2, c2, hc2, -⟩ := hS2.get (x := i + 1) (by rw [HLZ.out]; omega)
              have v0 : wr.cell? ⟨g2, (i + 1) * 3, none⟩ = some (.bool false) := by
                have h := hc2.cell4 0 _ rfl
                rw [show i + 1 = l.length + 1 from by rw [HM.out], sp_moreZ] at h
                rw [← HM.out]
                exact h
              have v0' : wr.cell? ⟨g2, (i + 1) * 3, none⟩ = some (.bool false) := v0
              obtain ⟨i1, hi1⟩ : ∃ i1, i + 1 = i1 := ⟨_, rfl⟩
              rw [hi1] at v0 v0'
              have hi2 : (i : Int) + 1 = (i1 : Int) := by omega
              have hi3 : IntKind.i64.wrap (i1 : Int) = (i1 : Int) := by rw [IntKind.wrap_i64]; omega
              have hi4 : i1 < i + 2 := by omega
              clear hc2 hi1
              go_wp2_with (first
                | (go_at_call 28; refine (quit _ hBwr).mono ?_; rintro e wz ⟨rfl, hBz⟩))
              go_ret
              exact ⟨rfl, hBz⟩
end Go.Proofs.Ytangblcfdboghaa
