/-
  MerkleClimbs returns true for every input, and writes nothing that was there: the walk.
-/
import Derived.Test.YtpdfalgjmeagjaaRegionM
import Derived.ProofKit
import Derived.OpenShut
namespace Go.Proofs.Ytpdfalgjmeagjaa
open Go.RowKit
set_option linter.unusedVariables false

def mcF (gt g o N c2 k g13 h cB : Nat) (B : Option Addr) (X R : List UInt8) (k_ : Nat) (v : Value) (w : World) : Prop :=
  match k_ with
  | 0 => v = .slice (some ⟨g, o, none⟩) N c2
  | 1 => v = .int .i64 (k : Int)
  | 2 => v = .pointer (some ⟨g, o + 32 * k, none⟩)
  | 3 => v = .agg (cb X).toArray
  | 4 => v = .agg #[.int .i64 (k : Int), .slice B h cB]
  | 5 => v = .tuple #[.agg (cb R).toArray, .int .i64 0]
  | 6 => v = .tuple #[.agg (cb R).toArray, .int .i64 0]
  | 7 => v = .agg (cb R).toArray
  | 8 => v = .int .i64 0
  | 11 => v = .int .i64 0
  | _ => True

section
variable {w : World}
set_option maxHeartbeats 8000000 in
set_option maxRecDepth 100000 in
theorem climbs_walk (first keys : List UInt32) (h8 : first.length = 8) (h64 : keys.length = 64) (A : Option Addr) (n c : Nat) (l : List (List UInt8)) (hA : Digs w A n l) (hn : n ≤ 9223372036854775807) (hh : Nat) (hb : hh < 256) (leaf : Int) (hz : -9223372036854775808 ≤ leaf ∧ leaf ≤ 9223372036854775807) :
    Calls Try.prog 14 #[.agg (cw (first ++ keys)).toArray, .slice A n c, .int .u8 (hh : Int), .int .i64 leaf] w fun e w' => e = .returned (.bool true) ∧ Below w.heap.size w w' := by
  have HC : Hid ((cw (first ++ keys)).length = 72) := Lib.hid (by simp [h8, h64])
  have H8 := Lib.hid h8
  have H64 := Lib.hid h64
  obtain ⟨TB, hTB⟩ : ∃ TB, cw (first ++ keys) = TB := ⟨_, rfl⟩
  have HTB := Lib.hid hTB
  rw [hTB] at HC ⊢
  obtain ⟨h, hhm⟩ : ∃ h, hh % 6 = h := ⟨_, rfl⟩
  have h6 : h < 6 := by omega
  obtain ⟨N, hN⟩ : ∃ N, 2 ^ h = N := ⟨_, rfl⟩
  have hN0 : 0 < N := by rw [← hN]; exact Nat.pow_pos (by decide)
  have hN1000 : N ≤ 1000 := by rw [← hN]; exact Nat.le_trans (Nat.pow_le_pow_right (by decide) (show h ≤ 5 by omega)) (by decide)
  have HHM := Lib.hid hhm
  have HN2 := Lib.hid hN
  have e6 : (hh : Int) % 6 = (h : Int) := by omega
  clear hTB hhm hN h8 h64
  go_enter Try.func14, Try.ntmps14
  go_wp2_with (first
    | (with_reducible refine wpList_box (o := ⟨some 4, _, _, _, _, _⟩) rfl (.tmp 0) 26 rfl TB rfl 72 HC.out (by decide) ?_; intro gt w1 hgt hFt hBt)
    | (go_at_call 82; refine (grown10_any A n c l (hA.step hBt) hn hh hb).mono ?_; rintro e w2 ⟨A2, c2, ds, rfl, hO2, hB2⟩; (rw [HHM.out, HN2.out] at hO2); rw [HHM.out, HN2.out]; have hB_2 := Below.then_ hBt hB2; have ft_2 := hFt.below hB2)
    | (go_at_call 30; refine (Pick_any leaf N w2 hN0 hN1000 hz).mono ?_; rintro e w3 ⟨k, hk_, rfl, rfl⟩))
  have hO_2 := hO2
  have HLD : Hid (ds.length = N) := Lib.hid hO2.len
  have HAL := Lib.hid hO2.all
  obtain ⟨R, hR⟩ : ∃ R, rootF (Dg.tabO first keys H8.out) ds h = R := ⟨_, rfl⟩
  obtain ⟨P, hP⟩ : ∃ P, pathF (Dg.tabO first keys H8.out) ds h k = P := ⟨_, rfl⟩
  have LR : Hid (R.length = 32) := Lib.hid (by rw [← hR]; exact len_rootF _ (by rw [HLD.out, HN2.out]) HAL.out)
  have LX : Hid ((dAt ds k).length = 32) := Lib.hid (len_dAt HAL.out (by rw [HLD.out]; exact hk_))
  have hcl := climb_root (Dg.tabO first keys H8.out) (l := ds) (h := h) (leaf := k) (by rw [HLD.out, HN2.out]) (by rw [HN2.out]; exact hk_)
  rw [hR, hP] at hcl
  have hRy := fun (w' : World) (T : Option Addr) (h1 : OfAt w' T (Dg.tabO first keys H8.out)) (h2 : Digs w' A2 N ds) => Root_yes h1 A2 N c2 ds h2 h (by omega) HN2.out.symm
  rw [hR] at hRy
  have hPy := fun (w' : World) (T : Option Addr) (h1 : OfAt w' T (Dg.tabO first keys H8.out)) (h2 : Digs w' A2 N ds) => Path_yes h1 A2 N c2 ds h2 h (by omega) HN2.out.symm k hk_
  rw [hP] at hPy
  obtain ⟨X, hX⟩ : ∃ X, dAt ds k = X := ⟨_, rfl⟩
  rw [hX] at hcl LX
  have hCy := fun (w' : World) (T B : Option Addr) (cB : Nat) (h1 : OfAt w' T (Dg.tabO first keys H8.out)) (h2 : Digs w' B h P) => Climb_yes h1 X LX.out k B h cB P h2 (by omega) (by rw [HN2.out]; exact hk_)
  rw [hcl] at hCy
  have hrb : rightB (k : Int) h = true := by
    unfold rightB
    rw [decide_eq_true_iff]
    refine ⟨by omega, by omega, ?_⟩
    have e : ((2 ^ h : Nat) : Int) = 2 ^ h := by simp
    rw [← e, HN2.out]
    omega
  have hRt := fun (B : Option Addr) (cB : Nat) (w' : World) => Right_any (k : Int) B h cB (w := w')
  rw [hrb] at hRt
  have HRT := Lib.hid hRt
  clear hrb hRt
  have HRY := Lib.hid hRy
  have HPY := Lib.hid hPy
  have HCY := Lib.hid hCy
  have HX := Lib.hid hX
  clear hR hP hcl hRy hPy hCy hX hO2 hFt hBt hB2 hgt
  go_wp2_with (first
    | (go_at_call 83; refine (HRY.out _ _ (OfAt.of_tab (first := first) (keys := keys) ⟨H8.out, H64.out, by rw [HTB.out]; exact ft_2.sees⟩) hO_2.digs).mono ?_; rintro e wc3 ⟨rfl, hBc3⟩)
    | (with_reducible refine wpList_alloc (o := ⟨some 11, _, _, _, _, _⟩) rfl 38 rfl (cb (List.replicate 32 0)) (by kernel_rfl) 32 (len_zb 32) (by decide) ?_; intro g11 wa3 hg11 hF3 hBa3)
    | (with_reducible refine wpList_store rfl rfl (.tmp 11) (.tmp 27) 38 rfl g11 0 _ 38 32 (cb (List.replicate 32 0)) (cb R) rfl rfl 32 (by rw [List.length_map]; exact LR.out) (by kernel_rfl) hF3 (by omega) (cb_one _) wc3 hBa3 hg11 ?_; intro ws3 f11_3 hbs3 ho3_ _; have ho3 := Lib.hid ho3_; clear ho3_; (rw [splice_32 _ _ List.length_replicate LR.out] at f11_3); have hBr3 := Below.then_ hBc3 hbs3; have ft_3 := ft_2.below hBr3; have hO_3 := hO_2.below hBr3; have hB_3 := Below.then_ hB_2 hBr3))
  clear hF3 hBa3 ho3 hBr3 hBc3 hbs3 hB_2 hg11 ft_2 hO_2
  go_wp2_with (first
    | (go_at_call 84; refine (HPY.out _ _ (OfAt.of_tab (first := first) (keys := keys) ⟨H8.out, H64.out, by rw [HTB.out]; exact ft_3.sees⟩) hO_3.digs).mono ?_; rintro e wc4 ⟨B, cB, rfl, hOB, hBc4⟩)
    | (with_reducible refine wpList_alloc (o := ⟨some 13, _, _, _, _, _⟩) rfl 149 rfl zPath (by kernel_rfl) 2 rfl (by decide) ?_; intro g13 wa4 hg13 hF4 hBa4)
    | (with_reducible refine wpList_store rfl rfl (.tmp 13) (.tmp 33) 149 rfl g13 0 _ 149 2 zPath [.int .i64 (k : Int), .slice B h cB] rfl rfl 2 rfl (by kernel_rfl) hF4 (by omega) (allOne_out (by kernel_rfl)) wc4 hBa4 hg13 ?_; intro ws4 f13_4 hbs4 ho4_ _; have ho4 := Lib.hid ho4_; clear ho4_; (rw [splice_pa _ _ rfl rfl] at f13_4); have hBr4 := Below.then_ hBc4 hbs4; have ft_4 := ft_3.below hBr4; have hO_4 := hO_3.below hBr4; have f11_4 := f11_3.below hBr4; have hOB2_4 := hOB.below hbs4; have hB_4 := Below.then_ hB_3 hBr4))
  clear hF4 hBa4 ho4 hBr4 hBc4 hbs4 hB_3 hg13 ft_3 hO_3 f11_3
  go_wp2_with fail
  obtain ⟨g, o, rfl, hgB, hSX, _⟩ := hO_4.digs.at_ hk_
  rw [HX.out] at hSX
  refine region_L (mcF gt g o N c2 k g13 h cB B X R) (crJ ws4 9 10 15 38 32 (cb (List.replicate 32 0)) (cb R)) (by kernel_rfl) (by kernel_rfl) (crJ.start _ _ _) ?_ ?_
  · refine ⟨?_, ?_, ?_, ?_, ?_, ?_, ?_, ?_, ?_, ?_, ?_, ?_, trivial⟩
    all_goals intro listed a1 w' hk h1 hd
    · have f9_ : a1.eval (.tmp 9) = .slice (some ⟨g, o, none⟩) N c2 := hk.ev_old 9 (by kernel_rfl)
      have g9_ : a1.tmps[9]?.getD undef = .slice (some ⟨g, o, none⟩) N c2 := by simpa [Act.eval] using f9_
      exact stepL_value rfl (v := .slice (some ⟨g, o, none⟩) N c2) (by go_simp) rfl (hk.inv.other 0 36 _ (by decide) (by decide) (by decide) (Below.refl _ _))
    · have f10_ : a1.eval (.tmp 10) = .int .i64 (k : Int) := hk.ev_old 10 (by kernel_rfl)
      have g10_ : a1.tmps[10]?.getD undef = .int .i64 (k : Int) := by simpa [Act.eval] using f10_
      exact stepL_value rfl (v := .int .i64 (k : Int)) (by go_simp) rfl (hk.inv.other 1 37 _ (by decide) (by decide) (by decide) (Below.refl _ _))
    · obtain ⟨y0, e0, q0, rfl, l0⟩ := hk.ev_new hd 0 36 (by kernel_rfl) rfl
      obtain ⟨y1, e1, q1, rfl, l1⟩ := hk.ev_new hd 1 37 (by kernel_rfl) rfl
      exact stepL_value rfl (run_ixL (.tmp 36) (.tmp 37) rfl e0 e1 (j := k) rfl hk_ rfl) rfl (hk.inv.other 2 38 _ (by decide) (by decide) (by decide) (Below.refl _ _))
    · obtain ⟨y2, e2, q2, rfl, l2⟩ := hk.ev_new hd 2 38 (by kernel_rfl) rfl
      exact stepL_value rfl (run_load_agg (.tmp 38) 38 rfl e2 (cb X) 32 (by rw [List.length_map]; exact LX.out) (by kernel_rfl) (hSX.step hk.inv.1)) rfl (hk.inv.other 3 39 _ (by decide) (by decide) (by decide) (Below.refl _ _))
    · have f13_ : a1.eval (.tmp 13) = .pointer (some ⟨g13, 0, none⟩) := hk.ev_old 13 (by kernel_rfl)
      have g13_ : a1.tmps[13]?.getD undef = .pointer (some ⟨g13, 0, none⟩) := by simpa [Act.eval] using f13_
      exact stepL_value rfl (run_load_agg (.tmp 13) 149 rfl (hk.ev_old 13 (by kernel_rfl)) [.int .i64 (k : Int), .slice B h cB] 2 rfl (by kernel_rfl) (f13_4.below hk.inv.1).sees) rfl (hk.inv.other 4 40 _ (by decide) (by decide) (by decide) (Below.refl _ _))
    · have f4_ : a1.eval (.tmp 4) = .pointer (some ⟨gt, 0, none⟩) := hk.ev_old 4 (by kernel_rfl)
      have g4_ : a1.tmps[4]?.getD undef = .pointer (some ⟨gt, 0, none⟩) := by simpa [Act.eval] using f4_
      obtain ⟨y3, e3, q3, rfl, l3⟩ := hk.ev_new hd 3 39 (by kernel_rfl) rfl
      obtain ⟨y4, e4, q4, rfl, l4⟩ := hk.ev_new hd 4 40 (by kernel_rfl) rfl
      refine stepL_enter rfl (f := 85) (args := #[.pointer (some ⟨gt, 0, none⟩), .agg (cb X).toArray, .agg #[.int .i64 (k : Int), .slice B h cB]]) (by go_simp) ?_
      have ho := HCY.out _ _ B cB (OfAt.of_tab (first := first) (keys := keys) ⟨H8.out, H64.out, by rw [HTB.out]; exact (ft_4.below hk.inv.1).sees⟩) (hOB2_4.below hk.inv.1).digs
      refine ho.mono ?_
      rintro e w5 ⟨rfl, hB5⟩
      exact ⟨_, rfl, rfl, (hk.inv.other 5 41 _ (by decide) (by decide) (by decide) hB5), fun _ _ h => h⟩
    · obtain ⟨y5, e5, q5, rfl, l5⟩ := hk.ev_new hd 5 41 (by kernel_rfl) rfl
      exact stepL_value rfl (v := .tuple #[.agg (cb R).toArray, .int .i64 0]) (by go_simp) rfl (hk.inv.other 6 35 _ (by decide) (by decide) (by decide) (Below.refl _ _))
    · obtain ⟨y6, e6, q6, rfl, l6⟩ := hk.ev_new hd 6 35 (by kernel_rfl) rfl
      exact stepL_value rfl (v := .agg (cb R).toArray) (by go_simp) rfl (hk.inv.other 7 42 _ (by decide) (by decide) (by decide) (Below.refl _ _))
    · obtain ⟨y6, e6, q6, rfl, l6⟩ := hk.ev_new hd 6 35 (by kernel_rfl) rfl
      exact stepL_value rfl (v := .int .i64 0) (by go_simp) rfl (hk.inv.other 8 43 _ (by decide) (by decide) (by decide) (Below.refl _ _))
    · exact stepL_run rfl (exec_alloc 38 rfl (cb (List.replicate 32 0)) (by kernel_rfl)) trivial (hk.inv.alloc h1 (by rw [hk.size]; exact (by decide : (15 : Nat) < 77)) (by decide) (len_zb 32) (by decide)) (fun _ _ h => h)
    · obtain ⟨y7, e7, q7, rfl, l7⟩ := hk.ev_new hd 7 42 (by kernel_rfl) rfl
      obtain ⟨y9, e9, q9, -, l9⟩ := hk.ev_new hd 9 15 (by kernel_rfl) rfl
      obtain ⟨q, eq, -⟩ := hk.inv.2.1 l9
      rw [q9] at eq
      obtain rfl : y9 = .pointer (some ⟨q, 0, none⟩) := by simpa using eq
      obtain ⟨hF, hJ⟩ := hk.inv.store h1 l9 q9 (by decide) (len_zb 32) (by rw [List.length_map]; exact LR.out)
      exact stepL_skip rfl rfl (run_storeF (.tmp 15) (.tmp 42) rfl (cb (List.replicate 32 0)) (cb R) e9 e7 hF (by rw [List.length_map]; exact LR.out) (by kernel_rfl) (cb_one _)) trivial hJ (fun _ _ h => h)
    · obtain ⟨y8, e8, q8, rfl, l8⟩ := hk.ev_new hd 8 43 (by kernel_rfl) rfl
      exact stepL_value rfl (v := .int .i64 0) (by go_simp) rfl (hk.inv.other 11 16 _ (by decide) (by decide) (by decide) (Below.refl _ _))
  · intro listed a1 w7 hJ hall hp
    obtain ⟨x0, p0, x1, p1, x2, p2, x3, p3, x4, p4, x5, p5, x6, p6, x7, p7, x8, p8, x9, p9, x11, p11, rfl⟩ := hp
    simp only [mcF] at p0 p1 p2 p3 p4 p5 p6 p7 p8 p9 p11
    obtain ⟨q, e9_, hF_q⟩ := hJ.2.1 (hall 9 (by decide))
    rw [hall 10 (by decide)] at hF_q
    have hb7 := hJ.1
    subst p0 p1 p2 p3 p4 p5 p6 p7 p8 p11
    simp only [Act.put, List.setIfInBounds_toArray, List.set_cons_succ, List.set_cons_zero] at e9_ ⊢
    obtain rfl : x9 = .pointer (some ⟨q, 0, none⟩) := by simpa using e9_
    clear hJ hall e9_ p9
    have hBw := Below.then_ hB_4 hb7
    have f11_7 := f11_4.below hb7
    have f13_7 := f13_4.below hb7
    have hc0 : w7.cell? ⟨g13, 0, none⟩ = some (.int .i64 (k : Int)) := f13_7.cell_ rfl
    go_wp2_with (first
      | (with_reducible refine wpList_load_g (o := ⟨some 51, _, _, _, _, _⟩) (.tmp 15) 38 rfl q 0 _ rfl (cb R) 32 (by rw [List.length_map]; exact LR.out) (by kernel_rfl) hF_q.sees (wanted_at rfl rfl rfl) ?_; simp only [Act.put, List.setIfInBounds_toArray, List.set_cons_succ, List.set_cons_zero])
      | (with_reducible refine wpList_load_g (o := ⟨some 52, _, _, _, _, _⟩) (.tmp 11) 38 rfl g11 0 _ rfl (cb R) 32 (by rw [List.length_map]; exact LR.out) (by kernel_rfl) f11_7.sees (wanted_at rfl rfl rfl) ?_; simp only [Act.put, List.setIfInBounds_toArray, List.set_cons_succ, List.set_cons_zero])
      | (with_reducible refine wpList_gis (o := ⟨some 53, _, _, _, _, _⟩) rfl (run_eq32b (.tmp 51) (.tmp 52) _ rfl R R rfl rfl LR.out LR.out) ?_; simp only [Act.put, List.setIfInBounds_toArray, List.set_cons_succ, List.set_cons_zero])
      | (with_reducible refine wpList_load_g (o := ⟨some 56, _, _, _, _, _⟩) (.tmp 13) 149 rfl g13 0 _ rfl [.int .i64 (k : Int), .slice B h cB] 2 rfl (by kernel_rfl) f13_7.sees (wanted_at rfl rfl rfl) ?_; simp only [Act.put, List.setIfInBounds_toArray, List.set_cons_succ, List.set_cons_zero])
      | (go_at_call 86; refine (HRT.out B cB w7).mono ?_; rintro e w9 ⟨rfl, hB9⟩; have f13_9 := f13_7.below hB9; have hc0 : w9.cell? ⟨g13, 0, none⟩ = some (.int .i64 (k : Int)) := f13_9.cell_ rfl; have hc1 : w9.cell? ⟨g13, 1, none⟩ = some (.slice B h cB) := f13_9.cell_ rfl)
      | (go_at_call 87; refine awake10_any.mono ?_; rintro e w10 ⟨rfl, hB10⟩))
    go_ret
    exact ⟨rfl, Below.then_ (Below.then_ hBw hB9) hB10⟩
theorem climbs_law (W : World) (first keys : List UInt32) (h8 : first.length = 8) (h64 : keys.length = 64) (A : Option Addr) (n c : Nat) (l : List (List UInt8)) (hA : Digs W A n l) (hn : n ≤ c) (hc : c ≤ 9223372036854775807) (hnil : A = none → c = 0) (x : Int) (wx : (Lit.int .u8 x).wf = true) (leaf : Int) (wl : (Lit.int .i64 leaf).wf = true) :
    Calls Try.prog 14 #[.agg (cw (first ++ keys)).toArray, .slice A n c, .int .u8 x, .int .i64 leaf] W fun e w' => e = .returned (.bool true) ∧ Below W.heap.size W w' := by
  have b := bounds_u8 wx
  obtain ⟨hh, rfl⟩ := Int.eq_ofNat_of_zero_le b.1
  exact climbs_walk first keys h8 h64 A n c l hA (by omega) hh (by omega) leaf (bounds_i64 wl)
end
end Go.Proofs.Ytpdfalgjmeagjaa
