/-
  MerkleTells returns true for every input, and writes nothing that was there: the walk.
-/
import Derived.Test.YtcfjbllmaejiaaaMerkPairs
import Derived.ProofKit
import Derived.OpenShut
namespace Go.Proofs.Ytcfjbllmaejiaaa
open Go.RowKit
set_option linter.unusedVariables false


section
variable {w : World}
set_option maxHeartbeats 2000000 in
set_option maxRecDepth 100000 in
theorem SamePath_same (L : Int) (H : Nat) (B1 B2 : Option Addr) (c1 c2 : Nat) (P : List (List UInt8)) (h1 : Digs w B1 H P) (h2 : Digs w B2 H P) (hH : H ≤ 1000) :
    Calls Try.prog 43 #[.agg #[.int .i64 L, .slice B1 H c1], .agg #[.int .i64 L, .slice B2 H c2]] w fun e w' => e = .returned (.bool true) ∧ Below w.heap.size w w' := by
  go_enter Try.func43, Try.ntmps43
  go_wp2_with (first
    | (with_reducible refine wpList_box (o := ⟨some 2, _, _, _, _, _⟩) rfl (.tmp 0) 82 rfl [.int .i64 L, .slice B1 H c1] rfl 2 rfl (by decide) ?_; intro g1 w1 hg1 hF1 hB1)
    | (with_reducible refine wpList_box (o := ⟨some 3, _, _, _, _, _⟩) rfl (.tmp 1) 82 rfl [.int .i64 L, .slice B2 H c2] rfl 2 rfl (by decide) ?_; intro g2 w2 hg2 hF2 hB2; have hF1b := hF1.below hB2; have hBw := Below.then_ hB1 hB2; have k10 : w2.cell? ⟨g1, 0, none⟩ = some (.int .i64 L) := hF1b.cell_ rfl; have k11 : w2.cell? ⟨g1, 1, none⟩ = some (.slice B1 H c1) := hF1b.cell_ rfl; have k20 : w2.cell? ⟨g2, 0, none⟩ = some (.int .i64 L) := hF2.cell_ rfl; have k21 : w2.cell? ⟨g2, 1, none⟩ = some (.slice B2 H c2) := hF2.cell_ rfl)
    | (go_at_call 48; refine (SameDigests_same B1 B2 H c1 c2 P (h1.step hBw) (h2.step hBw) hH).mono ?_; rintro e w3 ⟨rfl, hB3⟩))
  go_ret
  exact ⟨rfl, Below.then_ hBw hB3⟩
end
def mtF (gt gp gx g12 g14 g16 g18 g20 g22 n c c1 m d H cc cd : Nat) (A A1 B Bc Bd : Option Addr) (pl Lp E1 E2 E3 : Int) (rb : Bool) (TB : List Value) (R Z N X0 : List UInt8) (j : Nat) (x : Value) (w : World) : Prop :=
  match j with
  | 0 => x = .agg (cb R).toArray
  | 1 => x = .agg (cb R).toArray
  | 2 => x = .bool true
  | 3 => x = .bool true
  | 4 => x = .int .i64 E1
  | 5 => x = .int .i64 E1
  | 6 => x = .bool true
  | 7 => x = .bool true
  | 8 => x = .bool true
  | 9 => x = .agg #[.int .i64 Lp, .slice Bc H cc]
  | 10 => x = .agg #[.int .i64 Lp, .slice Bd H cd]
  | 11 => x = .bool true
  | 12 => x = .bool true
  | 13 => x = .bool true
  | 14 => x = .int .i64 E2
  | 15 => x = .int .i64 E2
  | 16 => x = .bool true
  | 17 => x = .bool true
  | 18 => x = .bool true
  | 19 => x = .agg (cb Z).toArray
  | 20 => x = .agg (cb Z).toArray
  | 21 => x = .bool true
  | 22 => x = .bool true
  | 23 => x = .bool true
  | 24 => x = .int .i64 E3
  | 25 => x = .int .i64 E3
  | 26 => x = .bool true
  | 27 => x = .bool true
  | 28 => x = .bool true
  | 29 => x = .agg #[.int .i64 pl, .slice B m d]
  | 30 => x = .bool rb
  | 31 => x = .agg #[.int .i64 pl, .slice B m d]
  | 32 => x = .bool rb
  | 33 => x = .bool true
  | 34 => x = .bool true
  | 35 => x = .bool true
  | 36 => x = .agg (cb X0).toArray
  | 37 => x = .agg (cb R).toArray
  | 38 => x = .agg (cb N).toArray
  | 39 => x = .agg TB.toArray
  | 40 => x = .agg (cb X0).toArray
  | 41 => x = .agg (cb R).toArray
  | 42 => x = .agg (cb N).toArray
  | 43 => x = .bool true
  | 44 => x = .bool true
  | 45 => x = .bool true
  | 46 => x = .slice A1 n c1
  | 47 => x = .slice A n c
  | 48 => x = .bool true
  | 49 => x = .bool true
  | 50 => x = .bool true
  | 51 => x = .bool true
  | 52 => x = .bool true
  | _ => True
theorem mtF_stab (gt gp gx g12 g14 g16 g18 g20 g22 n c c1 m d H cc cd : Nat) (A A1 B Bc Bd : Option Addr) (pl Lp E1 E2 E3 : Int) (rb : Bool) (TB : List Value) (R Z N X0 : List UInt8) : ∀ j x w w', Below w.heap.size w w' → mtF gt gp gx g12 g14 g16 g18 g20 g22 n c c1 m d H cc cd A A1 B Bc Bd pl Lp E1 E2 E3 rb TB R Z N X0 j x w → mtF gt gp gx g12 g14 g16 g18 g20 g22 n c c1 m d H cc cd A A1 B Bc Bd pl Lp E1 E2 E3 rb TB R Z N X0 j x w' := fun _ _ _ _ _ h => h
section
variable {w : World}
set_option maxHeartbeats 8000000 in
set_option maxRecDepth 100000 in
theorem tells10_long (TB : List Value) (hC : TB.length = 72) (A : Option Addr) (n c : Nat) (leaf : Int) (pl : Int) (B : Option Addr) (m d : Nat) (X0 : List UInt8) (hx : X0.length = 32) (hlong : 40 < n ∨ 20 < m) :
    Calls Try.prog 5 #[.agg TB.toArray, .slice A n c, .int .i64 leaf, .agg #[.int .i64 pl, .slice B m d], .agg (cb X0).toArray] w fun e w' => e = .returned (.bool true) ∧ Below w.heap.size w w' := by
  have HC := Lib.hid hC
  have LX0 := Lib.hid hx
  clear hC hx
  by_cases hn : 40 < n
  · have e1 : decide ((40 : Int) < (n : Int)) = true := by simp; omega
    go_enter Try.func5, Try.ntmps5
    go_wp2_with (first
      | (with_reducible refine wpList_box (o := ⟨some 5, _, _, _, _, _⟩) rfl (.tmp 0) 79 rfl TB rfl 72 HC.out (by decide) ?_; intro gt w1 hgt hFt hBt)
      | (with_reducible refine wpList_box (o := ⟨some 8, _, _, _, _, _⟩) rfl (.tmp 3) 82 rfl [.int .i64 pl, .slice B m d] rfl 2 rfl (by decide) ?_; intro gp w2 hgp hFp hBp)
      | (with_reducible refine wpList_box (o := ⟨some 9, _, _, _, _, _⟩) rfl (.tmp 4) 84 rfl (cb X0) rfl 32 (by rw [List.length_map]; exact LX0.out) (by decide) ?_; intro gx w3 hgx hFx hBx; have ft_1 := (hFt.below hBp).below hBx; have fp_1 := hFp.below hBx; have fx_1 := hFx; have hB_1 := Below.then_ (Below.then_ hBt hBp) hBx; have kc8 : w3.cell? ⟨gp, 1, none⟩ = some (.slice B m d) := fp_1.cell_ rfl))
    go_wp2_with (go_at_call 35; refine (awake10_any (w := w3)).mono ?_; rintro e w4 ⟨rfl, hB4⟩)
    go_ret
    exact ⟨rfl, Below.then_ hB_1 hB4⟩
  · have e1 : decide ((40 : Int) < (n : Int)) = false := by simp; omega
    have e2 : decide ((20 : Int) < (m : Int)) = true := by simp; omega
    go_enter Try.func5, Try.ntmps5
    go_wp2_with (first
      | (with_reducible refine wpList_box (o := ⟨some 5, _, _, _, _, _⟩) rfl (.tmp 0) 79 rfl TB rfl 72 HC.out (by decide) ?_; intro gt w1 hgt hFt hBt)
      | (with_reducible refine wpList_box (o := ⟨some 8, _, _, _, _, _⟩) rfl (.tmp 3) 82 rfl [.int .i64 pl, .slice B m d] rfl 2 rfl (by decide) ?_; intro gp w2 hgp hFp hBp)
      | (with_reducible refine wpList_box (o := ⟨some 9, _, _, _, _, _⟩) rfl (.tmp 4) 84 rfl (cb X0) rfl 32 (by rw [List.length_map]; exact LX0.out) (by decide) ?_; intro gx w3 hgx hFx hBx; have ft_1 := (hFt.below hBp).below hBx; have fp_1 := hFp.below hBx; have fx_1 := hFx; have hB_1 := Below.then_ (Below.then_ hBt hBp) hBx; have kc8 : w3.cell? ⟨gp, 1, none⟩ = some (.slice B m d) := fp_1.cell_ rfl))
    go_wp2_with (go_at_call 35; refine (awake10_any (w := w3)).mono ?_; rintro e w4 ⟨rfl, hB4⟩)
    go_ret
    exact ⟨rfl, Below.then_ hB_1 hB4⟩
set_option maxHeartbeats 8000000 in
set_option maxRecDepth 100000 in
theorem tells10_walk (first keys : List UInt32) (h8 : first.length = 8) (h64 : keys.length = 64) (A : Option Addr) (n c : Nat) (ds : List (List UInt8)) (hA : Digs w A n ds) (hnc : n ≤ c) (hnil : A = none → c = 0) (leaf : Int) (pl : Int) (B : Option Addr) (m d : Nat) (es : List (List UInt8)) (hB : Digs w B m es) (X0 : List UInt8) (hx : X0.length = 32) (hn : n ≤ 40) (hm : m ≤ 20) :
    Calls Try.prog 5 #[.agg (cw (first ++ keys)).toArray, .slice A n c, .int .i64 leaf, .agg #[.int .i64 pl, .slice B m d], .agg (cb X0).toArray] w fun e w' => e = .returned (.bool true) ∧ Below w.heap.size w w' := by
  have HC : Hid ((cw (first ++ keys)).length = 72) := Lib.hid (by simp [h8, h64])
  have H8 := Lib.hid h8
  have H64 := Lib.hid h64
  obtain ⟨R, E1, hR, qa, qb⟩ := root_pair first keys h8 h64 n (by omega) ds hA.len hA.all
  obtain ⟨Lp, H, P, E2, hH, qc, qd⟩ := path_pair first keys h8 h64 n (by omega) ds leaf
  obtain ⟨Z, E3, hZ, qe, qf⟩ := climb_pair first keys h8 h64 X0 hx pl m es hB.len hB.all
  have qn := fun (w' : World) (T : Option Addr) (h1 : OfAt w' T (Dg.tabO first keys h8)) => Node_any h1 X0 R hx hR
  have qnr := fun (w' : World) => rNode_any first keys h8 h64 X0 R hx hR (w := w')
  have qr := fun (w' : World) => Right_any pl B m d (w := w')
  have qrr := fun (w' : World) => rRight_any pl B m d (w := w')
  obtain ⟨rb, hrb⟩ : ∃ rb, rightB pl m = rb := ⟨_, rfl⟩
  obtain ⟨N, hN⟩ : ∃ N, nodeF (Dg.tabO first keys h8) X0 R = N := ⟨_, rfl⟩
  have LN : Hid (N.length = 32) := Lib.hid (by rw [← hN]; exact len_nodeF _ _ _)
  rw [hrb] at qr qrr
  rw [hN] at qn qnr
  obtain ⟨TB, hTB⟩ : ∃ TB, cw (first ++ keys) = TB := ⟨_, rfl⟩
  have HTB := Lib.hid hTB
  rw [hTB] at qb qd qf qnr HC ⊢
  have QA := Lib.hid qa
  have QB := Lib.hid qb
  have QC := Lib.hid qc
  have QD := Lib.hid qd
  have QE := Lib.hid qe
  have QF := Lib.hid qf
  have QN := Lib.hid qn
  have QNr := Lib.hid qnr
  have QRt := Lib.hid qr
  have QRr := Lib.hid qrr
  have LR := Lib.hid hR
  have LZ := Lib.hid hZ
  have LX0 := Lib.hid hx
  have e1 : decide ((40 : Int) < (n : Int)) = false := by simp; omega
  have e2 : decide ((20 : Int) < (m : Int)) = false := by simp; omega
  clear qa qb qc qd qe qf qn qnr qr qrr hR hZ hx hrb hN hTB h64
  go_enter Try.func5, Try.ntmps5
  go_wp2_with (first
    | (with_reducible refine wpList_box (o := ⟨some 5, _, _, _, _, _⟩) rfl (.tmp 0) 79 rfl TB rfl 72 HC.out (by decide) ?_; intro gt w1 hgt hFt hBt)
    | (with_reducible refine wpList_box (o := ⟨some 8, _, _, _, _, _⟩) rfl (.tmp 3) 82 rfl [.int .i64 pl, .slice B m d] rfl 2 rfl (by decide) ?_; intro gp w2 hgp hFp hBp)
    | (with_reducible refine wpList_box (o := ⟨some 9, _, _, _, _, _⟩) rfl (.tmp 4) 84 rfl (cb X0) rfl 32 (by rw [List.length_map]; exact LX0.out) (by decide) ?_; intro gx w3 hgx hFx hBx; have ft_1 := (hFt.below hBp).below hBx; have fp_1 := hFp.below hBx; have fx_1 := hFx; have hB_1 := Below.then_ (Below.then_ hBt hBp) hBx; have kc8 : w3.cell? ⟨gp, 1, none⟩ = some (.slice B m d) := fp_1.cell_ rfl)
    | (go_at_call 36; refine (CopyDigests_any A n c ds (hA.step hB_1) (by omega) hnil).mono ?_; rintro e wcp ⟨A1, c1, rfl, hOi_3, hBcp⟩; have ft_3 := ft_1.below hBcp; have fp_3 := fp_1.below hBcp; have fx_3 := fx_1.below hBcp; have hB_3 := Below.then_ hB_1 hBcp))
  clear hFt hFp hFx hBt hBp hBx ft_1 fp_1 fx_1 hB_1 hBcp kc8 hgt hgp hgx
  go_wp2_with (first
    | (go_at_call 37; with_reducible refine (QA.out _ A1 c1 _ (OfAt.of_tab (first := first) (keys := keys) ⟨H8.out, H64.out, by rw [HTB.out]; exact ft_3.sees⟩) hOi_3.digs).mono ?_; rintro e wc4 ⟨rfl, hBc4⟩)
    | (with_reducible refine wpList_alloc (o := ⟨some 12, _, _, _, _, _⟩) rfl 84 rfl (cb (List.replicate 32 0)) (by kernel_rfl) 32 (len_zb 32) (by decide) ?_; intro g12 wa4 hg12 hF4 hBa4)
    | (with_reducible refine wpList_store rfl rfl (.tmp 12) (.tmp 39) 84 rfl g12 0 _ 84 32 (cb (List.replicate 32 0)) (cb R) rfl rfl 32 (by rw [List.length_map]; exact LR.out) (by kernel_rfl) hF4 (by omega) (cb_one _) wc4 hBa4 hg12 ?_; intro ws4 f12_4 hbs4 ho4_ _; have ho4 := Lib.hid ho4_; clear ho4_; (rw [splice_32 _ _ List.length_replicate LR.out] at f12_4); have hBr4 := Below.then_ hBc4 hbs4; have ft_4 := ft_3.below hBr4; have fp_4 := fp_3.below hBr4; have fx_4 := fx_3.below hBr4; have hOi_4 := hOi_3.below hBr4; have hB_4 := Below.then_ hB_3 hBr4)
    | (with_reducible refine wpList_load (o := ⟨some 42, _, _, _, _, _⟩) rfl (.tmp 5) 79 rfl gt 0 _ rfl TB 72 HC.out (by kernel_rfl) ft_4.sees ?_; simp only [Act.put, List.setIfInBounds_toArray, List.set_cons_succ, List.set_cons_zero]))
  clear hF4 hBa4 ho4 hBr4 hBc4 hbs4 hB_3 hg12 ft_3 fp_3 fx_3 hOi_3
  go_wp2_with (first
    | (go_at_call 38; with_reducible refine (QB.out _ A c hnc (hA.step hB_4)).mono ?_; rintro e wc5 ⟨rfl, hBc5⟩)
    | (with_reducible refine wpList_alloc (o := ⟨some 14, _, _, _, _, _⟩) rfl 84 rfl (cb (List.replicate 32 0)) (by kernel_rfl) 32 (len_zb 32) (by decide) ?_; intro g14 wa5 hg14 hF5 hBa5)
    | (with_reducible refine wpList_store rfl rfl (.tmp 14) (.tmp 45) 84 rfl g14 0 _ 84 32 (cb (List.replicate 32 0)) (cb R) rfl rfl 32 (by rw [List.length_map]; exact LR.out) (by kernel_rfl) hF5 (by omega) (cb_one _) wc5 hBa5 hg14 ?_; intro ws5 f14_5 hbs5 ho5_ _; have ho5 := Lib.hid ho5_; clear ho5_; (rw [splice_32 _ _ List.length_replicate LR.out] at f14_5); have hBr5 := Below.then_ hBc5 hbs5; have ft_5 := ft_4.below hBr5; have fp_5 := fp_4.below hBr5; have fx_5 := fx_4.below hBr5; have hOi_5 := hOi_4.below hBr5; have f12_5 := f12_4.below hBr5; have hB_5 := Below.then_ hB_4 hBr5))
  clear hF5 hBa5 ho5 hBr5 hBc5 hbs5 hB_4 hg14 ft_4 fp_4 fx_4 hOi_4 f12_4
  go_wp2_with (first
    | (go_at_call 39; with_reducible refine (QC.out _ A1 c1 _ (OfAt.of_tab (first := first) (keys := keys) ⟨H8.out, H64.out, by rw [HTB.out]; exact ft_5.sees⟩) hOi_5.digs).mono ?_; rintro e wc6 ⟨Bc, cc, rfl, hX6, hBc6⟩)
    | (with_reducible refine wpList_alloc (o := ⟨some 16, _, _, _, _, _⟩) rfl 82 rfl zPath (by kernel_rfl) 2 rfl (by decide) ?_; intro g16 wa6 hg16 hF6 hBa6)
    | (with_reducible refine wpList_store rfl rfl (.tmp 16) (.tmp 51) 82 rfl g16 0 _ 82 2 zPath [.int .i64 Lp, .slice Bc H cc] rfl rfl 2 rfl (by kernel_rfl) hF6 (by omega) (allOne_out (by kernel_rfl)) wc6 hBa6 hg16 ?_; intro ws6 f16_6 hbs6 ho6_ _; have ho6 := Lib.hid ho6_; clear ho6_; (rw [splice_pa _ _ rfl rfl] at f16_6); have hBr6 := Below.then_ hBc6 hbs6; have ft_6 := ft_5.below hBr6; have fp_6 := fp_5.below hBr6; have fx_6 := fx_5.below hBr6; have hOi_6 := hOi_5.below hBr6; have f12_6 := f12_5.below hBr6; have f14_6 := f14_5.below hBr6; have hOc_6 := hX6.below hbs6; have hB_6 := Below.then_ hB_5 hBr6)
    | (with_reducible refine wpList_load (o := ⟨some 54, _, _, _, _, _⟩) rfl (.tmp 5) 79 rfl gt 0 _ rfl TB 72 HC.out (by kernel_rfl) ft_6.sees ?_; simp only [Act.put, List.setIfInBounds_toArray, List.set_cons_succ, List.set_cons_zero]))
  clear hF6 hBa6 ho6 hBr6 hBc6 hbs6 hB_5 hg16 ft_5 fp_5 fx_5 hOi_5 f12_5 f14_5
  go_wp2_with (first
    | (go_at_call 40; with_reducible refine (QD.out _ A c hnc (hA.step hB_6)).mono ?_; rintro e wc7 ⟨Bd, cd, rfl, hX7, hBc7⟩)
    | (with_reducible refine wpList_alloc (o := ⟨some 18, _, _, _, _, _⟩) rfl 82 rfl zPath (by kernel_rfl) 2 rfl (by decide) ?_; intro g18 wa7 hg18 hF7 hBa7)
    | (with_reducible refine wpList_store rfl rfl (.tmp 18) (.tmp 58) 82 rfl g18 0 _ 82 2 zPath [.int .i64 Lp, .slice Bd H cd] rfl rfl 2 rfl (by kernel_rfl) hF7 (by omega) (allOne_out (by kernel_rfl)) wc7 hBa7 hg18 ?_; intro ws7 f18_7 hbs7 ho7_ _; have ho7 := Lib.hid ho7_; clear ho7_; (rw [splice_pa _ _ rfl rfl] at f18_7); have hBr7 := Below.then_ hBc7 hbs7; have ft_7 := ft_6.below hBr7; have fp_7 := fp_6.below hBr7; have fx_7 := fx_6.below hBr7; have hOi_7 := hOi_6.below hBr7; have f12_7 := f12_6.below hBr7; have f14_7 := f14_6.below hBr7; have f16_7 := f16_6.below hBr7; have hOc_7 := hOc_6.below hBr7; have hOd_7 := hX7.below hbs7; have hB_7 := Below.then_ hB_6 hBr7)
    | (with_reducible refine wpList_load (o := ⟨some 61, _, _, _, _, _⟩) rfl (.tmp 9) 84 rfl gx 0 _ rfl (cb X0) 32 (by rw [List.length_map]; exact LX0.out) (by kernel_rfl) fx_7.sees ?_; simp only [Act.put, List.setIfInBounds_toArray, List.set_cons_succ, List.set_cons_zero])
    | (with_reducible refine wpList_load (o := ⟨some 62, _, _, _, _, _⟩) rfl (.tmp 8) 82 rfl gp 0 _ rfl [.int .i64 pl, .slice B m d] 2 rfl (by kernel_rfl) fp_7.sees ?_; simp only [Act.put, List.setIfInBounds_toArray, List.set_cons_succ, List.set_cons_zero]))
  clear hF7 hBa7 ho7 hBr7 hBc7 hbs7 hB_6 hg18 ft_6 fp_6 fx_6 hOi_6 f12_6 f14_6 f16_6 hOc_6
  go_wp2_with (first
    | (go_at_call 41; with_reducible refine (QE.out _ B d _ (OfAt.of_tab (first := first) (keys := keys) ⟨H8.out, H64.out, by rw [HTB.out]; exact ft_7.sees⟩) (hB.step hB_7)).mono ?_; rintro e wc8 ⟨rfl, hBc8⟩)
    | (with_reducible refine wpList_alloc (o := ⟨some 20, _, _, _, _, _⟩) rfl 84 rfl (cb (List.replicate 32 0)) (by kernel_rfl) 32 (len_zb 32) (by decide) ?_; intro g20 wa8 hg20 hF8 hBa8)
    | (with_reducible refine wpList_store rfl rfl (.tmp 20) (.tmp 64) 84 rfl g20 0 _ 84 32 (cb (List.replicate 32 0)) (cb Z) rfl rfl 32 (by rw [List.length_map]; exact LZ.out) (by kernel_rfl) hF8 (by omega) (cb_one _) wc8 hBa8 hg20 ?_; intro ws8 f20_8 hbs8 ho8_ _; have ho8 := Lib.hid ho8_; clear ho8_; (rw [splice_32 _ _ List.length_replicate LZ.out] at f20_8); have hBr8 := Below.then_ hBc8 hbs8; have ft_8 := ft_7.below hBr8; have fp_8 := fp_7.below hBr8; have fx_8 := fx_7.below hBr8; have hOi_8 := hOi_7.below hBr8; have f12_8 := f12_7.below hBr8; have f14_8 := f14_7.below hBr8; have f16_8 := f16_7.below hBr8; have hOc_8 := hOc_7.below hBr8; have f18_8 := f18_7.below hBr8; have hOd_8 := hOd_7.below hBr8; have hB_8 := Below.then_ hB_7 hBr8)
    | (with_reducible refine wpList_load (o := ⟨some 67, _, _, _, _, _⟩) rfl (.tmp 5) 79 rfl gt 0 _ rfl TB 72 HC.out (by kernel_rfl) ft_8.sees ?_; simp only [Act.put, List.setIfInBounds_toArray, List.set_cons_succ, List.set_cons_zero])
    | (with_reducible refine wpList_load (o := ⟨some 68, _, _, _, _, _⟩) rfl (.tmp 9) 84 rfl gx 0 _ rfl (cb X0) 32 (by rw [List.length_map]; exact LX0.out) (by kernel_rfl) fx_8.sees ?_; simp only [Act.put, List.setIfInBounds_toArray, List.set_cons_succ, List.set_cons_zero])
    | (with_reducible refine wpList_load (o := ⟨some 69, _, _, _, _, _⟩) rfl (.tmp 8) 82 rfl gp 0 _ rfl [.int .i64 pl, .slice B m d] 2 rfl (by kernel_rfl) fp_8.sees ?_; simp only [Act.put, List.setIfInBounds_toArray, List.set_cons_succ, List.set_cons_zero]))
  clear hF8 hBa8 ho8 hBr8 hBc8 hbs8 hB_7 hg20 ft_7 fp_7 fx_7 hOi_7 f12_7 f14_7 f16_7 hOc_7 f18_7 hOd_7
  go_wp2_with (first
    | (go_at_call 42; with_reducible refine (QF.out _ B d (hB.step hB_8)).mono ?_; rintro e wc9 ⟨rfl, hBc9⟩)
    | (with_reducible refine wpList_alloc (o := ⟨some 22, _, _, _, _, _⟩) rfl 84 rfl (cb (List.replicate 32 0)) (by kernel_rfl) 32 (len_zb 32) (by decide) ?_; intro g22 wa9 hg22 hF9 hBa9)
    | (with_reducible refine wpList_store rfl rfl (.tmp 22) (.tmp 71) 84 rfl g22 0 _ 84 32 (cb (List.replicate 32 0)) (cb Z) rfl rfl 32 (by rw [List.length_map]; exact LZ.out) (by kernel_rfl) hF9 (by omega) (cb_one _) wc9 hBa9 hg22 ?_; intro ws9 f22_9 hbs9 ho9_ _; have ho9 := Lib.hid ho9_; clear ho9_; (rw [splice_32 _ _ List.length_replicate LZ.out] at f22_9); have hBr9 := Below.then_ hBc9 hbs9; have ft_9 := ft_8.below hBr9; have fp_9 := fp_8.below hBr9; have fx_9 := fx_8.below hBr9; have hOi_9 := hOi_8.below hBr9; have f12_9 := f12_8.below hBr9; have f14_9 := f14_8.below hBr9; have f16_9 := f16_8.below hBr9; have hOc_9 := hOc_8.below hBr9; have f18_9 := f18_8.below hBr9; have hOd_9 := hOd_8.below hBr9; have f20_9 := f20_8.below hBr9; have hB_9 := Below.then_ hB_8 hBr9))
  clear hF9 hBa9 ho9 hBr9 hBc9 hbs9 hB_8 hg22 ft_8 fp_8 fx_8 hOi_8 f12_8 f14_8 f16_8 hOc_8 f18_8 hOd_8 f20_8
  go_wp2_with fail
  refine region_all_tail 53 (mtF gt gp gx g12 g14 g16 g18 g20 g22 n c c1 m d H cc cd A A1 B Bc Bd pl Lp E1 E2 E3 rb TB R Z N X0) (by kernel_rfl) (by kernel_rfl) (by kernel_rfl) (mtF_stab _ _ _ _ _ _ _ _ _ _ _ _ _ _ _ _ _ _ _ _ _ _ _ _ _ _ _ _ _ _ _ _ _) ?_ ?_
  · intro w0 hb0
    simp only [List.take_succ_cons, List.take_zero]
    refine ⟨?_, ?_, ?_, ?_, ?_, ?_, ?_, ?_, ?_, ?_, ?_, ?_, ?_, ?_, ?_, ?_, ?_, ?_, ?_, ?_, ?_, ?_, ?_, ?_, ?_, ?_, ?_, ?_, ?_, ?_, ?_, ?_, ?_, ?_, ?_, ?_, ?_, ?_, ?_, ?_, ?_, ?_, ?_, ?_, ?_, ?_, ?_, ?_, ?_, ?_, ?_, ?_, ?_, trivial⟩
    all_goals intro listed a1 w' hk1 hd1
    · have f12_ : a1.eval (.tmp 12) = .pointer (some ⟨g12, 0, none⟩) := hk1.ev_old 12 (by kernel_rfl)
      have g12_ : a1.tmps[12]?.getD undef = .pointer (some ⟨g12, 0, none⟩) := by simpa [Act.eval] using f12_
      exact stepOk_value rfl (run_load_agg (.tmp 12) 84 rfl (hk1.ev_old 12 (by kernel_rfl)) (cb R) 32 (by rw [List.length_map]; exact LR.out) (by kernel_rfl) ((f12_9.below hb0).below hk1.below).sees) rfl
    · have f14_ : a1.eval (.tmp 14) = .pointer (some ⟨g14, 0, none⟩) := hk1.ev_old 14 (by kernel_rfl)
      have g14_ : a1.tmps[14]?.getD undef = .pointer (some ⟨g14, 0, none⟩) := by simpa [Act.eval] using f14_
      exact stepOk_value rfl (run_load_agg (.tmp 14) 84 rfl (hk1.ev_old 14 (by kernel_rfl)) (cb R) 32 (by rw [List.length_map]; exact LR.out) (by kernel_rfl) ((f14_9.below hb0).below hk1.below).sees) rfl
    · obtain ⟨y0, e0, q0, rfl⟩ := hk1.ev_new hd1 0 73 (by kernel_rfl) rfl
      obtain ⟨y1, e1, q1, rfl⟩ := hk1.ev_new hd1 1 74 (by kernel_rfl) rfl
      exact stepOk_value rfl (run_eq32b (.tmp 73) (.tmp 74) 84 rfl R R e0 e1 LR.out LR.out) (by show Value.bool (R == R) = _; simp)
    · obtain ⟨y2, e2, q2, rfl⟩ := hk1.ev_new hd1 2 75 (by kernel_rfl) rfl
      exact stepOk_value rfl (v := .bool true) (by go_simp) rfl
    · obtain ⟨y3, e3, q3, rfl⟩ := hk1.ev_new hd1 3 76 (by kernel_rfl) rfl
      have f13_ : a1.eval (.tmp 13) = .int .i64 E1 := hk1.ev_old 13 (by kernel_rfl)
      have g13_ : a1.tmps[13]?.getD undef = .int .i64 E1 := by simpa [Act.eval] using f13_
      exact stepOk_valG (wanted_at (t := 76) rfl rfl q3) (v := .int .i64 E1) (by go_simp) rfl
    · obtain ⟨y3, e3, q3, rfl⟩ := hk1.ev_new hd1 3 76 (by kernel_rfl) rfl
      have f15_ : a1.eval (.tmp 15) = .int .i64 E1 := hk1.ev_old 15 (by kernel_rfl)
      have g15_ : a1.tmps[15]?.getD undef = .int .i64 E1 := by simpa [Act.eval] using f15_
      exact stepOk_valG (wanted_at (t := 76) rfl rfl q3) (v := .int .i64 E1) (by go_simp) rfl
    · obtain ⟨y3, e3, q3, rfl⟩ := hk1.ev_new hd1 3 76 (by kernel_rfl) rfl
      obtain ⟨y4, e4, q4, rfl⟩ := hk1.ev_new hd1 4 77 (by kernel_rfl) rfl
      obtain ⟨y5, e5, q5, rfl⟩ := hk1.ev_new hd1 5 78 (by kernel_rfl) rfl
      exact stepOk_valG (wanted_at (t := 76) rfl rfl q3) (v := .bool true) (by go_simp) rfl
    · obtain ⟨y3, e3, q3, rfl⟩ := hk1.ev_new hd1 3 76 (by kernel_rfl) rfl
      obtain ⟨y6, e6, q6, rfl⟩ := hk1.ev_new hd1 6 79 (by kernel_rfl) rfl
      exact stepOk_value rfl (v := .bool true) (by go_simp) rfl
    · obtain ⟨y7, e7, q7, rfl⟩ := hk1.ev_new hd1 7 80 (by kernel_rfl) rfl
      exact stepOk_value rfl (v := .bool true) (by go_simp) rfl
    · obtain ⟨y8, e8, q8, rfl⟩ := hk1.ev_new hd1 8 81 (by kernel_rfl) rfl
      have f16_ : a1.eval (.tmp 16) = .pointer (some ⟨g16, 0, none⟩) := hk1.ev_old 16 (by kernel_rfl)
      have g16_ : a1.tmps[16]?.getD undef = .pointer (some ⟨g16, 0, none⟩) := by simpa [Act.eval] using f16_
      exact stepOk_valG (wanted_at (t := 81) rfl rfl q8) (run_load_agg (.tmp 16) 82 rfl (hk1.ev_old 16 (by kernel_rfl)) [.int .i64 Lp, .slice Bc H cc] 2 rfl (by kernel_rfl) ((f16_9.below hb0).below hk1.below).sees) rfl
    · obtain ⟨y8, e8, q8, rfl⟩ := hk1.ev_new hd1 8 81 (by kernel_rfl) rfl
      have f18_ : a1.eval (.tmp 18) = .pointer (some ⟨g18, 0, none⟩) := hk1.ev_old 18 (by kernel_rfl)
      have g18_ : a1.tmps[18]?.getD undef = .pointer (some ⟨g18, 0, none⟩) := by simpa [Act.eval] using f18_
      exact stepOk_valG (wanted_at (t := 81) rfl rfl q8) (run_load_agg (.tmp 18) 82 rfl (hk1.ev_old 18 (by kernel_rfl)) [.int .i64 Lp, .slice Bd H cd] 2 rfl (by kernel_rfl) ((f18_9.below hb0).below hk1.below).sees) rfl
    · obtain ⟨y8, e8, q8, rfl⟩ := hk1.ev_new hd1 8 81 (by kernel_rfl) rfl
      obtain ⟨y9, e9, q9, rfl⟩ := hk1.ev_new hd1 9 82 (by kernel_rfl) rfl
      obtain ⟨y10, e10, q10, rfl⟩ := hk1.ev_new hd1 10 83 (by kernel_rfl) rfl
      refine stepOk_enter (wanted_at (t := 81) rfl rfl q8) (f := 43) (args := #[.agg #[.int .i64 Lp, .slice Bc H cc], .agg #[.int .i64 Lp, .slice Bd H cd]]) (by go_simp) ?_
      have ho := SamePath_same Lp H Bc Bd cc cd P (((hOc_9.below hb0).below hk1.below).digs) (((hOd_9.below hb0).below hk1.below).digs) (by omega)
      refine ho.mono ?_
      rintro e w5 ⟨rfl, hB5⟩
      exact ⟨_, rfl, rfl, hB5⟩
    · obtain ⟨y8, e8, q8, rfl⟩ := hk1.ev_new hd1 8 81 (by kernel_rfl) rfl
      obtain ⟨y11, e11, q11, rfl⟩ := hk1.ev_new hd1 11 84 (by kernel_rfl) rfl
      exact stepOk_value rfl (v := .bool true) (by go_simp) rfl
    · obtain ⟨y12, e12, q12, rfl⟩ := hk1.ev_new hd1 12 85 (by kernel_rfl) rfl
      exact stepOk_value rfl (v := .bool true) (by go_simp) rfl
    · obtain ⟨y13, e13, q13, rfl⟩ := hk1.ev_new hd1 13 86 (by kernel_rfl) rfl
      have f17_ : a1.eval (.tmp 17) = .int .i64 E2 := hk1.ev_old 17 (by kernel_rfl)
      have g17_ : a1.tmps[17]?.getD undef = .int .i64 E2 := by simpa [Act.eval] using f17_
      exact stepOk_valG (wanted_at (t := 86) rfl rfl q13) (v := .int .i64 E2) (by go_simp) rfl
    · obtain ⟨y13, e13, q13, rfl⟩ := hk1.ev_new hd1 13 86 (by kernel_rfl) rfl
      have f19_ : a1.eval (.tmp 19) = .int .i64 E2 := hk1.ev_old 19 (by kernel_rfl)
      have g19_ : a1.tmps[19]?.getD undef = .int .i64 E2 := by simpa [Act.eval] using f19_
      exact stepOk_valG (wanted_at (t := 86) rfl rfl q13) (v := .int .i64 E2) (by go_simp) rfl
    · obtain ⟨y13, e13, q13, rfl⟩ := hk1.ev_new hd1 13 86 (by kernel_rfl) rfl
      obtain ⟨y14, e14, q14, rfl⟩ := hk1.ev_new hd1 14 87 (by kernel_rfl) rfl
      obtain ⟨y15, e15, q15, rfl⟩ := hk1.ev_new hd1 15 88 (by kernel_rfl) rfl
      exact stepOk_valG (wanted_at (t := 86) rfl rfl q13) (v := .bool true) (by go_simp) rfl
    · obtain ⟨y13, e13, q13, rfl⟩ := hk1.ev_new hd1 13 86 (by kernel_rfl) rfl
      obtain ⟨y16, e16, q16, rfl⟩ := hk1.ev_new hd1 16 89 (by kernel_rfl) rfl
      exact stepOk_value rfl (v := .bool true) (by go_simp) rfl
    · obtain ⟨y17, e17, q17, rfl⟩ := hk1.ev_new hd1 17 90 (by kernel_rfl) rfl
      exact stepOk_value rfl (v := .bool true) (by go_simp) rfl
    · obtain ⟨y18, e18, q18, rfl⟩ := hk1.ev_new hd1 18 91 (by kernel_rfl) rfl
      have f20_ : a1.eval (.tmp 20) = .pointer (some ⟨g20, 0, none⟩) := hk1.ev_old 20 (by kernel_rfl)
      have g20_ : a1.tmps[20]?.getD undef = .pointer (some ⟨g20, 0, none⟩) := by simpa [Act.eval] using f20_
      exact stepOk_valG (wanted_at (t := 91) rfl rfl q18) (run_load_agg (.tmp 20) 84 rfl (hk1.ev_old 20 (by kernel_rfl)) (cb Z) 32 (by rw [List.length_map]; exact LZ.out) (by kernel_rfl) ((f20_9.below hb0).below hk1.below).sees) rfl
    · obtain ⟨y18, e18, q18, rfl⟩ := hk1.ev_new hd1 18 91 (by kernel_rfl) rfl
      have f22_ : a1.eval (.tmp 22) = .pointer (some ⟨g22, 0, none⟩) := hk1.ev_old 22 (by kernel_rfl)
      have g22_ : a1.tmps[22]?.getD undef = .pointer (some ⟨g22, 0, none⟩) := by simpa [Act.eval] using f22_
      exact stepOk_valG (wanted_at (t := 91) rfl rfl q18) (run_load_agg (.tmp 22) 84 rfl (hk1.ev_old 22 (by kernel_rfl)) (cb Z) 32 (by rw [List.length_map]; exact LZ.out) (by kernel_rfl) ((f22_9.below hb0).below hk1.below).sees) rfl
    · obtain ⟨y18, e18, q18, rfl⟩ := hk1.ev_new hd1 18 91 (by kernel_rfl) rfl
      obtain ⟨y19, e19, q19, rfl⟩ := hk1.ev_new hd1 19 92 (by kernel_rfl) rfl
      obtain ⟨y20, e20, q20, rfl⟩ := hk1.ev_new hd1 20 93 (by kernel_rfl) rfl
      exact stepOk_valG (wanted_at (t := 91) rfl rfl q18) (run_eq32b (.tmp 92) (.tmp 93) 84 rfl Z Z e19 e20 LZ.out LZ.out) (by show Value.bool (Z == Z) = _; simp)
    · obtain ⟨y18, e18, q18, rfl⟩ := hk1.ev_new hd1 18 91 (by kernel_rfl) rfl
      obtain ⟨y21, e21, q21, rfl⟩ := hk1.ev_new hd1 21 94 (by kernel_rfl) rfl
      exact stepOk_value rfl (v := .bool true) (by go_simp) rfl
    · obtain ⟨y22, e22, q22, rfl⟩ := hk1.ev_new hd1 22 95 (by kernel_rfl) rfl
      exact stepOk_value rfl (v := .bool true) (by go_simp) rfl
    · obtain ⟨y23, e23, q23, rfl⟩ := hk1.ev_new hd1 23 96 (by kernel_rfl) rfl
      have f21_ : a1.eval (.tmp 21) = .int .i64 E3 := hk1.ev_old 21 (by kernel_rfl)
      have g21_ : a1.tmps[21]?.getD undef = .int .i64 E3 := by simpa [Act.eval] using f21_
      exact stepOk_valG (wanted_at (t := 96) rfl rfl q23) (v := .int .i64 E3) (by go_simp) rfl
    · obtain ⟨y23, e23, q23, rfl⟩ := hk1.ev_new hd1 23 96 (by kernel_rfl) rfl
      have f23_ : a1.eval (.tmp 23) = .int .i64 E3 := hk1.ev_old 23 (by kernel_rfl)
      have g23_ : a1.tmps[23]?.getD undef = .int .i64 E3 := by simpa [Act.eval] using f23_
      exact stepOk_valG (wanted_at (t := 96) rfl rfl q23) (v := .int .i64 E3) (by go_simp) rfl
    · obtain ⟨y23, e23, q23, rfl⟩ := hk1.ev_new hd1 23 96 (by kernel_rfl) rfl
      obtain ⟨y24, e24, q24, rfl⟩ := hk1.ev_new hd1 24 97 (by kernel_rfl) rfl
      obtain ⟨y25, e25, q25, rfl⟩ := hk1.ev_new hd1 25 98 (by kernel_rfl) rfl
      exact stepOk_valG (wanted_at (t := 96) rfl rfl q23) (v := .bool true) (by go_simp) rfl
    · obtain ⟨y23, e23, q23, rfl⟩ := hk1.ev_new hd1 23 96 (by kernel_rfl) rfl
      obtain ⟨y26, e26, q26, rfl⟩ := hk1.ev_new hd1 26 99 (by kernel_rfl) rfl
      exact stepOk_value rfl (v := .bool true) (by go_simp) rfl
    · obtain ⟨y27, e27, q27, rfl⟩ := hk1.ev_new hd1 27 100 (by kernel_rfl) rfl
      exact stepOk_value rfl (v := .bool true) (by go_simp) rfl
    · obtain ⟨y28, e28, q28, rfl⟩ := hk1.ev_new hd1 28 101 (by kernel_rfl) rfl
      have f8_ : a1.eval (.tmp 8) = .pointer (some ⟨gp, 0, none⟩) := hk1.ev_old 8 (by kernel_rfl)
      have g8_ : a1.tmps[8]?.getD undef = .pointer (some ⟨gp, 0, none⟩) := by simpa [Act.eval] using f8_
      exact stepOk_valG (wanted_at (t := 101) rfl rfl q28) (run_load_agg (.tmp 8) 82 rfl (hk1.ev_old 8 (by kernel_rfl)) [.int .i64 pl, .slice B m d] 2 rfl (by kernel_rfl) ((fp_9.below hb0).below hk1.below).sees) rfl
    · obtain ⟨y28, e28, q28, rfl⟩ := hk1.ev_new hd1 28 101 (by kernel_rfl) rfl
      obtain ⟨y29, e29, q29, rfl⟩ := hk1.ev_new hd1 29 102 (by kernel_rfl) rfl
      refine stepOk_enter (wanted_at (t := 101) rfl rfl q28) (f := 44) (args := #[.agg #[.int .i64 pl, .slice B m d]]) (by go_simp) ?_
      have ho := QRt.out w'
      refine ho.mono ?_
      rintro e w5 ⟨rfl, hB5⟩
      exact ⟨_, rfl, rfl, hB5⟩
    · obtain ⟨y28, e28, q28, rfl⟩ := hk1.ev_new hd1 28 101 (by kernel_rfl) rfl
      have f8_ : a1.eval (.tmp 8) = .pointer (some ⟨gp, 0, none⟩) := hk1.ev_old 8 (by kernel_rfl)
      have g8_ : a1.tmps[8]?.getD undef = .pointer (some ⟨gp, 0, none⟩) := by simpa [Act.eval] using f8_
      exact stepOk_valG (wanted_at (t := 101) rfl rfl q28) (run_load_agg (.tmp 8) 82 rfl (hk1.ev_old 8 (by kernel_rfl)) [.int .i64 pl, .slice B m d] 2 rfl (by kernel_rfl) ((fp_9.below hb0).below hk1.below).sees) rfl
    · obtain ⟨y28, e28, q28, rfl⟩ := hk1.ev_new hd1 28 101 (by kernel_rfl) rfl
      obtain ⟨y31, e31, q31, rfl⟩ := hk1.ev_new hd1 31 104 (by kernel_rfl) rfl
      refine stepOk_enter (wanted_at (t := 101) rfl rfl q28) (f := 45) (args := #[.agg #[.int .i64 pl, .slice B m d]]) (by go_simp) ?_
      have ho := QRr.out w'
      refine ho.mono ?_
      rintro e w5 ⟨rfl, hB5⟩
      exact ⟨_, rfl, rfl, hB5⟩
    · obtain ⟨y28, e28, q28, rfl⟩ := hk1.ev_new hd1 28 101 (by kernel_rfl) rfl
      obtain ⟨y30, e30, q30, rfl⟩ := hk1.ev_new hd1 30 103 (by kernel_rfl) rfl
      obtain ⟨y32, e32, q32, rfl⟩ := hk1.ev_new hd1 32 105 (by kernel_rfl) rfl
      exact stepOk_valG (wanted_at (t := 101) rfl rfl q28) (v := .bool true) (by go_simp) rfl
    · obtain ⟨y28, e28, q28, rfl⟩ := hk1.ev_new hd1 28 101 (by kernel_rfl) rfl
      obtain ⟨y33, e33, q33, rfl⟩ := hk1.ev_new hd1 33 106 (by kernel_rfl) rfl
      exact stepOk_value rfl (v := .bool true) (by go_simp) rfl
    · obtain ⟨y34, e34, q34, rfl⟩ := hk1.ev_new hd1 34 107 (by kernel_rfl) rfl
      exact stepOk_value rfl (v := .bool true) (by go_simp) rfl
    · obtain ⟨y35, e35, q35, rfl⟩ := hk1.ev_new hd1 35 108 (by kernel_rfl) rfl
      have f9_ : a1.eval (.tmp 9) = .pointer (some ⟨gx, 0, none⟩) := hk1.ev_old 9 (by kernel_rfl)
      have g9_ : a1.tmps[9]?.getD undef = .pointer (some ⟨gx, 0, none⟩) := by simpa [Act.eval] using f9_
      exact stepOk_valG (wanted_at (t := 108) rfl rfl q35) (run_load_agg (.tmp 9) 84 rfl (hk1.ev_old 9 (by kernel_rfl)) (cb X0) 32 (by rw [List.length_map]; exact LX0.out) (by kernel_rfl) ((fx_9.below hb0).below hk1.below).sees) rfl
    · obtain ⟨y35, e35, q35, rfl⟩ := hk1.ev_new hd1 35 108 (by kernel_rfl) rfl
      have f14_ : a1.eval (.tmp 14) = .pointer (some ⟨g14, 0, none⟩) := hk1.ev_old 14 (by kernel_rfl)
      have g14_ : a1.tmps[14]?.getD undef = .pointer (some ⟨g14, 0, none⟩) := by simpa [Act.eval] using f14_
      exact stepOk_valG (wanted_at (t := 108) rfl rfl q35) (run_load_agg (.tmp 14) 84 rfl (hk1.ev_old 14 (by kernel_rfl)) (cb R) 32 (by rw [List.length_map]; exact LR.out) (by kernel_rfl) ((f14_9.below hb0).below hk1.below).sees) rfl
    · obtain ⟨y35, e35, q35, rfl⟩ := hk1.ev_new hd1 35 108 (by kernel_rfl) rfl
      have f5_ : a1.eval (.tmp 5) = .pointer (some ⟨gt, 0, none⟩) := hk1.ev_old 5 (by kernel_rfl)
      have g5_ : a1.tmps[5]?.getD undef = .pointer (some ⟨gt, 0, none⟩) := by simpa [Act.eval] using f5_
      obtain ⟨y36, e36, q36, rfl⟩ := hk1.ev_new hd1 36 109 (by kernel_rfl) rfl
      obtain ⟨y37, e37, q37, rfl⟩ := hk1.ev_new hd1 37 110 (by kernel_rfl) rfl
      refine stepOk_enter (wanted_at (t := 108) rfl rfl q35) (f := 46) (args := #[.pointer (some ⟨gt, 0, none⟩), .agg (cb X0).toArray, .agg (cb R).toArray]) (by go_simp) ?_
      have ho := QN.out _ _ (OfAt.of_tab (first := first) (keys := keys) ⟨H8.out, H64.out, by rw [HTB.out]; exact ((ft_9.below hb0).below hk1.below).sees⟩)
      refine ho.mono ?_
      rintro e w5 ⟨rfl, hB5⟩
      exact ⟨_, rfl, rfl, hB5⟩
    · obtain ⟨y35, e35, q35, rfl⟩ := hk1.ev_new hd1 35 108 (by kernel_rfl) rfl
      have f5_ : a1.eval (.tmp 5) = .pointer (some ⟨gt, 0, none⟩) := hk1.ev_old 5 (by kernel_rfl)
      have g5_ : a1.tmps[5]?.getD undef = .pointer (some ⟨gt, 0, none⟩) := by simpa [Act.eval] using f5_
      exact stepOk_valG (wanted_at (t := 108) rfl rfl q35) (run_load_agg (.tmp 5) 79 rfl (hk1.ev_old 5 (by kernel_rfl)) TB 72 HC.out (by kernel_rfl) ((ft_9.below hb0).below hk1.below).sees) rfl
    · obtain ⟨y35, e35, q35, rfl⟩ := hk1.ev_new hd1 35 108 (by kernel_rfl) rfl
      have f9_ : a1.eval (.tmp 9) = .pointer (some ⟨gx, 0, none⟩) := hk1.ev_old 9 (by kernel_rfl)
      have g9_ : a1.tmps[9]?.getD undef = .pointer (some ⟨gx, 0, none⟩) := by simpa [Act.eval] using f9_
      exact stepOk_valG (wanted_at (t := 108) rfl rfl q35) (run_load_agg (.tmp 9) 84 rfl (hk1.ev_old 9 (by kernel_rfl)) (cb X0) 32 (by rw [List.length_map]; exact LX0.out) (by kernel_rfl) ((fx_9.below hb0).below hk1.below).sees) rfl
    · obtain ⟨y35, e35, q35, rfl⟩ := hk1.ev_new hd1 35 108 (by kernel_rfl) rfl
      have f14_ : a1.eval (.tmp 14) = .pointer (some ⟨g14, 0, none⟩) := hk1.ev_old 14 (by kernel_rfl)
      have g14_ : a1.tmps[14]?.getD undef = .pointer (some ⟨g14, 0, none⟩) := by simpa [Act.eval] using f14_
      exact stepOk_valG (wanted_at (t := 108) rfl rfl q35) (run_load_agg (.tmp 14) 84 rfl (hk1.ev_old 14 (by kernel_rfl)) (cb R) 32 (by rw [List.length_map]; exact LR.out) (by kernel_rfl) ((f14_9.below hb0).below hk1.below).sees) rfl
    · obtain ⟨y35, e35, q35, rfl⟩ := hk1.ev_new hd1 35 108 (by kernel_rfl) rfl
      obtain ⟨y39, e39, q39, rfl⟩ := hk1.ev_new hd1 39 112 (by kernel_rfl) rfl
      obtain ⟨y40, e40, q40, rfl⟩ := hk1.ev_new hd1 40 113 (by kernel_rfl) rfl
      obtain ⟨y41, e41, q41, rfl⟩ := hk1.ev_new hd1 41 114 (by kernel_rfl) rfl
      refine stepOk_enter (wanted_at (t := 108) rfl rfl q35) (f := 47) (args := #[.agg TB.toArray, .agg (cb X0).toArray, .agg (cb R).toArray]) (by go_simp) ?_
      have ho := QNr.out w'
      refine ho.mono ?_
      rintro e w5 ⟨rfl, hB5⟩
      exact ⟨_, rfl, rfl, hB5⟩
    · obtain ⟨y35, e35, q35, rfl⟩ := hk1.ev_new hd1 35 108 (by kernel_rfl) rfl
      obtain ⟨y38, e38, q38, rfl⟩ := hk1.ev_new hd1 38 111 (by kernel_rfl) rfl
      obtain ⟨y42, e42, q42, rfl⟩ := hk1.ev_new hd1 42 115 (by kernel_rfl) rfl
      exact stepOk_valG (wanted_at (t := 108) rfl rfl q35) (run_eq32b (.tmp 111) (.tmp 115) 84 rfl N N e38 e42 LN.out LN.out) (by show Value.bool (N == N) = _; simp)
    · obtain ⟨y35, e35, q35, rfl⟩ := hk1.ev_new hd1 35 108 (by kernel_rfl) rfl
      obtain ⟨y43, e43, q43, rfl⟩ := hk1.ev_new hd1 43 116 (by kernel_rfl) rfl
      exact stepOk_value rfl (v := .bool true) (by go_simp) rfl
    · obtain ⟨y44, e44, q44, rfl⟩ := hk1.ev_new hd1 44 117 (by kernel_rfl) rfl
      exact stepOk_value rfl (v := .bool true) (by go_simp) rfl
    · obtain ⟨y45, e45, q45, rfl⟩ := hk1.ev_new hd1 45 118 (by kernel_rfl) rfl
      have f11_ : a1.eval (.tmp 11) = .slice A1 n c1 := hk1.ev_old 11 (by kernel_rfl)
      have g11_ : a1.tmps[11]?.getD undef = .slice A1 n c1 := by simpa [Act.eval] using f11_
      exact stepOk_valG (wanted_at (t := 118) rfl rfl q45) (v := .slice A1 n c1) (by go_simp) rfl
    · obtain ⟨y45, e45, q45, rfl⟩ := hk1.ev_new hd1 45 118 (by kernel_rfl) rfl
      have f1_ : a1.eval (.tmp 1) = .slice A n c := hk1.ev_old 1 (by kernel_rfl)
      have g1_ : a1.tmps[1]?.getD undef = .slice A n c := by simpa [Act.eval] using f1_
      exact stepOk_valG (wanted_at (t := 118) rfl rfl q45) (v := .slice A n c) (by go_simp) rfl
    · obtain ⟨y45, e45, q45, rfl⟩ := hk1.ev_new hd1 45 118 (by kernel_rfl) rfl
      obtain ⟨y46, e46, q46, rfl⟩ := hk1.ev_new hd1 46 119 (by kernel_rfl) rfl
      obtain ⟨y47, e47, q47, rfl⟩ := hk1.ev_new hd1 47 120 (by kernel_rfl) rfl
      refine stepOk_enter (wanted_at (t := 118) rfl rfl q45) (f := 48) (args := #[.slice A1 n c1, .slice A n c]) (by go_simp) ?_
      have ho := SameDigests_same A1 A n c1 c ds (((hOi_9.below hb0).below hk1.below).digs) (((hA.step hB_9).step hb0).step hk1.below) (by omega)
      refine ho.mono ?_
      rintro e w5 ⟨rfl, hB5⟩
      exact ⟨_, rfl, rfl, hB5⟩
    · obtain ⟨y45, e45, q45, rfl⟩ := hk1.ev_new hd1 45 118 (by kernel_rfl) rfl
      obtain ⟨y48, e48, q48, rfl⟩ := hk1.ev_new hd1 48 121 (by kernel_rfl) rfl
      exact stepOk_value rfl (v := .bool true) (by go_simp) rfl
    · obtain ⟨y49, e49, q49, rfl⟩ := hk1.ev_new hd1 49 122 (by kernel_rfl) rfl
      exact stepOk_value rfl (v := .bool true) (by go_simp) rfl
    · obtain ⟨y50, e50, q50, rfl⟩ := hk1.ev_new hd1 50 123 (by kernel_rfl) rfl
      refine stepOk_enter (wanted_at (t := 123) rfl rfl q50) (f := 35) (args := #[]) (by go_simp) ?_
      have ho := awake10_any (w := w')
      refine ho.mono ?_
      rintro e w5 ⟨rfl, hB5⟩
      exact ⟨_, rfl, rfl, hB5⟩
    · obtain ⟨y50, e50, q50, rfl⟩ := hk1.ev_new hd1 50 123 (by kernel_rfl) rfl
      obtain ⟨y51, e51, q51, rfl⟩ := hk1.ev_new hd1 51 124 (by kernel_rfl) rfl
      exact stepOk_value rfl (v := .bool true) (by go_simp) rfl
  · intro a1 w7 hb7 hp
    obtain ⟨x0, p0, x1, p1, x2, p2, x3, p3, x4, p4, x5, p5, x6, p6, x7, p7, x8, p8, x9, p9, x10, p10, x11, p11, x12, p12, x13, p13, x14, p14, x15, p15, x16, p16, x17, p17, x18, p18, x19, p19, x20, p20, x21, p21, x22, p22, x23, p23, x24, p24, x25, p25, x26, p26, x27, p27, x28, p28, x29, p29, x30, p30, x31, p31, x32, p32, x33, p33, x34, p34, x35, p35, x36, p36, x37, p37, x38, p38, x39, p39, x40, p40, x41, p41, x42, p42, x43, p43, x44, p44, x45, p45, x46, p46, x47, p47, x48, p48, x49, p49, x50, p50, x51, p51, x52, p52, rfl⟩ := hp
    simp only [mtF] at p0 p1 p2 p3 p4 p5 p6 p7 p8 p9 p10 p11 p12 p13 p14 p15 p16 p17 p18 p19 p20 p21 p22 p23 p24 p25 p26 p27 p28 p29 p30 p31 p32 p33 p34 p35 p36 p37 p38 p39 p40 p41 p42 p43 p44 p45 p46 p47 p48 p49 p50 p51 p52
    subst p0 p1 p2 p3 p4 p5 p6 p7 p8 p9 p10 p11 p12 p13 p14 p15 p16 p17 p18 p19 p20 p21 p22 p23 p24 p25 p26 p27 p28 p29 p30 p31 p32 p33 p34 p35 p36 p37 p38 p39 p40 p41 p42 p43 p44 p45 p46 p47 p48 p49 p50 p51 p52
    simp only [List.drop_succ_cons, List.drop_zero, Act.put, List.setIfInBounds_toArray, List.set_cons_succ, List.set_cons_zero]
    have hB_10 := Below.then_ hB_9 hb7
    go_wp2_with fail
    go_ret
    exact ⟨rfl, hB_10⟩
theorem tells10_law (W : World) (first keys : List UInt32) (h8 : first.length = 8) (h64 : keys.length = 64) (A : Option Addr) (n c : Nat) (ds : List (List UInt8)) (hA : Digs W A n ds) (hn : n ≤ c) (hc : c ≤ 9223372036854775807) (hnil : A = none → c = 0) (leaf : Int) (wl : (Lit.int .i64 leaf).wf = true) (pl : Int) (wp : (Lit.int .i64 pl).wf = true) (B : Option Addr) (m d : Nat) (es : List (List UInt8)) (hB : Digs W B m es) (hm : m ≤ d) (hd : d ≤ 9223372036854775807) (hnilB : B = none → d = 0) (X0 : List UInt8) (hx : X0.length = 32) :
    Calls Try.prog 5 #[.agg (cw (first ++ keys)).toArray, .slice A n c, .int .i64 leaf, .agg #[.int .i64 pl, .slice B m d], .agg (cb X0).toArray] W fun e w' => e = .returned (.bool true) ∧ Below W.heap.size W w' := by
  by_cases hl : 40 < n ∨ 20 < m
  · exact tells10_long _ (by simp [h8, h64]) A n c leaf pl B m d X0 hx hl
  · exact tells10_walk first keys h8 h64 A n c ds hA hn hnil leaf pl B m d es hB X0 hx (by omega) (by omega)
end
end Go.Proofs.Ytcfjbllmaejiaaa
