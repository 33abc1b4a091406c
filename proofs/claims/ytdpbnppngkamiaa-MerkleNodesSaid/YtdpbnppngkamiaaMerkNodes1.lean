/-
  MerkleNodes returns true, and writes nothing that was there: the walk, case 1.
-/
import Derived.Test.YtdpbnppngkamiaaMerkNodes0
namespace Go.Proofs.Ytdpbnppngkamiaa
open Go.RowKit
set_option linter.unusedVariables false

def mn1 (gt ga gb gc gd N c3 c7 : Nat) (A3 A7 : Option Addr) (a b c d R : List UInt8) (j : Nat) (x : Value) (w : World) : Prop :=
  match j with
  | 0 => x = .agg (cb a).toArray
  | 1 => x = .agg (cb b).toArray
  | 2 => x = .agg (cb R).toArray
  | 3 => x = .slice (some ⟨ga, 0, none⟩) 32 32
  | 4 => x = .slice (some ⟨gb, 0, none⟩) 32 32
  | 5 => ∃ g, x = .slice (some ⟨g, 0, none⟩) 2 2 ∧ Parts w (some ⟨g, 0, none⟩) 2 [⟨some ⟨ga, 0, none⟩, 32, 32, a⟩, ⟨some ⟨gb, 0, none⟩, 32, 32, b⟩]
  | 6 => x = .agg (cb R).toArray
  | 7 => x = .bool true
  | 8 => x = .bool true
  | 9 => x = .slice A3 N c3
  | 10 => x = .slice A7 N c7
  | 11 => x = .bool false
  | 12 => x = .agg (cb a).toArray
  | 13 => x = .agg (cb a).toArray
  | 14 => x = .bool true
  | 15 => x = .bool true
  | 16 => x = .agg (cb b).toArray
  | 17 => x = .agg (cb d).toArray
  | 18 => x = .bool false
  | 19 => x = .bool false
  | 20 => x = .bool true
  | 21 => x = .bool true
  | 22 => x = .bool true
  | 23 => x = .agg (cb a).toArray
  | 24 => x = .agg (cb a).toArray
  | 25 => x = .bool false
  | 26 => x = .bool false
  | 27 => x = .agg (cb b).toArray
  | 28 => x = .agg (cb d).toArray
  | 29 => x = .bool true
  | 30 => x = .bool true
  | 31 => x = .bool true
  | 32 => x = undef
  | 33 => x = undef
  | 34 => x = undef
  | 35 => x = undef
  | 36 => x = undef
  | 37 => x = undef
  | 38 => x = undef
  | 39 => x = .bool true
  | 40 => x = .bool true
  | 41 => x = .bool true
  | 42 => x = .bool true
  | 43 => x = .bool true
  | _ => True
theorem mn1_stab (gt ga gb gc gd N c3 c7 : Nat) (A3 A7 : Option Addr) (a b c d R : List UInt8) : ∀ j x w w', Below w.heap.size w w' → mn1 gt ga gb gc gd N c3 c7 A3 A7 a b c d R j x w → mn1 gt ga gb gc gd N c3 c7 A3 A7 a b c d R j x w' := by
  intro j x w w' hb h
  unfold mn1 at *
  split at h <;> first | exact h | (obtain ⟨g, e, hP⟩ := h; exact ⟨g, e, hP.step hb⟩) | (obtain ⟨A, c, e, hS⟩ := h; exact ⟨A, c, e, hS.step hb⟩) | trivial
section
variable {w : World}
set_option maxHeartbeats 8000000 in
set_option maxRecDepth 100000 in
theorem nodes_walk1 (first keys : List UInt32) (h8 : first.length = 8) (h64 : keys.length = 64) (a b d : List UInt8) (ha : a.length = 32) (hb : b.length = 32) (hd : d.length = 32) (hne : b ≠ d) :
    Calls Try.prog 9 #[.agg (cw (first ++ keys)).toArray, .agg (cb a).toArray, .agg (cb b).toArray, .agg (cb a).toArray, .agg (cb d).toArray] w fun e w' => e = .returned (.bool true) ∧ Below w.heap.size w w' := by
  have HC : Hid ((cw (first ++ keys)).length = 72) := Lib.hid (by simp [h8, h64])
  have H8 := Lib.hid h8
  have H64 := Lib.hid h64
  have La := Lib.hid ha
  have Lb := Lib.hid hb
  have Ld := Lib.hid hd
  obtain ⟨X, hX⟩ : ∃ X, textF 4 [a, b] = X := ⟨_, rfl⟩
  obtain ⟨Y, hY⟩ : ∃ Y, textF 4 [a, d] = Y := ⟨_, rfl⟩
  obtain ⟨N, hN⟩ : ∃ N, (textF 4 [a, b]).length = N := ⟨_, rfl⟩
  have HNX := Lib.hid hN
  have HNY : Hid ((textF 4 [a, d]).length = N) := Lib.hid ((len_text_two _ _ ha hd).trans ((len_text_two _ _ ha hb).symm.trans hN))
  have HNE : Hid ((b == d) = false) := Lib.hid (by simpa using hne)
  have HXY : Hid ((X == Y) = false) := Lib.hid (by rw [← hX, ← hY]; have := text_two a b a d ha hb ha hd; simp only [beq_eq_false_iff_ne, ne_eq, this]; exact fun h => hne h.2)
  have HLX : Hid (X.length = N) := Lib.hid (by rw [← hX]; exact hN)
  have HLY : Hid (Y.length = N) := Lib.hid (by rw [← hY]; exact HNY.out)
  obtain ⟨R, hR⟩ : ∃ R, nodeF (Dg.tabO first keys h8) a b = R := ⟨_, rfl⟩
  have hNd := fun (w' : World) (T : Option Addr) (h1 : OfAt w' T (Dg.tabO first keys h8)) => Node_any h1 a b ha hb
  rw [hR] at hNd
  have HNR := Lib.hid hNd
  have LR : Hid (R.length = 32) := Lib.hid (by rw [← hR]; exact len_nodeF _ _ _)
  have HR : Hid ((Dg.tabO first keys h8).of (textF 4 [a, b]) = R) := Lib.hid hR
  have HTX := Lib.hid hX
  have HTY := Lib.hid hY
  obtain ⟨TB, hTB⟩ : ∃ TB, cw (first ++ keys) = TB := ⟨_, rfl⟩
  have HTB := Lib.hid hTB
  rw [hTB] at HC ⊢
  clear hTB hX hY hN hR hNd h64 ha hb hd hne
  go_enter Try.func9, Try.ntmps9
  go_upto_region 1 with (first
    | (with_reducible refine wpList_box (o := ⟨some 5, _, _, _, _, _⟩) rfl (.tmp 0) 79 rfl TB rfl 72 HC.out (by decide) ?_; intro gt w1 hgt hFt hBt)
    | (with_reducible refine wpList_box (o := ⟨some 6, _, _, _, _, _⟩) rfl (.tmp 1) 83 rfl (cb a) rfl 32 (by rw [List.length_map]; exact La.out) (by decide) ?_; intro ga w2 hga hFa hBa)
    | (with_reducible refine wpList_box (o := ⟨some 7, _, _, _, _, _⟩) rfl (.tmp 2) 83 rfl (cb b) rfl 32 (by rw [List.length_map]; exact Lb.out) (by decide) ?_; intro gb w3 hgb hFb hBb)
    | (with_reducible refine wpList_box (o := ⟨some 8, _, _, _, _, _⟩) rfl (.tmp 3) 83 rfl (cb a) rfl 32 (by rw [List.length_map]; exact La.out) (by decide) ?_; intro gc w4 hgc hFc hBc)
    | (with_reducible refine wpList_box (o := ⟨some 9, _, _, _, _, _⟩) rfl (.tmp 4) 83 rfl (cb d) rfl 32 (by rw [List.length_map]; exact Ld.out) (by decide) ?_; intro gd w5 hgd hFd hBd; simp only [Act.put, List.setIfInBounds_toArray, List.set_cons_succ, List.set_cons_zero]))
  have ft := (((hFt.below hBa).below hBb).below hBc).below hBd
  have fa := ((hFa.below hBb).below hBc).below hBd
  have fb := (hFb.below hBc).below hBd
  have fc := hFc.below hBd
  have fd := hFd
  have hB_1 := Below.then_ (Below.then_ (Below.then_ (Below.then_ hBt hBa) hBb) hBc) hBd
  clear hFt hFa hFb hFc hFd hBt hBa hBb hBc hBd hgt hga hgb hgc hgd
  refine region_all_tail 8 (mnA ga gb gc gd N a b a d X Y) (by kernel_rfl) (by kernel_rfl) (by kernel_rfl) (mnA_stab _ _ _ _ _ _ _ _ _ _ _) ?_ ?_
  · intro w0 hb0
    simp only [List.take_succ_cons, List.take_zero]
    refine ⟨?_, ?_, ?_, ?_, ?_, ?_, ?_, ?_, trivial⟩
    all_goals intro listed a1 w' hk1 hd1
    · have f6_ : a1.eval (.tmp 6) = .pointer (some ⟨ga, 0, none⟩) := hk1.ev_old 6 (by kernel_rfl)
      have g6_ : a1.tmps[6]?.getD undef = .pointer (some ⟨ga, 0, none⟩) := by simpa [Act.eval] using f6_
      have hsl := sl32_all ga
      exact stepOk_value rfl (v := .slice (some ⟨ga, 0, none⟩) 32 32) (by go_simp) rfl
    · have f7_ : a1.eval (.tmp 7) = .pointer (some ⟨gb, 0, none⟩) := hk1.ev_old 7 (by kernel_rfl)
      have g7_ : a1.tmps[7]?.getD undef = .pointer (some ⟨gb, 0, none⟩) := by simpa [Act.eval] using f7_
      have hsl := sl32_all gb
      exact stepOk_value rfl (v := .slice (some ⟨gb, 0, none⟩) 32 32) (by go_simp) rfl
    · obtain ⟨y0, e0, q0, rfl⟩ := hk1.ev_new hd1 0 13 (by kernel_rfl) rfl
      obtain ⟨y1, e1, q1, rfl⟩ := hk1.ev_new hd1 1 14 (by kernel_rfl) rfl
      refine stepOk_run rfl (v := .slice (some ⟨w'.heap.size, 0, none⟩) 2 2) (w' := w'.alloc (.cells #[.slice (some ⟨ga, 0, none⟩) 32 32, .slice (some ⟨gb, 0, none⟩) 32 32] 62)) (by go_simp) ⟨_, rfl, parts_twoO w' 62 _ ⟨some ⟨ga, 0, none⟩, 32, 32, a⟩ ⟨some ⟨gb, 0, none⟩, 32, 32, b⟩ rfl ⟨((fa.below hb0).below hk1.below).sees, La.out, Nat.le_refl _⟩ ⟨((fb.below hb0).below hk1.below).sees, Lb.out, Nat.le_refl _⟩⟩ (below_alloc _ _)
    · obtain ⟨y2, e2, r2, q2⟩ := hk1.ev_new hd1 2 15 (by kernel_rfl) rfl
      obtain ⟨g3, rfl, hP3⟩ := q2
      refine stepOk_enter rfl (f := 57) (args := #[.int .u8 4, .slice (some ⟨g3, 0, none⟩) 2 2]) (by go_simp) ?_
      have ho := Text_600 4 (some ⟨g3, 0, none⟩) 2 2 N [⟨some ⟨ga, 0, none⟩, 32, 32, a⟩, ⟨some ⟨gb, 0, none⟩, 32, 32, b⟩] [a, b] hP3 rfl (by omega) (by intro p hp; simp at hp; rcases hp with rfl | rfl <;> (show 32 ≤ 300; omega)) HNX.out
      refine ho.mono ?_
      rintro e w5 ⟨A5, c5, rfl, hF5, hB5⟩
      exact ⟨_, rfl, ⟨A5, c5, rfl, by rw [HTX.out] at hF5; exact hF5.sees⟩, hB5⟩
    · have f8_ : a1.eval (.tmp 8) = .pointer (some ⟨gc, 0, none⟩) := hk1.ev_old 8 (by kernel_rfl)
      have g8_ : a1.tmps[8]?.getD undef = .pointer (some ⟨gc, 0, none⟩) := by simpa [Act.eval] using f8_
      have hsl := sl32_all gc
      exact stepOk_value rfl (v := .slice (some ⟨gc, 0, none⟩) 32 32) (by go_simp) rfl
    · have f9_ : a1.eval (.tmp 9) = .pointer (some ⟨gd, 0, none⟩) := hk1.ev_old 9 (by kernel_rfl)
      have g9_ : a1.tmps[9]?.getD undef = .pointer (some ⟨gd, 0, none⟩) := by simpa [Act.eval] using f9_
      have hsl := sl32_all gd
      exact stepOk_value rfl (v := .slice (some ⟨gd, 0, none⟩) 32 32) (by go_simp) rfl
    · obtain ⟨y4, e4, q4, rfl⟩ := hk1.ev_new hd1 4 17 (by kernel_rfl) rfl
      obtain ⟨y5, e5, q5, rfl⟩ := hk1.ev_new hd1 5 18 (by kernel_rfl) rfl
      refine stepOk_run rfl (v := .slice (some ⟨w'.heap.size, 0, none⟩) 2 2) (w' := w'.alloc (.cells #[.slice (some ⟨gc, 0, none⟩) 32 32, .slice (some ⟨gd, 0, none⟩) 32 32] 62)) (by go_simp) ⟨_, rfl, parts_twoO w' 62 _ ⟨some ⟨gc, 0, none⟩, 32, 32, a⟩ ⟨some ⟨gd, 0, none⟩, 32, 32, d⟩ rfl ⟨((fc.below hb0).below hk1.below).sees, La.out, Nat.le_refl _⟩ ⟨((fd.below hb0).below hk1.below).sees, Ld.out, Nat.le_refl _⟩⟩ (below_alloc _ _)
    · obtain ⟨y6, e6, r6, q6⟩ := hk1.ev_new hd1 6 19 (by kernel_rfl) rfl
      obtain ⟨g3, rfl, hP3⟩ := q6
      refine stepOk_enter rfl (f := 57) (args := #[.int .u8 4, .slice (some ⟨g3, 0, none⟩) 2 2]) (by go_simp) ?_
      have ho := Text_600 4 (some ⟨g3, 0, none⟩) 2 2 N [⟨some ⟨gc, 0, none⟩, 32, 32, a⟩, ⟨some ⟨gd, 0, none⟩, 32, 32, d⟩] [a, d] hP3 rfl (by omega) (by intro p hp; simp at hp; rcases hp with rfl | rfl <;> (show 32 ≤ 300; omega)) HNY.out
      refine ho.mono ?_
      rintro e w5 ⟨A5, c5, rfl, hF5, hB5⟩
      exact ⟨_, rfl, ⟨A5, c5, rfl, by rw [HTY.out] at hF5; exact hF5.sees⟩, hB5⟩
  · intro a1 wA hbA hp
    obtain ⟨x0, p0, x1, p1, x2, p2, x3, p3, x4, p4, x5, p5, x6, p6, x7, p7, rfl⟩ := hp
    simp only [mnA] at p0 p1 p2 p3 p4 p5 p6 p7
    obtain ⟨g2_, rfl, -⟩ := p2
    obtain ⟨g6_, rfl, -⟩ := p6
    obtain ⟨A3, c3, rfl, hS3⟩ := p3
    obtain ⟨A7, c7, rfl, hS7⟩ := p7
    subst p0 p1 p4 p5
    simp only [List.drop_succ_cons, List.drop_zero, Act.put, List.setIfInBounds_toArray, List.set_cons_succ, List.set_cons_zero]
    have ft2 := ft.below hbA
    have fa2 := fa.below hbA
    have fb2 := fb.below hbA
    have fc2 := fc.below hbA
    have fd2 := fd.below hbA
    have hB_2 := Below.then_ hB_1 hbA
    clear hbA ft fa fb fc fd hB_1
    go_wp2_with fail
    refine region_all_tail 44 (mn1 gt ga gb gc gd N c3 c7 A3 A7 a b a d R) (by kernel_rfl) (by kernel_rfl) (by kernel_rfl) (mn1_stab _ _ _ _ _ _ _ _ _ _ _ _ _ _ _) ?_ ?_
    · intro w0 hb0
      simp only [List.take_succ_cons, List.take_zero]
      refine ⟨?_, ?_, ?_, ?_, ?_, ?_, ?_, ?_, ?_, ?_, ?_, ?_, ?_, ?_, ?_, ?_, ?_, ?_, ?_, ?_, ?_, ?_, ?_, ?_, ?_, ?_, ?_, ?_, ?_, ?_, ?_, ?_, ?_, ?_, ?_, ?_, ?_, ?_, ?_, ?_, ?_, ?_, ?_, ?_, trivial⟩
      all_goals intro listed a1 w' hk1 hd1
      · have f6_ : a1.eval (.tmp 6) = .pointer (some ⟨ga, 0, none⟩) := hk1.ev_old 6 (by kernel_rfl)
        have g6_ : a1.tmps[6]?.getD undef = .pointer (some ⟨ga, 0, none⟩) := by simpa [Act.eval] using f6_
        exact stepOk_value rfl (run_load_agg (.tmp 6) 83 rfl (hk1.ev_old 6 (by kernel_rfl)) (cb a) 32 (by rw [List.length_map]; exact La.out) (by kernel_rfl) ((fa2.below hb0).below hk1.below).sees) rfl
      · have f7_ : a1.eval (.tmp 7) = .pointer (some ⟨gb, 0, none⟩) := hk1.ev_old 7 (by kernel_rfl)
        have g7_ : a1.tmps[7]?.getD undef = .pointer (some ⟨gb, 0, none⟩) := by simpa [Act.eval] using f7_
        exact stepOk_value rfl (run_load_agg (.tmp 7) 83 rfl (hk1.ev_old 7 (by kernel_rfl)) (cb b) 32 (by rw [List.length_map]; exact Lb.out) (by kernel_rfl) ((fb2.below hb0).below hk1.below).sees) rfl
      · have f5_ : a1.eval (.tmp 5) = .pointer (some ⟨gt, 0, none⟩) := hk1.ev_old 5 (by kernel_rfl)
        have g5_ : a1.tmps[5]?.getD undef = .pointer (some ⟨gt, 0, none⟩) := by simpa [Act.eval] using f5_
        obtain ⟨y0, e0, q0, rfl⟩ := hk1.ev_new hd1 0 21 (by kernel_rfl) rfl
        obtain ⟨y1, e1, q1, rfl⟩ := hk1.ev_new hd1 1 22 (by kernel_rfl) rfl
        refine stepOk_enter rfl (f := 45) (args := #[.pointer (some ⟨gt, 0, none⟩), .agg (cb a).toArray, .agg (cb b).toArray]) (by go_simp) ?_
        have ho := HNR.out _ _ (OfAt.of_tab (first := first) (keys := keys) ⟨H8.out, H64.out, by rw [HTB.out]; exact ((ft2.below hb0).below hk1.below).sees⟩)
        refine ho.mono ?_
        rintro e w5 ⟨rfl, hB5⟩
        exact ⟨_, rfl, rfl, hB5⟩
      · have f6_ : a1.eval (.tmp 6) = .pointer (some ⟨ga, 0, none⟩) := hk1.ev_old 6 (by kernel_rfl)
        have g6_ : a1.tmps[6]?.getD undef = .pointer (some ⟨ga, 0, none⟩) := by simpa [Act.eval] using f6_
        have hsl := sl32_all ga
        exact stepOk_value rfl (v := .slice (some ⟨ga, 0, none⟩) 32 32) (by go_simp) rfl
      · have f7_ : a1.eval (.tmp 7) = .pointer (some ⟨gb, 0, none⟩) := hk1.ev_old 7 (by kernel_rfl)
        have g7_ : a1.tmps[7]?.getD undef = .pointer (some ⟨gb, 0, none⟩) := by simpa [Act.eval] using f7_
        have hsl := sl32_all gb
        exact stepOk_value rfl (v := .slice (some ⟨gb, 0, none⟩) 32 32) (by go_simp) rfl
      · obtain ⟨y3, e3, q3, rfl⟩ := hk1.ev_new hd1 3 24 (by kernel_rfl) rfl
        obtain ⟨y4, e4, q4, rfl⟩ := hk1.ev_new hd1 4 25 (by kernel_rfl) rfl
        refine stepOk_run rfl (v := .slice (some ⟨w'.heap.size, 0, none⟩) 2 2) (w' := w'.alloc (.cells #[.slice (some ⟨ga, 0, none⟩) 32 32, .slice (some ⟨gb, 0, none⟩) 32 32] 62)) (by go_simp) ⟨_, rfl, parts_twoO w' 62 _ ⟨some ⟨ga, 0, none⟩, 32, 32, a⟩ ⟨some ⟨gb, 0, none⟩, 32, 32, b⟩ rfl ⟨((fa2.below hb0).below hk1.below).sees, La.out, Nat.le_refl _⟩ ⟨((fb2.below hb0).below hk1.below).sees, Lb.out, Nat.le_refl _⟩⟩ (below_alloc _ _)
      · have f5_ : a1.eval (.tmp 5) = .pointer (some ⟨gt, 0, none⟩) := hk1.ev_old 5 (by kernel_rfl)
        have g5_ : a1.tmps[5]?.getD undef = .pointer (some ⟨gt, 0, none⟩) := by simpa [Act.eval] using f5_
        obtain ⟨y5, e5, r5, q5⟩ := hk1.ev_new hd1 5 26 (by kernel_rfl) rfl
        obtain ⟨g3, rfl, hP3⟩ := q5
        refine stepOk_enter rfl (f := 58) (args := #[.pointer (some ⟨gt, 0, none⟩), .int .u8 4, .slice (some ⟨g3, 0, none⟩) 2 2]) (by go_simp) ?_
        have ho := TaggedO (OfAt.of_tab (first := first) (keys := keys) ⟨H8.out, H64.out, by rw [HTB.out]; exact ((ft2.below hb0).below hk1.below).sees⟩) 4 (some ⟨g3, 0, none⟩) 2 2 [⟨some ⟨ga, 0, none⟩, 32, 32, a⟩, ⟨some ⟨gb, 0, none⟩, 32, 32, b⟩] [a, b] hP3 rfl (by omega) (by intro p hp; simp at hp; rcases hp with rfl | rfl <;> (show 32 ≤ 300; omega)) R HR.out
        refine ho.mono ?_
        rintro e w5 ⟨rfl, hB5⟩
        exact ⟨_, rfl, rfl, hB5⟩
      · obtain ⟨y2, e2, q2, rfl⟩ := hk1.ev_new hd1 2 23 (by kernel_rfl) rfl
        obtain ⟨y6, e6, q6, rfl⟩ := hk1.ev_new hd1 6 27 (by kernel_rfl) rfl
        exact stepOk_value rfl (run_eq32N (.tmp 23) (.tmp 27) _ rfl R R e2 e6 LR.out LR.out) (by show Value.bool _ = _; simp)
      · obtain ⟨y7, e7, q7, rfl⟩ := hk1.ev_new hd1 7 28 (by kernel_rfl) rfl
        exact stepOk_value rfl (v := .bool true) (by go_simp) rfl
      · obtain ⟨y8, e8, q8, rfl⟩ := hk1.ev_new hd1 8 29 (by kernel_rfl) rfl
        have f11_ : a1.eval (.tmp 11) = .slice A3 N c3 := hk1.ev_old 11 (by kernel_rfl)
        have g11_ : a1.tmps[11]?.getD undef = .slice A3 N c3 := by simpa [Act.eval] using f11_
        exact stepOk_valG (wanted_at (t := 29) rfl rfl q8) (v := .slice A3 N c3) (by go_simp) rfl
      · obtain ⟨y8, e8, q8, rfl⟩ := hk1.ev_new hd1 8 29 (by kernel_rfl) rfl
        have f12_ : a1.eval (.tmp 12) = .slice A7 N c7 := hk1.ev_old 12 (by kernel_rfl)
        have g12_ : a1.tmps[12]?.getD undef = .slice A7 N c7 := by simpa [Act.eval] using f12_
        exact stepOk_valG (wanted_at (t := 29) rfl rfl q8) (v := .slice A7 N c7) (by go_simp) rfl
      · obtain ⟨y8, e8, q8, rfl⟩ := hk1.ev_new hd1 8 29 (by kernel_rfl) rfl
        obtain ⟨y9, e9, q9, rfl⟩ := hk1.ev_new hd1 9 30 (by kernel_rfl) rfl
        obtain ⟨y10, e10, q10, rfl⟩ := hk1.ev_new hd1 10 31 (by kernel_rfl) rfl
        refine stepOk_enter (wanted_at (t := 29) rfl rfl q8) (f := 38) (args := #[.slice A3 N c3, .slice A7 N c7]) (by go_simp) ?_
        have ho := SameBytes_any A3 A7 c3 c7 N N X Y w' ((hS3.step hb0).step hk1.below) ((hS7.step hb0).step hk1.below) HLX.out HLY.out
        rw [HXY.out] at ho
        refine ho.mono ?_
        rintro e w5 ⟨rfl, rfl⟩
        exact ⟨_, rfl, rfl, Below.refl _ _⟩
      · obtain ⟨y8, e8, q8, rfl⟩ := hk1.ev_new hd1 8 29 (by kernel_rfl) rfl
        have f6_ : a1.eval (.tmp 6) = .pointer (some ⟨ga, 0, none⟩) := hk1.ev_old 6 (by kernel_rfl)
        have g6_ : a1.tmps[6]?.getD undef = .pointer (some ⟨ga, 0, none⟩) := by simpa [Act.eval] using f6_
        exact stepOk_valG (wanted_at (t := 29) rfl rfl q8) (run_load_agg (.tmp 6) 83 rfl (hk1.ev_old 6 (by kernel_rfl)) (cb a) 32 (by rw [List.length_map]; exact La.out) (by kernel_rfl) ((fa2.below hb0).below hk1.below).sees) rfl
      · obtain ⟨y8, e8, q8, rfl⟩ := hk1.ev_new hd1 8 29 (by kernel_rfl) rfl
        have f8_ : a1.eval (.tmp 8) = .pointer (some ⟨gc, 0, none⟩) := hk1.ev_old 8 (by kernel_rfl)
        have g8_ : a1.tmps[8]?.getD undef = .pointer (some ⟨gc, 0, none⟩) := by simpa [Act.eval] using f8_
        exact stepOk_valG (wanted_at (t := 29) rfl rfl q8) (run_load_agg (.tmp 8) 83 rfl (hk1.ev_old 8 (by kernel_rfl)) (cb a) 32 (by rw [List.length_map]; exact La.out) (by kernel_rfl) ((fc2.below hb0).below hk1.below).sees) rfl
      · obtain ⟨y8, e8, q8, rfl⟩ := hk1.ev_new hd1 8 29 (by kernel_rfl) rfl
        obtain ⟨y12, e12, q12, rfl⟩ := hk1.ev_new hd1 12 33 (by kernel_rfl) rfl
        obtain ⟨y13, e13, q13, rfl⟩ := hk1.ev_new hd1 13 34 (by kernel_rfl) rfl
        exact stepOk_valG (wanted_at (t := 29) rfl rfl q8) (run_eq32N (.tmp 33) (.tmp 34) _ rfl a a e12 e13 La.out La.out) (by show Value.bool _ = _; simp)
      · obtain ⟨y8, e8, q8, rfl⟩ := hk1.ev_new hd1 8 29 (by kernel_rfl) rfl
        obtain ⟨y14, e14, q14, rfl⟩ := hk1.ev_new hd1 14 35 (by kernel_rfl) rfl
        exact stepOk_valG (wanted_at (t := 29) rfl rfl q8) (v := .bool true) (by go_simp) rfl
      · obtain ⟨y15, e15, q15, rfl⟩ := hk1.ev_new hd1 15 36 (by kernel_rfl) rfl
        have f7_ : a1.eval (.tmp 7) = .pointer (some ⟨gb, 0, none⟩) := hk1.ev_old 7 (by kernel_rfl)
        have g7_ : a1.tmps[7]?.getD undef = .pointer (some ⟨gb, 0, none⟩) := by simpa [Act.eval] using f7_
        exact stepOk_valG (wanted_at (t := 36) rfl rfl q15) (run_load_agg (.tmp 7) 83 rfl (hk1.ev_old 7 (by kernel_rfl)) (cb b) 32 (by rw [List.length_map]; exact Lb.out) (by kernel_rfl) ((fb2.below hb0).below hk1.below).sees) rfl
      · obtain ⟨y15, e15, q15, rfl⟩ := hk1.ev_new hd1 15 36 (by kernel_rfl) rfl
        have f9_ : a1.eval (.tmp 9) = .pointer (some ⟨gd, 0, none⟩) := hk1.ev_old 9 (by kernel_rfl)
        have g9_ : a1.tmps[9]?.getD undef = .pointer (some ⟨gd, 0, none⟩) := by simpa [Act.eval] using f9_
        exact stepOk_valG (wanted_at (t := 36) rfl rfl q15) (run_load_agg (.tmp 9) 83 rfl (hk1.ev_old 9 (by kernel_rfl)) (cb d) 32 (by rw [List.length_map]; exact Ld.out) (by kernel_rfl) ((fd2.below hb0).below hk1.below).sees) rfl
      · obtain ⟨y15, e15, q15, rfl⟩ := hk1.ev_new hd1 15 36 (by kernel_rfl) rfl
        obtain ⟨y16, e16, q16, rfl⟩ := hk1.ev_new hd1 16 37 (by kernel_rfl) rfl
        obtain ⟨y17, e17, q17, rfl⟩ := hk1.ev_new hd1 17 38 (by kernel_rfl) rfl
        exact stepOk_valG (wanted_at (t := 36) rfl rfl q15) (run_eq32N (.tmp 37) (.tmp 38) _ rfl b d e16 e17 Lb.out Ld.out) (by show Value.bool _ = _; rw [HNE.out])
      · obtain ⟨y8, e8, q8, rfl⟩ := hk1.ev_new hd1 8 29 (by kernel_rfl) rfl
        obtain ⟨y15, e15, q15, rfl⟩ := hk1.ev_new hd1 15 36 (by kernel_rfl) rfl
        obtain ⟨y18, e18, q18, rfl⟩ := hk1.ev_new hd1 18 39 (by kernel_rfl) rfl
        exact stepOk_valG (wanted_at (t := 29) rfl rfl q8) (v := .bool false) (by go_simp) rfl
      · obtain ⟨y8, e8, q8, rfl⟩ := hk1.ev_new hd1 8 29 (by kernel_rfl) rfl
        obtain ⟨y11, e11, q11, rfl⟩ := hk1.ev_new hd1 11 32 (by kernel_rfl) rfl
        obtain ⟨y19, e19, q19, rfl⟩ := hk1.ev_new hd1 19 40 (by kernel_rfl) rfl
        exact stepOk_valG (wanted_at (t := 29) rfl rfl q8) (v := .bool true) (by go_simp) rfl
      · obtain ⟨y8, e8, q8, rfl⟩ := hk1.ev_new hd1 8 29 (by kernel_rfl) rfl
        obtain ⟨y20, e20, q20, rfl⟩ := hk1.ev_new hd1 20 41 (by kernel_rfl) rfl
        exact stepOk_value rfl (v := .bool true) (by go_simp) rfl
      · obtain ⟨y21, e21, q21, rfl⟩ := hk1.ev_new hd1 21 42 (by kernel_rfl) rfl
        exact stepOk_value rfl (v := .bool true) (by go_simp) rfl
      · obtain ⟨y22, e22, q22, rfl⟩ := hk1.ev_new hd1 22 43 (by kernel_rfl) rfl
        have f6_ : a1.eval (.tmp 6) = .pointer (some ⟨ga, 0, none⟩) := hk1.ev_old 6 (by kernel_rfl)
        have g6_ : a1.tmps[6]?.getD undef = .pointer (some ⟨ga, 0, none⟩) := by simpa [Act.eval] using f6_
        exact stepOk_valG (wanted_at (t := 43) rfl rfl q22) (run_load_agg (.tmp 6) 83 rfl (hk1.ev_old 6 (by kernel_rfl)) (cb a) 32 (by rw [List.length_map]; exact La.out) (by kernel_rfl) ((fa2.below hb0).below hk1.below).sees) rfl
      · obtain ⟨y22, e22, q22, rfl⟩ := hk1.ev_new hd1 22 43 (by kernel_rfl) rfl
        have f8_ : a1.eval (.tmp 8) = .pointer (some ⟨gc, 0, none⟩) := hk1.ev_old 8 (by kernel_rfl)
        have g8_ : a1.tmps[8]?.getD undef = .pointer (some ⟨gc, 0, none⟩) := by simpa [Act.eval] using f8_
        exact stepOk_valG (wanted_at (t := 43) rfl rfl q22) (run_load_agg (.tmp 8) 83 rfl (hk1.ev_old 8 (by kernel_rfl)) (cb a) 32 (by rw [List.length_map]; exact La.out) (by kernel_rfl) ((fc2.below hb0).below hk1.below).sees) rfl
      · obtain ⟨y22, e22, q22, rfl⟩ := hk1.ev_new hd1 22 43 (by kernel_rfl) rfl
        obtain ⟨y23, e23, q23, rfl⟩ := hk1.ev_new hd1 23 44 (by kernel_rfl) rfl
        obtain ⟨y24, e24, q24, rfl⟩ := hk1.ev_new hd1 24 45 (by kernel_rfl) rfl
        exact stepOk_valG (wanted_at (t := 43) rfl rfl q22) (run_neq32N (.tmp 44) (.tmp 45) _ rfl a a e23 e24 La.out La.out) (by show Value.bool _ = _; simp)
      · obtain ⟨y22, e22, q22, rfl⟩ := hk1.ev_new hd1 22 43 (by kernel_rfl) rfl
        obtain ⟨y25, e25, q25, rfl⟩ := hk1.ev_new hd1 25 46 (by kernel_rfl) rfl
        exact stepOk_valG (wanted_at (t := 43) rfl rfl q22) (v := .bool false) (by go_simp) rfl
      · obtain ⟨y26, e26, q26, rfl⟩ := hk1.ev_new hd1 26 47 (by kernel_rfl) rfl
        have f7_ : a1.eval (.tmp 7) = .pointer (some ⟨gb, 0, none⟩) := hk1.ev_old 7 (by kernel_rfl)
        have g7_ : a1.tmps[7]?.getD undef = .pointer (some ⟨gb, 0, none⟩) := by simpa [Act.eval] using f7_
        exact stepOk_valG (wanted_at (t := 47) rfl rfl q26) (run_load_agg (.tmp 7) 83 rfl (hk1.ev_old 7 (by kernel_rfl)) (cb b) 32 (by rw [List.length_map]; exact Lb.out) (by kernel_rfl) ((fb2.below hb0).below hk1.below).sees) rfl
      · obtain ⟨y26, e26, q26, rfl⟩ := hk1.ev_new hd1 26 47 (by kernel_rfl) rfl
        have f9_ : a1.eval (.tmp 9) = .pointer (some ⟨gd, 0, none⟩) := hk1.ev_old 9 (by kernel_rfl)
        have g9_ : a1.tmps[9]?.getD undef = .pointer (some ⟨gd, 0, none⟩) := by simpa [Act.eval] using f9_
        exact stepOk_valG (wanted_at (t := 47) rfl rfl q26) (run_load_agg (.tmp 9) 83 rfl (hk1.ev_old 9 (by kernel_rfl)) (cb d) 32 (by rw [List.length_map]; exact Ld.out) (by kernel_rfl) ((fd2.below hb0).below hk1.below).sees) rfl
      · obtain ⟨y26, e26, q26, rfl⟩ := hk1.ev_new hd1 26 47 (by kernel_rfl) rfl
        obtain ⟨y27, e27, q27, rfl⟩ := hk1.ev_new hd1 27 48 (by kernel_rfl) rfl
        obtain ⟨y28, e28, q28, rfl⟩ := hk1.ev_new hd1 28 49 (by kernel_rfl) rfl
        exact stepOk_valG (wanted_at (t := 47) rfl rfl q26) (run_neq32N (.tmp 48) (.tmp 49) _ rfl b d e27 e28 Lb.out Ld.out) (by show Value.bool _ = _; rw [HNE.out]; rfl)
      · obtain ⟨y22, e22, q22, rfl⟩ := hk1.ev_new hd1 22 43 (by kernel_rfl) rfl
        obtain ⟨y26, e26, q26, rfl⟩ := hk1.ev_new hd1 26 47 (by kernel_rfl) rfl
        obtain ⟨y29, e29, q29, rfl⟩ := hk1.ev_new hd1 29 50 (by kernel_rfl) rfl
        exact stepOk_valG (wanted_at (t := 43) rfl rfl q22) (v := .bool true) (by go_simp) rfl
      · obtain ⟨y22, e22, q22, rfl⟩ := hk1.ev_new hd1 22 43 (by kernel_rfl) rfl
        obtain ⟨y30, e30, q30, rfl⟩ := hk1.ev_new hd1 30 51 (by kernel_rfl) rfl
        exact stepOk_valG (wanted_at (t := 43) rfl rfl q22) (v := .bool true) (by go_simp) rfl
      · obtain ⟨y31, e31, q31, rfl⟩ := hk1.ev_new hd1 31 52 (by kernel_rfl) rfl
        have f6_ : a1.eval (.tmp 6) = .pointer (some ⟨ga, 0, none⟩) := hk1.ev_old 6 (by kernel_rfl)
        have g6_ : a1.tmps[6]?.getD undef = .pointer (some ⟨ga, 0, none⟩) := by simpa [Act.eval] using f6_
        exact stepOk_offN (wanted_offN rfl rfl q31 rfl) rfl
      · obtain ⟨y31, e31, q31, rfl⟩ := hk1.ev_new hd1 31 52 (by kernel_rfl) rfl
        have f7_ : a1.eval (.tmp 7) = .pointer (some ⟨gb, 0, none⟩) := hk1.ev_old 7 (by kernel_rfl)
        have g7_ : a1.tmps[7]?.getD undef = .pointer (some ⟨gb, 0, none⟩) := by simpa [Act.eval] using f7_
        exact stepOk_offN (wanted_offN rfl rfl q31 rfl) rfl
      · obtain ⟨y31, e31, q31, rfl⟩ := hk1.ev_new hd1 31 52 (by kernel_rfl) rfl
        have f5_ : a1.eval (.tmp 5) = .pointer (some ⟨gt, 0, none⟩) := hk1.ev_old 5 (by kernel_rfl)
        have g5_ : a1.tmps[5]?.getD undef = .pointer (some ⟨gt, 0, none⟩) := by simpa [Act.eval] using f5_
        obtain ⟨y32, e32, q32, rfl⟩ := hk1.ev_new hd1 32 53 (by kernel_rfl) rfl
        obtain ⟨y33, e33, q33, rfl⟩ := hk1.ev_new hd1 33 54 (by kernel_rfl) rfl
        exact stepOk_offN (wanted_offN rfl rfl q31 rfl) rfl
      · obtain ⟨y31, e31, q31, rfl⟩ := hk1.ev_new hd1 31 52 (by kernel_rfl) rfl
        have f8_ : a1.eval (.tmp 8) = .pointer (some ⟨gc, 0, none⟩) := hk1.ev_old 8 (by kernel_rfl)
        have g8_ : a1.tmps[8]?.getD undef = .pointer (some ⟨gc, 0, none⟩) := by simpa [Act.eval] using f8_
        exact stepOk_offN (wanted_offN rfl rfl q31 rfl) rfl
      · obtain ⟨y31, e31, q31, rfl⟩ := hk1.ev_new hd1 31 52 (by kernel_rfl) rfl
        have f9_ : a1.eval (.tmp 9) = .pointer (some ⟨gd, 0, none⟩) := hk1.ev_old 9 (by kernel_rfl)
        have g9_ : a1.tmps[9]?.getD undef = .pointer (some ⟨gd, 0, none⟩) := by simpa [Act.eval] using f9_
        exact stepOk_offN (wanted_offN rfl rfl q31 rfl) rfl
      · obtain ⟨y31, e31, q31, rfl⟩ := hk1.ev_new hd1 31 52 (by kernel_rfl) rfl
        have f5_ : a1.eval (.tmp 5) = .pointer (some ⟨gt, 0, none⟩) := hk1.ev_old 5 (by kernel_rfl)
        have g5_ : a1.tmps[5]?.getD undef = .pointer (some ⟨gt, 0, none⟩) := by simpa [Act.eval] using f5_
        obtain ⟨y35, e35, q35, rfl⟩ := hk1.ev_new hd1 35 56 (by kernel_rfl) rfl
        obtain ⟨y36, e36, q36, rfl⟩ := hk1.ev_new hd1 36 57 (by kernel_rfl) rfl
        exact stepOk_offN (wanted_offN rfl rfl q31 rfl) rfl
      · obtain ⟨y31, e31, q31, rfl⟩ := hk1.ev_new hd1 31 52 (by kernel_rfl) rfl
        obtain ⟨y34, e34, q34, rfl⟩ := hk1.ev_new hd1 34 55 (by kernel_rfl) rfl
        obtain ⟨y37, e37, q37, rfl⟩ := hk1.ev_new hd1 37 58 (by kernel_rfl) rfl
        exact stepOk_offN (wanted_offN rfl rfl q31 rfl) rfl
      · obtain ⟨y22, e22, q22, rfl⟩ := hk1.ev_new hd1 22 43 (by kernel_rfl) rfl
        obtain ⟨y31, e31, q31, rfl⟩ := hk1.ev_new hd1 31 52 (by kernel_rfl) rfl
        obtain ⟨y38, e38, q38, rfl⟩ := hk1.ev_new hd1 38 59 (by kernel_rfl) rfl
        exact stepOk_valG (wanted_at (t := 43) rfl rfl q22) (v := .bool true) (by go_simp) rfl
      · obtain ⟨y22, e22, q22, rfl⟩ := hk1.ev_new hd1 22 43 (by kernel_rfl) rfl
        obtain ⟨y39, e39, q39, rfl⟩ := hk1.ev_new hd1 39 60 (by kernel_rfl) rfl
        exact stepOk_value rfl (v := .bool true) (by go_simp) rfl
      · obtain ⟨y40, e40, q40, rfl⟩ := hk1.ev_new hd1 40 61 (by kernel_rfl) rfl
        exact stepOk_value rfl (v := .bool true) (by go_simp) rfl
      · obtain ⟨y41, e41, q41, rfl⟩ := hk1.ev_new hd1 41 62 (by kernel_rfl) rfl
        refine stepOk_enter (wanted_at (t := 62) rfl rfl q41) (f := 46) (args := #[]) (by go_simp) ?_
        have ho := awake10_any (w := w')
        refine ho.mono ?_
        rintro e w5 ⟨rfl, hB5⟩
        exact ⟨_, rfl, rfl, hB5⟩
      · obtain ⟨y41, e41, q41, rfl⟩ := hk1.ev_new hd1 41 62 (by kernel_rfl) rfl
        obtain ⟨y42, e42, q42, rfl⟩ := hk1.ev_new hd1 42 63 (by kernel_rfl) rfl
        exact stepOk_value rfl (v := .bool true) (by go_simp) rfl
    · intro a1 w7 hb7 hp
      obtain ⟨x0, p0, x1, p1, x2, p2, x3, p3, x4, p4, x5, p5, x6, p6, x7, p7, x8, p8, x9, p9, x10, p10, x11, p11, x12, p12, x13, p13, x14, p14, x15, p15, x16, p16, x17, p17, x18, p18, x19, p19, x20, p20, x21, p21, x22, p22, x23, p23, x24, p24, x25, p25, x26, p26, x27, p27, x28, p28, x29, p29, x30, p30, x31, p31, x32, p32, x33, p33, x34, p34, x35, p35, x36, p36, x37, p37, x38, p38, x39, p39, x40, p40, x41, p41, x42, p42, x43, p43, rfl⟩ := hp
      simp only [mn1] at p0 p1 p2 p3 p4 p5 p6 p7 p8 p9 p10 p11 p12 p13 p14 p15 p16 p17 p18 p19 p20 p21 p22 p23 p24 p25 p26 p27 p28 p29 p30 p31 p32 p33 p34 p35 p36 p37 p38 p39 p40 p41 p42 p43
      obtain ⟨g2_, rfl, -⟩ := p5
      subst p0 p1 p2 p3 p4 p6 p7 p8 p9 p10 p11 p12 p13 p14 p15 p16 p17 p18 p19 p20 p21 p22 p23 p24 p25 p26 p27 p28 p29 p30 p31 p32 p33 p34 p35 p36 p37 p38 p39 p40 p41 p42 p43
      simp only [List.drop_succ_cons, List.drop_zero, Act.put, List.setIfInBounds_toArray, List.set_cons_succ, List.set_cons_zero]
      have hBw := Below.then_ hB_2 hb7
      go_wp2_with fail
      go_ret
      exact ⟨rfl, hBw⟩
end
end Go.Proofs.Ytdpbnppngkamiaa
