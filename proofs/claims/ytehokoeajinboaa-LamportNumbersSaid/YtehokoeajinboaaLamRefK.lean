/-
  The document's own halves, keys, bits and signatures of layer 9, by value.
-/
import Derived.Test.YtehokoeajinboaaLamRef
namespace Go.Proofs.Ytehokoeajinboaa
open Go.RowKit
set_option linter.unusedVariables false

def rhvF (B : Nat) (TB : List Value) (leaf : Int) (k : Nat) (seed X Y : List UInt8) (j : Nat) (x : Value) (w : World) : Prop :=
  match j with
  | 0 => x = .agg TB.toArray
  | 1 => x = .agg TB.toArray
  | 2 => x = .agg (cb seed).toArray
  | 3 => x = .int .i64 leaf
  | 4 => x = .int .i64 (k : Int)
  | 5 => x = .int .i64 ((k / 2 : Nat) : Int)
  | 6 => x = .int .i64 (k : Int)
  | 7 => x = .int .i64 ((k % 2 : Nat) : Int)
  | 8 => x = .agg (cb X).toArray
  | 9 => x = .agg (cb Y).toArray
  | 10 => ∃ g, x = .pointer (some ⟨g, 0, none⟩) ∧ Fresh B 32 w (some ⟨g, 0, none⟩) 32 32 (cb (List.replicate 32 0))
  | _ => True
theorem rhvF_stab (B : Nat) (TB : List Value) (leaf : Int) (k : Nat) (seed X Y : List UInt8) : ∀ j x w w', Below w.heap.size w w' → rhvF B TB leaf k seed X Y j x w → rhvF B TB leaf k seed X Y j x w' := by
  intro j x w w' hb h
  unfold rhvF at *
  split at h <;> first | exact h | (obtain ⟨g, e, hF⟩ := h; exact ⟨g, e, hF.below hb⟩) | trivial
def rkF (TB : List Value) (leaf : Int) (seed Y : List UInt8) (HL : List (List UInt8)) (j : Nat) (x : Value) (w : World) : Prop :=
  match j with
  | 0 => x = .agg TB.toArray
  | 1 => x = .agg TB.toArray
  | 2 => x = .agg (cb seed).toArray
  | 3 => x = .int .i64 leaf
  | 4 => ∃ A c ps, x = .slice A 512 c ∧ Parts w A 512 ps ∧ ps.map Pb.l = HL ∧ ∀ p ∈ ps, p.m ≤ 1000
  | 5 => x = .agg (cb Y).toArray
  | _ => True
theorem rkF_stab (TB : List Value) (leaf : Int) (seed Y : List UInt8) (HL : List (List UInt8)) : ∀ j x w w', Below w.heap.size w w' → rkF TB leaf seed Y HL j x w → rkF TB leaf seed Y HL j x w' := by
  intro j x w w' hb h
  unfold rkF at *
  split at h <;> first | exact h | (obtain ⟨A, c, ps, e, hP, h2⟩ := h; exact ⟨A, c, ps, e, hP.step hb, h2⟩) | trivial
def rsgA (TB : List Value) (ga : Nat) (leaf : Int) (k v : Nat) (seed d Z : List UInt8) (j : Nat) (x : Value) (w : World) : Prop :=
  match j with
  | 0 => x = .int .i64 (k : Int)
  | 1 => x = .agg TB.toArray
  | 2 => x = .agg (cb seed).toArray
  | 3 => x = .int .i64 leaf
  | 4 => x = .int .i64 (k : Int)
  | 5 => x = .agg (cb d).toArray
  | 6 => x = .int .i64 (k : Int)
  | 7 => x = .int .i64 (v : Int)
  | 8 => x = .agg (cb Z).toArray
  | 9 => x = .pointer (some ⟨ga, 0, none⟩)
  | 10 => x = .pointer (some ⟨ga, 32 * k, none⟩)
  | _ => True
theorem rsgA_stab (TB : List Value) (ga : Nat) (leaf : Int) (k v : Nat) (seed d Z : List UInt8) : ∀ j x w w', Below w.heap.size w w' → rsgA TB ga leaf k v seed d Z j x w → rsgA TB ga leaf k v seed d Z j x w' := fun _ _ _ _ _ h => h
def rsgB (TB : List Value) (ga : Nat) (leaf : Int) (k v : Nat) (seed d X Y : List UInt8) (j : Nat) (x : Value) (w : World) : Prop :=
  match j with
  | 0 => x = .int .i64 (k : Int)
  | 1 => x = .agg TB.toArray
  | 2 => x = .agg TB.toArray
  | 3 => x = .agg (cb seed).toArray
  | 4 => x = .int .i64 leaf
  | 5 => x = .int .i64 (k : Int)
  | 6 => x = .agg (cb d).toArray
  | 7 => x = .int .i64 (k : Int)
  | 8 => x = .int .i64 (v : Int)
  | 9 => x = .int .i64 (1 - (v : Int))
  | 10 => x = .agg (cb X).toArray
  | 11 => x = .agg (cb Y).toArray
  | 12 => x = .pointer (some ⟨ga, 8192, none⟩)
  | 13 => x = .pointer (some ⟨ga, 8192 + 32 * k, none⟩)
  | _ => True
theorem rsgB_stab (TB : List Value) (ga : Nat) (leaf : Int) (k v : Nat) (seed d X Y : List UInt8) : ∀ j x w w', Below w.heap.size w w' → rsgB TB ga leaf k v seed d X Y j x w → rsgB TB ga leaf k v seed d X Y j x w' := fun _ _ _ _ _ h => h

section
variable {w : World}
set_option maxHeartbeats 1000000 in
theorem rBit_any (d : List UInt8) (i : Int) (hd : d.length = 32) :
    Calls Try.prog 53 #[.agg (cb d).toArray, .int .i64 i] w fun e w' => e = .returned (.int .i64 (bitI d i : Int)) ∧ Below w.heap.size w w' := by
  have HD := Lib.hid hd
  by_cases h : 0 ≤ i ∧ i < 256
  · obtain ⟨k, rfl⟩ := Int.eq_ofNat_of_zero_le h.1
    have hk : k < 256 := by omega
    rw [bitI_nat d k hk]
    obtain ⟨x, hx⟩ : ∃ x, d[k / 8]? = some x := ⟨d[k / 8]'(by omega), List.getElem?_eq_getElem (by omega)⟩
    have hb : bitF d k = x.toNat / 2 ^ (7 - k % 8) % 2 := by
      unfold bitF
      rw [List.getD_eq_getElem?_getD, hx]
      rfl
    rw [hb]
    have HX := Lib.hid hx
    have hxl := x.toNat_lt
    have hw0 : wrap64 (x.toNat : Int) = (x.toNat : Int) := by unfold wrap64; omega
    clear hd hx hb
    go_enter Try.func53, Try.ntmps53
    go_wp2_with (with_reducible refine wpList_box (o := ⟨some 2, _, _, _, _, _⟩) rfl (.tmp 0) 32 rfl (cb d) rfl 32 (by simp [HD.out]) (by decide) ?_; intro gb w1 hgb hFb hBb; have hcell : w1.cell? ⟨gb, k / 8, none⟩ = some (.int .u8 (x.toNat : Int)) := hFb.cell_ (by simp [cb, HX.out]))
    go_loopw [5, 6] (fun nv iv wr => ∃ j : Nat, k % 8 ≤ j ∧ j ≤ 7 ∧ iv = .int .i64 (j : Int) ∧ nv = .int .i64 ((x.toNat / 2 ^ (j - k % 8) : Nat) : Int) ∧ wr = w1) (fun _ iv _ => 7 - (intOf iv).toNat)
    case atStart => exact ⟨k % 8, by omega, by omega, by go_num, by simp, rfl⟩
    case round =>
      obtain ⟨j, hj1, hj2, rfl, rfl, rfl⟩ := hrel
      by_cases hlt : j < 7
      · have hst : x.toNat / 2 ^ (j + 1 - k % 8) = x.toNat / 2 ^ (j - k % 8) / 2 := by
          rw [show j + 1 - k % 8 = (j - k % 8) + 1 from by omega, Nat.pow_succ, Nat.div_div_eq_div_mul]
        obtain ⟨y, hy⟩ : ∃ y, x.toNat / 2 ^ (j - k % 8) = y := ⟨_, rfl⟩
        have hyl : y < 256 := by rw [← hy]; exact Nat.lt_of_le_of_lt (Nat.div_le_self _ _) hxl
        rw [hy] at hst ⊢
        go_wp2
        go_roundw
        case rel => exact ⟨j + 1, by omega, by omega, by go_num, by rw [hst]; go_num, trivial⟩
        case measure => simp [intOf]; omega
      · obtain rfl : j = 7 := by omega
        obtain ⟨y, hy⟩ : ∃ y, x.toNat / 2 ^ (7 - k % 8) = y := ⟨_, rfl⟩
        have hyl : y < 256 := by rw [← hy]; exact Nat.lt_of_le_of_lt (Nat.div_le_self _ _) hxl
        rw [hy]
        go_wp2
        go_ret
        exact ⟨ret_int (by rw [hy]; simp), hBb⟩
  · have hb : bitI d i = 0 := if_neg h
    rw [hb]
    clear hb
    rcases (by omega : i < 0 ∨ (0 ≤ i ∧ 255 < i)) with h1 | ⟨h1, h2⟩
    all_goals
      go_enter Try.func53, Try.ntmps53
      go_wp2_with (with_reducible refine wpList_box (o := ⟨some 2, _, _, _, _, _⟩) rfl (.tmp 0) 32 rfl (cb d) rfl 32 (by simp [HD.out]) (by decide) ?_; intro gb w1 hgb hFb hBb)
      go_ret
      exact ⟨rfl, hBb⟩
set_option maxHeartbeats 4000000 in
set_option maxRecDepth 100000 in
theorem rHalves_any (first keys : List UInt32) (h8 : first.length = 8) (h64 : keys.length = 64) (seed : List UInt8) (hs : seed.length = 32) (leaf : Int) (hl : leaf ≤ 9223372036854775807) :
    Calls Try.prog 119 #[.agg (cw (first ++ keys)).toArray, .agg (cb seed).toArray, .int .i64 leaf] w fun e w' => ∃ A c ps, e = .returned (.slice A 512 c) ∧ Parts w' A 512 ps ∧ ps.map Pb.l = (List.range 512).map (leafF (Dg.tab first keys h8) seed leaf.toNat) ∧ (∀ p ∈ ps, p.m ≤ 1000) ∧ Below w.heap.size w w' := by
  have HC : Hid ((cw (first ++ keys)).length = 72) := Lib.hid (by simp [h8, h64])
  have H8 := Lib.hid h8
  have H64 := Lib.hid h64
  have HS := Lib.hid hs
  have HSL := show (cb seed).length = 32 by rw [List.length_map]; exact hs
  replace HSL := Lib.hid HSL
  obtain ⟨G, hG⟩ : ∃ G, Dg.tab first keys h8 = G := ⟨_, rfl⟩
  have HGG := Lib.hid hG
  rw [hG]
  obtain ⟨TB, hTB⟩ : ∃ TB, cw (first ++ keys) = TB := ⟨_, rfl⟩
  have HTB := Lib.hid hTB
  rw [hTB] at HC ⊢
  clear hs hTB hG
  go_enter Try.func119, Try.ntmps119
  go_wp2_with (first
    | (with_reducible refine wpList_box (o := ⟨some 3, _, _, _, _, _⟩) rfl (.tmp 0) 26 rfl TB rfl 72 HC.out (by decide) ?_; intro gt w1 hgt hFt hBt)
    | (with_reducible refine wpList_box (o := ⟨some 4, _, _, _, _, _⟩) rfl (.tmp 1) 31 rfl (cb seed) rfl 32 HSL.out (by decide) ?_; intro gs w2 hgs hFs hBs))
  have z1 := hBt.size
  have hB2 := Below.then_ hBt hBs
  have ft2 := hFt.below hBs
  have fs2 := hFs.lower (base' := w.heap.size) z1
  clear hFt hFs hBt hBs z1 hgt hgs
  go_loopw [7, 8] (fun v iv wr => ∃ (k : Nat) (A : Option Addr) (c : Nat) (qs : List Pb), k ≤ 512 ∧ iv = .int .i64 (k : Int) ∧ v = .slice A k c ∧ Hid (qs.length = k) ∧ Fresh w.heap.size 27 wr A k c (qs.map Pb.cell) ∧ (∀ q ∈ qs, Fresh w.heap.size 5 wr q.A q.m q.c (cb q.l) ∧ q.m = 32) ∧ Hid (qs.map Pb.l = (List.range k).map (leafF G seed leaf.toNat)) ∧ Fresh w.heap.size 26 wr (some ⟨gt, 0, none⟩) 72 72 TB ∧ Fresh w.heap.size 31 wr (some ⟨gs, 0, none⟩) 32 32 (cb seed) ∧ Below w.heap.size w wr) (fun _ iv _ => 512 - (intOf iv).toNat)
  case atStart => exact ⟨0, none, 0, [], by omega, rfl, rfl, Lib.hid rfl, World.ownsRow_nil _ _ _ _, by simp, Lib.hid rfl, ft2, fs2, hB2⟩
  case round =>
    clear ft2 fs2 hB2
    obtain ⟨k, A, c, qs, hk, rfl, rfl, HQ, hFq, hqs, HQL, ft, fs, hB⟩ := hrel
    by_cases hlt : k < 512
    · obtain ⟨X, hX⟩ : ∃ X, secF (Dg.tab first keys H8.out) seed leaf.toNat (k / 2) (k % 2) = X := ⟨_, rfl⟩
      obtain ⟨Y, hY⟩ : ∃ Y, halfF (Dg.tab first keys H8.out) X = Y := ⟨_, rfl⟩
      have HX := Lib.hid hX
      have HY := Lib.hid hY
      have HXL : Hid (X.length = 32) := Lib.hid (by rw [← hX]; exact len_secF _ _ _ _ _)
      have HYL : Hid (Y.length = 32) := Lib.hid (by rw [← hY]; exact len_halfF _ _)
      have HYC : Hid ((cb Y).length = 32) := Lib.hid (by rw [List.length_map]; exact HYL.out)
      have HYF : Hid (leafF G seed leaf.toNat k = Y) := Lib.hid (by rw [leafF, ← HGG.out, hX, hY])
      clear hX hY
      have zb := hB.size
      have hwk : IntKind.i64.wrap ((k : Int) / 2) = (k : Int) / 2 := IntWalk.i64_in _ (by omega)
      go_wp2_with fail
      refine region_all_tail 11 (rhvF wr.heap.size TB leaf k seed X Y) (by kernel_rfl) (by kernel_rfl) (by kernel_rfl) (rhvF_stab _ _ _ _ _ _ _) ?_ ?_
      · intro w0 hb0
        simp only [List.take_succ_cons, List.take_zero]
        refine ⟨?_, ?_, ?_, ?_, ?_, ?_, ?_, ?_, ?_, ?_, ?_, trivial⟩
        all_goals intro listed a1 w' hk1 hd1
        · exact stepOk_value rfl (run_load_agg (.tmp 3) 26 rfl (hk1.ev_old 3 (by kernel_rfl)) TB 72 HC.out (by kernel_rfl) ((ft.below hb0).below hk1.below).sees) rfl
        · exact stepOk_value rfl (run_load_agg (.tmp 3) 26 rfl (hk1.ev_old 3 (by kernel_rfl)) TB 72 HC.out (by kernel_rfl) ((ft.below hb0).below hk1.below).sees) rfl
        · exact stepOk_value rfl (run_load_agg (.tmp 4) 31 rfl (hk1.ev_old 4 (by kernel_rfl)) (cb seed) 32 HSL.out (by kernel_rfl) ((fs.below hb0).below hk1.below).sees) rfl
        · have f2_ : a1.eval (.tmp 2) = .int .i64 leaf := hk1.ev_old 2 (by kernel_rfl)
          have g2_ : a1.tmps[2]?.getD undef = .int .i64 leaf := by simpa [Act.eval] using f2_
          exact stepOk_value rfl (v := .int .i64 leaf) (by go_simp) rfl
        · have f8_ : a1.eval (.tmp 8) = .int .i64 (k : Int) := hk1.ev_old 8 (by kernel_rfl)
          have g8_ : a1.tmps[8]?.getD undef = .int .i64 (k : Int) := by simpa [Act.eval] using f8_
          exact stepOk_value rfl (v := .int .i64 (k : Int)) (by go_simp) rfl
        · obtain ⟨y4, e4, q4, rfl⟩ := hk1.ev_new hd1 4 19 (by kernel_rfl) rfl
          exact stepOk_value rfl (v := .int .i64 ((k / 2 : Nat) : Int)) (by go_simp; try rfl; try (congr 2; omega)) rfl
        · have f8_ : a1.eval (.tmp 8) = .int .i64 (k : Int) := hk1.ev_old 8 (by kernel_rfl)
          have g8_ : a1.tmps[8]?.getD undef = .int .i64 (k : Int) := by simpa [Act.eval] using f8_
          exact stepOk_value rfl (v := .int .i64 (k : Int)) (by go_simp) rfl
        · obtain ⟨y6, e6, q6, rfl⟩ := hk1.ev_new hd1 6 21 (by kernel_rfl) rfl
          exact stepOk_value rfl (v := .int .i64 ((k % 2 : Nat) : Int)) (by go_simp; try rfl; try (congr 2; omega)) rfl
        · obtain ⟨y1, e1, q1, rfl⟩ := hk1.ev_new hd1 1 16 (by kernel_rfl) rfl
          obtain ⟨y2, e2, q2, rfl⟩ := hk1.ev_new hd1 2 17 (by kernel_rfl) rfl
          obtain ⟨y3, e3, q3, rfl⟩ := hk1.ev_new hd1 3 18 (by kernel_rfl) rfl
          obtain ⟨y5, e5, q5, rfl⟩ := hk1.ev_new hd1 5 20 (by kernel_rfl) rfl
          obtain ⟨y7, e7, q7, rfl⟩ := hk1.ev_new hd1 7 22 (by kernel_rfl) rfl
          refine stepOk_enter rfl (f := 60) (args := #[.agg TB.toArray, .agg (cb seed).toArray, .int .i64 leaf, .int .i64 ((k / 2 : Nat) : Int), .int .i64 ((k % 2 : Nat) : Int)]) (by go_simp) ?_
          have ho := rSecret_any (w := w') first keys H8.out H64.out seed HS.out leaf ((k / 2 : Nat) : Int) ((k % 2 : Nat) : Int) hl (by omega) (by omega)
          rw [show (((k / 2 : Nat)) : Int).toNat = k / 2 from rfl, show (((k % 2 : Nat)) : Int).toNat = k % 2 from rfl, HX.out, HTB.out] at ho
          refine ho.mono ?_
          rintro e w5 ⟨rfl, hB5⟩
          exact ⟨_, rfl, rfl, hB5⟩
        · obtain ⟨y0, e0, q0, rfl⟩ := hk1.ev_new hd1 0 15 (by kernel_rfl) rfl
          obtain ⟨y8, e8, q8, rfl⟩ := hk1.ev_new hd1 8 23 (by kernel_rfl) rfl
          refine stepOk_enter rfl (f := 61) (args := #[.agg TB.toArray, .agg (cb X).toArray]) (by go_simp) ?_
          have ho := rHalf_any (w := w') first keys H8.out H64.out X HXL.out
          rw [HY.out, HTB.out] at ho
          refine ho.mono ?_
          rintro e w5 ⟨rfl, hB5⟩
          exact ⟨_, rfl, rfl, hB5⟩
        · refine stepOk_run rfl (v := .pointer (some ⟨w'.heap.size, 0, none⟩)) (w' := w'.alloc (.cells (cb (List.replicate 32 0)).toArray 32 (0, 0))) ?_ ⟨_, rfl, (Fresh.new w' 32 (cb (List.replicate 32 0)) 32 (by simp) (by decide)).lower (by have := hb0.size; have := hk1.below.size; omega)⟩ (below_alloc w' _)
          simp only [execOp]
          rw [Sem.run_bind, run_alloc_zero 32 (cb (List.replicate 32 0)) (by kernel_rfl)]
          rfl
      · intro a1 w7 hb7 hp
        obtain ⟨x0, p0, x1, p1, x2, p2, x3, p3, x4, p4, x5, p5, x6, p6, x7, p7, x8, p8, x9, p9, x10, p10, rfl⟩ := hp
        simp only [rhvF] at p0 p1 p2 p3 p4 p5 p6 p7 p8 p9 p10
        subst p0 p1 p2 p3 p4 p5 p6 p7 p8 p9
        obtain ⟨gd, rfl, hFd⟩ := p10
        simp only [List.drop_succ_cons, List.drop_zero, Act.put, List.setIfInBounds_toArray, List.set_cons_succ, List.set_cons_zero]
        have hBw7 := Below.then_ hB hb7
        have qd := hFd.block.2
        go_upto_region 7 with (with_reducible refine wpList_store rfl rfl (.tmp 9) (.tmp 24) 32 rfl gd 0 wr.heap.size 32 32 (cb (List.replicate 32 0)) (cb Y) rfl rfl 32 HYC.out (by kernel_rfl) hFd (by omega) (cb_one _) w hBw7 (by omega) ?_; intro w8 f8 hB8 ho8 hz8)
        rw [splice_zb 32 Y HYL.out] at f8
        have keep : ∀ {e : TypeId} {R : Option Addr} {n q : Nat} {ys : List Value}, e ≠ 32 → Fresh w.heap.size e w7 R n q ys → Fresh w.heap.size e w8 R n q ys := fun hne hf => hf.apartT hFd hne ho8
        have ft8 := keep (by decide) (ft.below hb7)
        have fs8 := keep (by decide) (fs.below hb7)
        have fq8 := keep (by decide) (hFq.below hb7)
        have hqs8 : ∀ q ∈ qs, Fresh w.heap.size 5 w8 q.A q.m q.c (cb q.l) ∧ q.m = 32 := fun q hq => ⟨keep (by decide) ((hqs q hq).1.below hb7), (hqs q hq).2⟩
        have hsl := sl32_all gd
        clear ft fs hFq hqs hB hb7 hBw7 hFd ho8 keep
        go_wp2_with (first
          | (at_builtin; refine wpList_app8 rfl (.tmp 26) (.tmp 27) rfl none (some ⟨gd, 0, none⟩) 0 0 32 32 [] Y w8 rfl rfl (fresh_nil _ _ _) f8.sees HYL.out (by omega) (Below.refl _ _) ?_; intro A9 c9 w9 hF9 hB9; have hba := below_alloc w9 (.cells #[.slice A9 (0 + 32) c9] 27); have hcell : (w9.alloc (.cells #[.slice A9 (0 + 32) c9] 27)).cell? ⟨w9.heap.size, 0, none⟩ = some (.slice A9 (0 + 32) c9) := (by rw [World.cell?_alloc_mark]; rfl); have hB89 := Below.then_ hB8 hB9)
          | (at_builtin; refine wpList_one rfl (.tmp 25) (.tmp 29) 28 27 (.slice none 0 0) 24 rfl Try.underlying28 (by kernel_rfl) rfl (by omega) A k c w9.heap.size _ (.slice A9 (0 + 32) c9) w rfl rfl ((fq8.below hB9).below hba) hcell rfl (by omega) (Below.then_ hB89 hba) ?_; intro A10 c10 w10 hF10 hB10 hgr))
        go_roundw
        case rel =>
          have fA := (fq8.below hB9).below hba
          have kp : ∀ {e : TypeId} {B : Nat} {R : Option Addr} {n q : Nat} {ys : List Value}, e ≠ 27 → Fresh B e w8 R n q ys → Fresh B e w10 R n q ys := fun hne hf => World.ownsRow.kept ((hf.below hB9).below hba) hgr (fresh_unlike ((hf.below hB9).below hba) fA hne)
          refine ⟨k + 1, A10, c10, qs ++ [⟨A9, 32, c9, Y⟩], by omega, by go_num, rfl, Lib.hid (by rw [List.length_append, HQ.out]; rfl), ?_, ?_, Lib.hid ?_, kp (by decide) ft8, kp (by decide) fs8, hB10⟩
          · rw [List.map_append]
            exact hF10
          · intro q hq
            rcases List.mem_append.1 hq with h | h
            · exact ⟨kp (by decide) (hqs8 q h).1, (hqs8 q h).2⟩
            · simp at h
              subst h
              refine ⟨?_, rfl⟩
              have f9 : Fresh w.heap.size 5 w9 A9 32 c9 (cb Y) := hF9.lower hB8.size
              exact World.ownsRow.kept (f9.below hba) hgr (fresh_unlike (f9.below hba) fA (by decide))
          · rw [List.map_append, HQL.out, List.range_succ, List.map_append]
            show _ ++ [Y] = _ ++ [leafF G seed leaf.toNat k]
            rw [HYF.out]
        case measure => simp [intOf]; omega
    · obtain rfl : k = 512 := by omega
      go_wp2_with fail
      go_ret
      refine ⟨A, c, qs, rfl, ⟨hFq.sees, HQ.out, fun q hq => ⟨(hqs q hq).1.sees, by simpa using (hqs q hq).1.len, (hqs q hq).1.cap.1⟩⟩, HQL.out, fun q hq => by rw [(hqs q hq).2]; omega, hB⟩
set_option maxHeartbeats 4000000 in
set_option maxRecDepth 100000 in
theorem rKey_any (first keys : List UInt32) (h8 : first.length = 8) (h64 : keys.length = 64) (seed : List UInt8) (hs : seed.length = 32) (leaf : Int) (hl : leaf ≤ 9223372036854775807) :
    Calls Try.prog 65 #[.agg (cw (first ++ keys)).toArray, .agg (cb seed).toArray, .int .i64 leaf] w fun e w' => e = .returned (.agg (cb (keyF9 (Dg.tab first keys h8) seed leaf.toNat)).toArray) ∧ Below w.heap.size w w' := by
  have HC : Hid ((cw (first ++ keys)).length = 72) := Lib.hid (by simp [h8, h64])
  have H8 := Lib.hid h8
  have H64 := Lib.hid h64
  have HS := Lib.hid hs
  have HSL := show (cb seed).length = 32 by rw [List.length_map]; exact hs
  replace HSL := Lib.hid HSL
  obtain ⟨HL, hHL⟩ : ∃ HL, (List.range 512).map (leafF (Dg.tab first keys h8) seed leaf.toNat) = HL := ⟨_, rfl⟩
  obtain ⟨Y, hY⟩ : ∃ Y, ofF first keys (textF 3 HL) = Y := ⟨_, rfl⟩
  have hYe : keyF9 (Dg.tab first keys h8) seed leaf.toNat = Y := by rw [← hY, ← hHL]; rfl
  have HTL : Hid ((textF 3 HL).length ≤ 1000000000000) := Lib.hid (by
    have e1 : HL.length = 512 := by rw [← hHL]; simp
    have e2 := flat33 HL (by
      intro l hl
      rw [← hHL] at hl
      obtain ⟨j, _, rfl⟩ := List.mem_map.1 hl
      exact len_halfF _ _)
    have e3 := nd_bd HL.length
    rw [textF, List.length_append, List.length_append, len_digs, e2, show ([75, 3] : List UInt8).length = 2 from rfl]
    omega)
  have HYL : Hid (Y.length = 32) := Lib.hid (by rw [← hY]; exact len_ofF _ _ _ h8)
  have HYC : Hid ((cb Y).length = 32) := Lib.hid (by rw [List.length_map]; exact HYL.out)
  have HY := Lib.hid hY
  have HHL := Lib.hid hHL
  rw [hYe]
  obtain ⟨TB, hTB⟩ : ∃ TB, cw (first ++ keys) = TB := ⟨_, rfl⟩
  have HTB := Lib.hid hTB
  rw [hTB] at HC ⊢
  clear hs hTB hHL hY hYe
  go_enter Try.func65, Try.ntmps65
  go_upto_region 1 with (first
    | (with_reducible refine wpList_box (o := ⟨some 3, _, _, _, _, _⟩) rfl (.tmp 0) 26 rfl TB rfl 72 HC.out (by decide) ?_; intro gt w1 hgt hFt hBt)
    | (with_reducible refine wpList_box (o := ⟨some 4, _, _, _, _, _⟩) rfl (.tmp 1) 31 rfl (cb seed) rfl 32 HSL.out (by decide) ?_; intro gs w2 hgs hFs hBs)
    | (with_reducible refine wpList_alloc (o := ⟨some 6, _, _, _, _, _⟩) rfl 32 rfl (cb (List.replicate 32 0)) (by kernel_rfl) 32 (len_zb 32) (by decide) ?_; intro gr w3 hgr hFr hBr))
  have z1 := hBt.size
  have z2 := hBs.size
  have hB := Below.then_ (Below.then_ hBt hBs) hBr
  have ft := (hFt.below hBs).below hBr
  have fs := hFs.below hBr
  have fr := hFr.lower (base' := w.heap.size) (by omega)
  have n5 : w.heap.size ≤ gr := by omega
  clear hFt hFs hFr hBt hBs hBr z1 z2 hgt hgs hgr
  refine region_all_tail 6 (rkF TB leaf seed Y HL) (by kernel_rfl) (by kernel_rfl) (by kernel_rfl) (rkF_stab _ _ _ _ _) ?_ ?_
  · intro w0 hb0
    simp only [List.take_succ_cons, List.take_zero]
    refine ⟨?_, ?_, ?_, ?_, ?_, ?_, trivial⟩
    all_goals intro listed a1 w' hk1 hd1
    · exact stepOk_value rfl (run_load_agg (.tmp 3) 26 rfl (hk1.ev_old 3 (by kernel_rfl)) TB 72 HC.out (by kernel_rfl) ((ft.below hb0).below hk1.below).sees) rfl
    · exact stepOk_value rfl (run_load_agg (.tmp 3) 26 rfl (hk1.ev_old 3 (by kernel_rfl)) TB 72 HC.out (by kernel_rfl) ((ft.below hb0).below hk1.below).sees) rfl
    · exact stepOk_value rfl (run_load_agg (.tmp 4) 31 rfl (hk1.ev_old 4 (by kernel_rfl)) (cb seed) 32 HSL.out (by kernel_rfl) ((fs.below hb0).below hk1.below).sees) rfl
    · have f2_ : a1.eval (.tmp 2) = .int .i64 leaf := hk1.ev_old 2 (by kernel_rfl)
      have g2_ : a1.tmps[2]?.getD undef = .int .i64 leaf := by simpa [Act.eval] using f2_
      exact stepOk_value rfl (v := .int .i64 leaf) (by go_simp) rfl
    · obtain ⟨y1, e1, q1, rfl⟩ := hk1.ev_new hd1 1 8 (by kernel_rfl) rfl
      obtain ⟨y2, e2, q2, rfl⟩ := hk1.ev_new hd1 2 9 (by kernel_rfl) rfl
      obtain ⟨y3, e3, q3, rfl⟩ := hk1.ev_new hd1 3 10 (by kernel_rfl) rfl
      refine stepOk_enter rfl (f := 119) (args := #[.agg TB.toArray, .agg (cb seed).toArray, .int .i64 leaf]) (by go_simp) ?_
      have ho := rHalves_any (w := w') first keys H8.out H64.out seed HS.out leaf hl
      rw [HTB.out, HHL.out] at ho
      refine ho.mono ?_
      rintro e w5 ⟨A5, c5, ps, rfl, hP, hls, hm, hB5⟩
      exact ⟨_, rfl, ⟨A5, c5, ps, rfl, hP, hls, hm⟩, hB5⟩
    · obtain ⟨y0, e0, q0, rfl⟩ := hk1.ev_new hd1 0 7 (by kernel_rfl) rfl
      obtain ⟨y4, e4, _, q4⟩ := hk1.ev_new hd1 4 11 (by kernel_rfl) rfl
      obtain ⟨A5, c5, ps, rfl, hP, hls, hm⟩ := q4
      refine stepOk_enter rfl (f := 21) (args := #[.agg TB.toArray, .int .u8 3, .slice A5 512 c5]) (by go_simp) ?_
      have ho := rTagged_600 first keys 3 A5 512 c5 ps w' H8.out H64.out hP (by omega) hm (textF 3 HL) (by rw [hls]) HTL.out
      rw [HY.out, HTB.out] at ho
      refine ho.mono ?_
      rintro e w5 ⟨rfl, hB5⟩
      exact ⟨_, rfl, rfl, hB5⟩
  · intro a1 w7 hb7 hp
    obtain ⟨x0, p0, x1, p1, x2, p2, x3, p3, x4, p4, x5, p5, rfl⟩ := hp
    simp only [rkF] at p0 p1 p2 p3 p5
    subst p0 p1 p2 p3 p5
    simp only [List.drop_succ_cons, List.drop_zero, Act.put, List.setIfInBounds_toArray, List.set_cons_succ, List.set_cons_zero]
    go_wp2_with (with_reducible refine wpList_store rfl rfl (.tmp 6) (.tmp 12) 32 rfl gr 0 w.heap.size 32 32 (cb (List.replicate 32 0)) (cb Y) rfl rfl 32 HYC.out (by kernel_rfl) (fr.below hb7) (by omega) (cb_one _) w (Below.then_ hB hb7) n5 ?_; intro w9 hF9 hB9 _ _)
    rw [splice_zb 32 Y HYL.out] at hF9
    exact bodyPost_cell rfl rfl (cb Y) 32 HYC.out (by kernel_rfl) hF9.sees rfl ⟨rfl, hB9⟩
set_option maxHeartbeats 8000000 in
set_option maxRecDepth 100000 in
theorem rSign_any (first keys : List UInt32) (h8 : first.length = 8) (h64 : keys.length = 64) (seed : List UInt8) (hs : seed.length = 32) (leaf : Int) (hl : leaf ≤ 9223372036854775807) (d : List UInt8) (hd : d.length = 32) :
    Calls Try.prog 66 #[.agg (cw (first ++ keys)).toArray, .agg (cb seed).toArray, .int .i64 leaf, .agg (cb d).toArray] w fun e w' => e = .returned (.agg (cb (signS (Dg.tab first keys h8) seed leaf.toNat d ++ signO (Dg.tab first keys h8) seed leaf.toNat d)).toArray) ∧ Below w.heap.size w w' := by
  have HC : Hid ((cw (first ++ keys)).length = 72) := Lib.hid (by simp [h8, h64])
  have H8 := Lib.hid h8
  have H64 := Lib.hid h64
  have HS := Lib.hid hs
  have HSL := show (cb seed).length = 32 by rw [List.length_map]; exact hs
  replace HSL := Lib.hid HSL
  have HD := Lib.hid hd
  have HDL := Lib.hid (show (cb d).length = 32 by rw [List.length_map]; exact hd)
  obtain ⟨G, hG⟩ : ∃ G, Dg.tab first keys h8 = G := ⟨_, rfl⟩
  have HGG := Lib.hid hG
  rw [hG]
  obtain ⟨TB, hTB⟩ : ∃ TB, cw (first ++ keys) = TB := ⟨_, rfl⟩
  have HTB := Lib.hid hTB
  rw [hTB] at HC ⊢
  clear hs hd hTB hG
  go_enter Try.func66, Try.ntmps66
  go_wp2_with (first
    | (with_reducible refine wpList_box (o := ⟨some 4, _, _, _, _, _⟩) rfl (.tmp 0) 26 rfl TB rfl 72 HC.out (by decide) ?_; intro gt w1 hgt hFt hBt)
    | (with_reducible refine wpList_box (o := ⟨some 5, _, _, _, _, _⟩) rfl (.tmp 1) 31 rfl (cb seed) rfl 32 HSL.out (by decide) ?_; intro gs w2 hgs hFs hBs)
    | (with_reducible refine wpList_box (o := ⟨some 7, _, _, _, _, _⟩) rfl (.tmp 3) 32 rfl (cb d) rfl 32 HDL.out (by decide) ?_; intro gd w3 hgd hFd hBd)
    | (with_reducible refine wpList_alloc (o := ⟨some 8, _, _, _, _, _⟩) rfl 100 rfl (cb (List.replicate 16384 0)) (by kernel_rfl) 16384 (len_zb 16384) (by decide) ?_; intro gr w4 hgr hFr hBr)
    | (with_reducible refine wpList_alloc (o := ⟨some 9, _, _, _, _, _⟩) rfl 100 rfl (cb (List.replicate 16384 0)) (by kernel_rfl) 16384 (len_zb 16384) (by decide) ?_; intro ga w5 hga hFa hBa))
  have z1 := hBt.size
  have z2 := hBs.size
  have z3 := hBd.size
  have z4 := hBr.size
  have lt := hFt.lt_size
  have ls := hFs.lt_size
  have ld := hFd.lt_size
  have lr := hFr.lt_size
  have hB5 := Below.then_ (Below.then_ (Below.then_ (Below.then_ hBt hBs) hBd) hBr) hBa
  have ft5 := (((hFt.below hBs).below hBd).below hBr).below hBa
  have fs5 := (((hFs.below hBd).below hBr).below hBa).lower (base' := w.heap.size) (by omega)
  have fd5 := ((hFd.below hBr).below hBa).lower (base' := w.heap.size) (by omega)
  have fr5 := (hFr.below hBa).lower (base' := w.heap.size) (by omega)
  have fa5 := hFa.lower (base' := w.heap.size) (by omega)
  have n0 : gt ≠ ga := by omega
  have n1 : gs ≠ ga := by omega
  have n2 : gd ≠ ga := by omega
  have n3 : gr ≠ ga := by omega
  have n4 : w.heap.size ≤ ga := by omega
  have n5 : w.heap.size ≤ gr := by omega
  clear hFt hFs hFd hFr hFa hBt hBs hBd hBr hBa z1 z2 z3 z4 lt ls ld lr hgt hgs hgd hgr hga
  go_loopw [10] (fun i wr => ∃ (k : Nat) (L : List UInt8), k ≤ 256 ∧ i = .int .i64 (k : Int) ∧ Hid (L.length = 16384) ∧ Hid (∀ j, j < k → chunk L j = signSF G seed leaf.toNat d j ∧ chunk L (256 + j) = signOF G seed leaf.toNat d j) ∧ Fresh w.heap.size 26 wr (some ⟨gt, 0, none⟩) 72 72 TB ∧ Fresh w.heap.size 31 wr (some ⟨gs, 0, none⟩) 32 32 (cb seed) ∧ Fresh w.heap.size 32 wr (some ⟨gd, 0, none⟩) 32 32 (cb d) ∧ Fresh w.heap.size 100 wr (some ⟨ga, 0, none⟩) 16384 16384 (cb L) ∧ Fresh w.heap.size 100 wr (some ⟨gr, 0, none⟩) 16384 16384 (cb (List.replicate 16384 0)) ∧ Below w.heap.size w wr) (fun i _ => 256 - (intOf i).toNat)
  case atStart => exact ⟨0, _, by omega, rfl, Lib.hid List.length_replicate, Lib.hid (fun j hj => by omega), ft5, fs5, fd5, fa5, fr5, hB5⟩
  case round =>
    clear ft5 fs5 fd5 fa5 fr5 hB5
    obtain ⟨k, L, hk, rfl, HL, HCk, ft, fs, fd, fa, fr, hB⟩ := hrel
    by_cases hlt : k < 256
    · have hv2 := bitF_lt d k
      have HE1 : Hid (signSF G seed leaf.toNat d k = secF G seed leaf.toNat k (bitF d k)) := Lib.hid rfl
      have HE2 : Hid (signOF G seed leaf.toNat d k = halfF G (secF G seed leaf.toNat k (1 - bitF d k))) := Lib.hid rfl
      obtain ⟨v, hv⟩ : ∃ v, bitF d k = v := ⟨_, rfl⟩
      have HV := Lib.hid hv
      rw [hv] at hv2 HE1 HE2
      obtain ⟨Z, hZ⟩ : ∃ Z, secF (Dg.tab first keys H8.out) seed leaf.toNat k v = Z := ⟨_, rfl⟩
      obtain ⟨X, hX⟩ : ∃ X, secF (Dg.tab first keys H8.out) seed leaf.toNat k (1 - v) = X := ⟨_, rfl⟩
      obtain ⟨Y, hY⟩ : ∃ Y, halfF (Dg.tab first keys H8.out) X = Y := ⟨_, rfl⟩
      rw [← HGG.out, hZ] at HE1
      rw [← HGG.out, hX, hY] at HE2
      have HX := Lib.hid hX
      have HY := Lib.hid hY
      have HZ := Lib.hid hZ
      have HXL : Hid (X.length = 32) := Lib.hid (by rw [← hX]; exact len_secF _ _ _ _ _)
      have HYL : Hid (Y.length = 32) := Lib.hid (by rw [← hY]; exact len_halfF _ _)
      have HYC : Hid ((cb Y).length = 32) := Lib.hid (by rw [List.length_map]; exact HYL.out)
      have HZL : Hid (Z.length = 32) := Lib.hid (by rw [← hZ]; exact len_secF _ _ _ _ _)
      have HZC : Hid ((cb Z).length = 32) := Lib.hid (by rw [List.length_map]; exact HZL.out)
      have hwv : IntKind.i64.wrap (1 - (v : Int)) = 1 - (v : Int) := IntWalk.i64_in _ (by omega)
      clear hX hY hZ hv
      go_wp2_with fail
      refine region_all_tail 11 (rsgA TB ga leaf k v seed d Z) (by kernel_rfl) (by kernel_rfl) (by kernel_rfl) (rsgA_stab _ _ _ _ _ _ _ _) ?_ ?_
      · intro w0 hb0
        have hz0 := hb0.size
        simp only [List.take_succ_cons, List.take_zero]
        refine ⟨?_, ?_, ?_, ?_, ?_, ?_, ?_, ?_, ?_, ?_, ?_, trivial⟩
        all_goals intro listed a1 w' hk1 hd1
        · have f10_ : a1.eval (.tmp 10) = .int .i64 (k : Int) := hk1.ev_old 10 (by kernel_rfl)
          have g10_ : a1.tmps[10]?.getD undef = .int .i64 (k : Int) := by simpa [Act.eval] using f10_
          exact stepOk_value rfl (v := .int .i64 (k : Int)) (by go_simp) rfl
        · exact stepOk_value rfl (run_load_agg (.tmp 4) 26 rfl (hk1.ev_old 4 (by kernel_rfl)) TB 72 HC.out (by kernel_rfl) ((ft.below hb0).below hk1.below).sees) rfl
        · exact stepOk_value rfl (run_load_agg (.tmp 5) 31 rfl (hk1.ev_old 5 (by kernel_rfl)) (cb seed) 32 HSL.out (by kernel_rfl) ((fs.below hb0).below hk1.below).sees) rfl
        · have f2_ : a1.eval (.tmp 2) = .int .i64 leaf := hk1.ev_old 2 (by kernel_rfl)
          have g2_ : a1.tmps[2]?.getD undef = .int .i64 leaf := by simpa [Act.eval] using f2_
          exact stepOk_value rfl (v := .int .i64 leaf) (by go_simp) rfl
        · have f10_ : a1.eval (.tmp 10) = .int .i64 (k : Int) := hk1.ev_old 10 (by kernel_rfl)
          have g10_ : a1.tmps[10]?.getD undef = .int .i64 (k : Int) := by simpa [Act.eval] using f10_
          exact stepOk_value rfl (v := .int .i64 (k : Int)) (by go_simp) rfl
        · exact stepOk_value rfl (run_load_agg (.tmp 7) 32 rfl (hk1.ev_old 7 (by kernel_rfl)) (cb d) 32 HDL.out (by kernel_rfl) ((fd.below hb0).below hk1.below).sees) rfl
        · have f10_ : a1.eval (.tmp 10) = .int .i64 (k : Int) := hk1.ev_old 10 (by kernel_rfl)
          have g10_ : a1.tmps[10]?.getD undef = .int .i64 (k : Int) := by simpa [Act.eval] using f10_
          exact stepOk_value rfl (v := .int .i64 (k : Int)) (by go_simp) rfl
        · obtain ⟨y5, e5, q5, rfl⟩ := hk1.ev_new hd1 5 20 (by kernel_rfl) rfl
          obtain ⟨y6, e6, q6, rfl⟩ := hk1.ev_new hd1 6 21 (by kernel_rfl) rfl
          refine stepOk_enter rfl (f := 53) (args := #[.agg (cb d).toArray, .int .i64 (k : Int)]) (by go_simp) ?_
          have ho := rBit_any (w := w') d (k : Int) HD.out
          rw [bitI_nat d k hlt, HV.out] at ho
          refine ho.mono ?_
          rintro e w5 ⟨rfl, hB5⟩
          exact ⟨_, rfl, rfl, hB5⟩
        · obtain ⟨y1, e1, q1, rfl⟩ := hk1.ev_new hd1 1 16 (by kernel_rfl) rfl
          obtain ⟨y2, e2, q2, rfl⟩ := hk1.ev_new hd1 2 17 (by kernel_rfl) rfl
          obtain ⟨y3, e3, q3, rfl⟩ := hk1.ev_new hd1 3 18 (by kernel_rfl) rfl
          obtain ⟨y4, e4, q4, rfl⟩ := hk1.ev_new hd1 4 19 (by kernel_rfl) rfl
          obtain ⟨y7, e7, q7, rfl⟩ := hk1.ev_new hd1 7 22 (by kernel_rfl) rfl
          refine stepOk_enter rfl (f := 60) (args := #[.agg TB.toArray, .agg (cb seed).toArray, .int .i64 leaf, .int .i64 (k : Int), .int .i64 (v : Int)]) (by go_simp) ?_
          have ho := rSecret_any (w := w') first keys H8.out H64.out seed HS.out leaf (k : Int) (v : Int) hl (by omega) (by omega)
          rw [show ((k : Nat) : Int).toNat = k from rfl, show ((v : Nat) : Int).toNat = v from rfl, HZ.out, HTB.out] at ho
          refine ho.mono ?_
          rintro e w5 ⟨rfl, hB5⟩
          exact ⟨_, rfl, rfl, hB5⟩
        · have f9_ : a1.eval (.tmp 9) = .pointer (some ⟨ga, 0, none⟩) := hk1.ev_old 9 (by kernel_rfl)
          have g9_ : a1.tmps[9]?.getD undef = .pointer (some ⟨ga, 0, none⟩) := by simpa [Act.eval] using f9_
          exact stepOk_value rfl (v := .pointer (some ⟨ga, 0, none⟩)) (by go_simp) rfl
        · obtain ⟨y9, e9, q9, rfl⟩ := hk1.ev_new hd1 9 24 (by kernel_rfl) rfl
          obtain ⟨y0, e0, q0, rfl⟩ := hk1.ev_new hd1 0 15 (by kernel_rfl) rfl
          exact stepOk_value rfl (run_ixA (.tmp 24) (.tmp 15) rfl arrSA sizeSE e9 e0 rfl (by omega) (by omega)) rfl
      · intro a1 w7 hb7 hp
        obtain ⟨x0, p0, x1, p1, x2, p2, x3, p3, x4, p4, x5, p5, x6, p6, x7, p7, x8, p8, x9, p9, x10, p10, rfl⟩ := hp
        simp only [rsgA] at p0 p1 p2 p3 p4 p5 p6 p7 p8 p9 p10
        subst p0 p1 p2 p3 p4 p5 p6 p7 p8 p9 p10
        simp only [List.drop_succ_cons, List.drop_zero, Act.put, List.setIfInBounds_toArray, List.set_cons_succ, List.set_cons_zero]
        go_upto_region 6 with (with_reducible refine wpList_store rfl rfl (.tmp 25) (.tmp 23) 31 rfl ga (32 * k) w.heap.size 100 16384 (cb L) (cb Z) rfl rfl 32 HZC.out (by kernel_rfl) (fa.below hb7) (by omega) (cb_one _) w (Below.then_ hB hb7) n4 ?_; intro w8 f8 hB8 ho8 hz8)
        rw [cb_splice] at f8
        replace ft := (ft.below hb7).other n0 ho8
        replace fs := (fs.below hb7).other n1 ho8
        replace fd := (fd.below hb7).other n2 ho8
        replace fr := (fr.below hb7).other n3 ho8
        obtain ⟨M, hM⟩ : ∃ M, splice L (32 * k) Z = M := ⟨_, rfl⟩
        rw [hM] at f8
        have HM := Lib.hid hM
        have HML : Hid (M.length = 16384) := Lib.hid (by rw [← hM, len_splice8 _ _ _ (by rw [HZL.out, HL.out]; omega), HL.out])
        clear fa hb7 ho8 hz8 hB hM
        refine region_all_tail 14 (rsgB TB ga leaf k v seed d X Y) (by kernel_rfl) (by kernel_rfl) (by kernel_rfl) (rsgB_stab _ _ _ _ _ _ _ _ _) ?_ ?_
        · intro w0 hb0
          have hz0 := hb0.size
          simp only [List.take_succ_cons, List.take_zero]
          refine ⟨?_, ?_, ?_, ?_, ?_, ?_, ?_, ?_, ?_, ?_, ?_, ?_, ?_, ?_, trivial⟩
          all_goals intro listed a1 w' hk1 hd1
          · have f10_ : a1.eval (.tmp 10) = .int .i64 (k : Int) := hk1.ev_old 10 (by kernel_rfl)
            have g10_ : a1.tmps[10]?.getD undef = .int .i64 (k : Int) := by simpa [Act.eval] using f10_
            exact stepOk_value rfl (v := .int .i64 (k : Int)) (by go_simp) rfl
          · exact stepOk_value rfl (run_load_agg (.tmp 4) 26 rfl (hk1.ev_old 4 (by kernel_rfl)) TB 72 HC.out (by kernel_rfl) ((ft.below hb0).below hk1.below).sees) rfl
          · exact stepOk_value rfl (run_load_agg (.tmp 4) 26 rfl (hk1.ev_old 4 (by kernel_rfl)) TB 72 HC.out (by kernel_rfl) ((ft.below hb0).below hk1.below).sees) rfl
          · exact stepOk_value rfl (run_load_agg (.tmp 5) 31 rfl (hk1.ev_old 5 (by kernel_rfl)) (cb seed) 32 HSL.out (by kernel_rfl) ((fs.below hb0).below hk1.below).sees) rfl
          · have f2_ : a1.eval (.tmp 2) = .int .i64 leaf := hk1.ev_old 2 (by kernel_rfl)
            have g2_ : a1.tmps[2]?.getD undef = .int .i64 leaf := by simpa [Act.eval] using f2_
            exact stepOk_value rfl (v := .int .i64 leaf) (by go_simp) rfl
          · have f10_ : a1.eval (.tmp 10) = .int .i64 (k : Int) := hk1.ev_old 10 (by kernel_rfl)
            have g10_ : a1.tmps[10]?.getD undef = .int .i64 (k : Int) := by simpa [Act.eval] using f10_
            exact stepOk_value rfl (v := .int .i64 (k : Int)) (by go_simp) rfl
          · exact stepOk_value rfl (run_load_agg (.tmp 7) 32 rfl (hk1.ev_old 7 (by kernel_rfl)) (cb d) 32 HDL.out (by kernel_rfl) ((fd.below hb0).below hk1.below).sees) rfl
          · have f10_ : a1.eval (.tmp 10) = .int .i64 (k : Int) := hk1.ev_old 10 (by kernel_rfl)
            have g10_ : a1.tmps[10]?.getD undef = .int .i64 (k : Int) := by simpa [Act.eval] using f10_
            exact stepOk_value rfl (v := .int .i64 (k : Int)) (by go_simp) rfl
          · obtain ⟨y6, e6, q6, rfl⟩ := hk1.ev_new hd1 6 32 (by kernel_rfl) rfl
            obtain ⟨y7, e7, q7, rfl⟩ := hk1.ev_new hd1 7 33 (by kernel_rfl) rfl
            refine stepOk_enter rfl (f := 53) (args := #[.agg (cb d).toArray, .int .i64 (k : Int)]) (by go_simp) ?_
            have ho := rBit_any (w := w') d (k : Int) HD.out
            rw [bitI_nat d k hlt, HV.out] at ho
            refine ho.mono ?_
            rintro e w5 ⟨rfl, hB5⟩
            exact ⟨_, rfl, rfl, hB5⟩
          · obtain ⟨y8, e8, q8, rfl⟩ := hk1.ev_new hd1 8 34 (by kernel_rfl) rfl
            exact stepOk_value rfl (v := .int .i64 (1 - (v : Int))) (by go_simp) rfl
          · obtain ⟨y2, e2, q2, rfl⟩ := hk1.ev_new hd1 2 28 (by kernel_rfl) rfl
            obtain ⟨y3, e3, q3, rfl⟩ := hk1.ev_new hd1 3 29 (by kernel_rfl) rfl
            obtain ⟨y4, e4, q4, rfl⟩ := hk1.ev_new hd1 4 30 (by kernel_rfl) rfl
            obtain ⟨y5, e5, q5, rfl⟩ := hk1.ev_new hd1 5 31 (by kernel_rfl) rfl
            obtain ⟨y9, e9, q9, rfl⟩ := hk1.ev_new hd1 9 35 (by kernel_rfl) rfl
            refine stepOk_enter rfl (f := 60) (args := #[.agg TB.toArray, .agg (cb seed).toArray, .int .i64 leaf, .int .i64 (k : Int), .int .i64 (1 - (v : Int))]) (by go_simp) ?_
            have ho := rSecret_any (w := w') first keys H8.out H64.out seed HS.out leaf (k : Int) (1 - (v : Int)) hl (by omega) (by omega)
            rw [show ((k : Nat) : Int).toNat = k from rfl, show (1 - (v : Int)).toNat = 1 - v from by omega, HX.out, HTB.out] at ho
            refine ho.mono ?_
            rintro e w5 ⟨rfl, hB5⟩
            exact ⟨_, rfl, rfl, hB5⟩
          · obtain ⟨y1, e1, q1, rfl⟩ := hk1.ev_new hd1 1 27 (by kernel_rfl) rfl
            obtain ⟨y10, e10, q10, rfl⟩ := hk1.ev_new hd1 10 36 (by kernel_rfl) rfl
            refine stepOk_enter rfl (f := 61) (args := #[.agg TB.toArray, .agg (cb X).toArray]) (by go_simp) ?_
            have ho := rHalf_any (w := w') first keys H8.out H64.out X HXL.out
            rw [HY.out, HTB.out] at ho
            refine ho.mono ?_
            rintro e w5 ⟨rfl, hB5⟩
            exact ⟨_, rfl, rfl, hB5⟩
          · have f9_ : a1.eval (.tmp 9) = .pointer (some ⟨ga, 0, none⟩) := hk1.ev_old 9 (by kernel_rfl)
            have g9_ : a1.tmps[9]?.getD undef = .pointer (some ⟨ga, 0, none⟩) := by simpa [Act.eval] using f9_
            exact stepOk_value rfl (v := .pointer (some ⟨ga, 8192, none⟩)) (by go_simp) rfl
          · obtain ⟨y12, e12, q12, rfl⟩ := hk1.ev_new hd1 12 38 (by kernel_rfl) rfl
            obtain ⟨y0, e0, q0, rfl⟩ := hk1.ev_new hd1 0 26 (by kernel_rfl) rfl
            exact stepOk_value rfl (run_ixA (.tmp 38) (.tmp 26) rfl arrZD sizeD e12 e0 rfl (by omega) (by omega)) rfl
        · intro a1 w9 hb9 hp
          obtain ⟨x0, p0, x1, p1, x2, p2, x3, p3, x4, p4, x5, p5, x6, p6, x7, p7, x8, p8, x9, p9, x10, p10, x11, p11, x12, p12, x13, p13, rfl⟩ := hp
          simp only [rsgB] at p0 p1 p2 p3 p4 p5 p6 p7 p8 p9 p10 p11 p12 p13
          subst p0 p1 p2 p3 p4 p5 p6 p7 p8 p9 p10 p11 p12 p13
          simp only [List.drop_succ_cons, List.drop_zero, Act.put, List.setIfInBounds_toArray, List.set_cons_succ, List.set_cons_zero]
          have hBw9 := Below.then_ hB8 hb9
          go_wp2_with (with_reducible refine wpList_store rfl rfl (.tmp 39) (.tmp 37) 32 rfl ga (8192 + 32 * k) w.heap.size 100 16384 (cb M) (cb Y) rfl rfl 32 HYC.out (by kernel_rfl) (f8.below hb9) (by omega) (cb_one _) w hBw9 n4 ?_; intro w10 f10 hB10 ho10 hz10)
          rw [cb_splice, show 8192 + 32 * k = 32 * (256 + k) from by omega] at f10
          go_roundw
          case rel =>
            refine ⟨k + 1, _, by omega, by go_num, Lib.hid ?_, Lib.hid ?_, (ft.below hb9).other n0 ho10, (fs.below hb9).other n1 ho10, (fd.below hb9).other n2 ho10, f10, (fr.below hb9).other n3 ho10, hB10⟩
            · rw [len_splice8 _ _ _ (by rw [HYL.out, HML.out]; omega), HML.out]
            · intro j hj
              rw [chunk_splice _ _ _ _ HYL.out (by rw [HML.out]; omega), chunk_splice _ _ _ _ HYL.out (by rw [HML.out]; omega), if_neg (by omega), ← HM.out, chunk_splice _ _ _ _ HZL.out (by rw [HL.out]; omega), chunk_splice _ _ _ _ HZL.out (by rw [HL.out]; omega)]
              by_cases e : j = k
              · subst e
                rw [if_pos rfl, if_pos rfl]
                rw [← HGG.out]
                exact ⟨HE1.out.symm, HE2.out.symm⟩
              · rw [if_neg e, if_neg (by omega), if_neg (by omega)]
                exact HCk.out j (by omega)
          case measure => simp [intOf]; omega
    · obtain rfl : k = 256 := by omega
      have hlS := len_signS G seed leaf.toNat d
      have hlO := len_signO G seed leaf.toNat d
      have e : L = signS G seed leaf.toNat d ++ signO G seed leaf.toNat d := by
        refine chunks_ext L _ 512 HL.out (by rw [List.length_append, hlS, hlO]) fun j hj => ?_
        by_cases h : j < 256
        · rw [chunk_lft _ _ hlS j h, (HCk.out j h).1, signS, chunk_ofChunks (signSF G seed leaf.toNat d) 256 (fun j _ => len_secF _ _ _ _ _) j h]
        · obtain ⟨i, rfl⟩ : ∃ i, j = 256 + i := ⟨j - 256, by omega⟩
          rw [chunk_rgt _ _ hlS i, (HCk.out i (by omega)).2, signO, chunk_ofChunks (signOF G seed leaf.toNat d) 256 (fun j _ => len_halfF _ _) i (by omega)]
      have HE := Lib.hid e
      have HLC : Hid ((cb L).length = 16384) := Lib.hid (by rw [List.length_map]; exact HL.out)
      clear e hlS hlO
      go_wp2_with (first
        | (with_reducible refine wpList_load rfl (.tmp 9) 100 rfl ga 0 _ rfl (cb L) 16384 HLC.out (by kernel_rfl) fa.sees ?_)
        | (with_reducible refine wpList_store rfl rfl (.tmp 8) (.tmp 40) 100 rfl gr 0 w.heap.size 100 16384 (cb (List.replicate 16384 0)) (cb L) rfl rfl 16384 HLC.out (by kernel_rfl) fr (by omega) (cb_one _) w hB n5 ?_; intro w9 hF9 hB9 _ _))
      rw [splice_zb 16384 L HL.out] at hF9
      exact bodyPost_cell rfl rfl (cb L) 16384 HLC.out (by kernel_rfl) hF9.sees rfl ⟨by rw [HE.out], hB9⟩
end
end Go.Proofs.Ytehokoeajinboaa
