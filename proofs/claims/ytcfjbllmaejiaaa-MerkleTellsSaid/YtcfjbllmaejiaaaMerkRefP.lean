/-
  The document's own merkle by value: Node, height, root, Root, Right, Climb, Path.
-/
import Derived.Test.YtcfjbllmaejiaaaMerkPath
import Derived.Test.YtcfjbllmaejiaaaRegionM
import Derived.Test.YtcfjbllmaejiaaaRef600
namespace Go.Proofs.Ytcfjbllmaejiaaa
open Go.RowKit
set_option linter.unusedVariables false

section
variable {w : World}
set_option maxHeartbeats 1000000 in
set_option maxRecDepth 100000 in
/-- How high a tree of n leaves is; -1: there is none. -/
theorem rheight_any (n : Nat) (hn : n ≤ 9223372036854775807) (r : Int) (hr : (∃ h : Nat, h ≤ 8 ∧ n = 2 ^ h ∧ r = (h : Int)) ∨ (mayB n = false ∧ r = -1)) :
    Calls Try.prog 86 #[.int .i64 (n : Int)] w fun e w' => e = .returned (.int .i64 r) ∧ w' = w := by
  have hno : ∀ k : Nat, k ≤ 8 → (n = 2 ^ k → r = (k : Int)) := by
    intro k hk hnk
    rcases hr with ⟨h, hh, e, rfl⟩ | ⟨hm, _⟩
    · have : h = k := (Nat.pow_right_inj (by decide : 1 < 2)).1 (e.symm.trans hnk)
      rw [this]
    · rw [(may_iff n).2 ⟨k, hk, hnk⟩] at hm; exact absurd hm (by decide)
  have hend : (∀ j : Nat, j < 9 → n ≠ 2 ^ j) → r = -1 := by
    intro h
    rcases hr with ⟨k, hk, e, _⟩ | ⟨_, e⟩
    · exact absurd e (h k (by omega))
    · exact e
  have HNO := Lib.hid hno
  have HEND := Lib.hid hend
  clear hr hno hend
  go_enter Try.func86, Try.ntmps86
  go_wp2
  go_loopw [3] (fun iv wr => ∃ k : Nat, k ≤ 9 ∧ iv = .int .i64 (k : Int) ∧ Hid (∀ j, j < k → n ≠ 2 ^ j) ∧ wr = w) (fun iv _ => 9 - (intOf iv).toNat)
  case atStart => exact ⟨0, by omega, rfl, Lib.hid (fun j h => absurd h (by omega)), rfl⟩
  case round =>
    obtain ⟨k, hk, rfl, HK, rfl⟩ := hrel
    by_cases h9 : k = 9
    · subst h9
      have h := HEND.out HK.out
      subst h
      go_wp2
      go_ret
      exact ⟨rfl, rfl⟩
    · have hcs : k = 0 ∨ k = 1 ∨ k = 2 ∨ k = 3 ∨ k = 4 ∨ k = 5 ∨ k = 6 ∨ k = 7 ∨ k = 8 := by omega
      clear h9 hk
      by_cases hq : n = 2 ^ k
      · have h := HNO.out k (by omega) hq
        subst h
        subst hq
        rcases hcs with rfl | rfl | rfl | rfl | rfl | rfl | rfl | rfl | rfl
        all_goals
          go_wp2
          go_ret
          exact ⟨rfl, rfl⟩
      · have HQ := Lib.hid hq
        have hk1 : Hid (∀ j, j < k + 1 → n ≠ 2 ^ j) := Lib.hid (fun j hj => by
          rcases Nat.lt_or_ge j k with h | h
          · exact HK.out j h
          · obtain rfl : j = k := by omega
            exact HQ.out)
        rcases hcs with rfl | rfl | rfl | rfl | rfl | rfl | rfl | rfl | rfl
        all_goals
          simp only [Nat.reducePow] at hq
          clear HQ HK
          go_wp2
          go_roundw
          case rel => exact ⟨_, by omega, by go_num, hk1, trivial⟩
          case measure => simp [intOf]
set_option maxHeartbeats 1000000 in
set_option maxRecDepth 100000 in
theorem rRight_any (leaf : Int) (A : Option Addr) (n c : Nat) :
    Calls Try.prog 45 #[.agg #[.int .i64 leaf, .slice A n c]] w fun e w' => e = .returned (.bool (rightB leaf n)) ∧ Below w.heap.size w w' := by
  by_cases h8 : 8 < n
  · have e : rightB leaf n = false := decide_eq_false (by omega)
    have e8 : decide (8 < (n : Int)) = true := by simp; omega
    have e8' : decide ((n : Int) > 8) = true := by simp; omega
    rw [e]
    clear e
    go_enter Try.func45, Try.ntmps45
    go_wp2_with (with_reducible refine wpList_box (o := ⟨some 1, _, _, _, _, _⟩) rfl (.tmp 0) 82 rfl [.int .i64 leaf, .slice A n c] rfl 2 rfl (by decide) ?_; intro gb w1 hgb hFb hb; have hc0 : w1.cell? ⟨gb, 0, none⟩ = some (.int .i64 leaf) := hFb.cell_ rfl; have hc1 : w1.cell? ⟨gb, 1, none⟩ = some (.slice A n c) := hFb.cell_ rfl)
    go_ret
    exact ⟨rfl, hb⟩
  · by_cases h0 : leaf < 0
    · have e : rightB leaf n = false := decide_eq_false (by omega)
      have e8 : decide (8 < (n : Int)) = false := by simp; omega
      have e8' : decide ((n : Int) > 8) = false := by simp; omega
      rw [e]
      clear e
      go_enter Try.func45, Try.ntmps45
      go_wp2_with (with_reducible refine wpList_box (o := ⟨some 1, _, _, _, _, _⟩) rfl (.tmp 0) 82 rfl [.int .i64 leaf, .slice A n c] rfl 2 rfl (by decide) ?_; intro gb w1 hgb hFb hb; have hc0 : w1.cell? ⟨gb, 0, none⟩ = some (.int .i64 leaf) := hFb.cell_ rfl; have hc1 : w1.cell? ⟨gb, 1, none⟩ = some (.slice A n c) := hFb.cell_ rfl)
      go_ret
      exact ⟨rfl, hb⟩
    · have hq : (2 : Nat) ^ n ≤ 256 := Nat.le_trans (Nat.pow_le_pow_right (by decide) (by omega : n ≤ 8)) (by decide)
      have HE : Hid (rightB leaf n = decide (leaf < ((2 ^ n : Nat) : Int))) := Lib.hid (by
        unfold rightB
        rw [show ((2 ^ n : Nat) : Int) = 2 ^ n from by simp, Bool.eq_iff_iff, decide_eq_true_iff, decide_eq_true_iff]
        exact ⟨fun k => k.2.2, fun k => ⟨by omega, by omega, k⟩⟩)
      rw [HE.out]
      have HPOW : Hid (∀ k, k ≤ n → (2 : Nat) ^ k ≤ 256) := Lib.hid (fun k hk => Nat.le_trans (Nat.pow_le_pow_right (by decide) hk) hq)
      have e8 : decide (8 < (n : Int)) = false := by simp; omega
      have e8' : decide ((n : Int) > 8) = false := by simp; omega
      clear hq HE
      go_enter Try.func45, Try.ntmps45
      go_wp2_with (with_reducible refine wpList_box (o := ⟨some 1, _, _, _, _, _⟩) rfl (.tmp 0) 82 rfl [.int .i64 leaf, .slice A n c] rfl 2 rfl (by decide) ?_; intro gb w1 hgb hFb hb; have hc0 : w1.cell? ⟨gb, 0, none⟩ = some (.int .i64 leaf) := hFb.cell_ rfl; have hc1 : w1.cell? ⟨gb, 1, none⟩ = some (.slice A n c) := hFb.cell_ rfl)
      go_loopw [4, 5] (fun mv iv wr => ∃ (k m : Nat), k ≤ n ∧ iv = .int .i64 (k : Int) ∧ mv = .int .i64 (m : Int) ∧ Hid (m = 2 ^ k) ∧ wr = w1) (fun _ iv _ => n - (intOf iv).toNat)
      case atStart => exact ⟨0, 1, by omega, rfl, rfl, Lib.hid rfl, rfl⟩
      case round =>
        obtain ⟨k, m, hk, rfl, rfl, HM, rfl⟩ := hrel
        have hm : m ≤ 256 := by rw [HM.out]; exact HPOW.out k hk
        by_cases hlt : k < n
        · go_wp2
          go_roundw
          case rel =>
            refine ⟨k + 1, m * 2, by omega, by go_num, by go_num, Lib.hid ?_, trivial⟩
            rw [HM.out, Nat.pow_succ]
          case measure => simp [intOf]; omega
        · obtain rfl : k = n := by omega
          go_wp2
          go_ret
          refine ⟨ret_bool ?_, hb⟩
          rw [HM.out]
end
end Go.Proofs.Ytcfjbllmaejiaaa

namespace Go.Proofs.Ytcfjbllmaejiaaa
open Go.RowKit
set_option linter.unusedVariables false

def rnF (RT : List Value) (ga gb : Nat) (a b R : List UInt8) (j : Nat) (x : Value) (w : World) : Prop :=
  match j with
  | 0 => x = .agg RT.toArray
  | 1 => x = .slice (some ⟨ga, 0, none⟩) 32 32
  | 2 => x = .slice (some ⟨gb, 0, none⟩) 32 32
  | 3 => ∃ g, x = .slice (some ⟨g, 0, none⟩) 2 2 ∧ Parts w (some ⟨g, 0, none⟩) 2 [⟨some ⟨ga, 0, none⟩, 32, 32, a⟩, ⟨some ⟨gb, 0, none⟩, 32, 32, b⟩]
  | 4 => x = .agg (cb R).toArray
  | _ => True
theorem rnF_stab (RT : List Value) (ga gb : Nat) (a b R : List UInt8) : ∀ j x w w', Below w.heap.size w w' → rnF RT ga gb a b R j x w → rnF RT ga gb a b R j x w' := by
  intro j x w w' hb h
  unfold rnF at *
  split at h <;> first | exact h | (obtain ⟨g, e, hP⟩ := h; exact ⟨g, e, hP.step hb⟩) | trivial

theorem len_two (a b : List UInt8) (ha : a.length = 32) (hb : b.length = 32) : (textF 4 [a, b]).length ≤ 1000 := by
  have h1 := (nd_bd (0 + 1 + 1)).2
  have h2 := (nd_bd 32).2
  simp only [textF, blob, List.flatMap_cons, List.flatMap_nil, List.length_append, List.length_cons, List.length_nil, len_digs, ha, hb]
  generalize nd (0 + 1 + 1) = x at *
  generalize nd 32 = y at *
  omega
section
variable {w : World}
set_option maxHeartbeats 1000000 in
set_option maxRecDepth 100000 in
theorem rNode_any (first keys : List UInt32) (h8 : first.length = 8) (h64 : keys.length = 64) (a b : List UInt8) (ha : a.length = 32) (hb : b.length = 32) :
    Calls Try.prog 47 #[.agg (cw (first ++ keys)).toArray, .agg (cb a).toArray, .agg (cb b).toArray] w fun e w' => e = .returned (.agg (cb (nodeF (Dg.tabO first keys h8) a b)).toArray) ∧ Below w.heap.size w w' := by
  have HA := Lib.hid ha
  have HB := Lib.hid hb
  have HL := Lib.hid (len_nodeF (Dg.tabO first keys h8) a b)
  obtain ⟨R, hR⟩ : ∃ R, nodeF (Dg.tabO first keys h8) a b = R := ⟨_, rfl⟩
  have HR : Hid (ofF first keys (textF 4 [a, b]) = R) := Lib.hid hR
  have HK : Hid ((cw (first ++ keys)).length = 72) := Lib.hid (by simp [h8, h64])
  have H8 := Lib.hid h8
  have H64 := Lib.hid h64
  rw [hR] at HL ⊢
  clear ha hb hR h64
  go_enter Try.func47, Try.ntmps47
  go_upto_region 1 with (first
    | (with_reducible refine wpList_box (o := ⟨some 3, _, _, _, _, _⟩) rfl (.tmp 0) 79 rfl (cw (first ++ keys)) rfl 72 HK.out (by decide) ?_; intro gt w0 hgt hFt hBt)
    | (with_reducible refine wpList_box (o := ⟨some 4, _, _, _, _, _⟩) rfl (.tmp 1) 84 rfl (cb a) rfl 32 (by rw [List.length_map]; exact HA.out) (by decide) ?_; intro ga w1 hga hFa hBa)
    | (with_reducible refine wpList_box (o := ⟨some 5, _, _, _, _, _⟩) rfl (.tmp 2) 84 rfl (cb b) rfl 32 (by rw [List.length_map]; exact HB.out) (by decide) ?_; intro gb w2 hgb hFb hBb)
    | (with_reducible refine wpList_alloc (o := ⟨some 6, _, _, _, _, _⟩) rfl 84 rfl (cb (List.replicate 32 0)) (by kernel_rfl) 32 (len_zb 32) (by decide) ?_; intro gr w3 hgr hFr hBr))
  simp only [Act.put, List.setIfInBounds_toArray, List.set_cons_succ, List.set_cons_zero]
  have z0 := hBt.size
  have z1 := hBa.size
  have z2 := hBb.size
  have hB := Below.then_ (Below.then_ (Below.then_ hBt hBa) hBb) hBr
  have ft := ((hFt.below hBa).below hBb).below hBr
  have fa := (hFa.below hBb).below hBr
  have fb := hFb.below hBr
  have fr := hFr.lower (base' := w.heap.size) (by omega)
  have hgr2 : w.heap.size ≤ gr := by omega
  clear hFt hFa hFb hFr hBt hBa hBb hBr hgt hga hgb hgr z0 z1 z2
  refine region_all_tail 5 (rnF (cw (first ++ keys)) ga gb a b R) (by kernel_rfl) (by kernel_rfl) (by kernel_rfl) (rnF_stab _ _ _ _ _ _) ?_ ?_
  · intro w0 hb0
    simp only [List.take_succ_cons, List.take_zero]
    refine ⟨?_, ?_, ?_, ?_, ?_, trivial⟩
    all_goals intro listed a1 w' hk1 hd1
    · have f3_ : a1.eval (.tmp 3) = .pointer (some ⟨gt, 0, none⟩) := hk1.ev_old 3 (by kernel_rfl)
      exact stepOk_value rfl (run_load_agg (.tmp 3) 79 rfl f3_ (cw (first ++ keys)) 72 HK.out (by kernel_rfl) ((ft.below hb0).below hk1.below).sees) rfl
    · have f4_ : a1.eval (.tmp 4) = .pointer (some ⟨ga, 0, none⟩) := hk1.ev_old 4 (by kernel_rfl)
      have g4_ : a1.tmps[4]?.getD undef = .pointer (some ⟨ga, 0, none⟩) := by simpa [Act.eval] using f4_
      have hsl := sl32_all ga
      exact stepOk_value rfl (v := .slice (some ⟨ga, 0, none⟩) 32 32) (by go_simp) rfl
    · have f5_ : a1.eval (.tmp 5) = .pointer (some ⟨gb, 0, none⟩) := hk1.ev_old 5 (by kernel_rfl)
      have g5_ : a1.tmps[5]?.getD undef = .pointer (some ⟨gb, 0, none⟩) := by simpa [Act.eval] using f5_
      have hsl := sl32_all gb
      exact stepOk_value rfl (v := .slice (some ⟨gb, 0, none⟩) 32 32) (by go_simp) rfl
    · obtain ⟨y1, e1, q1, rfl⟩ := hk1.ev_new hd1 1 8 (by kernel_rfl) rfl
      obtain ⟨y2, e2, q2, rfl⟩ := hk1.ev_new hd1 2 9 (by kernel_rfl) rfl
      refine stepOk_run rfl (v := .slice (some ⟨w'.heap.size, 0, none⟩) 2 2) (w' := w'.alloc (.cells #[.slice (some ⟨ga, 0, none⟩) 32 32, .slice (some ⟨gb, 0, none⟩) 32 32] 62)) (by go_simp) ⟨_, rfl, parts_twoO w' 62 _ ⟨some ⟨ga, 0, none⟩, 32, 32, a⟩ ⟨some ⟨gb, 0, none⟩, 32, 32, b⟩ rfl ⟨((fa.below hb0).below hk1.below).sees, HA.out, Nat.le_refl _⟩ ⟨((fb.below hb0).below hk1.below).sees, HB.out, Nat.le_refl _⟩⟩ (below_alloc _ _)
    · obtain ⟨y0, e0, q0, rfl⟩ := hk1.ev_new hd1 0 7 (by kernel_rfl) rfl
      obtain ⟨y3, e3, r3, q3⟩ := hk1.ev_new hd1 3 10 (by kernel_rfl) rfl
      obtain ⟨g3, rfl, hP3⟩ := q3
      have hbk := Below.then_ (Below.then_ hB hb0) hk1.below
      refine stepOk_enter rfl (f := 92) (args := #[.agg (cw (first ++ keys)).toArray, .int .u8 4, .slice (some ⟨g3, 0, none⟩) 2 2]) (by go_simp) ?_
      have ho := rTagged_600 first keys 4 (some ⟨g3, 0, none⟩) 2 2 [⟨some ⟨ga, 0, none⟩, 32, 32, a⟩, ⟨some ⟨gb, 0, none⟩, 32, 32, b⟩] w' H8.out H64.out hP3 (by omega) (by intro p hp; simp at hp; rcases hp with rfl | rfl <;> (show 32 ≤ 1000; omega)) _ rfl (Nat.le_trans (len_two a b HA.out HB.out) (by decide))
      have hof : ofF first keys (textF 4 ([⟨some ⟨ga, 0, none⟩, 32, 32, a⟩, ⟨some ⟨gb, 0, none⟩, 32, 32, b⟩].map Pb.l)) = R := HR.out
      rw [hof] at ho
      refine ho.mono ?_
      rintro e w5 ⟨rfl, hB5⟩
      exact ⟨_, rfl, rfl, hB5⟩
  · intro a1 w7 hb7 hp
    obtain ⟨x0, p0, x1, p1, x2, p2, x3, p3, x4, p4, rfl⟩ := hp
    simp only [rnF] at p0 p1 p2 p3 p4
    obtain ⟨g3, rfl, hP3⟩ := p3
    subst p0 p1 p2 p4
    simp only [List.drop_succ_cons, List.drop_zero, Act.put, List.setIfInBounds_toArray, List.set_cons_succ, List.set_cons_zero]
    have hBw := Below.then_ hB hb7
    go_wp2_with (with_reducible refine wpList_store rfl rfl (.tmp 6) (.tmp 11) 84 rfl gr 0 w.heap.size 84 32 (cb (List.replicate 32 0)) (cb R) rfl rfl 32 (by rw [List.length_map]; exact HL.out) (by kernel_rfl) (fr.below hb7) (by omega) (cb_one _) w hBw hgr2 ?_; intro w9 hF9 hB9 _ _)
    rw [splice_zb 32 R HL.out] at hF9
    exact bodyPost_cell rfl rfl (cb R) 32 (by rw [List.length_map]; exact HL.out) (by kernel_rfl) hF9.sees rfl ⟨rfl, hB9⟩
end
end Go.Proofs.Ytcfjbllmaejiaaa

namespace Go.Proofs.Ytcfjbllmaejiaaa
open Go.RowKit
set_option linter.unusedVariables false

def rrF (RT : List Value) (A : Option Addr) (n c half : Nat) (A' : Option Addr) (L R N : List UInt8) (j : Nat) (x : Value) (w : World) : Prop :=
  match j with
  | 0 => x = .agg RT.toArray
  | 1 => x = .agg RT.toArray
  | 2 => x = .slice A n c
  | 3 => x = .int .i64 (half : Int)
  | 4 => x = .slice A half c
  | 5 => x = .agg (cb L).toArray
  | 6 => x = .agg RT.toArray
  | 7 => x = .slice A n c
  | 8 => x = .int .i64 (half : Int)
  | 9 => x = .slice A' (n - half) (c - half)
  | 10 => x = .agg (cb R).toArray
  | 11 => x = .agg (cb N).toArray
  | _ => True
theorem rrF_stab (RT : List Value) (A : Option Addr) (n c half : Nat) (A' : Option Addr) (L R N : List UInt8) : ∀ j x w w', Below w.heap.size w w' → rrF RT A n c half A' L R N j x w → rrF RT A n c half A' L R N j x w' := fun _ _ _ _ _ h => h

theorem run_hiD {o : Oper} {a : Act} {w : World} (x y : Operand) (hop : o.op = .slice 80 x none (some y) none) {S K V : Value} (hx : a.eval x = S) (hy : a.eval y = K) (h : (Instr.slice 80 S none (some K) none).run Try.prog w = .ok V w) : (execOp a.eval o).run Try.prog w = .ok (.value V) w := by
  unfold execOp
  simp [hop, hx, hy, run_sliceAt_slice _ _ _ _ _ _ elemD, h]
theorem run_loD {o : Oper} {a : Act} {w : World} (x y : Operand) (hop : o.op = .slice 80 x (some y) none none) {S K V : Value} (hx : a.eval x = S) (hy : a.eval y = K) (h : (Instr.slice 80 S (some K) none none).run Try.prog w = .ok V w) : (execOp a.eval o).run Try.prog w = .ok (.value V) w := by
  unfold execOp
  simp [hop, hx, hy, run_sliceAt_slice _ _ _ _ _ _ elemD, h]

set_option maxHeartbeats 1000000 in
set_option maxRecDepth 100000 in
theorem rroot_any (first keys : List UInt32) (h8 : first.length = 8) (h64 : keys.length = 64) : ∀ (h : Nat) (w : World) (A : Option Addr) (n c : Nat) (ds : List (List UInt8)), h ≤ 8 → Digs w A n ds → n = 2 ^ h → n ≤ c →
    Calls Try.prog 87 #[.agg (cw (first ++ keys)).toArray, .slice A n c] w fun e w' => e = .returned (.agg (cb (rootF (Dg.tabO first keys h8) ds h)).toArray) ∧ Below w.heap.size w w' := by
  have HK : Hid ((cw (first ++ keys)).length = 72) := Lib.hid (by simp [h8, h64])
  intro h
  induction h with
  | zero =>
    intro w A n c ds _ hd hn hc
    obtain rfl : n = 1 := by simpa using hn
    obtain ⟨g, o, rfl, hgB, hS, hDL⟩ := hd.at_ (k := 0) (by omega)
    have HDL := Lib.hid hDL
    have hr : rootF (Dg.tabO first keys h8) ds 0 = dAt ds 0 := rfl
    rw [hr]
    clear hr hDL hn
    go_enter Try.func87, Try.ntmps87
    go_wp2_with (first
      | (with_reducible refine wpList_box (o := ⟨some 2, _, _, _, _, _⟩) rfl (.tmp 0) 79 rfl (cw (first ++ keys)) rfl 72 HK.out (by decide) ?_; intro gt w1 hgt hFt hBt; have z1 := hBt.size)
      | (with_reducible refine wpList_alloc (o := ⟨some 4, _, _, _, _, _⟩) rfl 84 rfl (cb (List.replicate 32 0)) (by kernel_rfl) 32 (len_zb 32) (by decide) ?_; intro gr w2 hgr hFr hBr; have hB2 := Below.then_ hBt hBr)
      | (with_reducible refine wpList_is (o := ⟨some 10, _, _, _, _, _⟩) (v := .pointer (some ⟨g, o + 32 * 0, none⟩)) rfl (run_ixL (.tmp 9) (.const (.int .i64 0)) rfl rfl rfl (j := 0) rfl (by omega) rfl) ?_)
      | (with_reducible refine wpList_load (o := ⟨some 11, _, _, _, _, _⟩) rfl (.tmp 10) 84 rfl g (o + 32 * 0) _ rfl (cb (dAt ds 0)) 32 (by rw [List.length_map]; exact HDL.out) (by kernel_rfl) (hS.step hB2) ?_)
      | (with_reducible refine wpList_store rfl rfl (.tmp 4) (.tmp 11) 84 rfl gr 0 w.heap.size 84 32 (cb (List.replicate 32 0)) (cb (dAt ds 0)) rfl rfl 32 (by rw [List.length_map]; exact HDL.out) (by kernel_rfl) (hFr.lower (base' := w.heap.size) (by omega)) (by omega) (cb_one _) w hB2 (by omega) ?_; intro w7 hF7 hB7 ho7 hz7))
    rw [splice_zb 32 _ HDL.out] at hF7
    exact bodyPost_cell rfl rfl (cb (dAt ds 0)) 32 (by rw [List.length_map]; exact HDL.out) (by kernel_rfl) hF7.sees rfl ⟨rfl, hB7⟩
  | succ h ih =>
    intro w A n c ds hh hd hn hc
    obtain ⟨half, hhalf⟩ : ∃ half, 2 ^ h = half := ⟨_, rfl⟩
    have hp : 0 < half := by rw [← hhalf]; exact Nat.pow_pos (by decide)
    have hle : half ≤ 256 := by rw [← hhalf]; exact Nat.le_trans (Nat.pow_le_pow_right (by decide) (by omega : h ≤ 8)) (by decide)
    have hn2 : n = 2 * half := by rw [hn, Nat.pow_succ, hhalf]; omega
    obtain ⟨A', hrun, hdig⟩ := run_fromD A n c half (by omega) hc
    have hcut : ∀ w', (Instr.slice 80 (.slice A n c) none (some (.int .i64 (half : Int))) none).run Try.prog w' = .ok (.slice A half c) w' := fun w' => run_cutD A n c half (by omega)
    have hroot : rootF (Dg.tabO first keys h8) ds (h + 1) = nodeF (Dg.tabO first keys h8) (rootF (Dg.tabO first keys h8) (ds.take half) h) (rootF (Dg.tabO first keys h8) (ds.drop half) h) := by
      have := root_append (Dg.tabO first keys h8) (a := ds.take half) (b := ds.drop half) (h := h) (by rw [List.length_take, hd.len, hhalf]; omega) (by rw [List.length_drop, hd.len, hhalf]; omega)
      rwa [List.take_append_drop] at this
    have hlL := len_rootF (Dg.tabO first keys h8) (l := ds.take half) (h := h) (by rw [List.length_take, hd.len, hhalf]; omega) (all_take hd.all _)
    have hlR := len_rootF (Dg.tabO first keys h8) (l := ds.drop half) (h := h) (by rw [List.length_drop, hd.len, hhalf]; omega) (all_drop hd.all _)
    have i1 : ∀ w', Below w.heap.size w w' → Calls Try.prog 87 #[.agg (cw (first ++ keys)).toArray, .slice A half c] w' fun e w2 => e = .returned (.agg (cb (rootF (Dg.tabO first keys h8) (ds.take half) h)).toArray) ∧ Below w'.heap.size w' w2 := fun w' hb => ih w' A half c (ds.take half) (by omega) ((hd.step hb).take_ (by omega)) hhalf.symm (by omega)
    have i2 : ∀ w', Below w.heap.size w w' → Calls Try.prog 87 #[.agg (cw (first ++ keys)).toArray, .slice A' (n - half) (c - half)] w' fun e w2 => e = .returned (.agg (cb (rootF (Dg.tabO first keys h8) (ds.drop half) h)).toArray) ∧ Below w'.heap.size w' w2 := fun w' hb => ih w' A' (n - half) (c - half) (ds.drop half) (by omega) (hdig _ _ (hd.step hb)) (by omega) (by omega)
    rw [hroot]
    have hlN := len_nodeF (Dg.tabO first keys h8) (rootF (Dg.tabO first keys h8) (ds.take half) h) (rootF (Dg.tabO first keys h8) (ds.drop half) h)
    revert i1 i2 hlL hlR hlN
    have i3 := fun w' (L R : List UInt8) hl hr => rNode_any first keys h8 h64 L R hl hr (w := w')
    revert i3
    generalize rootF (Dg.tabO first keys h8) (ds.take half) h = L
    generalize rootF (Dg.tabO first keys h8) (ds.drop half) h = R
    intro i3 hlL hlR i1 i2 hlN
    have i4 := fun w' => i3 w' L R hlL hlR
    clear i3
    revert i4 hlN
    generalize nodeF (Dg.tabO first keys h8) L R = N
    intro hlN i4
    have HL := Lib.hid hlN
    have I1 := Lib.hid i1
    have I2 := Lib.hid i2
    have I4 := Lib.hid i4
    have hne : (n : Int) ≠ 1 := by omega
    have hdiv : (n : Int).tdiv 2 = (half : Int) := by rw [Int.tdiv_eq_ediv_of_nonneg (by omega)]; omega
    have hdiv2 : (n : Int) / 2 = (half : Int) := by omega
    have hhn : half ≤ n := by omega
    have HN2 := Lib.hid hn2
    have HRUN := Lib.hid hrun
    have HCUT := Lib.hid hcut
    clear hn hroot hlL hlR hlN i1 i2 i4 hdig ih hd hh hhalf hn2 hrun hcut
    go_enter Try.func87, Try.ntmps87
    go_upto_region 4 with (first
      | (with_reducible refine wpList_box (o := ⟨some 2, _, _, _, _, _⟩) rfl (.tmp 0) 79 rfl (cw (first ++ keys)) rfl 72 HK.out (by decide) ?_; intro gt w1 hgt hFt hBt; have z1 := hBt.size)
      | (with_reducible refine wpList_alloc (o := ⟨some 4, _, _, _, _, _⟩) rfl 84 rfl (cb (List.replicate 32 0)) (by kernel_rfl) 32 (len_zb 32) (by decide) ?_; intro gr w2 hgr hFr hBr; have hB := Below.then_ hBt hBr))
    have ft := hFt.below hBr
    have fr := hFr.lower (base' := w.heap.size) (by omega)
    have hgr2 : w.heap.size ≤ gr := by omega
    clear hFt hFr hBt hBr hgt hgr z1
    refine region_all_tail 12 (rrF (cw (first ++ keys)) A n c half A' L R N) (by kernel_rfl) (by kernel_rfl) (by kernel_rfl) (rrF_stab _ _ _ _ _ _ _ _ _) ?_ ?_
    · intro w0 hb0
      simp only [List.take_succ_cons, List.take_zero]
      refine ⟨?_, ?_, ?_, ?_, ?_, ?_, ?_, ?_, ?_, ?_, ?_, ?_, trivial⟩
      all_goals intro listed a1 w' hk1 hd1
      · have f2_ : a1.eval (.tmp 2) = .pointer (some ⟨gt, 0, none⟩) := hk1.ev_old 2 (by kernel_rfl)
        exact stepOk_value rfl (run_load_agg (.tmp 2) 79 rfl f2_ (cw (first ++ keys)) 72 HK.out (by kernel_rfl) ((ft.below hb0).below hk1.below).sees) rfl
      · have f2_ : a1.eval (.tmp 2) = .pointer (some ⟨gt, 0, none⟩) := hk1.ev_old 2 (by kernel_rfl)
        exact stepOk_value rfl (run_load_agg (.tmp 2) 79 rfl f2_ (cw (first ++ keys)) 72 HK.out (by kernel_rfl) ((ft.below hb0).below hk1.below).sees) rfl
      · have f_ : a1.eval (.tmp 1) = .slice A n c := hk1.ev_old 1 (by kernel_rfl)
        have g_ : a1.tmps[1]?.getD undef = .slice A n c := by simpa [Act.eval] using f_
        exact stepOk_value rfl (v := .slice A n c) (by go_simp) rfl
      · have f_ : a1.eval (.tmp 5) = .int .i64 (half : Int) := hk1.ev_old 5 (by kernel_rfl)
        have g_ : a1.tmps[5]?.getD undef = .int .i64 (half : Int) := by simpa [Act.eval] using f_
        exact stepOk_value rfl (v := .int .i64 (half : Int)) (by go_simp) rfl
      · obtain ⟨y2, e2, q2, rfl⟩ := hk1.ev_new hd1 2 17 (by kernel_rfl) rfl
        obtain ⟨y3, e3, q3, rfl⟩ := hk1.ev_new hd1 3 18 (by kernel_rfl) rfl
        exact stepOk_value rfl (run_hiD (.tmp 17) (.tmp 18) rfl e2 e3 (HCUT.out w')) rfl
      · obtain ⟨y1, e1, q1, rfl⟩ := hk1.ev_new hd1 1 16 (by kernel_rfl) rfl
        obtain ⟨y4, e4, q4, rfl⟩ := hk1.ev_new hd1 4 19 (by kernel_rfl) rfl
        have hbk := Below.then_ (Below.then_ hB hb0) hk1.below
        refine stepOk_enter rfl (f := 87) (args := #[.agg (cw (first ++ keys)).toArray, .slice A half c]) (by go_simp) ?_
        refine (I1.out w' hbk).mono ?_
        rintro e w5 ⟨rfl, hB5⟩
        exact ⟨_, rfl, rfl, hB5⟩
      · have f2_ : a1.eval (.tmp 2) = .pointer (some ⟨gt, 0, none⟩) := hk1.ev_old 2 (by kernel_rfl)
        exact stepOk_value rfl (run_load_agg (.tmp 2) 79 rfl f2_ (cw (first ++ keys)) 72 HK.out (by kernel_rfl) ((ft.below hb0).below hk1.below).sees) rfl
      · have f_ : a1.eval (.tmp 1) = .slice A n c := hk1.ev_old 1 (by kernel_rfl)
        have g_ : a1.tmps[1]?.getD undef = .slice A n c := by simpa [Act.eval] using f_
        exact stepOk_value rfl (v := .slice A n c) (by go_simp) rfl
      · have f_ : a1.eval (.tmp 5) = .int .i64 (half : Int) := hk1.ev_old 5 (by kernel_rfl)
        have g_ : a1.tmps[5]?.getD undef = .int .i64 (half : Int) := by simpa [Act.eval] using f_
        exact stepOk_value rfl (v := .int .i64 (half : Int)) (by go_simp) rfl
      · obtain ⟨y7, e7, q7, rfl⟩ := hk1.ev_new hd1 7 22 (by kernel_rfl) rfl
        obtain ⟨y8, e8, q8, rfl⟩ := hk1.ev_new hd1 8 23 (by kernel_rfl) rfl
        exact stepOk_value rfl (run_loD (.tmp 22) (.tmp 23) rfl e7 e8 (HRUN.out w')) rfl
      · obtain ⟨y6, e6, q6, rfl⟩ := hk1.ev_new hd1 6 21 (by kernel_rfl) rfl
        obtain ⟨y9, e9, q9, rfl⟩ := hk1.ev_new hd1 9 24 (by kernel_rfl) rfl
        have hbk := Below.then_ (Below.then_ hB hb0) hk1.below
        refine stepOk_enter rfl (f := 87) (args := #[.agg (cw (first ++ keys)).toArray, .slice A' (n - half) (c - half)]) (by go_simp) ?_
        refine (I2.out w' hbk).mono ?_
        rintro e w5 ⟨rfl, hB5⟩
        exact ⟨_, rfl, rfl, hB5⟩
      · obtain ⟨y0, e0, q0, rfl⟩ := hk1.ev_new hd1 0 15 (by kernel_rfl) rfl
        obtain ⟨y5, e5, q5, rfl⟩ := hk1.ev_new hd1 5 20 (by kernel_rfl) rfl
        obtain ⟨y10, e10, q10, rfl⟩ := hk1.ev_new hd1 10 25 (by kernel_rfl) rfl
        have hbk := Below.then_ (Below.then_ hB hb0) hk1.below
        refine stepOk_enter rfl (f := 47) (args := #[.agg (cw (first ++ keys)).toArray, .agg (cb L).toArray, .agg (cb R).toArray]) (by go_simp) ?_
        refine (I4.out w').mono ?_
        rintro e w5 ⟨rfl, hB5⟩
        exact ⟨_, rfl, rfl, hB5⟩
    · intro a1 w7 hb7 hp
      obtain ⟨x0, p0, x1, p1, x2, p2, x3, p3, x4, p4, x5, p5, x6, p6, x7, p7, x8, p8, x9, p9, x10, p10, x11, p11, rfl⟩ := hp
      simp only [rrF] at p0 p1 p2 p3 p4 p5 p6 p7 p8 p9 p10 p11
      subst p0 p1 p2 p3 p4 p5 p6 p7 p8 p9 p10 p11
      simp only [List.drop_succ_cons, List.drop_zero, Act.put, List.setIfInBounds_toArray, List.set_cons_succ, List.set_cons_zero]
      have hBw := Below.then_ hB hb7
      go_wp2_with (with_reducible refine wpList_store rfl rfl (.tmp 4) (.tmp 26) 84 rfl gr 0 w.heap.size 84 32 (cb (List.replicate 32 0)) (cb N) rfl rfl 32 (by rw [List.length_map]; exact HL.out) (by kernel_rfl) (fr.below hb7) (by omega) (cb_one _) w hBw hgr2 ?_; intro w9 hF9 hB9 _ _)
      rw [splice_zb 32 N HL.out] at hF9
      exact bodyPost_cell rfl rfl (cb N) 32 (by rw [List.length_map]; exact HL.out) (by kernel_rfl) hF9.sees rfl ⟨rfl, hB9⟩
end Go.Proofs.Ytcfjbllmaejiaaa

namespace Go.Proofs.Ytcfjbllmaejiaaa
open Go.RowKit
set_option linter.unusedVariables false

def rc8 (RT : List Value) (gp g o n c k : Nat) (X B N : List UInt8) (j : Nat) (x : Value) (w : World) : Prop :=
  match j with
  | 0 => x = .agg RT.toArray
  | 1 => x = .agg (cb X).toArray
  | 2 => x = .pointer (some ⟨gp, 1, none⟩)
  | 3 => x = .slice (some ⟨g, o, none⟩) n c
  | 4 => x = .int .i64 (k : Int)
  | 5 => x = .pointer (some ⟨g, o + 32 * k, none⟩)
  | 6 => x = .agg (cb B).toArray
  | 7 => x = .agg (cb N).toArray
  | _ => True
theorem rc8_stab (RT : List Value) (gp g o n c k : Nat) (X B N : List UInt8) : ∀ j x w w', Below w.heap.size w w' → rc8 RT gp g o n c k X B N j x w → rc8 RT gp g o n c k X B N j x w' := fun _ _ _ _ _ h => h
def rc9 (RT : List Value) (gp g o n c k : Nat) (X B N : List UInt8) (j : Nat) (x : Value) (w : World) : Prop :=
  match j with
  | 0 => x = .agg RT.toArray
  | 1 => x = .pointer (some ⟨gp, 1, none⟩)
  | 2 => x = .slice (some ⟨g, o, none⟩) n c
  | 3 => x = .int .i64 (k : Int)
  | 4 => x = .pointer (some ⟨g, o + 32 * k, none⟩)
  | 5 => x = .agg (cb B).toArray
  | 6 => x = .agg (cb X).toArray
  | 7 => x = .agg (cb N).toArray
  | _ => True
theorem rc9_stab (RT : List Value) (gp g o n c k : Nat) (X B N : List UInt8) : ∀ j x w w', Below w.heap.size w w' → rc9 RT gp g o n c k X B N j x w → rc9 RT gp g o n c k X B N j x w' := fun _ _ _ _ _ h => h

section
variable {w : World}
set_option maxHeartbeats 2000000 in
set_option maxRecDepth 100000 in
theorem rRoot_no (first keys : List UInt32) (h8 : first.length = 8) (h64 : keys.length = 64) (A : Option Addr) (n c : Nat) (hn : n ≤ 9223372036854775807) (hm : mayB n = false) :
    Calls Try.prog 38 #[.agg (cw (first ++ keys)).toArray, .slice A n c] w fun e w' => e = .returned (.tuple #[.agg (cb (List.replicate 32 0)).toArray, .int .i64 2]) ∧ Below w.heap.size w w' := by
  have HK : Hid ((cw (first ++ keys)).length = 72) := Lib.hid (by simp [h8, h64])
  have HM := Lib.hid (fun w => rheight_any n hn (-1) (.inr ⟨hm, rfl⟩) (w := w))
  clear hn hm
  go_enter Try.func38, Try.ntmps38
  go_wp2_with (first
    | (with_reducible refine wpList_box (o := ⟨some 2, _, _, _, _, _⟩) rfl (.tmp 0) 79 rfl (cw (first ++ keys)) rfl 72 HK.out (by decide) ?_; intro gt w1 hgt hFt hBt; have z1 := hBt.size)
    | (with_reducible refine wpList_alloc (o := ⟨some 4, _, _, _, _, _⟩) rfl 84 rfl (cb (List.replicate 32 0)) (by kernel_rfl) 32 (len_zb 32) (by decide) ?_; intro gr w3 hgr hFr hBr; have hB2 := Below.then_ hBt hBr)
    | (go_at_call 86; refine (HM.out w3).mono ?_; rintro e w4 ⟨rfl, rfl⟩)
    | (with_reducible refine wpList_bz rfl rfl bdz ?_)
    | (with_reducible refine wpList_store rfl rfl (.tmp 4) (.tmp 10) 84 rfl gr 0 w.heap.size 84 32 (cb (List.replicate 32 0)) (cb (List.replicate 32 0)) rfl rfl 32 (len_zb 32) (by kernel_rfl) (hFr.lower (base' := w.heap.size) (by omega)) (by omega) (cb_one _) w hB2 (by omega) ?_; intro w7 hF7 hB7 ho7 hz7))
  rw [splice_32 _ _ List.length_replicate List.length_replicate] at hF7
  exact bodyPost_ct rfl rfl _ rfl (cb (List.replicate 32 0)) 32 (len_zb 32) (by kernel_rfl) hF7.sees rfl ⟨rfl, hB7⟩
set_option maxHeartbeats 2000000 in
set_option maxRecDepth 100000 in
theorem rRoot_yes (first keys : List UInt32) (h8 : first.length = 8) (h64 : keys.length = 64) (A : Option Addr) (n c : Nat) (ds : List (List UInt8)) (hd : Digs w A n ds) (h : Nat) (hh : h ≤ 8) (hn : n = 2 ^ h) (hc : n ≤ c) :
    Calls Try.prog 38 #[.agg (cw (first ++ keys)).toArray, .slice A n c] w fun e w' => e = .returned (.tuple #[.agg (cb (rootF (Dg.tabO first keys h8) ds h)).toArray, .int .i64 0]) ∧ Below w.heap.size w w' := by
  have HK : Hid ((cw (first ++ keys)).length = 72) := Lib.hid (by simp [h8, h64])
  have hn256 : n ≤ 256 := by rw [hn]; exact Nat.le_trans (Nat.pow_le_pow_right (by decide) hh) (by decide)
  have HM := Lib.hid (fun w => rheight_any n (by omega) (h : Int) (.inl ⟨h, hh, hn, rfl⟩) (w := w))
  have HR := Lib.hid (fun w' (hb : Below w.heap.size w w') => rroot_any first keys h8 h64 h w' A n c ds hh (hd.step hb) hn hc)
  have HRL : Hid ((rootF (Dg.tabO first keys h8) ds h).length = 32) := Lib.hid (len_rootF (Dg.tabO first keys h8) (by rw [hd.len, hn]) hd.all)
  clear hn hc hd
  revert HR HRL
  generalize rootF (Dg.tabO first keys h8) ds h = R
  intro HR HRL
  go_enter Try.func38, Try.ntmps38
  go_wp2_with (first
    | (with_reducible refine wpList_box (o := ⟨some 2, _, _, _, _, _⟩) rfl (.tmp 0) 79 rfl (cw (first ++ keys)) rfl 72 HK.out (by decide) ?_; intro gt w1 hgt hFt hBt; have z1 := hBt.size)
    | (with_reducible refine wpList_alloc (o := ⟨some 4, _, _, _, _, _⟩) rfl 84 rfl (cb (List.replicate 32 0)) (by kernel_rfl) 32 (len_zb 32) (by decide) ?_; intro gr w3 hgr hFr hBr; have hB2 := Below.then_ hBt hBr; have hT3 := hFt.below hBr)
    | (go_at_call 86; refine (HM.out w3).mono ?_; rintro e w4 ⟨rfl, rfl⟩)
    | (with_reducible refine wpList_load (o := ⟨some 11, _, _, _, _, _⟩) rfl (.tmp 2) 79 rfl gt 0 _ rfl (cw (first ++ keys)) 72 HK.out (by kernel_rfl) hT3.sees ?_)
    | (go_at_call 87; have hroot := HR.out _ hB2; (rw [cw, List.map_append] at hroot); refine hroot.mono ?_; rintro e w5 ⟨rfl, hB5⟩; have hB25 := Below.then_ hB2 hB5)
    | (with_reducible refine wpList_store rfl rfl (.tmp 4) (.tmp 13) 84 rfl gr 0 w.heap.size 84 32 (cb (List.replicate 32 0)) (cb R) rfl rfl 32 (by rw [List.length_map]; exact HRL.out) (by kernel_rfl) ((hFr.below hB5).lower (base' := w.heap.size) (by omega)) (by omega) (cb_one _) w hB25 (by omega) ?_; intro w7 hF7 hB7 ho7 hz7))
  rw [splice_32 _ _ List.length_replicate HRL.out] at hF7
  exact bodyPost_ct rfl rfl _ rfl (cb R) 32 (by rw [List.length_map]; exact HRL.out) (by kernel_rfl) hF7.sees rfl ⟨rfl, hB7⟩
set_option maxHeartbeats 2000000 in
set_option maxRecDepth 100000 in
theorem rClimb_no (first keys : List UInt32) (h8 : first.length = 8) (h64 : keys.length = 64) (x : List UInt8) (hx : x.length = 32) (leaf : Int) (A : Option Addr) (n c : Nat) (hr : rightB leaf n = false) :
    Calls Try.prog 42 #[.agg (cw (first ++ keys)).toArray, .agg (cb x).toArray, .agg #[.int .i64 leaf, .slice A n c]] w fun e w' => e = .returned (.tuple #[.agg (cb (List.replicate 32 0)).toArray, .int .i64 2]) ∧ Below w.heap.size w w' := by
  have HK : Hid ((cw (first ++ keys)).length = 72) := Lib.hid (by simp [h8, h64])
  have HX := Lib.hid hx
  have hR := fun w => rRight_any leaf A n c (w := w)
  rw [hr] at hR
  have HR := Lib.hid hR
  clear hx hR hr
  go_enter Try.func42, Try.ntmps42
  go_wp2_with (first
    | (with_reducible refine wpList_box (o := ⟨some 3, _, _, _, _, _⟩) rfl (.tmp 0) 79 rfl (cw (first ++ keys)) rfl 72 HK.out (by decide) ?_; intro gt w0 hgt hFt hBt; have z0 := hBt.size; have l0 := hFt.lt_size)
    | (with_reducible refine wpList_box (o := ⟨some 4, _, _, _, _, _⟩) rfl (.tmp 1) 84 rfl (cb x) rfl 32 (by rw [List.length_map]; exact HX.out) (by decide) ?_; intro gx w1 hgx hFx hBx; have z1 := hBx.size; have l1 := hFx.lt_size)
    | (with_reducible refine wpList_box (o := ⟨some 5, _, _, _, _, _⟩) rfl (.tmp 2) 82 rfl [.int .i64 leaf, .slice A n c] rfl 2 rfl (by decide) ?_; intro gp w2 hgp hFp hBp; have z2 := hBp.size; have l2 := hFp.lt_size)
    | (with_reducible refine wpList_alloc (o := ⟨some 6, _, _, _, _, _⟩) rfl 84 rfl (cb (List.replicate 32 0)) (by kernel_rfl) 32 (len_zb 32) (by decide) ?_; intro gr w3 hgr hFr hBr; have hB03 := Below.then_ (Below.then_ (Below.then_ hBt hBx) hBp) hBr; have l3 := hFr.lt_size)
    | (with_reducible refine wpList_load (o := ⟨some 10, _, _, _, _, _⟩) rfl (.tmp 5) 82 rfl gp 0 _ rfl [.int .i64 leaf, .slice A n c] 2 rfl (by kernel_rfl) (hFp.below hBr).sees ?_)
    | (go_at_call 45; refine (HR.out w3).mono ?_; rintro e w4 ⟨rfl, hB4⟩; have hB04 := Below.then_ hB03 hB4; have hp4 := (hFp.below hBr).below hB4; have hc0 : w4.cell? ⟨gp, 0, none⟩ = some (.int .i64 leaf) := hp4.cell_ rfl; have hc1 : w4.cell? ⟨gp, 1, none⟩ = some (.slice A n c) := hp4.cell_ rfl)
    | (with_reducible refine wpList_bz rfl rfl bdz ?_)
    | (with_reducible refine wpList_store rfl rfl (.tmp 6) (.tmp 13) 84 rfl gr 0 w.heap.size 84 32 (cb (List.replicate 32 0)) (cb (List.replicate 32 0)) rfl rfl 32 (len_zb 32) (by kernel_rfl) ((hFr.below hB4).lower (base' := w.heap.size) (by omega)) (by omega) (cb_one _) w hB04 (by omega) ?_; intro w7 hF7 hB7 ho7 hz7))
  rw [splice_32 _ _ List.length_replicate List.length_replicate] at hF7
  exact bodyPost_ct rfl rfl _ rfl (cb (List.replicate 32 0)) 32 (len_zb 32) (by kernel_rfl) hF7.sees rfl ⟨rfl, hB7⟩
set_option maxHeartbeats 4000000 in
set_option maxRecDepth 100000 in
theorem rClimb_yes (first keys : List UInt32) (h8 : first.length = 8) (h64 : keys.length = 64) (x : List UInt8) (hx : x.length = 32) (leaf : Nat) (A : Option Addr) (n c : Nat) (ds : List (List UInt8)) (hd : Digs w A n ds) (hn : n ≤ 8) (hl : leaf < 2 ^ n) :
    Calls Try.prog 42 #[.agg (cw (first ++ keys)).toArray, .agg (cb x).toArray, .agg #[.int .i64 (leaf : Int), .slice A n c]] w fun e w' => e = .returned (.tuple #[.agg (cb (climbF (Dg.tabO first keys h8) x leaf ds)).toArray, .int .i64 0]) ∧ Below w.heap.size w w' := by
  have HK : Hid ((cw (first ++ keys)).length = 72) := Lib.hid (by simp [h8, h64])
  have HX := Lib.hid hx
  have hR := fun w => rRight_any (leaf : Int) A n c (w := w)
  have hq : (2 : Nat) ^ n ≤ 256 := Nat.le_trans (Nat.pow_le_pow_right (by decide) hn) (by decide)
  have hlt9 : leaf < 256 := by omega
  rw [show rightB (leaf : Int) n = true from by
    unfold rightB
    rw [decide_eq_true_iff]
    refine ⟨hn, by omega, ?_⟩
    have e : ((2 ^ n : Nat) : Int) = 2 ^ n := by simp
    rw [← e]
    omega] at hR
  have HR := Lib.hid hR
  have HLN := Lib.hid hd.len
  have HAL := Lib.hid hd.all
  have HND := Lib.hid (fun w' (a b : List UInt8) ha hb => rNode_any first keys h8 h64 a b ha hb (w := w'))
  clear hx hR hl hq
  go_enter Try.func42, Try.ntmps42
  go_wp2_with (first
    | (with_reducible refine wpList_box (o := ⟨some 3, _, _, _, _, _⟩) rfl (.tmp 0) 79 rfl (cw (first ++ keys)) rfl 72 HK.out (by decide) ?_; intro gt w0 hgt hFt hBt; have z0 := hBt.size; have l0 := hFt.lt_size)
    | (with_reducible refine wpList_box (o := ⟨some 4, _, _, _, _, _⟩) rfl (.tmp 1) 84 rfl (cb x) rfl 32 (by rw [List.length_map]; exact HX.out) (by decide) ?_; intro gx w1 hgx hFx hBx; have z1 := hBx.size; have l1 := hFx.lt_size)
    | (with_reducible refine wpList_box (o := ⟨some 5, _, _, _, _, _⟩) rfl (.tmp 2) 82 rfl [.int .i64 (leaf : Int), .slice A n c] rfl 2 rfl (by decide) ?_; intro gp w2 hgp hFp hBp; have z2 := hBp.size; have l2 := hFp.lt_size)
    | (with_reducible refine wpList_alloc (o := ⟨some 6, _, _, _, _, _⟩) rfl 84 rfl (cb (List.replicate 32 0)) (by kernel_rfl) 32 (len_zb 32) (by decide) ?_; intro gr w3 hgr hFr hBr; have hB03 := Below.then_ (Below.then_ (Below.then_ hBt hBx) hBp) hBr; have l3 := hFr.lt_size)
    | (with_reducible refine wpList_load (o := ⟨some 10, _, _, _, _, _⟩) rfl (.tmp 5) 82 rfl gp 0 _ rfl [.int .i64 (leaf : Int), .slice A n c] 2 rfl (by kernel_rfl) (hFp.below hBr).sees ?_)
    | (go_at_call 45; refine (HR.out w3).mono ?_; rintro e w4 ⟨rfl, hB4⟩; have hB04 := Below.then_ hB03 hB4; have hp4 := (hFp.below hBr).below hB4; have hc0 : w4.cell? ⟨gp, 0, none⟩ = some (.int .i64 (leaf : Int)) := hp4.cell_ rfl; have hc1 : w4.cell? ⟨gp, 1, none⟩ = some (.slice A n c) := hp4.cell_ rfl)
    | fail)
  have hgp2 : w.heap.size ≤ gp := by omega
  have hgx2 : w.heap.size ≤ gx := by omega
  have hgt2 : w.heap.size ≤ gt := hgt
  have hgr2 : w.heap.size ≤ gr := by omega
  have ft := (((hFt.below hBx).below hBp).below hBr).below hB4
  have fx := (((hFx.below hBp).below hBr).below hB4).lower (base' := w.heap.size) (by omega)
  have fp := ((hFp.below hBr).below hB4).lower (base' := w.heap.size) (by omega)
  have fr := (hFr.below hB4).lower (base' := w.heap.size) (by omega)
  have nrx : gr ≠ gx := by omega
  have npx : gp ≠ gx := by omega
  have ntx : gt ≠ gx := by omega
  clear hFt hFx hFp hFr hBt hBx hBp hBr hB4 hB03 hgx hgp hgr hgt z0 z1 z2 l0 l1 l2 l3 hc0 hc1 hp4
  go_loopw [8, 9] (fun pv iv wr => ∃ (k : Nat) (X : List UInt8) (place : Nat), k ≤ n ∧ iv = .int .i64 (k : Int) ∧ pv = .int .i64 (place : Int) ∧ Hid (place = leaf / 2 ^ k) ∧ Hid (climbF (Dg.tabO first keys h8) x leaf ds = climbF (Dg.tabO first keys h8) X place (ds.drop k)) ∧ Hid (X.length = 32) ∧ Fresh w.heap.size 84 wr (some ⟨gx, 0, none⟩) 32 32 (cb X) ∧ Fresh w.heap.size 84 wr (some ⟨gr, 0, none⟩) 32 32 (cb (List.replicate 32 0)) ∧ Fresh w.heap.size 79 wr (some ⟨gt, 0, none⟩) 72 72 (cw (first ++ keys)) ∧ Fresh w.heap.size 82 wr (some ⟨gp, 0, none⟩) 2 2 [.int .i64 (leaf : Int), .slice A n c] ∧ Below w.heap.size w wr) (fun _ iv _ => n - (intOf iv).toNat)
  case atStart => exact ⟨0, x, leaf, by omega, rfl, rfl, Lib.hid (by simp), Lib.hid (by simp), HX, fx, fr, ft, fp, hB04⟩
  case round =>
    clear fx fr ft fp hB04
    obtain ⟨k, X, place, hk, rfl, rfl, HP, HC, HXL, fx, fr, ft, fp, hB⟩ := hrel
    have hplt : place < 1000000 := by
      rw [HP.out]
      exact Nat.lt_of_le_of_lt (Nat.div_le_self _ _) (by omega)
    have hc1 : wr.cell? ⟨gp, 1, none⟩ = some (.slice A n c) := fp.cell_ rfl
    by_cases hlt : k < n
    · obtain ⟨g, o, rfl, hgB, hS, hDL⟩ := (hd.step hB).at_ hlt
      have HDL := Lib.hid hDL
      have hzr := hB.size
      clear hDL
      by_cases hp2 : place % 2 = 0
      · have hpar := Lib.hid hp2
        have hpi : ((place : Int)).tmod 2 = 0 := by rw [Int.tmod_eq_emod_of_nonneg (by omega)]; omega
        go_upto_region 8 with fail
        refine region_all_tail 8 (rc8 (cw (first ++ keys)) gp g o n c k X (dAt ds k) (nodeF (Dg.tabO first keys h8) X (dAt ds k))) (by kernel_rfl) (by kernel_rfl) (by kernel_rfl) (rc8_stab _ _ _ _ _ _ _ _ _ _) ?_ ?_
        · intro w0 hb0
          simp only [List.take_succ_cons, List.take_zero]
          refine ⟨?_, ?_, ?_, ?_, ?_, ?_, ?_, ?_, trivial⟩
          all_goals intro listed a1 w' hk1 hd1
          · have f3_ : a1.eval (.tmp 3) = .pointer (some ⟨gt, 0, none⟩) := hk1.ev_old 3 (by kernel_rfl)
            exact stepOk_value rfl (run_load_agg (.tmp 3) 79 rfl f3_ (cw (first ++ keys)) 72 HK.out (by kernel_rfl) ((ft.below hb0).below hk1.below).sees) rfl
          · have f4_ : a1.eval (.tmp 4) = .pointer (some ⟨gx, 0, none⟩) := hk1.ev_old 4 (by kernel_rfl)
            exact stepOk_value rfl (run_load_agg (.tmp 4) 84 rfl f4_ (cb X) 32 (by rw [List.length_map]; exact HXL.out) (by kernel_rfl) ((fx.below hb0).below hk1.below).sees) rfl
          · have f5_ : a1.eval (.tmp 5) = .pointer (some ⟨gp, 0, none⟩) := hk1.ev_old 5 (by kernel_rfl)
            have g5_ : a1.tmps[5]?.getD undef = .pointer (some ⟨gp, 0, none⟩) := by simpa [Act.eval] using f5_
            exact stepOk_value rfl (v := .pointer (some ⟨gp, 1, none⟩)) (by go_simp) rfl
          · obtain ⟨y2, e2, q2, rfl⟩ := hk1.ev_new hd1 2 28 (by kernel_rfl) rfl
            have hc1' : w'.cell? ⟨gp, 1, none⟩ = some (.slice (some ⟨g, o, none⟩) n c) := ((fp.below hb0).below hk1.below).cell_ rfl
            exact stepOk_value rfl (v := .slice (some ⟨g, o, none⟩) n c) (by go_simp) rfl
          · have f9_ : a1.eval (.tmp 9) = .int .i64 (k : Int) := hk1.ev_old 9 (by kernel_rfl)
            have g9_ : a1.tmps[9]?.getD undef = .int .i64 (k : Int) := by simpa [Act.eval] using f9_
            exact stepOk_value rfl (v := .int .i64 (k : Int)) (by go_simp) rfl
          · obtain ⟨y3, e3, q3, rfl⟩ := hk1.ev_new hd1 3 29 (by kernel_rfl) rfl
            obtain ⟨y4, e4, q4, rfl⟩ := hk1.ev_new hd1 4 30 (by kernel_rfl) rfl
            exact stepOk_value rfl (run_ixL (.tmp 29) (.tmp 30) rfl e3 e4 (j := k) rfl hlt rfl) rfl
          · obtain ⟨y5, e5, q5, rfl⟩ := hk1.ev_new hd1 5 31 (by kernel_rfl) rfl
            exact stepOk_value rfl (run_load_agg (.tmp 31) 84 rfl e5 (cb (dAt ds k)) 32 (by rw [List.length_map]; exact HDL.out) (by kernel_rfl) ((hS.step hb0).step hk1.below)) rfl
          · obtain ⟨y0, e0, q0, rfl⟩ := hk1.ev_new hd1 0 26 (by kernel_rfl) rfl
            obtain ⟨y1, e1, q1, rfl⟩ := hk1.ev_new hd1 1 27 (by kernel_rfl) rfl
            obtain ⟨y6, e6, q6, rfl⟩ := hk1.ev_new hd1 6 32 (by kernel_rfl) rfl
            refine stepOk_enter rfl (f := 47) (args := #[.agg (cw (first ++ keys)).toArray, .agg (cb X).toArray, .agg (cb (dAt ds k)).toArray]) (by go_simp) ?_
            refine (HND.out w' X (dAt ds k) HXL.out HDL.out).mono ?_
            rintro e w5 ⟨rfl, hB5⟩
            exact ⟨_, rfl, rfl, hB5⟩
        · intro a1 w7 hb7 hp
          obtain ⟨x0, p0, x1, p1, x2, p2, x3, p3, x4, p4, x5, p5, x6, p6, x7, p7, rfl⟩ := hp
          simp only [rc8] at p0 p1 p2 p3 p4 p5 p6 p7
          subst p0 p1 p2 p3 p4 p5 p6 p7
          simp only [List.drop_succ_cons, List.drop_zero, Act.put, List.setIfInBounds_toArray, List.set_cons_succ, List.set_cons_zero]
          have hB06 := Below.then_ hB hb7
          clear hc1
          go_wp2_with (with_reducible refine wpList_store rfl rfl (.tmp 4) (.tmp 33) 84 rfl gx 0 w.heap.size 84 32 (cb X) (cb (nodeF (Dg.tabO first keys h8) X (dAt ds k))) rfl rfl 32 (by rw [List.length_map]; exact len_nodeF _ _ _) (by kernel_rfl) (fx.below hb7) (by omega) (cb_one _) w hB06 hgx2 ?_; intro w8 hF7 hB7 ho7 hz7)
          rw [splice_32 X _ HXL.out (len_nodeF _ _ _)] at hF7
          have fr7 := (fr.below hb7).other nrx ho7
          have ft7 := (ft.below hb7).other ntx ho7
          have fp7 := (fp.below hb7).other npx ho7
          go_roundw
          case rel =>
            refine ⟨k + 1, (nodeF (Dg.tabO first keys h8) X (dAt ds k)), place / 2, by omega, by go_num, ?_, Lib.hid ?_, Lib.hid ?_, Lib.hid (len_nodeF _ _ _), hF7, fr7, ft7, fp7, hB7⟩
            · go_num
            · rw [HP.out, Nat.div_div_eq_div_mul, Nat.pow_succ]
            · rw [HC.out, List.drop_eq_getElem_cons (by rw [HLN.out]; exact hlt), climbF, dAt_lt (by rw [HLN.out]; exact hlt)]
              congr 1
              exact if_pos hpar.out
          case measure => simp [intOf]; omega
      · have hpar := Lib.hid hp2
        have hpi : ((place : Int)).tmod 2 = 1 := by rw [Int.tmod_eq_emod_of_nonneg (by omega)]; omega
        go_upto_region 9 with fail
        refine region_all_tail 8 (rc9 (cw (first ++ keys)) gp g o n c k X (dAt ds k) (nodeF (Dg.tabO first keys h8) (dAt ds k) X)) (by kernel_rfl) (by kernel_rfl) (by kernel_rfl) (rc9_stab _ _ _ _ _ _ _ _ _ _) ?_ ?_
        · intro w0 hb0
          simp only [List.take_succ_cons, List.take_zero]
          refine ⟨?_, ?_, ?_, ?_, ?_, ?_, ?_, ?_, trivial⟩
          all_goals intro listed a1 w' hk1 hd1
          · have f3_ : a1.eval (.tmp 3) = .pointer (some ⟨gt, 0, none⟩) := hk1.ev_old 3 (by kernel_rfl)
            exact stepOk_value rfl (run_load_agg (.tmp 3) 79 rfl f3_ (cw (first ++ keys)) 72 HK.out (by kernel_rfl) ((ft.below hb0).below hk1.below).sees) rfl
          · have f5_ : a1.eval (.tmp 5) = .pointer (some ⟨gp, 0, none⟩) := hk1.ev_old 5 (by kernel_rfl)
            have g5_ : a1.tmps[5]?.getD undef = .pointer (some ⟨gp, 0, none⟩) := by simpa [Act.eval] using f5_
            exact stepOk_value rfl (v := .pointer (some ⟨gp, 1, none⟩)) (by go_simp) rfl
          · obtain ⟨y1, e1, q1, rfl⟩ := hk1.ev_new hd1 1 35 (by kernel_rfl) rfl
            have hc1' : w'.cell? ⟨gp, 1, none⟩ = some (.slice (some ⟨g, o, none⟩) n c) := ((fp.below hb0).below hk1.below).cell_ rfl
            exact stepOk_value rfl (v := .slice (some ⟨g, o, none⟩) n c) (by go_simp) rfl
          · have f9_ : a1.eval (.tmp 9) = .int .i64 (k : Int) := hk1.ev_old 9 (by kernel_rfl)
            have g9_ : a1.tmps[9]?.getD undef = .int .i64 (k : Int) := by simpa [Act.eval] using f9_
            exact stepOk_value rfl (v := .int .i64 (k : Int)) (by go_simp) rfl
          · obtain ⟨y2, e2, q2, rfl⟩ := hk1.ev_new hd1 2 36 (by kernel_rfl) rfl
            obtain ⟨y3, e3, q3, rfl⟩ := hk1.ev_new hd1 3 37 (by kernel_rfl) rfl
            exact stepOk_value rfl (run_ixL (.tmp 36) (.tmp 37) rfl e2 e3 (j := k) rfl hlt rfl) rfl
          · obtain ⟨y4, e4, q4, rfl⟩ := hk1.ev_new hd1 4 38 (by kernel_rfl) rfl
            exact stepOk_value rfl (run_load_agg (.tmp 38) 84 rfl e4 (cb (dAt ds k)) 32 (by rw [List.length_map]; exact HDL.out) (by kernel_rfl) ((hS.step hb0).step hk1.below)) rfl
          · have f4_ : a1.eval (.tmp 4) = .pointer (some ⟨gx, 0, none⟩) := hk1.ev_old 4 (by kernel_rfl)
            exact stepOk_value rfl (run_load_agg (.tmp 4) 84 rfl f4_ (cb X) 32 (by rw [List.length_map]; exact HXL.out) (by kernel_rfl) ((fx.below hb0).below hk1.below).sees) rfl
          · obtain ⟨y0, e0, q0, rfl⟩ := hk1.ev_new hd1 0 34 (by kernel_rfl) rfl
            obtain ⟨y5, e5, q5, rfl⟩ := hk1.ev_new hd1 5 39 (by kernel_rfl) rfl
            obtain ⟨y6, e6, q6, rfl⟩ := hk1.ev_new hd1 6 40 (by kernel_rfl) rfl
            refine stepOk_enter rfl (f := 47) (args := #[.agg (cw (first ++ keys)).toArray, .agg (cb (dAt ds k)).toArray, .agg (cb X).toArray]) (by go_simp) ?_
            refine (HND.out w' (dAt ds k) X HDL.out HXL.out).mono ?_
            rintro e w5 ⟨rfl, hB5⟩
            exact ⟨_, rfl, rfl, hB5⟩
        · intro a1 w7 hb7 hp
          obtain ⟨x0, p0, x1, p1, x2, p2, x3, p3, x4, p4, x5, p5, x6, p6, x7, p7, rfl⟩ := hp
          simp only [rc9] at p0 p1 p2 p3 p4 p5 p6 p7
          subst p0 p1 p2 p3 p4 p5 p6 p7
          simp only [List.drop_succ_cons, List.drop_zero, Act.put, List.setIfInBounds_toArray, List.set_cons_succ, List.set_cons_zero]
          have hB06 := Below.then_ hB hb7
          clear hc1
          go_wp2_with (with_reducible refine wpList_store rfl rfl (.tmp 4) (.tmp 41) 84 rfl gx 0 w.heap.size 84 32 (cb X) (cb (nodeF (Dg.tabO first keys h8) (dAt ds k) X)) rfl rfl 32 (by rw [List.length_map]; exact len_nodeF _ _ _) (by kernel_rfl) (fx.below hb7) (by omega) (cb_one _) w hB06 hgx2 ?_; intro w8 hF7 hB7 ho7 hz7)
          rw [splice_32 X _ HXL.out (len_nodeF _ _ _)] at hF7
          have fr7 := (fr.below hb7).other nrx ho7
          have ft7 := (ft.below hb7).other ntx ho7
          have fp7 := (fp.below hb7).other npx ho7
          go_roundw
          case rel =>
            refine ⟨k + 1, (nodeF (Dg.tabO first keys h8) (dAt ds k) X), place / 2, by omega, by go_num, ?_, Lib.hid ?_, Lib.hid ?_, Lib.hid (len_nodeF _ _ _), hF7, fr7, ft7, fp7, hB7⟩
            · go_num
            · rw [HP.out, Nat.div_div_eq_div_mul, Nat.pow_succ]
            · rw [HC.out, List.drop_eq_getElem_cons (by rw [HLN.out]; exact hlt), climbF, dAt_lt (by rw [HLN.out]; exact hlt)]
              congr 1
              exact if_neg hpar.out
          case measure => simp [intOf]; omega
    · obtain rfl : k = n := by omega
      have hfin : climbF (Dg.tabO first keys h8) X place (ds.drop k) = X := by rw [List.drop_of_length_le (by rw [HLN.out]; exact Nat.le_refl _), climbF]
      have HFIN := Lib.hid hfin
      clear hfin
      go_wp2_with (first
        | (with_reducible refine wpList_load (o := ⟨some 44, _, _, _, _, _⟩) rfl (.tmp 4) 84 rfl gx 0 _ rfl (cb X) 32 (by rw [List.length_map]; exact HXL.out) (by kernel_rfl) fx.sees ?_)
        | (with_reducible refine wpList_store rfl rfl (.tmp 6) (.tmp 44) 84 rfl gr 0 w.heap.size 84 32 (cb (List.replicate 32 0)) (cb X) rfl rfl 32 (by rw [List.length_map]; exact HXL.out) (by kernel_rfl) fr (by omega) (cb_one _) w hB hgr2 ?_; intro w7 hF7 hB7 ho7 hz7))
      rw [splice_32 _ _ List.length_replicate HXL.out] at hF7
      rw [HC.out, HFIN.out]
      exact bodyPost_ct rfl rfl _ rfl (cb X) 32 (by rw [List.length_map]; exact HXL.out) (by kernel_rfl) hF7.sees rfl ⟨rfl, hB7⟩
end
end Go.Proofs.Ytcfjbllmaejiaaa

namespace Go.Proofs.Ytcfjbllmaejiaaa
open Go.RowKit
set_option linter.unusedVariables false

def pgL : List (Nat × Nat) := [(8, 7), (7, 0)]
def pgJ (w0 w1 : World) (A : Option Addr) (h c : Nat) (P : List (List UInt8)) (Y : List UInt8) (sB sP : Nat) (listed : Array Bool) (act : Act) (w : World) : Prop :=
  w1.heap.size ≤ w.heap.size ∧ Below w0.heap.size w0 w ∧ (∀ b, b < w1.heap.size → some b ≠ (Value.slice A h c).ownBlock → w.heap[b]? = w1.heap[b]?) ∧
  (listed.getD 7 false = false → OwnD w0.heap.size w A h c P) ∧
  (listed.getD 6 false = true → listed.getD 7 false = false → ∃ g, act.tmps[sB]? = some (.slice (some ⟨g, 0, none⟩) 1 1) ∧ OwnD w0.heap.size w (some ⟨g, 0, none⟩) 1 1 [Y]) ∧
  (listed.getD 7 false = true → ∃ A' c', act.tmps[sP]? = some (.slice A' (h + 1) c') ∧ OwnD w0.heap.size w A' (h + 1) c' (P ++ [Y]) ∧ (listed.getD 8 false = true → act.tmps[8]? = some (.slice A' (h + 1) c'))) ∧
  (listed.getD 8 false = false → act.tmps[8]? = some (.slice A h c)) ∧ ordJ pgL listed
section
variable {w w' w0 w1 : World} {A : Option Addr} {h c sB sP : Nat} {P : List (List UInt8)} {Y : List UInt8} {listed : Array Bool} {act : Act}
theorem pgJ.start (k : Nat) (a0 : Act) (hw : w1.heap.size ≤ w.heap.size) (hb : Below w0.heap.size w0 w) (hk : ∀ b, b < w1.heap.size → w.heap[b]? = w1.heap[b]?) (hO : OwnD w0.heap.size w A h c P) (h8 : a0.tmps[8]? = some (.slice A h c)) : pgJ w0 w1 A h c P Y sB sP (Array.replicate k false) a0 w :=
  ⟨hw, hb, fun b h1 _ => hk b h1, fun _ => hO, fun e => (by rw [getD_rep] at e; cases e), fun e => (by rw [getD_rep] at e; cases e), fun _ => h8, ordJ.start _ _⟩
/-- An operation that does not touch the list. -/
theorem pgJ.other (H : pgJ w0 w1 A h c P Y sB sP listed act w) (i t : Nat) (v : Value) (h6 : i ≠ 6) (h7 : i ≠ 7) (h8 : i ≠ 8) (t1 : t ≠ sB) (t2 : t ≠ sP) (t3 : t ≠ 8) (y : Below w.heap.size w w') : pgJ w0 w1 A h c P Y sB sP (listed.setIfInBounds i true) (act.put (some t) v) w' := by
  obtain ⟨a0, b, k, a1, a2, a3, a4, a5⟩ := H
  refine ⟨Nat.le_trans a0 y.size, b.trans (y.mono b.size), fun j hj hn => (y.block j (Nat.lt_of_lt_of_le hj a0)).trans (k j hj hn), ?_, ?_, ?_, ?_, ?_⟩
  · rw [getD_setNeM _ _ _ h7]
    exact fun e => (a1 e).below y
  · rw [getD_setNeM _ _ _ h6, getD_setNeM _ _ _ h7, put_otherM _ _ _ _ t1]
    intro e1 e2
    obtain ⟨g, q1, q2⟩ := a2 e1 e2
    exact ⟨g, q1, q2.below y⟩
  · rw [getD_setNeM _ _ _ h7, getD_setNeM _ _ _ h8, put_otherM _ _ _ _ t2, put_otherM _ _ _ _ t3]
    intro e1
    obtain ⟨A', c', q1, q2, q3⟩ := a3 e1
    exact ⟨A', c', q1, q2.below y, q3⟩
  · rw [getD_setNeM _ _ _ h8, put_otherM _ _ _ _ t3]
    exact a4
  · refine a5.set i fun p hp e => ?_
    simp only [pgL, List.mem_cons, List.mem_nil_iff, or_false] at hp
    rcases hp with rfl | rfl
    · exact absurd e.symm h8
    · exact absurd e.symm h7
/-- The new digest, as a list of one. -/
theorem pgJ.one (H : pgJ w0 w1 A h c P Y sB sP listed act w) {g : Nat} (hO : OwnD w0.heap.size w' (some ⟨g, 0, none⟩) 1 1 [Y]) (hlt : sB < act.tmps.size) (t2 : sB ≠ sP) (t3 : sB ≠ 8) (y : Below w.heap.size w w') : pgJ w0 w1 A h c P Y sB sP (listed.setIfInBounds 6 true) (act.put (some sB) (.slice (some ⟨g, 0, none⟩) 1 1)) w' := by
  obtain ⟨a0, b, k, a1, a2, a3, a4, a5⟩ := H
  refine ⟨Nat.le_trans a0 y.size, b.trans (y.mono b.size), fun j hj hn => (y.block j (Nat.lt_of_lt_of_le hj a0)).trans (k j hj hn), ?_, ?_, ?_, ?_, ?_⟩
  · rw [getD_setNeM _ _ _ (by decide)]
    exact fun e => (a1 e).below y
  · exact fun _ _ => ⟨g, put_selfM _ _ _ hlt, hO⟩
  · rw [getD_setNeM _ _ _ (by decide), getD_setNeM _ _ _ (by decide), put_otherM _ _ _ _ t2, put_otherM _ _ _ _ t3]
    intro e1
    obtain ⟨A', c', q1, q2, q3⟩ := a3 e1
    exact ⟨A', c', q1, q2.below y, q3⟩
  · rw [getD_setNeM _ _ _ (by decide), put_otherM _ _ _ _ t3]
    exact a4
  · refine a5.set 6 fun p hp e => ?_
    simp only [pgL, List.mem_cons, List.mem_nil_iff, or_false] at hp
    rcases hp with rfl | rfl <;> cases e
/-- Ahead of the list's growing. -/
theorem pgJ.no8 (H : pgJ w0 w1 A h c P Y sB sP listed act w) (n : listed.getD 7 false = false) : listed.getD 8 false = false := by
  have := H.2.2.2.2.2.2.2 (8, 7) (by simp [pgL])
  cases e : listed.getD 8 false
  · rfl
  · rw [this e] at n
    cases n
theorem pgJ.no7 (H : pgJ w0 w1 A h c P Y sB sP listed act w) (n : listed.getD 0 false = false) : listed.getD 7 false = false := by
  have := H.2.2.2.2.2.2.2 (7, 0) (by simp [pgL])
  cases e : listed.getD 7 false
  · rfl
  · rw [this e] at n
    cases n
/-- What lies in new memory that is no list of digests, and stays. -/
theorem pgJ.sees (H : pgJ w0 w1 A h c P Y sB sP listed act w) {e : TypeId} {g n : Nat} {xs : List Value} (hF : Fresh w0.heap.size e w1 (some ⟨g, 0, none⟩) n n xs) (hO : OwnD w0.heap.size w1 A h c P) (hne : e ≠ 84) : Sees w w.heap.size (some ⟨g, 0, none⟩) xs := by
  have hb := hF.lt_size
  have hn : some g ≠ (Value.slice A h c).ownBlock := by
    rcases fresh_unlikeD hF hO hne with k | k
    · simp [Value.ownBlock] at k
    · exact k
  exact hF.sees.keepAt (H.2.2.1 g hb hn) H.1
/-- The list's growing, as one run. -/
theorem pgJ.app (H : pgJ w0 w1 A h c P Y sB sP listed act w) (s x : Operand) (h1 : listed.getD 7 true = false) (l0 : listed.getD 0 false = true) (l6 : listed.getD 6 false = true) (hs : act.eval s = .slice A h c) (hx : ∀ g, act.tmps[sB]? = some (.slice (some ⟨g, 0, none⟩) 1 1) → act.eval x = .slice (some ⟨g, 0, none⟩) 1 1) (hh : h ≤ 1000) (hlt : sP < act.tmps.size) (t3 : sP ≠ 8) :
    ∃ A' c' w', (∀ o : Oper, o.op = .call { callee := .builtin .append, args := #[s, x], argTypes := #[80, 80] } → o.type = 80 → (execOp act.eval o).run Try.prog w = .ok (.value (.slice A' (h + 1) c')) w') ∧ pgJ w0 w1 A h c P Y sB sP (listed.setIfInBounds 7 true) (act.put (some sP) (.slice A' (h + 1) c')) w' := by
  obtain ⟨s_, n_⟩ := sizeOf_getM h1
  have n8 := H.no8 n_
  obtain ⟨a0, b, k, a1, a2, a3, a4, a5⟩ := H
  have hO := a1 n_
  obtain ⟨g, q1, hY⟩ := a2 l6 n_
  have hx' := hx g q1
  obtain ⟨i0, hi, hz0, hz1, hz2⟩ := info_parts infoD
  have hrd := hY.digs.read rfl
  have hYl : Y.length = 32 := hY.all Y (by simp)
  have hbs := b.size
  obtain ⟨v', w', hr, hown, hgr, hnil, hat⟩ := run_append_own_at (P := Try.prog) w w0.heap.size 80 80 84 i0 (.agg (cb (List.replicate 32 0)).toArray) 32 32 Try.underlying80 hi hz0 hz1 hz2 (by simp [Value.cells]) (by omega) (.slice A h c) h _ hO.row ⟨g, 0, none⟩ 1 1 (cb [Y].flatten) (by simp [hYl]) hrd (cb_one _) (by unfold maxLen; omega) (by omega) hbs
  obtain ⟨A', c', rfl⟩ : ∃ A' c', v' = .slice A' (h + 1) c' := by
    rcases hown.2 with ⟨rfl, h0⟩ | ⟨g', cap, cu, rfl, _⟩
    · simp at h0
    · exact ⟨_, _, rfl⟩
  refine ⟨A', c', w', ?_, Nat.le_trans a0 hgr.size, b.grown hgr b.size (fun k hk => (hO.row.lt k hk).1), fun j hj hn => (hgr.block j (Nat.lt_of_lt_of_le hj a0) hn).trans (k j hj hn), ?_, ?_, ?_, ?_, ?_⟩
  · intro o hop hty
    unfold execOp
    rw [hop]
    simp only [resolve, invoke, builtin, hty, Sem.run_bind, Sem.run_pure, Result.andThen_ok, List.map_toArray, List.map_cons, List.map_nil, hs, hx', hr]
  · rw [getD_setEqM _ _ s_]
    intro e; cases e
  · rw [getD_setEqM _ _ s_]
    intro _ e; cases e
  · intro _
    refine ⟨A', c', put_selfM _ _ _ hlt, ⟨by rw [List.flatten_append, ← cb_app]; exact hown, all_app hO.all hY.all⟩, ?_⟩
    rw [getD_setNeM _ _ _ (by decide), n8]
    intro e; cases e
  · rw [getD_setNeM _ _ _ (by decide), put_otherM _ _ _ _ t3]
    exact a4
  · refine a5.set 7 fun p hp e => ?_
    simp only [pgL, List.mem_cons, List.mem_nil_iff, or_false] at hp
    rcases hp with rfl | rfl
    · cases e
    · exact l0
/-- The list, laid down. -/
theorem pgJ.asg (H : pgJ w0 w1 A h c P Y sB sP listed act w) (h1 : listed.getD 8 true = false) (l7 : listed.getD 7 false = true) (v : Value) (hv : act.tmps[sP]? = some v) (hlt : 8 < act.tmps.size) (t1 : 8 ≠ sB) (t2 : 8 ≠ sP) : pgJ w0 w1 A h c P Y sB sP (listed.setIfInBounds 8 true) (act.put (some 8) v) w := by
  obtain ⟨s_, n_⟩ := sizeOf_getM h1
  obtain ⟨a0, b, k, a1, a2, a3, a4, a5⟩ := H
  refine ⟨a0, b, k, ?_, ?_, ?_, ?_, ?_⟩
  · rw [getD_setNeM _ _ _ (by decide)]
    exact a1
  · rw [getD_setNeM _ _ _ (by decide), getD_setNeM _ _ _ (by decide), put_otherM _ _ _ _ t1]
    exact a2
  · rw [getD_setNeM _ _ _ (by decide), put_otherM _ _ _ _ t2]
    intro e1
    obtain ⟨A', c', q1, q2, q3⟩ := a3 e1
    refine ⟨A', c', q1, q2, fun _ => ?_⟩
    rw [put_selfM _ _ _ hlt, ← hv, q1]
  · rw [getD_setEqM _ _ s_]
    intro e; cases e
  · refine a5.set 8 fun p hp e => ?_
    simp only [pgL, List.mem_cons, List.mem_nil_iff, or_false] at hp
    rcases hp with rfl | rfl
    · exact l7
    · cases e
end
end Go.Proofs.Ytcfjbllmaejiaaa

namespace Go.Proofs.Ytcfjbllmaejiaaa
open Go.RowKit
set_option linter.unusedVariables false

def pkF (gp g o n c m cB at_ B0 : Nat) (B : Option Addr) (d : List UInt8) (k : Nat) (v : Value) (w : World) : Prop :=
  match k with
  | 0 => v = .pointer (some ⟨gp, 1, none⟩)
  | 1 => v = .slice B m cB
  | 2 => v = .slice (some ⟨g, o, none⟩) n c
  | 3 => v = .int .i64 (at_ : Int)
  | 4 => v = .pointer (some ⟨g, o + 32 * at_, none⟩)
  | 5 => v = .agg (cb d).toArray
  | 6 => ∃ gb, v = .slice (some ⟨gb, 0, none⟩) 1 1 ∧ Fresh B0 84 w (some ⟨gb, 0, none⟩) 32 32 (cb [d].flatten)
  | 8 => v = .pointer (some ⟨gp, 1, none⟩)
  | _ => True
theorem pkF_keep {gp g o n c m cB at_ B0 : Nat} {B : Option Addr} {d : List UInt8} {w w' : World} (hk : ∀ k, B0 ≤ k → k < w.heap.size → w'.heap[k]? = w.heap[k]?) : ∀ k v, pkF gp g o n c m cB at_ B0 B d k v w → pkF gp g o n c m cB at_ B0 B d k v w' := by
  intro k v h
  unfold pkF at *
  split at h <;> first | exact h | (obtain ⟨gb, h1, h2⟩ := h; exact ⟨gb, h1, h2.stayM hk⟩) | trivial
/-- Behind the path's growing; its new slice laid down, or not yet. -/
structure GrownK (w0 w1 : World) (gp leaf : Nat) (B : Option Addr) (m cB : Nat) (bs : List (List UInt8)) (d : List UInt8) (A' : Option Addr) (c' : Nat) (done : Bool) (w : World) : Prop where
  obj : Fresh w0.heap.size 82 w (some ⟨gp, 0, none⟩) 2 2 (match done with | true => [.int .i64 (leaf : Int), .slice A' (m + 1) c'] | false => [.int .i64 (leaf : Int), .slice B m cB])
  row : OwnD w0.heap.size w A' (m + 1) c' (bs ++ [d])
  keep : ∀ b, b < w1.heap.size → b ≠ gp → some b ≠ (Value.slice B m cB).ownBlock → w.heap[b]? = w1.heap[b]?
  size : w1.heap.size ≤ w.heap.size
  bel : Below w0.heap.size w0 w
  own : (Value.slice A' (m + 1) c').ownBlock = (Value.slice B m cB).ownBlock ∨ ∀ k, (Value.slice A' (m + 1) c').ownBlock = some k → w1.heap.size ≤ k
def pkJ (w0 w1 : World) (gp leaf : Nat) (B : Option Addr) (m cB : Nat) (bs : List (List UInt8)) (d : List UInt8) (listed : Array Bool) (act : Act) (w : World) : Prop :=
  w1.heap.size ≤ w.heap.size ∧ (listed.getD 7 false = false → Below w1.heap.size w1 w) ∧ (∀ b, b < w1.heap.size → b ≠ gp → some b ≠ (Value.slice B m cB).ownBlock → w.heap[b]? = w1.heap[b]?) ∧
  (listed.getD 7 false = true → ∃ A' c', act.tmps[79]? = some (.slice A' (m + 1) c') ∧ GrownK w0 w1 gp leaf B m cB bs d A' c' (listed.getD 9 false) w) ∧
  (listed.getD 7 false = true → listed.getD 1 false = true) ∧ (listed.getD 9 false = true → listed.getD 7 false = true)
section
variable {w w' w0 w1 : World} {gp leaf m cB c' : Nat} {B A' : Option Addr} {bs : List (List UInt8)} {d : List UInt8} {done : Bool} {listed : Array Bool} {act : Act}
theorem GrownK.below (h : GrownK w0 w1 gp leaf B m cB bs d A' c' done w) (y : Below w.heap.size w w') : GrownK w0 w1 gp leaf B m cB bs d A' c' done w' :=
  ⟨h.obj.below y, h.row.below y, fun b hb h1 h2 => (y.block b (Nat.lt_of_lt_of_le hb h.size)).trans (h.keep b hb h1 h2), Nat.le_trans h.size y.size, h.bel.trans (y.mono h.bel.size), h.own⟩
theorem GrownK.lay (h : GrownK w0 w1 gp leaf B m cB bs d A' c' false w) : GrownK w0 w1 gp leaf B m cB bs d A' c' true (w.setCell ⟨gp, 1, none⟩ (.slice A' (m + 1) c')) := by
  have ho : ∀ j, j ≠ gp → (w.setCell ⟨gp, 1, none⟩ (.slice A' (m + 1) c')).heap[j]? = w.heap[j]? := fun j hj => Below.heap_setCell _ _ _ _ hj
  have hb := h.obj.block
  exact ⟨h.obj.store 1 _, h.row.apart hb.1 (by decide) ho, fun b hb h1 h2 => (ho b h1).trans (h.keep b hb h1 h2), by simpa [World.setCell] using h.size, h.bel.setCell hb.2 _, h.own⟩
theorem pkJ.below (h : pkJ w0 w1 gp leaf B m cB bs d listed act w) (y : Below w.heap.size w w') : pkJ w0 w1 gp leaf B m cB bs d listed act w' := by
  obtain ⟨h1, h2, hK, h3, h4⟩ := h
  refine ⟨Nat.le_trans h1 y.size, fun e => (h2 e).trans (y.mono h1), fun b hb k1 k2 => (y.block b (by omega)).trans (hK b hb k1 k2), fun e => ?_, h4⟩
  obtain ⟨A', c', e1, e2⟩ := h3 e
  exact ⟨A', c', e1, e2.below y⟩
theorem pkJ.other (h : pkJ w0 w1 gp leaf B m cB bs d listed act w) (i t : Nat) (v : Value) (hi : i ≠ 7) (hi2 : i ≠ 9) (ht : t ≠ 79) : pkJ w0 w1 gp leaf B m cB bs d (listed.setIfInBounds i true) (act.put (some t) v) w := by
  obtain ⟨h1, h2, hK, h3, h4, h5⟩ := h
  refine ⟨h1, ?_, hK, ?_, ?_, ?_⟩
  · rw [getD_setNeM _ _ _ hi]
    exact h2
  · rw [getD_setNeM _ _ _ hi, getD_setNeM _ _ _ hi2, put_otherM _ _ _ _ ht]
    exact h3
  · rw [getD_setNeM _ _ _ hi]
    intro e
    by_cases e1 : i = 1
    · subst e1
      refine getD_setEqM _ _ ?_
      have := h4 e
      rcases Nat.lt_or_ge 1 listed.size with k | k
      · exact k
      · simp [Array.getElem?_eq_none k] at this
    · rw [getD_setNeM _ _ _ e1]
      exact h4 e
  · rw [getD_setNeM _ _ _ hi, getD_setNeM _ _ _ hi2]
    exact h5
theorem pkJ.not7 (h : pkJ w0 w1 gp leaf B m cB bs d listed act w) (hn : listed.getD 1 true = false) : listed.getD 7 false = false := by
  cases e : listed.getD 7 false
  · rfl
  · have k1 := h.2.2.2.2.1 e
    rw [(sizeOf_getM hn).2] at k1
    cases k1
end
end Go.Proofs.Ytcfjbllmaejiaaa

namespace Go.Proofs.Ytcfjbllmaejiaaa
open Go.RowKit
set_option linter.unusedVariables false

def pgF (RT : List Value) (A : Option Addr) (h c : Nat) (LA : Option Addr) (n c1 half : Nat) (V : Value) (Y : List UInt8) (j : Nat) (x : Value) (w : World) : Prop :=
  match j with
  | 0 => x = .slice A h c
  | 1 => x = .agg RT.toArray
  | 2 => x = .slice LA n c1
  | 3 => x = .int .i64 (half : Int)
  | 4 => x = V
  | 5 => x = .agg (cb Y).toArray
  | _ => True
theorem pgJ.fresh {w w0 w1 : World} {A : Option Addr} {h c sB sP : Nat} {P : List (List UInt8)} {Y : List UInt8} {listed : Array Bool} {act : Act} (H : pgJ w0 w1 A h c P Y sB sP listed act w) {e : TypeId} {g n : Nat} {xs : List Value} (hF : Fresh w0.heap.size e w1 (some ⟨g, 0, none⟩) n n xs) (hO : OwnD w0.heap.size w1 A h c P) (hne : e ≠ 84) (hx : xs.length = n) (hn : n ≤ 1000) : Fresh w0.heap.size e w (some ⟨g, 0, none⟩) n n xs := by
  have hb := hF.lt_size
  have hno : some g ≠ (Value.slice A h c).ownBlock := by
    rcases fresh_unlikeD hF hO hne with k | k
    · simp [Value.ownBlock] at k
    · exact k
  exact Fresh.of_block (by rw [H.2.2.1 g hb hno]; exact hF.block.1) hF.block.2 hx (by unfold maxLen; omega)
theorem OwnD.stay {w w' : World} {base : Nat} {A : Option Addr} {n c : Nat} {ds : List (List UInt8)} (h : OwnD base w A n c ds) (hk : ∀ k, (Value.slice A n c).ownBlock = some k → w'.heap[k]? = w.heap[k]?) : OwnD base w' A n c ds := by
  refine ⟨⟨h.row.1, ?_⟩, h.all⟩
  rcases h.row.2 with h3 | ⟨g', cap, cur, hv, hg, hh, hr⟩
  · exact .inl h3
  · exact .inr ⟨g', cap, cur, hv, hg, by rw [hk g' (by rw [hv]; rfl)]; exact hh, hr⟩
def lenV : Value → Nat
  | .slice _ n _ => n
  | _ => 0

section
variable {w : World}
set_option maxHeartbeats 8000000 in
set_option maxRecDepth 100000 in
theorem rPath_yes (first keys : List UInt32) (h8 : first.length = 8) (h64 : keys.length = 64) (A : Option Addr) (n c : Nat) (ds : List (List UInt8)) (hd : Digs w A n ds) (h : Nat) (hh : h ≤ 8) (hn : n = 2 ^ h) (hc : n ≤ c) (leaf : Nat) (hf : leaf < n) :
    Calls Try.prog 40 #[.agg (cw (first ++ keys)).toArray, .slice A n c, .int .i64 (leaf : Int)] w fun e w' => ∃ B cB, e = .returned (.tuple #[.agg #[.int .i64 (leaf : Int), .slice B h cB], .int .i64 0]) ∧ OwnD w.heap.size w' B h cB (pathF (Dg.tabO first keys h8) ds h leaf) ∧ Below w.heap.size w w' := by
  have HK : Hid ((cw (first ++ keys)).length = 72) := Lib.hid (by simp [h8, h64])
  have hn256 : n ≤ 256 := by rw [hn]; exact Nat.le_trans (Nat.pow_le_pow_right (by decide) hh) (by decide)
  have HM := Lib.hid (fun w => rheight_any n (by omega) (h : Int) (.inl ⟨h, hh, hn, rfl⟩) (w := w))
  have hl0 : decide ((leaf : Int) < 0) = false := by simp
  have hl1 : decide ((n : Int) ≤ (leaf : Int)) = false := by simp; omega
  have hh0 : decide ((h : Int) < 0) = false := by simp
  have HN := Lib.hid hn
  clear hn
  go_enter Try.func40, Try.ntmps40
  go_wp2_with (first
    | (with_reducible refine wpList_box (o := ⟨some 3, _, _, _, _, _⟩) rfl (.tmp 0) 79 rfl (cw (first ++ keys)) rfl 72 HK.out (by decide) ?_; intro gt w1 hgt hFt hBt; have z1 := hBt.size; have l1 := hFt.lt_size)
    | (with_reducible refine wpList_alloc (o := ⟨some 6, _, _, _, _, _⟩) rfl 82 rfl zPath (by kernel_rfl) 2 rfl (by decide) ?_; intro gr w3 hgr hFr hBr; have hB3 := Below.then_ hBt hBr; have l3 := hFr.lt_size)
    | (go_at_call 86; refine (HM.out w3).mono ?_; rintro e w4 ⟨rfl, rfl⟩))
  have ft := hFt.below hBr
  have fr := hFr.lower (base' := w.heap.size) (by omega)
  have hgr2 : w.heap.size ≤ gr := by omega
  clear hFt hFr hBt hBr hgt hgr z1 l1 l3
  go_loopw [1, 8, 9] (fun lv dv av wr => ∃ (j at_ m n' c' cD : Nat) (LA DA : Option Addr) (L P : List (List UInt8)), Hid (j + m = h) ∧ lv = .slice LA n' c' ∧ Hid (n' = 2 ^ j) ∧ n' ≤ c' ∧ n' ≤ 256 ∧ dv = .slice DA m cD ∧ av = .int .i64 (at_ : Int) ∧ at_ < n' ∧ Hid (pathF (Dg.tabO first keys h8) ds h leaf = pathF (Dg.tabO first keys h8) L j at_ ++ P.reverse) ∧ Digs w LA n' L ∧ OwnD w.heap.size wr DA m cD P ∧ Fresh w.heap.size 79 wr (some ⟨gt, 0, none⟩) 72 72 (cw (first ++ keys)) ∧ Fresh w.heap.size 82 wr (some ⟨gr, 0, none⟩) 2 2 zPath ∧ Below w.heap.size w wr) (fun lv _ _ _ => lenV lv)
  case atStart => exact ⟨h, leaf, 0, n, c, 0, A, none, ds, [], Lib.hid rfl, rfl, HN, hc, hn256, rfl, rfl, hf, Lib.hid (by simp), hd, OwnD.nil, ft, fr, hB3⟩
  case round =>
    clear ft fr hB3 hd HN hl1 hf hn256 hc
    obtain ⟨j, at_, m, n', c', cD, LA, DA, L, P, HJ, rfl, HN, hc, hn256, rfl, rfl, hat, HP, hd, hO, ft, fr, hB⟩ := hrel
    have hm8 : m ≤ 8 := by have := HJ.out; omega
    rcases j with _ | j
    · have hn1 : n' = 1 := by have := HN.out; simpa using this
      subst hn1
      have hL0 : pathF (Dg.tabO first keys h8) L 0 at_ = [] := rfl
      have HR : Hid (pathF (Dg.tabO first keys h8) ds h leaf = P.reverse) := Lib.hid (by rw [HP.out, hL0, List.nil_append])
      have hmh : h = m := by have := HJ.out; omega
      subst hmh
      rw [HR.out]
      have HPL := Lib.hid hO.len
      have HPA := Lib.hid hO.all
      clear HP HJ HN hL0 hd ft
      go_wp2_with (first
        | (with_reducible refine wpList_alloc (o := ⟨some 11, _, _, _, _, _⟩) rfl 82 rfl zPath (by kernel_rfl) 2 rfl (by decide) ?_; intro gp w5 hgp hFp hBp; have z5 := hBp.size)
        | (with_reducible refine wpList_store rfl rfl (.tmp 11) (.tmp 64) 82 rfl gp 0 _ 82 2 zPath [.int .i64 (leaf : Int), .slice none 0 0] rfl rfl 2 rfl (by kernel_rfl) hFp (by omega) (allOne_out (by kernel_rfl)) _ hBp hgp ?_; intro w6 hF6 hB6 ho6 hz6))
      rw [splice_pa _ _ rfl rfl] at hF6
      have hsz := hB.size
      have lr := fr.lt_size
      have nrp : gr ≠ gp := by omega
      have hgp2 : w.heap.size ≤ gp := by omega
      have fp6 := hF6.lower (base' := w.heap.size) (by omega)
      have fr6 := fr.below hB6
      have hO6 := hO.below hB6
      have hBw6 := Below.then_ hB hB6
      have hdis : ∀ g o, DA = some ⟨g, o, none⟩ → g ≠ gp := by
        intro g o e
        have hr := hO.row
        rcases hr.2 with ⟨kv, _⟩ | ⟨q, cap2, cur2, kv, _, kg, _⟩
        · injection kv with e1 e2 e3; rw [e] at e1; cases e1
        · injection kv with e1 e2 e3
          rw [e] at e1
          have : g = q := by simpa using congrArg (fun x => x.map Addr.block) e1
          have := (Array.getElem?_eq_some_iff.1 kg).1
          omega
      have HDIS := Lib.hid hdis
      clear hF6 hB6 ho6 hz6 hFp hBp fr hO hB hgp z5 hdis lr
      go_loopw [12] (fun iv wr => ∃ (i m cB : Nat) (B : Option Addr), Hid (i + m = h) ∧ i ≤ h ∧ m ≤ h ∧ iv = .int .i64 ((i : Int) - 1) ∧ Fresh w.heap.size 82 wr (some ⟨gp, 0, none⟩) 2 2 [.int .i64 (leaf : Int), .slice B m cB] ∧ OwnD w.heap.size wr B m cB (P.reverse.take m) ∧ OwnD w.heap.size wr DA h cD P ∧ Hid (∀ g o, DA = some ⟨g, o, none⟩ → some g ≠ (Value.slice B m cB).ownBlock) ∧ Fresh w.heap.size 82 wr (some ⟨gr, 0, none⟩) 2 2 zPath ∧ Below w.heap.size w wr) (fun iv _ => (intOf iv + 1).toNat)
      case atStart => exact ⟨h, 0, 0, none, Lib.hid rfl, by omega, by omega, rfl, fp6, OwnD.nil, hO6, Lib.hid (fun g o _ => by simp [Value.ownBlock]), fr6, hBw6⟩
      case round =>
        clear fp6 fr6 hO6 hBw6
        obtain ⟨i, m, cB, B, HI, hi, hm, rfl, fp, hrow, hO, HDIS, fr, hB⟩ := hrel
        have hhl := HPL.out
        rcases i with _ | i
        · obtain rfl : m = h := by have := HI.out; omega
          have hneg : ((0 : Nat) : Int) - 1 = -1 := by decide
          rw [hneg]
          go_wp2_with (first
            | (with_reducible refine wpList_load (o := ⟨some 81, _, _, _, _, _⟩) rfl (.tmp 11) 82 rfl gp 0 _ rfl [.int .i64 (leaf : Int), .slice B m cB] 2 rfl (by kernel_rfl) fp.sees ?_)
            | (with_reducible refine wpList_store rfl rfl (.tmp 6) (.tmp 81) 82 rfl gr 0 w.heap.size 82 2 zPath [.int .i64 (leaf : Int), .slice B m cB] rfl rfl 2 rfl (by kernel_rfl) fr (by omega) (allOne_out (by kernel_rfl)) w hB hgr2 ?_; intro w9 hF9 hB9 ho9 hz9))
          rw [splice_pa _ _ rfl rfl] at hF9
          have hrow9 := hrow.apart fr.block.1 (by decide) ho9
          rw [List.take_of_length_le (by rw [List.length_reverse, hhl]; exact Nat.le_refl _)] at hrow9
          exact bodyPost_ct rfl rfl _ rfl [.int .i64 (leaf : Int), .slice B m cB] 2 rfl (by kernel_rfl) hF9.sees rfl ⟨B, cB, rfl, by rw [HR.out]; exact hrow9, hB9⟩
        · have him := HI.out
          have hih : i < h := by omega
          obtain ⟨g, o, rfl, hgB, hS, hDL⟩ := hO.digs.at_ (k := i) hih
          have hgBo := HDIS.out g o rfl
          have hgp : g ≠ gp := by
            rcases fresh_unlikeD fp hO (by decide) with k | k
            · simp [Value.ownBlock] at k
            · intro e; exact k (by rw [← e]; rfl)
          have HT : Hid (P.reverse.take (m + 1) = P.reverse.take m ++ [dAt P i]) := Lib.hid (by
            rw [List.take_add_one, List.getElem?_reverse (by rw [hhl]; omega), show P.length - 1 - m = i from by rw [hhl]; omega, some_dAt (by rw [hhl]; exact hih)]
            rfl)
          obtain ⟨d, hdd⟩ : ∃ d, dAt P i = d := ⟨_, rfl⟩
          rw [hdd] at hS hDL HT
          have HDL := Lib.hid hDL
          have hBsz := hB.size
          have hiv : ((i + 1 : Nat) : Int) - 1 = (i : Int) := by omega
          rw [hiv]
          have hge : decide ((0 : Int) ≤ (i : Int)) = true := by simp
          clear hDL hdd hhl
          go_upto_region 17 with fail
          refine region_L (pkF gp g o h cD m cB i wr.heap.size B d) (pkJ w wr gp leaf B m cB (P.reverse.take m) d) (by kernel_rfl) (by kernel_rfl) ⟨Nat.le_refl _, fun _ => ⟨rfl, rfl, rfl, Nat.le_refl _, fun _ _ => rfl⟩, fun _ _ _ _ => rfl, fun h => (by simp at h), fun h => (by simp at h), fun h => (by simp at h)⟩ ?_ ?_
          · refine ⟨?_, ?_, ?_, ?_, ?_, ?_, ?_, ?_, ?_, ?_, trivial⟩
            all_goals intro listed a1 w' hk h1 hd
            · have f11_ : a1.eval (.tmp 11) = .pointer (some ⟨gp, 0, none⟩) := hk.ev_old 11 (by kernel_rfl)
              have g11_ : a1.tmps[11]?.getD undef = .pointer (some ⟨gp, 0, none⟩) := by simpa [Act.eval] using f11_
              exact stepL_value rfl (v := .pointer (some ⟨gp, 1, none⟩)) (by go_simp) rfl (hk.inv.other 0 72 _ (by omega) (by omega) (by omega))
            · obtain ⟨v0, e0, q0, rfl, l0⟩ := hk.ev_new hd 0 72 (by kernel_rfl) rfl
              have n7 := hk.inv.not7 h1
              have cc : w'.cell? ⟨gp, 1, none⟩ = some (.slice B m cB) := (fp.below (hk.inv.2.1 n7)).cell_ rfl
              exact stepL_value rfl (v := .slice B m cB) (by go_simp) rfl (hk.inv.other 1 73 _ (by omega) (by omega) (by omega))
            · have f8_ : a1.eval (.tmp 8) = .slice (some ⟨g, o, none⟩) h cD := hk.ev_old 8 (by kernel_rfl)
              have g8_ : a1.tmps[8]?.getD undef = .slice (some ⟨g, o, none⟩) h cD := by simpa [Act.eval] using f8_
              exact stepL_value rfl (v := .slice (some ⟨g, o, none⟩) h cD) (by go_simp) rfl (hk.inv.other 2 74 _ (by omega) (by omega) (by omega))
            · have f12_ : a1.eval (.tmp 12) = .int .i64 (i : Int) := hk.ev_old 12 (by kernel_rfl)
              have g12_ : a1.tmps[12]?.getD undef = .int .i64 (i : Int) := by simpa [Act.eval] using f12_
              exact stepL_value rfl (v := .int .i64 (i : Int)) (by go_simp) rfl (hk.inv.other 3 75 _ (by omega) (by omega) (by omega))
            · obtain ⟨v2, e2, q2, rfl, l2⟩ := hk.ev_new hd 2 74 (by kernel_rfl) rfl
              obtain ⟨v3, e3, q3, rfl, l3⟩ := hk.ev_new hd 3 75 (by kernel_rfl) rfl
              exact stepL_value rfl (run_ixL (.tmp 74) (.tmp 75) rfl e2 e3 (j := i) rfl hih rfl) rfl (hk.inv.other 4 76 _ (by omega) (by omega) (by omega))
            · obtain ⟨v4, e4, q4, rfl, l4⟩ := hk.ev_new hd 4 76 (by kernel_rfl) rfl
              exact stepL_value rfl (run_load_agg (.tmp 76) 84 rfl e4 (cb d) 32 (by rw [List.length_map]; exact HDL.out) (by kernel_rfl) (hS.keepAt (hk.inv.2.2.1 g hgB hgp hgBo) hk.inv.1)) rfl (hk.inv.other 5 77 _ (by omega) (by omega) (by omega))
            · obtain ⟨v5, e5, q5, rfl, l5⟩ := hk.ev_new hd 5 77 (by kernel_rfl) rfl
              have hba := below_alloc w' (.cells (cb [d].flatten).toArray 84)
              refine stepL_run rfl (v := .slice (some ⟨w'.heap.size, 0, none⟩) 1 1) (w' := w'.alloc (.cells (cb [d].flatten).toArray 84)) (exec_bs1 (.tmp 77) rfl d e5 HDL.out) ⟨w'.heap.size, rfl, (Fresh.new w' 84 (cb [d].flatten) 32 (by simp [HDL.out]) (by omega)).lower hk.inv.1⟩ ((hk.inv.below hba).other 6 78 _ (by omega) (by omega) (by omega)) (pkF_keep fun k _ hk2 => hba.block k hk2)
            · obtain ⟨v1, e1, q1, rfl, l1⟩ := hk.ev_new hd 1 73 (by kernel_rfl) rfl
              obtain ⟨v6, e6, q6, hv6, l6⟩ := hk.ev_new hd 6 78 (by kernel_rfl) rfl
              obtain ⟨gb, rfl, hgb⟩ := hv6
              obtain ⟨s8, n8⟩ := sizeOf_getM h1
              have n10 : listed.getD 9 false = false := by
                cases e : listed.getD 9 false
                · rfl
                · rw [hk.inv.2.2.2.2.2 e] at n8; cases n8
              have hb0 := hk.inv.2.1 n8
              have hsz := hk.inv.1
              have hrow5 := hrow.below hb0
              obtain ⟨i0, hi, hz0, hz1, hz2⟩ := info_parts infoD
              obtain ⟨v', w5, hr, hown, hgr, hnil, hat⟩ := run_append_own_at (P := Try.prog) w' w.heap.size 80 80 84 i0 (.agg (cb (List.replicate 32 0)).toArray) 32 32 Try.underlying80 hi hz0 hz1 hz2 (by simp [Value.cells]) (by omega) (.slice B m cB) m _ hrow5.row ⟨gb, 0, none⟩ 1 1 (cb d) (by rw [List.length_map, HDL.out]) (fun j u hj => by rw [Addr.add_lit, Nat.zero_add]; exact hgb.cell_ (by simpa using hj)) (cb_one _) (by unfold maxLen; omega) (by omega) (by omega)
              obtain ⟨A', c', rfl⟩ : ∃ A' c', v' = .slice A' (m + 1) c' := by
                rcases hown.2 with ⟨rfl, h0⟩ | ⟨g', cap, cu, rfl, _⟩
                · simp at h0
                · exact ⟨_, _, rfl⟩
              have hG : GrownK w wr gp leaf B m cB (P.reverse.take m) d A' c' false w5 := ⟨World.ownsRow.kept (fp.below hb0) hgr (fresh_unlikeD (fp.below hb0) hrow5 (by decide)), ⟨by rw [List.flatten_append, ← cb_app]; simpa using hown, all_app hrow.all (fun x hx => by simp at hx; rw [hx]; exact HDL.out)⟩, fun b hb _ h2 => (hgr.block b (by omega) h2).trans (hb0.block b hb), Nat.le_trans hsz hgr.size, (hB.trans (hb0.mono hBsz)).grown hgr (by omega) (fun k hk => (hrow5.row.lt k hk).1), by
                rcases hat with h6 | h6
                · exact .inl h6
                · exact .inr fun k e => by rw [h6] at e; simp at e; omega⟩
              refine stepL_run rfl (v := .slice A' (m + 1) c') (w' := w5) ?_ trivial ⟨Nat.le_trans hsz hgr.size, ?_, hG.keep, fun _ => ⟨A', c', put_selfM _ _ _ (by rw [hk.size]; exact (show (79 : Nat) < 82 by decide)), ?_⟩, fun _ => ?_, fun _ => getD_setEqM _ _ s8⟩ (pkF_keep fun k hB hlt => hgr.block k hlt fun e => by have := hrow.row.lt k e.symm; omega)
              · unfold execOp
                simp only [resolve, invoke, builtin, Sem.run_bind, Sem.run_pure, Result.andThen_ok, List.map_toArray, List.map_cons, List.map_nil, e1, e6, hr]
              · intro e
                rw [getD_setEqM _ _ s8] at e
                cases e
              · rw [getD_setNeM _ _ _ (by omega), n10]
                exact hG
              · rw [getD_setNeM _ _ _ (by omega)]
                exact l1
            · have f11_ : a1.eval (.tmp 11) = .pointer (some ⟨gp, 0, none⟩) := hk.ev_old 11 (by kernel_rfl)
              have g11_ : a1.tmps[11]?.getD undef = .pointer (some ⟨gp, 0, none⟩) := by simpa [Act.eval] using f11_
              exact stepL_value rfl (v := .pointer (some ⟨gp, 1, none⟩)) (by go_simp) rfl (hk.inv.other 8 80 _ (by omega) (by omega) (by omega))
            · obtain ⟨v8, e8, q8, rfl, l8⟩ := hk.ev_new hd 8 80 (by kernel_rfl) rfl
              obtain ⟨v7, e7, q7, -, l7⟩ := hk.ev_new hd 7 79 (by kernel_rfl) rfl
              obtain ⟨s10, n10⟩ := sizeOf_getM h1
              obtain ⟨j1, j2, jK, j3, j4, j5⟩ := hk.inv
              obtain ⟨A', c', e15, hG⟩ := j3 l7
              rw [n10] at hG
              rw [q7] at e15
              obtain rfl : v7 = .slice A' (m + 1) c' := by simpa using e15
              have kc : w'.cell? ⟨gp, 1, none⟩ = some (.slice B m cB) := hG.obj.cell_ rfl
              have kz : w'.frozen? ⟨gp, 1, none⟩ = false := hG.obj.frozenAt
              refine stepL_skip rfl rfl (w' := w'.setCell ⟨gp, 1, none⟩ (.slice A' (m + 1) c')) (by go_simp) trivial ⟨by simpa [World.setCell] using j1, ?_, hG.lay.keep, fun _ => ⟨A', c', q7, ?_⟩, ?_, ?_⟩ (pkF_keep fun k hB hlt => Below.heap_setCell _ _ _ _ (fun e => by have := fp.lt_size; simp at e; omega))
              · intro e
                rw [getD_setNeM _ _ _ (by omega), l7] at e
                cases e
              · rw [getD_setEqM _ _ s10]
                exact hG.lay
              · rw [getD_setNeM _ _ _ (by omega)]
                rw [getD_setNeM _ _ _ (by omega)]
                exact j4
              · intro _
                rw [getD_setNeM _ _ _ (by omega)]
                exact l7
          · intro listed a1 w6 hJ hall hp
            obtain ⟨A', c', -, hG⟩ := hJ.2.2.2.1 (hall 7 (by decide))
            rw [hall 9 (by decide)] at hG
            obtain ⟨v0, p0, v1, p1, v2, p2, v3, p3, v4, p4, v5, p5, v6, p6, v7, p7, v8, p8, rfl⟩ := hp
            clear p0 p1 p2 p3 p4 p5 p6 p7 p8 hJ hall
            simp only [Act.put, List.setIfInBounds_toArray, List.set_cons_succ, List.set_cons_zero]
            have nbr : some gr ≠ (Value.slice B m cB).ownBlock := by
              rcases fresh_unlikeD fr hrow (by decide) with k | k
              · simp [Value.ownBlock] at k
              · exact k
            have fr6 : Fresh w.heap.size 82 w6 (some ⟨gr, 0, none⟩) 2 2 zPath := Fresh.of_block (by rw [hG.keep gr fr.lt_size nrp nbr]; exact fr.block.1) fr.block.2 rfl (by unfold maxLen; omega)
            have hO6 : OwnD w.heap.size w6 (some ⟨g, o, none⟩) h cD P := hO.stay (fun k e => by
              have e2 : g = k := by simpa [Value.ownBlock] using e
              subst e2
              exact hG.keep g hgB hgp hgBo)
            have HDIS6 : Hid (∀ g' o', (some (⟨g, o, none⟩ : Addr)) = some ⟨g', o', none⟩ → some g' ≠ (Value.slice A' (m + 1) c').ownBlock) := Lib.hid (fun g' o' e hx => by
              have e2 : g = g' := by simpa using congrArg (fun x => x.map Addr.block) e
              subst e2
              rcases hG.own with k | k
              · exact hgBo (hx.trans k)
              · have := k g hx.symm; omega)
            have fp6 : Fresh w.heap.size 82 w6 (some ⟨gp, 0, none⟩) 2 2 [.int .i64 (leaf : Int), .slice A' (m + 1) c'] := hG.obj
            have hrow6 := hG.row
            rw [← HT.out] at hrow6
            have hB6 := hG.bel
            clear hG hrow hO fr fp hB hS HDIS nbr
            go_wp2_with fail
            go_roundw
            case rel =>
              exact ⟨i, m + 1, c', A', Lib.hid (by omega), by omega, by omega, by go_num, fp6, hrow6, hO6, HDIS6, fr6, hB6⟩
            case measure => simp [intOf]
    · obtain ⟨half, hhalf⟩ : ∃ half, 2 ^ j = half := ⟨_, rfl⟩
      have hp0 : 0 < half := by rw [← hhalf]; exact Nat.pow_pos (by decide)
      have hn2 : n' = 2 * half := by rw [HN.out, Nat.pow_succ, hhalf]; omega
      have hgt1 : decide ((n' : Int) > 1) = true := by simp; omega
      have hgt2 : decide ((1 : Int) < (n' : Int)) = true := by simp; omega
      have hdiv : (n' : Int).tdiv 2 = (half : Int) := by rw [Int.tdiv_eq_ediv_of_nonneg (by omega)]; omega
      have hdiv2 : (n' : Int) / 2 = (half : Int) := by omega
      obtain ⟨LB, hrun, hdig⟩ := run_fromD LA n' c' half (by omega) hc
      have hLB : Option.map (fun x => x.add (half * 32)) LA = LB := by
        have hz : (sizeOf (Try.prog.elem 80)).run Try.prog w = .ok 32 w := by kernel_rfl
        have e := hrun w
        rw [run_slice_l w 80 LA n' c' elemD .i64 (half : Int) (by omega) (by omega), hz] at e
        simpa [Result.andThen, sliced, show c' ≠ half from by omega] using e
      have HLB := Lib.hid hLB
      clear hLB
      have HRUN := Lib.hid hrun
      have HCUT := Lib.hid (fun w' => run_cutD (w := w') LA n' c' half (by omega))
      have hdT : Digs w LA half (L.take half) := hd.take_ (by omega)
      have hdD : Digs w LB (n' - half) (L.drop half) := hdig _ _ hd
      have hlT : (L.take half).length = 2 ^ j := by rw [List.length_take, hd.len, hhalf]; omega
      have hlD : (L.drop half).length = 2 ^ j := by rw [List.length_drop, hd.len, hhalf]; omega
      have HYT : Hid ((rootF (Dg.tabO first keys h8) (L.take half) j).length = 32) := Lib.hid (len_rootF _ hlT (all_take hd.all _))
      have HYD : Hid ((rootF (Dg.tabO first keys h8) (L.drop half) j).length = 32) := Lib.hid (len_rootF _ hlD (all_drop hd.all _))
      have hj8 : j ≤ 8 := by have := HJ.out; omega
      have HT := Lib.hid (fun w' (hb : Below w.heap.size w w') => rroot_any first keys h8 h64 j w' LA half c' (L.take half) hj8 (hdT.step hb) hhalf.symm (by omega))
      have HD := Lib.hid (fun w' (hb : Below w.heap.size w w') => rroot_any first keys h8 h64 j w' LB (n' - half) (c' - half) (L.drop half) hj8 (hdD.step hb) (by omega) (by omega))
      have HPL : Hid (∀ a, a < half → pathF (Dg.tabO first keys h8) L (j + 1) a = pathF (Dg.tabO first keys h8) (L.take half) j a ++ [rootF (Dg.tabO first keys h8) (L.drop half) j]) := Lib.hid (fun a ha => by
        have := path_left (Dg.tabO first keys h8) (a := L.take half) (b := L.drop half) (h := j) (leaf := a) hlT hlD (by omega)
        rwa [List.take_append_drop] at this)
      have HPR : Hid (∀ a, a < half → pathF (Dg.tabO first keys h8) L (j + 1) (a + half) = pathF (Dg.tabO first keys h8) (L.drop half) j a ++ [rootF (Dg.tabO first keys h8) (L.take half) j]) := Lib.hid (fun a ha => by
        have := path_right (Dg.tabO first keys h8) (a := L.take half) (b := L.drop half) (h := j) (leaf := a) hlT hlD (by omega)
        rwa [List.take_append_drop, hhalf] at this)
      have HHALF := Lib.hid hhalf
      have HN2 := Lib.hid hn2
      have hhn : half ≤ n' := by omega
      clear hn2 hrun hdig hhalf hlT hlD
      have hsz := hB.size
      by_cases hlt : at_ < half
      · have hlt1 : decide ((at_ : Int) < (half : Int)) = true := by simp; omega
        go_upto_region 8 with fail
        obtain ⟨Y, hY⟩ : ∃ Y, rootF (Dg.tabO first keys h8) (L.drop half) j = Y := ⟨_, rfl⟩
        have HYY : Hid (Y.length = 32) := by rw [← hY]; exact HYD
        have HI := HD
        rw [hY] at HI
        have HYE := Lib.hid hY
        clear hY
        refine region_M (pgF (cw (first ++ keys)) DA m cD LA n' c' half (.slice LB (n' - half) (c' - half)) Y) (pgJ w wr DA m cD P Y 44 45) (by kernel_rfl) (by kernel_rfl) (pgJ.start _ _ (Nat.le_refl _) (Below.then_ hB ⟨rfl, rfl, rfl, Nat.le_refl _, fun _ _ => rfl⟩) (fun _ _ => rfl) (hO.below ⟨rfl, rfl, rfl, Nat.le_refl _, fun _ _ => rfl⟩) rfl) ?_ ?_
        · refine ⟨?_, ?_, ?_, ?_, ?_, ?_, ?_, ?_, ?_, trivial⟩
          all_goals intro listed a1 w' hk h1 hd1
          · have n7 := hk.inv.no7 (sizeOf_getM h1).2
            have q8 := hk.inv.2.2.2.2.2.2.1 (hk.inv.no8 n7)
            have g8_ : a1.tmps[8]?.getD undef = .slice DA m cD := by rw [q8]; rfl
            exact stepM_value (wanted_noneM rfl) (v := .slice DA m cD) (by go_simp) rfl (hk.inv.other 0 38 _ (by decide) (by decide) (by decide) (by decide) (by decide) (by decide) (Below.refl _ _))
          · have f3_ : a1.eval (.tmp 3) = .pointer (some ⟨gt, 0, none⟩) := hk.ev_old 3 (by kernel_rfl)
            exact stepM_value (wanted_noneM rfl) (run_load_agg (.tmp 3) 79 rfl f3_ (cw (first ++ keys)) 72 HK.out (by kernel_rfl) (hk.inv.sees ft hO (by decide))) rfl (hk.inv.other 1 39 _ (by decide) (by decide) (by decide) (by decide) (by decide) (by decide) (Below.refl _ _))
          · have f_ : a1.eval (.tmp 1) = .slice LA n' c' := hk.ev_old 1 (by kernel_rfl)
            have g_ : a1.tmps[1]?.getD undef = .slice LA n' c' := by simpa [Act.eval] using f_
            exact stepM_value (wanted_noneM rfl) (v := .slice LA n' c') (by go_simp) rfl (hk.inv.other 2 40 _ (by decide) (by decide) (by decide) (by decide) (by decide) (by decide) (Below.refl _ _))
          · have f_ : a1.eval (.tmp 10) = .int .i64 (half : Int) := hk.ev_old 10 (by kernel_rfl)
            have g_ : a1.tmps[10]?.getD undef = .int .i64 (half : Int) := by simpa [Act.eval] using f_
            exact stepM_value (wanted_noneM rfl) (v := .int .i64 (half : Int)) (by go_simp) rfl (hk.inv.other 3 41 _ (by decide) (by decide) (by decide) (by decide) (by decide) (by decide) (Below.refl _ _))
          · obtain ⟨y2, e2, q2, rfl, l2⟩ := hk.ev_new hd1 2 40 (by kernel_rfl) rfl
            obtain ⟨y3, e3, q3, rfl, l3⟩ := hk.ev_new hd1 3 41 (by kernel_rfl) rfl
            exact stepM_value (wanted_noneM rfl) (run_loD (.tmp 40) (.tmp 41) rfl e2 e3 (HRUN.out w')) rfl (hk.inv.other 4 42 _ (by decide) (by decide) (by decide) (by decide) (by decide) (by decide) (Below.refl _ _))
          · obtain ⟨y1, e1, q1, rfl, l1⟩ := hk.ev_new hd1 1 39 (by kernel_rfl) rfl
            obtain ⟨y4, e4, q4, rfl, l4⟩ := hk.ev_new hd1 4 42 (by kernel_rfl) rfl
            refine stepM_enter (wanted_noneM rfl) (f := 87) (args := #[.agg (cw (first ++ keys)).toArray, .slice LB (n' - half) (c' - half)]) (by go_simp) ?_
            refine (HI.out w' hk.inv.2.1).mono ?_
            rintro e w5 ⟨rfl, hB5⟩
            exact ⟨_, rfl, rfl, (hk.inv.other 5 43 _ (by decide) (by decide) (by decide) (by decide) (by decide) (by decide) hB5), fun _ _ h => h⟩
          · obtain ⟨y5, e5, q5, rfl, l5⟩ := hk.ev_new hd1 5 43 (by kernel_rfl) rfl
            have hba := below_alloc w' (.cells (cb [Y].flatten).toArray 84)
            have hon := (own_new w' [Y] (fun e he => by simp at he; rw [he]; exact HYY.out) 1 rfl (by omega)).lower hk.inv.2.1.size
            exact stepM_run (wanted_noneM rfl) (exec_bs1 (.tmp 43) rfl Y e5 HYY.out) trivial (hk.inv.one hon (by rw [hk.size]; exact (by decide : (44 : Nat) < 82)) (by decide) (by decide) hba) (fun _ _ h => h)
          · obtain ⟨y0, e0, q0, rfl, l0⟩ := hk.ev_new hd1 0 38 (by kernel_rfl) rfl
            obtain ⟨y6, e6, q6, -, l6⟩ := hk.ev_new hd1 6 44 (by kernel_rfl) rfl
            obtain ⟨A6, c6, w6, hrun6, hJ6⟩ := hk.inv.app (.tmp 38) (.tmp 44) h1 l0 l6 e0 (fun g q => by rw [q6] at q; rw [e6]; simpa using q) (by omega) (by rw [hk.size]; exact (by decide : (45 : Nat) < 82)) (by decide)
            exact stepM_run (wanted_noneM rfl) (hrun6 _ rfl rfl) trivial hJ6 (fun _ _ h => h)
          · obtain ⟨y7, e7, q7, -, l7⟩ := hk.ev_new hd1 7 45 (by kernel_rfl) rfl
            have g7_ : a1.tmps[45]?.getD undef = y7 := by rw [q7]; rfl
            exact stepM_value (wanted_noneM rfl) (v := y7) (by go_simp) trivial (hk.inv.asg h1 l7 y7 q7 (by rw [hk.size]; exact (by decide : (8 : Nat) < 82)) (by decide) (by decide))
        · intro listed a1 w7 hJ hall hp
          obtain ⟨A6, c6, q7, hO7, q8⟩ := hJ.2.2.2.2.2.1 (hall 7 (by decide))
          have q8 := q8 (hall 8 (by decide))
          have ft7 := hJ.fresh ft hO (by decide) HK.out (by omega)
          have fr7 := hJ.fresh fr hO (by decide) rfl (by omega)
          have hB7 := hJ.2.1
          obtain ⟨x0, p0, x1, p1, x2, p2, x3, p3, x4, p4, x5, p5, x6, p6, x7, p7, x8, p8, rfl⟩ := hp
          obtain rfl : x8 = .slice A6 (m + 1) c6 := by simpa [Act.put] using q8
          simp only [pgF] at p0 p1 p2 p3 p4 p5
          subst p0 p1 p2 p3 p4 p5
          clear hJ hall q7 q8 p6 p7 p8
          simp only [Act.put, List.setIfInBounds_toArray, List.set_cons_succ, List.set_cons_zero]
          go_wp2_with (with_reducible refine wpList_is (o := ⟨some 48, _, _, _, _, _⟩) (v := .slice LA half c') rfl (run_hiD (.tmp 46) (.tmp 47) rfl rfl rfl (HCUT.out _)) ?_)
          go_roundw
          case rel =>
            refine ⟨j, at_, m + 1, half, c', c6, LA, A6, L.take half, P ++ [Y], Lib.hid (by have := HJ.out; omega), rfl, Lib.hid HHALF.out.symm, by omega, by omega, rfl, rfl, hlt, Lib.hid ?_, hdT, hO7, ft7, fr7, hB7⟩
            rw [HP.out, HPL.out at_ hlt, List.reverse_append, ← HYE.out] <;> simp
          case measure => simp [lenV]; omega
      · have hlt1 : decide ((at_ : Int) < (half : Int)) = false := by simp; omega
        go_upto_region 10 with fail
        obtain ⟨Y, hY⟩ : ∃ Y, rootF (Dg.tabO first keys h8) (L.take half) j = Y := ⟨_, rfl⟩
        have HYY : Hid (Y.length = 32) := by rw [← hY]; exact HYT
        have HI := HT
        rw [hY] at HI
        have HYE := Lib.hid hY
        clear hY
        refine region_M (pgF (cw (first ++ keys)) DA m cD LA n' c' half (.slice LA half c') Y) (pgJ w wr DA m cD P Y 55 56) (by kernel_rfl) (by kernel_rfl) (pgJ.start _ _ (Nat.le_refl _) (Below.then_ hB ⟨rfl, rfl, rfl, Nat.le_refl _, fun _ _ => rfl⟩) (fun _ _ => rfl) (hO.below ⟨rfl, rfl, rfl, Nat.le_refl _, fun _ _ => rfl⟩) rfl) ?_ ?_
        · refine ⟨?_, ?_, ?_, ?_, ?_, ?_, ?_, ?_, ?_, trivial⟩
          all_goals intro listed a1 w' hk h1 hd1
          · have n7 := hk.inv.no7 (sizeOf_getM h1).2
            have q8 := hk.inv.2.2.2.2.2.2.1 (hk.inv.no8 n7)
            have g8_ : a1.tmps[8]?.getD undef = .slice DA m cD := by rw [q8]; rfl
            exact stepM_value (wanted_noneM rfl) (v := .slice DA m cD) (by go_simp) rfl (hk.inv.other 0 49 _ (by decide) (by decide) (by decide) (by decide) (by decide) (by decide) (Below.refl _ _))
          · have f3_ : a1.eval (.tmp 3) = .pointer (some ⟨gt, 0, none⟩) := hk.ev_old 3 (by kernel_rfl)
            exact stepM_value (wanted_noneM rfl) (run_load_agg (.tmp 3) 79 rfl f3_ (cw (first ++ keys)) 72 HK.out (by kernel_rfl) (hk.inv.sees ft hO (by decide))) rfl (hk.inv.other 1 50 _ (by decide) (by decide) (by decide) (by decide) (by decide) (by decide) (Below.refl _ _))
          · have f_ : a1.eval (.tmp 1) = .slice LA n' c' := hk.ev_old 1 (by kernel_rfl)
            have g_ : a1.tmps[1]?.getD undef = .slice LA n' c' := by simpa [Act.eval] using f_
            exact stepM_value (wanted_noneM rfl) (v := .slice LA n' c') (by go_simp) rfl (hk.inv.other 2 51 _ (by decide) (by decide) (by decide) (by decide) (by decide) (by decide) (Below.refl _ _))
          · have f_ : a1.eval (.tmp 10) = .int .i64 (half : Int) := hk.ev_old 10 (by kernel_rfl)
            have g_ : a1.tmps[10]?.getD undef = .int .i64 (half : Int) := by simpa [Act.eval] using f_
            exact stepM_value (wanted_noneM rfl) (v := .int .i64 (half : Int)) (by go_simp) rfl (hk.inv.other 3 52 _ (by decide) (by decide) (by decide) (by decide) (by decide) (by decide) (Below.refl _ _))
          · obtain ⟨y2, e2, q2, rfl, l2⟩ := hk.ev_new hd1 2 51 (by kernel_rfl) rfl
            obtain ⟨y3, e3, q3, rfl, l3⟩ := hk.ev_new hd1 3 52 (by kernel_rfl) rfl
            exact stepM_value (wanted_noneM rfl) (run_hiD (.tmp 51) (.tmp 52) rfl e2 e3 (HCUT.out w')) rfl (hk.inv.other 4 53 _ (by decide) (by decide) (by decide) (by decide) (by decide) (by decide) (Below.refl _ _))
          · obtain ⟨y1, e1, q1, rfl, l1⟩ := hk.ev_new hd1 1 50 (by kernel_rfl) rfl
            obtain ⟨y4, e4, q4, rfl, l4⟩ := hk.ev_new hd1 4 53 (by kernel_rfl) rfl
            refine stepM_enter (wanted_noneM rfl) (f := 87) (args := #[.agg (cw (first ++ keys)).toArray, .slice LA half c']) (by go_simp) ?_
            refine (HI.out w' hk.inv.2.1).mono ?_
            rintro e w5 ⟨rfl, hB5⟩
            exact ⟨_, rfl, rfl, (hk.inv.other 5 54 _ (by decide) (by decide) (by decide) (by decide) (by decide) (by decide) hB5), fun _ _ h => h⟩
          · obtain ⟨y5, e5, q5, rfl, l5⟩ := hk.ev_new hd1 5 54 (by kernel_rfl) rfl
            have hba := below_alloc w' (.cells (cb [Y].flatten).toArray 84)
            have hon := (own_new w' [Y] (fun e he => by simp at he; rw [he]; exact HYY.out) 1 rfl (by omega)).lower hk.inv.2.1.size
            exact stepM_run (wanted_noneM rfl) (exec_bs1 (.tmp 54) rfl Y e5 HYY.out) trivial (hk.inv.one hon (by rw [hk.size]; exact (by decide : (55 : Nat) < 82)) (by decide) (by decide) hba) (fun _ _ h => h)
          · obtain ⟨y0, e0, q0, rfl, l0⟩ := hk.ev_new hd1 0 49 (by kernel_rfl) rfl
            obtain ⟨y6, e6, q6, -, l6⟩ := hk.ev_new hd1 6 55 (by kernel_rfl) rfl
            obtain ⟨A6, c6, w6, hrun6, hJ6⟩ := hk.inv.app (.tmp 49) (.tmp 55) h1 l0 l6 e0 (fun g q => by rw [q6] at q; rw [e6]; simpa using q) (by omega) (by rw [hk.size]; exact (by decide : (56 : Nat) < 82)) (by decide)
            exact stepM_run (wanted_noneM rfl) (hrun6 _ rfl rfl) trivial hJ6 (fun _ _ h => h)
          · obtain ⟨y7, e7, q7, -, l7⟩ := hk.ev_new hd1 7 56 (by kernel_rfl) rfl
            have g7_ : a1.tmps[56]?.getD undef = y7 := by rw [q7]; rfl
            exact stepM_value (wanted_noneM rfl) (v := y7) (by go_simp) trivial (hk.inv.asg h1 l7 y7 q7 (by rw [hk.size]; exact (by decide : (8 : Nat) < 82)) (by decide) (by decide))
        · intro listed a1 w7 hJ hall hp
          obtain ⟨A6, c6, q7, hO7, q8⟩ := hJ.2.2.2.2.2.1 (hall 7 (by decide))
          have q8 := q8 (hall 8 (by decide))
          have ft7 := hJ.fresh ft hO (by decide) HK.out (by omega)
          have fr7 := hJ.fresh fr hO (by decide) rfl (by omega)
          have hB7 := hJ.2.1
          obtain ⟨x0, p0, x1, p1, x2, p2, x3, p3, x4, p4, x5, p5, x6, p6, x7, p7, x8, p8, rfl⟩ := hp
          obtain rfl : x8 = .slice A6 (m + 1) c6 := by simpa [Act.put] using q8
          simp only [pgF] at p0 p1 p2 p3 p4 p5
          subst p0 p1 p2 p3 p4 p5
          clear hJ hall q7 q8 p6 p7 p8
          simp only [Act.put, List.setIfInBounds_toArray, List.set_cons_succ, List.set_cons_zero]
          go_wp2_with (with_reducible refine wpList_is (o := ⟨some 59, _, _, _, _, _⟩) (v := .slice LB (n' - half) (c' - half)) rfl (run_loD (.tmp 57) (.tmp 58) rfl rfl rfl (HRUN.out _)) ?_)
          go_roundw
          case rel =>
            refine ⟨j, at_ - half, m + 1, n' - half, c' - half, c6, LB, A6, L.drop half, P ++ [Y], Lib.hid (by have := HJ.out; omega), by rw [HLB.out], Lib.hid (by have := HN2.out; have := HHALF.out; omega), by omega, by omega, rfl, ?_, by have := HN2.out; omega, Lib.hid ?_, hdD, hO7, ft7, fr7, hB7⟩
            · go_num
            · have e := HPR.out (at_ - half) (by have := HN2.out; omega)
              rw [Nat.sub_add_cancel (by omega)] at e
              rw [HP.out, e, List.reverse_append, ← HYE.out] <;> simp
          case measure => simp [lenV]; omega
set_option maxHeartbeats 2000000 in
set_option maxRecDepth 100000 in
theorem rPath_no (first keys : List UInt32) (h8 : first.length = 8) (h64 : keys.length = 64) (A : Option Addr) (n c : Nat) (hn : n ≤ 9223372036854775807) (leaf : Int) (hm : mayB n = false ∨ leaf < 0 ∨ (n : Int) ≤ leaf) :
    Calls Try.prog 40 #[.agg (cw (first ++ keys)).toArray, .slice A n c, .int .i64 leaf] w fun e w' => e = .returned (.tuple #[.agg zPath.toArray, .int .i64 2]) ∧ Below w.heap.size w w' := by
  have HK : Hid ((cw (first ++ keys)).length = 72) := Lib.hid (by simp [h8, h64])
  obtain ⟨r, hr1, hr2⟩ : ∃ r : Int, ((∃ h : Nat, h ≤ 8 ∧ n = 2 ^ h ∧ r = (h : Int)) ∨ (mayB n = false ∧ r = -1)) ∧ (r < 0 ∨ (0 ≤ r ∧ leaf < 0) ∨ (0 ≤ r ∧ 0 ≤ leaf ∧ (n : Int) ≤ leaf)) := by
    cases hb : mayB n
    · exact ⟨-1, .inr ⟨rfl, rfl⟩, .inl (by omega)⟩
    · obtain ⟨h, hh, e⟩ := (may_iff n).1 hb
      refine ⟨h, .inl ⟨h, hh, e, rfl⟩, .inr ?_⟩
      rcases hm with k | k | k
      · rw [hb] at k; cases k
      · exact .inl ⟨by omega, k⟩
      · exact .inr ⟨by omega, by omega, k⟩
  have HM := Lib.hid (fun w => rheight_any n hn r hr1 (w := w))
  clear hn hr1 hm
  rcases hr2 with k | ⟨k1, k2⟩ | ⟨k1, k2, k3⟩
  · have d1 : decide (r < 0) = true := by simp; omega
    clear k
    go_enter Try.func40, Try.ntmps40
    go_wp2_with (first
      | (with_reducible refine wpList_box (o := ⟨some 3, _, _, _, _, _⟩) rfl (.tmp 0) 79 rfl (cw (first ++ keys)) rfl 72 HK.out (by decide) ?_; intro gt w1 hgt hFt hBt; have z1 := hBt.size)
      | (with_reducible refine wpList_alloc (o := ⟨some 6, _, _, _, _, _⟩) rfl 82 rfl zPath (by kernel_rfl) 2 rfl (by decide) ?_; intro gr w3 hgr hFr hBr; have hB3 := Below.then_ hBt hBr)
      | (go_at_call 86; refine (HM.out w3).mono ?_; rintro e w4 ⟨rfl, rfl⟩)
      | (with_reducible refine wpList_bp rfl rfl ?_)
      | (with_reducible refine wpList_store rfl rfl (.tmp 6) (.tmp 27) 82 rfl gr 0 w.heap.size 82 2 zPath zPath rfl rfl 2 rfl (by kernel_rfl) (hFr.lower (base' := w.heap.size) (by omega)) (by omega) (allOne_out (by kernel_rfl)) w hB3 (by omega) ?_; intro w9 hF9 hB9 ho9 hz9))
    rw [splice_pa _ _ rfl rfl] at hF9
    exact bodyPost_ct rfl rfl _ rfl zPath 2 rfl (by kernel_rfl) hF9.sees rfl ⟨rfl, hB9⟩
  · have d1 : decide (r < 0) = false := by simp; omega
    have d2 : decide (leaf < 0) = true := by simp; omega
    clear k1 k2
    go_enter Try.func40, Try.ntmps40
    go_wp2_with (first
      | (with_reducible refine wpList_box (o := ⟨some 3, _, _, _, _, _⟩) rfl (.tmp 0) 79 rfl (cw (first ++ keys)) rfl 72 HK.out (by decide) ?_; intro gt w1 hgt hFt hBt; have z1 := hBt.size)
      | (with_reducible refine wpList_alloc (o := ⟨some 6, _, _, _, _, _⟩) rfl 82 rfl zPath (by kernel_rfl) 2 rfl (by decide) ?_; intro gr w3 hgr hFr hBr; have hB3 := Below.then_ hBt hBr)
      | (go_at_call 86; refine (HM.out w3).mono ?_; rintro e w4 ⟨rfl, rfl⟩)
      | (with_reducible refine wpList_bp rfl rfl ?_)
      | (with_reducible refine wpList_store rfl rfl (.tmp 6) (.tmp 27) 82 rfl gr 0 w.heap.size 82 2 zPath zPath rfl rfl 2 rfl (by kernel_rfl) (hFr.lower (base' := w.heap.size) (by omega)) (by omega) (allOne_out (by kernel_rfl)) w hB3 (by omega) ?_; intro w9 hF9 hB9 ho9 hz9))
    rw [splice_pa _ _ rfl rfl] at hF9
    exact bodyPost_ct rfl rfl _ rfl zPath 2 rfl (by kernel_rfl) hF9.sees rfl ⟨rfl, hB9⟩
  · have d1 : decide (r < 0) = false := by simp; omega
    have d2 : decide (leaf < 0) = false := by simp; omega
    have d3 : decide ((n : Int) ≤ leaf) = true := by simp; omega
    clear k1 k2 k3
    go_enter Try.func40, Try.ntmps40
    go_wp2_with (first
      | (with_reducible refine wpList_box (o := ⟨some 3, _, _, _, _, _⟩) rfl (.tmp 0) 79 rfl (cw (first ++ keys)) rfl 72 HK.out (by decide) ?_; intro gt w1 hgt hFt hBt; have z1 := hBt.size)
      | (with_reducible refine wpList_alloc (o := ⟨some 6, _, _, _, _, _⟩) rfl 82 rfl zPath (by kernel_rfl) 2 rfl (by decide) ?_; intro gr w3 hgr hFr hBr; have hB3 := Below.then_ hBt hBr)
      | (go_at_call 86; refine (HM.out w3).mono ?_; rintro e w4 ⟨rfl, rfl⟩)
      | (with_reducible refine wpList_bp rfl rfl ?_)
      | (with_reducible refine wpList_store rfl rfl (.tmp 6) (.tmp 27) 82 rfl gr 0 w.heap.size 82 2 zPath zPath rfl rfl 2 rfl (by kernel_rfl) (hFr.lower (base' := w.heap.size) (by omega)) (by omega) (allOne_out (by kernel_rfl)) w hB3 (by omega) ?_; intro w9 hF9 hB9 ho9 hz9))
    rw [splice_pa _ _ rfl rfl] at hF9
    exact bodyPost_ct rfl rfl _ rfl zPath 2 rfl (by kernel_rfl) hF9.sees rfl ⟨rfl, hB9⟩
end
end Go.Proofs.Ytcfjbllmaejiaaa
