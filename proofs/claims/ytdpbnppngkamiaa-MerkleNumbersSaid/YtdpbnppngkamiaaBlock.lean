/-
  What sha.Block answers: the state by a block, for every table, state and block.
-/
import Derived.Test.YtdpbnppngkamiaaTurned
import Derived.Test.YtdpbnppngkamiaaRegion
namespace Go.Proofs.Ytdpbnppngkamiaa
open Go.RowKit
set_option linter.unusedVariables false
/-- A table lies there. -/
structure Tab (w : World) (tb to : Nat) (first keys : List UInt32) : Prop where
  l1 : first.length = 8
  l2 : keys.length = 64
  sees : Sees w w.heap.size (some ⟨tb, to, none⟩) (cw (first ++ keys))
theorem Tab.step {w w' : World} {tb to : Nat} {first keys : List UInt32} (h : Tab w tb to first keys) (hb : Below w.heap.size w w') : Tab w' tb to first keys := ⟨h.l1, h.l2, h.sees.step hb⟩
theorem Tab.keysAt {w : World} {tb to : Nat} {first keys : List UInt32} (h : Tab w tb to first keys) : Sees w w.heap.size (some ⟨tb, to + 8, none⟩) (cw keys) := by
  have := h.sees.drop_ 8
  rwa [show (cw (first ++ keys)).drop 8 = cw keys from by simp [cw, h.l1]] at this
theorem Tab.firstAt {w : World} {tb to : Nat} {first keys : List UInt32} (h : Tab w tb to first keys) : Sees w w.heap.size (some ⟨tb, to, none⟩) (cw first) := by
  have := h.sees.take_ 8
  rwa [show (cw (first ++ keys)).take 8 = cw first from by simp [cw, h.l1]] at this
theorem eight (s : List UInt32) (h : s.length = 8) : ∃ a b c d e f g i, s = [a, b, c, d, e, f, g, i] := by
  match s, h with
  | [a, b, c, d, e, f, g, i], _ => exact ⟨a, b, c, d, e, f, g, i, rfl⟩
theorem turned_list (kb ko : Nat) (keys ws s : List UInt32) (w : World) (hk : Sees w w.heap.size (some ⟨kb, ko, none⟩) (cw keys)) (hkl : keys.length = 64) (hwl : ws.length = 64) (hs : s.length = 8) :
    Calls Try.prog 168 #[.pointer (some ⟨kb, ko, none⟩), .agg (cw s).toArray, .agg (cw ws).toArray] w fun e w' => e = .returned (.agg (cw (turn keys ws s)).toArray) ∧ Below w.heap.size w w' := by
  obtain ⟨a, b, c, d, e, f, g, i, rfl⟩ := eight s hs
  exact turned_any kb ko keys ws a b c d e f g i w hk hkl hwl
def blkFacts (N tb to : Nat) (s keys : List UInt32) (b : List UInt8) (j : Nat) (v : Value) (w : World) : Prop :=
  match j with
  | 0 => v = .pointer (some ⟨tb, to, none⟩)
  | 1 => v = .pointer (some ⟨tb, to, none⟩)
  | 2 => v = .pointer (some ⟨tb, to + 8, none⟩)
  | 3 => v = .agg (cw s).toArray
  | 4 => v = .agg (cb b).toArray
  | 5 => v = .agg (cw (sched b)).toArray
  | 6 => v = .agg (cw (turn keys (sched b) s)).toArray
  | 7 => ∃ g, v = .pointer (some ⟨g, 0, none⟩) ∧ Fresh N 76 w (some ⟨g, 0, none⟩) 8 8 (cw (List.replicate 8 0))
  | _ => True
theorem blkFacts_stab (N tb to : Nat) (s keys : List UInt32) (b : List UInt8) : ∀ j v w w', Below w.heap.size w w' → blkFacts N tb to s keys b j v w → blkFacts N tb to s keys b j v w' := by
  intro j v w w' hb h
  unfold blkFacts at *
  split at h <;> first | exact h | (obtain ⟨g, h1, h2⟩ := h; exact ⟨g, h1, h2.below hb⟩) | trivial
/-- Of the first k words the sums, of the others what they were. -/
def partSum (t s : List UInt32) (k : Nat) : List UInt32 := (sums t s).take k ++ t.drop k
theorem partSum_get (t s : List UInt32) (k : Nat) (ht : t.length = 8) (hs : s.length = 8) (hk : k < 8) : (partSum t s k)[k]? = t[k]? := by
  unfold partSum
  have hl := len_sums t s ht hs
  rw [List.getElem?_append_right (by simp [hl]; omega), List.getElem?_drop]
  congr 1
  simp [hl]
  omega
theorem partSum_set (t s : List UInt32) (k : Nat) (x y : UInt32) (ht : t.length = 8) (hs : s.length = 8) (hk : k < 8) (hx : t[k]? = some x) (hy : s[k]? = some y) : (partSum t s k).set k (x + y) = partSum t s (k + 1) := by
  unfold partSum
  have hl := len_sums t s ht hs
  have hlt : ((sums t s).take k).length = k := by simp [hl]; omega
  have hz : (sums t s)[k]? = some (x + y) := by
    unfold sums
    rw [List.getElem?_zipWith, hx, hy]
  rw [List.set_append_right _ _ (by omega), hlt, Nat.sub_self, List.drop_eq_getElem_cons (by omega), List.set_cons_zero, List.take_add_one, hz, List.append_assoc]
  rfl
set_option maxHeartbeats 2000000 in
set_option maxRecDepth 100000 in
theorem Block_any (tb to : Nat) (first keys s : List UInt32) (b : List UInt8) (w : World) (ht : Tab w tb to first keys) (hs : s.length = 8) (hb : b.length = 64) :
    Calls Try.prog 159 #[.pointer (some ⟨tb, to, none⟩), .agg (cw s).toArray, .agg (cb b).toArray] w fun e w' => e = .returned (.agg (cw (blockF keys s b)).toArray) ∧ Below w.heap.size w w' := by
  have HS := Lib.hid hs
  have HB := Lib.hid hb
  clear hs hb
  go_enter Try.func159, Try.ntmps159
  go_wp2_with (first
    | (with_reducible refine wpList_box (o := ⟨some 4, _, _, _, _, _⟩) rfl (.tmp 1) 76 rfl (cw s) rfl 8 (by simp [HS.out]) (by decide) ?_; intro gs w1 hgs hFs hBs)
    | (with_reducible refine wpList_box (o := ⟨some 5, _, _, _, _, _⟩) rfl (.tmp 2) 211 rfl (cb b) rfl 64 (by simp [HB.out]) (by decide) ?_; intro gb w2 hgb hFb hBb)
    | (with_reducible refine wpList_alloc (o := ⟨some 6, _, _, _, _, _⟩) rfl 76 rfl (cw (List.replicate 8 0)) (by kernel_rfl) 8 (by simp) (by decide) ?_; intro gr w3 hgr hFr hBr))
  have d1 := hFs.lt_size
  have d2 := hFb.lt_size
  have d3 := hFr.lt_size
  have hz1 := hBs.size
  have hz2 := hBb.size
  have hB3 := Below.then_ (Below.then_ hBs hBb) hBr
  have hFs3 := (hFs.below hBb).below hBr
  have hFb3 := (hFb.below hBr).lower hz1
  have hFr3 := hFr.lower (Nat.le_trans hz1 hz2)
  have hT3 := ht.step hB3
  clear hFs hFb hFr hBs hBb hBr ht
  refine region_all_tail 8 (blkFacts w3.heap.size tb to s keys b) (by kernel_rfl) (by kernel_rfl) (by kernel_rfl) (blkFacts_stab _ _ _ _ _ _) ?_ ?_
  · intro w0 hb0
    simp only [List.take_succ_cons, List.take_zero]
    refine ⟨?_, ?_, ?_, ?_, ?_, ?_, ?_, ?_, trivial⟩
    all_goals intro listed a1 w' hk hd
    · have f2 := hk.ev_old 0 (by kernel_rfl)
      exact stepOk_value rfl (v := .pointer (some ⟨tb, to, none⟩)) (by simp [execOp]; exact f2) rfl
    · obtain ⟨v, e0, _, rfl⟩ := hk.ev_new hd 0 12 (by kernel_rfl) rfl
      exact stepOk_value rfl (v := .pointer (some ⟨tb, to, none⟩)) (by go_simp) rfl
    · obtain ⟨v, e0, _, rfl⟩ := hk.ev_new hd 1 13 (by kernel_rfl) rfl
      exact stepOk_value rfl (v := .pointer (some ⟨tb, to + 8, none⟩)) (by go_simp) rfl
    · have f2 := hk.ev_old 4 (by kernel_rfl)
      have hF := (hFs3.below hb0).below hk.below
      exact stepOk_value rfl (run_load_agg (.tmp 4) 76 rfl f2 (cw s) 8 (by simp [HS.out]) (by kernel_rfl) hF.sees) rfl
    · have f2 := hk.ev_old 5 (by kernel_rfl)
      have hF := (hFb3.below hb0).below hk.below
      exact stepOk_value rfl (run_load_agg (.tmp 5) 211 rfl f2 (cb b) 64 (by simp [HB.out]) (by kernel_rfl) hF.sees) rfl
    · obtain ⟨v, e0, _, rfl⟩ := hk.ev_new hd 4 16 (by kernel_rfl) rfl
      refine stepOk_enter rfl (f := 169) (args := #[.agg (cb b).toArray]) (by go_simp) ?_
      refine (schedule_any b _ HB.out).mono ?_
      rintro e w5 ⟨rfl, hB5⟩
      exact ⟨_, rfl, rfl, hB5⟩
    · obtain ⟨v, e0, _, rfl⟩ := hk.ev_new hd 2 14 (by kernel_rfl) rfl
      obtain ⟨v, e1, _, rfl⟩ := hk.ev_new hd 3 15 (by kernel_rfl) rfl
      obtain ⟨v, e2, _, rfl⟩ := hk.ev_new hd 5 17 (by kernel_rfl) rfl
      refine stepOk_enter rfl (f := 168) (args := #[.pointer (some ⟨tb, to + 8, none⟩), .agg (cw s).toArray, .agg (cw (sched b)).toArray]) (by go_simp) ?_
      refine (turned_list tb (to + 8) keys (sched b) s _ ((hT3.step hb0).step hk.below).keysAt hT3.l2 (len_sched b) HS.out).mono ?_
      rintro e w5 ⟨rfl, hB5⟩
      exact ⟨_, rfl, rfl, hB5⟩
    · refine stepOk_run rfl (v := .pointer (some ⟨w'.heap.size, 0, none⟩)) (w' := w'.alloc (.cells (cw (List.replicate 8 0)).toArray 76 (0, 0))) ?_ ⟨_, rfl, (Fresh.new w' 76 (cw (List.replicate 8 0)) 8 (by simp) (by decide)).lower ?_⟩ (below_alloc _ _)
      · simp only [execOp]
        rw [Sem.run_bind, run_alloc_zero 76 (cw (List.replicate 8 0)) (by kernel_rfl)]
        rfl
      · have h2 := hb0.size
        have h3 := hk.below.size
        omega
  · intro a1 w' hbw hp
    obtain ⟨v0, p0, v1, p1, v2, p2, v3, p3, v4, p4, v5, p5, v6, p6, v7, p7, rfl⟩ := hp
    simp only [blkFacts] at p0 p1 p2 p3 p4 p5 p6 p7
    subst p0 p1 p2 p3 p4 p5 p6
    obtain ⟨gt, rfl, hFt⟩ := p7
    simp only [List.drop_succ_cons, List.drop_zero, Act.put, List.setIfInBounds_toArray, List.set_cons_succ, List.set_cons_zero]
    have htl := len_turn keys (sched b) s HS.out
    have HT := Lib.hid htl
    clear htl
    have hBw := Below.then_ hB3 hbw
    have hFs4 := hFs3.below hbw
    have hFr4 := hFr3.below hbw
    have hz3 := hB3.size
    have hz4 := hbw.size
    have hgt := hFt.block.2
    have hdt := hFt.lt_size
    replace hFt := hFt.lower hz3
    have hB5 := hbw
    clear hFs3 hFr3 hFb3 hT3 hB3 hbw
    go_wp2_with (with_reducible refine wpList_store rfl rfl (.tmp 7) (.tmp 18) 76 rfl gt 0 w.heap.size 76 8 (cw (List.replicate 8 0)) (cw (turn keys (sched b) s)) rfl rfl 8 (by simp [HT.out]) (by kernel_rfl) hFt (by omega) (cw_one _) w hBw (by omega) ?_; intro w6 hF6 hB6 hoth6 hsz6)
    have e0 : splice (cw (List.replicate 8 0)) 0 (cw (turn keys (sched b) s)) = cw (partSum (turn keys (sched b) s) s 0) := by
      have := HT.out
      simp [splice, partSum, this]
    rw [e0] at hF6
    have hFs6 := hFs4.other (g' := gt) (by omega) hoth6
    have hFr6 := hFr4.other (g' := gt) (by omega) hoth6
    clear hFs4 hFr4 hoth6 hBw hFt hB5 e0
    go_loopw [19] (fun i wr => ∃ k : Nat, k ≤ 8 ∧ i = .int .i64 k ∧ Fresh w.heap.size 76 wr (some ⟨gt, 0, none⟩) 8 8 (cw (partSum (turn keys (sched b) s) s k)) ∧ Fresh w.heap.size 76 wr (some ⟨gs, 0, none⟩) 8 8 (cw s) ∧ Fresh w.heap.size 76 wr (some ⟨gr, 0, none⟩) 8 8 (cw (List.replicate 8 0)) ∧ Below w.heap.size w wr) (fun i _ => 8 - (intOf i).toNat)
    case atStart => exact ⟨0, by omega, rfl, hF6, hFs6, hFr6, hB6⟩
    case round =>
      obtain ⟨k, hk, rfl, hW, hS, hR, hBel⟩ := hrel
      clear hF6 hFs6 hFr6 hB6
      by_cases hlt : k < 8
      · obtain ⟨x, H1, l1, r1⟩ := hW.word (k := k) (by omega)
        obtain ⟨y, H2, l2, r2⟩ := hS.word (k := k) (by omega)
        go_wp2
        refine region_qtail 7 (by kernel_rfl) (by kernel_rfl) ?_
        simp only [List.take_succ_cons, List.take_zero, List.drop_succ_cons, List.drop_zero]
        repeat (go_big_quiet_step (fail))
        refine wpQuiet_nil ?_
        rintro _ ⟨nq, rfl⟩
        have hz := hW.frozenAt (j := k)
        go_wp2
        go_roundw
        case rel =>
          have hst := (hW.below (below_drewN' (Below.refl _ _) nq)).store32 k (x + y)
          have hx : (turn keys (sched b) s)[k]? = some x := by rw [← partSum_get _ s k HT.out HS.out hlt]; exact H1.out
          rw [partSum_set _ _ _ _ _ HT.out HS.out hlt hx H2.out] at hst
          have hoth : ∀ j, j ≠ gt → ((wr.drewN nq).setCell ⟨gt, k, none⟩ (.int .u32 ((x + y).toNat : Int))).heap[j]? = wr.heap[j]? := fun j hj => Below.heap_setCell _ _ _ _ hj
          refine ⟨k + 1, by omega, by go_num, ?_⟩
          rw [u32_add]
          exact ⟨hst, hS.other (by omega) hoth, hR.other (by omega) hoth, (below_drewN' hBel nq).setCell (by simp; omega) _⟩
        case measure => simp [intOf]; omega
      · obtain rfl : k = 8 := by omega
        have hp : partSum (turn keys (sched b) s) s 8 = blockF keys s b := by
          have h1 := HT.out
          have h2 := len_sums _ _ HT.out HS.out
          simp [partSum, blockF, h1, List.take_of_length_le (Nat.le_of_eq h2)]
        rw [hp] at hW
        have hl := len_blockF keys s b HS.out
        have HL := Lib.hid hl
        clear hl hp
        go_wp2_with (first
          | (with_reducible refine wpList_load rfl (.tmp 7) 76 rfl gt 0 _ rfl (cw (blockF keys s b)) 8 (by simp [HL.out]) (by kernel_rfl) hW.sees ?_)
          | (with_reducible refine wpList_store rfl rfl (.tmp 6) (.tmp 31) 76 rfl gr 0 w.heap.size 76 8 (cw (List.replicate 8 0)) (cw (blockF keys s b)) rfl rfl 8 (by simp [HL.out]) (by kernel_rfl) hR (by omega) (cw_one _) w hBel (by omega) ?_; intro w9 hF9 hB9 _ _))
        have e : splice (cw (List.replicate 8 0)) 0 (cw (blockF keys s b)) = cw (blockF keys s b) := by
          have := HL.out
          simp [splice, this]
        rw [e] at hF9
        exact bodyPost_cell rfl rfl (cw (blockF keys s b)) 8 (by simp [HL.out]) (by kernel_rfl) hF9.sees rfl ⟨rfl, hB9⟩
end Go.Proofs.Ytdpbnppngkamiaa
