/-
  The walk of ShaChains: digests go block by block.
-/
import Derived.Test.YtpdfalgjmeagjaaPieceStep
namespace Go.Proofs.Ytpdfalgjmeagjaa
open Go.RowKit
set_option linter.unusedVariables false
theorem stAll_one (keys s : List UInt32) (x : List UInt8) (h : x.length = 64) : stAll keys s x = blockF keys s x := by
  unfold stAll
  rw [h]
  show blockF keys (stN keys s x 0) _ = _
  rw [Nat.mul_zero, List.drop_zero, List.take_of_length_le (Nat.le_of_eq h)]
  rfl
theorem left_one (x : List UInt8) (h : x.length = 64) : left x = [] := List.eq_nil_of_length_eq_zero (by rw [len_left, h])
theorem block_write (tb to : Nat) (first keys s : List UInt32) (R : Option Addr) (cr g L : Nat) (x : List UInt8) (w : World) (ht : Tab w tb to first keys) (hs : s.length = 8) (hL : L % 64 = 0) (hL2 : L ≤ 1000) (hx : x.length = 64) (hS : Sees w w.heap.size (some ⟨g, 0, none⟩) (cb x)) :
    Calls Try.prog 17 #[.pointer (some ⟨tb, to, none⟩), .agg (hz s (.slice R 0 cr) (L : Int)).toArray, .slice (some ⟨g, 0, none⟩) 64 64] w
      fun e w' => ∃ R' c', e = .returned (.agg (hz (blockF keys s x) (.slice R' 0 c') ((L : Int) + 64)).toArray) ∧ Below w.heap.size w w' := by
  refine (Write_any tb to first keys s R (some ⟨g, 0, none⟩) 0 cr 64 64 (L : Int) [] x w ht hs ⟨by omega, by omega, by omega⟩ Sees.nil rfl hS hx (Nat.le_refl _) (by decide)).mono ?_
  rintro e w' ⟨R', c', rfl, hF, hB⟩
  refine ⟨R', c', ?_, hB⟩
  rw [List.nil_append, stAll_one _ _ _ hx, left_one _ hx]
  rfl
def chA (N gt ga gb : Nat) (first keys : List UInt32) (a b : List UInt8) (j : Nat) (v : Value) (w : World) : Prop :=
  match j with
  | 0 => v = .agg (hz first (.slice none 0 0) 0).toArray
  | 1 => v = .slice (some ⟨ga, 0, none⟩) 64 64
  | 2 => ∃ R c, v = .agg (hz (blockF keys first a) (.slice R 0 c) 64).toArray
  | 3 => v = .slice (some ⟨gb, 0, none⟩) 64 64
  | 4 => ∃ R c, v = .agg (hz (blockF keys (blockF keys first a) b) (.slice R 0 c) 128).toArray
  | 5 => ∃ g, v = .pointer (some ⟨g, 0, none⟩) ∧ Fresh N 31 w (some ⟨g, 0, none⟩) 10 10 (hz (List.replicate 8 0) (.slice none 0 0) 0)
  | _ => True
theorem chA_stab (N gt ga gb : Nat) (first keys : List UInt32) (a b : List UInt8) : ∀ j v w w', Below w.heap.size w w' → chA N gt ga gb first keys a b j v w → chA N gt ga gb first keys a b j v w' := by
  intro j v w w' hb hp
  unfold chA at *
  split at hp <;> first | exact hp | (obtain ⟨g, h1, h2⟩ := hp; exact ⟨g, h1, h2.below hb⟩)
def chB (N gt : Nat) (first keys : List UInt32) (a b : List UInt8) (j : Nat) (v : Value) (w : World) : Prop :=
  match j with
  | 0 => v = .pointer (some ⟨gt, 0, none⟩)
  | 1 => v = .agg (cw first).toArray
  | 2 => v = .agg (cb a).toArray
  | 3 => v = .agg (cw (blockF keys first a)).toArray
  | 4 => v = .agg (cb b).toArray
  | 5 => v = .agg (cw (blockF keys (blockF keys first a) b)).toArray
  | 6 => ∃ g, v = .pointer (some ⟨g, 0, none⟩) ∧ Fresh N 23 w (some ⟨g, 0, none⟩) 8 8 (cw (List.replicate 8 0))
  | _ => True
theorem chB_stab (N gt : Nat) (first keys : List UInt32) (a b : List UInt8) : ∀ j v w w', Below w.heap.size w w' → chB N gt first keys a b j v w → chB N gt first keys a b j v w' := by
  intro j v w w' hb hp
  unfold chB at *
  split at hp <;> first | exact hp | (obtain ⟨g, h1, h2⟩ := hp; exact ⟨g, h1, h2.below hb⟩)
theorem Fresh.olds {w w' : World} {base : Nat} {e : TypeId} {A : Option Addr} {n c : Nat} {xs : List Value} (h : Fresh base e w A n c xs) (hk : ∀ k, k < w.heap.size → w'.heap[k]? = w.heap[k]?) : Fresh base e w' A n c xs := by
  refine ⟨h.1, ?_⟩
  rcases h.2 with hn | ⟨g, cap, cur, hv, hbg, hg, rest⟩
  · exact .inl hn
  · exact .inr ⟨g, cap, cur, hv, hbg, by rw [hk g (Array.getElem?_eq_some_iff.1 hg).1]; exact hg, rest⟩
def chC (gh c2 : Nat) (R2 : Option Addr) (st : List UInt32) (xv yv : Value) (dg : List UInt8) (j : Nat) (v : Value) (w : World) : Prop :=
  match j with
  | 0 => v = .pointer (some ⟨gh, 0, none⟩)
  | 1 => v = .agg (cw st).toArray
  | 2 => v = .agg (cw st).toArray
  | 5 => v = .pointer (some ⟨gh, 9, none⟩)
  | 6 => v = .int .i64 128
  | 10 => v = .pointer (some ⟨gh, 8, none⟩)
  | 11 => v = .slice R2 0 c2
  | 12 => v = .int .i64 0
  | 16 => v = xv
  | 17 => v = .agg (cb dg).toArray
  | 18 => v = yv
  | 19 => v = .agg (cb dg).toArray
  | _ => v = .bool true
theorem chC_stab (gh c2 : Nat) (R2 : Option Addr) (st : List UInt32) (xv yv : Value) (dg : List UInt8) : ∀ j v w w', Below w.heap.size w w' → chC gh c2 R2 st xv yv dg j v w → chC gh c2 R2 st xv yv dg j v w' := by
  intro j v w w' hb hp
  unfold chC at *
  split at hp <;> exact hp
set_option maxHeartbeats 4000000 in
set_option maxRecDepth 100000 in
theorem chains_walk (first keys : List UInt32) (a b l : List UInt8) (A : Option Addr) (n c : Nat) (w : World) (h1 : first.length = 8) (h2 : keys.length = 64) (ha : a.length = 64) (hb : b.length = 64) (hA : Sees w w.heap.size A (cb l)) (hn : l.length = n) (hnc : n ≤ c) (hn2 : n ≤ 200) :
    Calls Try.prog 4 #[.agg (cw (first ++ keys)).toArray, .agg (cb a).toArray, .agg (cb b).toArray, .slice A n c] w fun e w' => e = .returned (.bool true) ∧ Below w.heap.size w w' := by
  have H1 := Lib.hid h1
  have H2 := Lib.hid h2
  have Ha := Lib.hid ha
  have Hb := Lib.hid hb
  have HN := Lib.hid hn
  clear h1 h2 ha hb hn
  have g1 : decide (200 < (n : Int)) = false := by simp; omega
  generalize hTL : first ++ keys = TL
  have HTL := Lib.hid hTL
  have htl : TL.length = 72 := by rw [← hTL, List.length_append, H1.out, H2.out]
  have HTN := Lib.hid htl
  clear hTL htl
  go_enter Try.func4, Try.ntmps4
  go_wp2_with (first
    | (with_reducible refine wpList_box (o := ⟨some 4, _, _, _, _, _⟩) rfl (.tmp 0) 26 rfl (cw TL) rfl 72 (by rw [List.length_map]; exact HTN.out) (by decide) ?_; intro gt w1 hgt hFt hBt)
    | (with_reducible refine wpList_box (o := ⟨some 5, _, _, _, _, _⟩) rfl (.tmp 1) 43 rfl (cb a) rfl 64 (by rw [List.length_map]; exact Ha.out) (by decide) ?_; intro ga w2 hga hFa hBa)
    | (with_reducible refine wpList_box (o := ⟨some 6, _, _, _, _, _⟩) rfl (.tmp 2) 43 rfl (cb b) rfl 64 (by rw [List.length_map]; exact Hb.out) (by decide) ?_; intro gb w3 hgb hFb hBb))
  have d1 := hFt.lt_size
  have d2 := hFa.lt_size
  have d3 := hFb.lt_size
  have z1 := hBt.size
  have z2 := hBa.size
  have z3 := hBb.size
  have hB03 := Below.then_ (Below.then_ hBt hBa) hBb
  have hT3 := (hFt.below hBa).below hBb
  have hA3 := (hFa.below hBb).lower z1
  have hb3 := hFb.lower (Nat.le_trans z1 z2)
  have hTab : Tab w3 gt 0 first keys := ⟨H1.out, H2.out, by rw [HTL.out]; exact hT3.sees⟩
  have hl3 := hA.step hB03
  clear hFt hFa hFb hBt hBa hBb
  have hs1 := len_blockF keys first a H1.out
  have hs2 := len_blockF keys _ b hs1
  have HS1 := Lib.hid hs1
  have HS2 := Lib.hid hs2
  clear hs1 hs2
  refine region_all_tail 6 (chA w3.heap.size gt ga gb first keys a b) (by kernel_rfl) (by kernel_rfl) (by kernel_rfl) (chA_stab _ _ _ _ _ _ _ _) ?_ ?_
  · intro w0 hb0
    simp only [List.take_succ_cons, List.take_zero]
    refine ⟨?_, ?_, ?_, ?_, ?_, ?_, trivial⟩
    all_goals intro listed a1 w' hk hd
    · have f4 : a1.tmps[4]? = some (.pointer (some ⟨gt, 0, none⟩)) := hk.old_at 4 (by kernel_rfl)
      refine stepOk_enter rfl (f := 16) (args := #[.pointer (some ⟨gt, 0, none⟩)]) (by go_simp) ?_
      refine (New_any gt 0 first keys _ ((hTab.step hb0).step hk.below)).mono ?_
      rintro e w5 ⟨rfl, hB5⟩
      exact ⟨_, rfl, rfl, hB5⟩
    · have f5 : a1.tmps[5]? = some (.pointer (some ⟨ga, 0, none⟩)) := hk.old_at 5 (by kernel_rfl)
      have hsl := sl64_all ga
      exact stepOk_value rfl (v := .slice (some ⟨ga, 0, none⟩) 64 64) (by go_simp) rfl
    · obtain ⟨v, q0, _, rfl⟩ := hk.ev_new hd 0 17 (by kernel_rfl) rfl
      obtain ⟨v, q1, _, rfl⟩ := hk.ev_new hd 1 18 (by kernel_rfl) rfl
      have f4 : a1.tmps[4]? = some (.pointer (some ⟨gt, 0, none⟩)) := hk.old_at 4 (by kernel_rfl)
      refine stepOk_enter rfl (f := 17) (args := #[.pointer (some ⟨gt, 0, none⟩), .agg (hz first (.slice none 0 0) ((0 : Nat) : Int)).toArray, .slice (some ⟨ga, 0, none⟩) 64 64]) (by go_simp) ?_
      refine (block_write gt 0 first keys first none 0 ga 0 a _ ((hTab.step hb0).step hk.below) H1.out rfl (by decide) Ha.out ((hA3.below hb0).below hk.below).sees).mono ?_
      rintro e w5 ⟨R5, c5, rfl, hB5⟩
      exact ⟨_, rfl, ⟨R5, c5, rfl⟩, hB5⟩
    · have f6 : a1.tmps[6]? = some (.pointer (some ⟨gb, 0, none⟩)) := hk.old_at 6 (by kernel_rfl)
      have hsl := sl64_all gb
      exact stepOk_value rfl (v := .slice (some ⟨gb, 0, none⟩) 64 64) (by go_simp) rfl
    · obtain ⟨v, q0, _, R1, c1, rfl⟩ := hk.ev_new hd 2 19 (by kernel_rfl) rfl
      obtain ⟨v, q1, _, rfl⟩ := hk.ev_new hd 3 20 (by kernel_rfl) rfl
      have f4 : a1.tmps[4]? = some (.pointer (some ⟨gt, 0, none⟩)) := hk.old_at 4 (by kernel_rfl)
      refine stepOk_enter rfl (f := 17) (args := #[.pointer (some ⟨gt, 0, none⟩), .agg (hz (blockF keys first a) (.slice R1 0 c1) ((64 : Nat) : Int)).toArray, .slice (some ⟨gb, 0, none⟩) 64 64]) (by go_simp) ?_
      refine (block_write gt 0 first keys (blockF keys first a) R1 c1 gb 64 b _ ((hTab.step hb0).step hk.below) HS1.out rfl (by decide) Hb.out ((hb3.below hb0).below hk.below).sees).mono ?_
      rintro e w5 ⟨R5, c5, rfl, hB5⟩
      exact ⟨_, rfl, ⟨R5, c5, rfl⟩, hB5⟩
    · refine stepOk_run rfl (v := .pointer (some ⟨w'.heap.size, 0, none⟩)) (w' := w'.alloc (.cells (hz (List.replicate 8 0) (.slice none 0 0) 0).toArray 31 (0, 0))) ?_ ⟨_, rfl, (Fresh.new w' 31 (hz (List.replicate 8 0) (.slice none 0 0) 0) 10 (by simp) (by decide)).lower ?_⟩ (below_alloc _ _)
      · simp only [execOp]
        rw [Sem.run_bind, run_alloc_zero 31 (hz (List.replicate 8 0) (.slice none 0 0) 0) (by kernel_rfl)]
        rfl
      · have h2 := hb0.size
        have h3 := hk.below.size
        omega
  · intro a1 w' hbw hp
    obtain ⟨v0, p0, v1, p1, v2, p2, v3, p3, v4, p4, v5, p5, rfl⟩ := hp
    simp only [chA] at p0 p1 p2 p3 p4 p5
    subst p0 p1 p3
    obtain ⟨R1, c1, rfl⟩ := p2
    obtain ⟨R2, c2, rfl⟩ := p4
    obtain ⟨gh, rfl, hFh⟩ := p5
    simp only [List.drop_succ_cons, List.drop_zero, Act.put, List.setIfInBounds_toArray, List.set_cons_succ, List.set_cons_zero]
    have hB04 := Below.then_ hB03 hbw
    have hghb := hFh.block.2
    replace hFh := hFh.lower hB03.size
    go_wp2_with (with_reducible refine wpList_store rfl rfl (.tmp 9) (.tmp 21) 31 rfl gh 0 w.heap.size 31 10 _ (hz (blockF keys (blockF keys first a) b) (.slice R2 0 c2) 128) rfl rfl 10 (hz_len _ _ _ HS2.out) (by kernel_rfl) hFh (by omega) (hz_one _ _ _ rfl) w hB04 (by omega) ?_; intro w5 hH5 hB5 hoth5 hsz5)
    rw [show splice (hz (List.replicate 8 0) (.slice none 0 0) 0) 0 (hz (blockF keys (blockF keys first a) b) (.slice R2 0 c2) 128) = hz (blockF keys (blockF keys first a) b) (.slice R2 0 c2) 128 from by
      have := HS2.out
      simp [splice, this]] at hH5
    have hT5 := (hT3.below hbw).other (g' := gh) (by omega) hoth5
    have hA5 := (hA3.below hbw).other (g' := gh) (by omega) hoth5
    have hb5 := (hb3.below hbw).other (g' := gh) (by omega) hoth5
    have hTab5 : Tab w5 gt 0 first keys := ⟨H1.out, H2.out, by rw [HTL.out]; exact hT5.sees⟩
    have hl5 : Sees w5 w.heap.size A (cb l) := hA.below hB5
    have dgh := hH5.lt_size
    clear hT3 hA3 hb3 hTab hl3 hB03 hbw hB04 hFh hoth5
    refine region_all_tail 7 (chB w5.heap.size gt first keys a b) (by kernel_rfl) (by kernel_rfl) (by kernel_rfl) (chB_stab _ _ _ _ _ _) ?_ ?_
    · intro w0 hb0
      simp only [List.take_succ_cons, List.take_zero]
      refine ⟨?_, ?_, ?_, ?_, ?_, ?_, ?_, trivial⟩
      all_goals intro listed a1 w' hk hd
      · have f4 : a1.tmps[4]? = some (.pointer (some ⟨gt, 0, none⟩)) := hk.old_at 4 (by kernel_rfl)
        exact stepOk_value rfl (v := .pointer (some ⟨gt, 0, none⟩)) (by go_simp) rfl
      · obtain ⟨v, q0, _, rfl⟩ := hk.ev_new hd 0 22 (by kernel_rfl) rfl
        exact stepOk_value rfl (run_load_agg (.tmp 22) 23 rfl q0 (cw first) 8 (by rw [List.length_map]; exact H1.out) (by kernel_rfl) ((hTab5.step hb0).step hk.below).firstAt) rfl
      · have f2 := hk.ev_old 5 (by kernel_rfl)
        exact stepOk_value rfl (run_load_agg (.tmp 5) 43 rfl f2 (cb a) 64 (by rw [List.length_map]; exact Ha.out) (by kernel_rfl) ((hA5.below hb0).below hk.below).sees) rfl
      · obtain ⟨v, q0, _, rfl⟩ := hk.ev_new hd 1 23 (by kernel_rfl) rfl
        obtain ⟨v, q1, _, rfl⟩ := hk.ev_new hd 2 24 (by kernel_rfl) rfl
        have f4 : a1.tmps[4]? = some (.pointer (some ⟨gt, 0, none⟩)) := hk.old_at 4 (by kernel_rfl)
        refine stepOk_enter rfl (f := 22) (args := #[.pointer (some ⟨gt, 0, none⟩), .agg (cw first).toArray, .agg (cb a).toArray]) (by go_simp) ?_
        refine (Block_any gt 0 first keys first a _ ((hTab5.step hb0).step hk.below) H1.out Ha.out).mono ?_
        rintro e w6 ⟨rfl, hB6⟩
        exact ⟨_, rfl, rfl, hB6⟩
      · have f2 := hk.ev_old 6 (by kernel_rfl)
        exact stepOk_value rfl (run_load_agg (.tmp 6) 43 rfl f2 (cb b) 64 (by rw [List.length_map]; exact Hb.out) (by kernel_rfl) ((hb5.below hb0).below hk.below).sees) rfl
      · obtain ⟨v, q0, _, rfl⟩ := hk.ev_new hd 3 25 (by kernel_rfl) rfl
        obtain ⟨v, q1, _, rfl⟩ := hk.ev_new hd 4 26 (by kernel_rfl) rfl
        have f4 : a1.tmps[4]? = some (.pointer (some ⟨gt, 0, none⟩)) := hk.old_at 4 (by kernel_rfl)
        refine stepOk_enter rfl (f := 22) (args := #[.pointer (some ⟨gt, 0, none⟩), .agg (cw (blockF keys first a)).toArray, .agg (cb b).toArray]) (by go_simp) ?_
        refine (Block_any gt 0 first keys (blockF keys first a) b _ ((hTab5.step hb0).step hk.below) HS1.out Hb.out).mono ?_
        rintro e w6 ⟨rfl, hB6⟩
        exact ⟨_, rfl, rfl, hB6⟩
      · refine stepOk_run rfl (v := .pointer (some ⟨w'.heap.size, 0, none⟩)) (w' := w'.alloc (.cells (cw (List.replicate 8 0)).toArray 23 (0, 0))) ?_ ⟨_, rfl, (Fresh.new w' 23 (cw (List.replicate 8 0)) 8 (by simp) (by decide)).lower ?_⟩ (below_alloc _ _)
        · simp only [execOp]
          rw [Sem.run_bind, run_alloc_zero 23 (cw (List.replicate 8 0)) (by kernel_rfl)]
          rfl
        · have h2 := hb0.size
          have h3 := hk.below.size
          omega
    · intro a1 w' hbw hp
      obtain ⟨v0, p0, v1, p1, v2, p2, v3, p3, v4, p4, v5, p5, v6, p6, rfl⟩ := hp
      simp only [chB] at p0 p1 p2 p3 p4 p5 p6
      subst p0 p1 p2 p3 p4 p5
      obtain ⟨gs, rfl, hFs⟩ := p6
      simp only [List.drop_succ_cons, List.drop_zero, Act.put, List.setIfInBounds_toArray, List.set_cons_succ, List.set_cons_zero]
      generalize blockF keys (blockF keys first a) b = st at HS2 hH5 ⊢
      obtain ⟨x0, x1, x2, x3, x4, x5, x6, x7, rfl⟩ := eight st HS2.out
      have hB06 := Below.then_ hB5 hbw
      have hgs := hFs.block.2
      replace hFs := hFs.lower hB5.size
      have hH6 := hH5.below hbw
      have hT6 := hT5.below hbw
      have dgs := hFs.lt_size
      clear hA5 hb5 hTab5 hT5 hH5
      go_wp2_with (first
        | (with_reducible refine wpList_store rfl rfl (.tmp 10) (.tmp 27) 23 rfl gs 0 w.heap.size 23 8 _ (cw [x0, x1, x2, x3, x4, x5, x6, x7]) rfl rfl 8 (by simp) (by kernel_rfl) hFs (by omega) (cw_one _) w hB06 (by omega) ?_; intro w7 hS7 hB7 hoth7 hsz7
           rw [show splice (cw (List.replicate 8 0)) 0 (cw [x0, x1, x2, x3, x4, x5, x6, x7]) = cw [x0, x1, x2, x3, x4, x5, x6, x7] from by simp [splice]] at hS7
           have hH7 := hH6.other (g' := gs) (by omega) hoth7
           have hT7 := hT6.other (g' := gs) (by omega) hoth7
           have hTab7 : Tab w7 gt 0 first keys := ⟨H1.out, H2.out, by rw [HTL.out]; exact hT7.sees⟩
           have hl7 := (hA.below hB7).more hB7.size)
        | (with_reducible refine wpList_load (o := ⟨some 28, _, _, _, _, _⟩) rfl (.tmp 9) 31 rfl gh 0 _ rfl (hz [x0, x1, x2, x3, x4, x5, x6, x7] (.slice R2 0 c2) 128) 10 (by simp) (by kernel_rfl) hH7.sees ?_))
      refine (Write_any gt 0 first keys [x0, x1, x2, x3, x4, x5, x6, x7] R2 A 0 c2 n c 128 [] l w7 hTab7 HS2.out ⟨by omega, by omega, by omega⟩ Sees.nil rfl hl7 HN.out hnc (by omega)).mono ?_
      rintro e w8 ⟨A8, c8, rfl, hF8, hB8⟩
      rw [List.nil_append] at hF8
      rw [List.nil_append]
      have hll : (left l).length = n % 64 := by rw [len_left, HN.out]
      have hls := len_stN keys [x0, x1, x2, x3, x4, x5, x6, x7] l HS2.out (l.length / 64)
      have HLS : Hid ((stAll keys [x0, x1, x2, x3, x4, x5, x6, x7] l).length = 8) := hls
      have HLL := Lib.hid hll
      clear hls hll
      rw [HLL.out] at hF8
      rw [HLL.out]
      generalize hsl : stAll keys [x0, x1, x2, x3, x4, x5, x6, x7] l = sl at HLS ⊢
      have HSL := Lib.hid hsl
      clear hsl
      have hB08 := Below.then_ hB7 hB8
      have hH8 := hH7.below hB8
      have hT8 := hT7.below hB8
      have hS8 := hS7.below hB8
      have d8h := hH8.lt_size
      have d8s := hS8.lt_size
      have d8t := hT8.lt_size
      have z7 := hB7.size
      have z8 := hB08.size
      clear hH7 hT7 hS7 hTab7 hl7 hH6 hT6 hFs hoth7
      go_wp2_with (first
        | (with_reducible refine wpList_alloc (o := ⟨some 11, _, _, _, _, _⟩) rfl 31 rfl (hz (List.replicate 8 0) (.slice none 0 0) 0) (by kernel_rfl) 10 (by simp) (by decide) ?_; intro gx w9 hgx hFx hBx; have hB09 := Below.then_ hB08 hBx; have hFx9 := hFx.lower z8)
        | (with_reducible refine wpList_store rfl rfl (.tmp 11) (.tmp 30) 31 rfl gx 0 w.heap.size 31 10 _ (hz sl (.slice A8 (n % 64) c8) (128 + (n : Int))) rfl rfl 10 (hz_len _ _ _ HLS.out) (by kernel_rfl) hFx9 (by omega) (hz_one _ _ _ rfl) w hB09 (by omega) ?_; intro w10 hX10 hB10 hoth10 hsz10
           rw [show splice (hz (List.replicate 8 0) (.slice none 0 0) 0) 0 (hz sl (.slice A8 (n % 64) c8) (128 + (n : Int))) = hz sl (.slice A8 (n % 64) c8) (128 + (n : Int)) from by have := HLS.out; simp [splice, this]] at hX10
           have hH10 := (hH8.below hBx).other (g' := gx) (by omega) hoth10
           have hT10 := (hT8.below hBx).other (g' := gx) (by omega) hoth10
           have hS10 := (hS8.below hBx).other (g' := gx) (by omega) hoth10
           have hR10 := hF8.olds (w' := w10) fun k hk => (hoth10 k (by omega)).trans (hBx.block k hk)
           have hTab10 : Tab w10 gt 0 first keys := ⟨H1.out, H2.out, by rw [HTL.out]; exact hT10.sees⟩
           have hl10 := (hA.below hB10).more hB10.size)
        | (with_reducible refine wpList_load (o := ⟨some 31, _, _, _, _, _⟩) rfl (.tmp 10) 23 rfl gs 0 _ rfl (cw [x0, x1, x2, x3, x4, x5, x6, x7]) 8 (by simp) (by kernel_rfl) hS10.sees ?_)
        | (with_reducible refine wpList_run (o := ⟨some 32, _, _, _, _, _⟩) (v := .agg (hz [x0, x1, x2, x3, x4, x5, x6, x7] (.slice none 0 0) 128).toArray) (w' := w10) rfl (by kernel_rfl) ?_))
      refine (Write_any gt 0 first keys [x0, x1, x2, x3, x4, x5, x6, x7] none A 0 0 n c 128 [] l w10 hTab10 HS2.out ⟨by omega, by omega, by omega⟩ Sees.nil rfl hl10 HN.out hnc (by omega)).mono ?_
      rintro e w11 ⟨A11, c11, rfl, hF11, hB11⟩
      rw [List.nil_append, HLL.out] at hF11
      rw [List.nil_append, HLL.out, HSL.out]
      have hB011 := Below.then_ hB10 hB11
      have hH11 := hH10.below hB11
      have hT11 := hT10.below hB11
      have hS11 := hS10.below hB11
      have hX11 := hX10.below hB11
      have hR11 := hR10.below hB11
      have e1 := hH11.lt_size
      have e2 := hS11.lt_size
      have e3 := hT11.lt_size
      have e4 := hX11.lt_size
      have z11 := hB011.size
      clear hH10 hT10 hS10 hX10 hR10 hTab10 hl10 hF8 hH8 hT8 hS8 hFx hFx9 hoth10
      go_wp2_with (first
        | (with_reducible refine wpList_alloc (o := ⟨some 12, _, _, _, _, _⟩) rfl 31 rfl (hz (List.replicate 8 0) (.slice none 0 0) 0) (by kernel_rfl) 10 (by simp) (by decide) ?_; intro gy w12 hgy hFy hBy; have hB012 := Below.then_ hB011 hBy; have hFy12 := hFy.lower z11)
        | (with_reducible refine wpList_store rfl rfl (.tmp 12) (.tmp 34) 31 rfl gy 0 w.heap.size 31 10 _ (hz sl (.slice A11 (n % 64) c11) (128 + (n : Int))) rfl rfl 10 (hz_len _ _ _ HLS.out) (by kernel_rfl) hFy12 (by omega) (hz_one _ _ _ rfl) w hB012 (by omega) ?_; intro w13 hY13 hB13 hoth13 hsz13))
      rw [show splice (hz (List.replicate 8 0) (.slice none 0 0) 0) 0 (hz sl (.slice A11 (n % 64) c11) (128 + (n : Int))) = hz sl (.slice A11 (n % 64) c11) (128 + (n : Int)) from by have := HLS.out; simp [splice, this]] at hY13
      have hH := (hH11.below hBy).other (g' := gy) (by omega) hoth13
      have hT := (hT11.below hBy).other (g' := gy) (by omega) hoth13
      have hS := (hS11.below hBy).other (g' := gy) (by omega) hoth13
      have hX := (hX11.below hBy).other (g' := gy) (by omega) hoth13
      have hRx := hR11.olds (w' := w13) fun k hk => (hoth13 k (by omega)).trans (hBy.block k hk)
      have hRy := hF11.olds (w' := w13) fun k hk => (hoth13 k (by omega)).trans (hBy.block k hk)
      have hTab : Tab w13 gt 0 first keys := ⟨H1.out, H2.out, by rw [HTL.out]; exact hT.sees⟩
      have hdl : (sumF keys sl (left l) (128 + n)).length = 32 := by
        unfold sumF
        rw [len_digF, show (stAll keys sl (left l ++ padL (128 + n))).length = 8 from len_stN _ _ _ HLS.out _]
      have HDL := Lib.hid hdl
      clear hdl hH11 hT11 hS11 hX11 hR11 hF11 hoth13 hFy hFy12
      have hn128 : 128 + (n : Int) = ((128 + n : Nat) : Int) := by omega
      rw [hn128] at hX hY13
      clear hn128
      refine region_all (chC gh c2 R2 [x0, x1, x2, x3, x4, x5, x6, x7] (.agg (hz sl (.slice A8 (n % 64) c8) ((128 + n : Nat) : Int)).toArray) (.agg (hz sl (.slice A11 (n % 64) c11) ((128 + n : Nat) : Int)).toArray) (sumF keys sl (left l) (128 + n))) (by kernel_rfl) (by kernel_rfl) (chC_stab _ _ _ _ _ _ _) ?_ ?_
      · intro w0 hb0
        refine ⟨?_, ?_, ?_, ?_, ?_, ?_, ?_, ?_, ?_, ?_, ?_, ?_, ?_, ?_, ?_, ?_, ?_, ?_, ?_, ?_, ?_, ?_, ?_, ?_, ?_, ?_, trivial⟩
        all_goals intro listed a1 w' hk hd
        · have f9 : a1.tmps[9]? = some (.pointer (some ⟨gh, 0, none⟩)) := hk.old_at 9 (by kernel_rfl)
          exact stepOk_value rfl (v := .pointer (some ⟨gh, 0, none⟩)) (by go_simp) rfl
        · obtain ⟨v, q0, _, rfl⟩ := hk.ev_new hd 0 35 (by kernel_rfl) rfl
          have hL := Sees.of_fresh ((hH.below hb0).below hk.below) 0 8
          rw [hz_take _ _ _ HS2.out] at hL
          exact stepOk_value rfl (run_load_agg (.tmp 35) 23 rfl q0 (cw [x0, x1, x2, x3, x4, x5, x6, x7]) 8 (by simp) (by kernel_rfl) hL) rfl
        · have f2 := hk.ev_old 10 (by kernel_rfl)
          exact stepOk_value rfl (run_load_agg (.tmp 10) 23 rfl f2 (cw [x0, x1, x2, x3, x4, x5, x6, x7]) 8 (by simp) (by kernel_rfl) ((hS.below hb0).below hk.below).sees) rfl
        · obtain ⟨v, q0, _, rfl⟩ := hk.ev_new hd 1 36 (by kernel_rfl) rfl
          obtain ⟨v, q1, _, rfl⟩ := hk.ev_new hd 2 37 (by kernel_rfl) rfl
          refine stepOk_value rfl (v := .bool true) ?_ rfl
          rw [run_eq8w (.tmp 36) (.tmp 37) _ rfl [x0, x1, x2, x3, x4, x5, x6, x7] [x0, x1, x2, x3, x4, x5, x6, x7] q0 q1 rfl rfl, beq_self_eq_true]
        · obtain ⟨v, q0, _, rfl⟩ := hk.ev_new hd 3 38 (by kernel_rfl) rfl
          exact stepOk_value rfl (v := .bool true) (by go_simp) rfl
        · obtain ⟨v, q0, hv, rfl⟩ := hk.ev_new hd 4 39 (by kernel_rfl) rfl
          have f9 : a1.tmps[9]? = some (.pointer (some ⟨gh, 0, none⟩)) := hk.old_at 9 (by kernel_rfl)
          exact stepOk_val_w (wanted_at (t := 39) rfl rfl hv) (v := .pointer (some ⟨gh, 9, none⟩)) (by go_simp) rfl
        · obtain ⟨v, q0, hv, rfl⟩ := hk.ev_new hd 4 39 (by kernel_rfl) rfl
          obtain ⟨v, q1, _, rfl⟩ := hk.ev_new hd 5 40 (by kernel_rfl) rfl
          have c9 := ((hH.below hb0).below hk.below).cell_ (hz_n [x0, x1, x2, x3, x4, x5, x6, x7] (.slice R2 0 c2) 128 rfl)
          exact stepOk_val_w (wanted_at (t := 39) rfl rfl hv) (v := .int .i64 128) (by go_simp) rfl
        · obtain ⟨v, q0, hv, rfl⟩ := hk.ev_new hd 4 39 (by kernel_rfl) rfl
          obtain ⟨v, q1, _, rfl⟩ := hk.ev_new hd 6 41 (by kernel_rfl) rfl
          exact stepOk_val_w (wanted_at (t := 39) rfl rfl hv) (v := .bool true) (by go_simp) rfl
        · obtain ⟨v, q0, _, rfl⟩ := hk.ev_new hd 4 39 (by kernel_rfl) rfl
          obtain ⟨v, q1, _, rfl⟩ := hk.ev_new hd 7 42 (by kernel_rfl) rfl
          exact stepOk_value rfl (v := .bool true) (by go_simp) rfl
        · obtain ⟨v, q0, _, rfl⟩ := hk.ev_new hd 8 43 (by kernel_rfl) rfl
          exact stepOk_value rfl (v := .bool true) (by go_simp) rfl
        · obtain ⟨v, q0, hv, rfl⟩ := hk.ev_new hd 9 44 (by kernel_rfl) rfl
          have f9 : a1.tmps[9]? = some (.pointer (some ⟨gh, 0, none⟩)) := hk.old_at 9 (by kernel_rfl)
          exact stepOk_val_w (wanted_at (t := 44) rfl rfl hv) (v := .pointer (some ⟨gh, 8, none⟩)) (by go_simp) rfl
        · obtain ⟨v, q0, hv, rfl⟩ := hk.ev_new hd 9 44 (by kernel_rfl) rfl
          obtain ⟨v, q1, _, rfl⟩ := hk.ev_new hd 10 45 (by kernel_rfl) rfl
          have c8' := ((hH.below hb0).below hk.below).cell_ (hz_rest [x0, x1, x2, x3, x4, x5, x6, x7] (.slice R2 0 c2) 128 rfl)
          exact stepOk_val_w (wanted_at (t := 44) rfl rfl hv) (v := .slice R2 0 c2) (by go_simp) rfl
        · obtain ⟨v, q0, hv, rfl⟩ := hk.ev_new hd 9 44 (by kernel_rfl) rfl
          obtain ⟨v, q1, _, rfl⟩ := hk.ev_new hd 11 46 (by kernel_rfl) rfl
          exact stepOk_val_w (wanted_at (t := 44) rfl rfl hv) (v := .int .i64 0) (by go_simp) rfl
        · obtain ⟨v, q0, hv, rfl⟩ := hk.ev_new hd 9 44 (by kernel_rfl) rfl
          obtain ⟨v, q1, _, rfl⟩ := hk.ev_new hd 12 47 (by kernel_rfl) rfl
          exact stepOk_val_w (wanted_at (t := 44) rfl rfl hv) (v := .bool true) (by go_simp) rfl
        · obtain ⟨v, q0, _, rfl⟩ := hk.ev_new hd 9 44 (by kernel_rfl) rfl
          obtain ⟨v, q1, _, rfl⟩ := hk.ev_new hd 13 48 (by kernel_rfl) rfl
          exact stepOk_value rfl (v := .bool true) (by go_simp) rfl
        · obtain ⟨v, q0, _, rfl⟩ := hk.ev_new hd 14 49 (by kernel_rfl) rfl
          exact stepOk_value rfl (v := .bool true) (by go_simp) rfl
        · obtain ⟨v, q0, hv, rfl⟩ := hk.ev_new hd 15 50 (by kernel_rfl) rfl
          have f2 := hk.ev_old 11 (by kernel_rfl)
          exact stepOk_val_w (wanted_at (t := 50) rfl rfl hv) (run_load_agg (.tmp 11) 31 rfl f2 _ 10 (hz_len _ _ _ HLS.out) (by kernel_rfl) ((hX.below hb0).below hk.below).sees) rfl
        · obtain ⟨v, q0, hv, rfl⟩ := hk.ev_new hd 15 50 (by kernel_rfl) rfl
          obtain ⟨v, q1, _, rfl⟩ := hk.ev_new hd 16 51 (by kernel_rfl) rfl
          have f4 : a1.tmps[4]? = some (.pointer (some ⟨gt, 0, none⟩)) := hk.old_at 4 (by kernel_rfl)
          refine stepOk_enter (wanted_at (t := 50) rfl rfl hv) (f := 19) (args := #[.pointer (some ⟨gt, 0, none⟩), .agg (hz sl (.slice A8 (n % 64) c8) ((128 + n : Nat) : Int)).toArray]) (by go_simp) ?_
          refine (Sum_any gt 0 first keys sl A8 (n % 64) c8 (128 + n) (left l) _ ((hTab.step hb0).step hk.below) HLS.out ⟨by omega, by omega, by omega⟩ ((hRx.below hb0).below hk.below).sees HLL.out).mono ?_
          rintro e w6 ⟨rfl, hB6⟩
          exact ⟨_, rfl, rfl, hB6⟩
        · obtain ⟨v, q0, hv, rfl⟩ := hk.ev_new hd 15 50 (by kernel_rfl) rfl
          have f2 := hk.ev_old 12 (by kernel_rfl)
          exact stepOk_val_w (wanted_at (t := 50) rfl rfl hv) (run_load_agg (.tmp 12) 31 rfl f2 _ 10 (hz_len _ _ _ HLS.out) (by kernel_rfl) ((hY13.below hb0).below hk.below).sees) rfl
        · obtain ⟨v, q0, hv, rfl⟩ := hk.ev_new hd 15 50 (by kernel_rfl) rfl
          obtain ⟨v, q1, _, rfl⟩ := hk.ev_new hd 18 53 (by kernel_rfl) rfl
          have f4 : a1.tmps[4]? = some (.pointer (some ⟨gt, 0, none⟩)) := hk.old_at 4 (by kernel_rfl)
          refine stepOk_enter (wanted_at (t := 50) rfl rfl hv) (f := 19) (args := #[.pointer (some ⟨gt, 0, none⟩), .agg (hz sl (.slice A11 (n % 64) c11) ((128 + n : Nat) : Int)).toArray]) (by go_simp) ?_
          refine (Sum_any gt 0 first keys sl A11 (n % 64) c11 (128 + n) (left l) _ ((hTab.step hb0).step hk.below) HLS.out ⟨by omega, by omega, by omega⟩ ((hRy.below hb0).below hk.below).sees HLL.out).mono ?_
          rintro e w6 ⟨rfl, hB6⟩
          exact ⟨_, rfl, rfl, hB6⟩
        · obtain ⟨v, q0, hv, rfl⟩ := hk.ev_new hd 15 50 (by kernel_rfl) rfl
          obtain ⟨v, q1, _, rfl⟩ := hk.ev_new hd 17 52 (by kernel_rfl) rfl
          obtain ⟨v, q2, _, rfl⟩ := hk.ev_new hd 19 54 (by kernel_rfl) rfl
          refine stepOk_val_w (wanted_at (t := 50) rfl rfl hv) (v := .bool true) ?_ rfl
          rw [run_eq32b (.tmp 52) (.tmp 54) _ rfl _ _ q1 q2 HDL.out HDL.out, beq_self_eq_true]
        · obtain ⟨v, q0, _, rfl⟩ := hk.ev_new hd 15 50 (by kernel_rfl) rfl
          obtain ⟨v, q1, _, rfl⟩ := hk.ev_new hd 20 55 (by kernel_rfl) rfl
          exact stepOk_value rfl (v := .bool true) (by go_simp) rfl
        · obtain ⟨v, q0, _, rfl⟩ := hk.ev_new hd 21 56 (by kernel_rfl) rfl
          exact stepOk_value rfl (v := .bool true) (by go_simp) rfl
        · obtain ⟨v, q0, hv, rfl⟩ := hk.ev_new hd 22 57 (by kernel_rfl) rfl
          refine stepOk_enter (wanted_at (t := 57) rfl rfl hv) (f := 15) (args := #[]) (by go_simp) ?_
          refine (awake2_any _).mono ?_
          rintro e w6 ⟨rfl, hB6⟩
          exact ⟨_, rfl, rfl, hB6⟩
        · obtain ⟨v, q0, _, rfl⟩ := hk.ev_new hd 22 57 (by kernel_rfl) rfl
          obtain ⟨v, q1, _, rfl⟩ := hk.ev_new hd 23 58 (by kernel_rfl) rfl
          exact stepOk_value rfl (v := .bool true) (by go_simp) rfl
        · obtain ⟨v, q0, _, rfl⟩ := hk.ev_new hd 24 59 (by kernel_rfl) rfl
          exact stepOk_value rfl (v := .bool true) (by go_simp) rfl
      · intro w0 hb0 listed a1 w' hk hall
        obtain ⟨v, hv, rfl⟩ := hk.new 25 _ 8 rfl rfl (hall 25 (by simp))
        have hdf := hk.defers
        have hB := Below.then_ hB13 (Below.then_ hb0 hk.below)
        rename_i hK
        refine hK _ _ (wp_ret ?_)
        refine bodyPost_ret (v := .bool true) ?_ hdf ⟨rfl, hB⟩
        rw [results_tmp (t := 8) rfl]
        simp [Array.getD_eq_getD_getElem?, hv]
set_option maxHeartbeats 400000 in
theorem chains_over (first keys : List UInt32) (a b : List UInt8) (A : Option Addr) (n c : Nat) (w : World) (h1 : first.length = 8) (h2 : keys.length = 64) (ha : a.length = 64) (hb : b.length = 64) (h : 200 < n) :
    Calls Try.prog 4 #[.agg (cw (first ++ keys)).toArray, .agg (cb a).toArray, .agg (cb b).toArray, .slice A n c] w fun e w' => e = .returned (.bool true) ∧ Below w.heap.size w w' := by
  have hl : (cw (first ++ keys)).length = 72 := by rw [List.length_map, List.length_append, h1, h2]
  have HL := Lib.hid hl
  have Ha := Lib.hid ha
  have Hb := Lib.hid hb
  clear hl h1 h2 ha hb
  go_enter Try.func4, Try.ntmps4
  go_wp2_with (first
    | (with_reducible refine wpList_box (o := ⟨some 4, _, _, _, _, _⟩) rfl (.tmp 0) 26 rfl (cw (first ++ keys)) rfl 72 HL.out (by decide) ?_; intro gt w1 hgt hFt hBt)
    | (with_reducible refine wpList_box (o := ⟨some 5, _, _, _, _, _⟩) rfl (.tmp 1) 43 rfl (cb a) rfl 64 (by rw [List.length_map]; exact Ha.out) (by decide) ?_; intro ga w2 hga hFa hBa)
    | (with_reducible refine wpList_box (o := ⟨some 6, _, _, _, _, _⟩) rfl (.tmp 2) 43 rfl (cb b) rfl 64 (by rw [List.length_map]; exact Hb.out) (by decide) ?_; intro gb w3 hgb hFb hBb)
    | (go_at_call 15; refine (awake2_any _).mono ?_; rintro e w9 ⟨rfl, hB9⟩))
  go_ret
  exact ⟨rfl, Below.then_ (Below.then_ (Below.then_ hBt hBa) hBb) hB9⟩
theorem chains_law (W : World) (first0 keys0 : List UInt32) (lf0 : first0.length = 8) (lk0 : keys0.length = 64) (blk1 : List UInt8) (lb1 : blk1.length = 64) (blk2 : List UInt8) (lb2 : blk2.length = 64) (a3 : Option Addr) (len3 cap3 : Nat) (z3 : List Int) (w3 : IsRow .u8 W a3 len3 cap3 z3) :
    Calls Try.prog 4 #[.agg (cw (first0 ++ keys0)).toArray, .agg (cb blk1).toArray, .agg (cb blk2).toArray, .slice a3 len3 cap3] W fun e w' => e = .returned (.bool true) ∧ Below W.heap.size W w' := by
  obtain ⟨l, hl, hs, hc, _⟩ := row_bytes w3
  by_cases h : 200 < len3
  · exact chains_over first0 keys0 blk1 blk2 a3 len3 cap3 W lf0 lk0 lb1 lb2 h
  · exact chains_walk first0 keys0 blk1 blk2 l a3 len3 cap3 W lf0 lk0 lb1 lb2 hs hl hc (by omega)
end Go.Proofs.Ytpdfalgjmeagjaa
