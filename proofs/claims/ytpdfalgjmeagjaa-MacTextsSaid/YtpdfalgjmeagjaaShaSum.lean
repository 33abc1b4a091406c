/-
  What sha.Sum and sha.Of answer: the digest.
-/
import Derived.Test.YtpdfalgjmeagjaaShaWrite
namespace Go.Proofs.Ytpdfalgjmeagjaa
open Go.RowKit
set_option linter.unusedVariables false
theorem Kept.old_at {ops : Array Oper} {pr : Nat → Value → World → Prop} {a0 a : Act} {w0 w : World} {listed : Array Bool} (hk : Kept ops pr a0 w0 listed a w) (t : Tmp) (h : (ops.all fun o => o.dst != some t) = true) : a.tmps[t]? = a0.tmps[t]? :=
  hk.old t (fun j oj hj _ hd => by
    rw [Array.all_eq_true_iff_forall_mem] at h
    have := h oj (Array.mem_of_getElem? hj)
    simp [hd] at this)
def sumFacts (N tb to gh : Nat) (s keys : List UInt32) (rv : Value) (L : Int) (rest : List UInt8) (n : Nat) (j : Nat) (v : Value) (w : World) : Prop :=
  match j with
  | 0 => v = .pointer (some ⟨tb, to, none⟩)
  | 1 => v = .agg (hz s rv L).toArray
  | 2 => v = .pointer (some ⟨gh, 9, none⟩)
  | 3 => v = .int .i64 (n : Int)
  | 4 => ∃ A c, v = .slice A (9 + noughts n) c ∧ 9 + noughts n ≤ c ∧ Sees w w.heap.size A (cb (padL n))
  | 5 => ∃ v' L', v = .agg (hz (stAll keys s (rest ++ padL n)) v' L').toArray ∧ v'.oneCell' = true
  | 6 => ∃ g, v = .pointer (some ⟨g, 0, none⟩) ∧ Fresh N 31 w (some ⟨g, 0, none⟩) 10 10 (hz (List.replicate 8 0) (.slice none 0 0) 0)
  | _ => True
theorem sumFacts_stab (N tb to gh : Nat) (s keys : List UInt32) (rv : Value) (L : Int) (rest : List UInt8) (n : Nat) : ∀ j v w w', Below w.heap.size w w' → sumFacts N tb to gh s keys rv L rest n j v w → sumFacts N tb to gh s keys rv L rest n j v w' := by
  intro j v w w' hb h
  unfold sumFacts at *
  split at h <;> first | exact h | (obtain ⟨g, h1, h2⟩ := h; exact ⟨g, h1, h2.below hb⟩) | (obtain ⟨A, c, h1, h2, h3⟩ := h; exact ⟨A, c, h1, h2, h3.step hb⟩) | trivial
/-- The digest's bytes, the first k of them laid. -/
def digK (s : List UInt32) (k : Nat) : List UInt8 := (digF s).take k ++ List.replicate (32 - k) 0
theorem digF_get : ∀ (s : List UInt32) (i : Nat) (x : UInt32), s[i / 4]? = some x → (digF s)[i]? = some (byteAt x.toNat (i % 4))
  | [], i, x, h => by simp at h
  | y :: s, i, x, h => by
    have e : digF (y :: s) = wd y.toNat ++ digF s := rfl
    rw [e]
    by_cases hi : i < 4
    · rw [List.getElem?_append_left (by simpa [wd] using hi)]
      have h0 : i / 4 = 0 := by omega
      rw [h0] at h
      simp at h
      subst h
      rw [show i % 4 = i from by omega]
      match i, hi with
      | 0, _ => rfl
      | 1, _ => rfl
      | 2, _ => rfl
      | 3, _ => rfl
    · rw [List.getElem?_append_right (by simp [wd]; omega), show (wd y.toNat).length = 4 from rfl]
      have h1 : i / 4 = (i - 4) / 4 + 1 := by omega
      rw [h1, List.getElem?_cons_succ] at h
      rw [digF_get s (i - 4) x h, show (i - 4) % 4 = i % 4 from by omega]
theorem digK_set (s : List UInt32) (k : Nat) (x : UInt32) (hs : s.length = 8) (hk : k < 32) (hx : s[k / 4]? = some x) : (digK s k).set k (byteAt x.toNat (k % 4)) = digK s (k + 1) := by
  unfold digK
  have hl := len_digF s
  have hlt : ((digF s).take k).length = k := by simp [hl]; omega
  rw [List.set_append_right _ _ (by omega), hlt, Nat.sub_self, show 32 - k = (32 - (k + 1)) + 1 from by omega, List.replicate_succ, List.set_cons_zero, List.take_add_one, digF_get s k x hx, List.append_assoc]
  rfl
set_option maxHeartbeats 2000000 in
set_option maxRecDepth 100000 in
theorem Sum_any (tb to : Nat) (first keys s : List UInt32) (R : Option Addr) (m cr n : Nat) (rest : List UInt8) (w : World) (ht : Tab w tb to first keys) (hs : s.length = 8) (hr : Right m (n : Int))
    (hR : Sees w w.heap.size R (cb rest)) (hm : rest.length = m) :
    Calls Try.prog 19 #[.pointer (some ⟨tb, to, none⟩), .agg (hz s (.slice R m cr) (n : Int)).toArray] w fun e w' => e = .returned (.agg (cb (sumF keys s rest n)).toArray) ∧ Below w.heap.size w w' := by
  have HS := Lib.hid hs
  have HM := Lib.hid hm
  clear hs hm
  have hn56 : n ≤ 72057594037927936 := by have := hr.2.1; omega
  have HR := Lib.hid hr
  clear hr
  go_enter Try.func19, Try.ntmps19
  go_wp2_with (first
    | (with_reducible refine wpList_box (o := ⟨some 3, _, _, _, _, _⟩) rfl (.tmp 1) 31 rfl (hz s (.slice R m cr) (n : Int)) rfl 10 (hz_len _ _ _ HS.out) (by decide) ?_; intro gh w1 hgh hFh hBh)
    | (with_reducible refine wpList_alloc (o := ⟨some 4, _, _, _, _, _⟩) rfl 38 rfl (cb (List.replicate 32 0)) (by kernel_rfl) 32 (by simp) (by decide) ?_; intro gr w2 hgr hFr hBr)
    | (with_reducible refine wpList_load_g (o := ⟨some 11, _, _, _, _, _⟩) (.tmp 3) 31 rfl gh 0 _ rfl (hz s (.slice R m cr) (n : Int)) 10 (hz_len _ _ _ HS.out) (by kernel_rfl) (hFh.below hBr).sees (by kernel_rfl) ?_)
    | (go_at_call 90; refine (isRight_true s R m cr (n : Int) _ HS.out HR.out).mono ?_; rintro e w3 ⟨rfl, hB3⟩))
  have d1 := hFh.lt_size
  have d2 := hFr.lt_size
  have z1 := hBh.size
  have z2 := hBr.size
  have z3 := hB3.size
  have hB03 := Below.then_ (Below.then_ hBh hBr) hB3
  have hH3 := (hFh.below hBr).below hB3
  have hR3 := (hFr.below hB3).lower z1
  have ht3 := ht.step hB03
  have hRs3 := hR.step hB03
  clear hFh hFr hBh hBr hB3 ht hR
  refine region_all_tail 7 (sumFacts w3.heap.size tb to gh s keys (.slice R m cr) (n : Int) rest n) (by kernel_rfl) (by kernel_rfl) (by kernel_rfl) (sumFacts_stab _ _ _ _ _ _ _ _ _ _) ?_ ?_
  · intro w0 hb0
    simp only [List.take_succ_cons, List.take_zero]
    refine ⟨?_, ?_, ?_, ?_, ?_, ?_, ?_, trivial⟩
    all_goals intro listed a1 w' hk hd
    · have f2 := hk.ev_old 0 (by kernel_rfl)
      exact stepOk_value rfl (v := .pointer (some ⟨tb, to, none⟩)) (by simp [execOp]; exact f2) rfl
    · have f2 := hk.ev_old 3 (by kernel_rfl)
      have hF := (hH3.below hb0).below hk.below
      exact stepOk_value rfl (run_load_agg (.tmp 3) 31 rfl f2 (hz s (.slice R m cr) (n : Int)) 10 (hz_len _ _ _ HS.out) (by kernel_rfl) hF.sees) rfl
    · have f2 : a1.tmps[3]? = some (.pointer (some ⟨gh, 0, none⟩)) := hk.old_at 3 (by kernel_rfl)
      exact stepOk_value rfl (v := .pointer (some ⟨gh, 9, none⟩)) (by go_simp) rfl
    · obtain ⟨v, e0, _, rfl⟩ := hk.ev_new hd 2 18 (by kernel_rfl) rfl
      have c9 := ((hH3.below hb0).below hk.below).cell_ (hz_n s (.slice R m cr) (n : Int) HS.out)
      exact stepOk_value rfl (v := .int .i64 (n : Int)) (by go_simp) rfl
    · obtain ⟨v, e0, _, rfl⟩ := hk.ev_new hd 3 19 (by kernel_rfl) rfl
      refine stepOk_enter rfl (f := 24) (args := #[.int .i64 (n : Int)]) (by go_simp) ?_
      refine (Pad_any n (noughts n) _ (by omega) rfl).mono ?_
      rintro e w5 ⟨A5, c5, rfl, hF5, hB5⟩
      exact ⟨_, rfl, ⟨A5, c5, rfl, hF5.cap.1, hF5.sees⟩, hB5⟩
    · obtain ⟨v, e0, _, rfl⟩ := hk.ev_new hd 0 16 (by kernel_rfl) rfl
      obtain ⟨v, e1, _, rfl⟩ := hk.ev_new hd 1 17 (by kernel_rfl) rfl
      obtain ⟨v, e2, _, A5, c5, rfl, hcap, hS5⟩ := hk.ev_new hd 4 20 (by kernel_rfl) rfl
      refine stepOk_enter rfl (f := 17) (args := #[.pointer (some ⟨tb, to, none⟩), .agg (hz s (.slice R m cr) (n : Int)).toArray, .slice A5 (9 + noughts n) c5]) (by go_simp) ?_
      have hnt : noughts n < 64 := Nat.mod_lt _ (by omega)
      refine (Write_any tb to first keys s R A5 m cr (9 + noughts n) c5 (n : Int) rest (padL n) _ ((ht3.step hb0).step hk.below) HS.out HR.out ((hRs3.step hb0).step hk.below) HM.out hS5 (len_padL n) hcap (by omega)).mono ?_
      rintro e w5 ⟨A6, c6, rfl, hF6, hB6⟩
      exact ⟨_, rfl, ⟨_, _, rfl, rfl⟩, hB6⟩
    · refine stepOk_run rfl (v := .pointer (some ⟨w'.heap.size, 0, none⟩)) (w' := w'.alloc (.cells (hz (List.replicate 8 0) (.slice none 0 0) 0).toArray 31 (0, 0))) ?_ ⟨_, rfl, (Fresh.new w' 31 (hz (List.replicate 8 0) (.slice none 0 0) 0) 10 (by simp) (by decide)).lower ?_⟩ (below_alloc _ _)
      · simp only [execOp]
        rw [Sem.run_bind, run_alloc_zero 31 (hz (List.replicate 8 0) (.slice none 0 0) 0) (by kernel_rfl)]
        rfl
      · have h2 := hb0.size
        have h3 := hk.below.size
        omega
  · intro a1 w' hbw hp
    obtain ⟨v0, p0, v1, p1, v2, p2, v3, p3, v4, p4, v5, p5, v6, p6, rfl⟩ := hp
    simp only [sumFacts] at p0 p1 p2 p3 p4 p5 p6
    subst p0 p1 p2 p3
    obtain ⟨A5, c5, rfl, _, _⟩ := p4
    obtain ⟨rv, L', rfl, hrv⟩ := p5
    obtain ⟨gt, rfl, hFt⟩ := p6
    simp only [List.drop_succ_cons, List.drop_zero, Act.put, List.setIfInBounds_toArray, List.set_cons_succ, List.set_cons_zero]
    have hlst := len_stN keys s (rest ++ padL n) HS.out ((rest ++ padL n).length / 64)
    have HLS : Hid ((stAll keys s (rest ++ padL n)).length = 8) := hlst
    clear hlst
    have hsum : sumF keys s rest n = digF (stAll keys s (rest ++ padL n)) := rfl
    have HSUM := Lib.hid hsum
    clear hsum
    generalize stAll keys s (rest ++ padL n) = st at HLS HSUM
    have hBw := Below.then_ hB03 hbw
    have hR4 := hR3.below hbw
    have hgt := hFt.block.2
    have hdt := hFt.lt_size
    have z4 := hB03.size
    replace hFt := hFt.lower z4
    have hz4 := hbw.size
    clear hR3 hH3 ht3 hRs3 hB03 hbw
    have HRV := Lib.hid hrv
    clear hrv
    go_wp2_with (first
      | (with_reducible refine wpList_store rfl rfl (.tmp 5) (.tmp 21) 31 rfl gt 0 w.heap.size 31 10 (hz (List.replicate 8 0) (.slice none 0 0) 0) (hz st rv L') rfl rfl 10 (hz_len _ _ _ HLS.out) (by kernel_rfl) hFt (by omega) (hz_one _ _ _ HRV.out) w hBw (by omega) ?_; intro w6 hF6 hB6 hoth6 hsz6)
      | (with_reducible refine wpList_alloc (o := ⟨some 6, _, _, _, _, _⟩) rfl 38 rfl (cb (List.replicate 32 0)) (by kernel_rfl) 32 (by simp) (by decide) ?_; intro gd w7 hgd hFd hBd))
    have e0 : splice (hz (List.replicate 8 0) (.slice none 0 0) 0) 0 (hz st rv L') = hz st rv L' := by
      have := HLS.out
      simp [splice, this]
    rw [e0] at hF6
    have hR6 := hR4.other (g' := gt) (by omega) hoth6
    have d6 := hF6.lt_size
    have d6r := hR6.lt_size
    have hT7 := hF6.below hBd
    have hR7 := hR6.below hBd
    have hB7 := Below.then_ hB6 hBd
    have hD7 := hFd.lower hB6.size
    clear hF6 hR6 hB6 hBd hFd hoth6 hR4 hFt hBw e0
    go_loopw [22] (fun i wr => ∃ k : Nat, k ≤ 32 ∧ i = .int .i64 k ∧ Fresh w.heap.size 38 wr (some ⟨gd, 0, none⟩) 32 32 (cb (digK st k)) ∧ Fresh w.heap.size 31 wr (some ⟨gt, 0, none⟩) 10 10 (hz st rv L') ∧ Fresh w.heap.size 38 wr (some ⟨gr, 0, none⟩) 32 32 (cb (List.replicate 32 0)) ∧ Below w.heap.size w wr) (fun i _ => 32 - (intOf i).toNat)
    case atStart => exact ⟨0, by omega, rfl, hD7, hT7, hR7, hB7⟩
    case round =>
      clear hD7 hT7 hR7 hB7
      obtain ⟨k, hk, rfl, hD, hT, hR, hBel⟩ := hrel
      by_cases hlt : k < 32
      · have hq8 : k / 4 < 8 := by omega
        obtain ⟨x, hx⟩ : ∃ x, st[k / 4]? = some x := ⟨st[k / 4]'(by rw [HLS.out]; omega), List.getElem?_eq_getElem _⟩
        have HX := Lib.hid hx
        have hcx : wr.cell? ⟨gt, k / 4, none⟩ = some (.int .u32 (x.toNat : Int)) := hT.cell_ (by
          rw [List.getElem?_append_left (by rw [List.length_map, HLS.out]; omega), List.getElem?_map, HX.out]
          rfl)
        have hxl : x.toNat < 4294967296 := x.toNat_lt
        clear hx
        obtain ⟨u, hcu⟩ := hD.cellAt (j := k) (by omega)
        have hfu := hD.frozenAt (j := k)
        go_wp2_with (go_at_call 92; refine (sbyteOf_any _ (k % 4) _ _ hxl (by omega) (by omega)).mono ?_; rintro e w' ⟨rfl, rfl⟩)
        go_roundw
        case rel =>
          have hst := hD.store8 k (byteAt x.toNat (k % 4))
          rw [digK_set _ _ _ HLS.out hlt HX.out] at hst
          have hoth : ∀ j, j ≠ gd → (wr.setCell ⟨gd, k, none⟩ (.int .u8 ((byteAt x.toNat (k % 4)).toNat : Int))).heap[j]? = wr.heap[j]? := fun j hj => Below.heap_setCell _ _ _ _ hj
          exact ⟨k + 1, by omega, by go_num, hst, hT.other (by omega) hoth, hR.other (by omega) hoth, hBel.setCell (by simp; omega) _⟩
        case measure => simp [intOf]; omega
      · obtain rfl : k = 32 := by omega
        have hp : digK st 32 = sumF keys s rest n := by
          have h1 := len_digF st
          rw [HSUM.out]
          rw [HLS.out] at h1
          simp [digK, List.take_of_length_le (Nat.le_of_eq h1)]
        have hlen : (sumF keys s rest n).length = 32 := by
          have h1 := len_digF st
          rw [HSUM.out]
          rw [HLS.out] at h1
          exact h1
        rw [hp] at hD
        have HL := Lib.hid hlen
        clear hp hlen HSUM
        generalize hdg : sumF keys s rest n = dg at hD HL
        have HDG := Lib.hid hdg
        clear hdg
        go_wp2_with (first
          | (with_reducible refine wpList_load rfl (.tmp 6) 38 rfl gd 0 _ rfl (cb dg) 32 (by rw [List.length_map]; exact HL.out) (by kernel_rfl) hD.sees ?_)
          | (with_reducible refine wpList_store rfl rfl (.tmp 4) (.tmp 36) 38 rfl gr 0 w.heap.size 38 32 (cb (List.replicate 32 0)) (cb dg) rfl rfl 32 (by rw [List.length_map]; exact HL.out) (by kernel_rfl) hR (by omega) (cb_one _) w hBel (by omega) ?_; intro w9 hF9 hB9 _ _))
        have e : splice (cb (List.replicate 32 0)) 0 (cb dg) = cb dg := by
          have := HL.out
          simp [splice, this]
        rw [e] at hF9
        exact bodyPost_cell rfl rfl (cb dg) 32 (by rw [List.length_map]; exact HL.out) (by kernel_rfl) hF9.sees rfl ⟨by rw [HDG.out], hB9⟩
set_option maxHeartbeats 400000 in
theorem Of_any (tb to : Nat) (first keys : List UInt32) (A : Option Addr) (n c : Nat) (b : List UInt8) (w : World) (ht : Tab w tb to first keys) (hA : Sees w w.heap.size A (cb b)) (hn : b.length = n) (hnc : n ≤ c) (hc : n ≤ 1099511627776) :
    Calls Try.prog 20 #[.pointer (some ⟨tb, to, none⟩), .slice A n c] w fun e w' => e = .returned (.agg (cb (ofF first keys b)).toArray) ∧ Below w.heap.size w w' := by
  have HN := Lib.hid hn
  clear hn
  have hlo : (ofF first keys b).length = 32 := by
    unfold ofF sumF
    rw [len_digF, show (stAll keys (stAll keys first b) (left b ++ padL b.length)).length = 8 from len_stN _ _ _ (len_stN _ _ _ ht.l1 _) _]
  have HLO := Lib.hid hlo
  clear hlo
  go_enter Try.func20, Try.ntmps20
  go_wp2_with (first
    | (with_reducible refine wpList_alloc (o := ⟨some 4, _, _, _, _, _⟩) rfl 38 rfl (cb (List.replicate 32 0)) (by kernel_rfl) 32 (by simp) (by decide) ?_; intro gr w1 hgr hFr hBr)
    | (go_at_call 16; refine (New_any tb to first keys _ (ht.step hBr)).mono ?_; rintro e w2 ⟨rfl, hB2⟩; have hB02 := Below.then_ hBr hB2)
    | (go_at_call 17; refine (Write_any tb to first keys first none A 0 0 n c 0 [] b _ (ht.step hB02) ht.l1 ⟨by omega, by omega, by omega⟩ Sees.nil rfl (hA.step hB02) HN.out hnc hc).mono ?_; rintro e w3 ⟨A3, c3, rfl, hF3, hB3⟩; rw [List.nil_append] at hF3; rw [List.nil_append]; have hB03 := Below.then_ hB02 hB3)
    | (go_at_call 19; refine (Sum_any tb to first keys (stAll keys first b) A3 (left b).length c3 n (left b) _ (ht.step hB03) (len_stN _ _ _ ht.l1 _) ⟨by omega, by omega, by rw [len_left, HN.out]; omega⟩ hF3.sees rfl).mono ?_; rintro e w4 ⟨rfl, hB4⟩; rw [show sumF keys (stAll keys first b) (left b) n = ofF first keys b from by unfold ofF; rw [HN.out]]; have hB04 := Below.then_ hB03 hB4; have hF4 := ((hFr.below hB2).below hB3).below hB4)
    | (with_reducible refine wpList_store rfl rfl (.tmp 4) (.tmp 11) 38 rfl gr 0 w.heap.size 38 32 (cb (List.replicate 32 0)) (cb (ofF first keys b)) rfl rfl 32 (by rw [List.length_map]; exact HLO.out) (by kernel_rfl) hF4 (by omega) (cb_one _) w hB04 (by omega) ?_; intro w9 hF9 hB9 _ _))
  have e : splice (cb (List.replicate 32 0)) 0 (cb (ofF first keys b)) = cb (ofF first keys b) := by
    have := HLO.out
    simp [splice, this]
  rw [e] at hF9
  exact bodyPost_cell rfl rfl (cb (ofF first keys b)) 32 (by rw [List.length_map]; exact HLO.out) (by kernel_rfl) hF9.sees rfl ⟨rfl, hB9⟩
end Go.Proofs.Ytpdfalgjmeagjaa
