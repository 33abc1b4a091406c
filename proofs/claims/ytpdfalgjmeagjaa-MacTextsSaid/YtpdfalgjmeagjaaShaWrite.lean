/-
  What sha.Write answers: a right hasher goes on as its bytes do.
-/
import Derived.Test.YtpdfalgjmeagjaaShaLeaf
import Derived.Test.YtpdfalgjmeagjaaSlice
namespace Go.Proofs.Ytpdfalgjmeagjaa
open Go.RowKit
set_option linter.unusedVariables false
theorem arr64 : Try.prog.underlying 43 = some (.array (Try.prog.arrayLen 43) (Try.prog.elem 43)) := by kernel_rfl
theorem arr64_len : Try.prog.arrayLen 43 = 64 := by kernel_rfl
theorem arr64_size (w : World) : (sizeOf (Try.prog.elem 43)).run Try.prog w = .ok 1 w := by kernel_rfl
theorem sl64_all (g : Nat) (w : World) : (Instr.sliceAt 43 (.pointer (some ⟨g, 0, none⟩)) none none none).run Try.prog w = .ok (.slice (some ⟨g, 0, none⟩) 64 64) w := by
  rw [run_sliceAt_array_all w 43 _ arr64, arr64_size, arr64_len]
  simp [Result.andThen, slicedAt, Addr.add]
theorem sl64_from (g f : Nat) (hf : f < 64) (w : World) : (Instr.sliceAt 43 (.pointer (some ⟨g, 0, none⟩)) (some (.int .i64 (f : Int))) none none).run Try.prog w = .ok (.slice (some ⟨g, f, none⟩) (64 - f) (64 - f)) w := by
  rw [run_sliceAt_array_l w 43 _ arr64 .i64 (f : Int) (by omega) (by rw [arr64_len]; omega), arr64_size, arr64_len]
  have : ¬ 64 = f := by omega
  simp [Result.andThen, slicedAt, Addr.add_lit, this]
theorem sl64_to (g f : Nat) (hf : f ≤ 64) (w : World) : (Instr.sliceAt 43 (.pointer (some ⟨g, 0, none⟩)) none (some (.int .i64 (f : Int))) none).run Try.prog w = .ok (.slice (some ⟨g, 0, none⟩) f 64) w := by
  rw [run_sliceAt_array_h w 43 _ arr64 .i64 (f : Int) (by omega) (by rw [arr64_len]; omega), arr64_size, arr64_len]
  simp [Result.andThen, slicedAt, Addr.add]
/-- A hasher that was told: its state, what is left in new memory, how many bytes. -/
def Told (w : World) (s : List UInt32) (l : List UInt8) (L : Int) (e : Ending) (w' : World) : Prop :=
  ∃ A c, e = .returned (.agg (hz s (.slice A l.length c) L).toArray) ∧ Fresh w.heap.size 5 w' A l.length c (cb l) ∧ Below w.heap.size w w'
theorem Fresh.others {w w' : World} {base : Nat} {e : TypeId} {A : Option Addr} {n c : Nat} {xs : List Value} (h : Fresh base e w A n c xs) (hk : ∀ k, base ≤ k → w'.heap[k]? = w.heap[k]?) : Fresh base e w' A n c xs := by
  refine ⟨h.1, ?_⟩
  rcases h.2 with hn | ⟨g, cap, cur, hv, hbg, hg, rest⟩
  · exact .inl hn
  · exact .inr ⟨g, cap, cur, hv, hbg, by rw [hk g hbg]; exact hg, rest⟩
theorem hz_one (s : List UInt32) (v : Value) (L : Int) (h : v.oneCell' = true) : ∀ u ∈ hz s v L, u.oneCell' = true := by
  intro u hu
  rcases List.mem_append.1 hu with h' | h'
  · exact cw_one s u h'
  · simp only [List.mem_cons, List.not_mem_nil, or_false] at h'
    rcases h' with rfl | rfl
    · exact h
    · rfl
theorem hz_set9 (s : List UInt32) (v : Value) (L M : Int) (h : s.length = 8) : (hz s v L).set 9 (.int .i64 M) = hz s v M := by
  rw [List.set_append_right _ _ (by simp [h])]
  simp [h]
theorem hz_set8 (s : List UInt32) (v u : Value) (L : Int) (h : s.length = 8) : (hz s v L).set 8 u = hz s u L := by
  rw [List.set_append_right _ _ (by simp [h])]
  simp [h]
theorem hz_splice (s t : List UInt32) (v : Value) (L : Int) (h : s.length = 8) (h' : t.length = 8) : splice (hz s v L) 0 (cw t) = hz t v L := by
  simp [splice, h', h]
theorem hz_take (s : List UInt32) (v : Value) (L : Int) (h : s.length = 8) : ((hz s v L).drop 0).take 8 = cw s := by
  rw [List.drop_zero, List.take_append_of_le_length (by simp [h]), List.take_of_length_le (by simp [h])]
/-- How the bytes lie while blocks are written: f bytes of the next block, what is left of the piece. -/
def WrRel (keys s : List UInt32) (all : List UInt8) (rv : Value) (LN : Int) (tb to : Nat) (first : List UInt32) (W : World) (gh gr gk : Nat) (B : Nat) (vb vf : Value) (wr : World) : Prop :=
  ∃ (j f n c : Nat) (A : Option Addr) (rb C : List UInt8), vb = .slice A n c ∧ vf = .int .i64 (f : Int) ∧ f < 64 ∧ n ≤ c ∧ n ≤ 1099511627776 ∧ 64 * j ≤ all.length ∧
    Hid (rb.length = n) ∧ Hid (C.take f ++ rb = all.drop (64 * j)) ∧ Sees wr B A (cb rb) ∧
    Fresh W.heap.size 43 wr (some ⟨gk, 0, none⟩) 64 64 (cb C) ∧ Fresh W.heap.size 31 wr (some ⟨gh, 0, none⟩) 10 10 (hz (stN keys s all j) rv LN) ∧ Fresh W.heap.size 31 wr (some ⟨gr, 0, none⟩) 10 10 (hz (List.replicate 8 0) (.slice none 0 0) 0) ∧
    Sees wr B (some ⟨tb, to, none⟩) (cw (first ++ keys)) ∧ Below W.heap.size W wr
def lenOf : Value → Nat
  | .slice _ n _ => n
  | _ => 0
theorem splice_full (C x : List UInt8) (f : Nat) (h : C.length ≤ f + x.length) : splice C f x = C.take f ++ x := by
  unfold splice
  rw [List.drop_of_length_le (by omega), List.append_nil]
theorem splice_head (C x : List UInt8) (f : Nat) (hf : f ≤ C.length) : (splice C f x).take (f + x.length) = C.take f ++ x := by
  unfold splice
  rw [← List.append_assoc, List.take_append_of_le_length (by simp; omega), List.take_of_length_le (by simp; omega)]
theorem block_next (C rb all : List UInt8) (f p j : Nat) (hC : C.length = 64) (hp : p + f = 64) (h : C.take f ++ rb = all.drop (64 * j)) : C.take f ++ rb.take p = (all.drop (64 * j)).take 64 := by
  rw [← h, List.take_append]
  have e : (C.take f).length = f := by simp; omega
  rw [List.take_of_length_le (l := C.take f) (by omega), e, show 64 - f = p from by omega]
theorem rest_next (C rb all : List UInt8) (f p j : Nat) (hC : C.length = 64) (hp : p + f = 64) (h : C.take f ++ rb = all.drop (64 * j)) : rb.drop p = all.drop (64 * (j + 1)) := by
  have e : (C.take f).length = f := by simp; omega
  have h2 : (C.take f ++ rb).drop 64 = (all.drop (64 * j)).drop 64 := by rw [h]
  rw [List.drop_append, List.drop_of_length_le (by omega), e, List.drop_drop, show 64 - f = p from by omega, List.nil_append] at h2
  rw [h2]
  congr 1
theorem last_block (C rb all : List UInt8) (f n j : Nat) (hC : C.length = 64) (hf : f < 64) (hr : rb.length = n) (hn : f + n < 64) (hj : 64 * j ≤ all.length) (h : C.take f ++ rb = all.drop (64 * j)) : all.length / 64 = j ∧ left all = C.take f ++ rb ∧ f + n = (left all).length := by
  have hl : (C.take f ++ rb).length = (all.drop (64 * j)).length := by rw [h]
  have e : (C.take f).length = f := by simp; omega
  rw [List.length_append, e, List.length_drop, hr] at hl
  have hq : all.length / 64 = j := by omega
  have hle : left all = C.take f ++ rb := by unfold left; rw [hq, h]
  refine ⟨hq, hle, ?_⟩
  rw [hle, List.length_append, e, hr]
set_option maxHeartbeats 2000000 in
set_option maxRecDepth 100000 in
theorem Write_any (tb to : Nat) (first keys s : List UInt32) (R A : Option Addr) (m cr n c : Nat) (L : Int) (rest b : List UInt8) (w : World) (ht : Tab w tb to first keys) (hs : s.length = 8) (hr : Right m L)
    (hR : Sees w w.heap.size R (cb rest)) (hm : rest.length = m) (hA : Sees w w.heap.size A (cb b)) (hn : b.length = n) (hnc : n ≤ c) (hc : n ≤ 1099511627776) :
    Calls Try.prog 17 #[.pointer (some ⟨tb, to, none⟩), .agg (hz s (.slice R m cr) L).toArray, .slice A n c] w (Told w (stAll keys s (rest ++ b)) (left (rest ++ b)) (L + n)) := by
  have HS := Lib.hid hs
  have HM := Lib.hid hm
  have HN := Lib.hid hn
  clear hs hm hn
  have hm64 : m < 64 := by
    obtain ⟨h0, h1, h2⟩ := hr
    omega
  have hL0 : 0 ≤ L := hr.1
  have hL1 : L ≤ 72057594037927936 := hr.2.1
  have HR := Lib.hid hr
  clear hr
  go_enter Try.func17, Try.ntmps17
  go_wp2_with (first
    | (with_reducible refine wpList_box (o := ⟨some 4, _, _, _, _, _⟩) rfl (.tmp 1) 31 rfl (hz s (.slice R m cr) L) rfl 10 (hz_len _ _ _ HS.out) (by decide) ?_; intro gh w1 hgh hFh hBh)
    | (with_reducible refine wpList_alloc (o := ⟨some 6, _, _, _, _, _⟩) rfl 31 rfl (hz (List.replicate 8 0) (.slice none 0 0) 0) (by kernel_rfl) 10 (by simp) (by decide) ?_; intro gr w2 hgr hFr hBr)
    | (with_reducible refine wpList_load_g (o := ⟨some 12, _, _, _, _, _⟩) (.tmp 4) 31 rfl gh 0 _ rfl (hz s (.slice R m cr) L) 10 (hz_len _ _ _ HS.out) (by kernel_rfl) (hFh.below hBr).sees (by kernel_rfl) ?_)
    | (go_at_call 90; refine (isRight_true s R m cr L _ HS.out HR.out).mono ?_; rintro e w3 ⟨rfl, hB3⟩; have d1 := hFh.lt_size; have d2 := hFr.lt_size; have z1 := hBh.size; have z2 := hBr.size; have z3 := hB3.size
       have hB03 := Below.then_ (Below.then_ hBh hBr) hB3
       have hH3 := (hFh.below hBr).below hB3; have hR3 := (hFr.below hB3).lower z1; have c9 := hH3.cell_ (hz_n s (.slice R m cr) L HS.out))
    | (with_reducible refine wpList_store1 rfl rfl (.tmp 26) (.tmp 25) 3 rfl gh 9 w.heap.size 31 10 (hz s (.slice R m cr) L) (.int .i64 (L + (n : Int))) rfl rfl rfl rfl (by kernel_rfl) hH3 (by decide) w hB03 hgh ?_; intro w4 hH4 hB04 hoth4 hz4; rw [hz_set9 _ _ _ _ HS.out] at hH4; have hR4 := hR3.other (g' := gh) (by omega) hoth4)
    | (with_reducible refine wpList_alloc (o := ⟨some 7, _, _, _, _, _⟩) rfl 43 rfl (cb (List.replicate 64 0)) (by kernel_rfl) 64 (by simp) (by decide) ?_; intro gk w5 hgk hFk hBk))
  have hB05 := Below.then_ hB04 hBk
  have hH5 := hH4.below hBk
  have hR5 := hR4.below hBk
  have hK5 := hFk.lower hB04.size
  have hgk' : w.heap.size ≤ gk := Nat.le_trans hB04.size hgk
  have hkh : gh < gk := by omega
  have hkr : gr < gk := by omega
  have hA5 := hA.below hB05
  have hRs5 := hR.below hB05
  have hl1 := Lib.hid ht.l1
  have hl2 := Lib.hid ht.l2
  have ht5 := ht.sees.below hB05
  have z5 := hB05.size
  have HHgh := Lib.hid hgh
  have hhr : gh < gr := by omega
  clear hFh hBh hFr hBr hB3 hB03 hH3 hR3 c9 hH4 hB04 hoth4 hR4 hFk hBk hA hR ht z1 z2 z3 d1 d2 hz4 hgk
  have c8 := hH5.cell_ (hz_rest s (.slice R m cr) (L + n) HS.out)
  simp only [Act.put, List.setIfInBounds_toArray, List.set_cons_succ, List.set_cons_zero]
  have hsl := sl64_all gk
  refine region_qtail 3 (by kernel_rfl) (by kernel_rfl) ?_
  simp only [List.take_succ_cons, List.take_zero, List.drop_succ_cons, List.drop_zero]
  repeat (go_big_quiet_step (fail))
  refine wpQuiet_nil ?_
  rintro _ ⟨nq, rfl⟩
  clear c8 hsl
  have hdw : Below w5.heap.size w5 (w5.drewN nq) := below_drewN' (Below.refl _ _) nq
  have hmin : Nat.min m 64 = m := Nat.min_eq_left (by omega)
  have HMIN := Lib.hid hmin
  clear hmin
  go_wp2_with (with_reducible refine wpList_copyA rfl (.tmp 27) (.tmp 29) rfl _ _ _ _ _ _ rfl rfl 43 gk 64 0 m w.heap.size (List.replicate 64 0) rest (hK5.below hdw) HMIN.out HM.out (fun _ => rfl) ((hRs5.more z5).step hdw) (by omega) ?_; intro w6 hF6 hB6)
  have hB56 : Below w5.heap.size w5 (w5.drewN nq) := hdw
  have hB06 : Below w.heap.size w w6 := (Below.then_ hB05 hdw).trans (hB6.mono hgk')
  have hH6 : Fresh w.heap.size 31 w6 (some ⟨gh, 0, none⟩) 10 10 (hz s (.slice R m cr) (L + n)) := by
    have h := hH5.below hdw
    exact Fresh.of_block ((hB6.block gh hkh).trans h.block.1) h.block.2 h.len h.cap.2
  have hR6 : Fresh w.heap.size 31 w6 (some ⟨gr, 0, none⟩) 10 10 (hz (List.replicate 8 0) (.slice none 0 0) 0) := by
    have h := hR5.below hdw
    exact Fresh.of_block ((hB6.block gr hkr).trans h.block.1) h.block.2 h.len h.cap.2
  have hA6 : Sees w6 w.heap.size A (cb b) := (hA5.below (hdw.mono z5)).below (hB6.mono hgk')
  have ht6 := (ht5.below (hdw.mono z5)).below (hB6.mono hgk')
  clear hH5 hR5 hK5 hA5 hRs5 ht5 hB6 hdw hB56 hB05
  go_loopw [2, 8] (WrRel keys s (rest ++ b) (.slice R m cr) (L + n) tb to first w gh gr gk w.heap.size) (fun vb _ _ => lenOf vb)
  case atStart => exact ⟨0, m, n, c, A, b, _, rfl, rfl, hm64, hnc, hc, by omega, HN, Lib.hid (by
    rw [List.take_of_length_le (Nat.le_of_eq HM.out), Nat.mul_zero, List.drop_zero]
    have e := splice_head (List.replicate 64 0) rest 0 (by omega)
    rw [HM.out] at e
    rw [show m = 0 + m from by omega, e]
    simp), hA6, hF6, hH6, hR6, ht6, hB06⟩
  case round =>
    clear hF6 hH6 hR6 hA6 ht6 hB06
    obtain ⟨j, f, n', c', A', rb, C, rfl, rfl, hf, hnc', hc', hj, HRB, HC, hS, hK, hH, hRr, hT, hBel⟩ := hrel
    by_cases hge : 64 ≤ f + n'
    · obtain ⟨p, hp⟩ : ∃ p, p + f = 64 := ⟨64 - f, by omega⟩
      obtain ⟨A2, hfr, hA2⟩ := run_from A' n' c' p (by omega) hnc'
      have hsl := sl64_from gk f hf
      have hmin : Nat.min n' (64 - f) = p := by rw [show Nat.min n' (64 - f) = min n' (64 - f) from rfl]; omega
      have HMIN2 := Lib.hid hmin
      have HP := Lib.hid hp
      have hp1 : p ≤ n' := by omega
      have hp2 : f + p ≤ 64 := by omega
      clear hmin hp
      have hlk := len_stN keys s (rest ++ b) HS.out j
      have HLK := Lib.hid hlk
      have hCl : C.length = 64 := by simpa using hK.len
      have hne : splice C f (rb.take p) = ((rest ++ b).drop (64 * j)).take 64 := by
        have h1 := HRB.out
        have h2 := HP.out
        rw [splice_full _ _ _ (by simp; omega), block_next C rb (rest ++ b) f p j hCl h2 HC.out]
      have HNE := Lib.hid hne
      have hrn := rest_next C rb (rest ++ b) f p j hCl HP.out HC.out
      have HRN := Lib.hid hrn
      have hlb : (((rest ++ b).drop (64 * j)).take 64).length = 64 := by
        have h1 := congrArg List.length hne
        have h2 := HP.out
        have h3 := HRB.out
        rw [length_splice _ _ _ (by simp; omega)] at h1
        omega
      have HLB := Lib.hid hlb
      clear hlk hCl hne hrn hlb
      have hnext : stN keys s (rest ++ b) (j + 1) = blockF keys (stN keys s (rest ++ b) j) (((rest ++ b).drop (64 * j)).take 64) := rfl
      have HNX := Lib.hid hnext
      clear hnext
      have hle64 : 64 * (j + 1) ≤ (rest ++ b).length := by
        have h1 := HLB.out
        rw [List.length_take, List.length_drop] at h1
        omega
      have HLE := Lib.hid hle64
      clear hle64
      generalize ((rest ++ b).drop (64 * j)).take 64 = blk at HNE HLB HNX
      generalize hst : stN keys s (rest ++ b) j = st at hH HLK HNX
      clear hst
      go_wp2_with (first
        | (with_reducible refine wpList_copyA rfl (.tmp 38) (.tmp 39) rfl _ _ _ _ _ _ rfl rfl 43 gk 64 f p w.heap.size C rb hK HMIN2.out HRB.out (fun _ => rfl) (hS.more (Nat.le_trans hBel.size (Nat.le_refl _))) (by omega) ?_; intro w7 hK7 hB7; rw [HNE.out] at hK7
           have hH7 : Fresh w.heap.size 31 w7 (some ⟨gh, 0, none⟩) 10 10 (hz st (.slice R m cr) (L + n)) := Fresh.of_block ((hB7.block gh hkh).trans hH.block.1) hH.block.2 hH.len hH.cap.2
           have hR7 : Fresh w.heap.size 31 w7 (some ⟨gr, 0, none⟩) 10 10 (hz (List.replicate 8 0) (.slice none 0 0) 0) := Fresh.of_block ((hB7.block gr hkr).trans hRr.block.1) hRr.block.2 hRr.len hRr.cap.2
           have hBel7 := hBel.trans (hB7.mono hgk')
           have hS7 := hS.below (hB7.mono hgk')
           have hT7 := hT.below (hB7.mono hgk')
           have hL7 : Sees w7 w7.heap.size (some ⟨gh, 0, none⟩) (cw st) := by
             have := Sees.of_fresh hH7 0 8
             rwa [hz_take _ _ _ HLK.out] at this)
        | (with_reducible refine wpList_load (o := ⟨some 44, _, _, _, _, _⟩) rfl (.tmp 43) 23 rfl gh 0 _ rfl (cw st) 8 (by simp [HLK.out]) (by kernel_rfl) hL7 ?_)
        | (with_reducible refine wpList_load (o := ⟨some 45, _, _, _, _, _⟩) rfl (.tmp 7) 43 rfl gk 0 _ rfl (cb blk) 64 (by rw [List.length_map]; exact HLB.out) (by kernel_rfl) hK7.sees ?_)
        | (go_at_call 22; refine (Block_any tb to first keys st blk _ ⟨hl1.out, hl2.out, hT7.more hBel7.size⟩ HLK.out HLB.out).mono ?_; rintro e w8 ⟨rfl, hB8⟩; have hBel8 := Below.then_ hBel7 hB8; have hH8 := hH7.below hB8; have hR8 := hR7.below hB8; have hK8 := hK7.below hB8)
        | (with_reducible refine wpList_store rfl rfl (.tmp 47) (.tmp 46) 23 rfl gh 0 w.heap.size 31 10 (hz st (.slice R m cr) (L + n)) (cw (blockF keys st blk)) rfl rfl 8 (by rw [List.length_map]; exact len_blockF _ _ _ HLK.out) (by kernel_rfl) hH8 (by omega) (cw_one _) w hBel8 HHgh.out ?_; intro w9 hH9 hB9 hoth9 hz9))
      go_roundw
      case rel =>
        rw [hz_splice _ _ _ _ HLK.out (len_blockF _ _ _ HLK.out)] at hH9
        rw [← HNX.out] at hH9
        refine ⟨j + 1, 0, n' - p, c' - p, A2, rb.drop p, blk, rfl, rfl, by omega, by omega, by omega, ?_, Lib.hid (by rw [List.length_drop, HRB.out]), Lib.hid (by rw [List.take_zero, List.nil_append]; exact HRN.out), ?_, ?_, hH9, ?_, ?_, hB9⟩
        · exact HLE.out
        · have h := hA2 w7 w.heap.size (cb rb) (by rw [List.length_map]; exact HRB.out) hS7
          rw [show (cb rb).drop p = cb (rb.drop p) from by simp [cb]] at h
          have h8 := h.below (hB8.mono hBel7.size)
          exact h8.keep fun q hq => World.cell?_of_block (w := w8) (hoth9 q.block (by have := HHgh.out; omega))
        · exact hK8.other (by omega) hoth9
        · exact hR8.other (by omega) hoth9
        · have h8 := hT7.below (hB8.mono hBel7.size)
          exact h8.keep fun q hq => World.cell?_of_block (w := w8) (hoth9 q.block (by have := HHgh.out; omega))
      case measure =>
        simp [lenOf]
        have := HP.out
        omega
    · obtain ⟨q, hq⟩ : ∃ q, f + n' = q := ⟨_, rfl⟩
      have hq64 : q < 64 := by omega
      have hfq : f + n' < 64 := by omega
      have hCl : C.length = 64 := by simpa using hK.len
      obtain ⟨e1, e2, e3⟩ := last_block C rb (rest ++ b) f n' j hCl hf HRB.out (by omega) hj HC.out
      rw [← HRB.out] at hq
      have hsp := splice_head C rb f (by omega)
      rw [hq, ← e2] at hsp
      rw [HRB.out] at hq
      have hlq : (left (rest ++ b)).length = q := by omega
      have hstA : stN keys s (rest ++ b) j = stAll keys s (rest ++ b) := by unfold stAll; rw [e1]
      rw [hstA] at hH
      have HSP := Lib.hid hsp
      have HLQ := Lib.hid hlq
      have HQ := Lib.hid hq
      have hlst := len_stN keys s (rest ++ b) HS.out ((rest ++ b).length / 64)
      have HLS : Hid ((stAll keys s (rest ++ b)).length = 8) := hlst
      clear hCl e1 e2 e3 hsp hlq hq hstA hlst hge
      generalize hla : left (rest ++ b) = la at HSP HLQ
      generalize hsa : stAll keys s (rest ++ b) = sa at hH HLS
      have HLA := Lib.hid hla
      have HSA := Lib.hid hsa
      clear hla hsa
      have hsl := sl64_from gk f hf
      have hst := sl64_to gk q (by omega)
      have hmin : Nat.min n' (64 - f) = n' := by rw [show Nat.min n' (64 - f) = min n' (64 - f) from rfl]; omega
      have HMIN3 := Lib.hid hmin
      have hfq2 : (f : Int) + (n' : Int) = (q : Int) := by have := HQ.out; omega
      have htk : rb.take n' = rb := List.take_of_length_le (Nat.le_of_eq HRB.out)
      have HTK := Lib.hid htk
      clear hmin htk
      go_wp2_with (first
        | (with_reducible refine wpList_copyA rfl (.tmp 50) (.tmp 51) rfl _ _ _ _ _ _ rfl rfl 43 gk 64 f n' w.heap.size C rb hK HMIN3.out HRB.out (fun _ => rfl) (hS.more hBel.size) (by omega) ?_; intro w7 hK7 hB7; rw [HTK.out] at hK7
           have hH7 : Fresh w.heap.size 31 w7 (some ⟨gh, 0, none⟩) 10 10 (hz sa (.slice R m cr) (L + n)) := Fresh.of_block ((hB7.block gh hkh).trans hH.block.1) hH.block.2 hH.len hH.cap.2
           have hR7 : Fresh w.heap.size 31 w7 (some ⟨gr, 0, none⟩) 10 10 (hz (List.replicate 8 0) (.slice none 0 0) 0) := Fresh.of_block ((hB7.block gr hkr).trans hRr.block.1) hRr.block.2 hRr.len hRr.cap.2
           have hBel7 := hBel.trans (hB7.mono hgk')
           have hP7 : Sees w7 w7.heap.size (some ⟨gk, 0, none⟩) (cb la) := by
             have := hK7.sees.take_ q
             rwa [show (cb (splice C f rb)).take q = cb ((splice C f rb).take q) from by simp [cb], HSP.out] at this)
        | (go_at_call 91; refine (owned_any _ 64 q la _ hP7 HLQ.out (by omega)).mono ?_; rintro e w8 ⟨A8, c8, rfl, hF8, hB8⟩; have hBel8 := Below.then_ hBel7 hB8; have hH8 := hH7.below hB8; have hR8 := hR7.below hB8)
        | (with_reducible refine wpList_store1 rfl rfl (.tmp 57) (.tmp 56) 27 rfl gh 8 w.heap.size 31 10 (hz sa (.slice R m cr) (L + n)) (.slice A8 q c8) rfl rfl rfl rfl (by kernel_rfl) hH8 (by decide) w hBel8 HHgh.out ?_; intro w9 hH9 hB9 hoth9 hz9; rw [hz_set8 _ _ _ _ HLS.out] at hH9; have hR9 := hR8.other (g' := gh) (by omega) hoth9)
        | (with_reducible refine wpList_load (o := ⟨some 58, _, _, _, _, _⟩) rfl (.tmp 4) 31 rfl gh 0 _ rfl (hz sa (.slice A8 q c8) (L + n)) 10 (hz_len _ _ _ HLS.out) (by kernel_rfl) hH9.sees ?_)
        | (with_reducible refine wpList_store rfl rfl (.tmp 6) (.tmp 58) 31 rfl gr 0 w.heap.size 31 10 (hz (List.replicate 8 0) (.slice none 0 0) 0) (hz sa (.slice A8 q c8) (L + n)) rfl rfl 10 (hz_len _ _ _ HLS.out) (by kernel_rfl) hR9 (by omega) (hz_one _ _ _ rfl) w hB9 (by omega) ?_; intro w10 hR10 hB10 hoth10 hz10))
      have e : splice (hz (List.replicate 8 0) (.slice none 0 0) 0) 0 (hz sa (.slice A8 q c8) (L + n)) = hz sa (.slice A8 q c8) (L + n) := by
        have := HLS.out
        simp [splice, this]
      rw [e] at hR10
      refine bodyPost_cell rfl rfl _ 10 (hz_len _ _ _ HLS.out) (by kernel_rfl) hR10.sees rfl ⟨A8, c8, ?_, ?_, hB10⟩
      · rw [HLA.out, HSA.out, HLQ.out]
      · rw [HLA.out, HLQ.out]
        have d7h := hH7.lt_size
        have d7r := hR7.lt_size
        exact (hF8.others fun k hk => (hoth10 k (by omega)).trans (hoth9 k (by omega))).lower hBel7.size
end Go.Proofs.Ytpdfalgjmeagjaa
