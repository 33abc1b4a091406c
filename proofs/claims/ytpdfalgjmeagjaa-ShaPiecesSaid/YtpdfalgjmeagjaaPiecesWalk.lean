/-
  The walk of ShaPieces: by whichever pieces bytes are written.
-/
import Derived.Test.YtpdfalgjmeagjaaPieceStep
import Derived.IntWalk
namespace Go.Proofs.Ytpdfalgjmeagjaa
open Go.RowKit
set_option linter.unusedVariables false
theorem left_take (b : List UInt8) (n x lo : Nat) (hb : b.length = n) (hx : x ≤ n) (hlo : lo + x % 64 = x) : left (b.take x) = (b.drop lo).take (x - lo) := by
  unfold left
  rw [List.length_take, hb, Nat.min_eq_left hx, show 64 * (x / 64) = lo from by omega, List.drop_take]
def restFacts (N n c l : Nat) (A : Option Addr) (first keys : List UInt32) (b : List UInt8) (hv : Value) (j : Nat) (v : Value) (w : World) : Prop :=
  match j with
  | 0 => v = hv
  | 1 => v = .slice A n c
  | 2 => v = .int .i64 (l : Int)
  | 3 => ∃ A', v = .slice A' (n - l) (c - l) ∧ Sees w w.heap.size A' (cb ((b.drop l).take (n - l)))
  | 4 => ∃ R' c', v = .agg (hz (stAll keys first (b.take n)) (.slice R' (n % 64) c') (n : Int)).toArray ∧ Fresh N 5 w R' (n % 64) c' (cb (left (b.take n)))
  | _ => True
theorem restFacts_stab (N n c l : Nat) (A : Option Addr) (first keys : List UInt32) (b : List UInt8) (hv : Value) : ∀ j v w w', Below w.heap.size w w' → restFacts N n c l A first keys b hv j v w → restFacts N n c l A first keys b hv j v w' := by
  intro j v w w' hb hp
  unfold restFacts at *
  split at hp <;> first | exact hp | (obtain ⟨A', h1, h2⟩ := hp; exact ⟨A', h1, h2.step hb⟩) | (obtain ⟨R', c', h1, h2⟩ := hp; exact ⟨R', c', h1, h2.below hb⟩) | trivial
def finFacts (n c : Nat) (A R : Option Addr) (cr : Nat) (first keys : List UInt32) (b : List UInt8) (j : Nat) (v : Value) (w : World) : Prop :=
  match j with
  | 0 => v = .agg (hz (stAll keys first b) (.slice R (n % 64) cr) (n : Int)).toArray
  | 1 => v = .agg (cb (ofF first keys b)).toArray
  | 2 => v = .slice A n c
  | 3 => v = .agg (cb (ofF first keys b)).toArray
  | 6 => v = .agg (hz (stAll keys first b) (.slice R (n % 64) cr) (n : Int)).toArray
  | 7 => v = .agg (hz first (.slice none 0 0) 0).toArray
  | 8 => v = .slice A n c
  | 9 => ∃ R' c', v = .agg (hz (stAll keys first b) (.slice R' (n % 64) c') (n : Int)).toArray ∧ Sees w w.heap.size R' (cb (left b))
  | _ => v = .bool true
theorem finFacts_stab (n c : Nat) (A R : Option Addr) (cr : Nat) (first keys : List UInt32) (b : List UInt8) : ∀ j v w w', Below w.heap.size w w' → finFacts n c A R cr first keys b j v w → finFacts n c A R cr first keys b j v w' := by
  intro j v w w' hb hp
  unfold finFacts at *
  split at hp <;> first | exact hp | (obtain ⟨R', c', h1, h2⟩ := hp; exact ⟨R', c', h1, h2.step hb⟩)
theorem same_quiet (A B : Option Addr) (c d n : Nat) (l : List UInt8) (w : World) (hs : Sees w w.heap.size A (cb l)) (ht : Sees w w.heap.size B (cb l)) (hl : l.length = n) :
    Calls Try.prog 18 #[.slice A n c, .slice B n d] w fun e w' => e = .returned (.bool true) ∧ w' = w := by
  refine (SameBytes_any A B c d n n l l w hs ht hl hl).mono ?_
  rintro e w' ⟨rfl, rfl⟩
  exact ⟨by rw [beq_self_eq_true], rfl⟩
set_option maxHeartbeats 4000000 in
set_option maxRecDepth 100000 in
theorem pieces_walk (first keys : List UInt32) (A Q : Option Addr) (n c m k : Nat) (b : List UInt8) (cu : List Int) (w : World) (h1 : first.length = 8) (h2 : keys.length = 64) (hA : Sees w w.heap.size A (cb b)) (hn : b.length = n) (hnc : n ≤ c) (hn7 : n ≤ 700)
    (hQ : Sees w w.heap.size Q (cu.map (Value.int .u16))) (hm : cu.length = m) (hcu : ∀ z ∈ cu, 0 ≤ z ∧ z < 65536) (hmm : m ≤ 9223372036854775807) :
    Calls Try.prog 3 #[.agg (cw (first ++ keys)).toArray, .slice A n c, .slice Q m k] w fun e w' => e = .returned (.bool true) ∧ Below w.heap.size w w' := by
  have H1 := Lib.hid h1
  have H2 := Lib.hid h2
  have HN := Lib.hid hn
  have HM := Lib.hid hm
  have HCU := Lib.hid hcu
  clear h1 h2 hn hm hcu
  have g1 : decide (700 < (n : Int)) = false := by simp; omega
  generalize hTL : first ++ keys = TL
  have HTL := Lib.hid hTL
  have htl : TL.length = 72 := by rw [← hTL, List.length_append, H1.out, H2.out]
  have HTN := Lib.hid htl
  clear hTL htl
  go_enter Try.func3, Try.ntmps3
  go_wp2_with (first
    | (with_reducible refine wpList_box (o := ⟨some 3, _, _, _, _, _⟩) rfl (.tmp 0) 26 rfl (cw TL) rfl 72 (by rw [List.length_map]; exact HTN.out) (by decide) ?_; intro gt w1 hgt hFt hBt; have hT1 : Tab w1 gt 0 first keys := ⟨H1.out, H2.out, by rw [HTL.out]; exact hFt.sees⟩)
    | (go_at_call 16; refine (New_any gt 0 first keys _ hT1).mono ?_; rintro e w2 ⟨rfl, hB2⟩)
    | (with_reducible refine wpList_alloc (o := ⟨some 7, _, _, _, _, _⟩) rfl 31 rfl (hz (List.replicate 8 0) (.slice none 0 0) 0) (by kernel_rfl) 10 (by simp) (by decide) ?_; intro gh w3 hgh hFh hBh; have z1 := hBt.size; have z2 := hB2.size; have hB03 := Below.then_ (Below.then_ hBt hB2) hBh; have d1 := hFt.lt_size; have hFh3 := hFh.lower (Nat.le_trans z1 z2))
    | (with_reducible refine wpList_store rfl rfl (.tmp 7) (.tmp 15) 31 rfl gh 0 w.heap.size 31 10 (hz (List.replicate 8 0) (.slice none 0 0) 0) (hz first (.slice none 0 0) 0) rfl rfl 10 (hz_len _ _ _ H1.out) (by kernel_rfl) hFh3 (by omega) (hz_one _ _ _ rfl) w hB03 (by omega) ?_; intro w4 hH4 hB4 hoth4 hz4))
  have e0 : splice (hz (List.replicate 8 0) (.slice none 0 0) 0) 0 (hz first (.slice none 0 0) 0) = hz first (.slice none 0 0) 0 := by
    have := H1.out
    simp [splice, this]
  rw [e0] at hH4
  have hT4 : Fresh w.heap.size 26 w4 (some ⟨gt, 0, none⟩) 72 72 (cw TL) := ((hFt.below hB2).below hBh).other (g' := gh) (by omega) hoth4
  have hH0 : HasB first keys b w gh 0 none 0 w4 := ⟨by rw [show stAll keys first (b.take 0) = first from by simp [stAll, stN]]; exact hH4, by rw [show left (b.take 0) = [] from by simp [left]]; exact fresh_nil _ _ _, hB4⟩
  have hgw : w.heap.size ≤ gh := by omega
  have hgtw : gt < gh := by omega
  clear hFt hT1 hFh hFh3 hB03 hoth4 hH4 hB4 e0 hBt hB2 hBh hz4 d1
  go_loopw [8, 9] (fun va vi wr => ∃ (at_ i cr : Nat) (R : Option Addr), va = .int .i64 (at_ : Int) ∧ vi = .int .i64 (i : Int) ∧ at_ ≤ n ∧ i ≤ m ∧ i ≤ 20 ∧ HasB first keys b w gh at_ R cr wr ∧ Fresh w.heap.size 26 wr (some ⟨gt, 0, none⟩) 72 72 (cw TL)) (fun _ vi _ => 20 - (intOf vi).toNat)
  case atStart => exact ⟨0, 0, 0, none, rfl, rfl, by omega, by omega, by omega, hH0, hT4⟩
  case round =>
    clear hH0 hT4
    obtain ⟨at_, i, cr, R, rfl, rfl, ha, him, hi20, hH, hT⟩ := hrel
    have hTab : Tab wr gt 0 first keys := ⟨H1.out, H2.out, by rw [HTL.out]; exact hT.sees⟩
    by_cases hlt : i < m ∧ i < 20
    · obtain ⟨hlm, hl20⟩ := hlt
      have hQr := hQ.below hH.below
      obtain ⟨qb, qo, rfl, hqb, hqc⟩ := hQr.at_ (k := i) (by simp; have := HM.out; omega)
      have hci : i < cu.length := by rw [HM.out]; exact hlm
      rw [show (cu.map (Value.int IntKind.u16))[i]'(by simpa using hci) = Value.int .u16 cu[i] from by simp] at hqc
      have hcb := HCU.out cu[i] (List.getElem_mem hci)
      obtain ⟨z, hz⟩ := Int.eq_ofNat_of_zero_le hcb.1
      rw [hz] at hqc hcb
      have hz6 : (z : Int) < 65536 := hcb.2
      clear hcb hz hci
      obtain ⟨nx, hnx⟩ : ∃ nx, at_ + z % (n - at_ + 1) = nx := ⟨_, rfl⟩
      have hn1 : at_ ≤ nx := by omega
      have hn2 : nx ≤ n := by
        have := Nat.mod_lt z (show 0 < n - at_ + 1 by omega)
        omega
      have hmod : (at_ : Int) + (z : Int) % ((n : Int) - (at_ : Int) + 1) = (nx : Int) := by
        rw [← hnx, show (n : Int) - (at_ : Int) + 1 = ((n - at_ + 1 : Nat) : Int) from by omega]
        push_cast
        rfl
      clear hnx
      have hw64 : wrap64 ((at_ : Int) + (z : Int) % ((n : Int) - (at_ : Int) + 1)) = (nx : Int) := by
        rw [hmod]
        unfold wrap64
        omega
      have hz7 : z < 65536 := by omega
      clear hmod hz6
      obtain ⟨A2, hfr, hA2⟩ := run_between A n c at_ nx hn1 hn2 hnc
      have gm : decide (i < m) = true := by simpa using hlm
      have g20 : decide ((i : Int) < 20) = true := by simp; omega
      go_wp2
      rw [hw64]
      clear hw64 gm g20 hqc hQr
      have hlst := len_stN keys first (b.take at_) H1.out ((b.take at_).length / 64)
      have HLS : Hid ((stAll keys first (b.take at_)).length = 8) := hlst
      clear hlst
      have dgh := hH.row.lt_size
      refine region_all_tail 6 (pieceFacts wr.heap.size n c at_ nx A first keys b (.agg (hz (stAll keys first (b.take at_)) (.slice R (at_ % 64) cr) (at_ : Int)).toArray)) (by kernel_rfl) (by kernel_rfl) (by kernel_rfl) (pieceFacts_stab _ _ _ _ _ _ _ _ _ _) ?_ ?_
      · intro w0 hb0
        simp only [List.take_succ_cons, List.take_zero]
        refine ⟨?_, ?_, ?_, ?_, ?_, ?_, trivial⟩
        all_goals intro listed a1 w' hk hd
        · have f2 := hk.ev_old 7 (by kernel_rfl)
          have hF := (hH.row.below hb0).below hk.below
          exact stepOk_value rfl (run_load_agg (.tmp 7) 31 rfl f2 _ 10 (hz_len _ _ _ HLS.out) (by kernel_rfl) hF.sees) rfl
        · have f2 := hk.ev_old 1 (by kernel_rfl)
          exact stepOk_value rfl (v := .slice A n c) (by simp [execOp]; exact f2) rfl
        · have f2 := hk.ev_old 8 (by kernel_rfl)
          exact stepOk_value rfl (v := .int .i64 (at_ : Int)) (by simp [execOp]; exact f2) rfl
        · have f2 := hk.ev_old 10 (by kernel_rfl)
          exact stepOk_value rfl (v := .int .i64 (nx : Int)) (by simp [execOp]; exact f2) rfl
        · obtain ⟨v, q0, _, rfl⟩ := hk.ev_new hd 1 40 (by kernel_rfl) rfl
          obtain ⟨v, q1, _, rfl⟩ := hk.ev_new hd 2 41 (by kernel_rfl) rfl
          obtain ⟨v, q2, _, rfl⟩ := hk.ev_new hd 3 42 (by kernel_rfl) rfl
          have hbz := Below.then_ hH.below (Below.then_ hb0 hk.below)
          exact stepOk_value rfl (v := .slice A2 (nx - at_) (c - at_)) (by go_simp) ⟨A2, rfl, (hA2 _ _ b HN.out (hA.below hbz)).more hbz.size⟩
        · obtain ⟨v, q0, _, rfl⟩ := hk.ev_new hd 0 39 (by kernel_rfl) rfl
          obtain ⟨v, q1, _, A3, rfl, hS3⟩ := hk.ev_new hd 4 43 (by kernel_rfl) rfl
          have f3 : a1.tmps[3]? = some (.pointer (some ⟨gt, 0, none⟩)) := hk.old_at 3 (by kernel_rfl)
          refine stepOk_enter rfl (f := 17) (args := #[.pointer (some ⟨gt, 0, none⟩), .agg (hz (stAll keys first (b.take at_)) (.slice R (at_ % 64) cr) (at_ : Int)).toArray, .slice A3 (nx - at_) (c - at_)]) (by go_simp) ?_
          refine (piece_call gt 0 first keys b w _ gh at_ nx n c cr R A3 ((hTab.step hb0).step hk.below) ((hH.step hb0).step hk.below) HN.out hn1 hn2 hnc hn7 hS3).mono ?_
          rintro e w5 ⟨R5, c5, rfl, hF5, hB5⟩
          exact ⟨_, rfl, ⟨R5, c5, rfl, hF5.lower (Nat.le_trans hb0.size hk.below.size)⟩, hB5⟩
      · intro a1 w' hbw hp
        obtain ⟨v0, p0, v1, p1, v2, p2, v3, p3, v4, p4, v5, p5, rfl⟩ := hp
        simp only [pieceFacts] at p0 p1 p2 p3 p4 p5
        subst p0 p1 p2 p3
        obtain ⟨A3, rfl, _⟩ := p4
        obtain ⟨R5, c5, rfl, hF5⟩ := p5
        simp only [List.drop_succ_cons, List.drop_zero, Act.put, List.setIfInBounds_toArray, List.set_cons_succ, List.set_cons_zero]
        have hH' := hH.step hbw
        have hT' := hT.below hbw
        have hlst := len_stN keys first (b.take nx) H1.out ((b.take nx).length / 64)
        have HLN : Hid ((stAll keys first (b.take nx)).length = 8) := hlst
        clear hlst
        go_wp2_with (with_reducible refine wpList_store rfl rfl (.tmp 7) (.tmp 44) 31 rfl gh 0 w.heap.size 31 10 _ (hz (stAll keys first (b.take nx)) (.slice R5 (nx % 64) c5) (nx : Int)) rfl rfl 10 (hz_len _ _ _ HLN.out) (by kernel_rfl) hH'.row (by omega) (hz_one _ _ _ rfl) w hH'.below hgw ?_; intro w6 hH6 hB6 hoth6 hz6)
        rw [show splice (hz (stAll keys first (b.take at_)) (.slice R (at_ % 64) cr) (at_ : Int)) 0 (hz (stAll keys first (b.take nx)) (.slice R5 (nx % 64) c5) (nx : Int)) = hz (stAll keys first (b.take nx)) (.slice R5 (nx % 64) c5) (nx : Int) from by
          have h1 := HLS.out
          have h2 := HLN.out
          simp [splice, h1, h2]] at hH6
        have hHn : HasB first keys b w gh nx R5 c5 w6 := HasB.stored hgw dgh hF5 hH6 hoth6 hB6
        have hTn := hT'.other (g' := gh) (by omega) hoth6
        clear hH hT hTab hH' hT' hF5 hH6 hoth6 hB6
        have hlsn := HLN.out
        have c8 := hHn.row.cell_ (hz_rest _ _ _ hlsn)
        have c9 := hHn.row.cell_ (hz_n _ _ _ hlsn)
        clear hlsn
        obtain ⟨lo, hlo⟩ : ∃ lo, lo + nx % 64 = nx := ⟨nx - nx % 64, by omega⟩
        obtain ⟨A4, hfr4, hA4⟩ := run_between A n c lo nx (by omega) hn2 hnc
        rw [show (lo : Int) = (nx : Int) - (nx : Int) % 64 from by omega] at hfr4
        have hll : left (b.take nx) = (b.drop lo).take (nx - lo) := left_take b n nx lo HN.out hn2 hlo
        have hnl : nx - lo = nx % 64 := by omega
        rw [hnl] at hfr4
        have HLL := Lib.hid hll
        have HNL := Lib.hid hnl
        clear hll hnl
        have hsb : IntKind.i64.wrap ((nx : Int) - (nx : Int) % 64) = (nx : Int) - (nx : Int) % 64 := IntWalk.i64_in _ (by omega)
        have hs0 : 0 ≤ (nx : Int) - (nx : Int) % 64 := by omega
        have htm : (nx : Int).tmod 64 = (nx : Int) % 64 := Int.tmod_eq_emod_of_nonneg (by omega)
        have q1 : ∀ q, Sees (w6.drewN q) (w6.drewN q).heap.size R5 (cb (left (b.take nx))) := fun q => hHn.rest.sees.step (below_drewN' (Below.refl _ _) q)
        have q2 : ∀ q, Sees (w6.drewN q) (w6.drewN q).heap.size A4 (cb (left (b.take nx))) := fun q => by
          rw [HLL.out]
          exact ((hA4 _ _ b HN.out (hA.below hHn.below)).more hHn.below.size).step (below_drewN' (Below.refl _ _) q)
        go_quiet ((go_at_call 18; exact Calls.quiet_of_same (same_quiet _ _ _ _ _ _ _ (q1 _) (q2 _) (left_len b nx n HN.out hn2))))
        clear hsb hs0 htm hfr4 c8 c9
        go_wp2
        go_roundw
        case rel =>
          have hbq : Below w6.heap.size w6 (w6.drewN nq) := below_drewN' (Below.refl _ _) nq
          exact ⟨nx, i + 1, c5, R5, rfl, by go_num, hn2, by omega, by omega, hHn.step hbq, hTn.below hbq⟩
        case measure => simp [intOf]; omega
    · have hex : (decide (i < m) = false) ∨ (decide (i < m) = true ∧ decide ((i : Int) < 20) = false) := by
        by_cases hmi : i < m
        · right
          refine ⟨by simpa using hmi, ?_⟩
          simp
          omega
        · left
          simpa using hmi
      clear hlt him hi20
      obtain ⟨A2, hfr, hA2⟩ := run_from A n c at_ ha hnc
      have hlst := len_stN keys first (b.take at_) H1.out ((b.take at_).length / 64)
      have HLS : Hid ((stAll keys first (b.take at_)).length = 8) := hlst
      clear hlst
      have dgh := hH.row.lt_size
      rcases hex with g5 | ⟨g5, g6⟩
      all_goals
        go_wp2
        refine region_all_tail 5 (restFacts wr.heap.size n c at_ A first keys b (.agg (hz (stAll keys first (b.take at_)) (.slice R (at_ % 64) cr) (at_ : Int)).toArray)) (by kernel_rfl) (by kernel_rfl) (by kernel_rfl) (restFacts_stab _ _ _ _ _ _ _ _ _) ?_ ?_
        · intro w0 hb0
          simp only [List.take_succ_cons, List.take_zero]
          refine ⟨?_, ?_, ?_, ?_, ?_, trivial⟩
          all_goals intro listed a1 w' hk hd
          · have f2 := hk.ev_old 7 (by kernel_rfl)
            have hF := (hH.row.below hb0).below hk.below
            exact stepOk_value rfl (run_load_agg (.tmp 7) 31 rfl f2 _ 10 (hz_len _ _ _ HLS.out) (by kernel_rfl) hF.sees) rfl
          · have f2 := hk.ev_old 1 (by kernel_rfl)
            exact stepOk_value rfl (v := .slice A n c) (by simp [execOp]; exact f2) rfl
          · have f2 := hk.ev_old 8 (by kernel_rfl)
            exact stepOk_value rfl (v := .int .i64 (at_ : Int)) (by simp [execOp]; exact f2) rfl
          · obtain ⟨v, q0, _, rfl⟩ := hk.ev_new hd 1 72 (by kernel_rfl) rfl
            obtain ⟨v, q1, _, rfl⟩ := hk.ev_new hd 2 73 (by kernel_rfl) rfl
            have hbz := Below.then_ hH.below (Below.then_ hb0 hk.below)
            refine stepOk_value rfl (v := .slice A2 (n - at_) (c - at_)) (by go_simp) ⟨A2, rfl, ?_⟩
            have h := hA2 _ _ (cb b) (by rw [List.length_map]; exact HN.out) (hA.below hbz)
            rw [show (cb b).drop at_ = cb ((b.drop at_).take (n - at_)) from by rw [List.take_of_length_le (by rw [List.length_drop, HN.out]; exact Nat.le_refl _)]; simp [cb]] at h
            exact h.more hbz.size
          · obtain ⟨v, q0, _, rfl⟩ := hk.ev_new hd 0 71 (by kernel_rfl) rfl
            obtain ⟨v, q1, _, A3, rfl, hS3⟩ := hk.ev_new hd 3 74 (by kernel_rfl) rfl
            have f3 : a1.tmps[3]? = some (.pointer (some ⟨gt, 0, none⟩)) := hk.old_at 3 (by kernel_rfl)
            refine stepOk_enter rfl (f := 17) (args := #[.pointer (some ⟨gt, 0, none⟩), .agg (hz (stAll keys first (b.take at_)) (.slice R (at_ % 64) cr) (at_ : Int)).toArray, .slice A3 (n - at_) (c - at_)]) (by go_simp) ?_
            refine (piece_call gt 0 first keys b w _ gh at_ n n c cr R A3 ((hTab.step hb0).step hk.below) ((hH.step hb0).step hk.below) HN.out ha (Nat.le_refl _) hnc hn7 hS3).mono ?_
            rintro e w5 ⟨R5, c5, rfl, hF5, hB5⟩
            exact ⟨_, rfl, ⟨R5, c5, rfl, hF5.lower (Nat.le_trans hb0.size hk.below.size)⟩, hB5⟩
        · intro a1 w' hbw hp
          obtain ⟨v0, p0, v1, p1, v2, p2, v4, p4, v5, p5, rfl⟩ := hp
          simp only [restFacts] at p0 p1 p2 p4 p5
          subst p0 p1 p2
          obtain ⟨A3, rfl, _⟩ := p4
          obtain ⟨R5, c5, rfl, hF5⟩ := p5
          simp only [List.drop_succ_cons, List.drop_zero, Act.put, List.setIfInBounds_toArray, List.set_cons_succ, List.set_cons_zero]
          have hH' := hH.step hbw
          have hT' := hT.below hbw
          have hlst := len_stN keys first (b.take n) H1.out ((b.take n).length / 64)
          have HLN : Hid ((stAll keys first (b.take n)).length = 8) := hlst
          clear hlst hfr
          go_wp2_with (with_reducible refine wpList_store rfl rfl (.tmp 7) (.tmp 75) 31 rfl gh 0 w.heap.size 31 10 _ (hz (stAll keys first (b.take n)) (.slice R5 (n % 64) c5) (n : Int)) rfl rfl 10 (hz_len _ _ _ HLN.out) (by kernel_rfl) hH'.row (by omega) (hz_one _ _ _ rfl) w hH'.below hgw ?_; intro w6 hH6 hB6 hoth6 hz6)
          rw [show splice (hz (stAll keys first (b.take at_)) (.slice R (at_ % 64) cr) (at_ : Int)) 0 (hz (stAll keys first (b.take n)) (.slice R5 (n % 64) c5) (n : Int)) = hz (stAll keys first (b.take n)) (.slice R5 (n % 64) c5) (n : Int) from by
            have h1 := HLS.out
            have h2 := HLN.out
            simp [splice, h1, h2]] at hH6
          have hHn : HasB first keys b w gh n R5 c5 w6 := HasB.stored hgw dgh hF5 hH6 hoth6 hB6
          have hTn := hT'.other (g' := gh) (by omega) hoth6
          clear hH hT hTab hH' hT' hF5 hH6 hoth6 hB6
          have hbt : b.take n = b := List.take_of_length_le (Nat.le_of_eq HN.out)
          obtain ⟨hrow, hrest, hBel⟩ := hHn
          rw [hbt] at hrow hrest
          have hl8 := len_stN keys first b H1.out (b.length / 64)
          have HL8 : Hid ((stAll keys first b).length = 8) := hl8
          have hTab6 : Tab w6 gt 0 first keys := ⟨H1.out, H2.out, by rw [HTL.out]; exact hTn.sees⟩
          have hA6 := (hA.below hBel).more hBel.size
          have hol := len_ofF first keys b H1.out
          have HOL := Lib.hid hol
          clear hbt hl8 hol
          refine region_all (finFacts n c A R5 c5 first keys b) (by kernel_rfl) (by kernel_rfl) (finFacts_stab _ _ _ _ _ _ _ _) ?_ ?_
          · intro w0 hb0
            refine ⟨?_, ?_, ?_, ?_, ?_, ?_, ?_, ?_, ?_, ?_, ?_, ?_, ?_, ?_, ?_, ?_, trivial⟩
            all_goals intro listed a1 w' hk hd
            · have f2 := hk.ev_old 7 (by kernel_rfl)
              have hF := (hrow.below hb0).below hk.below
              exact stepOk_value rfl (run_load_agg (.tmp 7) 31 rfl f2 _ 10 (hz_len _ _ _ HL8.out) (by kernel_rfl) hF.sees) rfl
            · obtain ⟨v, q0, _, rfl⟩ := hk.ev_new hd 0 76 (by kernel_rfl) rfl
              have f3 : a1.tmps[3]? = some (.pointer (some ⟨gt, 0, none⟩)) := hk.old_at 3 (by kernel_rfl)
              refine stepOk_enter rfl (f := 19) (args := #[.pointer (some ⟨gt, 0, none⟩), .agg (hz (stAll keys first b) (.slice R5 (n % 64) c5) (n : Int)).toArray]) (by go_simp) ?_
              refine (Sum_any gt 0 first keys (stAll keys first b) R5 (n % 64) c5 n (left b) _ ((hTab6.step hb0).step hk.below) HL8.out ⟨by omega, by omega, by omega⟩ ((hrest.below hb0).below hk.below).sees (by rw [len_left, HN.out])).mono ?_
              rintro e w5 ⟨rfl, hB5⟩
              exact ⟨_, rfl, by show _ = _; rw [show sumF keys (stAll keys first b) (left b) n = ofF first keys b from by unfold ofF; rw [HN.out]], hB5⟩
            · have f2 := hk.ev_old 1 (by kernel_rfl)
              exact stepOk_value rfl (v := .slice A n c) (by simp [execOp]; exact f2) rfl
            · obtain ⟨v, q0, _, rfl⟩ := hk.ev_new hd 2 78 (by kernel_rfl) rfl
              have f3 : a1.tmps[3]? = some (.pointer (some ⟨gt, 0, none⟩)) := hk.old_at 3 (by kernel_rfl)
              refine stepOk_enter rfl (f := 20) (args := #[.pointer (some ⟨gt, 0, none⟩), .slice A n c]) (by go_simp) ?_
              refine (Of_any gt 0 first keys A n c b _ ((hTab6.step hb0).step hk.below) ((hA6.step hb0).step hk.below) HN.out hnc (by omega)).mono ?_
              rintro e w5 ⟨rfl, hB5⟩
              exact ⟨_, rfl, rfl, hB5⟩
            · obtain ⟨v, q0, _, rfl⟩ := hk.ev_new hd 1 77 (by kernel_rfl) rfl
              obtain ⟨v, q1, _, rfl⟩ := hk.ev_new hd 3 79 (by kernel_rfl) rfl
              refine stepOk_value rfl (v := .bool true) ?_ rfl
              rw [run_eq32b (.tmp 77) (.tmp 79) _ rfl (ofF first keys b) (ofF first keys b) q0 q1 HOL.out HOL.out, beq_self_eq_true]
            · obtain ⟨v, q0, _, rfl⟩ := hk.ev_new hd 4 80 (by kernel_rfl) rfl
              exact stepOk_value rfl (v := .bool true) (by go_simp) rfl
            · obtain ⟨v, q0, hv, rfl⟩ := hk.ev_new hd 5 81 (by kernel_rfl) rfl
              have f2 := hk.ev_old 7 (by kernel_rfl)
              have hF := (hrow.below hb0).below hk.below
              exact stepOk_val_w (wanted_at (t := 81) rfl rfl hv) (run_load_agg (.tmp 7) 31 rfl f2 _ 10 (hz_len _ _ _ HL8.out) (by kernel_rfl) hF.sees) rfl
            · obtain ⟨v, q0, hv, rfl⟩ := hk.ev_new hd 5 81 (by kernel_rfl) rfl
              have f3 : a1.tmps[3]? = some (.pointer (some ⟨gt, 0, none⟩)) := hk.old_at 3 (by kernel_rfl)
              refine stepOk_enter (wanted_at (t := 81) rfl rfl hv) (f := 16) (args := #[.pointer (some ⟨gt, 0, none⟩)]) (by go_simp) ?_
              refine (New_any gt 0 first keys _ ((hTab6.step hb0).step hk.below)).mono ?_
              rintro e w5 ⟨rfl, hB5⟩
              exact ⟨_, rfl, rfl, hB5⟩
            · obtain ⟨v, q0, hv, rfl⟩ := hk.ev_new hd 5 81 (by kernel_rfl) rfl
              have f2 := hk.ev_old 1 (by kernel_rfl)
              exact stepOk_val_w (wanted_at (t := 81) rfl rfl hv) (v := .slice A n c) (by simp [execOp]; exact f2) rfl
            · obtain ⟨v, q0, hv, rfl⟩ := hk.ev_new hd 5 81 (by kernel_rfl) rfl
              obtain ⟨v, q1, _, rfl⟩ := hk.ev_new hd 7 83 (by kernel_rfl) rfl
              obtain ⟨v, q2, _, rfl⟩ := hk.ev_new hd 8 84 (by kernel_rfl) rfl
              have f3 : a1.tmps[3]? = some (.pointer (some ⟨gt, 0, none⟩)) := hk.old_at 3 (by kernel_rfl)
              refine stepOk_enter (wanted_at (t := 81) rfl rfl hv) (f := 17) (args := #[.pointer (some ⟨gt, 0, none⟩), .agg (hz first (.slice none 0 0) 0).toArray, .slice A n c]) (by go_simp) ?_
              refine (Write_any gt 0 first keys first none A 0 0 n c 0 [] b _ ((hTab6.step hb0).step hk.below) H1.out ⟨by omega, by omega, by omega⟩ Sees.nil rfl ((hA6.step hb0).step hk.below) HN.out hnc (by omega)).mono ?_
              rintro e w5 ⟨A5, c6, rfl, hF5, hB5⟩
              rw [List.nil_append, len_left, HN.out] at hF5
              refine ⟨_, rfl, ⟨A5, c6, ?_, hF5.sees⟩, hB5⟩
              rw [List.nil_append, len_left, HN.out]
              simp
            · obtain ⟨v, q0, hv, rfl⟩ := hk.ev_new hd 5 81 (by kernel_rfl) rfl
              obtain ⟨v, q1, _, rfl⟩ := hk.ev_new hd 6 82 (by kernel_rfl) rfl
              obtain ⟨v, q2, _, R6, c6, rfl, hS6⟩ := hk.ev_new hd 9 85 (by kernel_rfl) rfl
              refine stepOk_enter (wanted_at (t := 81) rfl rfl hv) (f := 21) (args := #[.agg (hz (stAll keys first b) (.slice R5 (n % 64) c5) (n : Int)).toArray, .agg (hz (stAll keys first b) (.slice R6 (n % 64) c6) (n : Int)).toArray]) (by go_simp) ?_
              refine (SameHasher_true (stAll keys first b) R5 R6 (n % 64) c5 c6 (n : Int) (left b) _ HL8.out ((hrest.below hb0).below hk.below).sees hS6 (by rw [len_left, HN.out])).mono ?_
              rintro e w5 ⟨rfl, hB5⟩
              exact ⟨_, rfl, rfl, hB5⟩
            · obtain ⟨v, q0, _, rfl⟩ := hk.ev_new hd 5 81 (by kernel_rfl) rfl
              obtain ⟨v, q1, _, rfl⟩ := hk.ev_new hd 10 86 (by kernel_rfl) rfl
              exact stepOk_value rfl (v := .bool true) (by go_simp) rfl
            · obtain ⟨v, q0, _, rfl⟩ := hk.ev_new hd 11 87 (by kernel_rfl) rfl
              exact stepOk_value rfl (v := .bool true) (by go_simp) rfl
            · obtain ⟨v, q0, hv, rfl⟩ := hk.ev_new hd 12 88 (by kernel_rfl) rfl
              refine stepOk_enter (wanted_at (t := 88) rfl rfl hv) (f := 15) (args := #[]) (by go_simp) ?_
              refine (awake2_any _).mono ?_
              rintro e w5 ⟨rfl, hB5⟩
              exact ⟨_, rfl, rfl, hB5⟩
            · obtain ⟨v, q0, _, rfl⟩ := hk.ev_new hd 12 88 (by kernel_rfl) rfl
              obtain ⟨v, q1, _, rfl⟩ := hk.ev_new hd 13 89 (by kernel_rfl) rfl
              exact stepOk_value rfl (v := .bool true) (by go_simp) rfl
            · obtain ⟨v, q0, _, rfl⟩ := hk.ev_new hd 14 90 (by kernel_rfl) rfl
              exact stepOk_value rfl (v := .bool true) (by go_simp) rfl
          · intro w0 hb0 listed a1 w' hk hall
            obtain ⟨v, hv, rfl⟩ := hk.new 15 _ 6 rfl rfl (hall 15 (by simp))
            have hdf := hk.defers
            have hB := Below.then_ hBel (Below.then_ hb0 hk.below)
            rename_i hK
            refine hK _ _ (wp_ret ?_)
            refine bodyPost_ret (v := .bool true) ?_ hdf ⟨rfl, hB⟩
            rw [results_tmp (t := 6) rfl]
            simp [Array.getD_eq_getD_getElem?, hv]
set_option maxHeartbeats 400000 in
theorem pieces_over (first keys : List UInt32) (A Q : Option Addr) (n c m k : Nat) (w : World) (h1 : first.length = 8) (h2 : keys.length = 64) (h : 700 < n) :
    Calls Try.prog 3 #[.agg (cw (first ++ keys)).toArray, .slice A n c, .slice Q m k] w fun e w' => e = .returned (.bool true) ∧ Below w.heap.size w w' := by
  have hl : (cw (first ++ keys)).length = 72 := by rw [List.length_map, List.length_append, h1, h2]
  have HL := Lib.hid hl
  clear hl h1 h2
  go_enter Try.func3, Try.ntmps3
  go_wp2_with (first
    | (with_reducible refine wpList_box (o := ⟨some 3, _, _, _, _, _⟩) rfl (.tmp 0) 26 rfl (cw (first ++ keys)) rfl 72 HL.out (by decide) ?_; intro gt w1 hgt hFt hBt)
    | (go_at_call 15; refine (awake2_any _).mono ?_; rintro e w9 ⟨rfl, hB9⟩))
  go_ret
  exact ⟨rfl, Below.then_ hBt hB9⟩
theorem pieces_law (W : World) (first0 keys0 : List UInt32) (lf0 : first0.length = 8) (lk0 : keys0.length = 64) (a1 : Option Addr) (len1 cap1 : Nat) (z1 : List Int) (w1 : IsRow .u8 W a1 len1 cap1 z1) (a2 : Option Addr) (len2 cap2 : Nat) (z2 : List Int) (w2 : IsRow .u16 W a2 len2 cap2 z2) :
    Calls Try.prog 3 #[.agg (cw (first0 ++ keys0)).toArray, .slice a1 len1 cap1, .slice a2 len2 cap2] W fun e w' => e = .returned (.bool true) ∧ Below W.heap.size W w' := by
  obtain ⟨b, hb, hs, hc, _⟩ := row_bytes w1
  obtain ⟨g1, g2, g3, g4, g5⟩ := row_cells w2
  by_cases h : 700 < len1
  · exact pieces_over first0 keys0 a1 a2 len1 cap1 len2 cap2 W lf0 lk0 h
  · refine pieces_walk first0 keys0 a1 a2 len1 cap1 len2 cap2 b (z2.take len2) W lf0 lk0 hs hb hc (by omega) g4 (by rw [List.length_take]; omega) (fun z hz => ?_) (by unfold maxLen at g2; omega)
    have := bounds_u16 (g5 z (List.mem_of_mem_take hz))
    omega
end Go.Proofs.Ytpdfalgjmeagjaa
