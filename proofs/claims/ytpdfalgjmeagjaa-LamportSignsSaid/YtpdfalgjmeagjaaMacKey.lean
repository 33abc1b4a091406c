/-
  What mac.keyBlock answers: the key, or its digest, filled up with noughts.
-/
import Derived.Test.YtpdfalgjmeagjaaShaSum
import Derived.Laws.BitsAll
import Derived.Test.YtpdfalgjmeagjaaShaDig
namespace Go.Proofs.Ytpdfalgjmeagjaa
open Go.RowKit
set_option linter.unusedVariables false
def turnF (b : List UInt8) (x : UInt8) : List UInt8 := b.map fun y => y ^^^ x
theorem turnF_len (b : List UInt8) (x : UInt8) : (turnF b x).length = b.length := by simp [turnF]
set_option maxHeartbeats 1000000 in
set_option maxRecDepth 100000 in
theorem mturned_any (b : List UInt8) (x : UInt8) (w : World) (hb : b.length = 64) :
    Calls Try.prog 200 #[.agg (cb b).toArray, .int .u8 (x.toNat : Int)] w fun e w' => e = .returned (.agg (cb (turnF b x)).toArray) ∧ Below w.heap.size w w' := by
  have HB := Lib.hid hb
  have HT : Hid ((turnF b x).length = 64) := Lib.hid (by rw [turnF_len]; exact hb)
  clear hb
  go_enter Try.func200, Try.ntmps200
  go_wp2_with (first
    | (with_reducible refine wpList_box (o := ⟨some 2, _, _, _, _, _⟩) rfl (.tmp 0) 43 rfl (cb b) rfl 64 (by simp [HB.out]) (by decide) ?_; intro gb w1 hgb hFb hBb)
    | (with_reducible refine wpList_alloc (o := ⟨some 4, _, _, _, _, _⟩) rfl 43 rfl (cb (List.replicate 64 0)) (by kernel_rfl) 64 (by simp) (by decide) ?_; intro gr w2 hgr hFr hBr))
  have z1 := hBb.size
  have hB2 := Below.then_ hBb hBr
  have hF2 := hFb.below hBr
  have hR2 := hFr.lower z1
  have d1 := hFb.lt_size
  have hgg : gr ≠ gb := by
    have := hFr.block.2
    omega
  go_loopw [6] (fun i wr => ∃ k : Nat, k ≤ 64 ∧ i = .int .i64 (k : Int) ∧ Fresh w.heap.size 43 wr (some ⟨gb, 0, none⟩) 64 64 (cb (splice b 0 ((turnF b x).take k))) ∧ Fresh w.heap.size 43 wr (some ⟨gr, 0, none⟩) 64 64 (cb (List.replicate 64 0)) ∧ Below w.heap.size w wr) (fun i _ => 64 - (intOf i).toNat)
  case atStart => exact ⟨0, Nat.zero_le _, rfl, by simpa [splice] using hF2, hR2, hB2⟩
  case round =>
    obtain ⟨k, hk, rfl, hF, hR, hB⟩ := hrel
    by_cases hlt : k < 64
    · have hkb : k < b.length := by rw [HB.out]; exact hlt
      have hcell : wr.cell? ⟨gb, k, none⟩ = some (.int .u8 (b[k].toNat : Int)) := by
        rw [World.ownsRow.cellAt hF k (by omega)]
        have e1 : (splice b 0 ((turnF b x).take k))[k]? = some b[k] := by
          unfold splice
          rw [List.take_zero, List.nil_append, Nat.zero_add]
          have hl : ((turnF b x).take k).length = k := by rw [List.length_take, turnF_len, HB.out]; omega
          rw [List.getElem?_append_right (by omega), hl, Nat.sub_self, List.getElem?_drop, Nat.add_zero, List.getElem?_eq_getElem hkb]
        simp only [cb, List.getElem?_map, e1]
        rfl
      have hzf := hF.frozenAt (j := k)
      have hxor : bits .xor .u8 (b[k].toNat : Int) (x.toNat : Int) = ((b[k].toNat ^^^ x.toNat : Nat) : Int) := u8_xor_nat _ _ b[k].toNat_lt x.toNat_lt
      clear hB2 hF2 hR2
      go_wp2_with fail
      go_roundw
      case rel =>
        have hF3 := hF.store k (.int .u8 ((b[k].toNat ^^^ x.toNat : Nat) : Int))
        have hkt : k < (turnF b x).length := by rw [HT.out]; exact hlt
        have e2 : (cb (splice b 0 ((turnF b x).take k))).set k (.int .u8 ((b[k].toNat ^^^ x.toNat : Nat) : Int)) = cb (splice b 0 ((turnF b x).take (k + 1))) := by
          have h1 := splice_step b (turnF b x) 0 k hkt (by rw [HT.out, HB.out]; omega)
          rw [Nat.zero_add] at h1
          rw [← h1]
          have h2 : (turnF b x)[k] = b[k] ^^^ x := by simp [turnF]
          rw [h2]
          simp [cb, List.map_set, UInt8.toNat_xor]
        rw [e2] at hF3
        have hgbl := hF.block.2
        exact ⟨k + 1, by omega, by go_num, hF3, hR.other hgg (fun j hj => heap_setCell_other _ _ j _ hj), hB.setCell (p := ⟨gb, k, none⟩) hgbl _⟩
      case measure => simp [intOf]; omega
    · obtain rfl : 64 = k := by omega
      have e3 : splice b 0 ((turnF b x).take 64) = turnF b x := by
        have h1 : (turnF b x).take 64 = turnF b x := List.take_of_length_le (by rw [HT.out]; exact Nat.le_refl _)
        have h2 : b.drop (0 + 64) = [] := List.drop_of_length_le (by rw [HB.out]; exact Nat.le_refl _)
        unfold splice
        rw [h1, HT.out, h2]
        simp
      rw [e3] at hF
      have hgrl := hR.block.2
      go_wp2_with (first
        | (with_reducible refine wpList_load (o := ⟨some 16, _, _, _, _, _⟩) rfl (.tmp 2) 43 rfl gb 0 _ rfl (cb (turnF b x)) 64 (by simp [HT.out]) (by kernel_rfl) hF.sees ?_)
        | (with_reducible refine wpList_store rfl rfl (.tmp 4) (.tmp 16) 43 rfl gr 0 w.heap.size 43 64 (cb (List.replicate 64 0)) (cb (turnF b x)) rfl rfl 64 (by simp [HT.out]) (by kernel_rfl) hR (by omega) (cb_one _) w hB (by omega) ?_; intro w5 hF5 hB5 hoth5 hz5))
      rw [show splice (cb (List.replicate 64 (0 : UInt8))) 0 (cb (turnF b x)) = cb (turnF b x) from by have := HT.out; simp [splice, this]] at hF5
      refine bodyPost_cell rfl rfl (cb (turnF b x)) 64 (by simp [HT.out]) (by kernel_rfl) hF5.sees rfl ⟨rfl, hB5⟩
end Go.Proofs.Ytpdfalgjmeagjaa

namespace Go.Proofs.Ytpdfalgjmeagjaa
open Go.RowKit
set_option linter.unusedVariables false
def keyF (first keys : List UInt32) (key : List UInt8) : List UInt8 := match decide (key.length ≤ 64) with
  | true => splice (List.replicate 64 0) 0 key
  | false => splice (List.replicate 64 0) 0 (ofF first keys key)
theorem keyF_len (first keys : List UInt32) (key : List UInt8) (h : first.length = 8) : (keyF first keys key).length = 64 := by
  unfold keyF
  split
  · rename_i hk
    have hk := of_decide_eq_true hk
    rw [length_splice _ _ _ (by simp; omega)]
    simp
  · rw [length_splice _ _ _ (by rw [len_ofF _ _ _ h]; simp)]
    simp
set_option maxHeartbeats 1000000 in
set_option maxRecDepth 100000 in
theorem keyBlock_any (tb to : Nat) (first keys : List UInt32) (A : Option Addr) (n c : Nat) (key : List UInt8) (w : World) (ht : Tab w tb to first keys) (hA : Sees w w.heap.size A (cb key)) (hn : key.length = n) (hnc : n ≤ c) (hc : n ≤ 1099511627776) :
    Calls Try.prog 199 #[.pointer (some ⟨tb, to, none⟩), .slice A n c] w fun e w' => e = .returned (.agg (cb (keyF first keys key)).toArray) ∧ Below w.heap.size w w' := by
  have hl64 := keyF_len first keys key ht.l1
  have HN := Lib.hid hn
  have HL := Lib.hid hl64
  clear hl64
  by_cases h64 : n ≤ 64
  · have hke : splice (List.replicate 64 0) 0 (key.take n) = keyF first keys key := by
      unfold keyF
      rw [hn, decide_eq_true h64, List.take_of_length_le (by omega)]
    have hmin : Nat.min n 64 = n := Nat.min_eq_left h64
    have HMIN := Lib.hid hmin
    clear hmin hn
    go_enter Try.func199, Try.ntmps199
    go_wp2_with (first
      | (with_reducible refine wpList_alloc (o := ⟨some 4, _, _, _, _, _⟩) rfl 43 rfl (cb (List.replicate 64 0)) (by kernel_rfl) 64 (by simp) (by decide) ?_; intro gr w1 hgr hFr hBr)
      | (with_reducible refine wpList_alloc (o := ⟨some 5, _, _, _, _, _⟩) rfl 43 rfl (cb (List.replicate 64 0)) (by kernel_rfl) 64 (by simp) (by decide) ?_; intro gb w2 hgb hFb hBb; have hsl := sl64_all gb; have z1 := hBr.size; have hB2 := Below.then_ hBr hBb; have hF2 := hFb.lower z1; have hR2 := hFr.below hBb; have dr := hFr.lt_size; have hrb := Nat.lt_of_lt_of_le dr hFb.block.2; have hA2 := hA.step hB2)
      | (with_reducible refine wpList_copyA rfl (.tmp 16) (.tmp 17) rfl _ _ _ _ _ _ rfl rfl 43 gb 64 0 n w.heap.size (List.replicate 64 0) key hF2 HMIN.out HN.out (fun _ => rfl) hA2 (by omega) ?_; intro w3 hF3 hB3; rw [hke] at hF3; have hR3 : Fresh w.heap.size 43 w3 (some ⟨gr, 0, none⟩) 64 64 (cb (List.replicate 64 0)) := Fresh.of_block ((hB3.block gr hrb).trans hR2.block.1) hR2.block.2 hR2.len hR2.cap.2; have hB03 : Below w.heap.size w w3 := hB2.trans (hB3.mono (Nat.le_trans z1 hFb.block.2)))
      | (with_reducible refine wpList_load (o := ⟨some 19, _, _, _, _, _⟩) rfl (.tmp 5) 43 rfl gb 0 _ rfl (cb (keyF first keys key)) 64 (by simp [HL.out]) (by kernel_rfl) hF3.sees ?_)
      | (with_reducible refine wpList_store rfl rfl (.tmp 4) (.tmp 19) 43 rfl gr 0 w.heap.size 43 64 (cb (List.replicate 64 0)) (cb (keyF first keys key)) rfl rfl 64 (by simp [HL.out]) (by kernel_rfl) hR3 (by omega) (cb_one _) w hB03 (by omega) ?_; intro w5 hF5 hB5 hoth5 hz5))
    rw [show splice (cb (List.replicate 64 (0 : UInt8))) 0 (cb (keyF first keys key)) = cb (keyF first keys key) from by have := HL.out; simp [splice, this]] at hF5
    refine bodyPost_cell rfl rfl (cb (keyF first keys key)) 64 (by simp [HL.out]) (by kernel_rfl) hF5.sees rfl ⟨rfl, hB5⟩
  · have hlo := len_ofF first keys key ht.l1
    have hke : splice (List.replicate 64 0) 0 ((ofF first keys key).take 32) = keyF first keys key := by
      unfold keyF
      rw [hn, decide_eq_false h64, List.take_of_length_le (by omega)]
    have HLO := Lib.hid hlo
    clear hn hlo
    go_enter Try.func199, Try.ntmps199
    go_wp2_with (first
      | (with_reducible refine wpList_alloc (o := ⟨some 4, _, _, _, _, _⟩) rfl 43 rfl (cb (List.replicate 64 0)) (by kernel_rfl) 64 (by simp) (by decide) ?_; intro gr w1 hgr hFr hBr)
      | (with_reducible refine wpList_alloc (o := ⟨some 5, _, _, _, _, _⟩) rfl 43 rfl (cb (List.replicate 64 0)) (by kernel_rfl) 64 (by simp) (by decide) ?_; intro gb w2 hgb hFb hBb; have hsl := sl64_all gb; have z1 := hBr.size; have hB2 := Below.then_ hBr hBb; have hF2 := hFb.lower z1; have hR2 := hFr.below hBb; have dr := hFr.lt_size; have hrb := Nat.lt_of_lt_of_le dr hFb.block.2; have hA2 := hA.step hB2; have ht2 := ht.step hB2))
    refine (Of_any tb to first keys A n c key w2 ht2 hA2 HN.out hnc hc).mono ?_
    rintro e w3 ⟨rfl, hB3⟩
    have hF3 := hF2.below hB3
    have hR3 := hR2.below hB3
    have hB03 := Below.then_ hB2 hB3
    have db := hF2.lt_size
    have z3 := hB3.size
    go_wp2_with (first
      | (with_reducible refine wpList_alloc (o := ⟨some 6, _, _, _, _, _⟩) rfl 38 rfl (cb (List.replicate 32 0)) (by kernel_rfl) 32 (by simp) (by decide) ?_; intro gd w4 hgd hFd hBd; have hsd := sl32_all gd; have hdb := Nat.lt_of_lt_of_le hF3.lt_size hFd.block.2)
      | (with_reducible refine wpList_store rfl rfl (.tmp 6) (.tmp 12) 38 rfl gd 0 w3.heap.size 38 32 (cb (List.replicate 32 0)) (cb (ofF first keys key)) rfl rfl 32 (by simp [HLO.out]) (by kernel_rfl) hFd (by omega) (cb_one _) w3 hBd hFd.block.2 ?_; intro w5 hF5 hB5 hoth5 hz5))
    rw [show splice (cb (List.replicate 32 (0 : UInt8))) 0 (cb (ofF first keys key)) = cb (ofF first keys key) from by have := HLO.out; simp [splice, this]] at hF5
    have hF5b := hF3.below hB5
    have hR5 := hR3.below hB5
    have hsl := sl64_all gb
    have hsd := sl32_all gd
    have hB05 := Below.then_ hB03 hB5
    (try simp only [Act.put, List.setIfInBounds_toArray, List.set_cons_succ, List.set_cons_zero])
    refine region_qtail 2 (by kernel_rfl) (by kernel_rfl) ?_
    simp only [List.take_succ_cons, List.take_zero, List.drop_succ_cons, List.drop_zero]
    repeat (go_big_quiet_step (fail))
    refine wpQuiet_nil ?_
    rintro _ ⟨nq, rfl⟩
    have hdw : Below w5.heap.size w5 (w5.drewN nq) := below_drewN' (Below.refl _ _) nq
    have hF6 := hF5b.below hdw
    have hR6 := hR5.below hdw
    have hD6 := hF5.below hdw
    have hB06 := Below.then_ hB05 hdw
    go_wp2_with (first
      | (with_reducible refine wpList_copyA rfl (.tmp 13) (.tmp 14) rfl _ _ _ _ _ _ rfl rfl 43 gb 64 0 32 w.heap.size (List.replicate 64 0) (ofF first keys key) hF6 rfl HLO.out (fun _ => rfl) hD6.sees (by omega) ?_; intro w7 hF7 hB7; rw [hke] at hF7; have hR7 : Fresh w.heap.size 43 w7 (some ⟨gr, 0, none⟩) 64 64 (cb (List.replicate 64 0)) := Fresh.of_block ((hB7.block gr hrb).trans hR6.block.1) hR6.block.2 hR6.len hR6.cap.2; have hB07 : Below w.heap.size w w7 := hB06.trans (hB7.mono (Nat.le_trans z1 hFb.block.2)))
      | (with_reducible refine wpList_load (o := ⟨some 19, _, _, _, _, _⟩) rfl (.tmp 5) 43 rfl gb 0 _ rfl (cb (keyF first keys key)) 64 (by simp [HL.out]) (by kernel_rfl) hF7.sees ?_)
      | (with_reducible refine wpList_store rfl rfl (.tmp 4) (.tmp 19) 43 rfl gr 0 w.heap.size 43 64 (cb (List.replicate 64 0)) (cb (keyF first keys key)) rfl rfl 64 (by simp [HL.out]) (by kernel_rfl) hR7 (by omega) (cb_one _) w hB07 (by omega) ?_; intro w8 hF8 hB8 hoth8 hz8))
    rw [show splice (cb (List.replicate 64 (0 : UInt8))) 0 (cb (keyF first keys key)) = cb (keyF first keys key) from by have := HL.out; simp [splice, this]] at hF8
    refine bodyPost_cell rfl rfl (cb (keyF first keys key)) 64 (by simp [HL.out]) (by kernel_rfl) hF8.sees rfl ⟨rfl, hB8⟩
end Go.Proofs.Ytpdfalgjmeagjaa
