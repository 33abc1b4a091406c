/-
  What mac.turned answers: each byte of the block xor a byte.
-/
import Derived.Test.YthigepkcgijbbaaShaSum
import Derived.Laws.BitsAll
namespace Go.Proofs.Ythigepkcgijbbaa
open Go.RowKit
set_option linter.unusedVariables false
def turnF (b : List UInt8) (x : UInt8) : List UInt8 := b.map fun y => y ^^^ x
theorem turnF_len (b : List UInt8) (x : UInt8) : (turnF b x).length = b.length := by simp [turnF]
set_option maxHeartbeats 1000000 in
set_option maxRecDepth 100000 in
theorem mturned_any (b : List UInt8) (x : UInt8) (w : World) (hb : b.length = 64) :
    Calls Try.prog 74 #[.agg (cb b).toArray, .int .u8 (x.toNat : Int)] w fun e w' => e = .returned (.agg (cb (turnF b x)).toArray) ∧ Below w.heap.size w w' := by
  have HB := Lib.hid hb
  have HT : Hid ((turnF b x).length = 64) := Lib.hid (by rw [turnF_len]; exact hb)
  clear hb
  go_enter Try.func74, Try.ntmps74
  go_wp2_with (first
    | (with_reducible refine wpList_box (o := ⟨some 2, _, _, _, _, _⟩) rfl (.tmp 0) 128 rfl (cb b) rfl 64 (by simp [HB.out]) (by decide) ?_; intro gb w1 hgb hFb hBb)
    | (with_reducible refine wpList_alloc (o := ⟨some 4, _, _, _, _, _⟩) rfl 128 rfl (cb (List.replicate 64 0)) (by kernel_rfl) 64 (by simp) (by decide) ?_; intro gr w2 hgr hFr hBr))
  have z1 := hBb.size
  have hB2 := Below.then_ hBb hBr
  have hF2 := hFb.below hBr
  have hR2 := hFr.lower z1
  have d1 := hFb.lt_size
  have hgg : gr ≠ gb := by
    have := hFr.block.2
    omega
  go_loopw [6] (fun i wr => ∃ k : Nat, k ≤ 64 ∧ i = .int .i64 (k : Int) ∧ Fresh w.heap.size 128 wr (some ⟨gb, 0, none⟩) 64 64 (cb (splice b 0 ((turnF b x).take k))) ∧ Fresh w.heap.size 128 wr (some ⟨gr, 0, none⟩) 64 64 (cb (List.replicate 64 0)) ∧ Below w.heap.size w wr) (fun i _ => 64 - (intOf i).toNat)
  case atStart => exact ⟨0, Nat.zero_le _, rfl, by simpa [splice] using hF2, hR2, hB2⟩
  case round =>
    obtain ⟨k, hk, rfl, hF, hR, hB⟩ := hrel
    by_cases hlt : k < 64
    · have hkb : k < b.length := by rw [HB.out]; exact hlt
      have hcell : wr.cell? ⟨gb, k, none⟩ = some (.int .u8 (b[k].toNat : Int)) := by
        rw [World.ownsRow.cellAt hF k (by omega)]
        have e1 : (splice b 0 ((turnF b x).take k))[k]? = some b[k] := by
          unfold splice
          rw [List.take_zero, List.nil_append, Nat.zero_add]
          have hl : ((turnF b x).take k).length = k := by rw [List.length_take, turnF_len, HB.out]; omega
          rw [List.getElem?_append_right (by omega), hl, Nat.sub_self, List.getElem?_drop, Nat.add_zero, List.getElem?_eq_getElem hkb]
        simp only [cb, List.getElem?_map, e1]
        rfl
      have hzf := hF.frozenAt (j := k)
      have hxor : bits .xor .u8 (b[k].toNat : Int) (x.toNat : Int) = ((b[k].toNat ^^^ x.toNat : Nat) : Int) := u8_xor_nat _ _ b[k].toNat_lt x.toNat_lt
      clear hB2 hF2 hR2
      go_wp2_with fail
      go_roundw
      case rel =>
        have hF3 := hF.store k (.int .u8 ((b[k].toNat ^^^ x.toNat : Nat) : Int))
        have hkt : k < (turnF b x).length := by rw [HT.out]; exact hlt
        have e2 : (cb (splice b 0 ((turnF b x).take k))).set k (.int .u8 ((b[k].toNat ^^^ x.toNat : Nat) : Int)) = cb (splice b 0 ((turnF b x).take (k + 1))) := by
          have h1 := splice_step b (turnF b x) 0 k hkt (by rw [HT.out, HB.out]; omega)
          rw [Nat.zero_add] at h1
          rw [← h1]
          have h2 : (turnF b x)[k] = b[k] ^^^ x := by simp [turnF]
          rw [h2]
          simp [cb, List.map_set, UInt8.toNat_xor]
        rw [e2] at hF3
        have hgbl := hF.block.2
        exact ⟨k + 1, by omega, by go_num, hF3, hR.other hgg (fun j hj => heap_setCell_other _ _ j _ hj), hB.setCell (p := ⟨gb, k, none⟩) hgbl _⟩
      case measure => simp [intOf]; omega
    · obtain rfl : 64 = k := by omega
      have e3 : splice b 0 ((turnF b x).take 64) = turnF b x := by
        have h1 : (turnF b x).take 64 = turnF b x := List.take_of_length_le (by rw [HT.out]; exact Nat.le_refl _)
        have h2 : b.drop (0 + 64) = [] := List.drop_of_length_le (by rw [HB.out]; exact Nat.le_refl _)
        unfold splice
        rw [h1, HT.out, h2]
        simp
      rw [e3] at hF
      have hgrl := hR.block.2
      go_wp2_with (first
        | (with_reducible refine wpList_load (o := ⟨some 16, _, _, _, _, _⟩) rfl (.tmp 2) 128 rfl gb 0 _ rfl (cb (turnF b x)) 64 (by simp [HT.out]) (by kernel_rfl) hF.sees ?_)
        | (with_reducible refine wpList_store rfl rfl (.tmp 4) (.tmp 16) 128 rfl gr 0 w.heap.size 128 64 (cb (List.replicate 64 0)) (cb (turnF b x)) rfl rfl 64 (by simp [HT.out]) (by kernel_rfl) hR (by omega) (cb_one _) w hB (by omega) ?_; intro w5 hF5 hB5 hoth5 hz5))
      rw [show splice (cb (List.replicate 64 (0 : UInt8))) 0 (cb (turnF b x)) = cb (turnF b x) from by have := HT.out; simp [splice, this]] at hF5
      refine bodyPost_cell rfl rfl (cb (turnF b x)) 64 (by simp [HT.out]) (by kernel_rfl) hF5.sees rfl ⟨rfl, hB5⟩
end Go.Proofs.Ythigepkcgijbbaa
