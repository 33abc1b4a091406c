/-
  mac's digest of pieces, one behind the other: that of them all.
-/
import Derived.Test.YthigepkcgijbbaaShaSum
import Derived.Test.YthigepkcgijbbaaHzOver
import Derived.Test.YthigepkcgijbbaaPb
import Derived.Test.YthigepkcgijbbaaShaLeaf
namespace Go.Proofs.Ythigepkcgijbbaa
open Go.RowKit
set_option linter.unusedVariables false

def flatP (ps : List Pb) : List UInt8 := ps.flatMap Pb.l
theorem flatP_take (ps : List Pb) (k : Nat) (p : Pb) (h : ps[k]? = some p) : flatP (ps.take (k + 1)) = flatP (ps.take k) ++ p.l := by
  unfold flatP
  rw [List.take_add_one, h]
  simp
theorem flatP_le (ps : List Pb) (k : Nat) : (flatP (ps.take k)).length ≤ (flatP ps).length := by
  have : flatP ps = flatP (ps.take k) ++ flatP (ps.drop k) := by
    unfold flatP
    rw [← List.flatMap_append, List.take_append_drop]
  rw [this]
  simp
theorem piece_le (ps : List Pb) (k : Nat) (p : Pb) (h : ps[k]? = some p) : p.l.length ≤ (flatP ps).length := by
  have h1 := flatP_le ps (k + 1)
  rw [flatP_take ps k p h] at h1
  simp at h1
  omega
set_option maxHeartbeats 1000000 in
set_option maxRecDepth 100000 in
theorem mdigest_any (tb to : Nat) (first keys : List UInt32) (A : Option Addr) (n c : Nat) (ps : List Pb) (w : World) (ht : Tab w tb to first keys) (hp : Parts w A n ps) (hn7 : n ≤ 7) (hc : (flatP ps).length ≤ 1099511627776) :
    Calls Try.prog 75 #[.pointer (some ⟨tb, to, none⟩), .slice A n c] w fun e w' => e = .returned (.agg (cb (ofF first keys (flatP ps))).toArray) ∧ Below w.heap.size w w' := by
  have HP := Lib.hid hp
  have HC := Lib.hid hc
  have hl1 := ht.l1
  have hlo : (ofF first keys (flatP ps)).length = 32 := by
    unfold ofF sumF
    rw [len_digF, show (stAll keys (stAll keys first (flatP ps)) (left (flatP ps) ++ padL (flatP ps).length)).length = 8 from len_stN _ _ _ (len_stN _ _ _ ht.l1 _) _]
  have HLO := Lib.hid hlo
  clear hlo hp hc
  go_enter Try.func75, Try.ntmps75
  go_wp2_with (first
    | (with_reducible refine wpList_alloc (o := ⟨some 4, _, _, _, _, _⟩) rfl 32 rfl (cb (List.replicate 32 0)) (by kernel_rfl) 32 (by simp) (by decide) ?_; intro gr w1 hgr hFr hBr)
    | (go_at_call 84; refine (New_any tb to first keys _ (ht.step hBr)).mono ?_; rintro e w2 ⟨rfl, hB2⟩; have hB02 := Below.then_ hBr hB2)
    | (with_reducible refine wpList_alloc (o := ⟨some 5, _, _, _, _, _⟩) rfl 141 rfl (hz (List.replicate 8 0) (.slice none 0 0) 0) (by kernel_rfl) 10 (by simp [hz]) (by decide) ?_; intro gh w3 hgh hFh hB3; have hB03 := Below.then_ hB02 hB3; have hFr3 := (hFr.below hB2).below hB3)
    | (with_reducible refine wpList_store rfl rfl (.tmp 5) (.tmp 9) 141 rfl gh 0 _ 141 10 (hz (List.replicate 8 0) (.slice none 0 0) 0) (hz first (.slice none 0 0) 0) rfl rfl 10 (by simp [hz, hl1]) (by kernel_rfl) hFh (by omega) (hz_one _ _ _ rfl) w hB03 (by have := hB02.size; omega) ?_; intro w4 hF4 hB4 ho4 hz4))
  have e0 : splice (hz (List.replicate 8 0) (.slice none 0 0) 0) 0 (hz first (.slice none 0 0) 0) = hz first (.slice none 0 0) 0 := hz_over (by simp) hl1
  rw [e0] at hF4
  have z3 := hB03.size
  have hF4' : Fresh w.heap.size 141 w4 (some ⟨gh, 0, none⟩) 10 10 (hz first (.slice none 0 0) 0) := hF4.lower (by have := hB02.size; omega)
  have lr := hFr3.lt_size
  have lr2 := hFr.lt_size
  have z2 := hB2.size
  have hFr4 : Fresh w.heap.size 32 w4 (some ⟨gr, 0, none⟩) 32 32 (cb (List.replicate 32 0)) := hFr3.other (by omega) ho4
  have nrh : gr ≠ gh := by omega
  have hwg : w.heap.size ≤ gh := by have := hB02.size; omega
  clear hBr hB2 hB02 hFr hFh hB3 hB03 hFr3 hF4 ho4 hz4 e0
  go_loopw [12] (fun i wr => ∃ (j : Nat) (R : Option Addr) (cr : Nat) (f : List UInt8), j ≤ n ∧ i = .int .i64 (j : Int) ∧ Hid (f = flatP (ps.take j)) ∧ Fresh w.heap.size 141 wr (some ⟨gh, 0, none⟩) 10 10 (hz (stAll keys first f) (.slice R (left f).length cr) (f.length : Int)) ∧ Sees wr wr.heap.size R (cb (left f)) ∧ Fresh w.heap.size 32 wr (some ⟨gr, 0, none⟩) 32 32 (cb (List.replicate 32 0)) ∧ Below w.heap.size w wr) (fun i _ => n - (intOf i).toNat)
  case atStart => exact ⟨0, none, 0, [], by omega, rfl, Lib.hid rfl, hF4', Sees.nil, hFr4, hB4⟩
  case round =>
    obtain ⟨j, R, cr, f, hj, rfl, hf, hFj, hRj, hrj, hBj⟩ := hrel
    clear hF4' hFr4 hB4
    have hfl : f.length ≤ 1099511627776 := by have h1 := flatP_le ps j; rw [← hf.out] at h1; have := HC.out; omega
    have hst : (stAll keys first f).length = 8 := len_stN _ _ _ hl1 _
    have hz10 : (hz (stAll keys first f) (.slice R (left f).length cr) (f.length : Int)).length = 10 := hz_len _ _ _ hst
    have hri : Right (left f).length (f.length : Int) := ⟨by omega, by omega, by rw [len_left]; omega⟩
    by_cases hlt : j < n
    · have HLT := Lib.hid hlt
      obtain ⟨g, o, rfl, p, HK, hpo, hcell⟩ := (HP.out.step hBj).at_ hlt
      have hpl := piece_le ps j p HK.out
      have hnx := flatP_take ps j p HK.out
      rw [← hf.out] at hnx
      have hp1 := hpo.sees
      have hp2 := hpo.len
      have hp3 := hpo.cap
      obtain ⟨Ap, mp, cp, lp⟩ := p
      simp only at hp1 hp2 hp3 hcell hnx hpl
      have hmp : mp ≤ 1099511627776 := by have := HC.out; omega
      have HNX := Lib.hid hnx
      have HP2 := Lib.hid hp2
      have HST := Lib.hid hst
      have HZ := Lib.hid hz10
      have HRI := Lib.hid hri
      have HMP := Lib.hid hmp
      have HP3 := Lib.hid hp3
      clear hnx hp2 hpo hpl hst hz10 hri hmp hp3
      have hW := fun (w' : World) (x : Below wr.heap.size wr w') => Write_any tb to first keys (stAll keys first f) R Ap (left f).length cr mp cp (f.length : Int) (left f) lp w' ((ht.step hBj).step x) HST.out HRI.out (hRj.step x) rfl (hp1.step x) HP2.out HP3.out HMP.out
      rw [stAll_append, left_append] at hW
      go_wp2_with (with_reducible refine wpList_load (o := ⟨some 17, _, _, _, _, _⟩) rfl (.tmp 5) 141 rfl gh 0 _ rfl (hz (stAll keys first f) (.slice R (left f).length cr) (f.length : Int)) 10 HZ.out (by kernel_rfl) hFj.sees ?_)
      refine (hW _ (Below.refl _ _)).mono ?_
      rintro e w5 ⟨A3, c3, rfl, hF5, hB5⟩
      have hFj5 := hFj.below hB5
      have hrj5 := hrj.below hB5
      have hB05 := Below.then_ hBj hB5
      have HL9 : Hid ((hz (stAll keys first (f ++ lp)) (.slice A3 (left (f ++ lp)).length c3) ((f.length : Int) + (mp : Int))).length = 10) := Lib.hid (hz_len _ _ _ (len_stN _ _ _ hl1 _))
      clear hW
      go_wp2_with (with_reducible refine wpList_store rfl rfl (.tmp 5) (.tmp 19) 141 rfl gh 0 w.heap.size 141 10 (hz (stAll keys first f) (.slice R (left f).length cr) (f.length : Int)) (hz (stAll keys first (f ++ lp)) (.slice A3 (left (f ++ lp)).length c3) ((f.length : Int) + (mp : Int))) rfl rfl 10 HL9.out (by kernel_rfl) hFj5 (by omega) (hz_one _ _ _ rfl) w hB05 hwg ?_; intro w6 hF6 hB6 ho6 hz6)
      have hl9 : (stAll keys first (f ++ lp)).length = 8 := len_stN _ _ _ hl1 _
      rw [hz_over HST.out hl9] at hF6
      clear hl9
      have h65 : Sees w6 w6.heap.size A3 (cb (left (f ++ lp))) := by
        have h8 := hF5.others (w' := w6) fun k hk => ho6 k (by have := hFj.lt_size; omega)
        exact h8.sees
      go_roundw
      case rel => exact ⟨j + 1, A3, c3, f ++ lp, (by have := HLT.out; omega), by go_num, Lib.hid HNX.out.symm, (by have e : (((f ++ lp).length : Nat) : Int) = (f.length : Int) + (mp : Int) := (by rw [List.length_append, HP2.out]; omega); rw [e]; exact hF6), h65, hrj5.other nrh ho6, hB6⟩
      case measure => (have := HLT.out); simp [intOf]; omega
    · obtain rfl : j = n := by omega
      obtain rfl : f = flatP ps := by rw [hf.out, List.take_of_length_le (by rw [HP.out.len]; exact Nat.le_refl _)]
      have HST := Lib.hid hst
      have HZ := Lib.hid hz10
      have HRI := Lib.hid hri
      clear hst hz10 hri
      have hS := fun (w' : World) (x : Below wr.heap.size wr w') => Sum_any tb to first keys (stAll keys first (flatP ps)) R (left (flatP ps)).length cr (flatP ps).length (left (flatP ps)) w' ((ht.step hBj).step x) HST.out HRI.out (hRj.step x) rfl
      rw [show sumF keys (stAll keys first (flatP ps)) (left (flatP ps)) (flatP ps).length = ofF first keys (flatP ps) from rfl] at hS
      go_wp2_with (with_reducible refine wpList_load (o := ⟨some 22, _, _, _, _, _⟩) rfl (.tmp 5) 141 rfl gh 0 _ rfl (hz (stAll keys first (flatP ps)) (.slice R (left (flatP ps)).length cr) ((flatP ps).length : Int)) 10 HZ.out (by kernel_rfl) hFj.sees ?_)
      refine (hS _ (Below.refl _ _)).mono ?_
      rintro e w5 ⟨rfl, hB5⟩
      have hrj5 := hrj.below hB5
      have hB05 := Below.then_ hBj hB5
      clear hS
      go_wp2_with (with_reducible refine wpList_store rfl rfl (.tmp 4) (.tmp 23) 32 rfl gr 0 w.heap.size 32 32 (cb (List.replicate 32 0)) (cb (ofF first keys (flatP ps))) rfl rfl 32 (by rw [List.length_map]; exact HLO.out) (by kernel_rfl) hrj5 (by omega) (cb_one _) w hB05 (by omega) ?_; intro w9 hF9 hB9 _ _)
      have e : splice (cb (List.replicate 32 0)) 0 (cb (ofF first keys (flatP ps))) = cb (ofF first keys (flatP ps)) := by
        have := HLO.out
        simp [splice, this]
      rw [e] at hF9
      exact bodyPost_cell rfl rfl (cb (ofF first keys (flatP ps))) 32 (by rw [List.length_map]; exact HLO.out) (by kernel_rfl) hF9.sees rfl ⟨rfl, hB9⟩
end Go.Proofs.Ythigepkcgijbbaa
