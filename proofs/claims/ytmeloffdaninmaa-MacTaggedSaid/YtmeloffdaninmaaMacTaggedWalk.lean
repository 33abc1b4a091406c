/-
  MacTagged returns true for every input, and writes nothing that was there: mac.Tagged, and the walk.
-/
import Derived.Test.YtmeloffdaninmaaParts
import Derived.Test.YtmeloffdaninmaaShaSame
import Derived.Test.YtmeloffdaninmaaMacAwake
namespace Go.Proofs.Ytmeloffdaninmaa
open Go.RowKit
set_option linter.unusedVariables false

theorem wpList_run_g {P : Program} {w : World} {ops : Array Oper} {rest : List Oper} {o : Oper} {a : Act} {Q : Exit → Act → World → Prop} {v : Value} (hw : Region.wanted o (yielded ops a.tmps) = true) (hrun : (execOp a.eval o).run P w = .ok (.value v) w) (hK : wpList P ops Q rest (a.put o.dst v) w) : wpList P ops Q (o :: rest) a w := by
  refine wpList_step fun K hK' => ?_
  rw [if_pos hw]
  unfold Oper.wp
  rw [hrun]
  exact hK' _ _ hK
section
variable {w : World}
set_option maxHeartbeats 1000000 in
set_option maxRecDepth 100000 in
theorem Tagged_any (tb to : Nat) (first keys : List UInt32) (ht : Tab w tb to first keys) (tag : UInt8) (A : Option Addr) (n c : Nat) (ps : List Pb) (ls : List (List UInt8)) (hp : Parts w A n ps) (hls : ps.map Pb.l = ls) (hn : n ≤ 6) (hm : ∀ p ∈ ps, p.m ≤ 100) (D : List UInt8) (hD : ofF first keys (textF tag ls) = D) :
    Calls Try.prog 64 #[.pointer (some ⟨tb, to, none⟩), .int .u8 (tag.toNat : Int), .slice A n c] w fun e w' => e = .returned (.agg (cb D).toArray) ∧ Below w.heap.size w w' := by
  have hlen : ls.length = n := by rw [← hls, List.length_map]; exact hp.len
  have hll : ∀ l ∈ ls, l.length ≤ 100 := by
    intro l hl
    rw [← hls] at hl
    obtain ⟨p, hpm, rfl⟩ := List.mem_map.1 hl
    rw [(hp.ok p hpm).len]
    exact hm p hpm
  obtain ⟨N, hN⟩ : ∃ N, (textF tag ls).length = N := ⟨_, rfl⟩
  have hNl : N ≤ 1000 := by
    have h1 := blobs_le ls hll
    have h2 := nd_bd ls.length
    rw [← hN, textF, List.length_append, List.length_append, len_digs, show ([75, tag] : List UInt8).length = 2 from rfl]
    omega
  have HN := Lib.hid hN
  have HD := Lib.hid hD
  have HLD := Lib.hid (show D.length = 32 by rw [← hD]; exact len_ofF _ _ _ ht.l1)
  clear hlen hll hN hD
  go_enter Try.func64, Try.ntmps64
  go_wp2_with (first
    | (with_reducible refine wpList_alloc (o := ⟨some 6, _, _, _, _, _⟩) rfl 58 rfl (cb (List.replicate 32 0)) (by kernel_rfl) 32 (by simp) (by decide) ?_; intro gr w1 hgr hFr hBr)
    | (go_at_call 62; refine (Text_any tag A n c N ps ls (hp.step hBr) hls hn hm HN.out).mono ?_; rintro e w2 ⟨A2, c2, rfl, hF2, hB2⟩; have hB02 := Below.then_ hBr hB2; have hcap := hF2.cap.1)
    | (go_at_call 47; refine (Of_any tb to first keys A2 N c2 (textF tag ls) _ (ht.step hB02) hF2.sees HN.out hcap (by omega)).mono ?_; rintro e w3 ⟨rfl, hB3⟩; rw [HD.out]; have hB03 := Below.then_ hB02 hB3; have hF3 := ((hFr.below hB2).below hB3))
    | (with_reducible refine wpList_store rfl rfl (.tmp 6) (.tmp 11) 58 rfl gr 0 w.heap.size 58 32 (cb (List.replicate 32 0)) (cb D) rfl rfl 32 (by rw [List.length_map]; exact HLD.out) (by kernel_rfl) hF3 (by omega) (cb_one _) w hB03 (by omega) ?_; intro w9 hF9 hB9 _ _))
  have e : splice (cb (List.replicate 32 0)) 0 (cb D) = cb D := by
    have := HLD.out
    simp [splice, this]
  rw [e] at hF9
  exact bodyPost_cell rfl rfl (cb D) 32 (by rw [List.length_map]; exact HLD.out) (by kernel_rfl) hF9.sees rfl ⟨rfl, hB9⟩
theorem few_le (ps : List Pb) : (fewF ps).length ≤ 6 ∧ ∀ p ∈ fewF ps, p.m ≤ 100 := by
  refine ⟨Nat.le_trans (List.length_filter_le _ _) (by simp; omega), fun p hp => ?_⟩
  have := (List.mem_filter.1 hp).2
  simpa using this
set_option maxHeartbeats 2000000 in
set_option maxRecDepth 100000 in
theorem tagged_walk (first keys : List UInt32) (h8 : first.length = 8) (h64 : keys.length = 64) (tag : UInt8) (A : Option Addr) (n c : Nat) (ps : List Pb) (hp : Parts w A n ps) :
    Calls Try.prog 11 #[.agg (cw (first ++ keys)).toArray, .int .u8 (tag.toNat : Int), .slice A n c] w fun e w' => e = .returned (.bool true) ∧ Below w.heap.size w w' := by
  obtain ⟨Q, hQ⟩ : ∃ Q, (fewF ps).length = Q := ⟨_, rfl⟩
  have hfl := few_le ps
  rw [hQ] at hfl
  have hQ6 := hfl.1
  have HM := Lib.hid hfl.2
  obtain ⟨ls, hls⟩ : ∃ ls, (fewF ps).map Pb.l = ls := ⟨_, rfl⟩
  obtain ⟨N, hN⟩ : ∃ N, (textF tag ls).length = N := ⟨_, rfl⟩
  obtain ⟨D, hD⟩ : ∃ D, ofF first keys (textF tag ls) = D := ⟨_, rfl⟩
  have hD32 : D.length = 32 := by rw [← hD]; exact len_ofF _ _ _ h8
  have HD32 := Lib.hid hD32
  have HLF := Lib.hid (show (first ++ keys).length = 72 by rw [List.length_append, h8, h64])
  have HQ := Lib.hid hQ
  have HLS := Lib.hid hls
  have HN := Lib.hid hN
  have HD := Lib.hid hD
  have hN3 : 3 ≤ N := by
    have h2 := nd_bd ls.length
    rw [← hN, textF, List.length_append, List.length_append, len_digs]
    simp
    omega
  have hNl : N ≤ 1000 := by
    have hll : ∀ l ∈ ls, l.length ≤ 100 := by
      intro l hl
      rw [← hls] at hl
      obtain ⟨p, hpm, rfl⟩ := List.mem_map.1 hl
      rw [(hp.ok p (List.mem_of_mem_take (List.mem_filter.1 hpm).1)).len]
      exact hfl.2 p hpm
    have h1 := blobs_le ls hll
    have h2 := nd_bd ls.length
    have h3 : ls.length ≤ 6 := by rw [← hls, List.length_map, hQ]; exact hQ6
    rw [← hN, textF, List.length_append, List.length_append, len_digs, show ([75, tag] : List UInt8).length = 2 from rfl]
    omega
  have HH8 := Lib.hid h8
  have HH64 := Lib.hid h64
  clear hfl hQ hls hN hD hD32 h8 h64
  go_enter Try.func11, Try.ntmps11
  go_wp2_with (with_reducible refine wpList_box (o := ⟨some 3, _, _, _, _, _⟩) rfl (.tmp 0) 48 rfl (cw (first ++ keys)) rfl 72 (by rw [List.length_map]; exact HLF.out) (by decide) ?_; intro gt w1 hgt hFt hB1)
  have hT1 : Tab w1 gt 0 first keys := ⟨HH8.out, HH64.out, hFt.sees⟩
  clear hFt
  go_wp2_with fail
  have hfew := few_any A n c ps (hp.step hB1)
  rw [HQ.out] at hfew
  refine hfew.mono ?_
  clear hfew
  rintro e w2 ⟨A2, c2, rfl, hP2, hB2⟩
  have hB02 := Below.then_ hB1 hB2
  have hT2 := hT1.step hB2
  clear hT1 hB2
  go_wp2_with fail
  refine (Text_any tag A2 Q c2 N (fewF ps) ls hP2 HLS.out hQ6 HM.out HN.out).mono ?_
  rintro e w3 ⟨A3, c3, rfl, hF3, hB3⟩
  have hB03 := Below.then_ hB02 hB3
  have hT3 := hT2.step hB3
  have hP3 := hP2.step hB3
  have hcap := hF3.cap.1
  obtain ⟨g3, o3, e3, hg3, hc3⟩ := hF3.sees (by rw [List.length_map, HN.out]; omega)
  have k0 := hc3 0 (.int .u8 75) (by simp [textF])
  have k1 := hc3 1 (.int .u8 (tag.toNat : Int)) (by simp [textF])
  rw [Nat.add_zero] at k0
  subst e3
  have hd3 : decide (3 ≤ (N : Int)) = true := by simp; omega
  have htt : ((tag.toNat : Int) == (tag.toNat : Int)) = true := by simp
  clear hT2 hP2 hc3 hB02 hB3
  go_wp2_with fail
  refine (Tagged_any gt 0 first keys hT3 tag A2 Q c2 (fewF ps) ls hP3 HLS.out hQ6 HM.out D HD.out).mono ?_
  rintro e w4 ⟨rfl, hB4⟩
  have hB04 := Below.then_ hB03 hB4
  have hT4 := hT3.step hB4
  have hP4 := hP3.step hB4
  have hS4 := (hF3.below hB4).sees
  clear hT3 hP3 hF3 hB03 hB4 k0 k1
  go_wp2_with fail
  refine (Of_any gt 0 first keys (some ⟨g3, o3, none⟩) N c3 (textF tag ls) _ hT4 hS4 HN.out hcap (by omega)).mono ?_
  rintro e w5 ⟨rfl, hB5⟩
  rw [HD.out]
  have hB05 := Below.then_ hB04 hB5
  have hT5 := hT4.step hB5
  have hP5 := hP4.step hB5
  clear hT4 hP4 hS4 hB04 hB5
  go_wp2_with (with_reducible refine wpList_run_g (o := ⟨some 36, _, _, _, _, _⟩) rfl (run_eq32b (.tmp 33) (.tmp 35) _ rfl D D rfl rfl HD32.out HD32.out) ?_; rw [beq_self_eq_true])
  refine (CopyLists_any A2 Q c2 (fewF ps) hP5 hQ6 HM.out).mono ?_
  rintro e w6 ⟨A6, c6, qs, rfl, hP6, hl6, hm6, hB6⟩
  have hB06 := Below.then_ hB05 hB6
  have hT6 := hT5.step hB6
  have hP56 := hP5.step hB6
  have hM6 : ∀ p ∈ qs, p.m ≤ 100 := by
    intro p hpm
    have h1 : p.m ∈ qs.map Pb.m := List.mem_map_of_mem hpm
    rw [hm6] at h1
    obtain ⟨r, hr, h2⟩ := List.mem_map.1 h1
    rw [← h2]
    exact HM.out r hr
  have HL6 := Lib.hid (hl6.trans HLS.out)
  have HM6 := Lib.hid hM6
  clear hP5 hT5 hB6 hB05 hl6 hm6 hM6
  go_wp2_with fail
  refine (Tagged_any gt 0 first keys hT6 tag A6 Q c6 qs ls hP6 HL6.out hQ6 HM6.out D HD.out).mono ?_
  rintro e w7 ⟨rfl, hB7⟩
  have hB07 := Below.then_ hB06 hB7
  have hT7 := hT6.step hB7
  have hP7 := hP56.step hB7
  clear hT6 hP56 hP6 hB7 hB06
  go_wp2_with fail
  refine (Tagged_any gt 0 first keys hT7 tag A2 Q c2 (fewF ps) ls hP7 HLS.out hQ6 HM.out D HD.out).mono ?_
  rintro e w8 ⟨rfl, hB8⟩
  have hB08 := Below.then_ hB07 hB8
  clear hT7 hP7 hB07 hB8
  go_wp2_with (with_reducible refine wpList_run_g (o := ⟨some 46, _, _, _, _, _⟩) rfl (run_eq32b (.tmp 42) (.tmp 45) _ rfl D D rfl rfl HD32.out HD32.out) ?_; rw [beq_self_eq_true])
  refine (awake3_any _).mono ?_
  rintro e w9 ⟨rfl, hB9⟩
  go_wp2_with fail
  go_ret
  exact ⟨rfl, Below.then_ hB08 hB9⟩
end
end Go.Proofs.Ytmeloffdaninmaa
