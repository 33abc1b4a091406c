/-
  The document's own secrets and halves of layer 9, by value.
-/
import Derived.Test.YtehokoeajinboaaLamOpen
import Derived.Test.YtehokoeajinboaaRefMac
import Derived.Test.YtehokoeajinboaaRefText
namespace Go.Proofs.Ytehokoeajinboaa
open Go.RowKit
set_option linter.unusedVariables false

set_option maxHeartbeats 1000000 in
set_option maxRecDepth 100000 in
theorem rText_600 (tag : UInt8) (A : Option Addr) (n c : Nat) (ps : List Pb) (w : World) (hp : Parts w A n ps) (hn : n ≤ 600) (hm : ∀ p ∈ ps, p.m ≤ 1000) :
    Calls Try.prog 19 #[.int .u8 (tag.toNat : Int), .slice A n c] w (Made8 w (textF tag (ps.map Pb.l)).length (textF tag (ps.map Pb.l))) := by
  have HP := Lib.hid hp
  have HM := Lib.hid hm
  have hdn := (nd_bd n).2
  clear hp hm
  go_enter Try.func19, Try.ntmps19
  go_wp2_with fail
  have hF0 : Fresh w.heap.size 5 (w.alloc (Obj.cells #[Value.int IntKind.u8 75, Value.int IntKind.u8 (tag.toNat : Int)] 5)) (some ⟨w.heap.size, 0, none⟩) 2 2 (cb [75, tag]) := Fresh.new w 5 (cb [75, tag]) 2 rfl (by decide)
  have hB0 := below_alloc w (Obj.cells #[Value.int IntKind.u8 75, Value.int IntKind.u8 (tag.toNat : Int)] 5)
  revert hF0 hB0
  generalize w.alloc (Obj.cells #[Value.int IntKind.u8 75, Value.int IntKind.u8 (tag.toNat : Int)] 5) = w1
  intro hF0 hB0
  refine (Varint_any n w1 (by omega)).mono ?_
  rintro e w2 ⟨A2, c2, rfl, hF2, hB2⟩
  go_wp2_with (at_builtin; refine wpList_app8 rfl (.tmp 8) (.tmp 12) rfl (some ⟨w.heap.size, 0, none⟩) A2 2 2 (nd n) c2 [75, tag] (digs n) w rfl rfl (hF0.below hB2) hF2.sees (len_digs n) (by omega) (Below.then_ hB0 hB2) ?_; intro A3 c3 w3 hF3 hB3)
  have hlen := HP.out.len
  have htx : textF tag (ps.map Pb.l) = [75, tag] ++ digs n ++ (ps.map Pb.l).flatMap blob := by unfold textF; rw [List.length_map, hlen]
  have HTX := Lib.hid htx
  have HLEN := Lib.hid hlen
  clear htx hlen hF0 hB0 hF2 hB2
  go_loopw [5, 6] (fun v iv wr => ∃ (j k : Nat) (A4 : Option Addr) (c4 : Nat) (cur : List UInt8), j ≤ n ∧ iv = .int .i64 (j : Int) ∧ v = .slice A4 k c4 ∧ Hid (cur.length = k) ∧ Hid (cur = [75, tag] ++ digs n ++ ((ps.map Pb.l).take j).flatMap blob) ∧ k ≤ 12 + 1010 * j ∧ Fresh w.heap.size 5 wr A4 k c4 (cb cur) ∧ Below w.heap.size w wr) (fun _ iv _ => n - (intOf iv).toNat)
  case atStart => exact ⟨0, _, A3, c3, [75, tag] ++ digs n, by omega, rfl, rfl, Lib.hid (by rw [List.length_append, len_digs]; rfl), Lib.hid (by simp), by omega, hF3, hB3⟩
  case round =>
    obtain ⟨j, k, A4, c4, cur, hj, rfl, rfl, hk, hcur, hkl, hF4, hB4⟩ := hrel
    clear hF3 hB3
    by_cases hlt : j < n
    · have HLT := Lib.hid hlt
      obtain ⟨g, o, rfl, p, HK, hpo, hcell⟩ := (HP.out.step hB4).at_ hlt
      have hp1 := hpo.sees
      have HP2 := Lib.hid hpo.len
      have HPM := Lib.hid (HM.out p (List.mem_of_getElem? HK.out))
      have hnx : ((ps.map Pb.l).take (j + 1)).flatMap blob = ((ps.map Pb.l).take j).flatMap blob ++ blob p.l := by
        rw [List.take_add_one, List.getElem?_map, HK.out]
        simp
      have HNX := Lib.hid hnx
      obtain ⟨Ap, mp, cp, lp⟩ := p
      simp only at hp1 HP2 HPM hcell HNX
      have hdm := (nd_bd mp).2
      clear hnx hpo
      go_wp2_with fail
      refine (rBlob_any A4 Ap c4 cp k mp cur lp wr hF4.sees hp1 hk.out HP2.out (by omega) (by have := HPM.out; omega)).mono ?_
      rintro e w5 ⟨A5, c5, rfl, hF5, hB5⟩
      go_wp2_with fail
      go_roundw
      case rel => exact ⟨j + 1, _, A5, c5, cur ++ blob lp, (by have := HLT.out; omega), by go_num, rfl, Lib.hid (by rw [List.length_append, hk.out, blob_len, HP2.out]), Lib.hid (by rw [HNX.out, hcur.out]; simp only [List.append_assoc]), (by have := HPM.out; omega), hF5.lower hB4.size, Below.then_ hB4 hB5⟩
      case measure => (have := HLT.out); simp [intOf]; omega
    · obtain rfl : j = n := by omega
      have hc : cur = textF tag (ps.map Pb.l) := by rw [HTX.out, hcur.out, List.take_of_length_le (by rw [List.length_map, HLEN.out]; exact Nat.le_refl _)]
      have HC := Lib.hid hc
      clear hc
      go_wp2_with fail
      go_ret
      exact ⟨A4, c4, (by rw [← HC.out, hk.out]; rfl), by rw [← HC.out, hk.out]; exact hF4, hB4⟩
set_option maxHeartbeats 1000000 in
set_option maxRecDepth 100000 in
theorem rTagged_600 (first keys : List UInt32) (tag : UInt8) (A : Option Addr) (n c : Nat) (ps : List Pb) (w : World) (h1 : first.length = 8) (h2 : keys.length = 64) (hp : Parts w A n ps) (hn : n ≤ 600) (hm : ∀ p ∈ ps, p.m ≤ 1000) (tx : List UInt8) (htx : textF tag (ps.map Pb.l) = tx) (hl : tx.length ≤ 1000000000000) :
    Calls Try.prog 21 #[.agg (cw (first ++ keys)).toArray, .int .u8 (tag.toNat : Int), .slice A n c] w fun e w' => e = .returned (.agg (cb (ofF first keys tx)).toArray) ∧ Below w.heap.size w w' := by
  have HP := Lib.hid hp
  have HM := Lib.hid hm
  have H1 := Lib.hid h1
  have H2 := Lib.hid h2
  have HTX := Lib.hid htx
  have HK : Hid ((cw (first ++ keys)).length = 72) := Lib.hid (by simp [h1, h2])
  obtain ⟨dg, hdg⟩ : ∃ dg, ofF first keys tx = dg := ⟨_, rfl⟩
  have HDG := Lib.hid hdg
  have HL : Hid (dg.length = 32) := Lib.hid (by rw [← hdg]; exact len_ofF _ _ _ h1)
  rw [hdg]
  clear hp hm h1 h2 htx hdg
  go_enter Try.func21, Try.ntmps21
  go_wp2_with (first
    | (with_reducible refine wpList_box (o := ⟨some 3, _, _, _, _, _⟩) rfl (.tmp 0) 26 rfl (cw (first ++ keys)) rfl 72 HK.out (by decide) ?_; intro gt w1 hgt hFt hBt; have z1 := hBt.size)
    | (with_reducible refine wpList_alloc (o := ⟨some 6, _, _, _, _, _⟩) rfl 32 rfl (cb (List.replicate 32 0)) (by kernel_rfl) 32 (by simp) (by decide) ?_; intro gr w2 hgr hFr hBr; have z2 := hBr.size))
  have hT2 := hFt.below hBr
  have hR2 := hFr.lower (base' := w.heap.size) (by omega)
  have hB02 := Below.then_ hBt hBr
  clear hFt hFr hBt hBr
  refine region_all_tail 5 (rtgFacts (cw (first ++ keys)) (.int .u8 (tag.toNat : Int)) A n c tx dg) (by kernel_rfl) (by kernel_rfl) (by kernel_rfl) (rtgFacts_stab _ _ _ _ _ _ _) ?_ ?_
  · intro w0 hb0
    simp only [List.take_succ_cons, List.take_zero]
    refine ⟨?_, ?_, ?_, ?_, ?_, trivial⟩
    all_goals intro listed a1 w' hk hd
    · have f2 : a1.eval (.tmp 3) = .pointer (some ⟨gt, 0, none⟩) := hk.ev_old 3 (by kernel_rfl)
      exact stepOk_value rfl (run_load_agg (.tmp 3) 26 rfl f2 (cw (first ++ keys)) 72 HK.out (by kernel_rfl) ((hT2.below hb0).below hk.below).sees) rfl
    · have f1_ : a1.eval (.tmp 1) = .int .u8 (tag.toNat : Int) := hk.ev_old 1 (by kernel_rfl)
      have g1_ : a1.tmps[1]?.getD undef = .int .u8 (tag.toNat : Int) := by simpa [Act.eval] using f1_
      exact stepOk_value rfl (v := .int .u8 (tag.toNat : Int)) (by go_simp) rfl
    · have f2_ : a1.eval (.tmp 2) = .slice A n c := hk.ev_old 2 (by kernel_rfl)
      have g2_ : a1.tmps[2]?.getD undef = .slice A n c := by simpa [Act.eval] using f2_
      exact stepOk_value rfl (v := .slice A n c) (by go_simp) rfl
    · obtain ⟨v1, e1, q1, rfl⟩ := hk.ev_new hd 1 8 (by kernel_rfl) rfl
      obtain ⟨v2, e2, q2, rfl⟩ := hk.ev_new hd 2 9 (by kernel_rfl) rfl
      refine stepOk_enter rfl (f := 19) (args := #[.int .u8 (tag.toNat : Int), .slice A n c]) (by go_simp) ?_
      refine (rText_600 tag A n c ps _ (((HP.out.step hB02).step hb0).step hk.below) hn HM.out).mono ?_
      rintro e w5 ⟨A5, c5, rfl, hF5, hB5⟩
      rw [HTX.out] at hF5 ⊢
      exact ⟨_, rfl, ⟨A5, c5, rfl, hF5.sees⟩, hB5⟩
    · obtain ⟨v0, e0, q0, rfl⟩ := hk.ev_new hd 0 7 (by kernel_rfl) rfl
      obtain ⟨v3, e3, q3, B3, d3, rfl, hS3⟩ := hk.ev_new hd 3 10 (by kernel_rfl) rfl
      refine stepOk_enter rfl (f := 74) (args := #[.agg (cw (first ++ keys)).toArray, .slice B3 tx.length d3]) (by go_simp) ?_
      refine (rOf_any first keys B3 tx.length d3 tx _ H1.out H2.out hS3 rfl hl).mono ?_
      rintro e w5 ⟨rfl, hB5⟩
      exact ⟨_, rfl, (by rw [HDG.out]; rfl), hB5⟩
  · intro a1 w3 hbw hp
    obtain ⟨v0, p0, v1, p1, v2, p2, v3, p3, v4, p4, rfl⟩ := hp
    simp only [rtgFacts] at p0 p1 p2 p3 p4
    obtain ⟨B, d, rfl, -⟩ := p3
    subst p0 p1 p2 p4
    simp only [List.drop_succ_cons, List.drop_zero, Act.put, List.setIfInBounds_toArray, List.set_cons_succ, List.set_cons_zero]
    have hR3 := hR2.below hbw
    have hB03 := Below.then_ hB02 hbw
    go_wp2_with (with_reducible refine wpList_store rfl rfl (.tmp 6) (.tmp 11) 32 rfl gr 0 w.heap.size 32 32 (cb (List.replicate 32 0)) (cb dg) rfl rfl 32 (by rw [List.length_map]; exact HL.out) (by kernel_rfl) hR3 (by omega) (cb_one _) w hB03 (by omega) ?_; intro w9 hF9 hB9 _ _)
    have e : splice (cb (List.replicate 32 0)) 0 (cb dg) = cb dg := by
      have := HL.out
      simp [splice, this]
    rw [e] at hF9
    exact bodyPost_cell rfl rfl (cb dg) 32 (by rw [List.length_map]; exact HL.out) (by kernel_rfl) hF9.sees rfl ⟨rfl, hB9⟩
def rhF (TB : List Value) (gs : Nat) (s Y : List UInt8) (j : Nat) (x : Value) (w : World) : Prop :=
  match j with
  | 0 => x = .agg TB.toArray
  | 1 => x = .slice (some ⟨gs, 0, none⟩) 32 32
  | 2 => ∃ g, x = .slice (some ⟨g, 0, none⟩) 1 1 ∧ Parts w (some ⟨g, 0, none⟩) 1 [⟨some ⟨gs, 0, none⟩, 32, 32, s⟩]
  | 3 => x = .agg (cb Y).toArray
  | _ => True
theorem rhF_stab (TB : List Value) (gs : Nat) (s Y : List UInt8) : ∀ j x w w', Below w.heap.size w w' → rhF TB gs s Y j x w → rhF TB gs s Y j x w' := by
  intro j x w w' hb h
  unfold rhF at *
  split at h <;> first | exact h | (obtain ⟨g, e, hP⟩ := h; exact ⟨g, e, hP.step hb⟩) | trivial
def rsF (TB : List Value) (gs gp N : Nat) (TX R : List UInt8) (j : Nat) (x : Value) (w : World) : Prop :=
  match j with
  | 0 => x = .agg TB.toArray
  | 1 => x = .slice (some ⟨gs, 0, none⟩) 32 32
  | 2 => x = .slice (some ⟨gp, 0, none⟩) 3 3
  | 3 => ∃ A c, x = .slice A N c ∧ Sees w w.heap.size A (cb TX)
  | 4 => x = .agg (cb R).toArray
  | _ => True
theorem rsF_stab (TB : List Value) (gs gp N : Nat) (TX R : List UInt8) : ∀ j x w w', Below w.heap.size w w' → rsF TB gs gp N TX R j x w → rsF TB gs gp N TX R j x w' := by
  intro j x w w' hb h
  unfold rsF at *
  split at h <;> first | exact h | (obtain ⟨A, c, e, hS⟩ := h; exact ⟨A, c, e, hS.step hb⟩) | trivial

section
variable {w : World}
theorem rvarint_any (z : Int) (hz : z ≤ 9223372036854775807) : Calls Try.prog 117 #[.int .i64 z] w (Made8 w (nd z.toNat) (digs z.toNat)) := by
  by_cases h : z < 0
  · have e : z.toNat = 0 := by omega
    have hv := Varint_any 0 w (by omega)
    rw [← e] at hv
    rw [e] at hv ⊢
    go_enter Try.func117, Try.ntmps117
    go_wp2_with fail
    refine hv.mono ?_
    rintro e' w2 ⟨A2, c2, rfl, hF2, hB2⟩
    go_wp2_with fail
    go_ret
    exact ⟨A2, c2, rfl, hF2, hB2⟩
  · obtain ⟨x, rfl⟩ := Int.eq_ofNat_of_zero_le (by omega : 0 ≤ z)
    have hv := Varint_any x w (by omega)
    have hw : IntKind.u64.wrap (x : Int) = (x : Int) := by rw [IntKind.wrap_u64]; omega
    rw [show ((x : Nat) : Int).toNat = x from rfl]
    go_enter Try.func117, Try.ntmps117
    go_wp2_with fail
    refine hv.mono ?_
    rintro e' w2 ⟨A2, c2, rfl, hF2, hB2⟩
    go_wp2_with fail
    go_ret
    exact ⟨A2, c2, rfl, hF2, hB2⟩
set_option maxHeartbeats 2000000 in
set_option maxRecDepth 100000 in
theorem rHalf_any (first keys : List UInt32) (h8 : first.length = 8) (h64 : keys.length = 64) (s : List UInt8) (hs : s.length = 32) :
    Calls Try.prog 61 #[.agg (cw (first ++ keys)).toArray, .agg (cb s).toArray] w fun e w' => e = .returned (.agg (cb (halfF (Dg.tab first keys h8) s)).toArray) ∧ Below w.heap.size w w' := by
  have HC : Hid ((cw (first ++ keys)).length = 72) := Lib.hid (by simp [h8, h64])
  have H8 := Lib.hid h8
  have H64 := Lib.hid h64
  have HS := Lib.hid hs
  have HTL : Hid ((textF 2 [s]).length = 36) := Lib.hid (by unfold textF; simp [blob, hs]; decide)
  obtain ⟨Y, hY⟩ : ∃ Y, ofF first keys (textF 2 [s]) = Y := ⟨_, rfl⟩
  have hYe : halfF (Dg.tab first keys h8) s = Y := hY
  have HYL : Hid (Y.length = 32) := Lib.hid (by rw [← hY]; exact len_ofF _ _ _ h8)
  have HYC : Hid ((cb Y).length = 32) := Lib.hid (by rw [List.length_map]; exact HYL.out)
  have HY := Lib.hid hY
  rw [hYe]
  obtain ⟨TB, hTB⟩ : ∃ TB, cw (first ++ keys) = TB := ⟨_, rfl⟩
  have HTB := Lib.hid hTB
  rw [hTB] at HC ⊢
  clear h8 h64 hs hY hYe hTB
  go_enter Try.func61, Try.ntmps61
  go_upto_region 1 with (first
    | (with_reducible refine wpList_box (o := ⟨some 2, _, _, _, _, _⟩) rfl (.tmp 0) 26 rfl TB rfl 72 HC.out (by decide) ?_; intro gt w1 hgt hFt hBt)
    | (with_reducible refine wpList_box (o := ⟨some 3, _, _, _, _, _⟩) rfl (.tmp 1) 31 rfl (cb s) rfl 32 (by rw [List.length_map]; exact HS.out) (by decide) ?_; intro gs w2 hgs hFs hBs)
    | (with_reducible refine wpList_alloc (o := ⟨some 4, _, _, _, _, _⟩) rfl 32 rfl (cb (List.replicate 32 0)) (by kernel_rfl) 32 (len_zb 32) (by decide) ?_; intro gr w3 hgr hFr hBr))
  have z1 := hBt.size
  have z2 := hBs.size
  have hB := Below.then_ (Below.then_ hBt hBs) hBr
  have ft := (hFt.below hBs).below hBr
  have fs := hFs.below hBr
  have fr := hFr.lower (base' := w.heap.size) (by omega)
  have n5 : w.heap.size ≤ gr := by omega
  clear hFt hFs hFr hBt hBs hBr z1 z2 hgt hgs hgr
  refine region_all_tail 4 (rhF TB gs s Y) (by kernel_rfl) (by kernel_rfl) (by kernel_rfl) (rhF_stab _ _ _ _) ?_ ?_
  · intro w0 hb0
    simp only [List.take_succ_cons, List.take_zero]
    refine ⟨?_, ?_, ?_, ?_, trivial⟩
    all_goals intro listed a1 w' hk1 hd1
    · exact stepOk_value rfl (run_load_agg (.tmp 2) 26 rfl (hk1.ev_old 2 (by kernel_rfl)) TB 72 HC.out (by kernel_rfl) ((ft.below hb0).below hk1.below).sees) rfl
    · exact stepOk_value rfl (v := .slice (some ⟨gs, 0, none⟩) 32 32) (by have f6 : a1.eval (.tmp 3) = .pointer (some ⟨gs, 0, none⟩) := hk1.ev_old 3 (by kernel_rfl); have g6 : a1.tmps[3]?.getD undef = .pointer (some ⟨gs, 0, none⟩) := (by simpa [Act.eval] using f6); have hsl := sl31_at gs 0; go_simp) rfl
    · obtain ⟨y1, e1, q1, rfl⟩ := hk1.ev_new hd1 1 6 (by kernel_rfl) rfl
      refine stepOk_run rfl (v := .slice (some ⟨w'.heap.size, 0, none⟩) 1 1) (w' := w'.alloc (.cells #[.slice (some ⟨gs, 0, none⟩) 32 32] 27)) (by go_simp) ⟨_, rfl, parts_one31 w' _ rfl ((fs.below hb0).below hk1.below).sees HS.out⟩ (below_alloc _ _)
    · obtain ⟨y0, e0, q0, rfl⟩ := hk1.ev_new hd1 0 5 (by kernel_rfl) rfl
      obtain ⟨y2, e2, _, q2⟩ := hk1.ev_new hd1 2 7 (by kernel_rfl) rfl
      obtain ⟨g2, rfl, hP2⟩ := q2
      refine stepOk_enter rfl (f := 21) (args := #[.agg TB.toArray, .int .u8 2, .slice (some ⟨g2, 0, none⟩) 1 1]) (by go_simp) ?_
      have ho := rTagged_600 first keys 2 (some ⟨g2, 0, none⟩) 1 1 _ w' H8.out H64.out hP2 (by omega) (by intro p hp; simp at hp; subst hp; show 32 ≤ 1000; omega) (textF 2 [s]) rfl (by rw [HTL.out]; omega)
      rw [HY.out, HTB.out] at ho
      refine ho.mono ?_
      rintro e w5 ⟨rfl, hB5⟩
      exact ⟨_, rfl, rfl, hB5⟩
  · intro a1 w7 hb7 hp
    obtain ⟨x0, p0, x1, p1, x2, p2, x3, p3, rfl⟩ := hp
    simp only [rhF] at p0 p1 p3
    subst p0 p1 p3
    simp only [List.drop_succ_cons, List.drop_zero, Act.put, List.setIfInBounds_toArray, List.set_cons_succ, List.set_cons_zero]
    go_wp2_with (with_reducible refine wpList_store rfl rfl (.tmp 4) (.tmp 8) 32 rfl gr 0 w.heap.size 32 32 (cb (List.replicate 32 0)) (cb Y) rfl rfl 32 HYC.out (by kernel_rfl) (fr.below hb7) (by omega) (cb_one _) w (Below.then_ hB hb7) n5 ?_; intro w9 hF9 hB9 _ _)
    rw [splice_zb 32 Y HYL.out] at hF9
    exact bodyPost_cell rfl rfl (cb Y) 32 HYC.out (by kernel_rfl) hF9.sees rfl ⟨rfl, hB9⟩
set_option maxHeartbeats 2000000 in
set_option maxRecDepth 100000 in
theorem rSecret_any (first keys : List UInt32) (h8 : first.length = 8) (h64 : keys.length = 64) (seed : List UInt8) (hs : seed.length = 32) (leaf bit val : Int) (hl : leaf ≤ 9223372036854775807) (hb : bit ≤ 9223372036854775807) (hv : val ≤ 9223372036854775807) :
    Calls Try.prog 60 #[.agg (cw (first ++ keys)).toArray, .agg (cb seed).toArray, .int .i64 leaf, .int .i64 bit, .int .i64 val] w fun e w' => e = .returned (.agg (cb (secF (Dg.tab first keys h8) seed leaf.toNat bit.toNat val.toNat)).toArray) ∧ Below w.heap.size w w' := by
  have HC : Hid ((cw (first ++ keys)).length = 72) := Lib.hid (by simp [h8, h64])
  have H8 := Lib.hid h8
  have H64 := Lib.hid h64
  have HS := Lib.hid hs
  obtain ⟨TX, hTX⟩ : ∃ TX, textF 1 [digs leaf.toNat, digs bit.toNat, digs val.toNat] = TX := ⟨_, rfl⟩
  obtain ⟨N, hN⟩ : ∃ N, TX.length = N := ⟨_, rfl⟩
  have k1 := (nd_bd leaf.toNat).2
  have k2 := (nd_bd bit.toNat).2
  have k3 := (nd_bd val.toNat).2
  have hN2 : N ≤ 1000 := by
    have h1 := blobs_le3 [digs leaf.toNat, digs bit.toNat, digs val.toNat] (by
      intro l hl'
      simp at hl'
      rcases hl' with rfl | rfl | rfl <;> rw [len_digs] <;> omega)
    have h2 := nd_bd 3
    rw [← hN, ← hTX, textF, List.length_append, List.length_append, len_digs, show ([75, 1] : List UInt8).length = 2 from rfl, show ([digs leaf.toNat, digs bit.toNat, digs val.toNat] : List (List UInt8)).length = 3 from rfl]
    simp only [List.length_cons, List.length_nil] at h1
    omega
  obtain ⟨R, hR⟩ : ∃ R, macF first keys seed TX = R := ⟨_, rfl⟩
  have hRe : secF (Dg.tab first keys h8) seed leaf.toNat bit.toNat val.toNat = R := by rw [← hR, ← hTX]; rfl
  have HRL : Hid (R.length = 32) := Lib.hid (by rw [← hR]; exact len_ofF _ _ _ h8)
  have HRC : Hid ((cb R).length = 32) := Lib.hid (by rw [List.length_map]; exact HRL.out)
  have HR := Lib.hid hR
  have HTX := Lib.hid hTX
  have HN := Lib.hid hN
  rw [hRe]
  obtain ⟨TB, hTB⟩ : ∃ TB, cw (first ++ keys) = TB := ⟨_, rfl⟩
  have HTB := Lib.hid hTB
  rw [hTB] at HC ⊢
  have hv1 := fun w' => rvarint_any (w := w') leaf hl
  have hv2 := fun w' => rvarint_any (w := w') bit hb
  have hv3 := fun w' => rvarint_any (w := w') val hv
  clear h8 h64 hs hR hRe hTX hN hTB
  go_enter Try.func60, Try.ntmps60
  go_upto_region 1 with (first
    | (with_reducible refine wpList_box (o := ⟨some 5, _, _, _, _, _⟩) rfl (.tmp 0) 26 rfl TB rfl 72 HC.out (by decide) ?_; intro gt w1 hgt hFt hBt)
    | (with_reducible refine wpList_box (o := ⟨some 6, _, _, _, _, _⟩) rfl (.tmp 1) 31 rfl (cb seed) rfl 32 (by rw [List.length_map]; exact HS.out) (by decide) ?_; intro gs w2 hgs hFs hBs)
    | (with_reducible refine wpList_alloc (o := ⟨some 10, _, _, _, _, _⟩) rfl 31 rfl (cb (List.replicate 32 0)) (by kernel_rfl) 32 (len_zb 32) (by decide) ?_; intro gr w3 hgr hFr hBr))
  have z1 := hBt.size
  have z2 := hBs.size
  have hB3 := Below.then_ (Below.then_ hBt hBs) hBr
  have ft3 := (hFt.below hBs).below hBr
  have fs3 := hFs.below hBr
  have fr3 := hFr.lower (base' := w.heap.size) (by omega)
  have n5 : w.heap.size ≤ gr := by omega
  clear hFt hFs hFr hBt hBs hBr z1 z2 hgt hgs hgr
  go_wp2_with fail
  refine (hv1 _).mono ?_
  rintro e w4 ⟨A1, c1, rfl, hF4, hB4⟩
  go_wp2_with fail
  refine (hv2 _).mono ?_
  rintro e w5 ⟨A2, c2, rfl, hF5, hB5⟩
  go_wp2_with fail
  refine (hv3 _).mono ?_
  rintro e w6 ⟨A3, c3, rfl, hF6, hB6⟩
  have hba := below_alloc w6 (.cells #[.slice A1 (nd leaf.toNat) c1, .slice A2 (nd bit.toNat) c2, .slice A3 (nd val.toNat) c3] 27)
  have hB7 := Below.then_ (Below.then_ (Below.then_ hB3 hB4) hB5) hB6
  have hP : Parts (w6.alloc (.cells #[.slice A1 (nd leaf.toNat) c1, .slice A2 (nd bit.toNat) c2, .slice A3 (nd val.toNat) c3] 27)) (some ⟨w6.heap.size, 0, none⟩) 3 [⟨A1, nd leaf.toNat, c1, digs leaf.toNat⟩, ⟨A2, nd bit.toNat, c2, digs bit.toNat⟩, ⟨A3, nd val.toNat, c3, digs val.toNat⟩] := by
    refine ⟨sees_new w6 _ _ _ rfl, rfl, fun p hp => ?_⟩
    simp at hp
    rcases hp with rfl | rfl | rfl
    · exact ⟨((((hF4.below hB5).below hB6).below hba)).sees, len_digs _, hF4.cap.1⟩
    · exact ⟨((hF5.below hB6).below hba).sees, len_digs _, hF5.cap.1⟩
    · exact ⟨(hF6.below hba).sees, len_digs _, hF6.cap.1⟩
  have ft := (((ft3.below hB4).below hB5).below hB6).below hba
  have fs := (((fs3.below hB4).below hB5).below hB6).below hba
  have fr := (((fr3.below hB4).below hB5).below hB6).below hba
  have hB := Below.then_ hB7 hba
  obtain ⟨gp, hgp⟩ : ∃ gp, w6.heap.size = gp := ⟨_, rfl⟩
  clear ft3 fs3 fr3 hB3 hB4 hB5 hB6 hB7 hF4 hF5 hF6 hv1 hv2 hv3
  go_wp2_with fail
  revert hba hP ft fs fr hB
  generalize w6.alloc (.cells #[.slice A1 (nd leaf.toNat) c1, .slice A2 (nd bit.toNat) c2, .slice A3 (nd val.toNat) c3] 27) = w8
  intro hba hP ft fs fr hB
  rw [hgp] at hP
  clear hba hgp
  refine region_all_tail 5 (rsF TB gs gp N TX R) (by kernel_rfl) (by kernel_rfl) (by kernel_rfl) (rsF_stab _ _ _ _ _ _) ?_ ?_
  · intro w0 hb0
    simp only [List.take_succ_cons, List.take_zero]
    refine ⟨?_, ?_, ?_, ?_, ?_, trivial⟩
    all_goals intro listed a1 w' hk1 hd1
    · exact stepOk_value rfl (run_load_agg (.tmp 5) 26 rfl (hk1.ev_old 5 (by kernel_rfl)) TB 72 HC.out (by kernel_rfl) ((ft.below hb0).below hk1.below).sees) rfl
    · exact stepOk_value rfl (v := .slice (some ⟨gs, 0, none⟩) 32 32) (by have f6 : a1.eval (.tmp 6) = .pointer (some ⟨gs, 0, none⟩) := hk1.ev_old 6 (by kernel_rfl); have g6 : a1.tmps[6]?.getD undef = .pointer (some ⟨gs, 0, none⟩) := (by simpa [Act.eval] using f6); have hsl := sl31_at gs 0; go_simp) rfl
    · have f11_ : a1.eval (.tmp 11) = .slice (some ⟨gp, 0, none⟩) 3 3 := hk1.ev_old 11 (by kernel_rfl)
      have g11_ : a1.tmps[11]?.getD undef = .slice (some ⟨gp, 0, none⟩) 3 3 := by simpa [Act.eval] using f11_
      exact stepOk_value rfl (v := .slice (some ⟨gp, 0, none⟩) 3 3) (by go_simp) rfl
    · obtain ⟨y2, e2, q2, rfl⟩ := hk1.ev_new hd1 2 21 (by kernel_rfl) rfl
      refine stepOk_enter rfl (f := 19) (args := #[.int .u8 1, .slice (some ⟨gp, 0, none⟩) 3 3]) (by go_simp) ?_
      have ho := rText_600 1 (some ⟨gp, 0, none⟩) 3 3 _ w' ((hP.step hb0).step hk1.below) (by omega) (by intro p hp; simp at hp; rcases hp with rfl | rfl | rfl <;> (show nd _ ≤ 1000; omega))
      rw [show ([⟨A1, nd leaf.toNat, c1, digs leaf.toNat⟩, ⟨A2, nd bit.toNat, c2, digs bit.toNat⟩, ⟨A3, nd val.toNat, c3, digs val.toNat⟩] : List Pb).map Pb.l = [digs leaf.toNat, digs bit.toNat, digs val.toNat] from rfl, HTX.out, HN.out] at ho
      refine ho.mono ?_
      rintro e w5 ⟨A5, c5, rfl, hF5, hB5⟩
      exact ⟨_, rfl, ⟨A5, c5, rfl, hF5.sees⟩, hB5⟩
    · obtain ⟨y0, e0, q0, rfl⟩ := hk1.ev_new hd1 0 19 (by kernel_rfl) rfl
      obtain ⟨y1, e1, q1, rfl⟩ := hk1.ev_new hd1 1 20 (by kernel_rfl) rfl
      obtain ⟨y3, e3, _, q3⟩ := hk1.ev_new hd1 3 22 (by kernel_rfl) rfl
      obtain ⟨A5, c5, rfl, hS5⟩ := q3
      refine stepOk_enter rfl (f := 16) (args := #[.agg TB.toArray, .slice (some ⟨gs, 0, none⟩) 32 32, .slice A5 N c5]) (by go_simp) ?_
      have ho := rMac_any (w := w') first keys (some ⟨gs, 0, none⟩) A5 32 32 N c5 seed TX H8.out H64.out ((fs.below hb0).below hk1.below).sees HS.out (by omega) hS5 HN.out (by omega)
      rw [HR.out, HTB.out] at ho
      refine ho.mono ?_
      rintro e w5 ⟨rfl, hB5⟩
      exact ⟨_, rfl, rfl, hB5⟩
  · intro a1 w9 hb9 hp
    obtain ⟨x0, p0, x1, p1, x2, p2, x3, p3, x4, p4, rfl⟩ := hp
    simp only [rsF] at p0 p1 p2 p4
    subst p0 p1 p2 p4
    simp only [List.drop_succ_cons, List.drop_zero, Act.put, List.setIfInBounds_toArray, List.set_cons_succ, List.set_cons_zero]
    go_wp2_with (with_reducible refine wpList_store rfl rfl (.tmp 10) (.tmp 23) 31 rfl gr 0 w.heap.size 31 32 (cb (List.replicate 32 0)) (cb R) rfl rfl 32 HRC.out (by kernel_rfl) (fr.below hb9) (by omega) (cb_one _) w (Below.then_ hB hb9) n5 ?_; intro w10 hF10 hB10 _ _)
    rw [splice_zb 32 R HRL.out] at hF10
    exact bodyPost_cell rfl rfl (cb R) 32 HRC.out (by kernel_rfl) hF10.sees rfl ⟨rfl, hB10⟩
end
end Go.Proofs.Ytehokoeajinboaa
