/-
  The document's own texts and tagged digests of up to 600 parts (layer 3), by value.
-/
import Derived.Test.YtcfjbllmaejiaaaBehind
import Derived.Test.YtcfjbllmaejiaaaTextF
import Derived.Test.YtcfjbllmaejiaaaPb
import Derived.Test.YtcfjbllmaejiaaaShaLeaf
import Derived.Test.YtcfjbllmaejiaaaRefSum
import Derived.Test.YtcfjbllmaejiaaaShaDig
namespace Go.Proofs.Ytcfjbllmaejiaaa
open Go.RowKit
set_option linter.unusedVariables false

set_option maxRecDepth 100000 in
set_option maxHeartbeats 1000000 in
theorem rBlob_any (A B : Option Addr) (c d n m : Nat) (l b : List UInt8) (w : World) (hs : Sees w w.heap.size A (cb l)) (ht : Sees w w.heap.size B (cb b)) (hl : l.length = n) (hm : b.length = m) (hn : n ≤ 1000000) (hb : m ≤ 1000000) :
    Calls Try.prog 144 #[.slice A n c, .slice B m d] w (Made8 w (n + (nd m + m)) (l ++ blob b)) := by
  have HL := Lib.hid hl
  have HM := Lib.hid hm
  have hd := (nd_bd m).2
  clear hl hm
  go_enter Try.func144, Try.ntmps144
  go_wp2_with fail
  refine (Varint_any m w (by omega)).mono ?_
  rintro e w1 ⟨A1, c1, rfl, hF1, hB1⟩
  go_wp2_with fail
  refine (behind_any A A1 c c1 n (nd m) l (digs m) w1 (hs.step hB1) hF1.sees HL.out (len_digs m) (by omega) (by omega)).mono ?_
  rintro e w2 ⟨A2, c2, rfl, hF2, hB2⟩
  have hB12 := Below.then_ hB1 hB2
  go_wp2_with fail
  refine (behind_any A2 B c2 d (n + nd m) m (l ++ digs m) b w2 hF2.sees (ht.step hB12) (by rw [List.length_append, HL.out, len_digs]) HM.out (by omega) (by omega)).mono ?_
  rintro e w3 ⟨A3, c3, rfl, hF3, hB3⟩
  go_wp2
  go_ret
  refine ⟨A3, c3, by rw [Nat.add_assoc]; rfl, ?_, Below.then_ hB12 hB3⟩
  rw [blob, HM.out, ← List.append_assoc, ← Nat.add_assoc]
  exact hF3.lower hB12.size
end Go.Proofs.Ytcfjbllmaejiaaa

namespace Go.Proofs.Ytcfjbllmaejiaaa
open Go.RowKit
set_option linter.unusedVariables false

theorem blob_len (l : List UInt8) : (blob l).length = nd l.length + l.length := by rw [blob, List.length_append, len_digs]
theorem blobs_le_ (k : Nat) : ∀ (ls : List (List UInt8)), (∀ l ∈ ls, l.length ≤ k) → (ls.flatMap blob).length ≤ (k + 10) * ls.length
  | [], _ => by simp
  | l :: ls, h => by
    have h1 := h l List.mem_cons_self
    have h0 := (nd_bd l.length).2
    have h2 := blobs_le_ k ls (fun x hx => h x (List.mem_cons_of_mem _ hx))
    rw [List.flatMap_cons, List.length_append, List.length_cons, blob_len, Nat.mul_succ]
    omega
set_option maxHeartbeats 1000000 in
set_option maxRecDepth 100000 in
theorem rText_any (tag : UInt8) (A : Option Addr) (n c : Nat) (ps : List Pb) (w : World) (hp : Parts w A n ps) (hn : n ≤ 7) (hm : ∀ p ∈ ps, p.m ≤ 1000) :
    Calls Try.prog 122 #[.int .u8 (tag.toNat : Int), .slice A n c] w (Made8 w (textF tag (ps.map Pb.l)).length (textF tag (ps.map Pb.l))) := by
  have HP := Lib.hid hp
  have HM := Lib.hid hm
  have hdn := (nd_bd n).2
  clear hp hm
  go_enter Try.func122, Try.ntmps122
  go_wp2_with fail
  have hF0 : Fresh w.heap.size 5 (w.alloc (Obj.cells #[Value.int IntKind.u8 75, Value.int IntKind.u8 (tag.toNat : Int)] 5)) (some ⟨w.heap.size, 0, none⟩) 2 2 (cb [75, tag]) := Fresh.new w 5 (cb [75, tag]) 2 rfl (by decide)
  have hB0 := below_alloc w (Obj.cells #[Value.int IntKind.u8 75, Value.int IntKind.u8 (tag.toNat : Int)] 5)
  revert hF0 hB0
  generalize w.alloc (Obj.cells #[Value.int IntKind.u8 75, Value.int IntKind.u8 (tag.toNat : Int)] 5) = w1
  intro hF0 hB0
  refine (Varint_any n w1 (by omega)).mono ?_
  rintro e w2 ⟨A2, c2, rfl, hF2, hB2⟩
  go_wp2_with (at_builtin; refine wpList_app8 rfl (.tmp 8) (.tmp 12) rfl (some ⟨w.heap.size, 0, none⟩) A2 2 2 (nd n) c2 [75, tag] (digs n) w rfl rfl (hF0.below hB2) hF2.sees (len_digs n) (by omega) (Below.then_ hB0 hB2) ?_; intro A3 c3 w3 hF3 hB3)
  have hlen := HP.out.len
  have htx : textF tag (ps.map Pb.l) = [75, tag] ++ digs n ++ (ps.map Pb.l).flatMap blob := by unfold textF; rw [List.length_map, hlen]
  have HTX := Lib.hid htx
  have HLEN := Lib.hid hlen
  clear htx hlen hF0 hB0 hF2 hB2
  go_loopw [5, 6] (fun v iv wr => ∃ (j k : Nat) (A4 : Option Addr) (c4 : Nat) (cur : List UInt8), j ≤ n ∧ iv = .int .i64 (j : Int) ∧ v = .slice A4 k c4 ∧ Hid (cur.length = k) ∧ Hid (cur = [75, tag] ++ digs n ++ ((ps.map Pb.l).take j).flatMap blob) ∧ k ≤ 12 + 1010 * j ∧ Fresh w.heap.size 5 wr A4 k c4 (cb cur) ∧ Below w.heap.size w wr) (fun _ iv _ => n - (intOf iv).toNat)
  case atStart => exact ⟨0, _, A3, c3, [75, tag] ++ digs n, by omega, rfl, rfl, Lib.hid (by rw [List.length_append, len_digs]; rfl), Lib.hid (by simp), by omega, hF3, hB3⟩
  case round =>
    obtain ⟨j, k, A4, c4, cur, hj, rfl, rfl, hk, hcur, hkl, hF4, hB4⟩ := hrel
    clear hF3 hB3
    by_cases hlt : j < n
    · have HLT := Lib.hid hlt
      obtain ⟨g, o, rfl, p, HK, hpo, hcell⟩ := (HP.out.step hB4).at_ hlt
      have hp1 := hpo.sees
      have HP2 := Lib.hid hpo.len
      have HPM := Lib.hid (HM.out p (List.mem_of_getElem? HK.out))
      have hnx : ((ps.map Pb.l).take (j + 1)).flatMap blob = ((ps.map Pb.l).take j).flatMap blob ++ blob p.l := by
        rw [List.take_add_one, List.getElem?_map, HK.out]
        simp
      have HNX := Lib.hid hnx
      obtain ⟨Ap, mp, cp, lp⟩ := p
      simp only at hp1 HP2 HPM hcell HNX
      have hdm := (nd_bd mp).2
      clear hnx hpo
      go_wp2_with fail
      refine (rBlob_any A4 Ap c4 cp k mp cur lp wr hF4.sees hp1 hk.out HP2.out (by omega) (by have := HPM.out; omega)).mono ?_
      rintro e w5 ⟨A5, c5, rfl, hF5, hB5⟩
      go_wp2_with fail
      go_roundw
      case rel => exact ⟨j + 1, _, A5, c5, cur ++ blob lp, (by have := HLT.out; omega), by go_num, rfl, Lib.hid (by rw [List.length_append, hk.out, blob_len, HP2.out]), Lib.hid (by rw [HNX.out, hcur.out]; simp only [List.append_assoc]), (by have := HPM.out; omega), hF5.lower hB4.size, Below.then_ hB4 hB5⟩
      case measure => (have := HLT.out); simp [intOf]; omega
    · obtain rfl : j = n := by omega
      have hc : cur = textF tag (ps.map Pb.l) := by rw [HTX.out, hcur.out, List.take_of_length_le (by rw [List.length_map, HLEN.out]; exact Nat.le_refl _)]
      have HC := Lib.hid hc
      clear hc
      go_wp2_with fail
      go_ret
      exact ⟨A4, c4, (by rw [← HC.out, hk.out]; rfl), by rw [← HC.out, hk.out]; exact hF4, hB4⟩
def rtgFacts (tab : List Value) (tag : Value) (A : Option Addr) (n c : Nat) (tx dg : List UInt8) (k : Nat) (v : Value) (w : World) : Prop :=
  match k with
  | 0 => v = .agg tab.toArray
  | 1 => v = tag
  | 2 => v = .slice A n c
  | 3 => ∃ B d, v = .slice B tx.length d ∧ Sees w w.heap.size B (cb tx)
  | 4 => v = .agg (cb dg).toArray
  | _ => True
theorem rtgFacts_stab (tab : List Value) (tag : Value) (A : Option Addr) (n c : Nat) (tx dg : List UInt8) : ∀ k v w w', Below w.heap.size w w' → rtgFacts tab tag A n c tx dg k v w → rtgFacts tab tag A n c tx dg k v w' := fun k v w w' hb h =>
  match k, h with
  | 0, h => h
  | 1, h => h
  | 2, h => h
  | 3, ⟨B, d, e, h⟩ => ⟨B, d, e, h.step hb⟩
  | 4, h => h
  | _ + 5, _ => trivial
set_option maxHeartbeats 1000000 in
set_option maxRecDepth 100000 in
theorem rTagged_any (first keys : List UInt32) (tag : UInt8) (A : Option Addr) (n c : Nat) (ps : List Pb) (w : World) (h1 : first.length = 8) (h2 : keys.length = 64) (hp : Parts w A n ps) (hn : n ≤ 7) (hm : ∀ p ∈ ps, p.m ≤ 1000) (tx : List UInt8) (htx : textF tag (ps.map Pb.l) = tx) (hl : tx.length ≤ 1000000000000) :
    Calls Try.prog 92 #[.agg (cw (first ++ keys)).toArray, .int .u8 (tag.toNat : Int), .slice A n c] w fun e w' => e = .returned (.agg (cb (ofF first keys tx)).toArray) ∧ Below w.heap.size w w' := by
  have HP := Lib.hid hp
  have HM := Lib.hid hm
  have H1 := Lib.hid h1
  have H2 := Lib.hid h2
  have HTX := Lib.hid htx
  have HK : Hid ((cw (first ++ keys)).length = 72) := Lib.hid (by simp [h1, h2])
  obtain ⟨dg, hdg⟩ : ∃ dg, ofF first keys tx = dg := ⟨_, rfl⟩
  have HDG := Lib.hid hdg
  have HL : Hid (dg.length = 32) := Lib.hid (by rw [← hdg]; exact len_ofF _ _ _ h1)
  rw [hdg]
  clear hp hm h1 h2 htx hdg
  go_enter Try.func92, Try.ntmps92
  go_wp2_with (first
    | (with_reducible refine wpList_box (o := ⟨some 3, _, _, _, _, _⟩) rfl (.tmp 0) 79 rfl (cw (first ++ keys)) rfl 72 HK.out (by decide) ?_; intro gt w1 hgt hFt hBt; have z1 := hBt.size)
    | (with_reducible refine wpList_alloc (o := ⟨some 6, _, _, _, _, _⟩) rfl 84 rfl (cb (List.replicate 32 0)) (by kernel_rfl) 32 (by simp) (by decide) ?_; intro gr w2 hgr hFr hBr; have z2 := hBr.size))
  have hT2 := hFt.below hBr
  have hR2 := hFr.lower (base' := w.heap.size) (by omega)
  have hB02 := Below.then_ hBt hBr
  clear hFt hFr hBt hBr
  refine region_all_tail 5 (rtgFacts (cw (first ++ keys)) (.int .u8 (tag.toNat : Int)) A n c tx dg) (by kernel_rfl) (by kernel_rfl) (by kernel_rfl) (rtgFacts_stab _ _ _ _ _ _ _) ?_ ?_
  · intro w0 hb0
    simp only [List.take_succ_cons, List.take_zero]
    refine ⟨?_, ?_, ?_, ?_, ?_, trivial⟩
    all_goals intro listed a1 w' hk hd
    · have f2 : a1.eval (.tmp 3) = .pointer (some ⟨gt, 0, none⟩) := hk.ev_old 3 (by kernel_rfl)
      exact stepOk_value rfl (run_load_agg (.tmp 3) 79 rfl f2 (cw (first ++ keys)) 72 HK.out (by kernel_rfl) ((hT2.below hb0).below hk.below).sees) rfl
    · have f1_ : a1.eval (.tmp 1) = .int .u8 (tag.toNat : Int) := hk.ev_old 1 (by kernel_rfl)
      have g1_ : a1.tmps[1]?.getD undef = .int .u8 (tag.toNat : Int) := by simpa [Act.eval] using f1_
      exact stepOk_value rfl (v := .int .u8 (tag.toNat : Int)) (by go_simp) rfl
    · have f2_ : a1.eval (.tmp 2) = .slice A n c := hk.ev_old 2 (by kernel_rfl)
      have g2_ : a1.tmps[2]?.getD undef = .slice A n c := by simpa [Act.eval] using f2_
      exact stepOk_value rfl (v := .slice A n c) (by go_simp) rfl
    · obtain ⟨v1, e1, q1, rfl⟩ := hk.ev_new hd 1 8 (by kernel_rfl) rfl
      obtain ⟨v2, e2, q2, rfl⟩ := hk.ev_new hd 2 9 (by kernel_rfl) rfl
      refine stepOk_enter rfl (f := 122) (args := #[.int .u8 (tag.toNat : Int), .slice A n c]) (by go_simp) ?_
      refine (rText_any tag A n c ps _ (((HP.out.step hB02).step hb0).step hk.below) hn HM.out).mono ?_
      rintro e w5 ⟨A5, c5, rfl, hF5, hB5⟩
      rw [HTX.out] at hF5 ⊢
      exact ⟨_, rfl, ⟨A5, c5, rfl, hF5.sees⟩, hB5⟩
    · obtain ⟨v0, e0, q0, rfl⟩ := hk.ev_new hd 0 7 (by kernel_rfl) rfl
      obtain ⟨v3, e3, q3, B3, d3, rfl, hS3⟩ := hk.ev_new hd 3 10 (by kernel_rfl) rfl
      refine stepOk_enter rfl (f := 121) (args := #[.agg (cw (first ++ keys)).toArray, .slice B3 tx.length d3]) (by go_simp) ?_
      refine (rOf_any first keys B3 tx.length d3 tx _ H1.out H2.out hS3 rfl hl).mono ?_
      rintro e w5 ⟨rfl, hB5⟩
      exact ⟨_, rfl, (by rw [HDG.out]; rfl), hB5⟩
  · intro a1 w3 hbw hp
    obtain ⟨v0, p0, v1, p1, v2, p2, v3, p3, v4, p4, rfl⟩ := hp
    simp only [rtgFacts] at p0 p1 p2 p3 p4
    obtain ⟨B, d, rfl, -⟩ := p3
    subst p0 p1 p2 p4
    simp only [List.drop_succ_cons, List.drop_zero, Act.put, List.setIfInBounds_toArray, List.set_cons_succ, List.set_cons_zero]
    have hR3 := hR2.below hbw
    have hB03 := Below.then_ hB02 hbw
    go_wp2_with (with_reducible refine wpList_store rfl rfl (.tmp 6) (.tmp 11) 84 rfl gr 0 w.heap.size 84 32 (cb (List.replicate 32 0)) (cb dg) rfl rfl 32 (by rw [List.length_map]; exact HL.out) (by kernel_rfl) hR3 (by omega) (cb_one _) w hB03 (by omega) ?_; intro w9 hF9 hB9 _ _)
    have e : splice (cb (List.replicate 32 0)) 0 (cb dg) = cb dg := by
      have := HL.out
      simp [splice, this]
    rw [e] at hF9
    exact bodyPost_cell rfl rfl (cb dg) 32 (by rw [List.length_map]; exact HL.out) (by kernel_rfl) hF9.sees rfl ⟨rfl, hB9⟩
end Go.Proofs.Ytcfjbllmaejiaaa

namespace Go.Proofs.Ytcfjbllmaejiaaa
open Go.RowKit
set_option linter.unusedVariables false

set_option maxHeartbeats 1000000 in
set_option maxRecDepth 100000 in
theorem rText_600 (tag : UInt8) (A : Option Addr) (n c : Nat) (ps : List Pb) (w : World) (hp : Parts w A n ps) (hn : n ≤ 600) (hm : ∀ p ∈ ps, p.m ≤ 1000) :
    Calls Try.prog 122 #[.int .u8 (tag.toNat : Int), .slice A n c] w (Made8 w (textF tag (ps.map Pb.l)).length (textF tag (ps.map Pb.l))) := by
  have HP := Lib.hid hp
  have HM := Lib.hid hm
  have hdn := (nd_bd n).2
  clear hp hm
  go_enter Try.func122, Try.ntmps122
  go_wp2_with fail
  have hF0 : Fresh w.heap.size 5 (w.alloc (Obj.cells #[Value.int IntKind.u8 75, Value.int IntKind.u8 (tag.toNat : Int)] 5)) (some ⟨w.heap.size, 0, none⟩) 2 2 (cb [75, tag]) := Fresh.new w 5 (cb [75, tag]) 2 rfl (by decide)
  have hB0 := below_alloc w (Obj.cells #[Value.int IntKind.u8 75, Value.int IntKind.u8 (tag.toNat : Int)] 5)
  revert hF0 hB0
  generalize w.alloc (Obj.cells #[Value.int IntKind.u8 75, Value.int IntKind.u8 (tag.toNat : Int)] 5) = w1
  intro hF0 hB0
  refine (Varint_any n w1 (by omega)).mono ?_
  rintro e w2 ⟨A2, c2, rfl, hF2, hB2⟩
  go_wp2_with (at_builtin; refine wpList_app8 rfl (.tmp 8) (.tmp 12) rfl (some ⟨w.heap.size, 0, none⟩) A2 2 2 (nd n) c2 [75, tag] (digs n) w rfl rfl (hF0.below hB2) hF2.sees (len_digs n) (by omega) (Below.then_ hB0 hB2) ?_; intro A3 c3 w3 hF3 hB3)
  have hlen := HP.out.len
  have htx : textF tag (ps.map Pb.l) = [75, tag] ++ digs n ++ (ps.map Pb.l).flatMap blob := by unfold textF; rw [List.length_map, hlen]
  have HTX := Lib.hid htx
  have HLEN := Lib.hid hlen
  clear htx hlen hF0 hB0 hF2 hB2
  go_loopw [5, 6] (fun v iv wr => ∃ (j k : Nat) (A4 : Option Addr) (c4 : Nat) (cur : List UInt8), j ≤ n ∧ iv = .int .i64 (j : Int) ∧ v = .slice A4 k c4 ∧ Hid (cur.length = k) ∧ Hid (cur = [75, tag] ++ digs n ++ ((ps.map Pb.l).take j).flatMap blob) ∧ k ≤ 12 + 1010 * j ∧ Fresh w.heap.size 5 wr A4 k c4 (cb cur) ∧ Below w.heap.size w wr) (fun _ iv _ => n - (intOf iv).toNat)
  case atStart => exact ⟨0, _, A3, c3, [75, tag] ++ digs n, by omega, rfl, rfl, Lib.hid (by rw [List.length_append, len_digs]; rfl), Lib.hid (by simp), by omega, hF3, hB3⟩
  case round =>
    obtain ⟨j, k, A4, c4, cur, hj, rfl, rfl, hk, hcur, hkl, hF4, hB4⟩ := hrel
    clear hF3 hB3
    by_cases hlt : j < n
    · have HLT := Lib.hid hlt
      obtain ⟨g, o, rfl, p, HK, hpo, hcell⟩ := (HP.out.step hB4).at_ hlt
      have hp1 := hpo.sees
      have HP2 := Lib.hid hpo.len
      have HPM := Lib.hid (HM.out p (List.mem_of_getElem? HK.out))
      have hnx : ((ps.map Pb.l).take (j + 1)).flatMap blob = ((ps.map Pb.l).take j).flatMap blob ++ blob p.l := by
        rw [List.take_add_one, List.getElem?_map, HK.out]
        simp
      have HNX := Lib.hid hnx
      obtain ⟨Ap, mp, cp, lp⟩ := p
      simp only at hp1 HP2 HPM hcell HNX
      have hdm := (nd_bd mp).2
      clear hnx hpo
      go_wp2_with fail
      refine (rBlob_any A4 Ap c4 cp k mp cur lp wr hF4.sees hp1 hk.out HP2.out (by omega) (by have := HPM.out; omega)).mono ?_
      rintro e w5 ⟨A5, c5, rfl, hF5, hB5⟩
      go_wp2_with fail
      go_roundw
      case rel => exact ⟨j + 1, _, A5, c5, cur ++ blob lp, (by have := HLT.out; omega), by go_num, rfl, Lib.hid (by rw [List.length_append, hk.out, blob_len, HP2.out]), Lib.hid (by rw [HNX.out, hcur.out]; simp only [List.append_assoc]), (by have := HPM.out; omega), hF5.lower hB4.size, Below.then_ hB4 hB5⟩
      case measure => (have := HLT.out); simp [intOf]; omega
    · obtain rfl : j = n := by omega
      have hc : cur = textF tag (ps.map Pb.l) := by rw [HTX.out, hcur.out, List.take_of_length_le (by rw [List.length_map, HLEN.out]; exact Nat.le_refl _)]
      have HC := Lib.hid hc
      clear hc
      go_wp2_with fail
      go_ret
      exact ⟨A4, c4, (by rw [← HC.out, hk.out]; rfl), by rw [← HC.out, hk.out]; exact hF4, hB4⟩
set_option maxHeartbeats 1000000 in
set_option maxRecDepth 100000 in
theorem rTagged_600 (first keys : List UInt32) (tag : UInt8) (A : Option Addr) (n c : Nat) (ps : List Pb) (w : World) (h1 : first.length = 8) (h2 : keys.length = 64) (hp : Parts w A n ps) (hn : n ≤ 600) (hm : ∀ p ∈ ps, p.m ≤ 1000) (tx : List UInt8) (htx : textF tag (ps.map Pb.l) = tx) (hl : tx.length ≤ 1000000000000) :
    Calls Try.prog 92 #[.agg (cw (first ++ keys)).toArray, .int .u8 (tag.toNat : Int), .slice A n c] w fun e w' => e = .returned (.agg (cb (ofF first keys tx)).toArray) ∧ Below w.heap.size w w' := by
  have HP := Lib.hid hp
  have HM := Lib.hid hm
  have H1 := Lib.hid h1
  have H2 := Lib.hid h2
  have HTX := Lib.hid htx
  have HK : Hid ((cw (first ++ keys)).length = 72) := Lib.hid (by simp [h1, h2])
  obtain ⟨dg, hdg⟩ : ∃ dg, ofF first keys tx = dg := ⟨_, rfl⟩
  have HDG := Lib.hid hdg
  have HL : Hid (dg.length = 32) := Lib.hid (by rw [← hdg]; exact len_ofF _ _ _ h1)
  rw [hdg]
  clear hp hm h1 h2 htx hdg
  go_enter Try.func92, Try.ntmps92
  go_wp2_with (first
    | (with_reducible refine wpList_box (o := ⟨some 3, _, _, _, _, _⟩) rfl (.tmp 0) 79 rfl (cw (first ++ keys)) rfl 72 HK.out (by decide) ?_; intro gt w1 hgt hFt hBt; have z1 := hBt.size)
    | (with_reducible refine wpList_alloc (o := ⟨some 6, _, _, _, _, _⟩) rfl 84 rfl (cb (List.replicate 32 0)) (by kernel_rfl) 32 (by simp) (by decide) ?_; intro gr w2 hgr hFr hBr; have z2 := hBr.size))
  have hT2 := hFt.below hBr
  have hR2 := hFr.lower (base' := w.heap.size) (by omega)
  have hB02 := Below.then_ hBt hBr
  clear hFt hFr hBt hBr
  refine region_all_tail 5 (rtgFacts (cw (first ++ keys)) (.int .u8 (tag.toNat : Int)) A n c tx dg) (by kernel_rfl) (by kernel_rfl) (by kernel_rfl) (rtgFacts_stab _ _ _ _ _ _ _) ?_ ?_
  · intro w0 hb0
    simp only [List.take_succ_cons, List.take_zero]
    refine ⟨?_, ?_, ?_, ?_, ?_, trivial⟩
    all_goals intro listed a1 w' hk hd
    · have f2 : a1.eval (.tmp 3) = .pointer (some ⟨gt, 0, none⟩) := hk.ev_old 3 (by kernel_rfl)
      exact stepOk_value rfl (run_load_agg (.tmp 3) 79 rfl f2 (cw (first ++ keys)) 72 HK.out (by kernel_rfl) ((hT2.below hb0).below hk.below).sees) rfl
    · have f1_ : a1.eval (.tmp 1) = .int .u8 (tag.toNat : Int) := hk.ev_old 1 (by kernel_rfl)
      have g1_ : a1.tmps[1]?.getD undef = .int .u8 (tag.toNat : Int) := by simpa [Act.eval] using f1_
      exact stepOk_value rfl (v := .int .u8 (tag.toNat : Int)) (by go_simp) rfl
    · have f2_ : a1.eval (.tmp 2) = .slice A n c := hk.ev_old 2 (by kernel_rfl)
      have g2_ : a1.tmps[2]?.getD undef = .slice A n c := by simpa [Act.eval] using f2_
      exact stepOk_value rfl (v := .slice A n c) (by go_simp) rfl
    · obtain ⟨v1, e1, q1, rfl⟩ := hk.ev_new hd 1 8 (by kernel_rfl) rfl
      obtain ⟨v2, e2, q2, rfl⟩ := hk.ev_new hd 2 9 (by kernel_rfl) rfl
      refine stepOk_enter rfl (f := 122) (args := #[.int .u8 (tag.toNat : Int), .slice A n c]) (by go_simp) ?_
      refine (rText_600 tag A n c ps _ (((HP.out.step hB02).step hb0).step hk.below) hn HM.out).mono ?_
      rintro e w5 ⟨A5, c5, rfl, hF5, hB5⟩
      rw [HTX.out] at hF5 ⊢
      exact ⟨_, rfl, ⟨A5, c5, rfl, hF5.sees⟩, hB5⟩
    · obtain ⟨v0, e0, q0, rfl⟩ := hk.ev_new hd 0 7 (by kernel_rfl) rfl
      obtain ⟨v3, e3, q3, B3, d3, rfl, hS3⟩ := hk.ev_new hd 3 10 (by kernel_rfl) rfl
      refine stepOk_enter rfl (f := 121) (args := #[.agg (cw (first ++ keys)).toArray, .slice B3 tx.length d3]) (by go_simp) ?_
      refine (rOf_any first keys B3 tx.length d3 tx _ H1.out H2.out hS3 rfl hl).mono ?_
      rintro e w5 ⟨rfl, hB5⟩
      exact ⟨_, rfl, (by rw [HDG.out]; rfl), hB5⟩
  · intro a1 w3 hbw hp
    obtain ⟨v0, p0, v1, p1, v2, p2, v3, p3, v4, p4, rfl⟩ := hp
    simp only [rtgFacts] at p0 p1 p2 p3 p4
    obtain ⟨B, d, rfl, -⟩ := p3
    subst p0 p1 p2 p4
    simp only [List.drop_succ_cons, List.drop_zero, Act.put, List.setIfInBounds_toArray, List.set_cons_succ, List.set_cons_zero]
    have hR3 := hR2.below hbw
    have hB03 := Below.then_ hB02 hbw
    go_wp2_with (with_reducible refine wpList_store rfl rfl (.tmp 6) (.tmp 11) 84 rfl gr 0 w.heap.size 84 32 (cb (List.replicate 32 0)) (cb dg) rfl rfl 32 (by rw [List.length_map]; exact HL.out) (by kernel_rfl) hR3 (by omega) (cb_one _) w hB03 (by omega) ?_; intro w9 hF9 hB9 _ _)
    have e : splice (cb (List.replicate 32 0)) 0 (cb dg) = cb dg := by
      have := HL.out
      simp [splice, this]
    rw [e] at hF9
    exact bodyPost_cell rfl rfl (cb dg) 32 (by rw [List.length_map]; exact HL.out) (by kernel_rfl) hF9.sees rfl ⟨rfl, hB9⟩
end Go.Proofs.Ytcfjbllmaejiaaa
