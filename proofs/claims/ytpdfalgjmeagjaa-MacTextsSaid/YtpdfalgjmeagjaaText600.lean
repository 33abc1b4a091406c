/-
  The program's Text of a tag and up to 600 parts of at most 300 bytes; Tagged of them.
-/
import Derived.Test.YtpdfalgjmeagjaaPb
import Derived.Test.YtpdfalgjmeagjaaShaLeaf
import Derived.Test.YtpdfalgjmeagjaaTextF
import Derived.Test.YtpdfalgjmeagjaaMade
import Derived.Test.YtpdfalgjmeagjaaApp1
import Derived.Test.YtpdfalgjmeagjaaShaDig
namespace Go.Proofs.Ytpdfalgjmeagjaa
open Go.RowKit
set_option linter.unusedVariables false

section
variable {w : World}
theorem blob_le3 (l : List UInt8) (h : l.length ≤ 300) : (blob l).length ≤ 310 := by
  have := nd_bd l.length
  rw [blob, List.length_append, len_digs]
  omega
theorem blobs_le3 : ∀ (ls : List (List UInt8)), (∀ l ∈ ls, l.length ≤ 300) → (ls.flatMap blob).length ≤ 310 * ls.length
  | [], _ => by simp
  | l :: ls, h => by
    have h1 := blob_le3 l (h l List.mem_cons_self)
    have h2 := blobs_le3 ls (fun x hx => h x (List.mem_cons_of_mem _ hx))
    rw [List.flatMap_cons, List.length_append, List.length_cons]
    omega
set_option maxHeartbeats 1000000 in
set_option maxRecDepth 100000 in
theorem Text_300 (tag : UInt8) (A : Option Addr) (n c N : Nat) (ps : List Pb) (ls : List (List UInt8)) (hp : Parts w A n ps) (hls : ps.map Pb.l = ls) (hn : n ≤ 7) (hm : ∀ p ∈ ps, p.m ≤ 300) (hN : (textF tag ls).length = N) :
    Calls Try.prog 26 #[.int .u8 (tag.toNat : Int), .slice A n c] w (Made8 w N (textF tag ls)) := by
  have hlen : ls.length = n := by rw [← hls, List.length_map]; exact hp.len
  have hll : ∀ l ∈ ls, l.length ≤ 300 := by
    intro l hl
    rw [← hls] at hl
    obtain ⟨p, hpm, rfl⟩ := List.mem_map.1 hl
    rw [(hp.ok p hpm).len]
    exact hm p hpm
  have hnd := nd_bd n
  have HLN := Lib.hid hlen
  have HLL := Lib.hid hll
  have HLS := Lib.hid hls
  have HN := Lib.hid hN
  have hwn := IntKind.wrap_u64 (n : Int)
  have hwn2 : IntKind.u64.wrap (n : Int) = (n : Int) := by rw [IntKind.wrap_u64]; omega
  clear hlen hll hls hN hwn
  go_enter Try.func26, Try.ntmps26
  go_wp2_with fail
  refine (Uint_made (n := 2) (l := [75, tag]) (x := n) (N := 2 + nd n) (L := [75, tag] ++ digs n) (sees_one w 5 _ [75, tag] rfl) rfl rfl rfl (by omega) (by omega)).mono ?_
  rintro e w1 ⟨A1, c1, rfl, hF1, hB1⟩
  have hB01 : Below w.heap.size w w1 := Below.then_ (below_alloc w _) hB1
  have hF1' := hF1.lower (below_alloc w (.cells (cb [75, tag]).toArray 5)).size
  obtain ⟨K, hK⟩ : ∃ K, K = 2 + nd n := ⟨_, rfl⟩
  have HK := Lib.hid hK
  have hK2 : K ≤ 12 := by omega
  rw [← hK] at hF1' ⊢
  clear hF1 hB1 hK hwn2 hnd
  go_wp2_with fail
  go_loopw [5, 16] (fun v i wr => ∃ (k m : Nat) (A' : Option Addr) (c' : Nat), k ≤ n ∧ m ≤ 12 + 310 * k ∧ i = .int .i64 k ∧ v = .slice A' m c' ∧ Fresh w.heap.size 5 wr A' m c' (cb (([75, tag] ++ digs n) ++ (ls.take k).flatMap blob)) ∧ Below w.heap.size w wr) (fun _ i _ => n - (intOf i).toNat)
  case atStart => exact ⟨0, K, A1, c1, by omega, by omega, rfl, rfl, by simpa using hF1', hB01⟩
  case round =>
    obtain ⟨k, m, A', c', hk, hmk, rfl, rfl, hF, hB⟩ := hrel
    by_cases hlt : k < n
    · obtain ⟨g, o, rfl, p, HP, hpk, hc⟩ := (hp.step hB).at_ hlt
      have hpm := hm p (List.mem_of_getElem? HP.out)
      have hlk : ls[k]? = some p.l := by rw [← HLS.out, List.getElem?_map, HP.out]; rfl
      have HLK := Lib.hid hlk
      have hndp := nd_bd p.m
      have hbs := hB.size
      clear hlk
      go_wp2_with fail
      refine (Blob_made (n := 0) (l := []) (b := p.l) (m := p.m) (N := nd p.m + p.m) (L := blob p.l) Sees.nil hpk.sees rfl hpk.len (by omega) rfl (by omega) (by omega)).mono ?_
      rintro e w2 ⟨A2, c2, rfl, hF2, hB2⟩
      obtain ⟨Z, hZ⟩ : ∃ Z, Z = nd p.m + p.m := ⟨_, rfl⟩
      have hbl : (blob p.l).length = Z := by rw [hZ, blob, List.length_append, len_digs, hpk.len]
      rw [← hZ] at hF2 ⊢
      have hZ2 : Z ≤ 310 := by omega
      have HBL := Lib.hid hbl
      clear hZ hbl hndp
      have hB3 := Below.then_ hB hB2
      go_wp2_with (at_builtin; refine wpList_app8 rfl (.tmp 20) (.tmp 22) rfl A' A2 m c' Z c2 _ (blob p.l) w rfl rfl (hF.below hB2) hF2.sees HBL.out (by omega) hB3 ?_; intro A3 c3 w3 hF3 hB4)
      go_roundw
      case rel =>
        refine ⟨k + 1, m + Z, A3, c3, by omega, by omega, by go_num, rfl, ?_, hB4⟩
        rw [List.take_add_one, HLK.out, List.flatMap_append, ← List.append_assoc]
        simpa using hF3
      case measure => simp [intOf]; omega
    · obtain rfl : k = n := by omega
      rw [List.take_of_length_le (by rw [HLN.out]; exact Nat.le_refl _)] at hF
      have e : ([75, tag] ++ digs k) ++ ls.flatMap blob = textF tag ls := by rw [textF, HLN.out]
      rw [e] at hF
      have hml : m = N := by rw [← HN.out]; simpa using hF.len.symm
      subst hml
      go_wp2_with fail
      go_ret
      exact ⟨A', c', rfl, hF, hB⟩
end
end Go.Proofs.Ytpdfalgjmeagjaa

namespace Go.Proofs.Ytpdfalgjmeagjaa
open Go.RowKit
set_option linter.unusedVariables false

theorem wpList_gis {P : Program} {w : World} {ops : Array Oper} {rest : List Oper} {o : Oper} {a : Act} {Q : Exit → Act → World → Prop} {v : Value} (hw : Region.wanted o (yielded ops a.tmps) = true) (hrun : (execOp a.eval o).run P w = .ok (.value v) w) (hK : wpList P ops Q rest (a.put o.dst v) w) : wpList P ops Q (o :: rest) a w := by
  refine wpList_step fun K hK' => ?_
  rw [if_pos hw]
  unfold Oper.wp
  rw [hrun]
  exact hK' _ _ hK
section
variable {w : World}
set_option maxHeartbeats 1000000 in
set_option maxRecDepth 100000 in
theorem Text_600 (tag : UInt8) (A : Option Addr) (n c N : Nat) (ps : List Pb) (ls : List (List UInt8)) (hp : Parts w A n ps) (hls : ps.map Pb.l = ls) (hn : n ≤ 600) (hm : ∀ p ∈ ps, p.m ≤ 300) (hN : (textF tag ls).length = N) :
    Calls Try.prog 26 #[.int .u8 (tag.toNat : Int), .slice A n c] w (Made8 w N (textF tag ls)) := by
  have hlen : ls.length = n := by rw [← hls, List.length_map]; exact hp.len
  have hll : ∀ l ∈ ls, l.length ≤ 300 := by
    intro l hl
    rw [← hls] at hl
    obtain ⟨p, hpm, rfl⟩ := List.mem_map.1 hl
    rw [(hp.ok p hpm).len]
    exact hm p hpm
  have hnd := nd_bd n
  have HLN := Lib.hid hlen
  have HLL := Lib.hid hll
  have HLS := Lib.hid hls
  have HN := Lib.hid hN
  have hwn := IntKind.wrap_u64 (n : Int)
  have hwn2 : IntKind.u64.wrap (n : Int) = (n : Int) := by rw [IntKind.wrap_u64]; omega
  clear hlen hll hls hN hwn
  go_enter Try.func26, Try.ntmps26
  go_wp2_with fail
  refine (Uint_made (n := 2) (l := [75, tag]) (x := n) (N := 2 + nd n) (L := [75, tag] ++ digs n) (sees_one w 5 _ [75, tag] rfl) rfl rfl rfl (by omega) (by omega)).mono ?_
  rintro e w1 ⟨A1, c1, rfl, hF1, hB1⟩
  have hB01 : Below w.heap.size w w1 := Below.then_ (below_alloc w _) hB1
  have hF1' := hF1.lower (below_alloc w (.cells (cb [75, tag]).toArray 5)).size
  obtain ⟨K, hK⟩ : ∃ K, K = 2 + nd n := ⟨_, rfl⟩
  have HK := Lib.hid hK
  have hK2 : K ≤ 12 := by omega
  rw [← hK] at hF1' ⊢
  clear hF1 hB1 hK hwn2 hnd
  go_wp2_with fail
  go_loopw [5, 16] (fun v i wr => ∃ (k m : Nat) (A' : Option Addr) (c' : Nat), k ≤ n ∧ m ≤ 12 + 310 * k ∧ i = .int .i64 k ∧ v = .slice A' m c' ∧ Fresh w.heap.size 5 wr A' m c' (cb (([75, tag] ++ digs n) ++ (ls.take k).flatMap blob)) ∧ Below w.heap.size w wr) (fun _ i _ => n - (intOf i).toNat)
  case atStart => exact ⟨0, K, A1, c1, by omega, by omega, rfl, rfl, by simpa using hF1', hB01⟩
  case round =>
    obtain ⟨k, m, A', c', hk, hmk, rfl, rfl, hF, hB⟩ := hrel
    by_cases hlt : k < n
    · obtain ⟨g, o, rfl, p, HP, hpk, hc⟩ := (hp.step hB).at_ hlt
      have hpm := hm p (List.mem_of_getElem? HP.out)
      have hlk : ls[k]? = some p.l := by rw [← HLS.out, List.getElem?_map, HP.out]; rfl
      have HLK := Lib.hid hlk
      have hndp := nd_bd p.m
      have hbs := hB.size
      clear hlk
      go_wp2_with fail
      refine (Blob_made (n := 0) (l := []) (b := p.l) (m := p.m) (N := nd p.m + p.m) (L := blob p.l) Sees.nil hpk.sees rfl hpk.len (by omega) rfl (by omega) (by omega)).mono ?_
      rintro e w2 ⟨A2, c2, rfl, hF2, hB2⟩
      obtain ⟨Z, hZ⟩ : ∃ Z, Z = nd p.m + p.m := ⟨_, rfl⟩
      have hbl : (blob p.l).length = Z := by rw [hZ, blob, List.length_append, len_digs, hpk.len]
      rw [← hZ] at hF2 ⊢
      have hZ2 : Z ≤ 310 := by omega
      have HBL := Lib.hid hbl
      clear hZ hbl hndp
      have hB3 := Below.then_ hB hB2
      go_wp2_with (at_builtin; refine wpList_app8 rfl (.tmp 20) (.tmp 22) rfl A' A2 m c' Z c2 _ (blob p.l) w rfl rfl (hF.below hB2) hF2.sees HBL.out (by omega) hB3 ?_; intro A3 c3 w3 hF3 hB4)
      go_roundw
      case rel =>
        refine ⟨k + 1, m + Z, A3, c3, by omega, by omega, by go_num, rfl, ?_, hB4⟩
        rw [List.take_add_one, HLK.out, List.flatMap_append, ← List.append_assoc]
        simpa using hF3
      case measure => simp [intOf]; omega
    · obtain rfl : k = n := by omega
      rw [List.take_of_length_le (by rw [HLN.out]; exact Nat.le_refl _)] at hF
      have e : ([75, tag] ++ digs k) ++ ls.flatMap blob = textF tag ls := by rw [textF, HLN.out]
      rw [e] at hF
      have hml : m = N := by rw [← HN.out]; simpa using hF.len.symm
      subst hml
      go_wp2_with fail
      go_ret
      exact ⟨A', c', rfl, hF, hB⟩
set_option maxHeartbeats 1000000 in
set_option maxRecDepth 100000 in
theorem Tagged_600 (tb to : Nat) (first keys : List UInt32) (ht : Tab w tb to first keys) (tag : UInt8) (A : Option Addr) (n c : Nat) (ps : List Pb) (ls : List (List UInt8)) (hp : Parts w A n ps) (hls : ps.map Pb.l = ls) (hn : n ≤ 600) (hm : ∀ p ∈ ps, p.m ≤ 300) (D : List UInt8) (hD : ofF first keys (textF tag ls) = D) :
    Calls Try.prog 158 #[.pointer (some ⟨tb, to, none⟩), .int .u8 (tag.toNat : Int), .slice A n c] w fun e w' => e = .returned (.agg (cb D).toArray) ∧ Below w.heap.size w w' := by
  have hlen : ls.length = n := by rw [← hls, List.length_map]; exact hp.len
  have hll : ∀ l ∈ ls, l.length ≤ 300 := by
    intro l hl
    rw [← hls] at hl
    obtain ⟨p, hpm, rfl⟩ := List.mem_map.1 hl
    rw [(hp.ok p hpm).len]
    exact hm p hpm
  obtain ⟨N, hN⟩ : ∃ N, (textF tag ls).length = N := ⟨_, rfl⟩
  have hNl : N ≤ 1000000 := by
    have h1 := blobs_le3 ls hll
    have h2 := nd_bd ls.length
    rw [← hN, textF, List.length_append, List.length_append, len_digs, show ([75, tag] : List UInt8).length = 2 from rfl]
    omega
  have HN := Lib.hid hN
  have HD := Lib.hid hD
  have HLD := Lib.hid (show D.length = 32 by rw [← hD]; exact len_ofF _ _ _ ht.l1)
  clear hlen hll hN hD
  go_enter Try.func158, Try.ntmps158
  go_wp2_with (first
    | (with_reducible refine wpList_alloc (o := ⟨some 6, _, _, _, _, _⟩) rfl 38 rfl (cb (List.replicate 32 0)) (by kernel_rfl) 32 (by simp) (by decide) ?_; intro gr w1 hgr hFr hBr)
    | (go_at_call 26; refine (Text_600 tag A n c N ps ls (hp.step hBr) hls (by omega) hm HN.out).mono ?_; rintro e w2 ⟨A2, c2, rfl, hF2, hB2⟩; have hB02 := Below.then_ hBr hB2; have hcap := hF2.cap.1)
    | (go_at_call 20; refine (Of_any tb to first keys A2 N c2 (textF tag ls) _ (ht.step hB02) hF2.sees HN.out hcap (by omega)).mono ?_; rintro e w3 ⟨rfl, hB3⟩; rw [HD.out]; have hB03 := Below.then_ hB02 hB3; have hF3 := ((hFr.below hB2).below hB3))
    | (with_reducible refine wpList_store rfl rfl (.tmp 6) (.tmp 11) 38 rfl gr 0 w.heap.size 38 32 (cb (List.replicate 32 0)) (cb D) rfl rfl 32 (by rw [List.length_map]; exact HLD.out) (by kernel_rfl) hF3 (by omega) (cb_one _) w hB03 (by omega) ?_; intro w9 hF9 hB9 _ _))
  have e : splice (cb (List.replicate 32 0)) 0 (cb D) = cb D := by
    have := HLD.out
    simp [splice, this]
  rw [e] at hF9
  exact bodyPost_cell rfl rfl (cb D) 32 (by rw [List.length_map]; exact HLD.out) (by kernel_rfl) hF9.sees rfl ⟨rfl, hB9⟩
end
end Go.Proofs.Ytpdfalgjmeagjaa
