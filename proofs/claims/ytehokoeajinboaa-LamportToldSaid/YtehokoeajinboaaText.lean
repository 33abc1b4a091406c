/-
  The program's Text of a tag and parts of at most 300 bytes.
-/
import Derived.Test.YtehokoeajinboaaPb
import Derived.Test.YtehokoeajinboaaShaLeaf
import Derived.Test.YtehokoeajinboaaTextF
import Derived.Test.YtehokoeajinboaaMade
import Derived.Test.YtehokoeajinboaaApp1
namespace Go.Proofs.Ytehokoeajinboaa
open Go.RowKit
set_option linter.unusedVariables false

section
variable {w : World}
theorem blob_le3 (l : List UInt8) (h : l.length ≤ 300) : (blob l).length ≤ 310 := by
  have := nd_bd l.length
  rw [blob, List.length_append, len_digs]
  omega
theorem blobs_le3 : ∀ (ls : List (List UInt8)), (∀ l ∈ ls, l.length ≤ 300) → (ls.flatMap blob).length ≤ 310 * ls.length
  | [], _ => by simp
  | l :: ls, h => by
    have h1 := blob_le3 l (h l List.mem_cons_self)
    have h2 := blobs_le3 ls (fun x hx => h x (List.mem_cons_of_mem _ hx))
    rw [List.flatMap_cons, List.length_append, List.length_cons]
    omega
set_option maxHeartbeats 1000000 in
set_option maxRecDepth 100000 in
theorem Text_300 (tag : UInt8) (A : Option Addr) (n c N : Nat) (ps : List Pb) (ls : List (List UInt8)) (hp : Parts w A n ps) (hls : ps.map Pb.l = ls) (hn : n ≤ 7) (hm : ∀ p ∈ ps, p.m ≤ 300) (hN : (textF tag ls).length = N) :
    Calls Try.prog 18 #[.int .u8 (tag.toNat : Int), .slice A n c] w (Made8 w N (textF tag ls)) := by
  have hlen : ls.length = n := by rw [← hls, List.length_map]; exact hp.len
  have hll : ∀ l ∈ ls, l.length ≤ 300 := by
    intro l hl
    rw [← hls] at hl
    obtain ⟨p, hpm, rfl⟩ := List.mem_map.1 hl
    rw [(hp.ok p hpm).len]
    exact hm p hpm
  have hnd := nd_bd n
  have HLN := Lib.hid hlen
  have HLL := Lib.hid hll
  have HLS := Lib.hid hls
  have HN := Lib.hid hN
  have hwn := IntKind.wrap_u64 (n : Int)
  have hwn2 : IntKind.u64.wrap (n : Int) = (n : Int) := by rw [IntKind.wrap_u64]; omega
  clear hlen hll hls hN hwn
  go_enter Try.func18, Try.ntmps18
  go_wp2_with fail
  refine (Uint_made (n := 2) (l := [75, tag]) (x := n) (N := 2 + nd n) (L := [75, tag] ++ digs n) (sees_one w 5 _ [75, tag] rfl) rfl rfl rfl (by omega) (by omega)).mono ?_
  rintro e w1 ⟨A1, c1, rfl, hF1, hB1⟩
  have hB01 : Below w.heap.size w w1 := Below.then_ (below_alloc w _) hB1
  have hF1' := hF1.lower (below_alloc w (.cells (cb [75, tag]).toArray 5)).size
  obtain ⟨K, hK⟩ : ∃ K, K = 2 + nd n := ⟨_, rfl⟩
  have HK := Lib.hid hK
  have hK2 : K ≤ 12 := by omega
  rw [← hK] at hF1' ⊢
  clear hF1 hB1 hK hwn2 hnd
  go_wp2_with fail
  go_loopw [5, 16] (fun v i wr => ∃ (k m : Nat) (A' : Option Addr) (c' : Nat), k ≤ n ∧ m ≤ 12 + 310 * k ∧ i = .int .i64 k ∧ v = .slice A' m c' ∧ Fresh w.heap.size 5 wr A' m c' (cb (([75, tag] ++ digs n) ++ (ls.take k).flatMap blob)) ∧ Below w.heap.size w wr) (fun _ i _ => n - (intOf i).toNat)
  case atStart => exact ⟨0, K, A1, c1, by omega, by omega, rfl, rfl, by simpa using hF1', hB01⟩
  case round =>
    obtain ⟨k, m, A', c', hk, hmk, rfl, rfl, hF, hB⟩ := hrel
    by_cases hlt : k < n
    · obtain ⟨g, o, rfl, p, HP, hpk, hc⟩ := (hp.step hB).at_ hlt
      have hpm := hm p (List.mem_of_getElem? HP.out)
      have hlk : ls[k]? = some p.l := by rw [← HLS.out, List.getElem?_map, HP.out]; rfl
      have HLK := Lib.hid hlk
      have hndp := nd_bd p.m
      have hbs := hB.size
      clear hlk
      go_wp2_with fail
      refine (Blob_made (n := 0) (l := []) (b := p.l) (m := p.m) (N := nd p.m + p.m) (L := blob p.l) Sees.nil hpk.sees rfl hpk.len (by omega) rfl (by omega) (by omega)).mono ?_
      rintro e w2 ⟨A2, c2, rfl, hF2, hB2⟩
      obtain ⟨Z, hZ⟩ : ∃ Z, Z = nd p.m + p.m := ⟨_, rfl⟩
      have hbl : (blob p.l).length = Z := by rw [hZ, blob, List.length_append, len_digs, hpk.len]
      rw [← hZ] at hF2 ⊢
      have hZ2 : Z ≤ 310 := by omega
      have HBL := Lib.hid hbl
      clear hZ hbl hndp
      have hB3 := Below.then_ hB hB2
      go_wp2_with (at_builtin; refine wpList_app8 rfl (.tmp 20) (.tmp 22) rfl A' A2 m c' Z c2 _ (blob p.l) w rfl rfl (hF.below hB2) hF2.sees HBL.out (by omega) hB3 ?_; intro A3 c3 w3 hF3 hB4)
      go_roundw
      case rel =>
        refine ⟨k + 1, m + Z, A3, c3, by omega, by omega, by go_num, rfl, ?_, hB4⟩
        rw [List.take_add_one, HLK.out, List.flatMap_append, ← List.append_assoc]
        simpa using hF3
      case measure => simp [intOf]; omega
    · obtain rfl : k = n := by omega
      rw [List.take_of_length_le (by rw [HLN.out]; exact Nat.le_refl _)] at hF
      have e : ([75, tag] ++ digs k) ++ ls.flatMap blob = textF tag ls := by rw [textF, HLN.out]
      rw [e] at hF
      have hml : m = N := by rw [← HN.out]; simpa using hF.len.symm
      subst hml
      go_wp2_with fail
      go_ret
      exact ⟨A', c', rfl, hF, hB⟩
end
end Go.Proofs.Ytehokoeajinboaa
