/-
  Lists of byte strings: what few and mac.Text answer of them.
-/
import Derived.Test.YtmkpopfaaebgfaaApp1
import Derived.Test.YtmkpopfaaebgfaaTools
import Derived.Test.YtmkpopfaaebgfaaCalls
import Derived.Test.YtmkpopfaaebgfaaVarint
import Derived.Test.YtmkpopfaaebgfaaShaSum
namespace Go.Proofs.Ytmkpopfaaebgfaa
open Go.RowKit
set_option linter.unusedVariables false

/-- A part: where it lies, and its bytes. -/
structure Pb where
  A : Option Addr
  m : Nat
  c : Nat
  l : List UInt8
instance : Inhabited Pb := ⟨⟨none, 0, 0, []⟩⟩
def Pb.cell (p : Pb) : Value := .slice p.A p.m p.c
structure Pb.Ok (p : Pb) (w : World) : Prop where
  sees : Sees w w.heap.size p.A (cb p.l)
  len : p.l.length = p.m
  cap : p.m ≤ p.c
theorem Pb.Ok.step {p : Pb} {w w' : World} (h : p.Ok w) (x : Below w.heap.size w w') : p.Ok w' := ⟨h.sees.step x, h.len, h.cap⟩
/-- A list of parts that can be read. -/
structure Parts (w : World) (A : Option Addr) (n : Nat) (ps : List Pb) : Prop where
  sees : Sees w w.heap.size A (ps.map Pb.cell)
  len : ps.length = n
  ok : ∀ p ∈ ps, p.Ok w
theorem Parts.step {w w' : World} {A : Option Addr} {n : Nat} {ps : List Pb} (h : Parts w A n ps) (x : Below w.heap.size w w') : Parts w' A n ps := ⟨h.sees.step x, h.len, fun p hp => (h.ok p hp).step x⟩
theorem Parts.at_ {w : World} {A : Option Addr} {n k : Nat} {ps : List Pb} (h : Parts w A n ps) (hk : k < n) : ∃ g o, A = some ⟨g, o, none⟩ ∧ ∃ p : Pb, Hid (ps[k]? = some p) ∧ p.Ok w ∧ w.cell? ⟨g, o + k, none⟩ = some (.slice p.A p.m p.c) := by
  have hl := h.len
  obtain ⟨g, o, e, _, hc⟩ := h.sees.at_ (k := k) (by simp; omega)
  refine ⟨g, o, e, ps[k]'(by omega), List.getElem?_eq_getElem (by omega), h.ok _ (List.getElem_mem _), ?_⟩
  rw [hc]
  simp [Pb.cell]
/-- Those of the first six of at most a hundred bytes. -/
def fewF (ps : List Pb) : List Pb := (ps.take 6).filter fun p => decide (p.m ≤ 100)
theorem few_step (ps : List Pb) (k : Nat) (p : Pb) (h : ps[k]? = some p) : (ps.take (k + 1)).filter (fun p => decide (p.m ≤ 100)) = (ps.take k).filter (fun p => decide (p.m ≤ 100)) ++ if p.m ≤ 100 then [p] else [] := by
  rw [List.take_add_one, h, List.filter_append]
  congr 1
  by_cases hm : p.m ≤ 100 <;> simp [hm]
section
variable {w : World}
set_option maxHeartbeats 1000000 in
set_option maxRecDepth 100000 in
theorem few_any (A : Option Addr) (n c : Nat) (ps : List Pb) (hp : Parts w A n ps) : Calls Try.prog 66 #[.slice A n c] w fun e w' => ∃ A' c', e = .returned (.slice A' (fewF ps).length c') ∧ Parts w' A' (fewF ps).length (fewF ps) ∧ (fewF ps).length ≤ c' ∧ Below w.heap.size w w' := by
  have HL := Lib.hid hp.len
  go_enter Try.func66, Try.ntmps66
  go_wp2_with fail
  go_loopw [3, 4] (fun v i wr => ∃ (k m : Nat) (A' : Option Addr) (c' : Nat) (qs : List Pb), k ≤ n ∧ k ≤ 6 ∧ i = .int .i64 k ∧ v = .slice A' m c' ∧ Hid (qs = (ps.take k).filter fun p => decide (p.m ≤ 100)) ∧ m ≤ 6 ∧ Fresh w.heap.size 23 wr A' m c' (qs.map Pb.cell) ∧ (∀ q ∈ qs, q ∈ ps) ∧ Below w.heap.size w wr) (fun _ i _ => 7 - (intOf i).toNat)
  case atStart => exact ⟨0, 0, none, 0, [], by omega, by omega, rfl, rfl, Lib.hid rfl, by omega, World.ownsRow_nil _ _ _ _, by simp, Below.refl _ _⟩
  case round =>
    obtain ⟨k, m, A', c', qs, hk, hk6, rfl, rfl, HQ, hm6, hF, hsub, hB⟩ := hrel
    have fin : (k = n ∨ k = 6) → qs = fewF ps := by
      intro h
      rw [HQ.out]
      unfold fewF
      rcases h with rfl | rfl
      · rw [List.take_of_length_le (by rw [HL.out]; exact Nat.le_refl _), List.take_of_length_le (by rw [HL.out]; exact hk6)]
      · rfl
    have hql : qs.length = m := by simpa using hF.len
    have HQL := Lib.hid hql
    clear hql
    have done : ∀ h : (k = n ∨ k = 6), ∃ A'' c'', Ending.returned (.slice A' m c') = .returned (.slice A'' (fewF ps).length c'') ∧ Parts wr A'' (fewF ps).length (fewF ps) ∧ (fewF ps).length ≤ c'' ∧ Below w.heap.size w wr := by
      intro h
      have e := fin h
      have e2 : m = (fewF ps).length := by rw [← e, HQL.out]
      refine ⟨A', c', by rw [e2], ⟨?_, rfl, fun p hpm => ?_⟩, by rw [← e2]; exact hF.cap.1, hB⟩
      · rw [← e]
        exact hF.sees
      · rw [← e] at hpm
        exact (hp.ok p (hsub p hpm)).step hB
    by_cases hlt : k < n
    · by_cases hlt6 : k < 6
      · obtain ⟨g, o, rfl, p, HP, hpk, hc⟩ := (hp.step hB).at_ hlt
        have hst := few_step ps k p HP.out
        rw [← HQ.out] at hst
        by_cases h100 : p.m ≤ 100
        · rw [if_pos h100] at hst
          have HST := Lib.hid hst
          have hz := hB.size
          clear hst done fin
          have hba := below_alloc wr (.cells #[.slice p.A p.m p.c] 23)
          have hcell : (wr.alloc (.cells #[.slice p.A p.m p.c] 23)).cell? ⟨wr.heap.size, 0, none⟩ = some (.slice p.A p.m p.c) := by
            rw [World.cell?_alloc_mark]; rfl
          go_wp2_with (at_builtin; refine wpList_one rfl (.tmp 21) (.tmp 26) 78 23 (.slice none 0 0) 24 rfl Try.underlying78 (by kernel_rfl) rfl (by omega) A' m c' wr.heap.size _ (.slice p.A p.m p.c) w rfl rfl (hF.below hba) hcell rfl (by omega) (Below.then_ hB hba) ?_; intro A2 c2 w3 hF4 hB4 hgr)
          go_roundw
          case rel =>
            refine ⟨k + 1, m + 1, A2, c2, qs ++ [p], by omega, by omega, by go_num, rfl, Lib.hid HST.out.symm, ?_, ?_, ?_, hB4⟩
            · have h1 : (qs ++ [p]).length ≤ k + 1 := by
                rw [← HST.out]
                exact Nat.le_trans (List.length_filter_le _ _) (List.length_take_le _ _)
              rw [List.length_append, HQL.out] at h1
              simp at h1
              omega
            · rw [List.map_append]
              exact hF4
            · intro q hq
              rcases List.mem_append.1 hq with h1 | h1
              · exact hsub q h1
              · simp at h1
                subst h1
                exact List.mem_of_getElem? HP.out
          case measure => simp [intOf]; omega
        · rw [if_neg h100, List.append_nil] at hst
          have HST := Lib.hid hst
          clear hst done fin
          go_wp2_with fail
          go_roundw
          case rel => exact ⟨k + 1, m, A', c', qs, by omega, by omega, by go_num, rfl, Lib.hid HST.out.symm, hm6, hF, hsub, hB⟩
          case measure => simp [intOf]; omega
      · have hd := done (.inr (by omega))
        clear done fin
        go_wp2_with fail
        go_ret
        exact hd
    · have hd := done (.inl (by omega))
      clear done fin
      go_wp2_with fail
      go_ret
      exact hd
/-- The text of a tag and parts. -/
def textF (tag : UInt8) (ls : List (List UInt8)) : List UInt8 := ([75, tag] ++ digs ls.length) ++ ls.flatMap blob
theorem blob_le (l : List UInt8) (h : l.length ≤ 100) : (blob l).length ≤ 110 := by
  have := nd_bd l.length
  rw [blob, List.length_append, len_digs]
  omega
theorem blobs_le : ∀ (ls : List (List UInt8)), (∀ l ∈ ls, l.length ≤ 100) → (ls.flatMap blob).length ≤ 110 * ls.length
  | [], _ => by simp
  | l :: ls, h => by
    have h1 := blob_le l (h l List.mem_cons_self)
    have h2 := blobs_le ls (fun x hx => h x (List.mem_cons_of_mem _ hx))
    rw [List.flatMap_cons, List.length_append, List.length_cons]
    omega
set_option maxHeartbeats 1000000 in
set_option maxRecDepth 100000 in
theorem Text_any (tag : UInt8) (A : Option Addr) (n c N : Nat) (ps : List Pb) (ls : List (List UInt8)) (hp : Parts w A n ps) (hls : ps.map Pb.l = ls) (hn : n ≤ 7) (hm : ∀ p ∈ ps, p.m ≤ 100) (hN : (textF tag ls).length = N) :
    Calls Try.prog 61 #[.int .u8 (tag.toNat : Int), .slice A n c] w (Made8 w N (textF tag ls)) := by
  have hlen : ls.length = n := by rw [← hls, List.length_map]; exact hp.len
  have hll : ∀ l ∈ ls, l.length ≤ 100 := by
    intro l hl
    rw [← hls] at hl
    obtain ⟨p, hpm, rfl⟩ := List.mem_map.1 hl
    rw [(hp.ok p hpm).len]
    exact hm p hpm
  have hnd := nd_bd n
  have HLN := Lib.hid hlen
  have HLL := Lib.hid hll
  have HLS := Lib.hid hls
  have HN := Lib.hid hN
  have hwn := IntKind.wrap_u64 (n : Int)
  have hwn2 : IntKind.u64.wrap (n : Int) = (n : Int) := by rw [IntKind.wrap_u64]; omega
  clear hlen hll hls hN hwn
  go_enter Try.func61, Try.ntmps61
  go_wp2_with fail
  refine (Uint_made (n := 2) (l := [75, tag]) (x := n) (N := 2 + nd n) (L := [75, tag] ++ digs n) (sees_one w 5 _ [75, tag] rfl) rfl rfl rfl (by omega) (by omega)).mono ?_
  rintro e w1 ⟨A1, c1, rfl, hF1, hB1⟩
  have hB01 : Below w.heap.size w w1 := Below.then_ (below_alloc w _) hB1
  have hF1' := hF1.lower (below_alloc w (.cells (cb [75, tag]).toArray 5)).size
  obtain ⟨K, hK⟩ : ∃ K, K = 2 + nd n := ⟨_, rfl⟩
  have HK := Lib.hid hK
  have hK2 : K ≤ 12 := by omega
  rw [← hK] at hF1' ⊢
  clear hF1 hB1 hK hwn2 hnd
  go_wp2_with fail
  go_loopw [5, 16] (fun v i wr => ∃ (k m : Nat) (A' : Option Addr) (c' : Nat), k ≤ n ∧ m ≤ 12 + 110 * k ∧ i = .int .i64 k ∧ v = .slice A' m c' ∧ Fresh w.heap.size 5 wr A' m c' (cb (([75, tag] ++ digs n) ++ (ls.take k).flatMap blob)) ∧ Below w.heap.size w wr) (fun _ i _ => n - (intOf i).toNat)
  case atStart => exact ⟨0, K, A1, c1, by omega, by omega, rfl, rfl, by simpa using hF1', hB01⟩
  case round =>
    obtain ⟨k, m, A', c', hk, hmk, rfl, rfl, hF, hB⟩ := hrel
    by_cases hlt : k < n
    · obtain ⟨g, o, rfl, p, HP, hpk, hc⟩ := (hp.step hB).at_ hlt
      have hpm := hm p (List.mem_of_getElem? HP.out)
      have hlk : ls[k]? = some p.l := by rw [← HLS.out, List.getElem?_map, HP.out]; rfl
      have HLK := Lib.hid hlk
      have hndp := nd_bd p.m
      have hbs := hB.size
      clear hlk
      go_wp2_with fail
      refine (Blob_made (n := 0) (l := []) (b := p.l) (m := p.m) (N := nd p.m + p.m) (L := blob p.l) Sees.nil hpk.sees rfl hpk.len (by omega) rfl (by omega) (by omega)).mono ?_
      rintro e w2 ⟨A2, c2, rfl, hF2, hB2⟩
      obtain ⟨Z, hZ⟩ : ∃ Z, Z = nd p.m + p.m := ⟨_, rfl⟩
      have hbl : (blob p.l).length = Z := by rw [hZ, blob, List.length_append, len_digs, hpk.len]
      rw [← hZ] at hF2 ⊢
      have hZ2 : Z ≤ 110 := by omega
      have HBL := Lib.hid hbl
      clear hZ hbl hndp
      have hB3 := Below.then_ hB hB2
      go_wp2_with (at_builtin; refine wpList_app8 rfl (.tmp 20) (.tmp 22) rfl A' A2 m c' Z c2 _ (blob p.l) w rfl rfl (hF.below hB2) hF2.sees HBL.out (by omega) hB3 ?_; intro A3 c3 w3 hF3 hB4)
      go_roundw
      case rel =>
        refine ⟨k + 1, m + Z, A3, c3, by omega, by omega, by go_num, rfl, ?_, hB4⟩
        rw [List.take_add_one, HLK.out, List.flatMap_append, ← List.append_assoc]
        simpa using hF3
      case measure => simp [intOf]; omega
    · obtain rfl : k = n := by omega
      rw [List.take_of_length_le (by rw [HLN.out]; exact Nat.le_refl _)] at hF
      have e : ([75, tag] ++ digs k) ++ ls.flatMap blob = textF tag ls := by rw [textF, HLN.out]
      rw [e] at hF
      have hml : m = N := by rw [← HN.out]; simpa using hF.len.symm
      subst hml
      go_wp2_with fail
      go_ret
      exact ⟨A', c', rfl, hF, hB⟩
end
end Go.Proofs.Ytmkpopfaaebgfaa
