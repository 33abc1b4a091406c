/-
  Lists of byte strings: what few and mac.Text answer of them.
-/
import Derived.Test.YtpdfalgjmeagjaaPb
import Derived.Test.YtpdfalgjmeagjaaShaLeaf
import Derived.Test.YtpdfalgjmeagjaaText600
import Derived.Test.YtpdfalgjmeagjaaTextF
import Derived.Test.YtpdfalgjmeagjaaApp1
import Derived.Test.YtpdfalgjmeagjaaTools
import Derived.Test.YtpdfalgjmeagjaaCalls
import Derived.Test.YtpdfalgjmeagjaaVarint
import Derived.Test.YtpdfalgjmeagjaaShaSum
namespace Go.Proofs.Ytpdfalgjmeagjaa
open Go.RowKit
set_option linter.unusedVariables false

/-- Those of the first six of at most a hundred bytes. -/
def fewF (ps : List Pb) : List Pb := (ps.take 6).filter fun p => decide (p.m ≤ 100)
theorem few_step (ps : List Pb) (k : Nat) (p : Pb) (h : ps[k]? = some p) : (ps.take (k + 1)).filter (fun p => decide (p.m ≤ 100)) = (ps.take k).filter (fun p => decide (p.m ≤ 100)) ++ if p.m ≤ 100 then [p] else [] := by
  rw [List.take_add_one, h, List.filter_append]
  congr 1
  by_cases hm : p.m ≤ 100 <;> simp [hm]
section
variable {w : World}
set_option maxHeartbeats 1000000 in
set_option maxRecDepth 100000 in
theorem few_any (A : Option Addr) (n c : Nat) (ps : List Pb) (hp : Parts w A n ps) : Calls Try.prog 25 #[.slice A n c] w fun e w' => ∃ A' c', e = .returned (.slice A' (fewF ps).length c') ∧ Parts w' A' (fewF ps).length (fewF ps) ∧ (fewF ps).length ≤ c' ∧ Below w.heap.size w w' := by
  have HL := Lib.hid hp.len
  go_enter Try.func25, Try.ntmps25
  go_wp2_with fail
  go_loopw [3, 4] (fun v i wr => ∃ (k m : Nat) (A' : Option Addr) (c' : Nat) (qs : List Pb), k ≤ n ∧ k ≤ 6 ∧ i = .int .i64 k ∧ v = .slice A' m c' ∧ Hid (qs = (ps.take k).filter fun p => decide (p.m ≤ 100)) ∧ m ≤ 6 ∧ Fresh w.heap.size 27 wr A' m c' (qs.map Pb.cell) ∧ (∀ q ∈ qs, q ∈ ps) ∧ Below w.heap.size w wr) (fun _ i _ => 7 - (intOf i).toNat)
  case atStart => exact ⟨0, 0, none, 0, [], by omega, by omega, rfl, rfl, Lib.hid rfl, by omega, World.ownsRow_nil _ _ _ _, by simp, Below.refl _ _⟩
  case round =>
    obtain ⟨k, m, A', c', qs, hk, hk6, rfl, rfl, HQ, hm6, hF, hsub, hB⟩ := hrel
    have fin : (k = n ∨ k = 6) → qs = fewF ps := by
      intro h
      rw [HQ.out]
      unfold fewF
      rcases h with rfl | rfl
      · rw [List.take_of_length_le (by rw [HL.out]; exact Nat.le_refl _), List.take_of_length_le (by rw [HL.out]; exact hk6)]
      · rfl
    have hql : qs.length = m := by simpa using hF.len
    have HQL := Lib.hid hql
    clear hql
    have done : ∀ h : (k = n ∨ k = 6), ∃ A'' c'', Ending.returned (.slice A' m c') = .returned (.slice A'' (fewF ps).length c'') ∧ Parts wr A'' (fewF ps).length (fewF ps) ∧ (fewF ps).length ≤ c'' ∧ Below w.heap.size w wr := by
      intro h
      have e := fin h
      have e2 : m = (fewF ps).length := by rw [← e, HQL.out]
      refine ⟨A', c', by rw [e2], ⟨?_, rfl, fun p hpm => ?_⟩, by rw [← e2]; exact hF.cap.1, hB⟩
      · rw [← e]
        exact hF.sees
      · rw [← e] at hpm
        exact (hp.ok p (hsub p hpm)).step hB
    by_cases hlt : k < n
    · by_cases hlt6 : k < 6
      · obtain ⟨g, o, rfl, p, HP, hpk, hc⟩ := (hp.step hB).at_ hlt
        have hst := few_step ps k p HP.out
        rw [← HQ.out] at hst
        by_cases h100 : p.m ≤ 100
        · rw [if_pos h100] at hst
          have HST := Lib.hid hst
          have hz := hB.size
          clear hst done fin
          have hba := below_alloc wr (.cells #[.slice p.A p.m p.c] 27)
          have hcell : (wr.alloc (.cells #[.slice p.A p.m p.c] 27)).cell? ⟨wr.heap.size, 0, none⟩ = some (.slice p.A p.m p.c) := by
            rw [World.cell?_alloc_mark]; rfl
          go_wp2_with (at_builtin; refine wpList_one rfl (.tmp 21) (.tmp 26) 48 27 (.slice none 0 0) 24 rfl Try.underlying48 (by kernel_rfl) rfl (by omega) A' m c' wr.heap.size _ (.slice p.A p.m p.c) w rfl rfl (hF.below hba) hcell rfl (by omega) (Below.then_ hB hba) ?_; intro A2 c2 w3 hF4 hB4 hgr)
          go_roundw
          case rel =>
            refine ⟨k + 1, m + 1, A2, c2, qs ++ [p], by omega, by omega, by go_num, rfl, Lib.hid HST.out.symm, ?_, ?_, ?_, hB4⟩
            · have h1 : (qs ++ [p]).length ≤ k + 1 := by
                rw [← HST.out]
                exact Nat.le_trans (List.length_filter_le _ _) (List.length_take_le _ _)
              rw [List.length_append, HQL.out] at h1
              simp at h1
              omega
            · rw [List.map_append]
              exact hF4
            · intro q hq
              rcases List.mem_append.1 hq with h1 | h1
              · exact hsub q h1
              · simp at h1
                subst h1
                exact List.mem_of_getElem? HP.out
          case measure => simp [intOf]; omega
        · rw [if_neg h100, List.append_nil] at hst
          have HST := Lib.hid hst
          clear hst done fin
          go_wp2_with fail
          go_roundw
          case rel => exact ⟨k + 1, m, A', c', qs, by omega, by omega, by go_num, rfl, Lib.hid HST.out.symm, hm6, hF, hsub, hB⟩
          case measure => simp [intOf]; omega
      · have hd := done (.inr (by omega))
        clear done fin
        go_wp2_with fail
        go_ret
        exact hd
    · have hd := done (.inl (by omega))
      clear done fin
      go_wp2_with fail
      go_ret
      exact hd
theorem blob_le (l : List UInt8) (h : l.length ≤ 100) : (blob l).length ≤ 110 := by
  have := nd_bd l.length
  rw [blob, List.length_append, len_digs]
  omega
theorem blobs_le : ∀ (ls : List (List UInt8)), (∀ l ∈ ls, l.length ≤ 100) → (ls.flatMap blob).length ≤ 110 * ls.length
  | [], _ => by simp
  | l :: ls, h => by
    have h1 := blob_le l (h l List.mem_cons_self)
    have h2 := blobs_le ls (fun x hx => h x (List.mem_cons_of_mem _ hx))
    rw [List.flatMap_cons, List.length_append, List.length_cons]
    omega
theorem Text_any (tag : UInt8) (A : Option Addr) (n c N : Nat) (ps : List Pb) (ls : List (List UInt8)) (hp : Parts w A n ps) (hls : ps.map Pb.l = ls) (hn : n ≤ 7) (hm : ∀ p ∈ ps, p.m ≤ 100) (hN : (textF tag ls).length = N) :
    Calls Try.prog 26 #[.int .u8 (tag.toNat : Int), .slice A n c] w (Made8 w N (textF tag ls)) :=
  Text_300 tag A n c N ps ls hp hls hn (fun p h => Nat.le_trans (hm p h) (by omega)) hN
end
end Go.Proofs.Ytpdfalgjmeagjaa
