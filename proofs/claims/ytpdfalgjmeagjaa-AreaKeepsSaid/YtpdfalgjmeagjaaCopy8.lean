/-
  What CopyLists answers of a list of byte strings: copies, each in a block of its own.
-/
import Derived.Test.YtpdfalgjmeagjaaAreas
namespace Go.Proofs.Ytpdfalgjmeagjaa
open Go.RowKit
set_option linter.unusedVariables false
section
variable {w : World}
set_option maxHeartbeats 1000000 in
set_option maxRecDepth 100000 in
theorem CopyLists8_any (A : Option Addr) (n c : Nat) (ps : List Pb) (hp : Parts w A n ps) (hn : n ≤ 1000) (hm : ∀ p ∈ ps, p.m ≤ 4096) : Calls Try.prog 69 #[.slice A n c] w fun e w' => ∃ A' c' qs, e = .returned (.slice A' n c') ∧ qs.length = n ∧ Recs w.heap.size w' A' c' qs ∧ qs.map Pb.l = ps.map Pb.l ∧ Below w.heap.size w w' := by
  have HL := Lib.hid hp.len
  go_enter Try.func69, Try.ntmps69
  go_wp2_with fail
  go_loopw [3, 4] (fun v i wr => ∃ (k : Nat) (A' : Option Addr) (c' : Nat) (qs : List Pb), k ≤ n ∧ i = .int .i64 k ∧ v = .slice A' k c' ∧ Fresh w.heap.size 27 wr A' k c' (qs.map Pb.cell) ∧ (∀ q ∈ qs, Fresh w.heap.size 5 wr q.A q.m q.c (cb q.l)) ∧ qs.map Pb.l = (ps.take k).map Pb.l ∧ Below w.heap.size w wr) (fun _ i _ => n - (intOf i).toNat)
  case atStart => exact ⟨0, none, 0, [], by omega, rfl, rfl, World.ownsRow_nil _ _ _ _, by simp, by simp, Below.refl _ _⟩
  case round =>
    obtain ⟨k, A', c', qs, hk, rfl, rfl, hF, hR, h1, hB⟩ := hrel
    have HH1 := Lib.hid h1
    clear h1
    by_cases hlt : k < n
    · obtain ⟨g, o, rfl, p, HP, hpk, hc⟩ := (hp.step hB).at_ hlt
      have hpm := hm p (List.mem_of_getElem? HP.out)
      have hbs := hB.size
      go_wp2_with fail
      refine (CopyBytes_any p.A p.c p.m p.l wr hpk.sees hpk.len (by omega)).mono ?_
      rintro e w2 ⟨A1, c1, rfl, hF1, hB1⟩
      have hB2 := Below.then_ hB hB1
      have hz := hB2.size
      have hba := below_alloc w2 (.cells #[.slice A1 p.m c1] 27)
      have hF3 := (hF.below hB1).below hba
      have hN3 := (hF1.below hba).lower hbs
      have hR3 : ∀ q ∈ qs, Fresh w.heap.size 5 (w2.alloc (.cells #[.slice A1 p.m c1] 27)) q.A q.m q.c (cb q.l) := fun q hq => ((hR q hq).below hB1).below hba
      have hcell : (w2.alloc (.cells #[.slice A1 p.m c1] 27)).cell? ⟨w2.heap.size, 0, none⟩ = some (.slice A1 p.m c1) := by
        rw [World.cell?_alloc_mark]; rfl
      go_wp2_with (at_builtin; refine wpList_one rfl (.tmp 11) (.tmp 17) 48 27 (.slice none 0 0) 24 rfl Try.underlying48 (by kernel_rfl) rfl (by omega) A' k c' w2.heap.size _ (.slice A1 p.m c1) w rfl rfl hF3 hcell rfl (by omega) (Below.then_ hB2 hba) ?_; intro A2 c2 w3 hF4 hB4 hgr)
      go_roundw
      case rel =>
        refine ⟨k + 1, A2, c2, qs ++ [⟨A1, p.m, c1, p.l⟩], by omega, by go_num, rfl, ?_, fun q hq => ?_, ?_, hB4⟩
        · rw [List.map_append]
          exact hF4
        · have hfr : Fresh w.heap.size 5 (w2.alloc (.cells #[.slice A1 p.m c1] 27)) q.A q.m q.c (cb q.l) := by
            rcases List.mem_append.1 hq with h1 | h1
            · exact hR3 q h1
            · simp at h1
              subst h1
              exact hN3
          exact World.ownsRow.kept hfr hgr (fresh_unlike hfr hF3 (by decide))
        · rw [List.map_append, HH1.out, List.take_add_one, HP.out, List.map_append]; rfl
      case measure => simp [intOf]; omega
    · obtain rfl : k = n := by omega
      have e1 := HH1.out
      rw [List.take_of_length_le (by rw [HL.out]; exact Nat.le_refl _)] at e1
      have hql : qs.length = k := by have := hF.len; simpa using this
      go_wp2_with fail
      go_ret
      exact ⟨A', c', qs, rfl, hql, ⟨by rw [hql]; exact hF, hR⟩, e1, hB⟩
end
end Go.Proofs.Ytpdfalgjmeagjaa
