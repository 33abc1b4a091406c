/-
  What blockhouselow.SameLists answers of two lists of byte strings.
-/
import Derived.Test.YtpdfalgjmeagjaaPb
import Derived.Test.YtpdfalgjmeagjaaCalls
import Derived.Test.YtpdfalgjmeagjaaApp1
import Derived.Test.YtpdfalgjmeagjaaLow
import Derived.BigQuiet
namespace Go.Proofs.Ytpdfalgjmeagjaa
open Go.RowKit
set_option linter.unusedVariables false
section
variable {w : World}
theorem lists_take (ls ms : List (List UInt8)) (k : Nat) (x y : List UInt8) (h : ls.take k = ms.take k) (hx : ls[k]? = some x) (hy : ms[k]? = some y) : ls.take (k + 1) = ms.take (k + 1) ↔ x = y := by
  rw [List.take_add_one, List.take_add_one, hx, hy, h]
  constructor
  · intro e
    have := List.append_cancel_left e
    simpa using this
  · rintro rfl
    rfl
set_option maxHeartbeats 1000000 in
set_option maxRecDepth 100000 in
theorem SameLists_any (A B : Option Addr) (n m c d : Nat) (ps qs : List Pb) (ls ms : List (List UInt8)) (hp : Parts w A n ps) (hq : Parts w B m qs) (hls : ps.map Pb.l = ls) (hms : qs.map Pb.l = ms) (r : Bool) (hr : (ls == ms) = r) (hn : n ≤ 1000) :
    Calls Try.prog 27 #[.slice A n c, .slice B m d] w fun e w' => e = .returned (.bool r) ∧ Below w.heap.size w w' := by
  have hln : ls.length = n := by rw [← hls, List.length_map]; exact hp.len
  have hlm : ms.length = m := by rw [← hms, List.length_map]; exact hq.len
  have HLN := Lib.hid hln
  have HLM := Lib.hid hlm
  have HLS := Lib.hid hls
  have HMS := Lib.hid hms
  have HR := Lib.hid hr
  clear hln hlm hls hms hr
  by_cases hnm : n = m
  · subst hnm
    have hb : (((n : Nat) : Int) != (n : Int)) = false := by simp
    go_enter Try.func27, Try.ntmps27
    go_wp2_with fail
    go_loopw [5] (fun i wr => ∃ k : Nat, k ≤ n ∧ i = .int .i64 k ∧ Hid (ls.take k = ms.take k) ∧ Below w.heap.size w wr) (fun i _ => n - (intOf i).toNat)
    case atStart => exact ⟨0, by omega, rfl, Lib.hid rfl, Below.refl _ _⟩
    case round =>
      obtain ⟨k, hk, rfl, HT, hB⟩ := hrel
      by_cases hlt : k < n
      · obtain ⟨g1, o1, rfl, p, HP, hpk, hc1⟩ := (hp.step hB).at_ hlt
        obtain ⟨g2, o2, rfl, q, HQ, hqk, hc2⟩ := (hq.step hB).at_ hlt
        have hx : ls[k]? = some p.l := by rw [← HLS.out, List.getElem?_map, HP.out]; rfl
        have hy : ms[k]? = some q.l := by rw [← HMS.out, List.getElem?_map, HQ.out]; rfl
        have HX := Lib.hid hx
        have HY := Lib.hid hy
        clear hx hy
        go_wp2_with fail
        go_quiet ((go_at_call 18; exact Calls.quiet_of ((SameBytes_any p.A q.A p.c q.c p.m q.m p.l q.l _ (hpk.sees.step (below_drewN' (Below.refl _ _) _)) (hqk.sees.step (below_drewN' (Below.refl _ _) _)) hpk.len hqk.len).mono fun _ _ h => ⟨h.1, 0, h.2.symm⟩)))
        by_cases he : p.l = q.l
        · rw [show (p.l == q.l) = true from beq_iff_eq.2 he]
          have hst := (lists_take ls ms k p.l q.l HT.out HX.out HY.out).2 he
          have HST := Lib.hid hst
          clear hst he
          go_wp2_with fail
          go_roundw
          case rel => exact ⟨k + 1, by omega, by go_num, HST, below_drewN' hB _⟩
          case measure => simp [intOf]; omega
        · rw [show (p.l == q.l) = false from beq_eq_false_iff_ne.2 he]
          have hne : ls ≠ ms := fun e => he (by
            have h1 := HX.out
            rw [e, HY.out] at h1
            injection h1 with h1
            exact h1.symm)
          have hf : r = false := by rw [← HR.out]; exact beq_eq_false_iff_ne.2 hne
          subst hf
          clear he hne
          go_wp2_with fail
          go_ret
          exact ⟨rfl, below_drewN' hB _⟩
      · obtain rfl : k = n := by omega
        have e := HT.out
        rw [List.take_of_length_le (by rw [HLN.out]; exact Nat.le_refl _), List.take_of_length_le (by rw [HLM.out]; exact Nat.le_refl _)] at e
        have hf : r = true := by rw [← HR.out]; exact beq_iff_eq.2 e
        subst hf
        clear e
        go_wp2_with fail
        go_ret
        exact ⟨rfl, hB⟩
  · have hb : (((n : Nat) : Int) != (m : Int)) = true := by simp; omega
    have hne : ls ≠ ms := fun e => hnm (by rw [← HLN.out, ← HLM.out, e])
    have hf : r = false := by rw [← HR.out]; exact beq_eq_false_iff_ne.2 hne
    subst hf
    go_enter Try.func27, Try.ntmps27
    go_wp2_with fail
    go_ret
    exact ⟨rfl, Below.refl _ _⟩
end
end Go.Proofs.Ytpdfalgjmeagjaa
