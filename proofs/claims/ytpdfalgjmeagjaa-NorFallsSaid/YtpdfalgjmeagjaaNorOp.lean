/-
  A call upon a flash as the statements write it down, and what it does.
-/
import Derived.Test.YtpdfalgjmeagjaaNorNew
import Derived.Test.YtpdfalgjmeagjaaOc
namespace Go.Proofs.Ytpdfalgjmeagjaa
open Go.RowKit
set_option linter.unusedVariables false

/-- Which call it is. -/
def Oc.kind (o : Oc) : Nat := if o.k = 1 ∨ o.k = 2 ∨ o.k = 3 ∨ o.k = 4 then 1 else if o.k = 5 ∨ o.k = 6 then 2 else if o.k = 7 then 3 else if o.k = 8 then 4 else if o.k = 9 ∨ o.k = 10 then 5 else 0
def Fl.does (S : Fl) (o : Oc) : Fl × Nat := match o.kind with
  | 1 => S.program o.s o.a (o.l.take 70)
  | 2 => S.erase o.s
  | 3 => S.rewrite o.s o.a (o.l.take 70)
  | 4 => (S.arm o.a, 0)
  | 5 => (S.crash o.ks, 0)
  | _ => (S, 0)
section
variable {w : World} {base p b : Nat} {S : Fl}
set_option maxHeartbeats 4000000 in
set_option maxRecDepth 100000 in
theorem does_any (h : NorAt base w p b S) (hok : S.Ok) (o : Oc) (ho : o.Ok base w) (hB : base ≤ w.heap.size) (S' : Fl) (r : Nat) (hr : S.does o = (S', r)) :
    Calls Try.prog 100 #[.pointer (some ⟨p, 0, none⟩), .agg o.cells.toArray] w fun e w' => e = .returned (.int .i64 (r : Int)) ∧ NorAt base w' p b S' ∧ But p b w w' := by
  obtain ⟨M, hM⟩ : ∃ M, M = min o.m 70 := ⟨_, rfl⟩
  have hM1 : M ≤ o.c := by have := ho.cap; omega
  have hcut := fun W => run_cut32 (w := W) o.A o.m o.c M hM1
  have hs70 : Sees w base o.A (cw (o.l.take 70)) := by
    have h1 := ho.sees.take_ 70
    rwa [show (cw o.l).take 70 = cw (o.l.take 70) from by simp only [cw, List.map_take]] at h1
  have hl70 : (o.l.take 70).length = M := by rw [List.length_take, ho.len, hM, Nat.min_comm]
  have hks := ho.sees2
  have hkl := ho.len2
  have has := ho.hs
  have haa := ho.ha
  obtain ⟨k, s, a, A, m, c, l, B, q, d, ks⟩ := o
  simp only at *
  generalize hl7 : l.take 70 = l7 at *
  have HS := Lib.hid has
  have HA := Lib.hid haa
  have HL7 := Lib.hid hl70
  have HKL := Lib.hid hkl
  clear has haa ho hl70 hkl
  rcases (by omega : (k = 1 ∨ k = 2 ∨ k = 3 ∨ k = 4) ∨ (k = 5 ∨ k = 6) ∨ k = 7 ∨ k = 8 ∨ (k = 9 ∨ k = 10) ∨ (k ≠ 1 ∧ k ≠ 2 ∧ k ≠ 3 ∧ k ≠ 4 ∧ k ≠ 5 ∧ k ≠ 6 ∧ k ≠ 7 ∧ k ≠ 8 ∧ k ≠ 9 ∧ k ≠ 10)) with hk | hk | rfl | rfl | hk | hk
  · have hr' : S.program s a l7 = (S', r) := by
      rw [← hr]
      simp [Fl.does, Oc.kind, hk, hl7]
    have HR := Lib.hid hr'
    clear hr hr'
    rcases hk with rfl | rfl | rfl | rfl
    all_goals
      by_cases hm : m ≤ 70
      · obtain rfl : M = m := by omega
        clear hM
        go_enter Try.func100, Try.ntmps100
        go_wp2_with (with_reducible refine wpList_box (o := ⟨some 3, _, _, _, _, _⟩) rfl (.tmp 1) 169 rfl _ rfl 5 rfl (by decide) ?_; intro g w1 hg hF hB1; have f0 := hF.cell (j := 0) rfl; have f1 := hF.cell (j := 1) rfl; have f2 := hF.cell (j := 2) rfl; have f3 := hF.cell (j := 3) rfl; have f4 := hF.cell (j := 4) rfl; simp only [] at f0 f1 f2 f3 f4)
        have hN1 := h.below hB1
        have hBw1 := But.of_below (p := p) (b := b) hB1
        have hs71 := hs70.below (hB1.mono hB)
        have hks1 := hks.below (hB1.mono hB)
        have hBs := Nat.le_trans hB hB1.size
        refine (Program_any hN1 s a HA.out _ c A l7 hBs hs71 HL7.out S' r HR.out).mono ?_
        rintro e w2 ⟨rfl, hN2, hB2⟩
        have hBf := hBw1.then_ hB2
        clear hN1 hBw1 hB1 hB2 hF h
        go_wp2_with fail
        go_ret
        exact ⟨rfl, hN2, hBf⟩
      · obtain rfl : M = 70 := by omega
        clear hM
        go_enter Try.func100, Try.ntmps100
        go_wp2_with (with_reducible refine wpList_box (o := ⟨some 3, _, _, _, _, _⟩) rfl (.tmp 1) 169 rfl _ rfl 5 rfl (by decide) ?_; intro g w1 hg hF hB1; have f0 := hF.cell (j := 0) rfl; have f1 := hF.cell (j := 1) rfl; have f2 := hF.cell (j := 2) rfl; have f3 := hF.cell (j := 3) rfl; have f4 := hF.cell (j := 4) rfl; simp only [] at f0 f1 f2 f3 f4)
        have hN1 := h.below hB1
        have hBw1 := But.of_below (p := p) (b := b) hB1
        have hs71 := hs70.below (hB1.mono hB)
        have hks1 := hks.below (hB1.mono hB)
        have hBs := Nat.le_trans hB hB1.size
        refine (Program_any hN1 s a HA.out _ c A l7 hBs hs71 HL7.out S' r HR.out).mono ?_
        rintro e w2 ⟨rfl, hN2, hB2⟩
        have hBf := hBw1.then_ hB2
        clear hN1 hBw1 hB1 hB2 hF h
        go_wp2_with fail
        go_ret
        exact ⟨rfl, hN2, hBf⟩
  · have hr' : S.erase s = (S', r) := by
      rw [← hr]
      simp [Fl.does, Oc.kind, show ¬ (k = 1 ∨ k = 2 ∨ k = 3 ∨ k = 4) from by omega, hk]
    have HR := Lib.hid hr'
    clear hr hr'
    rcases hk with rfl | rfl
    all_goals
      by_cases hm : m ≤ 70
      · obtain rfl : M = m := by omega
        clear hM
        go_enter Try.func100, Try.ntmps100
        go_wp2_with (with_reducible refine wpList_box (o := ⟨some 3, _, _, _, _, _⟩) rfl (.tmp 1) 169 rfl _ rfl 5 rfl (by decide) ?_; intro g w1 hg hF hB1; have f0 := hF.cell (j := 0) rfl; have f1 := hF.cell (j := 1) rfl; have f2 := hF.cell (j := 2) rfl; have f3 := hF.cell (j := 3) rfl; have f4 := hF.cell (j := 4) rfl; simp only [] at f0 f1 f2 f3 f4)
        have hN1 := h.below hB1
        have hBw1 := But.of_below (p := p) (b := b) hB1
        have hs71 := hs70.below (hB1.mono hB)
        have hks1 := hks.below (hB1.mono hB)
        have hBs := Nat.le_trans hB hB1.size
        refine (Erase_any hN1 s S' r HR.out HS.out).mono ?_
        rintro e w2 ⟨rfl, hN2, hB2⟩
        have hBf := hBw1.then_ hB2
        clear hN1 hBw1 hB1 hB2 hF h
        go_wp2_with fail
        go_ret
        exact ⟨rfl, hN2, hBf⟩
      · obtain rfl : M = 70 := by omega
        clear hM
        go_enter Try.func100, Try.ntmps100
        go_wp2_with (with_reducible refine wpList_box (o := ⟨some 3, _, _, _, _, _⟩) rfl (.tmp 1) 169 rfl _ rfl 5 rfl (by decide) ?_; intro g w1 hg hF hB1; have f0 := hF.cell (j := 0) rfl; have f1 := hF.cell (j := 1) rfl; have f2 := hF.cell (j := 2) rfl; have f3 := hF.cell (j := 3) rfl; have f4 := hF.cell (j := 4) rfl; simp only [] at f0 f1 f2 f3 f4)
        have hN1 := h.below hB1
        have hBw1 := But.of_below (p := p) (b := b) hB1
        have hs71 := hs70.below (hB1.mono hB)
        have hks1 := hks.below (hB1.mono hB)
        have hBs := Nat.le_trans hB hB1.size
        refine (Erase_any hN1 s S' r HR.out HS.out).mono ?_
        rintro e w2 ⟨rfl, hN2, hB2⟩
        have hBf := hBw1.then_ hB2
        clear hN1 hBw1 hB1 hB2 hF h
        go_wp2_with fail
        go_ret
        exact ⟨rfl, hN2, hBf⟩
  · have hr' : S.rewrite s a l7 = (S', r) := by
      rw [← hr]
      simp [Fl.does, Oc.kind, hl7]
    have HR := Lib.hid hr'
    clear hr hr'
    by_cases hm : m ≤ 70
    · obtain rfl : M = m := by omega
      clear hM
      go_enter Try.func100, Try.ntmps100
      go_wp2_with (with_reducible refine wpList_box (o := ⟨some 3, _, _, _, _, _⟩) rfl (.tmp 1) 169 rfl _ rfl 5 rfl (by decide) ?_; intro g w1 hg hF hB1; have f0 := hF.cell (j := 0) rfl; have f1 := hF.cell (j := 1) rfl; have f2 := hF.cell (j := 2) rfl; have f3 := hF.cell (j := 3) rfl; have f4 := hF.cell (j := 4) rfl; simp only [] at f0 f1 f2 f3 f4)
      have hN1 := h.below hB1
      have hBw1 := But.of_below (p := p) (b := b) hB1
      have hs71 := hs70.below (hB1.mono hB)
      have hks1 := hks.below (hB1.mono hB)
      have hBs := Nat.le_trans hB hB1.size
      refine (Rewrite_any hN1 s a HA.out _ c A l7 hBs hs71 HL7.out S' r HR.out).mono ?_
      rintro e w2 ⟨rfl, hN2, hB2⟩
      have hBf := hBw1.then_ hB2
      clear hN1 hBw1 hB1 hB2 hF h
      go_wp2_with fail
      go_ret
      exact ⟨rfl, hN2, hBf⟩
    · obtain rfl : M = 70 := by omega
      clear hM
      go_enter Try.func100, Try.ntmps100
      go_wp2_with (with_reducible refine wpList_box (o := ⟨some 3, _, _, _, _, _⟩) rfl (.tmp 1) 169 rfl _ rfl 5 rfl (by decide) ?_; intro g w1 hg hF hB1; have f0 := hF.cell (j := 0) rfl; have f1 := hF.cell (j := 1) rfl; have f2 := hF.cell (j := 2) rfl; have f3 := hF.cell (j := 3) rfl; have f4 := hF.cell (j := 4) rfl; simp only [] at f0 f1 f2 f3 f4)
      have hN1 := h.below hB1
      have hBw1 := But.of_below (p := p) (b := b) hB1
      have hs71 := hs70.below (hB1.mono hB)
      have hks1 := hks.below (hB1.mono hB)
      have hBs := Nat.le_trans hB hB1.size
      refine (Rewrite_any hN1 s a HA.out _ c A l7 hBs hs71 HL7.out S' r HR.out).mono ?_
      rintro e w2 ⟨rfl, hN2, hB2⟩
      have hBf := hBw1.then_ hB2
      clear hN1 hBw1 hB1 hB2 hF h
      go_wp2_with fail
      go_ret
      exact ⟨rfl, hN2, hBf⟩
  · have hr' : (S.arm a, 0) = (S', r) := by
      rw [← hr]
      simp [Fl.does, Oc.kind]
    have HR := Lib.hid hr'
    clear hr hr'
    by_cases hm : m ≤ 70
    · obtain rfl : M = m := by omega
      clear hM
      go_enter Try.func100, Try.ntmps100
      go_wp2_with (with_reducible refine wpList_box (o := ⟨some 3, _, _, _, _, _⟩) rfl (.tmp 1) 169 rfl _ rfl 5 rfl (by decide) ?_; intro g w1 hg hF hB1; have f0 := hF.cell (j := 0) rfl; have f1 := hF.cell (j := 1) rfl; have f2 := hF.cell (j := 2) rfl; have f3 := hF.cell (j := 3) rfl; have f4 := hF.cell (j := 4) rfl; simp only [] at f0 f1 f2 f3 f4)
      have hN1 := h.below hB1
      have hBw1 := But.of_below (p := p) (b := b) hB1
      have hs71 := hs70.below (hB1.mono hB)
      have hks1 := hks.below (hB1.mono hB)
      have hBs := Nat.le_trans hB hB1.size
      obtain ⟨rfl, rfl⟩ : S.arm a = S' ∧ 0 = r := by simpa using HR.out
      refine (Arm_any hN1 a HA.out.2).mono ?_
      rintro e w2 ⟨rfl, hN2, hB2⟩
      have hBf := hBw1.then_ hB2
      clear hN1 hBw1 hB1 hB2 hF h
      go_wp2_with fail
      go_ret
      exact ⟨rfl, hN2, hBf⟩
    · obtain rfl : M = 70 := by omega
      clear hM
      go_enter Try.func100, Try.ntmps100
      go_wp2_with (with_reducible refine wpList_box (o := ⟨some 3, _, _, _, _, _⟩) rfl (.tmp 1) 169 rfl _ rfl 5 rfl (by decide) ?_; intro g w1 hg hF hB1; have f0 := hF.cell (j := 0) rfl; have f1 := hF.cell (j := 1) rfl; have f2 := hF.cell (j := 2) rfl; have f3 := hF.cell (j := 3) rfl; have f4 := hF.cell (j := 4) rfl; simp only [] at f0 f1 f2 f3 f4)
      have hN1 := h.below hB1
      have hBw1 := But.of_below (p := p) (b := b) hB1
      have hs71 := hs70.below (hB1.mono hB)
      have hks1 := hks.below (hB1.mono hB)
      have hBs := Nat.le_trans hB hB1.size
      obtain ⟨rfl, rfl⟩ : S.arm a = S' ∧ 0 = r := by simpa using HR.out
      refine (Arm_any hN1 a HA.out.2).mono ?_
      rintro e w2 ⟨rfl, hN2, hB2⟩
      have hBf := hBw1.then_ hB2
      clear hN1 hBw1 hB1 hB2 hF h
      go_wp2_with fail
      go_ret
      exact ⟨rfl, hN2, hBf⟩
  · have hr' : (S.crash ks, 0) = (S', r) := by
      rw [← hr]
      simp [Fl.does, Oc.kind, show ¬ (k = 1 ∨ k = 2 ∨ k = 3 ∨ k = 4) from by omega, show ¬ (k = 5 ∨ k = 6) from by omega, show ¬ k = 7 from by omega, show ¬ k = 8 from by omega, hk]
    have HR := Lib.hid hr'
    clear hr hr'
    rcases hk with rfl | rfl
    all_goals
      by_cases hm : m ≤ 70
      · obtain rfl : M = m := by omega
        clear hM
        go_enter Try.func100, Try.ntmps100
        go_wp2_with (with_reducible refine wpList_box (o := ⟨some 3, _, _, _, _, _⟩) rfl (.tmp 1) 169 rfl _ rfl 5 rfl (by decide) ?_; intro g w1 hg hF hB1; have f0 := hF.cell (j := 0) rfl; have f1 := hF.cell (j := 1) rfl; have f2 := hF.cell (j := 2) rfl; have f3 := hF.cell (j := 3) rfl; have f4 := hF.cell (j := 4) rfl; simp only [] at f0 f1 f2 f3 f4)
        have hN1 := h.below hB1
        have hBw1 := But.of_below (p := p) (b := b) hB1
        have hs71 := hs70.below (hB1.mono hB)
        have hks1 := hks.below (hB1.mono hB)
        have hBs := Nat.le_trans hB hB1.size
        obtain ⟨rfl, rfl⟩ : S.crash ks = S' ∧ 0 = r := by simpa using HR.out
        refine (Crash_any hN1 hok B q d ks hBs hks1 HKL.out).mono ?_
        rintro e w2 ⟨rfl, hN2, hB2⟩
        have hBf := hBw1.then_ hB2
        clear hN1 hBw1 hB1 hB2 hF h
        go_wp2_with fail
        go_ret
        exact ⟨rfl, hN2, hBf⟩
      · obtain rfl : M = 70 := by omega
        clear hM
        go_enter Try.func100, Try.ntmps100
        go_wp2_with (with_reducible refine wpList_box (o := ⟨some 3, _, _, _, _, _⟩) rfl (.tmp 1) 169 rfl _ rfl 5 rfl (by decide) ?_; intro g w1 hg hF hB1; have f0 := hF.cell (j := 0) rfl; have f1 := hF.cell (j := 1) rfl; have f2 := hF.cell (j := 2) rfl; have f3 := hF.cell (j := 3) rfl; have f4 := hF.cell (j := 4) rfl; simp only [] at f0 f1 f2 f3 f4)
        have hN1 := h.below hB1
        have hBw1 := But.of_below (p := p) (b := b) hB1
        have hs71 := hs70.below (hB1.mono hB)
        have hks1 := hks.below (hB1.mono hB)
        have hBs := Nat.le_trans hB hB1.size
        obtain ⟨rfl, rfl⟩ : S.crash ks = S' ∧ 0 = r := by simpa using HR.out
        refine (Crash_any hN1 hok B q d ks hBs hks1 HKL.out).mono ?_
        rintro e w2 ⟨rfl, hN2, hB2⟩
        have hBf := hBw1.then_ hB2
        clear hN1 hBw1 hB1 hB2 hF h
        go_wp2_with fail
        go_ret
        exact ⟨rfl, hN2, hBf⟩
  · have hr' : S = S' ∧ 0 = r := by
      have := hr
      simpa [Fl.does, Oc.kind, hk] using this
    obtain ⟨rfl, rfl⟩ := hr'
    clear hr
    obtain ⟨n1, n2, n3, n4, n5, n6, n7, n8, n9, n10⟩ := hk
    have d1 : (k == 1) = false := beq_eq_false_iff_ne.2 n1
    have d2 : (k == 2) = false := beq_eq_false_iff_ne.2 n2
    have d3 : (k == 3) = false := beq_eq_false_iff_ne.2 n3
    have d4 : (k == 4) = false := beq_eq_false_iff_ne.2 n4
    have d5 : (k == 5) = false := beq_eq_false_iff_ne.2 n5
    have d6 : (k == 6) = false := beq_eq_false_iff_ne.2 n6
    have d7 : (k == 7) = false := beq_eq_false_iff_ne.2 n7
    have d8 : (k == 8) = false := beq_eq_false_iff_ne.2 n8
    have d9 : (k == 9) = false := beq_eq_false_iff_ne.2 n9
    have d10 : (k == 10) = false := beq_eq_false_iff_ne.2 n10
    clear n1 n2 n3 n4 n5 n6 n7 n8 n9 n10
    by_cases hm : m ≤ 70
    · obtain rfl : M = m := by omega
      clear hM
      go_enter Try.func100, Try.ntmps100
      go_wp2_with (with_reducible refine wpList_box (o := ⟨some 3, _, _, _, _, _⟩) rfl (.tmp 1) 169 rfl _ rfl 5 rfl (by decide) ?_; intro g w1 hg hF hB1; have f0 := hF.cell (j := 0) rfl; have f1 := hF.cell (j := 1) rfl; have f2 := hF.cell (j := 2) rfl; have f3 := hF.cell (j := 3) rfl; have f4 := hF.cell (j := 4) rfl; simp only [] at f0 f1 f2 f3 f4)
      have hN1 := h.below hB1
      have hBw1 := But.of_below (p := p) (b := b) hB1
      have hs71 := hs70.below (hB1.mono hB)
      have hks1 := hks.below (hB1.mono hB)
      have hBs := Nat.le_trans hB hB1.size
      go_ret
      exact ⟨rfl, hN1, hBw1⟩
    · obtain rfl : M = 70 := by omega
      clear hM
      go_enter Try.func100, Try.ntmps100
      go_wp2_with (with_reducible refine wpList_box (o := ⟨some 3, _, _, _, _, _⟩) rfl (.tmp 1) 169 rfl _ rfl 5 rfl (by decide) ?_; intro g w1 hg hF hB1; have f0 := hF.cell (j := 0) rfl; have f1 := hF.cell (j := 1) rfl; have f2 := hF.cell (j := 2) rfl; have f3 := hF.cell (j := 3) rfl; have f4 := hF.cell (j := 4) rfl; simp only [] at f0 f1 f2 f3 f4)
      have hN1 := h.below hB1
      have hBw1 := But.of_below (p := p) (b := b) hB1
      have hs71 := hs70.below (hB1.mono hB)
      have hks1 := hks.below (hB1.mono hB)
      have hBs := Nat.le_trans hB hB1.size
      go_ret
      exact ⟨rfl, hN1, hBw1⟩
end
end Go.Proofs.Ytpdfalgjmeagjaa
