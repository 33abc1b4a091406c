/-
  A call as the statements of layer 5 make it upon a drive, and what it does.
-/
import Derived.Test.YtpdfalgjmeagjaaDrHalf
import Derived.Test.YtpdfalgjmeagjaaOc
namespace Go.Proofs.Ytpdfalgjmeagjaa
open Go.RowKit
set_option linter.unusedVariables false

section
variable {w : World} {base d p b f m : Nat} {S : Fl}
def Oc.kind5 (o : Oc) : Nat := if o.k = 1 ∨ o.k = 2 ∨ o.k = 3 ∨ o.k = 4 then 1 else if o.k = 5 then 2 else if o.k = 6 then 3 else if o.k = 7 then 4 else if o.k = 8 ∨ o.k = 9 then 5 else 0
def Fl.does5 (S : Fl) (f m : Nat) (o : Oc) : Fl × Nat := match o.kind5 with
  | 1 => S.dwrite f m o.s (o.l.take 200)
  | 2 => S.derase f m o.s
  | 3 => (S, S.dreadE m o.s (min o.a 300))
  | 4 => (S.arm o.a, 0)
  | 5 => (S.crash o.ks, 0)
  | _ => (S, 0)
theorem Fl.does5_ok (S : Fl) (f m : Nat) (o : Oc) (h : S.Ok) : (S.does5 f m o).1.n = S.n ∧ (S.does5 f m o).1.Ok := by
  unfold Fl.does5
  split
  · obtain ⟨h1, h2⟩ := S.dwrite_half f m o.s (o.l.take 200)
    refine ⟨h1, ?_⟩
    unfold Fl.Ok at *
    rw [h1, h2]
    exact h
  · exact S.derase_ok f m o.s h
  · exact ⟨rfl, h⟩
  · unfold Fl.arm
    split <;> exact ⟨rfl, h⟩
  · unfold Fl.crash
    split <;> exact ⟨rfl, .inl rfl⟩
  · exact ⟨rfl, h⟩
set_option maxHeartbeats 4000000 in
set_option maxRecDepth 100000 in
theorem does5_any (h : DrAt base w d p b f m S) (hok : S.Ok) (o : Oc) (ho : o.Ok base w) (hB : base ≤ w.heap.size) (S' : Fl) (r : Nat) (hr : S.does5 f m o = (S', r)) :
    Calls Try.prog 110 #[.pointer (some ⟨p, 0, none⟩), .pointer (some ⟨d, 0, none⟩), .agg o.cells.toArray] w fun e w' => e = .returned (.int .i64 (r : Int)) ∧ DrAt base w' d p b f m S' ∧ But p b w w' := by
  have hSn : S'.n = S.n := by
    have := (S.does5_ok f m o hok).1
    rwa [hr] at this
  obtain ⟨M, hM⟩ : ∃ M, M = min o.m 200 := ⟨_, rfl⟩
  have hM1 : M ≤ o.c := by have := ho.cap; omega
  have hcut := fun W => run_cut32 (w := W) o.A o.m o.c M hM1
  have hs70 : Sees w base o.A (cw (o.l.take 200)) := by
    have h1 := ho.sees.take_ 200
    rwa [show (cw o.l).take 200 = cw (o.l.take 200) from by simp only [cw, List.map_take]] at h1
  have hl70 : (o.l.take 200).length = M := by rw [List.length_take, ho.len, hM, Nat.min_comm]
  have hks := ho.sees2
  have hkl := ho.len2
  have has := ho.hs
  have haa := ho.ha
  obtain ⟨k, s, a, A, mm, c, l, B, q, dd, ks⟩ := o
  simp only at *
  generalize hl7 : l.take 200 = l7 at *
  have HS := Lib.hid has
  have HA := Lib.hid haa
  have HL7 := Lib.hid hl70
  have HKL := Lib.hid hkl
  have HM1 := Lib.hid hM1
  have HSN := Lib.hid hSn
  clear has haa ho hl70 hkl hSn
  rcases (by omega : (k = 1 ∨ k = 2 ∨ k = 3 ∨ k = 4) ∨ k = 5 ∨ k = 6 ∨ k = 7 ∨ (k = 8 ∨ k = 9) ∨ (k ≠ 1 ∧ k ≠ 2 ∧ k ≠ 3 ∧ k ≠ 4 ∧ k ≠ 5 ∧ k ≠ 6 ∧ k ≠ 7 ∧ k ≠ 8 ∧ k ≠ 9)) with hk | rfl | rfl | rfl | hk | hk
  · have hr' : S.dwrite f m s l7 = (S', r) := by
      rw [← hr]
      simp [Fl.does5, Oc.kind5, hk, hl7]
    have HR := Lib.hid hr'
    clear hr hr'
    rcases hk with rfl | rfl | rfl | rfl
    all_goals
      by_cases hm : mm ≤ 200
      · obtain rfl : M = mm := by omega
        clear hM
        go_enter Try.func110, Try.ntmps110
        go_wp2_with (with_reducible refine wpList_box (o := ⟨some 5, _, _, _, _, _⟩) rfl (.tmp 2) 181 rfl _ rfl 5 rfl (by decide) ?_; intro g w1 hg hF hB1; have f0 := hF.cell (j := 0) rfl; have f1 := hF.cell (j := 1) rfl; have f2 := hF.cell (j := 2) rfl; have f3 := hF.cell (j := 3) rfl; have f4 := hF.cell (j := 4) rfl; simp only [] at f0 f1 f2 f3 f4)
        have hN1 := h.below hB1
        have hBw1 := But.of_below (p := p) (b := b) hB1
        have hs71 := hs70.below (hB1.mono hB)
        have hks1 := hks.below (hB1.mono hB)
        have hBs := Nat.le_trans hB hB1.size
        refine (dWrite_any hN1 s HS.out.2 _ c A l7 (Off.of hN1.nor hBs hs71) HL7.out HM1.out S' r HR.out).mono ?_
        rintro e w2 ⟨rfl, hN2, hB2⟩
        have hBf := hBw1.then_ hB2
        clear hN1 hBw1 hB1 hB2 hF h
        go_wp2_with fail
        go_ret
        exact ⟨rfl, hN2, hBf⟩
      · obtain rfl : M = 200 := by omega
        clear hM
        go_enter Try.func110, Try.ntmps110
        go_wp2_with (with_reducible refine wpList_box (o := ⟨some 5, _, _, _, _, _⟩) rfl (.tmp 2) 181 rfl _ rfl 5 rfl (by decide) ?_; intro g w1 hg hF hB1; have f0 := hF.cell (j := 0) rfl; have f1 := hF.cell (j := 1) rfl; have f2 := hF.cell (j := 2) rfl; have f3 := hF.cell (j := 3) rfl; have f4 := hF.cell (j := 4) rfl; simp only [] at f0 f1 f2 f3 f4)
        have hN1 := h.below hB1
        have hBw1 := But.of_below (p := p) (b := b) hB1
        have hs71 := hs70.below (hB1.mono hB)
        have hks1 := hks.below (hB1.mono hB)
        have hBs := Nat.le_trans hB hB1.size
        refine (dWrite_any hN1 s HS.out.2 _ c A l7 (Off.of hN1.nor hBs hs71) HL7.out HM1.out S' r HR.out).mono ?_
        rintro e w2 ⟨rfl, hN2, hB2⟩
        have hBf := hBw1.then_ hB2
        clear hN1 hBw1 hB1 hB2 hF h
        go_wp2_with fail
        go_ret
        exact ⟨rfl, hN2, hBf⟩
  · have hr' : S.derase f m s = (S', r) := by
      rw [← hr]
      simp [Fl.does5, Oc.kind5]
    have HR := Lib.hid hr'
    clear hr hr'
    by_cases hm : mm ≤ 200
    · obtain rfl : M = mm := by omega
      clear hM
      go_enter Try.func110, Try.ntmps110
      go_wp2_with (with_reducible refine wpList_box (o := ⟨some 5, _, _, _, _, _⟩) rfl (.tmp 2) 181 rfl _ rfl 5 rfl (by decide) ?_; intro g w1 hg hF hB1; have f0 := hF.cell (j := 0) rfl; have f1 := hF.cell (j := 1) rfl; have f2 := hF.cell (j := 2) rfl; have f3 := hF.cell (j := 3) rfl; have f4 := hF.cell (j := 4) rfl; simp only [] at f0 f1 f2 f3 f4)
      have hN1 := h.below hB1
      have hBw1 := But.of_below (p := p) (b := b) hB1
      have hs71 := hs70.below (hB1.mono hB)
      have hks1 := hks.below (hB1.mono hB)
      have hBs := Nat.le_trans hB hB1.size
      refine (dErase_any hN1 s HS.out.2 S' r HR.out HSN.out).mono ?_
      rintro e w2 ⟨rfl, hN2, hB2⟩
      have hBf := hBw1.then_ hB2
      clear hN1 hBw1 hB1 hB2 hF h
      go_wp2_with fail
      go_ret
      exact ⟨rfl, hN2, hBf⟩
    · obtain rfl : M = 200 := by omega
      clear hM
      go_enter Try.func110, Try.ntmps110
      go_wp2_with (with_reducible refine wpList_box (o := ⟨some 5, _, _, _, _, _⟩) rfl (.tmp 2) 181 rfl _ rfl 5 rfl (by decide) ?_; intro g w1 hg hF hB1; have f0 := hF.cell (j := 0) rfl; have f1 := hF.cell (j := 1) rfl; have f2 := hF.cell (j := 2) rfl; have f3 := hF.cell (j := 3) rfl; have f4 := hF.cell (j := 4) rfl; simp only [] at f0 f1 f2 f3 f4)
      have hN1 := h.below hB1
      have hBw1 := But.of_below (p := p) (b := b) hB1
      have hs71 := hs70.below (hB1.mono hB)
      have hks1 := hks.below (hB1.mono hB)
      have hBs := Nat.le_trans hB hB1.size
      refine (dErase_any hN1 s HS.out.2 S' r HR.out HSN.out).mono ?_
      rintro e w2 ⟨rfl, hN2, hB2⟩
      have hBf := hBw1.then_ hB2
      clear hN1 hBw1 hB1 hB2 hF h
      go_wp2_with fail
      go_ret
      exact ⟨rfl, hN2, hBf⟩
  · have hr' : (S, S.dreadE m s (min a 300)) = (S', r) := by
      rw [← hr]
      simp [Fl.does5, Oc.kind5]
    have HR := Lib.hid hr'
    clear hr hr'
    by_cases hm : mm ≤ 200
    · obtain rfl : M = mm := by omega
      clear hM
      obtain ⟨rfl, hre⟩ : S = S' ∧ S.dreadE m s (min a 300) = r := by simpa using HR.out
      have HRE := Lib.hid hre
      clear hre
      by_cases ha3 : a ≤ 300
      · have ea : min a 300 = a := by omega
        rw [ea] at HRE
        clear ea
        go_enter Try.func110, Try.ntmps110
        go_wp2_with (with_reducible refine wpList_box (o := ⟨some 5, _, _, _, _, _⟩) rfl (.tmp 2) 181 rfl _ rfl 5 rfl (by decide) ?_; intro g w1 hg hF hB1; have f0 := hF.cell (j := 0) rfl; have f1 := hF.cell (j := 1) rfl; have f2 := hF.cell (j := 2) rfl; have f3 := hF.cell (j := 3) rfl; have f4 := hF.cell (j := 4) rfl; simp only [] at f0 f1 f2 f3 f4)
        have hN1 := h.below hB1
        have hBw1 := But.of_below (p := p) (b := b) hB1
        have hs71 := hs70.below (hB1.mono hB)
        have hks1 := hks.below (hB1.mono hB)
        have hBs := Nat.le_trans hB hB1.size
        refine (dRead_err hN1 s a HS.out.2 r HRE.out).mono ?_
        rintro e w2 ⟨Ax, nx, cx, rfl, hB2⟩
        have hBf := hBw1.then_ (But.of_below hB2)
        have hD2 := hN1.below hB2
        clear hN1 hBw1 hB1 hB2 hF h
        go_wp2_with fail
        go_ret
        exact ⟨rfl, hD2, hBf⟩
      · have ea : min a 300 = 300 := by omega
        have ha4 : 300 < a := by omega
        rw [ea] at HRE
        clear ea ha3
        go_enter Try.func110, Try.ntmps110
        go_wp2_with (with_reducible refine wpList_box (o := ⟨some 5, _, _, _, _, _⟩) rfl (.tmp 2) 181 rfl _ rfl 5 rfl (by decide) ?_; intro g w1 hg hF hB1; have f0 := hF.cell (j := 0) rfl; have f1 := hF.cell (j := 1) rfl; have f2 := hF.cell (j := 2) rfl; have f3 := hF.cell (j := 3) rfl; have f4 := hF.cell (j := 4) rfl; simp only [] at f0 f1 f2 f3 f4)
        have hN1 := h.below hB1
        have hBw1 := But.of_below (p := p) (b := b) hB1
        have hs71 := hs70.below (hB1.mono hB)
        have hks1 := hks.below (hB1.mono hB)
        have hBs := Nat.le_trans hB hB1.size
        refine (dRead_err hN1 s 300 HS.out.2 r HRE.out).mono ?_
        rintro e w2 ⟨Ax, nx, cx, rfl, hB2⟩
        have hBf := hBw1.then_ (But.of_below hB2)
        have hD2 := hN1.below hB2
        clear hN1 hBw1 hB1 hB2 hF h
        go_wp2_with fail
        go_ret
        exact ⟨rfl, hD2, hBf⟩
    · obtain rfl : M = 200 := by omega
      clear hM
      obtain ⟨rfl, hre⟩ : S = S' ∧ S.dreadE m s (min a 300) = r := by simpa using HR.out
      have HRE := Lib.hid hre
      clear hre
      by_cases ha3 : a ≤ 300
      · have ea : min a 300 = a := by omega
        rw [ea] at HRE
        clear ea
        go_enter Try.func110, Try.ntmps110
        go_wp2_with (with_reducible refine wpList_box (o := ⟨some 5, _, _, _, _, _⟩) rfl (.tmp 2) 181 rfl _ rfl 5 rfl (by decide) ?_; intro g w1 hg hF hB1; have f0 := hF.cell (j := 0) rfl; have f1 := hF.cell (j := 1) rfl; have f2 := hF.cell (j := 2) rfl; have f3 := hF.cell (j := 3) rfl; have f4 := hF.cell (j := 4) rfl; simp only [] at f0 f1 f2 f3 f4)
        have hN1 := h.below hB1
        have hBw1 := But.of_below (p := p) (b := b) hB1
        have hs71 := hs70.below (hB1.mono hB)
        have hks1 := hks.below (hB1.mono hB)
        have hBs := Nat.le_trans hB hB1.size
        refine (dRead_err hN1 s a HS.out.2 r HRE.out).mono ?_
        rintro e w2 ⟨Ax, nx, cx, rfl, hB2⟩
        have hBf := hBw1.then_ (But.of_below hB2)
        have hD2 := hN1.below hB2
        clear hN1 hBw1 hB1 hB2 hF h
        go_wp2_with fail
        go_ret
        exact ⟨rfl, hD2, hBf⟩
      · have ea : min a 300 = 300 := by omega
        have ha4 : 300 < a := by omega
        rw [ea] at HRE
        clear ea ha3
        go_enter Try.func110, Try.ntmps110
        go_wp2_with (with_reducible refine wpList_box (o := ⟨some 5, _, _, _, _, _⟩) rfl (.tmp 2) 181 rfl _ rfl 5 rfl (by decide) ?_; intro g w1 hg hF hB1; have f0 := hF.cell (j := 0) rfl; have f1 := hF.cell (j := 1) rfl; have f2 := hF.cell (j := 2) rfl; have f3 := hF.cell (j := 3) rfl; have f4 := hF.cell (j := 4) rfl; simp only [] at f0 f1 f2 f3 f4)
        have hN1 := h.below hB1
        have hBw1 := But.of_below (p := p) (b := b) hB1
        have hs71 := hs70.below (hB1.mono hB)
        have hks1 := hks.below (hB1.mono hB)
        have hBs := Nat.le_trans hB hB1.size
        refine (dRead_err hN1 s 300 HS.out.2 r HRE.out).mono ?_
        rintro e w2 ⟨Ax, nx, cx, rfl, hB2⟩
        have hBf := hBw1.then_ (But.of_below hB2)
        have hD2 := hN1.below hB2
        clear hN1 hBw1 hB1 hB2 hF h
        go_wp2_with fail
        go_ret
        exact ⟨rfl, hD2, hBf⟩
  · have hr' : (S.arm a, 0) = (S', r) := by
      rw [← hr]
      simp [Fl.does5, Oc.kind5]
    have HR := Lib.hid hr'
    clear hr hr'
    by_cases hm : mm ≤ 200
    · obtain rfl : M = mm := by omega
      clear hM
      go_enter Try.func110, Try.ntmps110
      go_wp2_with (with_reducible refine wpList_box (o := ⟨some 5, _, _, _, _, _⟩) rfl (.tmp 2) 181 rfl _ rfl 5 rfl (by decide) ?_; intro g w1 hg hF hB1; have f0 := hF.cell (j := 0) rfl; have f1 := hF.cell (j := 1) rfl; have f2 := hF.cell (j := 2) rfl; have f3 := hF.cell (j := 3) rfl; have f4 := hF.cell (j := 4) rfl; simp only [] at f0 f1 f2 f3 f4)
      have hN1 := h.below hB1
      have hBw1 := But.of_below (p := p) (b := b) hB1
      have hs71 := hs70.below (hB1.mono hB)
      have hks1 := hks.below (hB1.mono hB)
      have hBs := Nat.le_trans hB hB1.size
      obtain ⟨rfl, rfl⟩ : S.arm a = S' ∧ 0 = r := by simpa using HR.out
      refine (Arm_any hN1.nor a HA.out.2).mono ?_
      rintro e w2 ⟨rfl, hN2, hB2⟩
      have hBf := hBw1.then_ hB2
      have hD2 := hN1.turn hB2 hN2 HSN.out
      clear hN1 hBw1 hB1 hB2 hF h
      go_wp2_with fail
      go_ret
      exact ⟨rfl, hD2, hBf⟩
    · obtain rfl : M = 200 := by omega
      clear hM
      go_enter Try.func110, Try.ntmps110
      go_wp2_with (with_reducible refine wpList_box (o := ⟨some 5, _, _, _, _, _⟩) rfl (.tmp 2) 181 rfl _ rfl 5 rfl (by decide) ?_; intro g w1 hg hF hB1; have f0 := hF.cell (j := 0) rfl; have f1 := hF.cell (j := 1) rfl; have f2 := hF.cell (j := 2) rfl; have f3 := hF.cell (j := 3) rfl; have f4 := hF.cell (j := 4) rfl; simp only [] at f0 f1 f2 f3 f4)
      have hN1 := h.below hB1
      have hBw1 := But.of_below (p := p) (b := b) hB1
      have hs71 := hs70.below (hB1.mono hB)
      have hks1 := hks.below (hB1.mono hB)
      have hBs := Nat.le_trans hB hB1.size
      obtain ⟨rfl, rfl⟩ : S.arm a = S' ∧ 0 = r := by simpa using HR.out
      refine (Arm_any hN1.nor a HA.out.2).mono ?_
      rintro e w2 ⟨rfl, hN2, hB2⟩
      have hBf := hBw1.then_ hB2
      have hD2 := hN1.turn hB2 hN2 HSN.out
      clear hN1 hBw1 hB1 hB2 hF h
      go_wp2_with fail
      go_ret
      exact ⟨rfl, hD2, hBf⟩
  · have hr' : (S.crash ks, 0) = (S', r) := by
      rw [← hr]
      simp [Fl.does5, Oc.kind5, show ¬ (k = 1 ∨ k = 2 ∨ k = 3 ∨ k = 4) from by omega, show ¬ k = 5 from by omega, show ¬ k = 6 from by omega, show ¬ k = 7 from by omega, hk]
    have HR := Lib.hid hr'
    clear hr hr'
    rcases hk with rfl | rfl
    all_goals
      by_cases hm : mm ≤ 200
      · obtain rfl : M = mm := by omega
        clear hM
        go_enter Try.func110, Try.ntmps110
        go_wp2_with (with_reducible refine wpList_box (o := ⟨some 5, _, _, _, _, _⟩) rfl (.tmp 2) 181 rfl _ rfl 5 rfl (by decide) ?_; intro g w1 hg hF hB1; have f0 := hF.cell (j := 0) rfl; have f1 := hF.cell (j := 1) rfl; have f2 := hF.cell (j := 2) rfl; have f3 := hF.cell (j := 3) rfl; have f4 := hF.cell (j := 4) rfl; simp only [] at f0 f1 f2 f3 f4)
        have hN1 := h.below hB1
        have hBw1 := But.of_below (p := p) (b := b) hB1
        have hs71 := hs70.below (hB1.mono hB)
        have hks1 := hks.below (hB1.mono hB)
        have hBs := Nat.le_trans hB hB1.size
        obtain ⟨rfl, rfl⟩ : S.crash ks = S' ∧ 0 = r := by simpa using HR.out
        refine (Crash_any hN1.nor hok B q dd ks hBs hks1 HKL.out).mono ?_
        rintro e w2 ⟨rfl, hN2, hB2⟩
        have hBf := hBw1.then_ hB2
        have hD2 := hN1.turn hB2 hN2 HSN.out
        clear hN1 hBw1 hB1 hB2 hF h
        go_wp2_with fail
        go_ret
        exact ⟨rfl, hD2, hBf⟩
      · obtain rfl : M = 200 := by omega
        clear hM
        go_enter Try.func110, Try.ntmps110
        go_wp2_with (with_reducible refine wpList_box (o := ⟨some 5, _, _, _, _, _⟩) rfl (.tmp 2) 181 rfl _ rfl 5 rfl (by decide) ?_; intro g w1 hg hF hB1; have f0 := hF.cell (j := 0) rfl; have f1 := hF.cell (j := 1) rfl; have f2 := hF.cell (j := 2) rfl; have f3 := hF.cell (j := 3) rfl; have f4 := hF.cell (j := 4) rfl; simp only [] at f0 f1 f2 f3 f4)
        have hN1 := h.below hB1
        have hBw1 := But.of_below (p := p) (b := b) hB1
        have hs71 := hs70.below (hB1.mono hB)
        have hks1 := hks.below (hB1.mono hB)
        have hBs := Nat.le_trans hB hB1.size
        obtain ⟨rfl, rfl⟩ : S.crash ks = S' ∧ 0 = r := by simpa using HR.out
        refine (Crash_any hN1.nor hok B q dd ks hBs hks1 HKL.out).mono ?_
        rintro e w2 ⟨rfl, hN2, hB2⟩
        have hBf := hBw1.then_ hB2
        have hD2 := hN1.turn hB2 hN2 HSN.out
        clear hN1 hBw1 hB1 hB2 hF h
        go_wp2_with fail
        go_ret
        exact ⟨rfl, hD2, hBf⟩
  · have hr' : S = S' ∧ 0 = r := by
      have := hr
      simpa [Fl.does5, Oc.kind5, hk] using this
    obtain ⟨rfl, rfl⟩ := hr'
    clear hr
    obtain ⟨n1, n2, n3, n4, n5, n6, n7, n8, n9⟩ := hk
    have d1 : (k == 1) = false := beq_eq_false_iff_ne.2 n1
    have d2 : (k == 2) = false := beq_eq_false_iff_ne.2 n2
    have d3 : (k == 3) = false := beq_eq_false_iff_ne.2 n3
    have d4 : (k == 4) = false := beq_eq_false_iff_ne.2 n4
    have d5 : (k == 5) = false := beq_eq_false_iff_ne.2 n5
    have d6 : (k == 6) = false := beq_eq_false_iff_ne.2 n6
    have d7 : (k == 7) = false := beq_eq_false_iff_ne.2 n7
    have d8 : (k == 8) = false := beq_eq_false_iff_ne.2 n8
    have d9 : (k == 9) = false := beq_eq_false_iff_ne.2 n9
    clear n1 n2 n3 n4 n5 n6 n7 n8 n9
    by_cases hm : mm ≤ 200
    · obtain rfl : M = mm := by omega
      clear hM
      go_enter Try.func110, Try.ntmps110
      go_wp2_with (with_reducible refine wpList_box (o := ⟨some 5, _, _, _, _, _⟩) rfl (.tmp 2) 181 rfl _ rfl 5 rfl (by decide) ?_; intro g w1 hg hF hB1; have f0 := hF.cell (j := 0) rfl; have f1 := hF.cell (j := 1) rfl; have f2 := hF.cell (j := 2) rfl; have f3 := hF.cell (j := 3) rfl; have f4 := hF.cell (j := 4) rfl; simp only [] at f0 f1 f2 f3 f4)
      have hN1 := h.below hB1
      have hBw1 := But.of_below (p := p) (b := b) hB1
      have hs71 := hs70.below (hB1.mono hB)
      have hks1 := hks.below (hB1.mono hB)
      have hBs := Nat.le_trans hB hB1.size
      go_ret
      exact ⟨rfl, hN1, hBw1⟩
    · obtain rfl : M = 200 := by omega
      clear hM
      go_enter Try.func110, Try.ntmps110
      go_wp2_with (with_reducible refine wpList_box (o := ⟨some 5, _, _, _, _, _⟩) rfl (.tmp 2) 181 rfl _ rfl 5 rfl (by decide) ?_; intro g w1 hg hF hB1; have f0 := hF.cell (j := 0) rfl; have f1 := hF.cell (j := 1) rfl; have f2 := hF.cell (j := 2) rfl; have f3 := hF.cell (j := 3) rfl; have f4 := hF.cell (j := 4) rfl; simp only [] at f0 f1 f2 f3 f4)
      have hN1 := h.below hB1
      have hBw1 := But.of_below (p := p) (b := b) hB1
      have hs71 := hs70.below (hB1.mono hB)
      have hks1 := hks.below (hB1.mono hB)
      have hBs := Nat.le_trans hB hB1.size
      go_ret
      exact ⟨rfl, hN1, hBw1⟩
end
end Go.Proofs.Ytpdfalgjmeagjaa
