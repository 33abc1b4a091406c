/-
  How a count begins, and what it is behind a fall: over plain data.
-/
import Derived.Test.YtpdfalgjmeagjaaTallyFall
import Derived.Test.YtpdfalgjmeagjaaNorNew
import Derived.Test.YtpdfalgjmeagjaaNors
namespace Go.Proofs.Ytpdfalgjmeagjaa
open Go.RowKit
set_option linter.unusedVariables false

theorem made2_two : Two (Fl.made 2 2) 0 := ⟨by decide, by simp [Fl.made]⟩
theorem made2_sec (σ : Nat) (hσ : σ < 2) : (Fl.made 2 2).sec 0 σ = ones64 := by
  rcases (show σ = 0 ∨ σ = 1 by omega) with rfl | rfl
  · kernel_rfl
  · kernel_rfl
/-- What a tally of a flash is good for: it is up, and no base is 0. -/
structure Risen (S : Fl) (c : Nat) : Prop where
  up : Up6 S 0
  nz : Nz S 0
  n : S.n = 2
  count : (S.tlook 0).2.1 = c
theorem risen_zero : Risen (Fl.made 2 2) 0 :=
  ⟨⟨made2_two, rfl, rfl, rfl⟩, fun τ hτ => by rw [made2_sec τ hτ]; simp [ones64, List.replicate_succ], rfl, by kernel_rfl⟩
theorem risen_base {b : Nat} (h0 : b ≠ 0) (hb : b < 2147483648) : ∃ S, (Fl.made 2 2).dwrite 0 2 0 (base2 b) = (S, 0) ∧ Risen S b := by
  obtain ⟨T, hT, ha⟩ := Fl.prog_up (base2 b) (Fl.made 2 2) (64 * 0 + (64 * 0 + 0)) rfl
  obtain ⟨e1, e2, e3, e4⟩ := dwrite_yes (σ := 0) (l := base2 b) made2_two rfl (by omega) (by rw [base2_len]; omega) (by rw [made2_sec 0 (by omega)]; exact sets_base _) hT 0 rfl
  obtain ⟨k1, k2⟩ := prog_keep_half hT
  rw [made2_sec 0 (by omega), splice_base] at e3
  have e4' := e4 1 (by omega) (by omega)
  rw [made2_sec 1 (by omega)] at e4'
  refine ⟨T, e1, ⟨e2, (Fl.prog_keep _ _ _ _ hT).1, ha, k2⟩, fun τ hτ => ?_, k1, ?_⟩
  · rcases (show τ = 0 ∨ τ = 1 by omega) with rfl | rfl
    · rw [e3]
      simp only [base2, List.cons_append, List.getElem?_cons_zero, ne_eq, Option.some.injEq]
      intro q
      have := (base2_nat (c := b) (by omega)).1
      rw [q] at this
      simp at this
      omega
    · rw [e4']
      simp [ones64, List.replicate_succ]
  · unfold Fl.tlook
    rw [look_cnt, e3, e4', cnt_base (by omega) 62, show ones64 = List.replicate (62 + 2) 4294967295 from rfl, cnt_ones]
    simp
/-- One Step more. -/
theorem Risen.step {S : Fl} {c : Nat} (h : Risen S c) (hc : c < 2147483648) (last : Nat) : ∃ T, S.tstep 0 last false = (T, 0, c + 1, false) ∧ Risen T (c + 1) := by
  obtain ⟨T, e1, e2, e3, e4⟩ := tstep_up h.up h.count hc last
  exact ⟨T, e1, e2, e4.nz h.nz hc, e3.trans h.n, e4.count h.count hc⟩
/-- A Step that may fail, and the crash behind it: the count is what it was told. -/
theorem Risen.fall {S : Fl} {c : Nat} (h : Risen S c) (hc : c ≤ 2147483648) (last a : Nat) (ks : List Bool) : ∃ T r last' over' c', (S.arm (a : Int)).tstep 0 last false = (T, r, last', over') ∧ T.n = 2 ∧ T.Ok ∧ Risen (T.crash ks) c' ∧ c' = (if r = 0 then c + 1 else c) ∧ c' ≤ 2147483648 := by
  by_cases hlt : c < 2147483648
  · obtain ⟨T, r, e1, e2, e3, e4, e5, e6, e7⟩ := tstep_armed h.up h.nz h.count hlt last a ks
    refine ⟨T, r, _, _, if r = 0 then c + 1 else c, e1, e2.trans h.n, e3, ?_, rfl, by split <;> omega⟩
    by_cases hr : r = 0
    · rw [if_pos hr]
      exact ⟨e4, (e6 hr).nz h.nz hlt, e5.trans h.n, (e6 hr).count h.count hlt⟩
    · rw [if_neg hr]
      exact ⟨e4, (e7 hr).nz h.nz, e5.trans h.n, (e7 hr).count h.count⟩
  · obtain rfl : c = 2147483648 := by omega
    obtain ⟨R, hR⟩ : ∃ R, R = S.arm (a : Int) := ⟨_, rfl⟩
    have hRw : R.ws = S.ws ∧ R.down = false ∧ R.n = S.n ∧ R.half = -1 := by
      rw [hR]
      simp [Fl.arm, h.up.down, h.up.half]
    obtain ⟨r1, r2, r3, r4⟩ := hRw
    rw [← hR]
    have hs : ∀ σ, R.sec 0 σ = S.sec 0 σ := fun σ => sec_of_ws r1 0 σ
    have hl : (R.tlook 0).2.1 = 2147483648 := by
      have := h.count
      unfold Fl.tlook at this ⊢
      rw [hs, hs]
      exact this
    obtain ⟨w1, w2, w3, w4, w5⟩ := crash_same 0 r4 ks
    have hsc : ∀ σ, (R.crash ks).sec 0 σ = S.sec 0 σ := fun σ => (sec_of_ws w1 0 σ).trans (hs σ)
    refine ⟨R, 5, 2147483648, false, 2147483648, ?_, r3.trans h.n, .inl r4, ⟨⟨(h.up.two.of_ws r1 r3).of_ws w1 w2, w3, w4, w5⟩, fun τ hτ => by rw [hsc]; exact h.nz τ hτ, w2.trans (r3.trans h.n), ?_⟩, rfl, Nat.le_refl _⟩
    · unfold Fl.tstep
      rw [r2, hl]
      rfl
    · have := h.count
      unfold Fl.tlook at this ⊢
      rw [hsc, hsc]
      exact this
end Go.Proofs.Ytpdfalgjmeagjaa
