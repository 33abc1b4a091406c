/-
  What the flash's small inner functions answer: power, places, a step, a sector of ones; and what is told of a flash without changing it.
-/
import Derived.Test.YtjmofjcdcmbecaaNorMem
import Derived.Test.YtjmofjcdcmbecaaAbsKnow
import Derived.KernelRfl
namespace Go.Proofs.Ytjmofjcdcmbecaa
open Go.RowKit
set_option linter.unusedVariables false

/-- What a call that needs power ends with at once. -/
def Fl.power (S : Fl) : Nat := match S.down with
  | true => 40
  | false => 0
def Fl.sector (S : Fl) (s : Int) : Bool := decide (0 ≤ s) && decide (s < (S.n : Int))
def Fl.place (S : Fl) (s a : Int) (m : Nat) : Bool := S.sector s && decide (0 ≤ a) && decide ((m : Int) ≤ 64 - a)
def Fl.step (S : Fl) : Fl × Bool := match S.armed, S.left with
  | false, _ => (S, true)
  | true, 0 => ({ S with armed := false, down := true }, false)
  | true, l + 1 => ({ S with left := l }, true)

theorem wrapI (x : Int) (h : -9223372036854775808 ≤ x) (h' : x < 9223372036854775808) : IntKind.i64.wrap x = x := by
  rw [IntKind.wrap_i64]
  omega
theorem wrap64I (x : Int) (h : -9223372036854775808 ≤ x) (h' : x < 9223372036854775808) : wrap64 x = x := by
  unfold wrap64
  omega
section
variable {w : World} {base p b : Nat} {S : Fl}
theorem power_any (h : NorAt base w p b S) : Calls Try.prog 100 #[.pointer (some ⟨p, 0, none⟩)] w fun e w' => e = .returned (.int .i64 (S.power : Int)) ∧ w' = w := by
  obtain ⟨-, -, -, -, -, c5, -⟩ := h.c
  cases hd : S.down
  · have hp : S.power = 0 := by simp [Fl.power, hd]
    rw [hp]
    rw [hd] at c5
    go_enter Try.func100, Try.ntmps100
    go_wp2_with fail
    refine (isFlash_any h).mono ?_
    rintro e w1 ⟨rfl, rfl⟩
    go_wp2_with fail
    go_ret
    exact ⟨rfl, rfl⟩
  · have hp : S.power = 40 := by simp [Fl.power, hd]
    rw [hp]
    rw [hd] at c5
    go_enter Try.func100, Try.ntmps100
    go_wp2_with fail
    refine (isFlash_any h).mono ?_
    rintro e w1 ⟨rfl, rfl⟩
    go_wp2_with fail
    go_ret
    exact ⟨rfl, rfl⟩
theorem hasSector_any (h : NorAt base w p b S) (s : Int) : Calls Try.prog 106 #[.pointer (some ⟨p, 0, none⟩), .int .i64 s] w fun e w' => e = .returned (.bool (S.sector s)) ∧ w' = w := by
  obtain ⟨-, c1, -⟩ := h.c
  by_cases h0 : 0 ≤ s
  · have d0 : S.sector s = decide (s < (S.n : Int)) := by simp [Fl.sector, h0]
    rw [d0]
    clear d0
    go_enter Try.func106, Try.ntmps106
    go_wp2_with fail
    go_ret
    exact ⟨rfl, rfl⟩
  · have d0 : S.sector s = false := by simp [Fl.sector, h0]
    rw [d0]
    clear d0
    go_enter Try.func106, Try.ntmps106
    go_wp2_with fail
    go_ret
    exact ⟨rfl, rfl⟩
theorem hasPlace_any (h : NorAt base w p b S) (s a : Int) (m : Nat) (ha : -9223372036854775808 ≤ a ∧ a < 9223372036854775808) : Calls Try.prog 101 #[.pointer (some ⟨p, 0, none⟩), .int .i64 s, .int .i64 a, .int .i64 (m : Int)] w fun e w' => e = .returned (.bool (S.place s a m)) ∧ w' = w := by
  have hc := hasSector_any h s
  have hpl : S.place s a m = (S.sector s && decide (0 ≤ a) && decide ((m : Int) ≤ 64 - a)) := rfl
  revert hc hpl
  generalize S.place s a m = r
  generalize S.sector s = q
  intro hc hpl
  cases q
  · obtain rfl : r = false := by simpa using hpl
    clear hpl
    go_enter Try.func101, Try.ntmps101
    go_wp2_with fail
    refine hc.mono ?_
    rintro e w1 ⟨rfl, rfl⟩
    go_wp2_with fail
    go_ret
    exact ⟨rfl, rfl⟩
  · by_cases h0 : 0 ≤ a
    · have e : IntKind.i64.wrap (64 - a) = 64 - a := wrapI _ (by omega) (by omega)
      have e' : wrap64 (64 - a) = 64 - a := wrap64I _ (by omega) (by omega)
      obtain rfl : r = decide ((m : Int) ≤ 64 - a) := by simpa [h0] using hpl
      clear hpl ha
      go_enter Try.func101, Try.ntmps101
      go_wp2_with fail
      refine hc.mono ?_
      rintro e w1 ⟨rfl, rfl⟩
      go_wp2_with fail
      go_ret
      exact ⟨rfl, rfl⟩
    · obtain rfl : r = false := by simpa [h0] using hpl
      clear hpl ha
      go_enter Try.func101, Try.ntmps101
      go_wp2_with fail
      refine hc.mono ?_
      rintro e w1 ⟨rfl, rfl⟩
      go_wp2_with fail
      go_ret
      exact ⟨rfl, rfl⟩
theorem Fl.step_left (S : Fl) (h : S.left < 9223372036854775808) : S.step.1.left < 9223372036854775808 := by
  obtain ⟨n, ws, g, ar, l, d, hf⟩ := S
  cases ar
  · exact h
  · cases l
    · exact h
    · exact Nat.lt_of_succ_lt h
/-- A step. -/
theorem step_any (h : NorAt base w p b S) (S' : Fl) (r : Bool) (hs : S.step = (S', r)) : Calls Try.prog 102 #[.pointer (some ⟨p, 0, none⟩)] w fun e w' => e = .returned (.bool r) ∧ NorAt base w' p b S' ∧ But p b w w' := by
  obtain ⟨-, -, -, c3, c4, c5, -⟩ := h.c
  have z3 := h.z 3
  have z4 := h.z 4
  have z5 := h.z 5
  cases ha : S.armed
  · obtain ⟨rfl, rfl⟩ : S = S' ∧ true = r := by simpa [Fl.step, ha] using hs
    clear hs
    rw [ha] at c3
    go_enter Try.func102, Try.ntmps102
    go_wp2_with fail
    go_ret
    exact ⟨rfl, h, But.refl _ _ _⟩
  · rw [ha] at c3
    rcases hl : S.left with _ | l
    · obtain ⟨rfl, rfl⟩ : { S with armed := false, down := true } = S' ∧ false = r := by simpa [Fl.step, ha, hl] using hs
      clear hs
      rw [hl] at c4
      go_enter Try.func102, Try.ntmps102
      go_wp2_with fail
      go_ret
      refine ⟨rfl, ?_, ?_⟩
      · have h1 := h.field 3 (.bool false) { S with armed := false } rfl rfl rfl h.left_le
        exact h1.field 5 (.bool true) { S with armed := false, down := true } rfl rfl rfl h.left_le
      · exact (But.set p b p 3 _ (.inl rfl)).then_ (But.set p b p 5 _ (.inl rfl))
    · obtain ⟨rfl, rfl⟩ : { S with left := l } = S' ∧ true = r := by simpa [Fl.step, ha, hl] using hs
      clear hs
      rw [hl] at c4
      have hle := h.left_le
      rw [hl] at hle
      have e := Lib.hid (wrap64I (l : Int) (by omega) (by omega))
      clear hle
      have hz0 : decide (((l + 1 : Nat) : Int) = 0) = false := by simp; omega
      go_enter Try.func102, Try.ntmps102
      go_wp2_with fail
      go_ret
      refine ⟨rfl, ?_, But.set p b p 4 _ (.inl rfl)⟩
      rw [e.out]
      exact h.field 4 (.int .i64 (l : Int)) { S with left := l } rfl rfl rfl (by have := h.left_le; show l < _; omega)
end
end Go.Proofs.Ytjmofjcdcmbecaa
