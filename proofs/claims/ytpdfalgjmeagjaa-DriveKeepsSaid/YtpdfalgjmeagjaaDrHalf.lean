/-
  What a drive's calls leave of its flash: as many sectors, what is half erased; the error that Read ends with.
-/
import Derived.Test.YtpdfalgjmeagjaaDrives
import Derived.Test.YtpdfalgjmeagjaaDrPure
import Derived.Test.YtpdfalgjmeagjaaNorCrash
namespace Go.Proofs.Ytpdfalgjmeagjaa
open Go.RowKit
set_option linter.unusedVariables false

section
variable {w : World} {base d p b f m : Nat} {S : Fl}
/-- The error that Read ends with, or none. -/
def Fl.dreadE (S : Fl) (m : Nat) (a k : Int) : Nat := match wordsOk m a k, S.down with
  | true, false => 0
  | true, true => 40
  | false, _ => 2
theorem dRead_err (h : DrAt base w d p b f m S) (a k : Int) (ha : a < 9223372036854775808) (r : Nat) (hr : S.dreadE m a k = r) :
    Calls Try.prog 39 #[.pointer (some ⟨d, 0, none⟩), .int .i64 a, .int .i64 k] w fun e w' =>
      ∃ A n c, e = .returned (.tuple #[.slice A n c, .int .i64 (r : Int)]) ∧ Below w.heap.size w w' := by
  by_cases hno : wordsOk m a k = false ∨ S.down = true
  · have e : readErr S m a k = r := by
      rw [← hr]
      unfold readErr Fl.dreadE
      rcases hno with h1 | h1
      · rw [h1]
      · rw [h1]
        cases wordsOk m a k <;> rfl
    refine (dRead_no h a k ha hno).mono ?_
    rintro _ _ ⟨rfl, rfl⟩
    rw [e]
    exact ⟨_, _, _, rfl, Below.refl _ _⟩
  · have h1 : wordsOk m a k = true := by
      cases h1 : wordsOk m a k
      · exact absurd (.inl h1) hno
      · rfl
    have h2 : S.down = false := by
      cases h2 : S.down
      · rfl
      · exact absurd (.inr h2) hno
    obtain ⟨at_, many, rfl, rfl, hok⟩ := wordsOk_out h1
    obtain rfl : 0 = r := by rw [← hr]; simp [Fl.dreadE, h1, h2]
    refine (dRead_ok h h2 at_ many hok).mono ?_
    rintro _ _ ⟨A, c, rfl, _, hB⟩
    exact ⟨_, _, _, rfl, hB⟩
theorem Fl.dwrite_half (S : Fl) (f m : Nat) (a : Int) (l : List UInt32) : (S.dwrite f m a l).1.n = S.n ∧ (S.dwrite f m a l).1.half = S.half := by
  unfold Fl.dwrite
  split
  · exact ⟨rfl, rfl⟩
  · exact ⟨rfl, rfl⟩
  · split
    · exact ⟨rfl, rfl⟩
    · have h1 := Fl.prog_half l S (64 * f + a.toNat)
      revert h1
      rcases S.prog (64 * f + a.toNat) l with ⟨T, _ | _⟩ <;> intro h1 <;> exact h1
theorem Fl.derase_ok (S : Fl) (f m : Nat) (s : Int) (h : S.Ok) : (S.derase f m s).1.n = S.n ∧ (S.derase f m s).1.Ok := by
  unfold Fl.derase
  split
  · exact ⟨rfl, h⟩
  · unfold Fl.erase
    split
    · exact ⟨rfl, h⟩
    · exact ⟨rfl, h⟩
    · rename_i hs
      have h1 := S.step_half
      revert h1
      rcases S.step with ⟨T, _ | _⟩
      · intro h1
        refine ⟨h1.1, .inr ?_⟩
        simp [Fl.sector] at hs
        obtain ⟨σ, hσ⟩ := Int.eq_ofNat_of_zero_le hs.1
        refine ⟨σ, hσ, ?_⟩
        have h2 : T.n = S.n := h1.1
        show σ < T.n
        omega
      · intro h1
        refine ⟨h1.1, ?_⟩
        unfold Fl.Ok at *
        have h2 : T.n = S.n := h1.1
        have h3 : T.half = S.half := h1.2
        show T.half = -1 ∨ ∃ σ : Nat, T.half = (σ : Int) ∧ σ < T.n
        rw [h2, h3]
        exact h
end
end Go.Proofs.Ytpdfalgjmeagjaa
