/-
  What the calls upon a flash leave: as many sectors, and what is half erased is a sector.
-/
import Derived.Test.YtcfjbllmaejiaaaNorCrash
import Derived.Test.YtcfjbllmaejiaaaNors
namespace Go.Proofs.Ytcfjbllmaejiaaa
open Go.RowKit
set_option linter.unusedVariables false

theorem Fl.step_nh (S : Fl) : S.step.1.n = S.n ∧ S.step.1.half = S.half := by
  obtain ⟨n, ws, g, ar, l, d, hf⟩ := S
  cases ar
  · exact ⟨rfl, rfl⟩
  · cases l <;> exact ⟨rfl, rfl⟩
theorem Fl.prog_nh : ∀ (l : List UInt32) (S : Fl) (j : Nat), (S.prog j l).1.n = S.n ∧ (S.prog j l).1.half = S.half
  | [], S, j => ⟨rfl, rfl⟩
  | x :: l, S, j => by
    have h1 := S.step_nh
    rw [Fl.prog]
    split
    · rename_i T hT
      rw [hT] at h1
      have h2 := Fl.prog_nh l (T.put1 j x) (j + 1)
      exact ⟨h2.1.trans h1.1, h2.2.trans h1.2⟩
    · rename_i T hT
      rw [hT] at h1
      exact h1
theorem Fl.Ok.same {S T : Fl} (h : S.Ok) (h1 : T.n = S.n) (h2 : T.half = S.half) : T.n = S.n ∧ T.Ok := ⟨h1, by unfold Fl.Ok at *; rw [h1, h2]; exact h⟩
theorem Fl.program_ok {S T : Fl} {s a : Int} {l : List UInt32} {r : Nat} (h : S.Ok) (hr : S.program s a l = (T, r)) : T.n = S.n ∧ T.Ok := by
  obtain rfl : (S.program s a l).1 = T := by rw [hr]
  unfold Fl.program
  split
  · exact h.same rfl rfl
  · exact h.same rfl rfl
  · have h1 := Fl.prog_nh l S (s.toNat * 64 + a.toNat)
    split
    · rename_i T hT
      rw [hT] at h1
      exact h.same h1.1 h1.2
    · rename_i T hT
      rw [hT] at h1
      exact h.same h1.1 h1.2
theorem Fl.erase_ok {S T : Fl} {s : Int} {r : Nat} (h : S.Ok) (hr : S.erase s = (T, r)) : T.n = S.n ∧ T.Ok := by
  obtain rfl : (S.erase s).1 = T := by rw [hr]
  unfold Fl.erase
  split
  · exact h.same rfl rfl
  · exact h.same rfl rfl
  · rename_i hd hs
    have h1 := S.step_nh
    split
    · rename_i T hT
      rw [hT] at h1
      exact h.same h1.1 h1.2
    · rename_i T hT
      rw [hT] at h1
      refine ⟨h1.1, .inr ?_⟩
      simp [Fl.sector] at hs
      obtain ⟨σ, hσ⟩ := Int.eq_ofNat_of_zero_le hs.1
      exact ⟨σ, hσ, by show σ < T.n; rw [h1.1]; omega⟩
theorem Fl.rewrite_ok {S T : Fl} {s a : Int} {l : List UInt32} {r : Nat} (h : S.Ok) (hr : S.rewrite s a l = (T, r)) : T.n = S.n ∧ T.Ok := by
  obtain rfl : (S.rewrite s a l).1 = T := by rw [hr]
  unfold Fl.rewrite
  split <;> exact h.same rfl rfl
theorem Fl.arm_ok {S : Fl} (h : S.Ok) (k : Int) : (S.arm k).n = S.n ∧ (S.arm k).Ok := by
  unfold Fl.arm
  split <;> exact h.same rfl rfl
theorem Fl.crash_ok (S : Fl) (ks : List Bool) : (S.crash ks).n = S.n ∧ (S.crash ks).Ok := by
  unfold Fl.crash
  split <;> exact ⟨rfl, .inl rfl⟩
end Go.Proofs.Ytcfjbllmaejiaaa
