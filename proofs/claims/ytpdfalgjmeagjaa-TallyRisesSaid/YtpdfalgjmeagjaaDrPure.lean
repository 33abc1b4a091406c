/-
  Plain facts of flashes and drives, and of what their writes leave.
-/
import Derived.Test.YtpdfalgjmeagjaaDrives
namespace Go.Proofs.Ytpdfalgjmeagjaa
open Go.RowKit
set_option linter.unusedVariables false

/-- The sectors stay as many, and what is half erased is one of them. -/
theorem Fl.step_half (S : Fl) : S.step.1.n = S.n ∧ S.step.1.half = S.half := by
  obtain ⟨n, ws, g, ar, l, d, hf⟩ := S
  cases ar
  · exact ⟨rfl, rfl⟩
  · cases l <;> exact ⟨rfl, rfl⟩
theorem Fl.prog_half : ∀ (l : List UInt32) (S : Fl) (j : Nat), (S.prog j l).1.n = S.n ∧ (S.prog j l).1.half = S.half
  | [], S, j => ⟨rfl, rfl⟩
  | x :: l, S, j => by
    have h1 := S.step_half
    simp only [Fl.prog]
    revert h1
    rcases S.step with ⟨T, _ | _⟩
    · intro h1; exact h1
    · intro h1
      have h2 := Fl.prog_half l (T.put1 j x) (j + 1)
      exact ⟨h2.1.trans h1.1, h2.2.trans h1.2⟩
theorem splice_get2 {α : Type} (L X : List α) (off i : Nat) (h : off + X.length ≤ L.length) : (splice L off X)[i]? = if i < off then L[i]? else if i < off + X.length then X[i - off]? else L[i]? := by
  unfold splice
  have h1 : (L.take off).length = off := by simp; omega
  by_cases a : i < off
  · rw [if_pos a, List.getElem?_append_left (by omega), List.getElem?_take, if_pos a]
  · rw [if_neg a]
    by_cases b : i < off + X.length
    · rw [if_pos b, List.getElem?_append_right (by omega), h1, List.getElem?_append_left (by omega)]
    · rw [if_neg b, List.getElem?_append_right (by omega), h1, List.getElem?_append_right (by omega), List.getElem?_drop, show off + X.length + (i - off - X.length) = i from by omega]
theorem nset_self (x : UInt32) : nset x x = 0 := by
  unfold nset
  have hx := x.toNat_lt
  apply Nat.eq_of_testBit_eq
  intro i
  rw [Nat.testBit_and, Nat.zero_testBit, show 4294967295 - x.toNat = 2 ^ 32 - (x.toNat + 1) from by omega, Nat.testBit_two_pow_sub_succ hx]
  cases x.toNat.testBit i <;> simp
theorem nset_ones (x : UInt32) : nset x 4294967295 = 0 := by
  unfold nset
  simp
theorem sets32_self : ∀ l : List UInt32, sets32 l l = false
  | [] => rfl
  | x :: l => by simp [sets32, nset_self, sets32_self l]
theorem sets32_ones : ∀ l : List UInt32, sets32 (List.replicate l.length 4294967295) l = false
  | [] => rfl
  | x :: l => by
    rw [List.length_cons, List.replicate_succ]
    simp [sets32, nset_ones, sets32_ones l]
theorem Fl.prog_up : ∀ (l : List UInt32) (S : Fl) (j : Nat), S.armed = false → ∃ T, S.prog j l = (T, true) ∧ T.armed = false
  | [], S, j, h => ⟨S, rfl, h⟩
  | x :: l, S, j, h => by
    have h1 : S.step = (S, true) := by
      unfold Fl.step
      rw [h]
    simp only [Fl.prog, h1]
    exact Fl.prog_up l (S.put1 j x) (j + 1) h
theorem Fresh.spot_ {w : World} {base n c : Nat} {A : Option Addr} {e : TypeId} {xs : List Value} (h : Fresh base e w A n c xs) (hn : 0 < n) : ∃ g, A = some ⟨g, 0, none⟩ ∧ base ≤ g ∧ g < w.heap.size := by
  rcases h.2 with ⟨hv, rfl⟩ | ⟨g, cap, cur, hv, hb, hg, _⟩
  · omega
  · simp only [Value.slice.injEq] at hv
    exact ⟨g, hv.1, hb, (Array.getElem?_eq_some_iff.1 hg).1⟩
theorem Fresh.butC {w w' : World} {base n c p b : Nat} {A : Option Addr} {e : TypeId} {xs : List Value} (h : Fresh base e w A n c xs) (x : But p b w w') (hp : p < base) (hb : b < base) : Fresh base e w' A n c xs := by
  refine ⟨h.1, ?_⟩
  rcases h.2 with h1 | ⟨g, cap, cur, hv, hg, hh, hr⟩
  · exact .inl h1
  · exact .inr ⟨g, cap, cur, hv, hg, by rw [x.keep g (Array.getElem?_eq_some_iff.1 hh).1 (by omega) (by omega)]; exact hh, hr⟩
theorem DrAt.other {base : Nat} {w w' : World} {d p b f m g : Nat} {S : Fl} (h : DrAt base w d p b f m S) (x : But g g w w') (h1 : p ≠ g) (h2 : b ≠ g) (h3 : d ≠ g) : DrAt base w' d p b f m S := ⟨h.nor.but x h1 h1 h2 h2, h.obj.but x h3 h3, h.fits, h.some_⟩
end Go.Proofs.Ytpdfalgjmeagjaa
