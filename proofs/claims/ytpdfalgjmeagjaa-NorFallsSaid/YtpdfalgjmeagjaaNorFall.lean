/-
  What a failing Program, and a failing erasing, leave of a flash's words: plain lists.
-/
import Derived.Test.YtpdfalgjmeagjaaNorPair
import Derived.Test.YtpdfalgjmeagjaaGrid
namespace Go.Proofs.Ytpdfalgjmeagjaa
open Go.RowKit
set_option linter.unusedVariables false

theorem prog_fails : ∀ (l : List UInt32) (S : Fl) (j : Nat), S.armed = true → S.left < l.length → S.prog j l = ({ S with ws := andL S.ws j (l.take S.left), left := 0, armed := false, down := true }, false)
  | [], S, j, h, e => by simp at e
  | x :: l, S, j, h, e => by
    obtain ⟨n, ws, g, ar, le, d, hf⟩ := S
    simp only at h
    subst h
    cases le with
    | zero => rfl
    | succ le =>
      have ih := prog_fails l (Fl.put1 ⟨n, ws, g, true, le, d, hf⟩ j x) (j + 1) rfl (by simpa [Fl.put1] using e)
      have e : Fl.prog ⟨n, ws, g, true, le + 1, d, hf⟩ j (x :: l) = (Fl.put1 ⟨n, ws, g, true, le, d, hf⟩ j x).prog (j + 1) l := rfl
      rw [e, ih]
      rfl
/-- The flash behind a Program that was armed with K, and a crash. -/
theorem armed_prog (S : Fl) (ws : List UInt32) (hf : Free4 S ws) (K σ κ : Nat) (l : List UInt32) (hσ : σ < 4) (hκ : κ + l.length ≤ 64) (ks : List Bool) :
    ∃ T r, (S.arm (K : Int)).program (σ : Int) (κ : Int) l = (T, r) ∧ (r = 0 ↔ l.length ≤ K) ∧ T.down = decide (K < l.length) ∧ T.half = -1 ∧ Free4 (T.crash ks) (andL ws (σ * 64 + κ) (l.take (min K l.length))) := by
  obtain ⟨n, ws', g, ar, le, d, hf'⟩ := S
  obtain ⟨f1, f2, f3, f4, f5⟩ := hf
  simp only at f1 f2 f3 f4 f5
  subst f1 f2 f3 f4 f5
  have ha : Fl.arm ⟨4, ws', g, false, le, false, -1⟩ (K : Int) = ⟨4, ws', g, true, K, false, -1⟩ := by simp [Fl.arm]
  rw [ha]
  have hpl : Fl.place ⟨4, ws', g, true, K, false, -1⟩ (σ : Int) (κ : Int) l.length = true := by simp [Fl.place, Fl.sector]; omega
  by_cases hle : l.length ≤ K
  · have hp := (prog_armed l ⟨4, ws', g, true, K, false, -1⟩ (σ * 64 + κ) rfl).1 hle
    refine ⟨_, 0, by simp only [Fl.program, hpl, Int.toNat_natCast, hp]; rfl, by simp [hle], by simp; omega, rfl, ?_⟩
    rw [Nat.min_eq_right hle, List.take_of_length_le (Nat.le_refl _)]
    exact ⟨rfl, rfl, rfl, rfl, rfl⟩
  · have hp := prog_fails l ⟨4, ws', g, true, K, false, -1⟩ (σ * 64 + κ) rfl (by simpa using hle)
    refine ⟨_, 40, by simp only [Fl.program, hpl, Int.toNat_natCast, hp]; rfl, by simp [hle], by simp; omega, rfl, ?_⟩
    rw [Nat.min_eq_left (by omega)]
    exact ⟨rfl, rfl, rfl, rfl, rfl⟩
/-- An erasing that fails, and a crash. -/
theorem armed_erase (S : Fl) (ws : List UInt32) (hf : Free4 S ws) (σ : Nat) (hσ : σ < 4) (ks : List Bool) :
    ∃ T, (S.arm 0).erase (σ : Int) = (T, 40) ∧ T.Ok ∧ Free4 (T.crash ks) (mask ws (σ * 64) (ks.take 64)) := by
  obtain ⟨n, ws', g, ar, le, d, hf'⟩ := S
  obtain ⟨f1, f2, f3, f4, f5⟩ := hf
  simp only at f1 f2 f3 f4 f5
  subst f1 f2 f3 f4 f5
  have hs : Fl.sector ⟨4, ws', g, true, 0, false, -1⟩ (σ : Int) = true := by simp [Fl.sector]; omega
  have ha : Fl.arm ⟨4, ws', g, false, le, false, -1⟩ 0 = ⟨4, ws', g, true, 0, false, -1⟩ := by simp [Fl.arm]
  rw [ha]
  refine ⟨⟨4, ws', g, false, 0, true, (σ : Int)⟩, by simp only [Fl.erase, hs, Fl.step], .inr ⟨σ, rfl, hσ⟩, ?_⟩
  have hne : decide ((σ : Int) = -1) = false := by simp
  simp only [Fl.crash, hne, Int.toNat_natCast]
  exact ⟨rfl, rfl, rfl, rfl, rfl⟩
theorem mask_get : ∀ (l : List Bool) (ws : List UInt32) (j i : Nat), (mask ws j l)[i]? = if j ≤ i ∧ l[i - j]? = some true then (ws[i]?).map fun _ => 4294967295 else ws[i]?
  | [], ws, j, i => by simp [mask]
  | c :: l, ws, j, i => by
    have key : ∀ ws' : List UInt32, (∀ i, i ≠ j → ws'[i]? = ws[i]?) → ws'[j]? = (if c = true then (ws[j]?).map fun _ => 4294967295 else ws[j]?) → (mask ws' (j + 1) l)[i]? = if j ≤ i ∧ (c :: l)[i - j]? = some true then (ws[i]?).map fun _ => 4294967295 else ws[i]? := by
      intro ws' h1 h2
      rw [mask_get l]
      by_cases hij : i = j
      · have e1 : ¬ (j + 1 ≤ i ∧ l[i - (j + 1)]? = some true) := fun q => by omega
        have e2 : (c :: l)[i - j]? = some c := by rw [hij, Nat.sub_self]; rfl
        rw [if_neg e1, e2, hij, h2]
        cases c <;> simp
      · rw [h1 i hij]
        by_cases h3 : j + 1 ≤ i
        · have e : i - j = (i - (j + 1)) + 1 := by omega
          rw [e, List.getElem?_cons_succ]
          have h4 : j ≤ i := by omega
          simp [h3, h4]
        · have e1 : ¬ (j + 1 ≤ i ∧ l[i - (j + 1)]? = some true) := fun q => h3 q.1
          have e2 : ¬ (j ≤ i ∧ (c :: l)[i - j]? = some true) := fun q => by omega
          rw [if_neg e1, if_neg e2]
    cases c
    · rw [mask]
      exact key ws (fun _ _ => rfl) (by simp)
    · rw [mask]
      refine key _ (fun i hi => by rw [List.getElem?_set, if_neg (fun e => hi e.symm)]) ?_
      rw [List.getElem?_set, if_pos rfl, if_pos rfl]
      by_cases hl : j < ws.length
      · rw [if_pos hl, List.getElem?_eq_getElem hl]; rfl
      · rw [if_neg hl, List.getElem?_eq_none (Nat.le_of_not_lt hl)]; rfl
theorem and_not_self (x p : UInt32) : (x &&& p) &&& ~~~x = 0 := by
  rw [UInt32.and_comm x p, UInt32.and_assoc, UInt32.and_not_self, UInt32.and_zero]
theorem words_at {S : Fl} {ws : List UInt32} (hf : Free4 S ws) (hl : ws.length = 256) (i j : Nat) (hi : i < 4) (hj : j < 64) : ∃ x, (S.words i)[j]? = some x ∧ ws[i * 64 + j]? = some x := by
  obtain ⟨f1, f2, f3, f4, f5⟩ := hf
  have h1 : i * 64 + j < ws.length := by omega
  refine ⟨ws[i * 64 + j], ?_, List.getElem?_eq_getElem h1⟩
  unfold Fl.words
  rw [f3, f1, f5]
  have : decide (i < 4) = true := decide_eq_true hi
  rw [this]
  simp only
  rw [List.getElem?_take, if_pos hj, List.getElem?_drop, List.getElem?_eq_getElem h1]
theorem words_len {S : Fl} {ws : List UInt32} (hf : Free4 S ws) (hl : ws.length = 256) (i : Nat) (hi : i < 4) : (S.words i).length = 64 := by
  obtain ⟨f1, f2, f3, f4, f5⟩ := hf
  unfold Fl.words
  rw [f3, f1, f5, decide_eq_true hi]
  simp only
  rw [List.length_take, List.length_drop]
  omega
theorem andL_len : ∀ (l ws : List UInt32) (j : Nat), (andL ws j l).length = ws.length
  | [], _, _ => rfl
  | x :: l, ws, j => by rw [andL, andL_len l]; simp
theorem mask_len' : ∀ (l : List Bool) (f : List UInt32) (j : Nat), (mask f j l).length = f.length
  | [], _, _ => rfl
  | true :: l, f, j => by rw [mask, mask_len' l]; simp
  | false :: l, f, j => by rw [mask, mask_len' l]
/-- A grid's row by its number. -/
theorem grid_row {rs : List Rw} {S : Fl} (h : rs.map Rw.l = (List.range 4).map S.words) (i : Nat) (hi : i < 4) : ∃ r, rs[i]? = some r ∧ r.l = S.words i := by
  have h1 : (rs.map Rw.l)[i]? = some (S.words i) := by rw [h]; simp [hi]
  rw [List.getElem?_map] at h1
  obtain ⟨r, h2, h3⟩ := Option.map_eq_some_iff.1 h1
  exact ⟨r, h2, h3⟩
end Go.Proofs.Ytpdfalgjmeagjaa
