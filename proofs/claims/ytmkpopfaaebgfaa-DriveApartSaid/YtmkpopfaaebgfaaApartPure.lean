/-
  A drive changes words of its own sectors alone: over a flash as plain data.
-/
import Derived.Test.YtmkpopfaaebgfaaErasesPure
namespace Go.Proofs.Ytmkpopfaaebgfaa
open Go.RowKit
set_option linter.unusedVariables false

theorem Fl.prog_get : ∀ (l : List UInt32) (S : Fl) (j i : Nat), (i < j ∨ j + l.length ≤ i) → (S.prog j l).1.ws[i]? = S.ws[i]?
  | [], S, j, i, _ => rfl
  | x :: l, S, j, i, h => by
    have h1 := S.step_ws
    simp only [List.length_cons] at h
    simp only [Fl.prog]
    revert h1
    rcases S.step with ⟨T, _ | _⟩
    · intro h1
      show T.ws[i]? = _
      rw [show T.ws = S.ws from h1]
    · intro h1
      have h2 := Fl.prog_get l (T.put1 j x) (j + 1) i (by omega)
      rw [show (T.put1 j x).ws = T.ws.set j (T.ws.getD j 0 &&& x) from rfl, List.getElem?_set_ne (by omega), show T.ws = S.ws from h1] at h2
      exact h2
theorem mask_out : ∀ (l : List Bool) (ws : List UInt32) (j i : Nat), (i < j ∨ j + l.length ≤ i) → (mask ws j l)[i]? = ws[i]?
  | [], ws, j, i, _ => rfl
  | true :: l, ws, j, i, h => by
    simp only [List.length_cons] at h
    show (mask (ws.set j 4294967295) (j + 1) l)[i]? = _
    rw [mask_out l _ (j + 1) i (by omega), List.getElem?_set_ne (by omega)]
  | false :: l, ws, j, i, h => by
    simp only [List.length_cons] at h
    exact mask_out l ws (j + 1) i (by omega)
/-- What the drives ahead and behind have: the mark, and ones; half erased is a sector of the one between, or none. -/
structure Marked (mark : UInt32) (S : Fl) : Prop where
  n : S.n = 5
  half : S.half = -1 ∨ (1 ≤ S.half ∧ S.half < 4)
  a : ∀ i, i < 64 → S.ws[i]? = some (if i = 3 then mark else 4294967295)
  c : ∀ i, i < 64 → S.ws[256 + i]? = some (if i = 5 then mark else 4294967295)
theorem Marked.ok {mark : UInt32} {S : Fl} (h : Marked mark S) : S.Ok := by
  rcases h.half with h1 | ⟨h1, h2⟩
  · exact .inl h1
  · obtain ⟨σ, hσ⟩ := Int.eq_ofNat_of_zero_le (show 0 ≤ S.half by omega)
    exact .inr ⟨σ, hσ, by rw [h.n]; omega⟩
theorem Marked.keep {mark : UInt32} {S T : Fl} (h : Marked mark S) (hn : T.n = S.n) (hh : T.half = -1 ∨ (1 ≤ T.half ∧ T.half < 4)) (hw : ∀ i, i < 64 ∨ 256 ≤ i → T.ws[i]? = S.ws[i]?) : Marked mark T :=
  ⟨hn.trans h.n, hh, fun i hi => (hw i (.inl hi)).trans (h.a i hi), fun i hi => (hw _ (.inr (by omega))).trans (h.c i hi)⟩
theorem Marked.does {mark : UInt32} {S : Fl} (h : Marked mark S) (f m : Nat) (hf : 1 ≤ f) (hm : f + m ≤ 4) (o : Oc) : Marked mark (S.does5 f m o).1 := by
  have hw3 : S.ws.length ≤ S.ws.length := Nat.le_refl _
  unfold Fl.does5
  split
  · generalize o.l.take 200 = l
    obtain ⟨k1, k2⟩ := S.dwrite_half f m o.s l
    refine h.keep k1 (by rw [k2]; exact h.half) fun i hi => ?_
    unfold Fl.dwrite
    split
    · rfl
    · rfl
    · rename_i hok hd
      obtain ⟨a, k, ha, hk, hfit⟩ := wordsOk_out hok
      split
      · rfl
      · have h1 := Fl.prog_get l S (64 * f + o.s.toNat) i (by rw [ha] at *; simp only [Int.toNat_natCast]; omega)
        revert h1
        rcases S.prog (64 * f + o.s.toNat) l with ⟨T, _ | _⟩ <;> intro h1 <;> exact h1
  · unfold Fl.derase
    split
    · exact h
    · rename_i hok
      simp [secsOk] at hok
      unfold Fl.erase
      split
      · exact h
      · exact h
      · have h1 := S.step_half
        have h2 := S.step_ws
        revert h1 h2
        rcases S.step with ⟨T, _ | _⟩
        · intro h1 h2
          refine h.keep h1.1 (.inr ?_) fun i hi => by show T.ws[i]? = _; rw [show T.ws = S.ws from h2]
          show 1 ≤ (f : Int) + o.s ∧ (f : Int) + o.s < 4
          omega
        · intro h1 h2
          have hws : T.ws = S.ws := h2
          refine h.keep h1.1 (by show T.half = -1 ∨ _; rw [show T.half = S.half from h1.2]; exact h.half) fun i hi => ?_
          show (splice T.ws (((f : Int) + o.s).toNat * 64) ones64)[i]? = _
          rw [hws]
          have o64 : ones64.length = 64 := rfl
          have hlen : 320 ≤ S.ws.length := by
            have := h.c 63 (by omega)
            have := (List.getElem?_eq_some_iff.1 this).1
            omega
          rw [splice_get2 _ _ _ _ (by rw [o64]; omega), o64]
          by_cases c1 : i < ((f : Int) + o.s).toNat * 64
          · rw [if_pos c1]
          · rw [if_neg c1, if_neg (by omega)]
  · exact h
  · unfold Fl.arm
    split
    · exact h
    · exact h.keep rfl h.half fun i _ => rfl
  · unfold Fl.crash
    split
    · exact h.keep rfl (.inl rfl) fun i _ => rfl
    · rename_i hh
      have hh2 : ¬ S.half = -1 := by simpa using hh
      rcases h.half with h1 | ⟨h1, h2⟩
      · exact absurd h1 hh2
      · refine h.keep rfl (.inl rfl) fun i hi => ?_
        show (mask S.ws (S.half.toNat * 64) (o.ks.take 64))[i]? = _
        refine mask_out _ _ _ _ ?_
        have : (o.ks.take 64).length ≤ 64 := by simp; omega
        omega
  · exact h
/-- What is told of the drives ahead and behind. -/
theorem Marked.tells {mark : UInt32} {S : Fl} (h : Marked mark S) (hd : S.down = false) :
    S.at_ 0 3 1 = [mark] ∧ S.at_ 4 5 1 = [mark] ∧ S.blank 0 1 0 3 = true ∧ S.blank 0 1 4 60 = true ∧ S.blank 4 1 0 5 = true ∧ S.blank 4 1 6 58 = true := by
  have get : ∀ f at_ k i, i < k → (S.at_ f at_ k)[i]? = S.ws[64 * f + at_ + i]? := fun f at_ k i hi => by
    unfold Fl.at_
    rw [List.getElem?_take, if_pos hi, List.getElem?_drop]
  have len : ∀ f at_ k, (S.at_ f at_ k).length ≤ k := fun f at_ k => by simp [Fl.at_]; omega
  have one : ∀ f at_, S.ws[64 * f + at_]? = some mark → S.at_ f at_ 1 = [mark] := fun f at_ hx => by
    apply List.ext_getElem?
    intro i
    rcases i with _ | i
    · rw [get f at_ 1 0 (by omega)]
      exact hx
    · rw [List.getElem?_eq_none (by have := len f at_ 1; omega)]
      rfl
  have ones : ∀ f at_ k, (∀ i, i < k → S.ws[64 * f + at_ + i]? = some 4294967295) → onesL (S.at_ f at_ k) = true := fun f at_ k hx => by
    unfold onesL
    rw [List.all_eq_true]
    intro x hx2
    obtain ⟨i, hi⟩ := List.getElem?_of_mem hx2
    have hik : i < k := by have := (List.getElem?_eq_some_iff.1 hi).1; have := len f at_ k; omega
    rw [get f at_ k i hik, hx i hik] at hi
    simp at hi
    rw [← hi]
    rfl
  have w1 : wordsOk 1 0 3 = true := by decide
  have w2 : wordsOk 1 4 60 = true := by decide
  have w3 : wordsOk 1 0 5 = true := by decide
  have w4 : wordsOk 1 6 58 = true := by decide
  refine ⟨one 0 3 (by have := h.a 3 (by omega); simpa using this), one 4 5 (by have := h.c 5 (by omega); simpa using this), ?_, ?_, ?_, ?_⟩
  · unfold Fl.blank
    rw [w1, hd]
    exact ones 0 0 3 fun i hi => by have := h.a i (by omega); rw [if_neg (by omega)] at this; simpa using this
  · unfold Fl.blank
    rw [w2, hd]
    exact ones 0 4 60 fun i hi => by have := h.a (4 + i) (by omega); rw [if_neg (by omega)] at this; simpa using this
  · unfold Fl.blank
    rw [w3, hd]
    exact ones 4 0 5 fun i hi => by have := h.c i (by omega); rw [if_neg (by omega)] at this; simpa using this
  · unfold Fl.blank
    rw [w4, hd]
    exact ones 4 6 58 fun i hi => by have := h.c (6 + i) (by omega); rw [if_neg (by omega)] at this; rw [show 64 * 4 + 6 + i = 256 + (6 + i) from by omega]; exact this
/-- The flash behind the two marks. -/
theorem marked_start (mark : UInt32) : ∃ S1 S2, (Fl.made 5 0).dwrite 0 1 3 [mark] = (S1, 0) ∧ S1.n = 5 ∧ S1.dwrite 4 1 5 [mark] = (S2, 0) ∧ S2.n = 5 ∧ Marked mark S2 ∧ S2.down = false := by
  have e0 : (4294967295 : UInt32) &&& mark = mark := and_of_nset (nset_ones mark)
  have stepU : ∀ T : Fl, T.armed = false → T.step = (T, true) := fun T h => by unfold Fl.step; rw [h]
  have key : ∀ (T : Fl) (f a : Nat), T.armed = false → T.down = false → a < 64 → T.ws[64 * f + a]? = some 4294967295 → T.dwrite f 1 (a : Int) [mark] = (T.put1 (64 * f + a) mark, 0) ∧ (T.put1 (64 * f + a) mark).ws = T.ws.set (64 * f + a) mark := fun T f a ha hd hlt hx => by
    have hw : wordsOk 1 (a : Int) (([mark] : List UInt32).length : Int) = true := by simp [wordsOk]; omega
    have hat : T.at_ f a 1 = [4294967295] := by
      unfold Fl.at_
      have hl := (List.getElem?_eq_some_iff.1 hx)
      rw [List.drop_eq_getElem_cons hl.1, hl.2]
      rfl
    constructor
    · unfold Fl.dwrite
      rw [hw, hd, Int.toNat_natCast, show ([mark] : List UInt32).length = 1 from rfl, hat]
      simp only [sets32, nset_ones]
      simp only [Fl.prog, stepU T ha]
      rfl
    · show T.ws.set (64 * f + a) (T.ws.getD (64 * f + a) 0 &&& mark) = _
      rw [List.getD_eq_getElem?_getD, hx, Option.getD_some, e0]
  have m0 : ∀ i, i < 320 → (Fl.made 5 0).ws[i]? = some 4294967295 := fun i hi => by
    show (List.replicate (64 * 5) (4294967295 : UInt32))[i]? = _
    rw [List.getElem?_replicate, if_pos (by omega)]
  obtain ⟨a1, a2⟩ := key (Fl.made 5 0) 0 3 rfl rfl (by omega) (m0 _ (by omega))
  have b0 : ((Fl.made 5 0).put1 (64 * 0 + 3) mark).ws[64 * 4 + 5]? = some 4294967295 := by
    rw [a2, List.getElem?_set_ne (by omega)]
    exact m0 _ (by omega)
  obtain ⟨b1, b2⟩ := key ((Fl.made 5 0).put1 (64 * 0 + 3) mark) 4 5 rfl rfl (by omega) b0
  have hlen : ((Fl.made 5 0).ws).length = 320 := by show (List.replicate (64 * 5) (4294967295 : UInt32)).length = _; rw [List.length_replicate]
  refine ⟨_, _, a1, rfl, b1, rfl, ⟨rfl, .inl rfl, fun i hi => ?_, fun i hi => ?_⟩, rfl⟩
  · rw [b2, List.getElem?_set_ne (by omega), a2]
    by_cases h3 : i = 3
    · subst h3
      rw [if_pos rfl, List.getElem?_set_self (by rw [hlen]; omega)]
    · rw [if_neg h3, List.getElem?_set_ne (by omega)]
      exact m0 _ (by omega)
  · rw [b2]
    by_cases h5 : i = 5
    · subst h5
      rw [if_pos rfl, show 64 * 4 + 5 = 256 + 5 from rfl, List.getElem?_set_self (by rw [a2, List.length_set, hlen]; omega)]
    · rw [if_neg h5, List.getElem?_set_ne (by omega), a2, List.getElem?_set_ne (by omega)]
      exact m0 _ (by omega)
end Go.Proofs.Ytmkpopfaaebgfaa
