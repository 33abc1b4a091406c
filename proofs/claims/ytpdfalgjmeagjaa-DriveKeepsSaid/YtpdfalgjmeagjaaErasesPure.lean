/-
  What is erased is blank, takes any words, and nothing else is another one: over a flash as plain data.
-/
import Derived.Test.YtpdfalgjmeagjaaDrMade
import Derived.Test.YtpdfalgjmeagjaaDrPure
namespace Go.Proofs.Ytpdfalgjmeagjaa
open Go.RowKit
set_option linter.unusedVariables false

/-- A flash of five sectors that is up and not armed. -/
structure Fl.Up5 (S : Fl) : Prop where
  down : S.down = false
  armed : S.armed = false
  n : S.n = 5
  len : S.ws.length = 320
theorem dwrite_up {S : Fl} (h : S.Up5) (s : Nat) (hs : s < 3) (l : List UInt32) (hl : l.length ≤ 64) (hset : sets32 (S.at_ 1 (64 * s) l.length) l = false) : ∃ T, S.dwrite 1 3 (64 * (s : Int)) l = (T, 0) ∧ T.Up5 ∧ T.ws = splice S.ws (64 + 64 * s) l := by
  obtain ⟨T, hT, ha⟩ := Fl.prog_up l S (64 + 64 * s) h.armed
  obtain ⟨k1, k2, k3⟩ := Fl.prog_keep _ _ _ _ hT
  refine ⟨T, ?_, ⟨k1.trans h.down, ha, k2.trans h.n, k3.trans h.len⟩, Fl.prog_words _ _ _ _ hT (by rw [h.len]; omega) (by simpa [Fl.at_] using hset)⟩
  have hw : wordsOk 3 (64 * (s : Int)) (l.length : Int) = true := by simp [wordsOk]; omega
  have hto : (64 * (s : Int)).toNat = 64 * s := by omega
  unfold Fl.dwrite
  rw [hw, h.down, hto, hset]
  simp only
  rw [show 64 * 1 + 64 * s = 64 + 64 * s from by omega, hT]
theorem ones64_eq : ones64 = List.replicate 64 4294967295 := by rfl
theorem erases_pure {S : Fl} (h : S.Up5) (s : Nat) (hs : s < 3) (l : List UInt32) (hl : l.length ≤ 64) :
    ∃ S1 S2 S3, S.derase 1 3 (s : Int) = (S1, 0) ∧ S1.Up5 ∧ S1.blank 1 3 (64 * (s : Int)) 64 = true ∧ S1.dwrite 1 3 (64 * (s : Int)) l = (S2, 0) ∧ S2.Up5 ∧ S2.dwrite 1 3 (64 * (s : Int)) l = (S3, 0) ∧ S3.Up5 ∧
      ∀ i, i < 192 → (S3.at_ 1 0 192)[i]? = if i / 64 = s then (if i % 64 < l.length then l[i % 64]? else some 4294967295) else (S.at_ 1 0 192)[i]? := by
  have hst : S.step = (S, true) := by unfold Fl.step; rw [h.armed]
  have hse : S.sector (1 + (s : Int)) = true := by simp [Fl.sector, h.n]; omega
  have ho : secsOk 3 (s : Int) 1 = true := by simp [secsOk]; omega
  obtain ⟨S1, hS1⟩ : ∃ S1, S1 = { S with ws := splice S.ws (64 + 64 * s) ones64 } := ⟨_, rfl⟩
  have he : S.derase 1 3 (s : Int) = (S1, 0) := by
    unfold Fl.derase Fl.erase
    rw [ho]
    simp only [show ((1 : Nat) : Int) = 1 from rfl, h.down, hse, hst]
    rw [hS1, show (1 + (s : Int)).toNat * 64 = 64 + 64 * s from by omega, h.down]
  have o64 : ones64.length = 64 := rfl
  have up1 : S1.Up5 := by
    rw [hS1]
    exact ⟨h.down, h.armed, h.n, by simp only []; rw [length_splice _ _ _ (by rw [h.len, o64]; omega)]; exact h.len⟩
  have at1 : S1.at_ 1 (64 * s) 64 = List.replicate 64 4294967295 := by
    have := splice_at S.ws ones64 (64 + 64 * s) (by rw [h.len, o64]; omega)
    rw [o64, ones64_eq] at this
    unfold Fl.at_
    rw [hS1, show 64 * 1 + 64 * s = 64 + 64 * s from by omega]
    exact this
  have hb : S1.blank 1 3 (64 * (s : Int)) 64 = true := by
    have hw : wordsOk 3 (64 * (s : Int)) 64 = true := by simp [wordsOk]; omega
    unfold Fl.blank
    rw [hw, up1.down, show (64 * (s : Int)).toNat = 64 * s from by omega, show (64 : Int).toNat = 64 from rfl, at1]
    decide
  have set1 : sets32 (S1.at_ 1 (64 * s) l.length) l = false := by
    have : S1.at_ 1 (64 * s) l.length = List.replicate l.length 4294967295 := by
      have h1 : S1.at_ 1 (64 * s) l.length = (S1.at_ 1 (64 * s) 64).take l.length := by
        unfold Fl.at_
        rw [List.take_take, Nat.min_eq_left hl]
      rw [h1, at1, List.take_replicate, Nat.min_eq_left hl]
    rw [this]
    exact sets32_ones l
  obtain ⟨S2, e2, up2, w2⟩ := dwrite_up up1 s hs l hl set1
  have at2 : S2.at_ 1 (64 * s) l.length = l := by
    unfold Fl.at_
    rw [w2]
    exact splice_at _ _ _ (by rw [up1.len]; omega)
  obtain ⟨S3, e3, up3, w3⟩ := dwrite_up up2 s hs l hl (by rw [at2]; exact sets32_self l)
  refine ⟨S1, S2, S3, he, up1, hb, e2, up2, e3, up3, fun i hi => ?_⟩
  have g0 : ∀ (T : Fl), (T.at_ 1 0 192)[i]? = T.ws[64 + i]? := fun T => by
    unfold Fl.at_
    rw [List.getElem?_take, if_pos hi, List.getElem?_drop]
  have hws : S1.ws = splice S.ws (64 + 64 * s) ones64 := by rw [hS1]
  rw [g0, g0, w3, splice_get2 _ _ _ _ (by rw [up2.len]; omega), w2, splice_get2 _ _ _ _ (by rw [up1.len]; omega), hws, splice_get2 _ _ _ _ (by rw [h.len, o64]; omega), o64]
  have hdm := Nat.div_add_mod i 64
  by_cases h1 : i / 64 = s
  · have c1 : ¬ 64 + i < 64 + 64 * s := by omega
    have c3 : 64 + i < 64 + 64 * s + 64 := by omega
    rw [if_pos h1, if_neg c1, if_neg c1, if_neg c1, if_pos c3, ones64_eq, List.getElem?_replicate, if_pos (show 64 + i - (64 + 64 * s) < 64 by omega)]
    by_cases h2 : i % 64 < l.length
    · have c2 : 64 + i < 64 + 64 * s + l.length := by omega
      rw [if_pos h2, if_pos c2, show 64 + i - (64 + 64 * s) = i % 64 from by omega]
    · have c2 : ¬ 64 + i < 64 + 64 * s + l.length := by omega
      rw [if_neg h2, if_neg c2, if_neg c2]
  · rw [if_neg h1]
    by_cases h2 : i / 64 < s
    · have c1 : 64 + i < 64 + 64 * s := by omega
      rw [if_pos c1, if_pos c1, if_pos c1]
    · have c1 : ¬ 64 + i < 64 + 64 * s := by omega
      have c2 : ¬ 64 + i < 64 + 64 * s + l.length := by omega
      have c3 : ¬ 64 + i < 64 + 64 * s + 64 := by omega
      rw [if_neg c1, if_neg c2, if_neg c1, if_neg c2, if_neg c1, if_neg c3]
end Go.Proofs.Ytpdfalgjmeagjaa
