/-
  A text of a tag and parts is read in one way, and no text is the begin of another one: plain lists.
-/
import Derived.Test.YtpdfalgjmeagjaaParts
namespace Go.Proofs.Ytpdfalgjmeagjaa
open Go.RowKit
set_option linter.unusedVariables false

theorem ofNat_inj8 {a b : Nat} (ha : a < 256) (hb : b < 256) (h : UInt8.ofNat a = UInt8.ofNat b) : a = b := by
  have := congrArg UInt8.toNat h
  rwa [ofNat_toNat _ ha, ofNat_toNat _ hb] at this
theorem blobs_inj : ∀ (ls ms : List (List UInt8)) (r s : List UInt8), ls.length = ms.length → (∀ l ∈ ls, l.length ≤ 100) → (∀ l ∈ ms, l.length ≤ 100) → ls.flatMap blob ++ r = ms.flatMap blob ++ s → ls = ms ∧ r = s
  | [], [], r, s, _, _, _, h => ⟨rfl, by simpa using h⟩
  | [], _ :: _, _, _, h, _, _, _ => by simp at h
  | _ :: _, [], _, _, h, _, _, _ => by simp at h
  | l :: ls, m :: ms, r, s, hn, h1, h2, h => by
    have hl := h1 l List.mem_cons_self
    have hm := h2 m List.mem_cons_self
    simp only [List.flatMap_cons, blob, digs_small _ (show l.length < 128 by omega), digs_small _ (show m.length < 128 by omega), List.append_assoc, List.cons_append, List.nil_append, List.cons.injEq] at h
    have e := ofNat_inj8 (by omega) (by omega) h.1
    obtain ⟨e1, e2⟩ := List.append_inj h.2 e
    obtain ⟨e3, e4⟩ := blobs_inj ls ms r s (by simpa using hn) (fun x hx => h1 x (List.mem_cons_of_mem _ hx)) (fun x hx => h2 x (List.mem_cons_of_mem _ hx)) e2
    exact ⟨by rw [e1, e3], e4⟩
theorem text_inj (t u : UInt8) (ls ms : List (List UInt8)) (r s : List UInt8) (hl : ls.length < 128) (hm : ms.length < 128) (h1 : ∀ l ∈ ls, l.length ≤ 100) (h2 : ∀ l ∈ ms, l.length ≤ 100) (h : textF t ls ++ r = textF u ms ++ s) : t = u ∧ ls = ms ∧ r = s := by
  simp only [textF, digs_small _ hl, digs_small _ hm, List.cons_append, List.nil_append, List.cons.injEq, true_and] at h
  obtain ⟨e1, e2, e3⟩ := h
  have e := ofNat_inj8 (by omega) (by omega) e2
  obtain ⟨e4, e5⟩ := blobs_inj ls ms r s e h1 h2 e3
  exact ⟨e1, e4, e5⟩
/-- Texts are the same just if tags and parts are; so are their begins. -/
theorem text_same (t u : UInt8) (ls ms : List (List UInt8)) (hl : ls.length < 128) (hm : ms.length < 128) (h1 : ∀ l ∈ ls, l.length ≤ 100) (h2 : ∀ l ∈ ms, l.length ≤ 100) : (textF t ls == textF u ms) = (t == u && ls == ms) := by
  by_cases h : textF t ls = textF u ms
  · obtain ⟨e1, e2, _⟩ := text_inj t u ls ms [] [] hl hm h1 h2 (by simpa using h)
    simp [e1, e2]
  · rw [beq_eq_false_iff_ne.2 h]
    by_cases e1 : t = u
    · have e2 : ls ≠ ms := fun e2 => h (by rw [e1, e2])
      simp [e2]
    · simp [e1]
theorem text_begin (t u : UInt8) (ls ms : List (List UInt8)) (hl : ls.length < 128) (hm : ms.length < 128) (h1 : ∀ l ∈ ls, l.length ≤ 100) (h2 : ∀ l ∈ ms, l.length ≤ 100) (k : Nat) (hk : k = min (textF t ls).length (textF u ms).length) : ((textF t ls).take k == (textF u ms).take k) = (t == u && ls == ms) := by
  by_cases h : (textF t ls).take k = (textF u ms).take k
  · have key : t = u ∧ ls = ms := by
      rcases Nat.le_total (textF t ls).length (textF u ms).length with hle | hle
      · rw [List.take_of_length_le (by omega)] at h
        have h3 : textF t ls ++ (textF u ms).drop k = textF u ms ++ [] := by
          rw [h, List.take_append_drop, List.append_nil]
        obtain ⟨a, b, _⟩ := text_inj t u ls ms _ _ hl hm h1 h2 h3
        exact ⟨a, b⟩
      · rw [List.take_of_length_le (l := textF u ms) (by omega)] at h
        have h3 : textF t ls ++ [] = textF u ms ++ (textF t ls).drop k := by
          rw [← h, List.take_append_drop, List.append_nil]
        obtain ⟨a, b, _⟩ := text_inj t u ls ms _ _ hl hm h1 h2 h3
        exact ⟨a, b⟩
    rw [beq_iff_eq.2 h]
    simp [key.1, key.2]
  · rw [beq_eq_false_iff_ne.2 h]
    by_cases e1 : t = u
    · have e2 : ls ≠ ms := fun e2 => h (by rw [e1, e2])
      simp [e2]
    · simp [e1]
/-- A part cut in two makes another text. -/
theorem text_cut (t : UInt8) (l : List UInt8) (ls : List (List UInt8)) (n : Nat) (hl : ls.length ≤ 6) (h1 : ∀ x ∈ l :: ls, x.length ≤ 100) : (textF t (l.take n :: l.drop n :: ls) == textF t (l :: ls)) = false := by
  rw [beq_eq_false_iff_ne]
  intro h
  have h2 : ∀ x ∈ l.take n :: l.drop n :: ls, x.length ≤ 100 := by
    intro x hx
    have hll := h1 l List.mem_cons_self
    rcases List.mem_cons.1 hx with rfl | hx
    · simp; omega
    · rcases List.mem_cons.1 hx with rfl | hx
      · simp; omega
      · exact h1 x (List.mem_cons_of_mem _ hx)
  obtain ⟨_, e, _⟩ := text_inj t t _ _ [] [] (by simp; omega) (by simp; omega) h2 h1 (by simpa using h)
  have := congrArg List.length e
  simp at this
end Go.Proofs.Ytpdfalgjmeagjaa
