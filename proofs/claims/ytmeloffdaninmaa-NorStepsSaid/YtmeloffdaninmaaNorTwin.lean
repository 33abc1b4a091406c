/-
  Two flashes whose protected words are the same, and that stay so whatever another hand does to one of them.
-/
import Derived.Test.YtmeloffdaninmaaNorSec
namespace Go.Proofs.Ytmeloffdaninmaa
open Go.RowKit
set_option linter.unusedVariables false

structure Twin (S T : Fl) : Prop where
  n : S.n = 4
  n' : T.n = 4
  g : S.guard = 2
  armed : S.armed = T.armed
  left : S.left = T.left
  down : S.down = T.down
  half : S.half = T.half
  len : S.ws.length = 256
  len' : T.ws.length = 256
  ws : ∀ i, i < 128 → S.ws[i]? = T.ws[i]?
theorem splice_get {α : Type} (L X : List α) (off i : Nat) (h : off + X.length ≤ L.length) : (splice L off X)[i]? = if i < off then L[i]? else if i < off + X.length then X[i - off]? else L[i]? := by
  unfold splice
  have h1 : (L.take off).length = off := by simp; omega
  by_cases a : i < off
  · rw [if_pos a, List.getElem?_append_left (by omega), List.getElem?_take, if_pos a]
  · rw [if_neg a]
    by_cases b : i < off + X.length
    · rw [if_pos b, List.getElem?_append_right (by omega), h1, List.getElem?_append_left (by omega)]
    · rw [if_neg b, List.getElem?_append_right (by omega), h1, List.getElem?_append_right (by omega), List.getElem?_drop, show off + X.length + (i - off - X.length) = i from by omega]
theorem splice_len {α : Type} (L X : List α) (off : Nat) (h : off + X.length ≤ L.length) : (splice L off X).length = L.length := length_splice _ _ _ h
theorem Twin.words {S T : Fl} (h : Twin S T) (f g : List UInt32) (hl : f.length = 256) (hl' : g.length = 256) (hw : ∀ i, i < 128 → f[i]? = g[i]?) : Twin { S with ws := f } { T with ws := g } :=
  ⟨h.n, h.n', h.g, h.armed, h.left, h.down, h.half, hl, hl', hw⟩
theorem Twin.step {S T : Fl} (h : Twin S T) : S.step.2 = T.step.2 ∧ Twin S.step.1 T.step.1 := by
  obtain ⟨n, ws, g, ar, l, d, hf⟩ := S
  obtain ⟨n', ws', g', ar', l', d', hf'⟩ := T
  obtain ⟨h1, h1', h2, h3, h4, h5, h6, h7, h8, h9⟩ := h
  simp only at h1 h1' h2 h3 h4 h5 h6 h7 h8 h9
  subst h3 h4 h5 h6
  cases ar
  · exact ⟨rfl, ⟨h1, h1', h2, rfl, rfl, rfl, rfl, h7, h8, h9⟩⟩
  · cases l
    · exact ⟨rfl, ⟨h1, h1', h2, rfl, rfl, rfl, rfl, h7, h8, h9⟩⟩
    · exact ⟨rfl, ⟨h1, h1', h2, rfl, rfl, rfl, rfl, h7, h8, h9⟩⟩
theorem set_same (f g : List UInt32) (h : ∀ i, i < 128 → f[i]? = g[i]?) (hl : f.length = g.length) (j : Nat) (x y : UInt32) (hx : j < 128 → x = y) : ∀ i, i < 128 → (f.set j x)[i]? = (g.set j y)[i]? := by
  intro i hi
  rw [List.getElem?_set, List.getElem?_set]
  by_cases e : j = i
  · subst e
    rw [if_pos rfl, if_pos rfl, hx hi, hl]
  · rw [if_neg e, if_neg e]
    exact h i hi
theorem Twin.put1 {S T : Fl} (h : Twin S T) (j : Nat) (x : UInt32) : Twin (S.put1 j x) (T.put1 j x) := by
  refine h.words _ _ (by simp [h.len]) (by simp [h.len']) (set_same _ _ h.ws (by rw [h.len, h.len']) j _ _ fun hj => ?_)
  rw [List.getD_eq_getElem?_getD, List.getD_eq_getElem?_getD, h.ws j hj]
theorem Twin.prog : ∀ (l : List UInt32) {S T : Fl} (j : Nat), Twin S T → (S.prog j l).2 = (T.prog j l).2 ∧ Twin (S.prog j l).1 (T.prog j l).1
  | [], S, T, j, h => ⟨rfl, h⟩
  | x :: l, S, T, j, h => by
    obtain ⟨h1, h2⟩ := h.step
    rw [Fl.prog, Fl.prog]
    obtain ⟨S1, r⟩ : ∃ S1, S1 = S.step := ⟨_, rfl⟩
    obtain ⟨T1, q⟩ : ∃ T1, T1 = T.step := ⟨_, rfl⟩
    rw [← r, ← q] at h1 h2 ⊢
    obtain ⟨S2, a⟩ := S1
    obtain ⟨T2, c⟩ := T1
    simp only at h1 h2
    subst h1
    cases a
    · exact ⟨rfl, h2⟩
    · exact Twin.prog l (j + 1) (h2.put1 j x)
theorem mask_len : ∀ (l : List Bool) (f : List UInt32) (j : Nat), (mask f j l).length = f.length
  | [], _, _ => rfl
  | true :: l, f, j => by rw [mask, mask_len l]; simp
  | false :: l, f, j => by rw [mask, mask_len l]
theorem mask_same : ∀ (l : List Bool) (f g : List UInt32) (j : Nat), f.length = g.length → (∀ i, i < 128 → f[i]? = g[i]?) → ∀ i, i < 128 → (mask f j l)[i]? = (mask g j l)[i]?
  | [], f, g, j, hl, h => h
  | true :: l, f, g, j, hl, h => mask_same l _ _ (j + 1) (by simp [hl]) (set_same f g h hl j _ _ fun _ => rfl)
  | false :: l, f, g, j, hl, h => mask_same l f g (j + 1) hl h
theorem splice_same (f g : List UInt32) (off : Nat) (X : List UInt32) (hf : off + X.length ≤ f.length) (hg : off + X.length ≤ g.length) (h : ∀ i, i < 128 → f[i]? = g[i]?) : ∀ i, i < 128 → (splice f off X)[i]? = (splice g off X)[i]? := by
  intro i hi
  rw [splice_get f X off i hf, splice_get g X off i hg, h i hi]
/-- Whatever call but another hand's keeps them twins, and has one answer. -/
theorem Twin.does {S T : Fl} (h : Twin S T) (o : Oc) (hk : o.kind ≠ 3) : (S.does o).2 = (T.does o).2 ∧ Twin (S.does o).1 (T.does o).1 := by
  have hsec : ∀ s, S.sector s = T.sector s := fun s => by simp [Fl.sector, h.n, h.n']
  have hpl : ∀ s a m, S.place s a m = T.place s a m := fun s a m => by simp [Fl.place, hsec]
  unfold Fl.does
  split
  · unfold Fl.program
    rw [h.down, hpl]
    split
    · exact ⟨rfl, h⟩
    · exact ⟨rfl, h⟩
    · obtain ⟨h1, h2⟩ := h.prog (o.l.take 70) (o.s.toNat * 64 + o.a.toNat)
      obtain ⟨S1, r⟩ : ∃ S1, S1 = S.prog (o.s.toNat * 64 + o.a.toNat) (o.l.take 70) := ⟨_, rfl⟩
      obtain ⟨T1, q⟩ : ∃ T1, T1 = T.prog (o.s.toNat * 64 + o.a.toNat) (o.l.take 70) := ⟨_, rfl⟩
      rw [← r, ← q] at h1 h2 ⊢
      obtain ⟨S2, a⟩ := S1
      obtain ⟨T2, c⟩ := T1
      simp only at h1 h2
      subst h1
      cases a
      · exact ⟨rfl, h2⟩
      · exact ⟨rfl, h2⟩
  · unfold Fl.erase
    rw [h.down, hsec]
    split
    · exact ⟨rfl, h⟩
    · exact ⟨rfl, h⟩
    · rename_i hd hs
      obtain ⟨h1, h2⟩ := h.step
      obtain ⟨S1, r⟩ : ∃ S1, S1 = S.step := ⟨_, rfl⟩
      obtain ⟨T1, q⟩ : ∃ T1, T1 = T.step := ⟨_, rfl⟩
      rw [← r, ← q] at h1 h2 ⊢
      obtain ⟨S2, a⟩ := S1
      obtain ⟨T2, c⟩ := T1
      simp only at h1 h2
      subst h1
      cases a
      · exact ⟨rfl, ⟨h2.n, h2.n', h2.g, h2.armed, h2.left, h2.down, rfl, h2.len, h2.len', h2.ws⟩⟩
      · have hb : o.s.toNat * 64 + ones64.length ≤ 256 := by
          have hs' := hs
          simp [Fl.sector, h.n'] at hs'
          simp [ones64]
          omega
        refine ⟨rfl, h2.words _ _ (by rw [splice_len _ _ _ (by rw [h2.len]; exact hb), h2.len]) (by rw [splice_len _ _ _ (by rw [h2.len']; exact hb), h2.len']) (splice_same _ _ _ _ (by rw [h2.len]; exact hb) (by rw [h2.len']; exact hb) h2.ws)⟩
  · rename_i h3
    exact absurd h3 hk
  · unfold Fl.arm
    rw [h.down]
    split
    · exact ⟨rfl, h⟩
    · exact ⟨rfl, ⟨h.n, h.n', h.g, rfl, rfl, rfl, h.half, h.len, h.len', h.ws⟩⟩
  · unfold Fl.crash
    rw [h.half]
    split
    · exact ⟨rfl, ⟨h.n, h.n', h.g, rfl, h.left, rfl, rfl, h.len, h.len', h.ws⟩⟩
    · exact ⟨rfl, ⟨h.n, h.n', h.g, rfl, h.left, rfl, rfl, by rw [mask_len, h.len], by rw [mask_len, h.len'], mask_same _ _ _ _ (by rw [h.len, h.len']) h.ws⟩⟩
  · exact ⟨rfl, h⟩
/-- Another hand's words lie elsewhere, and are read so. -/
theorem Twin.hand {S T : Fl} (h : Twin S T) (o : Oc) (hk : o.kind = 3) : Twin (S.does o).1 T ∧ ((S.does o).2 = 0 → 2 ≤ o.s ∧ ∀ (j : Nat) (x : UInt32), o.l[j]? = some x → ((S.does o).1.down = false → ((S.does o).1.read o.s (o.a + j) = (x, 0))) ∧ o.a + j < 64 ∧ j < 64) := by
  unfold Fl.does
  rw [hk]
  simp only
  cases hp : S.place o.s o.a (o.l.take 70).length
  · simp only [Fl.rewrite, hp]
    exact ⟨h, fun e => by simp at e⟩
  · obtain ⟨σ, α, hs, ha, h1, h2⟩ := Fl.place_out hp
    by_cases hg : o.s < S.guard
    · simp only [Fl.rewrite, hp, hg, decide_true]
      exact ⟨h, fun e => by simp at e⟩
    · have hl70 : o.l.take 70 = o.l := List.take_of_length_le (by simp at h2; omega)
      rw [hl70] at h2 hp ⊢
      have hg2 : 2 ≤ σ := by have := h.g; omega
      have hn := h.n
      simp only [Fl.rewrite, hp, hg, decide_false]
      rw [hs, ha, Int.toNat_natCast, Int.toNat_natCast]
      have hfit : σ * 64 + α + o.l.length ≤ S.ws.length := by rw [h.len]; omega
      refine ⟨⟨h.n, h.n', h.g, h.armed, h.left, h.down, h.half, by rw [splice_len _ _ _ hfit, h.len], h.len', fun i hi => ?_⟩, fun _ => ⟨by omega, fun j x hj => ?_⟩⟩
      · show (splice S.ws (σ * 64 + α) o.l)[i]? = _
        rw [splice_get _ _ _ _ hfit, if_pos (by omega)]
        exact h.ws i hi
      · have hjl : j < o.l.length := (List.getElem?_eq_some_iff.1 hj).1
        refine ⟨fun hd => ?_, by omega, by omega⟩
        have hd : S.down = false := hd
        rw [show (α : Int) + (j : Int) = ((α + j : Nat) : Int) from by omega]
        have hpl : Fl.place { S with ws := splice S.ws (σ * 64 + α) o.l } (σ : Int) ((α + j : Nat) : Int) 1 = true := by simp [Fl.place, Fl.sector]; omega
        rw [hd] at hpl
        simp only [Fl.read, hd, hpl, Int.toNat_natCast]
        rw [List.getD_eq_getElem?_getD, splice_get _ _ _ _ hfit, if_neg (by omega), if_pos (by omega), show σ * 64 + (α + j) - (σ * 64 + α) = j from by omega, hj]
        rfl
theorem Twin.words_same {S T : Fl} (h : Twin S T) (s : Nat) (hs : s < 2) : S.words s = T.words s := by
  unfold Fl.words
  rw [h.down, h.n, h.n']
  split
  · apply List.ext_getElem?
    intro i
    rw [List.getElem?_take, List.getElem?_take]
    split
    · rw [List.getElem?_drop, List.getElem?_drop]
      exact h.ws _ (by omega)
    · rfl
  · rfl
theorem Twin.start : Twin (Fl.made 4 2) (Fl.made 4 2) := ⟨rfl, rfl, rfl, rfl, rfl, rfl, rfl, by show (List.replicate (64 * 4) _).length = 256; rw [List.length_replicate], by show (List.replicate (64 * 4) _).length = 256; rw [List.length_replicate], fun _ _ => rfl⟩
end Go.Proofs.Ytmeloffdaninmaa
