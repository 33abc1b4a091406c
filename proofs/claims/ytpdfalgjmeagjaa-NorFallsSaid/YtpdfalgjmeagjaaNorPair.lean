/-
  A flash that is armed beside one that is not: what they come to, step by step.
-/
import Derived.Test.YtpdfalgjmeagjaaNorTwiceWalk
namespace Go.Proofs.Ytpdfalgjmeagjaa
open Go.RowKit
set_option linter.unusedVariables false

structure Pair (S T : Fl) (L : Nat) : Prop where
  n : S.n = 4
  n' : T.n = 4
  g : S.guard = 2
  g' : T.guard = 2
  armed : S.armed = true
  armed' : T.armed = false
  left : S.left = L
  down : S.down = false
  down' : T.down = false
  half : S.half = -1
  half' : T.half = -1
  ws : S.ws = T.ws
/-- How many steps a call takes, by its answer. -/
def cost (o : Oc) (r : Nat) : Nat := match o.kind, r with
  | 1, 0 => min o.m 70
  | 2, 0 => 1
  | _, _ => 0
theorem prog_armed : ∀ (l : List UInt32) (S : Fl) (j : Nat), S.armed = true → (l.length ≤ S.left → S.prog j l = ({ S with ws := andL S.ws j l, left := S.left - l.length }, true)) ∧ (S.left < l.length → (S.prog j l).2 = false ∧ (S.prog j l).1.down = true)
  | [], S, j, h => ⟨fun _ => by rw [Fl.prog]; rfl, fun e => by simp at e⟩
  | x :: l, S, j, h => by
    obtain ⟨n, ws, g, ar, le, d, hf⟩ := S
    simp only at h
    subst h
    cases le with
    | zero => exact ⟨fun e => by simp at e, fun _ => ⟨rfl, rfl⟩⟩
    | succ le =>
      have ih := prog_armed l (Fl.put1 ⟨n, ws, g, true, le, d, hf⟩ j x) (j + 1) rfl
      have e : Fl.prog ⟨n, ws, g, true, le + 1, d, hf⟩ j (x :: l) = (Fl.put1 ⟨n, ws, g, true, le, d, hf⟩ j x).prog (j + 1) l := rfl
      rw [e]
      refine ⟨fun hl => ?_, fun hl => ih.2 (by simp at hl; exact hl)⟩
      rw [ih.1 (show l.length ≤ le from by simpa using hl)]
      simp only [List.length_cons, Fl.put1, andL, Prod.mk.injEq, and_true]
      congr 1
      omega
theorem Pair.does {S T : Fl} {L : Nat} (h : Pair S T L) (o : Oc) (hl : o.l.length = o.m) (hk : o.kind ≠ 4) (hk' : o.kind ≠ 5) :
    (cost o (T.does o).2 ≤ L → (S.does o).2 = (T.does o).2 ∧ Pair (S.does o).1 (T.does o).1 (L - cost o (T.does o).2)) ∧ (L < cost o (T.does o).2 → (S.does o).2 = 40 ∧ (S.does o).1.down = true) := by
  have hsec : ∀ s, S.sector s = T.sector s := fun s => by simp [Fl.sector, h.n, h.n']
  have hpl : ∀ s a m, S.place s a m = T.place s a m := fun s a m => by simp [Fl.place, hsec]
  have h70 : (o.l.take 70).length = min o.m 70 := by rw [List.length_take, hl, Nat.min_comm]
  have same : cost o (T.does o).2 = 0 → (S.does o).2 = (T.does o).2 → Pair (S.does o).1 (T.does o).1 L → (cost o (T.does o).2 ≤ L → (S.does o).2 = (T.does o).2 ∧ Pair (S.does o).1 (T.does o).1 (L - cost o (T.does o).2)) ∧ (L < cost o (T.does o).2 → (S.does o).2 = 40 ∧ (S.does o).1.down = true) := by
    intro h1 h2 h3
    rw [h1]
    exact ⟨fun _ => ⟨h2, h3⟩, fun e => by omega⟩
  rcases (by
    unfold Oc.kind
    split
    · exact .inl rfl
    · split
      · exact .inr (.inl rfl)
      · split
        · exact .inr (.inr (.inl rfl))
        · split
          · exact .inr (.inr (.inr (.inl rfl)))
          · split
            · exact .inr (.inr (.inr (.inr (.inl rfl))))
            · exact .inr (.inr (.inr (.inr (.inr rfl)))) : o.kind = 1 ∨ o.kind = 2 ∨ o.kind = 3 ∨ o.kind = 4 ∨ o.kind = 5 ∨ o.kind = 0) with hq | hq | hq | hq | hq | hq
  · cases hp : T.place o.s o.a (o.l.take 70).length
    · have e1 : S.does o = (S, 2) := by simp only [Fl.does, hq, Fl.program, h.down, hpl, hp]
      have e2 : T.does o = (T, 2) := by simp only [Fl.does, hq, Fl.program, h.down', hp]
      refine same ?_ ?_ ?_
      · rw [e2]; simp only [cost, hq]
      · rw [e1, e2]
      · rw [e1, e2]; exact h
    · have e2 : T.does o = ({ T with ws := andL T.ws (o.s.toNat * 64 + o.a.toNat) (o.l.take 70) }, 0) := by simp only [Fl.does, hq, Fl.program, h.down', hp, prog_free _ T _ h.armed']
      have hc : cost o (T.does o).2 = (o.l.take 70).length := by rw [e2, h70]; simp only [cost, hq]
      rw [hc]
      have hpa := prog_armed (o.l.take 70) S (o.s.toNat * 64 + o.a.toNat) h.armed
      rw [h.left] at hpa
      refine ⟨fun hle => ?_, fun hlt => ?_⟩
      · have e1 : S.does o = ({ S with ws := andL S.ws (o.s.toNat * 64 + o.a.toNat) (o.l.take 70), left := L - (o.l.take 70).length }, 0) := by
          simp only [Fl.does, hq, Fl.program, h.down, hpl, hp, hpa.1 hle]
        rw [e1, e2]
        exact ⟨rfl, ⟨h.n, h.n', h.g, h.g', h.armed, h.armed', rfl, h.down, h.down', h.half, h.half', by show andL S.ws _ _ = andL T.ws _ _; rw [h.ws]⟩⟩
      · obtain ⟨q1, q2⟩ := hpa.2 hlt
        simp only [Fl.does, hq, Fl.program, h.down, hpl, hp]
        obtain ⟨X, hX⟩ : ∃ X, S.prog (o.s.toNat * 64 + o.a.toNat) (o.l.take 70) = X := ⟨_, rfl⟩
        rw [hX] at q1 q2 ⊢
        obtain ⟨X1, X2⟩ := X
        simp only at q1 q2
        subst q1
        exact ⟨rfl, q2⟩
  · cases hp : T.sector o.s
    · have e1 : S.does o = (S, 2) := by simp only [Fl.does, hq, Fl.erase, h.down, hsec, hp]
      have e2 : T.does o = (T, 2) := by simp only [Fl.does, hq, Fl.erase, h.down', hp]
      refine same ?_ ?_ ?_
      · rw [e2]; simp only [cost, hq]
      · rw [e1, e2]
      · rw [e1, e2]; exact h
    · have hst : T.step = (T, true) := by simp [Fl.step, h.armed']
      have e2 : T.does o = ({ T with ws := splice T.ws (o.s.toNat * 64) ones64 }, 0) := by simp only [Fl.does, hq, Fl.erase, h.down', hp, hst]
      have hc : cost o (T.does o).2 = 1 := by rw [e2]; simp only [cost, hq]
      rw [hc]
      obtain ⟨n, ws, g, ar, le, d, hf⟩ := S
      have a1 := h.armed
      have a2 := h.left
      have a3 := h.ws
      simp only at a1 a2 a3
      subst a1 a2 a3
      have hd := h.down
      have hs2 := hsec o.s
      rw [hp] at hs2
      simp only at hd
      subst hd
      cases le with
      | zero =>
        refine ⟨fun e => by omega, fun _ => ?_⟩
        simp only [Fl.does, hq, Fl.erase, hs2, Fl.step]
        exact ⟨trivial, trivial⟩
      | succ le =>
        refine ⟨fun _ => ?_, fun e => by omega⟩
        rw [e2]
        simp only [Fl.does, hq, Fl.erase, hs2, Fl.step]
        exact ⟨trivial, ⟨h.n, h.n', h.g, h.g', rfl, h.armed', rfl, rfl, h.down', h.half, h.half', rfl⟩⟩
  · cases hp : T.place o.s o.a (o.l.take 70).length
    · have e1 : S.does o = (S, 2) := by simp only [Fl.does, hq, Fl.rewrite, hpl, hp]
      have e2 : T.does o = (T, 2) := by simp only [Fl.does, hq, Fl.rewrite, hp]
      refine same ?_ ?_ ?_
      · rw [e2]; simp only [cost, hq]
      · rw [e1, e2]
      · rw [e1, e2]; exact h
    · cases hg : decide (o.s < 2)
      · have e1 : S.does o = ({ S with ws := splice S.ws (o.s.toNat * 64 + o.a.toNat) (o.l.take 70) }, 0) := by simp only [Fl.does, hq, Fl.rewrite, hpl, hp, h.g, hg]
        have e2 : T.does o = ({ T with ws := splice T.ws (o.s.toNat * 64 + o.a.toNat) (o.l.take 70) }, 0) := by simp only [Fl.does, hq, Fl.rewrite, hp, h.g', hg]
        refine same ?_ ?_ ?_
        · rw [e2]; simp only [cost, hq]
        · rw [e1, e2]
        · rw [e1, e2]; exact ⟨h.n, h.n', h.g, h.g', h.armed, h.armed', h.left, h.down, h.down', h.half, h.half', by show splice S.ws _ _ = splice T.ws _ _; rw [h.ws]⟩
      · have e1 : S.does o = (S, 41) := by simp only [Fl.does, hq, Fl.rewrite, hpl, hp, h.g, hg]
        have e2 : T.does o = (T, 41) := by simp only [Fl.does, hq, Fl.rewrite, hp, h.g', hg]
        refine same ?_ ?_ ?_
        · rw [e2]; simp only [cost, hq]
        · rw [e1, e2]
        · rw [e1, e2]; exact h
  · exact absurd hq hk
  · exact absurd hq hk'
  · have e1 : S.does o = (S, 0) := by simp only [Fl.does, hq]
    have e2 : T.does o = (T, 0) := by simp only [Fl.does, hq]
    refine same ?_ ?_ ?_
    · rw [e2]; simp only [cost, hq]
    · rw [e1, e2]
    · rw [e1, e2]; exact h
end Go.Proofs.Ytpdfalgjmeagjaa
