/-
  What CheckDead, CheckMore, CheckPushes and CheckTypes want, over plain data.
-/
import Derived.Test.YtangblcfdboghaaCheckPure
namespace Go.Proofs.Ytangblcfdboghaa
set_option linter.unusedVariables false

/-! ### An instruction at a place that nobody comes to -/
def deadP (p : Pg) (k : Nat) : Pg := { p with ins := p.ins.set k ⟨22, 0, 0, 0⟩ }
theorem dead_jn_ne {p : Pg} {k q : Nat} (h : q ≠ k) : jn (deadP p k) q = jn p q := by
  simp [jn, deadP, List.getElem?_set_ne (Ne.symm h)]
theorem dead_len (p : Pg) (k : Nat) : (deadP p k).ins.length = p.ins.length := by simp [deadP]
theorem jnOk_end (p : Pg) : jnOk p ⟨22, 0, 0, 0⟩ = true := by
  rw [jnOk_some (show letF 22 = some (48, 48, 48) from rfl)]
  simp [mayF]
theorem jnOk_same {p q : Pg} (h1 : p.vars = q.vars) (h2 : p.blocks = q.blocks) (h3 : p.ins.length ≤ q.ins.length) {j : Jn} (h : jnOk p j = true) : jnOk q j = true := by
  unfold jnOk at h ⊢
  cases hl : letF j.op with
  | none => rw [hl] at h; cases h
  | some x =>
    obtain ⟨a, b, c⟩ := x
    rw [hl] at h
    simp only [Bool.and_eq_true] at h ⊢
    have key : ∀ (c : Nat) (n : Int), mayF p j c n = true → mayF q j c n = true := by
      intro c n hm
      unfold mayF at hm ⊢
      rw [← h1, ← h2]
      by_cases e : c = 106
      · subst e
        simp [isPl] at hm ⊢
        omega
      · simpa [e] using hm
    exact ⟨key _ _ h.1, key _ _ h.2.1, key _ _ h.2.2⟩
theorem dead_right {p : Pg} {k : Nat} (h : p.right = true) : (deadP p k).right = true := by
  simp only [Pg.right, insOk, Bool.and_eq_true, decide_eq_true_eq] at h ⊢
  refine ⟨h.1, h.2.1, h.2.2.1, ⟨by rw [dead_len]; exact h.2.2.2.1.1, by rw [dead_len]; exact h.2.2.2.1.2⟩, ?_⟩
  refine List.all_eq_true.2 (fun j hj => ?_)
  rcases List.mem_or_eq_of_mem_set hj with hj | rfl
  · exact jnOk_same (p := p) (q := deadP p k) rfl rfl (by rw [dead_len]; exact Nat.le_refl _) (List.all_eq_true.1 h.2.2.2.2 j hj)
  · exact jnOk_end _
theorem eff_same {p q : Pg} (h1 : p.vars = q.vars) (h2 : p.blocks = q.blocks) (j : Jn) (st : List UInt8) : effF p j st = effF q j st := by
  unfold effF
  rw [h1, h2]
theorem dead_go {p : Pg} {l : List Sp} {k q : Nat} (h : q ≠ k ∨ (sp l q).r = false) : goF (deadP p k) l q = goF p l q := by
  unfold goF
  by_cases e : (sp l q).r = false
  · rw [if_pos e, if_pos e]
  · have hq : q ≠ k := h.resolve_right e
    rw [dead_jn_ne hq, dead_len]
    unfold doneF
    rw [eff_same (p := deadP p k) (q := p) rfl rfl]
theorem dead_run {p : Pg} {k : Nat} (hr : p.right = true) : ∀ (f q : Nat) (l l' : List Sp), q + f = p.ins.length + 1 → l.length = p.ins.length + 1 → spRun p f q l = .ok l' → (sp l' k).r = false → spRun (deadP p k) f q l = .ok l'
  | 0, q, l, l', _, _, h, _ => h
  | f + 1, q, l, l', hq, hl, h, hk => by
    unfold spRun at h ⊢
    cases hg : goF p l q with
    | error e => rw [hg] at h; cases h
    | ok l2 =>
      rw [hg] at h
      simp only at h
      obtain ⟨h1, h2⟩ := go_later hr (by omega) hl hg
      have h3 : ∀ x, (sp l x).r = true → (sp l' x).r = true := fun x hx => by
        obtain ⟨a, _, _⟩ := h1.more x hx
        have : ∀ (f k : Nat) (l l' : List Sp), k + f = p.ins.length + 1 → l.length = p.ins.length + 1 → spRun p f k l = .ok l' → (sp l x).r = true → (sp l' x).r = true := by
          intro f
          induction f with
          | zero => intro k l l' _ _ h hx; injection h with h; rw [← h]; exact hx
          | succ f ih =>
            intro k l l' hk hl h hx
            unfold spRun at h
            split at h
            · cases h
            · rename_i l3 hg3
              obtain ⟨g1, _⟩ := go_later hr (by omega) hl hg3
              exact ih _ _ _ (by omega) (g1.len.trans hl) h (g1.more x hx).1
        exact this _ _ _ _ (by omega) (h1.len.trans hl) h a
      have hd : q ≠ k ∨ (sp l q).r = false := by
        by_cases e : q = k
        · right
          subst e
          cases hx : (sp l q).r with
          | false => rfl
          | true => rw [h3 q hx] at hk; cases hk
        · exact .inl e
      rw [dead_go hd, hg]
      exact dead_run hr f (q + 1) l2 l' (by omega) (h1.len.trans hl) h hk
theorem dead_spots {p : Pg} {k : Nat} {l : List Sp} (h : spotsF p = .ok l) (hk : (sp l k).r = false) : spotsF (deadP p k) = .ok l := by
  have hr := spots_right h
  unfold spotsF
  rw [if_pos (dead_right hr), dead_len]
  exact dead_run hr _ _ _ _ (by omega) (start_len _) (spots_run h) hk

/-! ### Two ends behind a program -/
def moreP (p : Pg) : Pg := { p with ins := p.ins ++ [⟨22, 0, 0, 0⟩, ⟨22, 0, 0, 0⟩] }
def moreZ : List Sp := [default, default]
theorem more_jn {p : Pg} {q : Nat} (h : q < p.ins.length) : jn (moreP p) q = jn p q := by
  simp [jn, moreP, List.getElem?_append_left h]
theorem more_jn_end {p : Pg} : (jn (moreP p) p.ins.length).op = 22 := by
  simp [jn, moreP]
theorem more_len (p : Pg) : (moreP p).ins.length = p.ins.length + 2 := by simp [moreP]
theorem more_right {p : Pg} (h : p.right = true) (hl : p.ins.length + 2 ≤ 2000) : (moreP p).right = true := by
  simp only [Pg.right, insOk, Bool.and_eq_true, decide_eq_true_eq] at h ⊢
  refine ⟨h.1, h.2.1, h.2.2.1, ⟨by rw [more_len]; omega, by rw [more_len]; exact hl⟩, ?_⟩
  refine List.all_eq_true.2 (fun j hj => ?_)
  rcases List.mem_append.1 hj with hj | hj
  · exact jnOk_same (p := p) (q := moreP p) rfl rfl (by rw [more_len]; omega) (List.all_eq_true.1 h.2.2.2.2 j hj)
  · have : j = ⟨22, 0, 0, 0⟩ := by simpa using hj
    rw [this]
    exact jnOk_end _
theorem comes_more {st : List UInt8} {n : Nat} {z : List Sp} : ∀ (qs : List Nat) (l : List Sp), (∀ q ∈ qs, q < l.length) → comes st n qs (l ++ z) = (comes st n qs l).map (· ++ z)
  | [], l, _ => rfl
  | q :: r, l, h => by
    have hq := h q (by simp)
    unfold comes
    rw [sp_left hq]
    cases hc : comeF (sp l q) st n with
    | none => rfl
    | some s =>
      simp only
      rw [List.set_append_left _ _ hq]
      exact comes_more r _ (fun x hx => by rw [List.length_set]; exact h x (by simp [hx]))
theorem more_go {p : Pg} {l l' z : List Sp} {q : Nat} (hr : p.right = true) (hq : q ≤ p.ins.length) (hl : l.length = p.ins.length + 1) (h : goF p l q = .ok l') : goF (moreP p) (l ++ z) q = .ok (l' ++ z) := by
  unfold goF at h ⊢
  rw [sp_left (by omega)]
  by_cases e : (sp l q).r = false
  · rw [if_pos e] at h ⊢
    injection h with h
    rw [h]
  · rw [if_neg e] at h ⊢
    by_cases en : q = p.ins.length
    · rw [if_pos (.inl en)] at h
      rw [if_pos (.inr (by rw [en]; exact more_jn_end))]
      split at h
      · rename_i hs
        rw [if_pos hs]
        injection h with h
        rw [h]
      · cases h
    · have hlt : q < p.ins.length := by omega
      have ho : (q = (moreP p).ins.length ∨ (jn (moreP p) q).op = 22) ↔ (q = p.ins.length ∨ (jn p q).op = 22) := by
        rw [more_jn hlt, more_len]
        constructor
        · rintro (x | x)
          · omega
          · exact .inr x
        · rintro (x | x)
          · omega
          · exact .inr x
      rw [more_jn hlt]
      by_cases hE : q = p.ins.length ∨ (jn p q).op = 22
      · rw [if_pos hE] at h
        rw [more_jn hlt] at ho
        rw [if_pos (ho.2 hE)]
        split at h
        · rename_i hs
          rw [if_pos hs]
          injection h with h
          rw [h]
        · cases h
      · rw [if_neg hE] at h
        rw [more_jn hlt] at ho
        rw [if_neg (fun x => hE (ho.1 x))]
        split at h
        · cases h
        · rename_i hf
          rw [if_neg hf]
          unfold doneF at h ⊢
          rw [eff_same (p := moreP p) (q := p) rfl rfl]
          cases hd : joinF (effF p (jn p q) (sp l q).st).1 (effF p (jn p q) (sp l q).st).2 (sp l q).st with
          | none => rw [hd] at h; cases h
          | some st =>
            rw [hd] at h
            simp only at h ⊢
            rw [comes_more _ _ (fun x hx => by rw [hl]; exact (onF_in hr hlt hf x hx).2)]
            cases hc : comes st ((sp l q).k + 1) (onF (jn p q) q) l with
            | none => rw [hc] at h; cases h
            | some l2 =>
              rw [hc] at h
              injection h with h
              simp [h]
theorem more_run {p : Pg} {z : List Sp} (hr : p.right = true) : ∀ (f q : Nat) (l l' : List Sp), q + f = p.ins.length + 1 → l.length = p.ins.length + 1 → spRun p f q l = .ok l' → spRun (moreP p) f q (l ++ z) = .ok (l' ++ z)
  | 0, q, l, l', _, _, h => by
    injection h with h
    rw [h]
    rfl
  | f + 1, q, l, l', hq, hl, h => by
    unfold spRun at h ⊢
    cases hg : goF p l q with
    | error e => rw [hg] at h; cases h
    | ok l2 =>
      rw [hg] at h
      rw [more_go hr (by omega) hl hg]
      exact more_run hr f (q + 1) l2 l' (by omega) ((go_later hr (by omega) hl hg).1.len.trans hl) h
theorem spRun_succ (p : Pg) (f k : Nat) (l : List Sp) : spRun p (f + 1) k l = match goF p l k with
    | .error e => .error (k, e)
    | .ok l' => spRun p f (k + 1) l' := rfl
theorem run_add {p : Pg} : ∀ (f g q : Nat) (l l' : List Sp), spRun p f q l = .ok l' → spRun p (f + g) q l = spRun p g (q + f) l'
  | 0, g, q, l, l', h => by
    injection h with h
    rw [h, Nat.zero_add, Nat.add_zero]
  | f + 1, g, q, l, l', h => by
    rw [show f + 1 + g = (f + g) + 1 from by omega, spRun_succ]
    rw [spRun_succ] at h
    cases hg : goF p l q with
    | error e => rw [hg] at h; cases h
    | ok l2 =>
      rw [hg] at h
      simp only at h ⊢
      rw [run_add f g (q + 1) l2 l' h, show q + 1 + f = q + (f + 1) from by omega]
theorem more_spots {p : Pg} {l : List Sp} (h : spotsF p = .ok l) (hl : p.ins.length + 2 ≤ 2000) : spotsF (moreP p) = .ok (l ++ moreZ) := by
  have hr := spots_right h
  unfold spotsF
  rw [if_pos (more_right hr hl), more_len]
  have hs : spStart (p.ins.length + 2) = spStart p.ins.length ++ moreZ := by
    unfold spStart moreZ
    rw [List.replicate_succ', List.replicate_succ']
    simp
  rw [hs, show p.ins.length + 2 + 1 = (p.ins.length + 1) + 2 from by omega, run_add _ 2 0 _ _ (more_run hr _ _ _ _ (by omega) (start_len _) (spots_run h))]
  have hll := spots_len h
  have z1 : (sp (l ++ moreZ) (p.ins.length + 1)).r = false := by simp [sp, moreZ, ← hll]; rfl
  have z2 : (sp (l ++ moreZ) (p.ins.length + 2)).r = false := by
    have : p.ins.length + 2 = l.length + 1 := by omega
    rw [this]
    simp [sp, moreZ]
    rfl
  have g1 : goF (moreP p) (l ++ moreZ) (p.ins.length + 1) = .ok (l ++ moreZ) := by unfold goF; rw [if_pos z1]
  have g2 : goF (moreP p) (l ++ moreZ) (p.ins.length + 2) = .ok (l ++ moreZ) := by unfold goF; rw [if_pos z2]
  rw [Nat.zero_add]
  show spRun (moreP p) 2 (p.ins.length + 1) (l ++ moreZ) = _
  unfold spRun
  rw [g1]
  simp only
  unfold spRun
  rw [g2]
  rfl
end Go.Proofs.Ytangblcfdboghaa
