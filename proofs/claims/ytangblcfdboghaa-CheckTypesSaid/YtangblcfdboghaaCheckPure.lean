/-
  Which programs may run, as chapter 14 of the document defines it, over plain data: places are gone over rising, each tells its stack to those at which it goes on.
-/
import Derived.Test.YtangblcfdboghaaCodeIns
namespace Go.Proofs.Ytangblcfdboghaa
set_option linter.unusedVariables false

/-- What there is of a place: whether it can be come to, its stack, its steps. -/
structure Sp where
  r : Bool
  st : List UInt8
  k : Nat
deriving DecidableEq
instance : Inhabited Sp := ⟨⟨false, [], 0⟩⟩
def sp (l : List Sp) (q : Nat) : Sp := l.getD q default
def jn (p : Pg) (q : Nat) : Jn := p.ins.getD q default
def topF (st : List UInt8) : UInt8 := st.getLastD 0
/-- What an instruction takes, and puts. -/
def effF (p : Pg) (j : Jn) (st : List UInt8) : List UInt8 × List UInt8 :=
  if j.op = 1 then ([], [UInt8.ofNat j.t])
  else if j.op = 2 then ([], [UInt8.ofNat (p.vars.getD j.a.toNat default).typ])
  else if j.op = 3 then ([UInt8.ofNat (p.vars.getD j.a.toNat default).typ], [])
  else if j.op = 4 ∨ j.op = 5 ∨ j.op = 6 ∨ j.op = 7 ∨ j.op = 8 ∨ j.op = 9 ∨ j.op = 10 ∨ j.op = 11 then ([UInt8.ofNat j.t, UInt8.ofNat j.t], [UInt8.ofNat j.t])
  else if j.op = 12 then ([UInt8.ofNat j.t], [UInt8.ofNat j.t])
  else if j.op = 13 ∨ j.op = 14 then ([UInt8.ofNat j.t, UInt8.ofNat j.t], [1])
  else if j.op = 15 then ([UInt8.ofNat j.a.toNat], [UInt8.ofNat j.t])
  else if j.op = 16 then ([topF st], [topF st, topF st])
  else if j.op = 17 then ([topF st], [])
  else if j.op = 19 then ([1], [])
  else if j.op = 20 then ((pinsF (p.blocks.getD j.a.toNat 0).toNat).1, [])
  else if j.op = 21 then ([], [(pinsF (p.blocks.getD j.a.toNat 0).toNat).2.getD j.n.toNat 0])
  else ([], [])
/-- The stack behind what takes tk and puts pt. -/
def joinF (tk pt st : List UInt8) : Option (List UInt8) :=
  if tk.length ≤ st.length ∧ st.drop (st.length - tk.length) = tk then
    (if (st.take (st.length - tk.length) ++ pt).length ≤ 64 then some (st.take (st.length - tk.length) ++ pt) else none)
  else none
def doneF (p : Pg) (j : Jn) (st : List UInt8) : Option (List UInt8) := joinF (effF p j st).1 (effF p j st).2 st
def onF (j : Jn) (k : Nat) : List Nat := if j.op = 18 then [j.a.toNat] else if j.op = 19 then [j.a.toNat, k + 1] else [k + 1]
def comeF (s : Sp) (st : List UInt8) (n : Nat) : Option Sp := if s.r = true ∧ s.st ≠ st then none else some ⟨true, st, max s.k n⟩
def comes (st : List UInt8) (n : Nat) : List Nat → List Sp → Option (List Sp)
  | [], l => some l
  | q :: r, l => match comeF (sp l q) st n with
    | none => none
    | some s => comes st n r (l.set q s)
def goF (p : Pg) (l : List Sp) (k : Nat) : Except Nat (List Sp) :=
  if (sp l k).r = false then .ok l
  else if k = p.ins.length ∨ (jn p k).op = 22 then (if (sp l k).st = [] then .ok l else .error 140)
  else if ((jn p k).op = 18 ∨ (jn p k).op = 19) ∧ (jn p k).a ≤ k then .error 141
  else match doneF p (jn p k) (sp l k).st with
    | none => .error 140
    | some st => match comes st ((sp l k).k + 1) (onF (jn p k) k) l with
      | none => .error 140
      | some l' => .ok l'
def spRun (p : Pg) : Nat → Nat → List Sp → Except (Nat × Nat) (List Sp)
  | 0, _, l => .ok l
  | f + 1, k, l => match goF p l k with
    | .error e => .error (k, e)
    | .ok l' => spRun p f (k + 1) l'
def spStart (n : Nat) : List Sp := ⟨true, [], 0⟩ :: List.replicate n default
def spotsF (p : Pg) : Except (Nat × Nat) (List Sp) := if p.right = true then spRun p (p.ins.length + 1) 0 (spStart p.ins.length) else .error (0, 130)
def mostL : List Sp → Nat → Nat
  | [], n => n
  | s :: r, n => mostL r (if s.r = true then max n (s.k + 1) else n)
def mostF (l : List Sp) : Nat := mostL l.dropLast 0
def stepsF (p : Pg) : Nat := match spotsF p with
  | .ok l => mostF l
  | .error _ => 0
def checkF (p : Pg) (b : Int) : Nat := match spotsF p with
  | .ok l => if b < mostF l then 142 else 0
  | .error e => e.2

/-! ### What is known of lists of places -/
theorem sp_set_eq {l : List Sp} {q : Nat} {s : Sp} (h : q < l.length) : sp (l.set q s) q = s := by simp [sp, h]
theorem sp_set_ne {l : List Sp} {q x : Nat} {s : Sp} (h : q ≠ x) : sp (l.set q s) x = sp l x := by simp [sp, h]
theorem sp_left {l z : List Sp} {q : Nat} (h : q < l.length) : sp (l ++ z) q = sp l q := by simp [sp, List.getElem?_append_left h]

/-- What was known stays, up to k word by word. -/
structure Later (k : Nat) (l l' : List Sp) : Prop where
  len : l'.length = l.length
  same : ∀ q, q ≤ k → sp l' q = sp l q
  more : ∀ q, (sp l q).r = true → (sp l' q).r = true ∧ (sp l' q).st = (sp l q).st ∧ (sp l q).k ≤ (sp l' q).k
theorem Later.refl (k : Nat) (l : List Sp) : Later k l l := ⟨rfl, fun _ _ => rfl, fun _ h => ⟨h, rfl, Nat.le_refl _⟩⟩
theorem Later.then_ {k j : Nat} {l l' l'' : List Sp} (h : Later k l l') (h' : Later j l' l'') (hj : k ≤ j) : Later k l l'' :=
  ⟨h'.len.trans h.len, fun q hq => (h'.same q (by omega)).trans (h.same q hq), fun q hq => by
    obtain ⟨a, b, c⟩ := h.more q hq
    obtain ⟨d, e, f⟩ := h'.more q a
    exact ⟨d, e.trans b, by omega⟩⟩
theorem come_later {k q n : Nat} {l : List Sp} {st : List UInt8} {s : Sp} (hk : k < q) (hq : q < l.length) (h : comeF (sp l q) st n = some s) :
    Later k l (l.set q s) ∧ s.r = true ∧ s.st = st ∧ n ≤ s.k := by
  unfold comeF at h
  split at h
  · cases h
  · rename_i hc
    obtain rfl := Option.some.inj h
    refine ⟨⟨by simp, fun x hx => sp_set_ne (by omega), fun x hx => ?_⟩, rfl, rfl, Nat.le_max_right _ _⟩
    by_cases e : q = x
    · subst e
      rw [sp_set_eq hq]
      refine ⟨rfl, ?_, Nat.le_max_left _ _⟩
      simp only [hx, true_and, Classical.not_not] at hc
      exact hc.symm
    · rw [sp_set_ne e]
      exact ⟨hx, rfl, Nat.le_refl _⟩
theorem comes_later {k n : Nat} {st : List UInt8} : ∀ (qs : List Nat) (l l' : List Sp), (∀ q ∈ qs, k < q ∧ q < l.length) → comes st n qs l = some l' →
    Later k l l' ∧ ∀ q ∈ qs, (sp l' q).r = true ∧ (sp l' q).st = st ∧ n ≤ (sp l' q).k
  | [], l, l', _, h => by
    obtain rfl := Option.some.inj h
    exact ⟨Later.refl _ _, by simp⟩
  | q :: r, l, l', hq, h => by
    unfold comes at h
    split at h
    · cases h
    · rename_i s hs
      obtain ⟨h1, h2⟩ := hq q (by simp)
      obtain ⟨hl, ha, hb, hc⟩ := come_later h1 h2 hs
      have hq' : ∀ x ∈ r, k < x ∧ x < (l.set q s).length := fun x hx => by
        have := hq x (by simp [hx])
        simpa using this
      obtain ⟨hl', hr⟩ := comes_later r _ _ hq' h
      refine ⟨hl.then_ hl' (Nat.le_refl _), fun x hx => ?_⟩
      rcases List.mem_cons.1 hx with rfl | hx
      · obtain ⟨d, e, f⟩ := hl'.more x (by rw [sp_set_eq h2]; exact ha)
        rw [sp_set_eq h2] at e f
        exact ⟨d, e.trans hb, by omega⟩
      · exact hr x hx
theorem onF_in {p : Pg} {k : Nat} (hr : p.right = true) (hk : k < p.ins.length) (hj : ¬ (((jn p k).op = 18 ∨ (jn p k).op = 19) ∧ (jn p k).a ≤ k)) :
    ∀ q ∈ onF (jn p k) k, k < q ∧ q < p.ins.length + 1 := by
  have hm : jn p k ∈ p.ins := by
    unfold jn
    rw [List.getD_eq_getElem?_getD, List.getElem?_eq_getElem hk]
    exact List.getElem_mem hk
  have hok : jnOk p (jn p k) = true := by
    simp only [Pg.right, insOk, Bool.and_eq_true] at hr
    exact List.all_eq_true.1 hr.2.2.2.2 _ hm
  intro q hq
  unfold onF at hq
  split at hq
  · rename_i h
    obtain rfl : q = (jn p k).a.toNat := by simpa using hq
    rw [jnOk_some (show letF (jn p k).op = some (48, 106, 48) by rw [h]; rfl)] at hok
    simp [mayF, isPl] at hok
    have : ¬ (jn p k).a ≤ k := fun x => hj ⟨.inl h, x⟩
    omega
  · split at hq
    · rename_i h
      rw [jnOk_some (show letF (jn p k).op = some (48, 106, 48) by rw [h]; rfl)] at hok
      simp [mayF, isPl] at hok
      have : ¬ (jn p k).a ≤ k := fun x => hj ⟨.inr h, x⟩
      rcases List.mem_cons.1 hq with rfl | hq
      · omega
      · obtain rfl : q = k + 1 := by simpa using hq
        omega
    · obtain rfl : q = k + 1 := by simpa using hq
      omega

/-- What the document asks of one place, of all places as they are told. -/
def Fit (p : Pg) (l : List Sp) (q : Nat) : Prop :=
  (sp l q).r = true → if q = p.ins.length ∨ (jn p q).op = 22 then (sp l q).st = [] else
    ¬ (((jn p q).op = 18 ∨ (jn p q).op = 19) ∧ (jn p q).a ≤ q) ∧ ∃ st, doneF p (jn p q) (sp l q).st = some st ∧ ∀ x ∈ onF (jn p q) q, (sp l x).r = true ∧ (sp l x).st = st ∧ (sp l q).k + 1 ≤ (sp l x).k
theorem Fit.later {p : Pg} {l l' : List Sp} {q k : Nat} (h : Fit p l q) (hl : Later k l l') (hq : q ≤ k) : Fit p l' q := by
  intro hr
  rw [hl.same q hq] at hr ⊢
  have h := h hr
  split at h
  · rename_i hc
    rw [if_pos hc]
    exact h
  · rename_i hc
    rw [if_neg hc]
    obtain ⟨h1, st, h2, h3⟩ := h
    refine ⟨h1, st, h2, fun x hx => ?_⟩
    obtain ⟨a, b, c⟩ := h3 x hx
    obtain ⟨d, e, f⟩ := hl.more x a
    exact ⟨d, e.trans b, by omega⟩
theorem go_later {p : Pg} {l l' : List Sp} {k : Nat} (hr : p.right = true) (hk : k ≤ p.ins.length) (hl : l.length = p.ins.length + 1) (h : goF p l k = .ok l') : Later k l l' ∧ Fit p l' k := by
  unfold goF at h
  split at h
  · rename_i h0
    injection h with h
    subst h
    exact ⟨Later.refl _ _, fun hr' => by rw [h0] at hr'; cases hr'⟩
  · split at h
    · rename_i h1
      split at h
      · rename_i h2
        injection h with h
        subst h
        refine ⟨Later.refl _ _, fun _ => ?_⟩
        rw [if_pos h1]
        exact h2
      · cases h
    · rename_i h1
      split at h
      · cases h
      · rename_i h2
        split at h
        · cases h
        · rename_i st hd
          split at h
          · cases h
          · rename_i l2 hc
            injection h with h
            subst h
            have hkn : k < p.ins.length := by
              rcases Nat.lt_or_ge k p.ins.length with x | x
              · exact x
              · exact absurd (.inl (by omega)) h1
            obtain ⟨ha, hb⟩ := comes_later (k := k) _ _ _ (fun q hq => by rw [hl]; exact onF_in hr hkn h2 q hq) hc
            refine ⟨ha, fun _ => ?_⟩
            rw [if_neg h1, ha.same k (Nat.le_refl _)]
            exact ⟨h2, st, hd, hb⟩
theorem run_fit {p : Pg} (hr : p.right = true) : ∀ (f k : Nat) (l l' : List Sp), k + f = p.ins.length + 1 → l.length = p.ins.length + 1 → (∀ q, q < k → Fit p l q) → spRun p f k l = .ok l' →
    l'.length = l.length ∧ (∀ q, q < p.ins.length + 1 → Fit p l' q) ∧ (∀ q, q ≤ k → sp l' q = sp l q) ∧ (∀ q, (sp l q).r = true → (sp l' q).r = true ∧ (sp l' q).st = (sp l q).st)
  | 0, k, l, l', hk, hl, hf, h => by
    injection h with h
    subst h
    exact ⟨rfl, fun q hq => hf q (by omega), fun _ _ => rfl, fun _ h => ⟨h, rfl⟩⟩
  | f + 1, k, l, l', hk, hl, hf, h => by
    unfold spRun at h
    split at h
    · cases h
    · rename_i l2 hg
      obtain ⟨h1, h2⟩ := go_later hr (by omega) hl hg
      obtain ⟨a, b, c, d⟩ := run_fit hr f (k + 1) l2 l' (by omega) (h1.len.trans hl) (fun q hq => by
        by_cases e : q = k
        · rw [e]; exact h2
        · exact (hf q (by omega)).later h1 (by omega)) h
      refine ⟨a.trans h1.len, b, fun q hq => (c q (by omega)).trans (h1.same q hq), fun q hq => ?_⟩
      obtain ⟨x, y, _⟩ := h1.more q hq
      obtain ⟨x', y'⟩ := d q x
      exact ⟨x', y'.trans y⟩
theorem spots_right {p : Pg} {l : List Sp} (h : spotsF p = .ok l) : p.right = true := by
  unfold spotsF at h
  split at h
  · assumption
  · cases h
theorem spots_run {p : Pg} {l : List Sp} (h : spotsF p = .ok l) : spRun p (p.ins.length + 1) 0 (spStart p.ins.length) = .ok l := by
  unfold spotsF at h
  rw [if_pos (spots_right (by unfold spotsF; exact h))] at h
  exact h
theorem start_len (n : Nat) : (spStart n).length = n + 1 := by simp [spStart]
theorem spots_len {p : Pg} {l : List Sp} (h : spotsF p = .ok l) : l.length = p.ins.length + 1 := by
  have := (run_fit (spots_right h) _ _ _ _ (by omega) (start_len _) (by simp) (spots_run h)).1
  rw [this, start_len]
theorem spots_fit {p : Pg} {l : List Sp} (h : spotsF p = .ok l) {q : Nat} (hq : q < p.ins.length + 1) : Fit p l q :=
  (run_fit (spots_right h) _ _ _ _ (by omega) (start_len _) (by simp) (spots_run h)).2.1 q hq
theorem spots_first {p : Pg} {l : List Sp} (h : spotsF p = .ok l) : (sp l 0).r = true ∧ (sp l 0).st = [] := by
  rw [(run_fit (spots_right h) _ _ _ _ (by omega) (start_len _) (by simp) (spots_run h)).2.2.1 0 (Nat.le_refl _)]
  exact ⟨rfl, rfl⟩

/-! ### Bounds -/
theorem join_le {tk pt st s : List UInt8} (h : joinF tk pt st = some s) : s.length ≤ 64 := by
  unfold joinF at h
  split at h
  · split at h
    · obtain rfl := Option.some.inj h
      assumption
    · cases h
  · cases h
/-- All stacks have 64 types at most, all steps are at most so many. -/
def Low (k : Nat) (l : List Sp) : Prop := ∀ s ∈ l, s.st.length ≤ 64 ∧ s.k ≤ k
theorem Low.sp {k : Nat} {l : List Sp} (h : Low k l) (q : Nat) : (sp l q).st.length ≤ 64 ∧ (Go.Proofs.Ytangblcfdboghaa.sp l q).k ≤ k := by
  unfold Go.Proofs.Ytangblcfdboghaa.sp
  rw [List.getD_eq_getElem?_getD]
  cases hx : l[q]? with
  | none => exact ⟨by decide, Nat.zero_le _⟩
  | some s => exact h s (List.mem_of_getElem? hx)
theorem comes_low {k n : Nat} {st : List UInt8} (hs : st.length ≤ 64) (hn : n ≤ k) : ∀ (qs : List Nat) (l l' : List Sp), Low k l → comes st n qs l = some l' → Low k l'
  | [], l, l', hl, h => by
    obtain rfl := Option.some.inj h
    exact hl
  | q :: r, l, l', hl, h => by
    unfold comes at h
    split at h
    · cases h
    · rename_i s hc
      refine comes_low hs hn r _ _ (fun x hx => ?_) h
      rcases List.mem_or_eq_of_mem_set hx with hx | rfl
      · exact hl x hx
      · unfold comeF at hc
        split at hc
        · cases hc
        · obtain rfl := Option.some.inj hc
          exact ⟨hs, Nat.max_le.2 ⟨(hl.sp q).2, hn⟩⟩
theorem go_low {p : Pg} {l l' : List Sp} {k : Nat} (hl : Low k l) (h : goF p l k = .ok l') : Low (k + 1) l' := by
  have hl' : Low (k + 1) l := fun s hs => ⟨(hl s hs).1, Nat.le_succ_of_le (hl s hs).2⟩
  unfold goF at h
  split at h
  · injection h with h; subst h; exact hl'
  · split at h
    · split at h
      · injection h with h; subst h; exact hl'
      · cases h
    · split at h
      · cases h
      · split at h
        · cases h
        · rename_i st hd
          split at h
          · cases h
          · rename_i l2 hc
            injection h with h
            subst h
            exact comes_low (join_le hd) (Nat.succ_le_succ (hl.sp k).2) _ _ _ hl' hc
theorem start_low (n : Nat) : Low 0 (spStart n) := by
  intro s hs
  rcases List.mem_cons.1 hs with rfl | hs
  · exact ⟨Nat.zero_le _, Nat.le_refl _⟩
  · obtain rfl := (List.mem_replicate.1 hs).2
    exact ⟨Nat.zero_le _, Nat.le_refl _⟩
theorem run_low {p : Pg} : ∀ (f k : Nat) (l l' : List Sp), Low k l → spRun p f k l = .ok l' → Low (k + f) l'
  | 0, k, l, l', hl, h => by
    injection h with h
    subst h
    exact hl
  | f + 1, k, l, l', hl, h => by
    unfold spRun at h
    split at h
    · cases h
    · rename_i l2 hg
      have := run_low f (k + 1) l2 l' (go_low hl hg) h
      rwa [show k + 1 + f = k + (f + 1) from by omega] at this
theorem spots_low {p : Pg} {l : List Sp} (h : spotsF p = .ok l) : Low (p.ins.length + 1) l := by
  have := run_low _ _ _ _ (start_low _) (spots_run h)
  rwa [Nat.zero_add] at this
theorem most_mono : ∀ (l : List Sp) (n : Nat), n ≤ mostL l n
  | [], n => Nat.le_refl _
  | s :: r, n => by
    unfold mostL
    split
    · exact Nat.le_trans (Nat.le_max_left _ _) (most_mono r _)
    · exact most_mono r _
theorem most_of : ∀ (l : List Sp) (n : Nat) (s : Sp), s ∈ l → s.r = true → s.k + 1 ≤ mostL l n
  | x :: r, n, s, hs, hr => by
    unfold mostL
    rcases List.mem_cons.1 hs with rfl | hs
    · rw [if_pos hr]
      exact Nat.le_trans (Nat.le_max_right _ _) (most_mono r _)
    · exact most_of r _ s hs hr
theorem most_at {l : List Sp} {q n : Nat} (hl : l.length = n + 1) (hq : q < n) (hr : (sp l q).r = true) : (sp l q).k + 1 ≤ mostF l := by
  refine most_of _ _ _ ?_ hr
  have h1 : q < l.dropLast.length := by simp [hl, hq]
  have h2 : sp l q = l.dropLast[q] := by
    rw [List.getElem_dropLast]
    unfold sp
    rw [List.getD_eq_getElem?_getD, List.getElem?_eq_getElem (by omega)]
    rfl
  rw [h2]
  exact List.getElem_mem h1
theorem most_le : ∀ (l : List Sp) (n b : Nat), n ≤ b → (∀ s ∈ l, s.k + 1 ≤ b) → mostL l n ≤ b
  | [], n, b, h, _ => h
  | s :: r, n, b, h, hs => by
    unfold mostL
    have h1 := hs s (by simp)
    split
    · exact most_le r _ b (Nat.max_le.2 ⟨h, h1⟩) (fun x hx => hs x (by simp [hx]))
    · exact most_le r _ b h (fun x hx => hs x (by simp [hx]))
end Go.Proofs.Ytangblcfdboghaa
