/-
  A statement whose order is open comes to what the small machine's pass over it tells, in whichever order.
-/
import Derived.Test.YtmeloffdaninmaaAbsPass
namespace Go.Proofs.Ytmeloffdaninmaa
open Go.RowKit
set_option linter.unusedVariables false

/-- Each slot is written once, within the frame. -/
def slotsB (ops : Array Oper) (nt : Nat) : Bool := (List.range ops.size).all fun i => match ops[i]? with
  | some o => match o.dst with
    | some t => (match writerOf ops.toList 0 t with | some j => Nat.beq j i | none => false) && Nat.blt t nt && Nat.blt t 549755813888
    | none => true
  | none => true
theorem writer_out : ∀ (l : List Oper) (k j : Nat) (t : Tmp), writerOf l k t = some j → ∃ o, k ≤ j ∧ l[j - k]? = some o ∧ o.dst = some t
  | o :: l, k, j, t, h => by
    simp only [writerOf] at h
    cases hd : o.dst with
    | none =>
      simp only [hd] at h
      obtain ⟨o', h1, h2, h3⟩ := writer_out l (k + 1) j t h
      exact ⟨o', by omega, by rw [show j - k = (j - (k + 1)) + 1 from by omega]; exact h2, h3⟩
    | some d =>
      simp only [hd] at h
      cases hb : Nat.beq d t
      · rw [hb] at h
        obtain ⟨o', h1, h2, h3⟩ := writer_out l (k + 1) j t h
        exact ⟨o', by omega, by rw [show j - k = (j - (k + 1)) + 1 from by omega]; exact h2, h3⟩
      · rw [hb] at h
        simp at h
        subst h
        exact ⟨o, Nat.le_refl _, by simp, by rw [hd, Nat.eq_of_beq_eq_true hb]⟩
theorem slots_out {ops : Array Oper} {nt : Nat} (h : slotsB ops nt = true) {i : Nat} {o : Oper} {t : Tmp} (ho : ops[i]? = some o) (ht : o.dst = some t) : writerOf ops.toList 0 t = some i ∧ t < nt ∧ t < 549755813888 := by
  have hlt : i < ops.size := (Array.getElem?_eq_some_iff.1 ho).1
  have h1 := List.all_eq_true.1 h i (List.mem_range.2 hlt)
  simp only [ho, ht, Bool.and_eq_true] at h1
  refine ⟨?_, blt_true h1.1.2, blt_true h1.2⟩
  have h2 := h1.1.1
  split at h2
  · rename_i j hj
    rw [hj, Nat.eq_of_beq_eq_true h2]
  · cases h2
/-- What a slot holds, of what is listed. -/
def slotT (ops : Array Oper) (T : List ToldOps) (s : St) (S : Nat → Bool) (t : Tmp) : AV := match writerOf ops.toList 0 t with
  | some j => match S j with
    | true => match lookT T j with
      | some v => v
      | none => .undef
    | false => s.tmp t
  | none => s.tmp t

/-- All that is told, in the frame. -/
def allIn (ops : Array Oper) : List ToldOps → Tq AV → Tq AV
  | [], tm => tm
  | r :: l, tm => match ops[r.i]? with
    | some o => match o.dst with
      | some t => (allIn ops l tm).set deep t (some r.v)
      | none => allIn ops l tm
    | none => allIn ops l tm
/-- The order of the pass: ahead of each that may write what has to come ahead of it. -/
def aheadOf (todo : Nat) : List Nat → List Nat
  | [] => []
  | i :: l => match todo.testBit i with
    | true => i :: aheadOf todo l
    | false => aheadOf todo l
def orderGo (ms : List Nat) (ix : List Nat) (all : Nat) : List Nat → Nat → List Nat
  | [], acc => aheadOf (Nat.xor all acc) ix
  | e :: l, acc => match acc.testBit e with
    | true => orderGo ms ix all l acc
    | false => match Nat.lor acc (ms.getD e 0) with
      | m => aheadOf (Nat.xor m acc) ix ++ e :: orderGo ms ix all l (withBit m e)
def actsOf : List Oper → Nat → List Nat
  | [], _ => []
  | o :: l, k => match kindOp o with
    | .acts => k :: actsOf l (k + 1)
    | _ => actsOf l (k + 1)
/-- The order, and what has to come ahead of each: of the statement alone. -/
def planOf (ops : Array Oper) : List Nat × List Nat := match masks ops with
  | ms => (orderGo ms (List.range ops.size) (2 ^ ops.size - 1) (actsOf ops.toList 0) 0, ms)
def openRun (P : Program) (cf : Known) : Drawn := fun ops s => match edgesOk ops, slotsB ops s.nt, Nat.blt (s.h.next + ops.size) 549755813888 with
  | true, true, true => match passT P cf ops (masks ops) s (planOf ops).1 [] .nil 0 with
    | some (T, dm) => match maskSub (2 ^ ops.size - 1) dm with
      | true => match topT (preH ops s) (fun _ => true) (fun _ => true) [] T with
        | q => some ⟨allIn ops T s.tm, s.nt, addX s.h.next q.2 q.1⟩
      | false => none
    | none => none
  | _, _, _ => none

section
variable {P : Program} {cf : Known} {ops : Array Oper} {s : St} {T : List ToldOps}
theorem look_again : ∀ {T : List ToldOps} {r : ToldOps} {l : List ToldOps} {a : List ToldOps}, T = a ++ r :: l → Once T → lookT T r.i = some r.v ∧ ∀ j, doneT l j = true → lookT T j = lookT l j
  | _, r, l, [], rfl, h => ⟨by simp [lookT], fun j hj => by
      have hne : Nat.beq r.i j = false := by
        cases hb : Nat.beq r.i j
        · rfl
        · rw [← Nat.eq_of_beq_eq_true hb, h.1] at hj; cases hj
      simp only [List.nil_append, lookT, hne]⟩
  | _, r, l, x :: a, rfl, h => by
    obtain ⟨h1, h2⟩ := look_again (T := a ++ r :: l) (a := a) rfl h.2
    have hd : ∀ j, doneT (r :: l) j = true → Nat.beq x.i j = false := fun j hj => by
      have : doneT (a ++ r :: l) j = true := by
        clear h1 h2 h
        induction a with
        | nil => exact hj
        | cons y a ih => simp only [List.cons_append, doneT]; split <;> first | rfl | exact ih
      cases hb : Nat.beq x.i j
      · rfl
      · have h3 := h.1
        rw [Nat.eq_of_beq_eq_true hb] at h3
        change doneT (a ++ r :: l) j = false at h3
        rw [h3] at this
        cases this
    refine ⟨?_, fun j hj => ?_⟩
    · have := hd r.i (by simp [doneT])
      simp only [List.cons_append, lookT, this]
      exact h1
    · have := hd j (by simp only [doneT]; split <;> first | rfl | exact hj)
      simp only [List.cons_append, lookT, this]
      exact h2 j hj
theorem split_at {T : List ToldOps} {i : Nat} : doneT T i = true → ∃ a r l, T = a ++ r :: l ∧ r.i = i := by
  induction T with
  | nil => intro h; cases h
  | cons x T ih =>
    intro h
    simp only [doneT] at h
    cases hb : Nat.beq x.i i
    · rw [hb] at h
      obtain ⟨a, r, l, rfl, h2⟩ := ih h
      exact ⟨x :: a, r, l, rfl, h2⟩
    · exact ⟨[], x, T, rfl, Nat.eq_of_beq_eq_true hb⟩
theorem done_cons {a : List ToldOps} {r : ToldOps} {l : List ToldOps} {j : Nat} (hj : doneT (r :: l) j = true) : doneT (a ++ r :: l) j = true := by
  induction a with
  | nil => exact hj
  | cons y a ih => simp only [List.cons_append, doneT]; split <;> first | rfl | exact ih
theorem Good.at_ {ms : List Nat} : ∀ {a : List ToldOps} {r : ToldOps} {l : List ToldOps}, Good P cf ops ms s (a ++ r :: l) → (∃ o, GoodAt P cf ops ms s r l o (ms.getD r.i 0)) ∧ Good P cf ops ms s l ∧ (∀ x ∈ a, ∃ l' o, GoodAt P cf ops ms s x l' o (ms.getD x.i 0) ∧ (∀ j, doneT (r :: l) j = true → doneT l' j = true))
  | [], r, l, h => ⟨h.1, h.2, fun x hx => by cases hx⟩
  | y :: a, r, l, h => by
    obtain ⟨h1, h2, h3⟩ := Good.at_ (a := a) h.2
    refine ⟨h1, h2, fun x hx => ?_⟩
    rcases List.mem_cons.1 hx with rfl | hx
    · obtain ⟨o, g⟩ := h.1
      refine ⟨_, o, g, fun j hj => ?_⟩
      show doneT (a ++ r :: l) j = true
      exact done_cons hj
    · exact h3 x hx
/-- Calls that come later in the pass are not listed while an earlier one is not. -/
theorem later_core {ms : List Nat} (hms : ms = masks ops) {S : Nat → Bool} (hc : Closed ops S) {r : ToldOps} {l : List ToldOps} (hr : S r.i = false) : ∀ {a : List ToldOps}, Good P cf ops ms s (a ++ r :: l) → coreT S (preH ops s) (a ++ r :: l) = coreT S (preH ops s) l ∧ (∀ j x, j ≠ r.i → moreT S j l = some x → moreT S j (a ++ r :: l) = some x) ∧
    (∀ j x, moreT S j (a ++ r :: l) = some x → moreT S j l = some x ∨ doneT l j = false)
  | [], h => by
    obtain ⟨⟨o, g⟩, gl⟩ := h
    have hk : coreT S (preH ops s) (r :: l) = coreT S (preH ops s) l := by
      simp only [coreT, hr]
      split <;> rfl
    have hm : ∀ j, moreT S j (r :: l) = moreT S j l := fun j => by
      simp only [moreT, hr, Bool.false_and]
      split <;> rfl
    exact ⟨hk, fun j x _ h => by rw [List.nil_append, hm]; exact h, fun j x h => by rw [List.nil_append, hm] at h; exact .inl h⟩
  | y :: a, h => by
    obtain ⟨ih1, ih2, ih3⟩ := later_core hms hc hr (a := a) h.2
    obtain ⟨o, g⟩ := h.1
    have hdr : doneT (a ++ r :: l) r.i = true := by
      clear h g ih1 ih2 ih3
      induction a with
      | nil => simp [doneT]
      | cons y a ih => simp only [List.cons_append, doneT]; split <;> first | rfl | exact ih
    have hdl : ∀ j, doneT l j = true → doneT (a ++ r :: l) j = true := by
      intro j hj
      clear h g ih1 ih2 ih3 hdr
      induction a with
      | nil => simp only [List.nil_append, doneT]; split <;> first | rfl | exact hj
      | cons y a ih => simp only [List.cons_append, doneT]; split <;> first | rfl | exact ih
    have hy : ∀ c, y.k = .eff c → S y.i = false := by
      intro c hk
      cases hs : S y.i
      · rfl
      · exfalso
        rcases g.kind with ⟨_, _, k3⟩ | ⟨_, ⟨c', pre, k1, ah⟩ | ⟨ox, k1, _⟩⟩
        · rw [hk] at k3; cases k3
        · have hlt : r.i < ops.size := h.2.lt P cf ops ms s r.i hdr
          have := ah.all r.i hlt hdr
          rw [hms] at this
          have := hc.dep (mask_dep this) hs
          rw [hr] at this
          cases this
        · rw [hk] at k1; cases k1
    refine ⟨?_, fun j x hj hx => ?_, fun j x hx => ?_⟩
    · rw [← ih1]
      simp only [List.cons_append, coreT]
      cases hk : y.k with
      | eff c => simp only [hy c hk]
      | non q => rfl
    · have := ih2 j x hj hx
      have hne : Nat.beq y.i j = false := by
        cases hb : Nat.beq y.i j
        · rfl
        · have h4 := hdl j (more_done hx)
          have h5 : doneT (a ++ r :: l) y.i = false := g.new
          rw [Nat.eq_of_beq_eq_true hb, h4] at h5
          cases h5
      simp only [List.cons_append, moreT]
      cases hk : y.k with
      | eff c => simp only [hy c hk]; exact this
      | non q => simp only [hne, Bool.and_false]; exact this
    · simp only [List.cons_append, moreT] at hx
      cases hk : y.k with
      | eff c => simp only [hk, hy c hk] at hx; exact ih3 j x hx
      | non q =>
        simp only [hk] at hx
        cases hb : (S y.i && Nat.beq y.i j)
        · rw [hb] at hx; exact ih3 j x hx
        · simp only [Bool.and_eq_true] at hb
          have e1 := Nat.eq_of_beq_eq_true hb.2
          refine .inr ?_
          cases hd : doneT l j
          · rfl
          · have h4 := hdl j hd
            have h5 : doneT (a ++ r :: l) y.i = false := g.new
            rw [e1, h4] at h5
            cases h5

theorem core_congr {S S' : Nat → Bool} {h : H} : ∀ {T : List ToldOps}, (∀ j, doneT T j = true → S j = S' j) → coreT S h T = coreT S' h T ∧ ∀ j, moreT S j T = moreT S' j T
  | [], _ => ⟨rfl, fun _ => rfl⟩
  | r :: l, hj => by
    have hr := hj r.i (by simp [doneT])
    obtain ⟨h1, h2⟩ := core_congr (S := S) (S' := S') (h := h) (T := l) (fun j hd => hj j (by simp only [doneT]; split <;> first | rfl | exact hd))
    refine ⟨?_, fun j => ?_⟩
    · simp only [coreT, hr, h1]
    · simp only [moreT, hr, h2]
theorem done_app {a : List ToldOps} {r : ToldOps} {l : List ToldOps} {j : Nat} (hj : doneT (r :: l) j = true) : doneT (a ++ r :: l) j = true := by
  induction a with
  | nil => exact hj
  | cons y a ih => simp only [List.cons_append, doneT]; split <;> first | rfl | exact ih
/-- One more is listed, that makes no more than a block of its own. -/
theorem step_non {S : Nat → Bool} {h : H} {r : ToldOps} {l : List ToldOps} {ox : Option Blk} (hk : r.k = .non ox) (hSr : S r.i = false) : ∀ {a : List ToldOps}, Once (a ++ r :: l) →
    coreT (withI S r.i) h (a ++ r :: l) = coreT S h (a ++ r :: l) ∧ ∀ j x, moreT (withI S r.i) j (a ++ r :: l) = some x → moreT S j (a ++ r :: l) = some x ∨ (j = r.i ∧ ox = some x)
  | [], ho => by
    have hl : ∀ j, doneT l j = true → withI S r.i j = S j := fun j hj => withI_ne S (fun e => by rw [e, ho.1] at hj; cases hj)
    obtain ⟨c1, c2⟩ := core_congr (h := h) hl
    refine ⟨?_, fun j x hx => ?_⟩
    · simp only [List.nil_append, coreT, hk, c1]
    · simp only [List.nil_append, moreT, hk, withI_self, hSr, Bool.true_and, Bool.false_and] at hx ⊢
      cases hb : Nat.beq r.i j
      · rw [hb] at hx
        simp only at hx
        rw [c2] at hx
        exact .inl hx
      · rw [hb] at hx
        have e1 := Nat.eq_of_beq_eq_true hb
        cases ox with
        | none => simp only at hx; rw [c2] at hx; exact .inl hx
        | some b => simp only at hx; exact .inr ⟨e1.symm, hx⟩
  | y :: a, ho => by
    obtain ⟨i1, i2⟩ := step_non (h := h) hk hSr (a := a) ho.2
    have hne : y.i ≠ r.i := fun e => by
      have h1 : doneT (a ++ r :: l) y.i = false := ho.1
      rw [e, done_app (by simp [doneT])] at h1
      cases h1
    have hy := withI_ne S hne
    refine ⟨?_, fun j x hx => ?_⟩
    · simp only [List.cons_append, coreT, hy, i1]
    · simp only [List.cons_append, moreT, hy] at hx ⊢
      cases hyk : y.k with
      | eff c =>
        simp only [hyk] at hx
        cases hs : S y.i
        · rw [hs] at hx; exact i2 j x hx
        · rw [hs] at hx; cases hx
      | non q =>
        simp only [hyk] at hx
        cases hb : (S y.i && Nat.beq y.i j)
        · rw [hb] at hx; exact i2 j x hx
        · rw [hb] at hx
          cases q with
          | none => exact i2 j x hx
          | some b => exact .inl hx
/-- One more is listed, that may write. -/
theorem step_eff {S : Nat → Bool} {h : H} {r : ToldOps} {l : List ToldOps} {c : H} (hk : r.k = .eff c) (hSr : S r.i = false) : ∀ {a : List ToldOps}, Once (a ++ r :: l) → (∀ x ∈ a, ∀ c, x.k = .eff c → S x.i = false) →
    coreT (withI S r.i) h (a ++ r :: l) = c ∧ ∀ j x, moreT (withI S r.i) j (a ++ r :: l) = some x → moreT S j (a ++ r :: l) = some x ∧ doneT (r :: l) j = false
  | [], ho, _ => by
    refine ⟨?_, fun j x hx => ?_⟩
    · simp only [List.nil_append, coreT, hk, withI_self]
    · simp only [List.nil_append, moreT, hk, withI_self] at hx
      cases hx
  | y :: a, ho, ha => by
    obtain ⟨i1, i2⟩ := step_eff (h := h) hk hSr (a := a) ho.2 (fun x hx => ha x (by simp [hx]))
    have hne : y.i ≠ r.i := fun e => by
      have h1 : doneT (a ++ r :: l) y.i = false := ho.1
      rw [e, done_app (by simp [doneT])] at h1
      cases h1
    have hy := withI_ne S hne
    refine ⟨?_, fun j x hx => ?_⟩
    · simp only [List.cons_append, coreT, hy]
      cases hyk : y.k with
      | eff c' => simp only [ha y (by simp) c' hyk]; exact i1
      | non q => exact i1
    · simp only [List.cons_append, moreT, hy] at hx ⊢
      cases hyk : y.k with
      | eff c' =>
        simp only [hyk, ha y (by simp) c' hyk] at hx ⊢
        exact i2 j x hx
      | non q =>
        simp only [hyk] at hx ⊢
        cases hb : (S y.i && Nat.beq y.i j)
        · rw [hb] at hx; exact i2 j x hx
        · rw [hb] at hx
          simp only [Bool.and_eq_true] at hb
          have e1 := Nat.eq_of_beq_eq_true hb.2
          cases q with
          | none => exact i2 j x hx
          | some b =>
            refine ⟨hx, ?_⟩
            cases hd : doneT (r :: l) j
            · rfl
            · have h1 : doneT (a ++ r :: l) y.i = false := ho.1
              rw [e1, done_app hd] at h1
              cases h1
theorem Good.next {ms : List Nat} {S : Nat → Bool} : ∀ {T : List ToldOps}, Good P cf ops ms s T → s.h.next + ops.size ≤ (coreT S (preH ops s) T).next ∧ s.h.next + ops.size ≤ (coreT (fun _ => true) (preH ops s) T).next
  | [], _ => ⟨Nat.le_refl _, Nat.le_refl _⟩
  | r :: l, ⟨⟨o, g⟩, gl⟩ => by
    obtain ⟨h1, h2⟩ := gl.next (S := S)
    have hc : ∀ c, r.k = .eff c → s.h.next + ops.size ≤ c.next := fun c hk => by
      rcases g.kind with ⟨_, _, k3⟩ | ⟨_, ⟨c', pre, k1, a⟩ | ⟨ox, k1, _⟩⟩
      · rw [hk] at k3; cases k3
      · rw [hk] at k1
        cases k1
        exact Nat.le_trans (by rw [a.next]; exact h2) a.more
      · rw [hk] at k1; cases k1
    refine ⟨?_, ?_⟩
    · simp only [coreT]
      cases hk : r.k with
      | non q => exact h1
      | eff c =>
        cases S r.i
        · exact h1
        · exact hc c hk
    · simp only [coreT]
      cases hk : r.k with
      | non q => exact h2
      | eff c => exact hc c hk
theorem all_get {nt : Nat} (hs : slotsB ops nt = true) : ∀ {T : List ToldOps} {tm : Tq AV}, (∀ j, doneT T j = true → j < ops.size) → Once T → ∀ t, (allIn ops T tm).get deep t = match writerOf ops.toList 0 t with
    | some j => match doneT T j with
      | true => lookT T j
      | false => tm.get deep t
    | none => tm.get deep t
  | [], tm, _, _, t => by
    simp only [allIn, doneT]
    split <;> rfl
  | r :: l, tm, hj, ho, t => by
    have ih := all_get hs (T := l) (tm := tm) (fun j hd => hj j (by simp only [doneT]; split <;> first | rfl | exact hd)) ho.2 t
    have hr := hj r.i (by simp [doneT])
    have hor : ops[r.i]? = some ops[r.i] := Array.getElem?_eq_getElem hr
    simp only [allIn, hor]
    cases hd : (ops[r.i]).dst with
    | none =>
      simp only
      rw [ih]
      cases hw : writerOf ops.toList 0 t with
      | none => rfl
      | some j =>
        have hne : Nat.beq r.i j = false := by
          cases hb : Nat.beq r.i j
          · rfl
          · obtain ⟨o', _, h2, h3⟩ := writer_out _ _ _ _ hw
            rw [← Nat.eq_of_beq_eq_true hb, Nat.sub_zero, Array.getElem?_toList, hor] at h2
            simp at h2
            rw [← h2, hd] at h3
            cases h3
        simp only [doneT, lookT, hne]
    | some d =>
      simp only
      obtain ⟨w1, w2, w3⟩ := slots_out hs hor hd
      by_cases e : t = d
      · subst e
        rw [Tq.get_set_at deep _ t _ (Nat.lt_of_lt_of_le (Nat.succ_lt_succ w3) (by decide)), w1]
        simp only [doneT, lookT, Nat.beq_refl]
      · rw [Tq.get_set deep _ d _ t (Ne.symm e), ih]
        cases hw : writerOf ops.toList 0 t with
        | none => rfl
        | some j =>
          have hne : Nat.beq r.i j = false := by
            cases hb : Nat.beq r.i j
            · rfl
            · obtain ⟨o', _, h2, h3⟩ := writer_out _ _ _ _ hw
              rw [← Nat.eq_of_beq_eq_true hb, Nat.sub_zero, Array.getElem?_toList, hor] at h2
              simp at h2
              rw [← h2, hd] at h3
              simp at h3
              exact absurd h3.symm e
          simp only [doneT, lookT, hne]
end
end Go.Proofs.Ytmeloffdaninmaa
