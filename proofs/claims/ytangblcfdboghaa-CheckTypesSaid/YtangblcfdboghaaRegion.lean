/-
  A law of our own for a statement whose order is open: where each operation yields a value of a fact that lasts, and writes nothing that was there, every order comes to the same facts.
-/
import Derived.Test.YtangblcfdboghaaMem
import Derived.Orders
import Derived.StillTail
import Derived.KernelRfl
namespace Go.Proofs.Ytangblcfdboghaa
open Go.RowKit
set_option linter.unusedVariables false

/-- Behind the operations that are listed: nothing that was there has turned, and each listed operation's slot holds a value of which its own fact is known, in the world as it now is. -/
structure Kept (ops : Array Oper) (pr : Nat → Value → World → Prop) (a0 : Act) (w0 : World) (listed : Array Bool) (a : Act) (w : World) : Prop where
  lsize : listed.size = ops.size
  below : Below w0.heap.size w0 w
  defers : a.defers = a0.defers
  size : a.tmps.size = a0.tmps.size
  old : ∀ t, (∀ (j : Nat) (o : Oper), ops[j]? = some o → listed.getD j false = true → o.dst ≠ some t) → a.tmps[t]? = a0.tmps[t]?
  new : ∀ (j : Nat) (o : Oper) (t : Tmp), ops[j]? = some o → o.dst = some t → listed.getD j false = true → ∃ v, a.tmps[t]? = some v ∧ pr j v w

/-- One operation yields a value of its own fact, and writes nothing that was there. -/
def StepOk (P : Program) (ops : Array Oper) (Q : Exit → Act → World → Prop) (pr : Nat → Value → World → Prop) (i : Nat) (o : Oper) (a : Act) (w : World) : Prop :=
  if Region.wanted o (yielded ops a.tmps) = true then o.wp P a w (fun a' w' => ∃ v, a' = a.put o.dst v ∧ pr i v w' ∧ Below w.heap.size w w') Q else pr i undef w

/-- Each slot is written once, within the frame, and each operation waits for earlier ones alone. -/
def slotsOk (ops : Array Oper) (n : Nat) : Bool :=
  (List.range ops.size).all fun i => match ops[i]? with
    | none => true
    | some o => (match o.dst with | none => true | some t => decide (t < n) && (List.range i).all fun j => ((ops[j]?).bind (·.dst)) != some t) && o.after.all fun e => decide (e.on < i)

section
variable {P : Program} {ops : Array Oper} {Q : Exit → Act → World → Prop} {pr : Nat → Value → World → Prop} {a0 : Act} {w0 : World}

theorem slots_at {n i : Nat} {o : Oper} (h : slotsOk ops n = true) (hi : ops[i]? = some o) :
    (∀ t, o.dst = some t → t < n ∧ ∀ j oj, j < i → ops[j]? = some oj → oj.dst ≠ some t) ∧ ∀ e ∈ o.after, e.on < i := by
  have hlt : i < ops.size := (Array.getElem?_eq_some_iff.1 hi).1
  have h1 := List.all_eq_true.1 h i (List.mem_range.2 hlt)
  simp only [hi, Bool.and_eq_true] at h1
  refine ⟨fun t ht => ?_, fun e he => ?_⟩
  · have h2 := h1.1
    simp only [ht, Bool.and_eq_true, decide_eq_true_eq] at h2
    refine ⟨h2.1, fun j oj hj hoj hd => ?_⟩
    have h3 := List.all_eq_true.1 h2.2 j (List.mem_range.2 hj)
    simp [hoj, hd] at h3
  · have h2 := h1.2
    rw [Array.all_eq_true_iff_forall_mem] at h2
    simpa using h2 e he
theorem slots_ne {n i j : Nat} {o oj : Oper} {t : Tmp} (h : slotsOk ops n = true) (hi : ops[i]? = some o) (hj : ops[j]? = some oj) (hne : i ≠ j) (ht : o.dst = some t) : oj.dst ≠ some t := by
  intro htj
  rcases Nat.lt_or_gt_of_ne hne with hlt | hgt
  · exact ((slots_at h hj).1 t htj).2 i o hlt hi ht
  · exact ((slots_at h hi).1 t ht).2 j oj hgt hj htj

theorem getD_listed {listed : Array Bool} {i j : Nat} (h : (listed.setIfInBounds i true).getD j false = true) : j = i ∨ listed.getD j false = true := by
  by_cases e : j = i
  · exact .inl e
  · right
    simpa [Array.getElem?_setIfInBounds, Ne.symm e] using h

theorem Kept.put {listed : Array Bool} {a : Act} {w w' : World} {i : Nat} {o : Oper} {v : Value} (hs : slotsOk ops a0.tmps.size = true) (stab : ∀ j v w w', Below w.heap.size w w' → pr j v w → pr j v w')
    (h : Kept ops pr a0 w0 listed a w) (hi : ops[i]? = some o) (hv : pr i v w') (hb : Below w.heap.size w w') : Kept ops pr a0 w0 (listed.setIfInBounds i true) (a.put o.dst v) w' := by
  refine ⟨by simpa using h.lsize, Below.then_ h.below hb, ?_, ?_, fun t ht => ?_, fun j oj t hj hd hl => ?_⟩
  · cases hd : o.dst <;> simpa [Act.put, hd] using h.defers
  · cases hd : o.dst <;> simpa [Act.put, hd] using h.size
  · have hlt : i < listed.size := by rw [h.lsize]; exact (Array.getElem?_eq_some_iff.1 hi).1
    have hne := ht i o hi (by simp [hlt])
    have ht' : ∀ (j : Nat) (oj : Oper), ops[j]? = some oj → listed.getD j false = true → oj.dst ≠ some t := fun j oj hj hlj => ht j oj hj (by
      by_cases e : i = j
      · subst e; simp [hlt]
      · have hjl : j < listed.size := by rw [h.lsize]; exact (Array.getElem?_eq_some_iff.1 hj).1
        simpa [Array.getElem?_setIfInBounds, e] using hlj)
    cases hd : o.dst with
    | none => simpa [Act.put] using h.old t ht'
    | some d =>
      have : d ≠ t := fun e => hne (by rw [hd, e])
      simpa [Act.put, Array.getElem?_setIfInBounds, this] using h.old t ht'
  · by_cases e : j = i
    · subst e
      obtain rfl : oj = o := Option.some.inj (hj.symm.trans hi)
      have hlt := ((slots_at hs hi).1 t hd).1
      refine ⟨v, ?_, hv⟩
      simp [Act.put, hd, h.size, hlt]
    · obtain ⟨u, hu, hp⟩ := h.new j oj t hj hd ((getD_listed hl).resolve_left e)
      refine ⟨u, ?_, stab j u w w' hb hp⟩
      cases hd' : o.dst with
      | none => simpa [Act.put] using hu
      | some d =>
        have : d ≠ t := fun e' => slots_ne hs hj hi e hd (by rw [hd', e'])
        simpa [Act.put, Array.getElem?_setIfInBounds, this] using hu

theorem wpAny_kept (hs : slotsOk ops a0.tmps.size = true) (stab : ∀ j v w w', Below w.heap.size w w' → pr j v w → pr j v w')
    (step : ∀ i o, ops[i]? = some o → ∀ listed a w, Kept ops pr a0 w0 listed a w → (∀ e ∈ o.after, Region.binds .any e = true → listed.getD e.on false = true) → StepOk P ops Q pr i o a w)
    (fin : ∀ listed a w, Kept ops pr a0 w0 listed a w → (∀ j, j < ops.size → listed.getD j false = true) → Q .normal a w) :
    ∀ (fuel : Nat) (listed : Array Bool) (a : Act) (w : World), Kept ops pr a0 w0 listed a w → listed.toList.count false ≤ fuel → wpAny P .any ops Q fuel listed a w := by
  have done : ∀ listed a w, Kept ops pr a0 w0 listed a w → Region.ready .any ops listed = [] → Q .normal a w := by
    intro listed a w hk hr
    refine fin listed a w hk fun j => ?_
    induction j using Nat.strongRecOn with
    | _ j ih =>
      intro hj
      have hjl : j < listed.size := by rw [hk.lsize]; exact hj
      cases hl : listed.getD j false
      · exfalso
        have hl' : listed.getD j true = false := by simp [hjl] at hl ⊢; exact hl
        have hm : j ∈ Region.ready .any ops listed := mem_ready.2 ⟨hl', ops[j], Array.getElem?_eq_getElem hj, fun e he hb => by
          have hon := (slots_at hs (Array.getElem?_eq_getElem hj)).2 e he
          exact ih e.on hon (by omega)⟩
        rw [hr] at hm
        cases hm
      · rfl
  intro fuel
  induction fuel with
  | zero =>
    intro listed a w hk hc
    have hr : Region.ready .any ops listed = [] := by
      rw [List.eq_nil_iff_forall_not_mem]
      intro i hi
      have h0 := (mem_ready.1 hi).1
      have hlt : i < listed.size := by
        rcases Nat.lt_or_ge i listed.size with h | h
        · exact h
        · simp [Array.getElem?_eq_none h] at h0
      have hmem : false ∈ listed.toList := by
        simp [hlt] at h0
        rw [← h0]
        simp
      have := List.count_pos_iff.2 hmem
      omega
    exact ⟨hr, done listed a w hk hr⟩
  | succ fuel ih =>
    intro listed a w hk hc
    refine ⟨done listed a w hk, fun i hi => ?_⟩
    obtain ⟨h0, o, ho, hdep⟩ := mem_ready.1 hi
    have hlt : i < listed.size := by rw [hk.lsize]; exact (Array.getElem?_eq_some_iff.1 ho).1
    have hcount : (listed.setIfInBounds i true).toList.count false ≤ fuel := by
      rw [Array.toList_setIfInBounds, List.count_set (by simpa using hlt)]
      have hf : listed.toList[i]'(by simpa using hlt) = false := by simpa [hlt] using h0
      have hp : 0 < listed.toList.count false := List.count_pos_iff.2 (by rw [← hf]; exact List.getElem_mem _)
      rw [hf]
      simp only [beq_self_eq_true, if_true]
      show _ - 1 + 0 ≤ fuel
      omega
    have hst := step i o ho listed a w hk hdep
    unfold StepOk at hst
    unfold wpOp
    simp only [ho]
    split
    · rename_i hw
      rw [if_pos hw] at hst
      refine .inl (Oper.wp_mono ?_ hst)
      rintro a' w' ⟨v, rfl, hv, hb⟩
      exact ih _ _ _ (hk.put hs stab ho hv hb) hcount
    · rename_i hw
      rw [if_neg hw] at hst
      exact ih _ _ _ (hk.put hs stab ho hst (Below.refl _ _)) hcount

theorem region_kept {id : Nat} {w : World} (pr : Nat → Value → World → Prop) (hm : P.follows .mixedOrders = true) (hs : slotsOk ops a0.tmps.size = true) (stab : ∀ j v w w', Below w.heap.size w w' → pr j v w → pr j v w')
    (step : ∀ w0, Below w.heap.size w w0 → ∀ i o, ops[i]? = some o → ∀ listed a w', Kept ops pr a0 w0 listed a w' → (∀ e ∈ o.after, Region.binds .any e = true → listed.getD e.on false = true) → StepOk P ops Q pr i o a w')
    (fin : ∀ w0, Below w.heap.size w w0 → ∀ listed a w', Kept ops pr a0 w0 listed a w' → (∀ j, j < ops.size → listed.getD j false = true) → Q .normal a w') : (Code.region id ops true).wp P Q a0 w := by
  refine wp_region_any hm ?_
  have hb : Below w.heap.size w { w with drawn := w.drawn + 1 } := ⟨rfl, rfl, rfl, Nat.le_refl _, fun _ _ => rfl⟩
  refine wpAny_kept hs stab (step _ hb) (fin _ hb) ops.size _ a0 _ ⟨by simp, Below.refl _ _, rfl, rfl, fun _ _ => rfl, fun j o t _ _ hl => ?_⟩ ?_
  · have h0 : (Array.replicate ops.size false).getD j false = false := by
      rcases Nat.lt_or_ge j ops.size with h | h <;> simp [h]
    rw [h0] at hl
    cases hl
  · simp
end
def AllSteps (F : Nat → Oper → Prop) : Nat → List Oper → Prop
  | _, [] => True
  | i, o :: r => F i o ∧ AllSteps F (i + 1) r
theorem allSteps_get {F : Nat → Oper → Prop} : ∀ (l : List Oper) (k : Nat), AllSteps F k l → ∀ i o, l[i]? = some o → F (k + i) o
  | [], _, _, i, o, h => by simp at h
  | x :: l, k, hs, i, o, h => by
    rcases i with _ | i
    · simp at h
      subst h
      exact hs.1
    · have := allSteps_get l (k + 1) hs.2 i o (by simpa using h)
      rwa [show k + 1 + i = k + (i + 1) from by omega] at this

section
variable {P : Program} {ops : Array Oper} {Q : Exit → Act → World → Prop} {pr : Nat → Value → World → Prop} {a0 a : Act} {w0 w : World} {listed : Array Bool} {o : Oper} {i : Nat}
theorem Kept.ev_old (hk : Kept ops pr a0 w0 listed a w) (t : Tmp) (h : (ops.all fun o => o.dst != some t) = true) : a.eval (.tmp t) = a0.eval (.tmp t) := by
  have := hk.old t (fun j oj hj _ hd => by
    rw [Array.all_eq_true_iff_forall_mem] at h
    have := h oj (Array.mem_of_getElem? hj)
    simp [hd] at this)
  simp [Act.eval, Array.getD_eq_getD_getElem?, this]
theorem Kept.ev_new (hk : Kept ops pr a0 w0 listed a w) (hd : ∀ e ∈ o.after, Region.binds .any e = true → listed.getD e.on false = true) (j : Nat) (t : Tmp)
    (hj : (o.after.any fun e => e.on == j && Region.binds .any e) = true) (ht : ((ops[j]?).bind (·.dst)) = some t) : ∃ v, a.eval (.tmp t) = v ∧ a.tmps[t]? = some v ∧ pr j v w := by
  obtain ⟨e, he, hb⟩ := Array.any_eq_true'.1 hj
  simp only [Bool.and_eq_true, beq_iff_eq] at hb
  obtain ⟨oj, hoj, hdj⟩ := Option.bind_eq_some_iff.1 ht
  have hl := hd e he hb.2
  rw [hb.1] at hl
  obtain ⟨v, hv, hp⟩ := hk.new j oj t hoj hdj hl
  exact ⟨v, by simp [Act.eval, Array.getD_eq_getD_getElem?, hv], hv, hp⟩
theorem stepOk_value {v : Value} (hg : o.guard = none) (hrun : (execOp a.eval o).run P w = .ok (.value v) w) (hp : pr i v w) : StepOk P ops Q pr i o a w := by
  have hw : Region.wanted o (yielded ops a.tmps) = true := by simp [Region.wanted, hg]
  unfold StepOk
  rw [if_pos hw]
  unfold Oper.wp
  rw [hrun]
  exact ⟨v, rfl, hp, Below.refl _ _⟩
theorem stepOk_run {v : Value} {w' : World} (hg : o.guard = none) (hrun : (execOp a.eval o).run P w = .ok (.value v) w') (hp : pr i v w') (hb : Below w.heap.size w w') : StepOk P ops Q pr i o a w := by
  have hw : Region.wanted o (yielded ops a.tmps) = true := by simp [Region.wanted, hg]
  unfold StepOk
  rw [if_pos hw]
  unfold Oper.wp
  rw [hrun]
  exact ⟨v, rfl, hp, hb⟩
theorem stepOk_enter {f : FuncId} {args : Array Value} (hg : Region.wanted o (yielded ops a.tmps) = true) (hrun : (execOp a.eval o).run P w = .ok (.enter f args) w)
    (hc : Calls P f args w fun e w' => ∃ v, e = .returned v ∧ pr i v w' ∧ Below w.heap.size w w') : StepOk P ops Q pr i o a w := by
  unfold StepOk
  rw [if_pos hg]
  unfold Oper.wp
  rw [hrun]
  refine hc.mono ?_
  rintro e w' ⟨v, rfl, hp, hb⟩
  exact ⟨v, rfl, hp, hb⟩
theorem wanted_at {j : Nat} {b : Bool} {t : Tmp} (hg : o.guard = some (j, b)) (ht : ((ops[j]?).bind (·.dst)) = some t) (hv : a.tmps[t]? = some (.bool b)) : Region.wanted o (yielded ops a.tmps) = true := by
  simp [Region.wanted, hg, yielded, ht, hv]
end
theorem region_all {P : Program} {Q : Exit → Act → World → Prop} {a0 : Act} {id : Nat} {w : World} {l : List Oper} (pr : Nat → Value → World → Prop) (hm : P.follows .mixedOrders = true) (hs : slotsOk l.toArray a0.tmps.size = true) (stab : ∀ j v w w', Below w.heap.size w w' → pr j v w → pr j v w')
    (step : ∀ w0, Below w.heap.size w w0 → AllSteps (fun i o => ∀ listed a w', Kept l.toArray pr a0 w0 listed a w' → (∀ e ∈ o.after, Region.binds .any e = true → listed.getD e.on false = true) → StepOk P l.toArray Q pr i o a w') 0 l)
    (fin : ∀ w0, Below w.heap.size w w0 → ∀ listed a w', Kept l.toArray pr a0 w0 listed a w' → (∀ j, j < l.toArray.size → listed.getD j false = true) → Q .normal a w') : (Code.region id l.toArray true).wp P Q a0 w :=
  region_kept pr hm hs stab (fun w0 hb i o hi => by
    have := allSteps_get l 0 (step w0 hb) i o (by simpa using hi)
    rwa [Nat.zero_add] at this) fin

/-- A frame in which each of these operations' slots holds a value of its own fact, and all others what they held. -/
def PutsTo (pr : Nat → Value → World → Prop) (w : World) : Nat → List Oper → Act → Act → Prop
  | _, [], a0, a => a = a0
  | i, o :: r, a0, a => match o.dst with
    | none => PutsTo pr w (i + 1) r a0 a
    | some t => ∃ v, pr i v w ∧ PutsTo pr w (i + 1) r (a0.put (some t) v) a
theorem putsTo_of {pr : Nat → Value → World → Prop} {w : World} {a : Act} : ∀ (l : List Oper) (i : Nat) (acc : Act), acc.tmps.size = a.tmps.size → acc.defers = a.defers →
    (∀ t, (∀ o ∈ l, o.dst ≠ some t) → a.tmps[t]? = acc.tmps[t]?) → (∀ (j : Nat) (o : Oper) (t : Tmp), l[j]? = some o → o.dst = some t → ∃ v, a.tmps[t]? = some v ∧ pr (i + j) v w) → PutsTo pr w i l acc a
  | [], i, acc, hs, hd, ho, _ => by
    show a = acc
    have e : a.tmps = acc.tmps := by
      apply Array.ext_getElem?
      intro t
      exact ho t (by simp)
    cases a
    cases acc
    simp_all
  | o :: l, i, acc, hs, hd, ho, hn => by
    unfold PutsTo
    have hn' : ∀ (j : Nat) (o : Oper) (t : Tmp), l[j]? = some o → o.dst = some t → ∃ v, a.tmps[t]? = some v ∧ pr (i + 1 + j) v w := fun j oj t hj ht => by
      have := hn (j + 1) oj t (by simpa using hj) ht
      rwa [show i + (j + 1) = i + 1 + j from by omega] at this
    cases hdst : o.dst with
    | none => exact putsTo_of l (i + 1) acc hs hd (fun t ht => ho t (fun o' ho' => by
        rcases List.mem_cons.1 ho' with rfl | h
        · rw [hdst]; simp
        · exact ht o' h)) hn'
    | some t =>
      obtain ⟨v, hv, hp⟩ := hn 0 o t rfl hdst
      refine ⟨v, hp, putsTo_of l (i + 1) _ (by simpa [Act.put] using hs) (by simpa [Act.put] using hd) (fun t' ht' => ?_) hn'⟩
      by_cases e : t = t'
      · subst e
        have hlt : t < acc.tmps.size := by rw [hs]; exact (Array.getElem?_eq_some_iff.1 hv).1
        rw [hv]
        simp [Act.put, hlt]
      · rw [ho t' (fun o' ho' => by
          rcases List.mem_cons.1 ho' with rfl | h
          · rw [hdst]; simpa using e
          · exact ht' o' h)]
        simp [Act.put, e]
theorem Kept.puts {pr : Nat → Value → World → Prop} {a0 a : Act} {w0 w : World} {listed : Array Bool} {l : List Oper} (n : Nat) (hk : Kept l.toArray pr a0 w0 listed a w) (hall : ∀ j, j < n → listed.getD j false = true) (htail : ∀ j, n ≤ j → listed.getD j false = false) : PutsTo pr w 0 (l.take n) a0 a := by
  refine putsTo_of (l.take n) 0 a0 hk.size.symm hk.defers.symm (fun t ht => hk.old t (fun j o hj hl hd => ?_)) (fun j o t hj ht => ?_)
  · have hjn : j < n := by
      rcases Nat.lt_or_ge j n with h | h
      · exact h
      · rw [htail j h] at hl; cases hl
    have hmem : o ∈ l.take n := by
      have hj' : (l.take n)[j]? = some o := by
        rw [List.getElem?_take, if_pos hjn]
        simpa using hj
      exact List.mem_of_getElem? hj'
    exact ht o hmem hd
  · have hjn : j < n := by
      have := (List.getElem?_eq_some_iff.1 hj).1
      simp at this
      omega
    have hj' : l.toArray[j]? = some o := by
      rw [List.getElem?_take, if_pos hjn] at hj
      simpa using hj
    have := hk.new j o t hj' ht (hall j hjn)
    rwa [Nat.zero_add]

section
variable {P : Program} {ops : Array Oper} {Q : Exit → Act → World → Prop} {pr : Nat → Value → World → Prop} {a0 : Act} {w0 : World}
/-- The first n are listed, and no other. -/
def headArr (size n : Nat) : Array Bool := ((List.range size).map fun j => decide (j < n)).toArray
theorem listed_head {n : Nat} {listed : Array Bool} (inv : HeadInv .any ops n listed) (h : ∀ j, j < n → listed.getD j false = true) : listed = headArr ops.size n := by
  apply Array.ext
  · simp [headArr, inv.size]
  · intro i h1 h2
    have hi : i < ops.size := by rw [← inv.size]; exact h1
    have e : (headArr ops.size n)[i] = decide (i < n) := by simp [headArr]
    rw [e]
    by_cases hn : i < n
    · have := h i hn
      simp [h1] at this
      simp [hn, this]
    · have := inv.tail i (by omega) hi
      simp [h1] at this
      simp [hn, this]
theorem count_set_true {listed : Array Bool} {i f : Nat} (h0 : listed.getD i true = false) (hlt : i < listed.size) (hc : listed.toList.count false = f + 1) : (listed.setIfInBounds i true).toList.count false = f := by
  rw [Array.toList_setIfInBounds, List.count_set (by simpa using hlt)]
  have hf : listed.toList[i]'(by simpa using hlt) = false := by simpa [hlt] using h0
  rw [hf]
  simp only [beq_self_eq_true, if_true]
  show _ - 1 + 0 = f
  omega
theorem wpAny_keptT {l : List Oper} (hl : ops = l.toArray) (n : Nat) (hs : slotsOk ops a0.tmps.size = true) (stab : ∀ j v w w', Below w.heap.size w w' → pr j v w → pr j v w')
    (hsink : Region.sinkB .any ops n = true) (hchain : Region.chainB .any ops n = true) (hn : n < ops.size) (hseq : Region.seqB .any ops (ops.size - n) n (headArr ops.size n) = true)
    (step : ∀ i o, i < n → ops[i]? = some o → ∀ listed a w, Kept ops pr a0 w0 listed a w → (∀ e ∈ o.after, Region.binds .any e = true → listed.getD e.on false = true) → StepOk P ops Q pr i o a w)
    (fin : ∀ listed a w, Kept ops pr a0 w0 listed a w → (∀ j, j < n → listed.getD j false = true) → (∀ j, n ≤ j → listed.getD j false = false) → wpList P ops Q (l.drop n) a w) :
    ∀ (fuel : Nat) (listed : Array Bool) (a : Act) (w : World), Kept ops pr a0 w0 listed a w → HeadInv .any ops n listed → listed.toList.count false = fuel → wpAny P .any ops Q fuel listed a w := by
  have done : ∀ (fuel : Nat) (listed : Array Bool) (a : Act) (w : World), Kept ops pr a0 w0 listed a w → HeadInv .any ops n listed → listed.toList.count false = fuel → (∀ j, j < n → listed.getD j false = true) → wpAny P .any ops Q fuel listed a w := by
    intro fuel listed a w hk inv hc hall
    have e := listed_head inv hall
    have hlen : (l.drop n).length = ops.size - n := by rw [hl]; simp
    have hfuel : fuel = (l.drop n).length := by
      rw [hlen, ← hc, e]
      have : ∀ m, ((headArr m n).toList.count false) = m - n := by
        intro m
        induction m with
        | zero => simp [headArr]
        | succ m ih =>
          have e2 : (headArr (m + 1) n).toList = (headArr m n).toList ++ [decide (m < n)] := by simp [headArr, List.range_succ]
          rw [e2, List.count_append, ih]
          by_cases hmn : m < n
          · simp [hmn]
            omega
          · simp [hmn]
            omega
      exact this _
    rw [hfuel]
    refine wpAny_of_seq (md := .any) (l.drop n) n listed a w (fun j => by rw [hl]; simp [List.getElem?_drop]) ?_ (fin listed a w hk hall (fun j hj => by
      rcases Nat.lt_or_ge j ops.size with h | h
      · exact getD_both (inv.tail j hj h)
      · simp [Array.getElem?_eq_none (show listed.size ≤ j by rw [inv.size]; exact h)]))
    rw [hlen, e]
    exact hseq
  intro fuel
  induction fuel with
  | zero =>
    intro listed a w hk inv hc
    refine done 0 listed a w hk inv hc fun j hj => ?_
    have hjl : j < listed.size := by rw [inv.size]; omega
    cases hb : listed.getD j false
    · exfalso
      have hf : listed[j] = false := by simpa [hjl] using hb
      have hmem : false ∈ listed.toList := by rw [← hf]; simp
      have := List.count_pos_iff.2 hmem
      omega
    · rfl
  | succ fuel ih =>
    intro listed a w hk inv hc
    by_cases hall : ∀ j, j < n → listed.getD j false = true
    · exact done _ listed a w hk inv hc hall
    · obtain ⟨j0, hj0⟩ := Classical.not_forall.1 hall
      obtain ⟨hj0n, hj0f⟩ := Classical.not_imp.1 hj0
      have hj0f' : listed.getD j0 false = false := by simpa using hj0f
      have hun : listed.getD j0 true = false := getD_in (by rw [inv.size]; omega) hj0f'
      -- a ready one
      have hex : ∀ d, d < n → listed.getD d true = false → ∃ i, i ∈ Region.ready .any ops listed := by
        intro d
        induction d using Nat.strongRecOn with
        | _ d ihd =>
          intro hd hdu
          have hdo : d < ops.size := by omega
          by_cases hr : ∀ e ∈ ops[d].after, Region.binds .any e = true → listed.getD e.on false = true
          · exact ⟨d, mem_ready.2 ⟨hdu, ops[d], Array.getElem?_eq_getElem hdo, hr⟩⟩
          · obtain ⟨e, he⟩ := Classical.not_forall.1 hr
            obtain ⟨he1, he2⟩ := Classical.not_imp.1 he
            obtain ⟨he3, he4⟩ := Classical.not_imp.1 he2
            have hon := (slots_at hs (Array.getElem?_eq_getElem hdo)).2 e he1
            exact ihd e.on hon (by omega) (getD_in (by rw [inv.size]; omega) (by simpa using he4))
      obtain ⟨i0, hi0⟩ := hex j0 hj0n hun
      refine ⟨fun h => (by rw [h] at hi0; cases hi0), fun i hi => ?_⟩
      have hin : i < n := by
        rcases Nat.lt_or_ge i n with h | h
        · exact h
        · exact absurd hi (tail_waits hsink hchain hn inv _ j0 rfl hj0n hun i h)
      obtain ⟨h0, o, ho, hdep⟩ := mem_ready.1 hi
      have hlt : i < listed.size := by rw [hk.lsize]; exact (Array.getElem?_eq_some_iff.1 ho).1
      have hcount := count_set_true h0 hlt hc
      have hst := step i o hin ho listed a w hk hdep
      unfold StepOk at hst
      unfold wpOp
      simp only [ho]
      split
      · rename_i hw
        rw [if_pos hw] at hst
        refine .inl (Oper.wp_mono ?_ hst)
        rintro a' w' ⟨v, rfl, hv, hb⟩
        exact ih _ _ _ (hk.put hs stab ho hv hb) (inv.set hi hin) hcount
      · rename_i hw
        rw [if_neg hw] at hst
        exact ih _ _ _ (hk.put hs stab ho hst (Below.refl _ _)) (inv.set hi hin) hcount

def tailOk (l : List Oper) (n : Nat) : Bool := Region.sinkB .any l.toArray n && Region.chainB .any l.toArray n && decide (n < l.toArray.size) && Region.seqB .any l.toArray (l.toArray.size - n) n (headArr l.toArray.size n)
end
/-- A region that draws its order: the first n operations each yield a value of a fact that lasts, the others come behind them in one order. -/
theorem region_all_tail {P : Program} {Q : Exit → Act → World → Prop} {a0 : Act} {id : Nat} {w : World} {l : List Oper} (n : Nat) (pr : Nat → Value → World → Prop) (hm : P.follows .mixedOrders = true) (hs : slotsOk l.toArray a0.tmps.size = true) (ht : tailOk l n = true) (stab : ∀ j v w w', Below w.heap.size w w' → pr j v w → pr j v w')
    (step : ∀ w0, Below w.heap.size w w0 → AllSteps (fun i o => ∀ listed a w', Kept l.toArray pr a0 w0 listed a w' → (∀ e ∈ o.after, Region.binds .any e = true → listed.getD e.on false = true) → StepOk P l.toArray Q pr i o a w') 0 (l.take n))
    (fin : ∀ a w', Below w.heap.size w w' → PutsTo pr w' 0 (l.take n) a0 a → wpList P l.toArray Q (l.drop n) a w') : (Code.region id l.toArray true).wp P Q a0 w := by
  unfold tailOk at ht
  simp only [Bool.and_eq_true, decide_eq_true_eq] at ht
  obtain ⟨⟨⟨hsink, hchain⟩, hn⟩, hseq⟩ := ht
  refine wp_region_any hm ?_
  have hb : Below w.heap.size w { w with drawn := w.drawn + 1 } := ⟨rfl, rfl, rfl, Nat.le_refl _, fun _ _ => rfl⟩
  refine wpAny_keptT rfl n hs stab hsink hchain hn hseq (fun i o hin hi listed a w' hk hd => ?_) (fun listed a w' hk h1 h2 => fin a w' (Below.then_ hb hk.below) (hk.puts n h1 h2)) l.toArray.size _ a0 _ ⟨by simp, Below.refl _ _, rfl, rfl, fun _ _ => rfl, fun j o t _ _ hl => ?_⟩ ⟨by simp, fun j oj _ hl => (by rw [getD_replicate_false] at hl; cases hl), fun t _ h => getD_in (by simpa using h) (getD_replicate_false _ _)⟩ (by simp)
  · have := allSteps_get (l.take n) 0 (step _ hb) i o (by rw [List.getElem?_take, if_pos hin]; simpa using hi)
    rw [Nat.zero_add] at this
    exact this listed a w' hk hd
  · rw [getD_replicate_false] at hl
    cases hl
end Go.Proofs.Ytangblcfdboghaa
