/-
  A drawn region each of whose operations has one fact, whatever order they come up in, to its very end; edges that bind in no order of the text are not asked to go back. No program is named here.
-/
import Derived.Test.YtangblcfdboghaaRegion
namespace Go.Proofs.Ytangblcfdboghaa
open Go.RowKit
set_option linter.unusedVariables false

/-- Each slot is written once, within the frame, and each operation waits for earlier ones alone. -/
def slotsE (ops : Array Oper) (n : Nat) : Bool :=
  (List.range ops.size).all fun i => match ops[i]? with
    | none => true
    | some o => (match o.dst with | none => true | some t => decide (t < n) && (List.range i).all fun j => ((ops[j]?).bind (·.dst)) != some t) && o.after.all fun e => !Region.binds .any e || decide (e.on < i)

section
variable {P : Program} {ops : Array Oper} {Q : Exit → Act → World → Prop} {pr : Nat → Value → World → Prop} {a0 : Act} {w0 : World}

theorem slotsE_at {n i : Nat} {o : Oper} (h : slotsE ops n = true) (hi : ops[i]? = some o) :
    (∀ t, o.dst = some t → t < n ∧ ∀ j oj, j < i → ops[j]? = some oj → oj.dst ≠ some t) ∧ ∀ e ∈ o.after, Region.binds .any e = true → e.on < i := by
  have hlt : i < ops.size := (Array.getElem?_eq_some_iff.1 hi).1
  have h1 := List.all_eq_true.1 h i (List.mem_range.2 hlt)
  simp only [hi, Bool.and_eq_true] at h1
  refine ⟨fun t ht => ?_, fun e he hb => ?_⟩
  · have h2 := h1.1
    simp only [ht, Bool.and_eq_true, decide_eq_true_eq] at h2
    refine ⟨h2.1, fun j oj hj hoj hd => ?_⟩
    have h3 := List.all_eq_true.1 h2.2 j (List.mem_range.2 hj)
    simp [hoj, hd] at h3
  · have h2 := h1.2
    rw [Array.all_eq_true_iff_forall_mem] at h2
    simpa [hb] using h2 e he
theorem slotsE_ne {n i j : Nat} {o oj : Oper} {t : Tmp} (h : slotsE ops n = true) (hi : ops[i]? = some o) (hj : ops[j]? = some oj) (hne : i ≠ j) (ht : o.dst = some t) : oj.dst ≠ some t := by
  intro htj
  rcases Nat.lt_or_gt_of_ne hne with hlt | hgt
  · exact ((slotsE_at h hj).1 t htj).2 i o hlt hi ht
  · exact ((slotsE_at h hi).1 t ht).2 j oj hgt hj htj

theorem Kept.putB {listed : Array Bool} {a : Act} {w w' : World} {i : Nat} {o : Oper} {v : Value} (hs : slotsE ops a0.tmps.size = true) (stab : ∀ j v w w', Below w.heap.size w w' → pr j v w → pr j v w')
    (h : Kept ops pr a0 w0 listed a w) (hi : ops[i]? = some o) (hv : pr i v w') (hb : Below w.heap.size w w') : Kept ops pr a0 w0 (listed.setIfInBounds i true) (a.put o.dst v) w' := by
  refine ⟨by simpa using h.lsize, Below.then_ h.below hb, ?_, ?_, fun t ht => ?_, fun j oj t hj hd hl => ?_⟩
  · cases hd : o.dst <;> simpa [Act.put, hd] using h.defers
  · cases hd : o.dst <;> simpa [Act.put, hd] using h.size
  · have hlt : i < listed.size := by rw [h.lsize]; exact (Array.getElem?_eq_some_iff.1 hi).1
    have hne := ht i o hi (by simp [hlt])
    have ht' : ∀ (j : Nat) (oj : Oper), ops[j]? = some oj → listed.getD j false = true → oj.dst ≠ some t := fun j oj hj hlj => ht j oj hj (by
      by_cases e : i = j
      · subst e; simp [hlt]
      · have hjl : j < listed.size := by rw [h.lsize]; exact (Array.getElem?_eq_some_iff.1 hj).1
        simpa [Array.getElem?_setIfInBounds, e] using hlj)
    cases hd : o.dst with
    | none => simpa [Act.put] using h.old t ht'
    | some d =>
      have : d ≠ t := fun e => hne (by rw [hd, e])
      simpa [Act.put, Array.getElem?_setIfInBounds, this] using h.old t ht'
  · by_cases e : j = i
    · subst e
      obtain rfl : oj = o := Option.some.inj (hj.symm.trans hi)
      have hlt := ((slotsE_at hs hi).1 t hd).1
      refine ⟨v, ?_, hv⟩
      simp [Act.put, hd, h.size, hlt]
    · obtain ⟨u, hu, hp⟩ := h.new j oj t hj hd ((getD_listed hl).resolve_left e)
      refine ⟨u, ?_, stab j u w w' hb hp⟩
      cases hd' : o.dst with
      | none => simpa [Act.put] using hu
      | some d =>
        have : d ≠ t := fun e' => slotsE_ne hs hj hi e hd (by rw [hd', e'])
        simpa [Act.put, Array.getElem?_setIfInBounds, this] using hu

theorem wpAny_keptB (hs : slotsE ops a0.tmps.size = true) (stab : ∀ j v w w', Below w.heap.size w w' → pr j v w → pr j v w')
    (step : ∀ i o, ops[i]? = some o → ∀ listed a w, Kept ops pr a0 w0 listed a w → (∀ e ∈ o.after, Region.binds .any e = true → listed.getD e.on false = true) → StepOk P ops Q pr i o a w)
    (fin : ∀ listed a w, Kept ops pr a0 w0 listed a w → (∀ j, j < ops.size → listed.getD j false = true) → Q .normal a w) :
    ∀ (fuel : Nat) (listed : Array Bool) (a : Act) (w : World), Kept ops pr a0 w0 listed a w → listed.toList.count false ≤ fuel → wpAny P .any ops Q fuel listed a w := by
  have done : ∀ listed a w, Kept ops pr a0 w0 listed a w → Region.ready .any ops listed = [] → Q .normal a w := by
    intro listed a w hk hr
    refine fin listed a w hk fun j => ?_
    induction j using Nat.strongRecOn with
    | _ j ih =>
      intro hj
      have hjl : j < listed.size := by rw [hk.lsize]; exact hj
      cases hl : listed.getD j false
      · exfalso
        have hl' : listed.getD j true = false := by simp [hjl] at hl ⊢; exact hl
        have hm : j ∈ Region.ready .any ops listed := mem_ready.2 ⟨hl', ops[j], Array.getElem?_eq_getElem hj, fun e he hb => by
          have hon := (slotsE_at hs (Array.getElem?_eq_getElem hj)).2 e he hb
          exact ih e.on hon (by omega)⟩
        rw [hr] at hm
        cases hm
      · rfl
  intro fuel
  induction fuel with
  | zero =>
    intro listed a w hk hc
    have hr : Region.ready .any ops listed = [] := by
      rw [List.eq_nil_iff_forall_not_mem]
      intro i hi
      have h0 := (mem_ready.1 hi).1
      have hlt : i < listed.size := by
        rcases Nat.lt_or_ge i listed.size with h | h
        · exact h
        · simp [Array.getElem?_eq_none h] at h0
      have hmem : false ∈ listed.toList := by
        simp [hlt] at h0
        rw [← h0]
        simp
      have := List.count_pos_iff.2 hmem
      omega
    exact ⟨hr, done listed a w hk hr⟩
  | succ fuel ih =>
    intro listed a w hk hc
    refine ⟨done listed a w hk, fun i hi => ?_⟩
    obtain ⟨h0, o, ho, hdep⟩ := mem_ready.1 hi
    have hlt : i < listed.size := by rw [hk.lsize]; exact (Array.getElem?_eq_some_iff.1 ho).1
    have hcount : (listed.setIfInBounds i true).toList.count false ≤ fuel := by
      rw [Array.toList_setIfInBounds, List.count_set (by simpa using hlt)]
      have hf : listed.toList[i]'(by simpa using hlt) = false := by simpa [hlt] using h0
      have hp : 0 < listed.toList.count false := List.count_pos_iff.2 (by rw [← hf]; exact List.getElem_mem _)
      rw [hf]
      simp only [beq_self_eq_true, if_true]
      show _ - 1 + 0 ≤ fuel
      omega
    have hst := step i o ho listed a w hk hdep
    unfold StepOk at hst
    unfold wpOp
    simp only [ho]
    split
    · rename_i hw
      rw [if_pos hw] at hst
      refine .inl (Oper.wp_mono ?_ hst)
      rintro a' w' ⟨v, rfl, hv, hb⟩
      exact ih _ _ _ (hk.putB hs stab ho hv hb) hcount
    · rename_i hw
      rw [if_neg hw] at hst
      exact ih _ _ _ (hk.putB hs stab ho hst (Below.refl _ _)) hcount

theorem region_keptB {id : Nat} {w : World} (pr : Nat → Value → World → Prop) (hm : P.follows .mixedOrders = true) (hs : slotsE ops a0.tmps.size = true) (stab : ∀ j v w w', Below w.heap.size w w' → pr j v w → pr j v w')
    (step : ∀ w0, Below w.heap.size w w0 → ∀ i o, ops[i]? = some o → ∀ listed a w', Kept ops pr a0 w0 listed a w' → (∀ e ∈ o.after, Region.binds .any e = true → listed.getD e.on false = true) → StepOk P ops Q pr i o a w')
    (fin : ∀ w0, Below w.heap.size w w0 → ∀ listed a w', Kept ops pr a0 w0 listed a w' → (∀ j, j < ops.size → listed.getD j false = true) → Q .normal a w') : (Code.region id ops true).wp P Q a0 w := by
  refine wp_region_any hm ?_
  have hb : Below w.heap.size w { w with drawn := w.drawn + 1 } := ⟨rfl, rfl, rfl, Nat.le_refl _, fun _ _ => rfl⟩
  refine wpAny_keptB hs stab (step _ hb) (fin _ hb) ops.size _ a0 _ ⟨by simp, Below.refl _ _, rfl, rfl, fun _ _ => rfl, fun j o t _ _ hl => ?_⟩ ?_
  · have h0 : (Array.replicate ops.size false).getD j false = false := by
      rcases Nat.lt_or_ge j ops.size with h | h <;> simp [h]
    rw [h0] at hl
    cases hl
  · simp
end

theorem region_all_end {P : Program} {Q : Exit → Act → World → Prop} {a0 : Act} {id : Nat} {w : World} {l : List Oper} (pr : Nat → Value → World → Prop) (hm : P.follows .mixedOrders = true) (hs : slotsE l.toArray a0.tmps.size = true) (stab : ∀ j v w w', Below w.heap.size w w' → pr j v w → pr j v w')
    (step : ∀ w0, Below w.heap.size w w0 → AllSteps (fun i o => ∀ listed a w', Kept l.toArray pr a0 w0 listed a w' → (∀ e ∈ o.after, Region.binds .any e = true → listed.getD e.on false = true) → StepOk P l.toArray Q pr i o a w') 0 l)
    (fin : ∀ a w', Below w.heap.size w w' → PutsTo pr w' 0 l a0 a → Q .normal a w') : (Code.region id l.toArray true).wp P Q a0 w := by
  refine region_keptB pr hm hs stab (fun w0 hb i o hi => by
    have := allSteps_get l 0 (step w0 hb) i o (by simpa using hi)
    rwa [Nat.zero_add] at this) fun w0 hb listed a w' hk hall => fin a w' (Below.then_ hb hk.below) ?_
  have hsz := hk.lsize
  have h := hk.puts l.length (fun j hj => hall j (by simpa using hj)) (fun j hj => ?_)
  · rwa [List.take_length] at h
  · rw [Array.getD_eq_getD_getElem?, Array.getElem?_eq_none (by rw [hsz]; simpa using hj)]
    rfl
end Go.Proofs.Ytangblcfdboghaa
