/-
  A law of our own for a statement whose order is open and whose calls write: each operation yields one value, whatever the order, and what is known of the world goes by which operations have been.
  A law of our own for a statement whose order is open, with calls and stores that write: each operation's value has a fact of its own, each step tells that the facts of the others stay, and what is known of the world goes by which operations have been.
  The law of XRegionK once more, where what is known goes by the frame too: which blocks were made in the region, and that they are not the same.
-/
import Derived.Test.YtangblcfdboghaaRegion
namespace Go.Proofs.Ytangblcfdboghaa
open Go.RowKit
set_option linter.unusedVariables false

structure KeptJ (ops : Array Oper) (val : Nat → Value) (J : Array Bool → World → Prop) (a0 : Act) (listed : Array Bool) (a : Act) (w : World) : Prop where
  lsize : listed.size = ops.size
  defers : a.defers = a0.defers
  size : a.tmps.size = a0.tmps.size
  old : ∀ t, (∀ (j : Nat) (o : Oper), ops[j]? = some o → listed.getD j false = true → o.dst ≠ some t) → a.tmps[t]? = a0.tmps[t]?
  new : ∀ (j : Nat) (o : Oper) (t : Tmp), ops[j]? = some o → o.dst = some t → listed.getD j false = true → a.tmps[t]? = some (val j)
  inv : J listed w
def StepJ (P : Program) (Q : Exit → Act → World → Prop) (val : Nat → Value) (J : Array Bool → World → Prop) (i : Nat) (o : Oper) (listed : Array Bool) (a : Act) (w : World) : Prop :=
  o.guard = none ∧ o.wp P a w (fun a' w' => a' = a.put o.dst (val i) ∧ J (listed.setIfInBounds i true) w') Q
section
variable {P : Program} {ops : Array Oper} {Q : Exit → Act → World → Prop} {val : Nat → Value} {J : Array Bool → World → Prop} {a0 a : Act} {w w' : World} {listed : Array Bool} {o : Oper} {i : Nat}
theorem KeptJ.put (hs : slotsOk ops a0.tmps.size = true) (h : KeptJ ops val J a0 listed a w) (hi : ops[i]? = some o) (hv : J (listed.setIfInBounds i true) w') : KeptJ ops val J a0 (listed.setIfInBounds i true) (a.put o.dst (val i)) w' := by
  have k : Kept ops (fun j v _ => v = val j) a0 w listed a w := ⟨h.lsize, Below.refl _ _, h.defers, h.size, h.old, fun j oj t hj hd hl => ⟨_, h.new j oj t hj hd hl, rfl⟩⟩
  have k2 := k.put (w' := w) hs (fun _ _ _ _ _ e => e) hi rfl (Below.refl _ _)
  refine ⟨k2.lsize, k2.defers, k2.size, k2.old, fun j oj t hj hd hl => ?_, hv⟩
  obtain ⟨v, h1, h2⟩ := k2.new j oj t hj hd hl
  rw [h1, h2]
theorem KeptJ.ev_old (hk : KeptJ ops val J a0 listed a w) (t : Tmp) (h : (ops.all fun o => o.dst != some t) = true) : a.eval (.tmp t) = a0.eval (.tmp t) := by
  have := hk.old t (fun j oj hj _ hd => by
    rw [Array.all_eq_true_iff_forall_mem] at h
    have := h oj (Array.mem_of_getElem? hj)
    simp [hd] at this)
  simp [Act.eval, Array.getD_eq_getD_getElem?, this]
theorem KeptJ.ev_new (hk : KeptJ ops val J a0 listed a w) (hd : ∀ e ∈ o.after, Region.binds .any e = true → listed.getD e.on false = true) (j : Nat) (t : Tmp)
    (hj : (o.after.any fun e => e.on == j && Region.binds .any e) = true) (ht : ((ops[j]?).bind (·.dst)) = some t) : a.eval (.tmp t) = val j ∧ listed.getD j false = true := by
  obtain ⟨e, he, hb⟩ := Array.any_eq_true'.1 hj
  simp only [Bool.and_eq_true, beq_iff_eq] at hb
  obtain ⟨oj, hoj, hdj⟩ := Option.bind_eq_some_iff.1 ht
  have hl := hd e he hb.2
  rw [hb.1] at hl
  exact ⟨by simp [Act.eval, Array.getD_eq_getD_getElem?, hk.new j oj t hoj hdj hl], hl⟩
theorem wpAny_keptJ (hs : slotsOk ops a0.tmps.size = true)
    (step : ∀ i o, ops[i]? = some o → ∀ listed a w, KeptJ ops val J a0 listed a w → listed.getD i true = false → (∀ e ∈ o.after, Region.binds .any e = true → listed.getD e.on false = true) → StepJ P Q val J i o listed a w)
    (fin : ∀ listed a w, KeptJ ops val J a0 listed a w → (∀ j, j < ops.size → listed.getD j false = true) → Q .normal a w) :
    ∀ (fuel : Nat) (listed : Array Bool) (a : Act) (w : World), KeptJ ops val J a0 listed a w → listed.toList.count false ≤ fuel → wpAny P .any ops Q fuel listed a w := by
  have done : ∀ listed a w, KeptJ ops val J a0 listed a w → Region.ready .any ops listed = [] → Q .normal a w := by
    intro listed a w hk hr
    refine fin listed a w hk fun j => ?_
    induction j using Nat.strongRecOn with
    | _ j ih =>
      intro hj
      have hjl : j < listed.size := by rw [hk.lsize]; exact hj
      cases hl : listed.getD j false
      · exfalso
        have hl' : listed.getD j true = false := by simp [hjl] at hl ⊢; exact hl
        have hm : j ∈ Region.ready .any ops listed := mem_ready.2 ⟨hl', ops[j], Array.getElem?_eq_getElem hj, fun e he hb => by
          have hon := (slots_at hs (Array.getElem?_eq_getElem hj)).2 e he
          exact ih e.on hon (by omega)⟩
        rw [hr] at hm
        cases hm
      · rfl
  intro fuel
  induction fuel with
  | zero =>
    intro listed a w hk hc
    have hr : Region.ready .any ops listed = [] := by
      rw [List.eq_nil_iff_forall_not_mem]
      intro i hi
      have h0 := (mem_ready.1 hi).1
      have hlt : i < listed.size := by
        rcases Nat.lt_or_ge i listed.size with h | h
        · exact h
        · simp [Array.getElem?_eq_none h] at h0
      have hmem : false ∈ listed.toList := by
        simp [hlt] at h0
        rw [← h0]
        simp
      have := List.count_pos_iff.2 hmem
      omega
    exact ⟨hr, done listed a w hk hr⟩
  | succ fuel ih =>
    intro listed a w hk hc
    refine ⟨done listed a w hk, fun i hi => ?_⟩
    obtain ⟨h0, o, ho, hdep⟩ := mem_ready.1 hi
    have hlt : i < listed.size := by rw [hk.lsize]; exact (Array.getElem?_eq_some_iff.1 ho).1
    have hcount : (listed.setIfInBounds i true).toList.count false ≤ fuel := by
      rw [Array.toList_setIfInBounds, List.count_set (by simpa using hlt)]
      have hf : listed.toList[i]'(by simpa using hlt) = false := by simpa [hlt] using h0
      have hp : 0 < listed.toList.count false := List.count_pos_iff.2 (by rw [← hf]; exact List.getElem_mem _)
      rw [hf]
      simp only [beq_self_eq_true, if_true]
      show _ - 1 + 0 ≤ fuel
      omega
    obtain ⟨hg, hst⟩ := step i o ho listed a w hk h0 hdep
    have hw : Region.wanted o (yielded ops a.tmps) = true := by simp [Region.wanted, hg]
    unfold wpOp
    simp only [ho]
    rw [if_pos hw]
    refine .inl (Oper.wp_mono ?_ hst)
    rintro a' w' ⟨rfl, hv⟩
    exact ih _ _ _ (hk.put hs ho hv) hcount
theorem stepJ_value (hg : o.guard = none) (hrun : (execOp a.eval o).run P w = .ok (.value (val i)) w) (hJ : J (listed.setIfInBounds i true) w) : StepJ P Q val J i o listed a w := by
  refine ⟨hg, ?_⟩
  unfold Oper.wp
  rw [hrun]
  exact ⟨rfl, hJ⟩
theorem stepJ_enter {f : FuncId} {args : Array Value} (hg : o.guard = none) (hrun : (execOp a.eval o).run P w = .ok (.enter f args) w)
    (hc : Calls P f args w fun e w' => e = .returned (val i) ∧ J (listed.setIfInBounds i true) w') : StepJ P Q val J i o listed a w := by
  refine ⟨hg, ?_⟩
  unfold Oper.wp
  rw [hrun]
  refine hc.mono ?_
  rintro e w' ⟨rfl, hv⟩
  exact ⟨rfl, hv⟩
theorem region_J {id : Nat} {l : List Oper} (val : Nat → Value) (J : Array Bool → World → Prop) (hm : P.follows .mixedOrders = true) (hs : slotsOk l.toArray a0.tmps.size = true)
    (h0 : J (Array.replicate l.toArray.size false) { w with drawn := w.drawn + 1 })
    (step : AllSteps (fun i o => ∀ listed a w', KeptJ l.toArray val J a0 listed a w' → listed.getD i true = false → (∀ e ∈ o.after, Region.binds .any e = true → listed.getD e.on false = true) → StepJ P Q val J i o listed a w') 0 l)
    (fin : ∀ listed a w', J listed w' → (∀ j, j < l.toArray.size → listed.getD j false = true) → PutsTo (fun j v _ => v = val j) w' 0 l a0 a → Q .normal a w') : (Code.region id l.toArray true).wp P Q a0 w := by
  refine wp_region_any hm ?_
  refine wpAny_keptJ (val := val) (J := J) hs (fun i o hi listed a w' hk h1 h2 => ?_) (fun listed a w' hk hall => ?_) l.toArray.size _ a0 _ ⟨by simp, rfl, rfl, fun _ _ => rfl, fun j o t _ _ hl => ?_, h0⟩ ?_
  · have := allSteps_get l 0 step i o (by simpa using hi)
    rw [Nat.zero_add] at this
    exact this listed a w' hk h1 h2
  · refine fin listed a w' hk.inv hall ?_
    have k : Kept l.toArray (fun j v _ => v = val j) a0 w' listed a w' := ⟨hk.lsize, Below.refl _ _, hk.defers, hk.size, hk.old, fun j oj t hj hd hl => ⟨_, hk.new j oj t hj hd hl, rfl⟩⟩
    have := k.puts l.length (fun j hj => hall j (by simpa using hj)) (fun j hj => by
      have h1 : listed.size ≤ j := by rw [hk.lsize]; simpa using hj
      simp [h1])
    rwa [List.take_length] at this
  · have h0 : (Array.replicate l.toArray.size false).getD j false = false := by
      rcases Nat.lt_or_ge j l.toArray.size with h | h
      · have h' : j < l.length := by simpa using h
        simp [h']
      · have h' : ¬ j < l.length := by simpa using h
        simp [h']
    rw [h0] at hl
    cases hl
  · simp
end
end Go.Proofs.Ytangblcfdboghaa
namespace Go.Proofs.Ytangblcfdboghaa
open Go.RowKit
set_option linter.unusedVariables false

/-- Each slot is written once, within the frame, and each operation waits for earlier ones alone, as far as it waits in every order. -/
def bindsOk (ops : Array Oper) (n : Nat) : Bool :=
  (List.range ops.size).all fun i => match ops[i]? with
    | none => true
    | some o => (match o.dst with | none => true | some t => decide (t < n) && (List.range i).all fun j => ((ops[j]?).bind (·.dst)) != some t) && o.after.all fun e => !Region.binds .any e || decide (e.on < i)
theorem bindsOk_at {ops : Array Oper} {n i : Nat} {o : Oper} (h : bindsOk ops n = true) (hi : ops[i]? = some o) :
    (∀ t, o.dst = some t → t < n ∧ ∀ j oj, j < i → ops[j]? = some oj → oj.dst ≠ some t) ∧ ∀ e ∈ o.after, Region.binds .any e = true → e.on < i := by
  have hlt : i < ops.size := (Array.getElem?_eq_some_iff.1 hi).1
  have h1 := List.all_eq_true.1 h i (List.mem_range.2 hlt)
  simp only [hi, Bool.and_eq_true] at h1
  refine ⟨fun t ht => ?_, fun e he hb => ?_⟩
  · have h2 := h1.1
    simp only [ht, Bool.and_eq_true, decide_eq_true_eq] at h2
    refine ⟨h2.1, fun j oj hj hoj hd => ?_⟩
    have h3 := List.all_eq_true.1 h2.2 j (List.mem_range.2 hj)
    simp [hoj, hd] at h3
  · have h2 := h1.2
    rw [Array.all_eq_true_iff_forall_mem] at h2
    have h3 := h2 e he
    rw [hb] at h3
    simpa using h3
theorem bindsOk_ne {ops : Array Oper} {n i j : Nat} {o oj : Oper} {t : Tmp} (h : bindsOk ops n = true) (hi : ops[i]? = some o) (hj : ops[j]? = some oj) (hne : i ≠ j) (ht : o.dst = some t) : oj.dst ≠ some t := by
  intro htj
  rcases Nat.lt_or_gt_of_ne hne with hlt | hgt
  · exact ((bindsOk_at h hj).1 t htj).2 i o hlt hi ht
  · exact ((bindsOk_at h hi).1 t ht).2 j oj hgt hj htj
structure KeptK (ops : Array Oper) (pr : Nat → Value → World → Prop) (J : Array Bool → World → Prop) (a0 : Act) (listed : Array Bool) (a : Act) (w : World) : Prop where
  lsize : listed.size = ops.size
  defers : a.defers = a0.defers
  size : a.tmps.size = a0.tmps.size
  old : ∀ t, (∀ (j : Nat) (o : Oper), ops[j]? = some o → listed.getD j false = true → o.dst ≠ some t) → a.tmps[t]? = a0.tmps[t]?
  new : ∀ (j : Nat) (o : Oper) (t : Tmp), ops[j]? = some o → o.dst = some t → listed.getD j false = true → ∃ v, a.tmps[t]? = some v ∧ pr j v w
  inv : J listed w
def StepK (P : Program) (Q : Exit → Act → World → Prop) (pr : Nat → Value → World → Prop) (J : Array Bool → World → Prop) (i : Nat) (o : Oper) (listed : Array Bool) (a : Act) (w : World) : Prop :=
  o.guard = none ∧ o.wp P a w (fun a' w' => ∃ v, a' = a.put o.dst v ∧ pr i v w' ∧ J (listed.setIfInBounds i true) w' ∧ ∀ j u, pr j u w → pr j u w') Q
section
variable {P : Program} {ops : Array Oper} {Q : Exit → Act → World → Prop} {pr : Nat → Value → World → Prop} {J : Array Bool → World → Prop} {a0 a : Act} {w w' : World} {listed : Array Bool} {o : Oper} {i : Nat} {v : Value}
theorem KeptK.put (hs : bindsOk ops a0.tmps.size = true) (h : KeptK ops pr J a0 listed a w) (hi : ops[i]? = some o) (hp : pr i v w') (hk : ∀ j u, pr j u w → pr j u w') (hJ : J (listed.setIfInBounds i true) w') : KeptK ops pr J a0 (listed.setIfInBounds i true) (a.put o.dst v) w' := by
  have hlt : i < listed.size := by rw [h.lsize]; exact (Array.getElem?_eq_some_iff.1 hi).1
  refine ⟨by simpa using h.lsize, ?_, ?_, fun t ht => ?_, fun j oj t hj hd hl => ?_, hJ⟩
  · cases hd : o.dst <;> simpa [Act.put, hd] using h.defers
  · cases hd : o.dst <;> simpa [Act.put, hd] using h.size
  · have hne := ht i o hi (by simp [hlt])
    have ht' : ∀ (j : Nat) (oj : Oper), ops[j]? = some oj → listed.getD j false = true → oj.dst ≠ some t := fun j oj hj hlj => ht j oj hj (by
      by_cases e : i = j
      · subst e; simp [hlt]
      · have hjl : j < listed.size := by rw [h.lsize]; exact (Array.getElem?_eq_some_iff.1 hj).1
        simpa [Array.getElem?_setIfInBounds, e] using hlj)
    cases hd : o.dst with
    | none => simpa [Act.put] using h.old t ht'
    | some d =>
      have : d ≠ t := fun e => hne (by rw [hd, e])
      simpa [Act.put, Array.getElem?_setIfInBounds, this] using h.old t ht'
  · by_cases e : j = i
    · subst e
      obtain rfl : oj = o := Option.some.inj (hj.symm.trans hi)
      have hlt := ((bindsOk_at hs hi).1 t hd).1
      refine ⟨v, ?_, hp⟩
      simp [Act.put, hd, h.size, hlt]
    · obtain ⟨u, hu, hp2⟩ := h.new j oj t hj hd ((getD_listed hl).resolve_left e)
      refine ⟨u, ?_, hk j u hp2⟩
      cases hd' : o.dst with
      | none => simpa [Act.put] using hu
      | some d =>
        have : d ≠ t := fun e' => bindsOk_ne hs hj hi e hd (by rw [hd', e'])
        simpa [Act.put, Array.getElem?_setIfInBounds, this] using hu
theorem KeptK.ev_old (hk : KeptK ops pr J a0 listed a w) (t : Tmp) (h : (ops.all fun o => o.dst != some t) = true) : a.eval (.tmp t) = a0.eval (.tmp t) := by
  have := hk.old t (fun j oj hj _ hd => by
    rw [Array.all_eq_true_iff_forall_mem] at h
    have := h oj (Array.mem_of_getElem? hj)
    simp [hd] at this)
  simp [Act.eval, Array.getD_eq_getD_getElem?, this]
theorem KeptK.ev_new (hk : KeptK ops pr J a0 listed a w) (hd : ∀ e ∈ o.after, Region.binds .any e = true → listed.getD e.on false = true) (j : Nat) (t : Tmp)
    (hj : (o.after.any fun e => e.on == j && Region.binds .any e) = true) (ht : ((ops[j]?).bind (·.dst)) = some t) : ∃ v, a.eval (.tmp t) = v ∧ a.tmps[t]? = some v ∧ pr j v w ∧ listed.getD j false = true := by
  obtain ⟨e, he, hb⟩ := Array.any_eq_true'.1 hj
  simp only [Bool.and_eq_true, beq_iff_eq] at hb
  obtain ⟨oj, hoj, hdj⟩ := Option.bind_eq_some_iff.1 ht
  have hl := hd e he hb.2
  rw [hb.1] at hl
  obtain ⟨v, h1, h2⟩ := hk.new j oj t hoj hdj hl
  exact ⟨v, by simp [Act.eval, Array.getD_eq_getD_getElem?, h1], h1, h2, hl⟩
theorem wpAny_keptK (hs : bindsOk ops a0.tmps.size = true)
    (step : ∀ i o, ops[i]? = some o → ∀ listed a w, KeptK ops pr J a0 listed a w → listed.getD i true = false → (∀ e ∈ o.after, Region.binds .any e = true → listed.getD e.on false = true) → StepK P Q pr J i o listed a w)
    (fin : ∀ listed a w, KeptK ops pr J a0 listed a w → (∀ j, j < ops.size → listed.getD j false = true) → Q .normal a w) :
    ∀ (fuel : Nat) (listed : Array Bool) (a : Act) (w : World), KeptK ops pr J a0 listed a w → listed.toList.count false ≤ fuel → wpAny P .any ops Q fuel listed a w := by
  have done : ∀ listed a w, KeptK ops pr J a0 listed a w → Region.ready .any ops listed = [] → Q .normal a w := by
    intro listed a w hk hr
    refine fin listed a w hk fun j => ?_
    induction j using Nat.strongRecOn with
    | _ j ih =>
      intro hj
      have hjl : j < listed.size := by rw [hk.lsize]; exact hj
      cases hl : listed.getD j false
      · exfalso
        have hl' : listed.getD j true = false := by simp [hjl] at hl ⊢; exact hl
        have hm : j ∈ Region.ready .any ops listed := mem_ready.2 ⟨hl', ops[j], Array.getElem?_eq_getElem hj, fun e he hb => by
          have hon := (bindsOk_at hs (Array.getElem?_eq_getElem hj)).2 e he hb
          exact ih e.on hon (by omega)⟩
        rw [hr] at hm
        cases hm
      · rfl
  intro fuel
  induction fuel with
  | zero =>
    intro listed a w hk hc
    have hr : Region.ready .any ops listed = [] := by
      rw [List.eq_nil_iff_forall_not_mem]
      intro i hi
      have h0 := (mem_ready.1 hi).1
      have hlt : i < listed.size := by
        rcases Nat.lt_or_ge i listed.size with h | h
        · exact h
        · simp [Array.getElem?_eq_none h] at h0
      have hmem : false ∈ listed.toList := by
        simp [hlt] at h0
        rw [← h0]
        simp
      have := List.count_pos_iff.2 hmem
      omega
    exact ⟨hr, done listed a w hk hr⟩
  | succ fuel ih =>
    intro listed a w hk hc
    refine ⟨done listed a w hk, fun i hi => ?_⟩
    obtain ⟨h0, o, ho, hdep⟩ := mem_ready.1 hi
    have hlt : i < listed.size := by rw [hk.lsize]; exact (Array.getElem?_eq_some_iff.1 ho).1
    have hcount : (listed.setIfInBounds i true).toList.count false ≤ fuel := by
      rw [Array.toList_setIfInBounds, List.count_set (by simpa using hlt)]
      have hf : listed.toList[i]'(by simpa using hlt) = false := by simpa [hlt] using h0
      have hp : 0 < listed.toList.count false := List.count_pos_iff.2 (by rw [← hf]; exact List.getElem_mem _)
      rw [hf]
      simp only [beq_self_eq_true, if_true]
      show _ - 1 + 0 ≤ fuel
      omega
    obtain ⟨hg, hst⟩ := step i o ho listed a w hk h0 hdep
    have hw : Region.wanted o (yielded ops a.tmps) = true := by simp [Region.wanted, hg]
    unfold wpOp
    simp only [ho]
    rw [if_pos hw]
    refine .inl (Oper.wp_mono ?_ hst)
    rintro a' w' ⟨v, rfl, hp, hv, hst2⟩
    exact ih _ _ _ (hk.put hs ho hp hst2 hv) hcount
theorem deps_all (hd : ∀ e ∈ o.after, Region.binds .any e = true → listed.getD e.on false = true) (n : Nat) (h : ((List.range n).all fun j => o.after.any fun e => e.on == j && Region.binds .any e) = true) : ∀ j, j < n → listed.getD j false = true := by
  intro j hj
  have h1 := List.all_eq_true.1 h j (List.mem_range.2 hj)
  obtain ⟨e, he, hb⟩ := Array.any_eq_true'.1 h1
  simp only [Bool.and_eq_true, beq_iff_eq] at hb
  have hl := hd e he hb.2
  rwa [hb.1] at hl
theorem stepK_value (hg : o.guard = none) (hrun : (execOp a.eval o).run P w = .ok (.value v) w) (hp : pr i v w) (hJ : J (listed.setIfInBounds i true) w) : StepK P Q pr J i o listed a w := by
  refine ⟨hg, ?_⟩
  unfold Oper.wp
  rw [hrun]
  exact ⟨v, rfl, hp, hJ, fun _ _ h => h⟩
theorem stepK_skip (hg : o.guard = none) (hd : o.dst = none) (hrun : (execOp a.eval o).run P w = .ok .skip w') (hp : pr i undef w') (hJ : J (listed.setIfInBounds i true) w') (hst : ∀ j u, pr j u w → pr j u w') : StepK P Q pr J i o listed a w := by
  refine ⟨hg, ?_⟩
  unfold Oper.wp
  rw [hrun]
  exact ⟨undef, by rw [hd], hp, hJ, hst⟩
theorem stepK_enter {f : FuncId} {args : Array Value} (hg : o.guard = none) (hrun : (execOp a.eval o).run P w = .ok (.enter f args) w)
    (hc : Calls P f args w fun e w' => ∃ v, e = .returned v ∧ pr i v w' ∧ J (listed.setIfInBounds i true) w' ∧ ∀ j u, pr j u w → pr j u w') : StepK P Q pr J i o listed a w := by
  refine ⟨hg, ?_⟩
  unfold Oper.wp
  rw [hrun]
  refine hc.mono ?_
  rintro e w' ⟨v, rfl, h⟩
  exact ⟨v, rfl, h⟩
theorem region_K {id : Nat} {l : List Oper} (pr : Nat → Value → World → Prop) (J : Array Bool → World → Prop) (hm : P.follows .mixedOrders = true) (hs : bindsOk l.toArray a0.tmps.size = true)
    (h0 : J (Array.replicate l.toArray.size false) { w with drawn := w.drawn + 1 })
    (step : AllSteps (fun i o => ∀ listed a w', KeptK l.toArray pr J a0 listed a w' → listed.getD i true = false → (∀ e ∈ o.after, Region.binds .any e = true → listed.getD e.on false = true) → StepK P Q pr J i o listed a w') 0 l)
    (fin : ∀ listed a w', J listed w' → (∀ j, j < l.toArray.size → listed.getD j false = true) → PutsTo pr w' 0 l a0 a → Q .normal a w') : (Code.region id l.toArray true).wp P Q a0 w := by
  refine wp_region_any hm ?_
  refine wpAny_keptK (pr := pr) (J := J) hs (fun i o hi listed a w' hk h1 h2 => ?_) (fun listed a w' hk hall => ?_) l.toArray.size _ a0 _ ⟨by simp, rfl, rfl, fun _ _ => rfl, fun j o t _ _ hl => ?_, h0⟩ ?_
  · have := allSteps_get l 0 step i o (by simpa using hi)
    rw [Nat.zero_add] at this
    exact this listed a w' hk h1 h2
  · refine fin listed a w' hk.inv hall ?_
    have k : Kept l.toArray pr a0 w' listed a w' := ⟨hk.lsize, Below.refl _ _, hk.defers, hk.size, hk.old, fun j oj t hj hd hl => hk.new j oj t hj hd hl⟩
    have := k.puts l.length (fun j hj => hall j (by simpa using hj)) (fun j hj => by
      have h1 : listed.size ≤ j := by rw [hk.lsize]; simpa using hj
      simp [h1])
    rwa [List.take_length] at this
  · rw [getD_replicate_false] at hl
    cases hl
  · simp
end
end Go.Proofs.Ytangblcfdboghaa
namespace Go.Proofs.Ytangblcfdboghaa
open Go.RowKit
set_option linter.unusedVariables false

structure KeptL (ops : Array Oper) (pr : Nat → Value → World → Prop) (J : Array Bool → Act → World → Prop) (a0 : Act) (listed : Array Bool) (a : Act) (w : World) : Prop where
  lsize : listed.size = ops.size
  defers : a.defers = a0.defers
  size : a.tmps.size = a0.tmps.size
  old : ∀ t, (∀ (j : Nat) (o : Oper), ops[j]? = some o → listed.getD j false = true → o.dst ≠ some t) → a.tmps[t]? = a0.tmps[t]?
  new : ∀ (j : Nat) (o : Oper) (t : Tmp), ops[j]? = some o → o.dst = some t → listed.getD j false = true → ∃ v, a.tmps[t]? = some v ∧ pr j v w
  inv : J listed a w
def StepL (P : Program) (Q : Exit → Act → World → Prop) (pr : Nat → Value → World → Prop) (J : Array Bool → Act → World → Prop) (i : Nat) (o : Oper) (listed : Array Bool) (a : Act) (w : World) : Prop :=
  o.guard = none ∧ o.wp P a w (fun a' w' => ∃ v, a' = a.put o.dst v ∧ pr i v w' ∧ J (listed.setIfInBounds i true) (a.put o.dst v) w' ∧ ∀ j u, pr j u w → pr j u w') Q
section
variable {P : Program} {ops : Array Oper} {Q : Exit → Act → World → Prop} {pr : Nat → Value → World → Prop} {J : Array Bool → Act → World → Prop} {a0 a : Act} {w w' : World} {listed : Array Bool} {o : Oper} {i : Nat} {v : Value}
theorem KeptL.put (hs : bindsOk ops a0.tmps.size = true) (h : KeptL ops pr J a0 listed a w) (hi : ops[i]? = some o) (hp : pr i v w') (hk : ∀ j u, pr j u w → pr j u w') (hJ : J (listed.setIfInBounds i true) (a.put o.dst v) w') : KeptL ops pr J a0 (listed.setIfInBounds i true) (a.put o.dst v) w' := by
  have hlt : i < listed.size := by rw [h.lsize]; exact (Array.getElem?_eq_some_iff.1 hi).1
  refine ⟨by simpa using h.lsize, ?_, ?_, fun t ht => ?_, fun j oj t hj hd hl => ?_, hJ⟩
  · cases hd : o.dst <;> simpa [Act.put, hd] using h.defers
  · cases hd : o.dst <;> simpa [Act.put, hd] using h.size
  · have hne := ht i o hi (by simp [hlt])
    have ht' : ∀ (j : Nat) (oj : Oper), ops[j]? = some oj → listed.getD j false = true → oj.dst ≠ some t := fun j oj hj hlj => ht j oj hj (by
      by_cases e : i = j
      · subst e; simp [hlt]
      · have hjl : j < listed.size := by rw [h.lsize]; exact (Array.getElem?_eq_some_iff.1 hj).1
        simpa [Array.getElem?_setIfInBounds, e] using hlj)
    cases hd : o.dst with
    | none => simpa [Act.put] using h.old t ht'
    | some d =>
      have : d ≠ t := fun e => hne (by rw [hd, e])
      simpa [Act.put, Array.getElem?_setIfInBounds, this] using h.old t ht'
  · by_cases e : j = i
    · subst e
      obtain rfl : oj = o := Option.some.inj (hj.symm.trans hi)
      have hlt := ((bindsOk_at hs hi).1 t hd).1
      refine ⟨v, ?_, hp⟩
      simp [Act.put, hd, h.size, hlt]
    · obtain ⟨u, hu, hp2⟩ := h.new j oj t hj hd ((getD_listed hl).resolve_left e)
      refine ⟨u, ?_, hk j u hp2⟩
      cases hd' : o.dst with
      | none => simpa [Act.put] using hu
      | some d =>
        have : d ≠ t := fun e' => bindsOk_ne hs hj hi e hd (by rw [hd', e'])
        simpa [Act.put, Array.getElem?_setIfInBounds, this] using hu
theorem KeptL.ev_old (hk : KeptL ops pr J a0 listed a w) (t : Tmp) (h : (ops.all fun o => o.dst != some t) = true) : a.eval (.tmp t) = a0.eval (.tmp t) := by
  have := hk.old t (fun j oj hj _ hd => by
    rw [Array.all_eq_true_iff_forall_mem] at h
    have := h oj (Array.mem_of_getElem? hj)
    simp [hd] at this)
  simp [Act.eval, Array.getD_eq_getD_getElem?, this]
theorem KeptL.ev_new (hk : KeptL ops pr J a0 listed a w) (hd : ∀ e ∈ o.after, Region.binds .any e = true → listed.getD e.on false = true) (j : Nat) (t : Tmp)
    (hj : (o.after.any fun e => e.on == j && Region.binds .any e) = true) (ht : ((ops[j]?).bind (·.dst)) = some t) : ∃ v, a.eval (.tmp t) = v ∧ a.tmps[t]? = some v ∧ pr j v w ∧ listed.getD j false = true := by
  obtain ⟨e, he, hb⟩ := Array.any_eq_true'.1 hj
  simp only [Bool.and_eq_true, beq_iff_eq] at hb
  obtain ⟨oj, hoj, hdj⟩ := Option.bind_eq_some_iff.1 ht
  have hl := hd e he hb.2
  rw [hb.1] at hl
  obtain ⟨v, h1, h2⟩ := hk.new j oj t hoj hdj hl
  exact ⟨v, by simp [Act.eval, Array.getD_eq_getD_getElem?, h1], h1, h2, hl⟩
theorem wpAny_keptL (hs : bindsOk ops a0.tmps.size = true)
    (step : ∀ i o, ops[i]? = some o → ∀ listed a w, KeptL ops pr J a0 listed a w → listed.getD i true = false → (∀ e ∈ o.after, Region.binds .any e = true → listed.getD e.on false = true) → StepL P Q pr J i o listed a w)
    (fin : ∀ listed a w, KeptL ops pr J a0 listed a w → (∀ j, j < ops.size → listed.getD j false = true) → Q .normal a w) :
    ∀ (fuel : Nat) (listed : Array Bool) (a : Act) (w : World), KeptL ops pr J a0 listed a w → listed.toList.count false ≤ fuel → wpAny P .any ops Q fuel listed a w := by
  have done : ∀ listed a w, KeptL ops pr J a0 listed a w → Region.ready .any ops listed = [] → Q .normal a w := by
    intro listed a w hk hr
    refine fin listed a w hk fun j => ?_
    induction j using Nat.strongRecOn with
    | _ j ih =>
      intro hj
      have hjl : j < listed.size := by rw [hk.lsize]; exact hj
      cases hl : listed.getD j false
      · exfalso
        have hl' : listed.getD j true = false := by simp [hjl] at hl ⊢; exact hl
        have hm : j ∈ Region.ready .any ops listed := mem_ready.2 ⟨hl', ops[j], Array.getElem?_eq_getElem hj, fun e he hb => by
          have hon := (bindsOk_at hs (Array.getElem?_eq_getElem hj)).2 e he hb
          exact ih e.on hon (by omega)⟩
        rw [hr] at hm
        cases hm
      · rfl
  intro fuel
  induction fuel with
  | zero =>
    intro listed a w hk hc
    have hr : Region.ready .any ops listed = [] := by
      rw [List.eq_nil_iff_forall_not_mem]
      intro i hi
      have h0 := (mem_ready.1 hi).1
      have hlt : i < listed.size := by
        rcases Nat.lt_or_ge i listed.size with h | h
        · exact h
        · simp [Array.getElem?_eq_none h] at h0
      have hmem : false ∈ listed.toList := by
        simp [hlt] at h0
        rw [← h0]
        simp
      have := List.count_pos_iff.2 hmem
      omega
    exact ⟨hr, done listed a w hk hr⟩
  | succ fuel ih =>
    intro listed a w hk hc
    refine ⟨done listed a w hk, fun i hi => ?_⟩
    obtain ⟨h0, o, ho, hdep⟩ := mem_ready.1 hi
    have hlt : i < listed.size := by rw [hk.lsize]; exact (Array.getElem?_eq_some_iff.1 ho).1
    have hcount : (listed.setIfInBounds i true).toList.count false ≤ fuel := by
      rw [Array.toList_setIfInBounds, List.count_set (by simpa using hlt)]
      have hf : listed.toList[i]'(by simpa using hlt) = false := by simpa [hlt] using h0
      have hp : 0 < listed.toList.count false := List.count_pos_iff.2 (by rw [← hf]; exact List.getElem_mem _)
      rw [hf]
      simp only [beq_self_eq_true, if_true]
      show _ - 1 + 0 ≤ fuel
      omega
    obtain ⟨hg, hst⟩ := step i o ho listed a w hk h0 hdep
    have hw : Region.wanted o (yielded ops a.tmps) = true := by simp [Region.wanted, hg]
    unfold wpOp
    simp only [ho]
    rw [if_pos hw]
    refine .inl (Oper.wp_mono ?_ hst)
    rintro a' w' ⟨v, rfl, hp, hv, hst2⟩
    exact ih _ _ _ (hk.put hs ho hp hst2 hv) hcount
theorem stepL_value (hg : o.guard = none) (hrun : (execOp a.eval o).run P w = .ok (.value v) w) (hp : pr i v w) (hJ : J (listed.setIfInBounds i true) (a.put o.dst v) w) : StepL P Q pr J i o listed a w := by
  refine ⟨hg, ?_⟩
  unfold Oper.wp
  rw [hrun]
  exact ⟨v, rfl, hp, hJ, fun _ _ h => h⟩
theorem stepL_run (hg : o.guard = none) (hrun : (execOp a.eval o).run P w = .ok (.value v) w') (hp : pr i v w') (hJ : J (listed.setIfInBounds i true) (a.put o.dst v) w') (hst : ∀ j u, pr j u w → pr j u w') : StepL P Q pr J i o listed a w := by
  refine ⟨hg, ?_⟩
  unfold Oper.wp
  rw [hrun]
  exact ⟨v, rfl, hp, hJ, hst⟩
theorem stepL_skip (hg : o.guard = none) (hd : o.dst = none) (hrun : (execOp a.eval o).run P w = .ok .skip w') (hp : pr i undef w') (hJ : J (listed.setIfInBounds i true) a w') (hst : ∀ j u, pr j u w → pr j u w') : StepL P Q pr J i o listed a w := by
  refine ⟨hg, ?_⟩
  unfold Oper.wp
  rw [hrun]
  exact ⟨undef, by rw [hd], hp, (by rw [hd]; exact hJ), hst⟩
theorem stepL_enter {f : FuncId} {args : Array Value} (hg : o.guard = none) (hrun : (execOp a.eval o).run P w = .ok (.enter f args) w)
    (hc : Calls P f args w fun e w' => ∃ v, e = .returned v ∧ pr i v w' ∧ J (listed.setIfInBounds i true) (a.put o.dst v) w' ∧ ∀ j u, pr j u w → pr j u w') : StepL P Q pr J i o listed a w := by
  refine ⟨hg, ?_⟩
  unfold Oper.wp
  rw [hrun]
  refine hc.mono ?_
  rintro e w' ⟨v, rfl, h⟩
  exact ⟨v, rfl, h⟩
theorem region_L {id : Nat} {l : List Oper} (pr : Nat → Value → World → Prop) (J : Array Bool → Act → World → Prop) (hm : P.follows .mixedOrders = true) (hs : bindsOk l.toArray a0.tmps.size = true)
    (h0 : J (Array.replicate l.toArray.size false) a0 { w with drawn := w.drawn + 1 })
    (step : AllSteps (fun i o => ∀ listed a w', KeptL l.toArray pr J a0 listed a w' → listed.getD i true = false → (∀ e ∈ o.after, Region.binds .any e = true → listed.getD e.on false = true) → StepL P Q pr J i o listed a w') 0 l)
    (fin : ∀ listed a w', J listed a w' → (∀ j, j < l.toArray.size → listed.getD j false = true) → PutsTo pr w' 0 l a0 a → Q .normal a w') : (Code.region id l.toArray true).wp P Q a0 w := by
  refine wp_region_any hm ?_
  refine wpAny_keptL (pr := pr) (J := J) hs (fun i o hi listed a w' hk h1 h2 => ?_) (fun listed a w' hk hall => ?_) l.toArray.size _ a0 _ ⟨by simp, rfl, rfl, fun _ _ => rfl, fun j o t _ _ hl => ?_, h0⟩ ?_
  · have := allSteps_get l 0 step i o (by simpa using hi)
    rw [Nat.zero_add] at this
    exact this listed a w' hk h1 h2
  · refine fin listed a w' hk.inv hall ?_
    have k : Kept l.toArray pr a0 w' listed a w' := ⟨hk.lsize, Below.refl _ _, hk.defers, hk.size, hk.old, fun j oj t hj hd hl => hk.new j oj t hj hd hl⟩
    have := k.puts l.length (fun j hj => hall j (by simpa using hj)) (fun j hj => by
      have h1 : listed.size ≤ j := by rw [hk.lsize]; simpa using hj
      simp [h1])
    rwa [List.take_length] at this
  · rw [getD_replicate_false] at hl
    cases hl
  · simp
end
end Go.Proofs.Ytangblcfdboghaa
