/-
  Operations within a round of a range over a function: what is walked as everywhere holds there, too.
-/
import Derived.Test.YtpdfalgjmeagjaaRegion
import Derived.Test.YtpdfalgjmeagjaaQTail
import Derived.RangeFuncWrites
import Derived.RangeFuncCalls
import Derived.OrdersIn
import Derived.TacticsIn
namespace Go.Proofs.Ytpdfalgjmeagjaa
open Go.RowKit
set_option linter.unusedVariables false

/-- No operation is a 'defer'. -/
def noDefer (ops : Array Oper) : Bool := ops.all fun o => match o.op with
  | .defer _ => false
  | _ => true
section
variable {P : Program} {Q : Exit → Act → World → Prop} {a : Act} {w : World} {l n : Nat}
theorem oper_in {o : Oper} {K : Act → World → Prop} (hd : ∀ c, o.op ≠ .defer c) (h : o.wp P a w K Q) : o.wpIn (Fence.wide.inRound l) n P a w K Q := by
  unfold Oper.wpIn
  unfold Oper.wp at h
  refine ⟨fun f _ => trivial, ?_⟩
  rw [Oper.semAt_eq _ _ _ hd]
  generalize (execOp a.eval o).run P w = r at h ⊢
  cases r with
  | ok x w' =>
    cases x with
    | value v => exact h
    | skip => exact h
    | defer d => exact h
    | enter f args => exact ⟨(fun e => (by cases e)), CallsIn.inRound l (callsIn_wide.2 h)⟩
    | row row args => exact ⟨(fun e => (by cases e)), fun c cs _ => let ⟨v, w2, r1, s1⟩ := h c cs; ⟨v, w2, r1, stepsIn_wide.2 s1⟩⟩
    | round l f tmps assign body => exact h.elim
    | _ => exact h.elim
  | halt x w' => cases x <;> exact h
theorem defer_at {ops : Array Oper} (h : noDefer ops = true) {i : Nat} {o : Oper} (ho : ops[i]? = some o) : ∀ c, o.op ≠ .defer c := by
  intro c hc
  have hlt := (Array.getElem?_eq_some_iff.1 ho).1
  have h1 := Array.all_eq_true.1 h i hlt
  have e : ops[i] = o := (Array.getElem?_eq_some_iff.1 ho).2
  rw [e, hc] at h1
  cases h1
theorem op_in {ops : Array Oper} (hd : noDefer ops = true) (hno : ¬ LetsOut Q) {i : Nat} {K K' : Act → World → Prop} (hK : ∀ a w, K a w → K' a w) (h : wpOp P ops Q i K a w) : wpOpIn (Fence.wide.inRound l) n P ops Q i K' a w := by
  unfold wpOp at h
  unfold wpOpIn
  split
  · rename_i hn
    rw [hn] at h
    exact hK _ _ h
  · rename_i o ho
    rw [ho] at h
    simp only at h
    split
    · rename_i hw
      rw [if_pos hw] at h
      rcases h with h | ⟨_, h⟩
      · exact Oper.wpIn_mono hK (oper_in (defer_at hd ho) h)
      · exact absurd h hno
    · rename_i hw
      rw [if_neg hw] at h
      exact ⟨fun f _ => trivial, hK _ _ h⟩
theorem any_in {ops : Array Oper} (hd : noDefer ops = true) (hno : ¬ LetsOut Q) : ∀ (fuel : Nat) (listed : Array Bool) (a : Act) (w : World), wpAny P .any ops Q fuel listed a w → wpAnyIn (Fence.wide.inRound l) n P .any ops Q fuel listed a w
  | 0, listed, a, w, h => h
  | fuel + 1, listed, a, w, h => ⟨h.1, fun i hi => op_in hd hno (fun a w => any_in hd hno fuel _ a w) (h.2 i hi)⟩
/-- A statement whose order is open, within a round. -/
theorem region_in {ops : Array Oper} {id : Nat} (hm : P.follows .mixedOrders = true) (hd : noDefer ops = true) (hno : ¬ LetsOut Q) (h : wpAny P .any ops Q ops.size (Array.replicate ops.size false) a { w with drawn := w.drawn + 1 }) : (Code.region id ops true).wpIn (Fence.wide.inRound l) n P Q a w :=
  wpIn_region_any hm (any_in hd hno _ _ _ _ h)
theorem list_in {ops : Array Oper} (hno : ¬ LetsOut Q) : ∀ (L : List Oper) (a : Act) (w : World), (∀ o ∈ L, ∀ c, o.op ≠ .defer c) → wpList P ops Q L a w → wpListIn (Fence.wide.inRound l) n P ops Q L a w
  | [], a, w, _, h => h
  | o :: L, a, w, hd, h => by
    unfold wpList at h
    unfold wpListIn
    split
    · rename_i hw
      rw [if_pos hw] at h
      rcases h with h | ⟨_, h⟩
      · exact Oper.wpIn_mono (fun a w => list_in hno L a w fun o ho => hd o (List.mem_cons_of_mem _ ho)) (oper_in (hd o List.mem_cons_self) h)
      · exact absurd h hno
    · rename_i hw
      rw [if_neg hw] at h
      exact ⟨fun f _ => trivial, list_in hno L _ w (fun o ho => hd o (List.mem_cons_of_mem _ ho)) h⟩
/-- A statement in its order, within a round. -/
theorem plain_in {ops : Array Oper} {id : Nat} (hd : noDefer ops = true) (hno : ¬ LetsOut Q) (h : wpList P ops Q ops.toList a w) : (Code.region id ops false).wpIn (Fence.wide.inRound l) n P Q a w :=
  wpIn_region_list (list_in hno _ a w (fun o ho => by
    obtain ⟨i, hi, e⟩ := List.getElem_of_mem ho
    exact defer_at hd (i := i) (by rw [Array.getElem?_eq_getElem (by simpa using hi)]; simpa using e)) h)
/-- region_all_tail, within a round. -/
theorem region_all_tail_in {a0 : Act} {id : Nat} {L : List Oper} (k : Nat) (pr : Nat → Value → World → Prop) (hm : P.follows .mixedOrders = true) (hd : noDefer L.toArray = true) (hno : ¬ LetsOut Q) (hs : slotsOk L.toArray a0.tmps.size = true) (ht : tailOk L k = true) (stab : ∀ j v w w', Below w.heap.size w w' → pr j v w → pr j v w')
    (step : ∀ w0, Below w.heap.size w w0 → AllSteps (fun i o => ∀ listed a w', Kept L.toArray pr a0 w0 listed a w' → (∀ e ∈ o.after, Region.binds .any e = true → listed.getD e.on false = true) → StepOk P L.toArray Q pr i o a w') 0 (L.take k))
    (fin : ∀ a w', Below w.heap.size w w' → PutsTo pr w' 0 (L.take k) a0 a → wpList P L.toArray Q (L.drop k) a w') : (Code.region id L.toArray true).wpIn (Fence.wide.inRound l) n P Q a0 w := by
  unfold tailOk at ht
  simp only [Bool.and_eq_true, decide_eq_true_eq] at ht
  obtain ⟨⟨⟨hsink, hchain⟩, hn⟩, hseq⟩ := ht
  refine region_in hm hd hno ?_
  have hb : Below w.heap.size w { w with drawn := w.drawn + 1 } := ⟨rfl, rfl, rfl, Nat.le_refl _, fun _ _ => rfl⟩
  refine wpAny_keptT rfl k hs stab hsink hchain hn hseq (fun i o hin hi listed a w' hk hd => ?_) (fun listed a w' hk h1 h2 => fin a w' (Below.then_ hb hk.below) (hk.puts k h1 h2)) L.toArray.size _ a0 _ ⟨by simp, Below.refl _ _, rfl, rfl, fun _ _ => rfl, fun j o t _ _ hl => ?_⟩ ⟨by simp, fun j oj _ hl => (by rw [getD_replicate_false] at hl; cases hl), fun t _ h => getD_in (by simpa using h) (getD_replicate_false _ _)⟩ (by simp)
  · have := allSteps_get (L.take k) 0 (step _ hb) i o (by rw [List.getElem?_take, if_pos hin]; simpa using hi)
    rw [Nat.zero_add] at this
    exact this listed a w' hk hd
  · rw [getD_replicate_false] at hl
    cases hl
/-- region_qtail, within a round: reads, and calls that only read, ahead of a tail of one order. -/
theorem region_qtail_in {l' n' id : Nat} {l : List Oper} (n : Nat) (hm : P.follows .mixedOrders = true) (hd : noDefer l.toArray = true) (hno : ¬ LetsOut Q) (hB : Region.lexTailB .any l.toArray n = true)
    (h : wpQuiet P l.toArray (fun w' => ∃ m, w' = w.drewN m) (fun a' => ∀ w', (∃ m, w' = w.drewN m) → wpList P l.toArray Q (l.drop n) a' w') (l.take n) a) : (Code.region id l.toArray true).wpIn (Fence.wide.inRound l') n' P Q a w :=
  region_in hm hd hno (any_class_tail (C := fun w' => ∃ m, w' = w.drewN m) n hB ⟨1, rfl⟩ h)
end
end Go.Proofs.Ytpdfalgjmeagjaa
