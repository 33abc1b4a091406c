/-
  A region that draws its order: reads ahead of one operation that may do anything (a call that makes memory, most often), and reads behind it, in whatever order these come up: walked once, in the order of the text. No program is named here.
-/
import Derived.Test.YtpdfalgjmeagjaaQTail
namespace Go.Proofs.Ytpdfalgjmeagjaa
open Go.RowKit
set_option linter.unusedVariables false

section
variable {P : Program} {ops : Array Oper} {md : Region.Mode} {C : World → Prop}
/-- Whatever stands behind the operation n waits for one of those, from n on, that stand ahead of it. -/
def behindB (md : Region.Mode) (ops : Array Oper) (n : Nat) : Bool :=
  (List.range ops.size).all fun t => decide (t ≤ n) || (List.range t).any fun j => decide (n ≤ j) && Region.waitsFor md ops t j
def setN : Nat → Nat → Array Bool → Array Bool
  | 0, _, l => l
  | f + 1, k, l => setN f (k + 1) (l.setIfInBounds k true)
/-- The head in the order of the text; then the operation n alone is ready. -/
def headN (md : Region.Mode) (ops : Array Oper) : Nat → Nat → Array Bool → Bool
  | 0, k, listed => decide (Region.ready md ops listed = [k])
  | f + 1, k, listed => (Region.ready md ops listed).contains k && Region.free md ops listed k && headN md ops f (k + 1) (listed.setIfInBounds k true)
def qcallB (md : Region.Mode) (ops : Array Oper) (n : Nat) : Bool :=
  Region.noSelect ops && decide (n < ops.size) && Region.sinkB md ops n && behindB md ops n && headN md ops n 0 (Array.replicate ops.size false) &&
    Region.lexFrom md ops (ops.size - (n + 1)) (n + 1) (setN (n + 1) 0 (Array.replicate ops.size false))

/-- All orders of the head, from here on, come to the array T. -/
def wpHead (P : Program) (md : Region.Mode) (ops : Array Oper) (C : World → Prop) (n : Nat) (T : Array Bool) (L : Act → Prop) : Nat → Array Bool → Act → Prop
  | 0, listed, a => listed = T ∧ L a
  | f + 1, listed, a => Region.ready md ops listed ≠ [] ∧ ∀ i ∈ Region.ready md ops listed, i < n ∧ qOp P ops C i (wpHead P md ops C n T L f (listed.setIfInBounds i true)) a

theorem wpAny_of_head {n g : Nat} {T : Array Bool} {L : Act → Prop} {Q' : Exit → Act → World → Prop} (hL : ∀ a w, C w → L a → wpAny P md ops Q' g T a w) :
    ∀ (f : Nat) (listed : Array Bool) (a : Act) (w : World), C w → wpHead P md ops C n T L f listed a → wpAny P md ops Q' (f + g) listed a w
  | 0, listed, a, w, hw, h => by
    rw [Nat.zero_add, h.1]
    exact hL _ _ hw h.2
  | f + 1, listed, a, w, hw, h => by
    rw [show f + 1 + g = (f + g) + 1 by omega]
    exact ⟨fun h0 => absurd h0 h.1, fun i hi => wpOp_of_qOp hw (fun a' w' hw' h' => wpAny_of_head hL f _ a' w' hw' h') (h.2 i hi).2⟩

/-- While one of the head is not listed, nothing from n on is ready. -/
theorem behind_waits {n : Nat} {listed : Array Bool} (hs : Region.sinkB md ops n = true) (hb : behindB md ops n = true) (hn : n < ops.size) (inv : HeadInv md ops n listed) :
    ∀ (d i : Nat), n - i = d → i < n → listed.getD i true = false → ∀ t, n ≤ t → t ∉ Region.ready md ops listed := by
  intro d
  induction d using Nat.strongRecOn with
  | _ d ih =>
    intro i hd hi hun t ht hr
    obtain ⟨_, ot, hot, hall⟩ := mem_ready.1 hr
    have htlt : t < ops.size := (Array.getElem?_eq_some_iff.1 hot).1
    by_cases htn : t = n
    · obtain ⟨j, hj, hj2⟩ := List.any_eq_true.1 (List.all_eq_true.1 hs i (List.mem_range.2 hi))
      simp only [Bool.and_eq_true, decide_eq_true_eq] at hj2
      obtain ⟨oj, hoj, e, he, hbd, hon⟩ := Region.waitsFor_spec hj2.2
      have hjle : j ≤ n := by have := List.mem_range.1 hj; omega
      cases hl : listed.getD j false with
      | true =>
        have h2 := inv.closed j oj hoj hl e he hbd
        rw [hon, getD_both hun] at h2
        cases h2
      | false =>
        by_cases hjn : j = n
        · have e2 : oj = ot := Option.some.inj (hoj.symm.trans (by rw [hjn, ← htn]; exact hot))
          have h2 := hall e (by rw [← e2]; exact he) hbd
          rw [hon, getD_both hun] at h2
          cases h2
        · exact ih (n - j) (by omega) j rfl (by omega) (getD_in (by rw [inv.size]; omega) hl) t ht hr
    · have h1 := List.all_eq_true.1 hb t (List.mem_range.2 htlt)
      simp only [Bool.or_eq_true, decide_eq_true_eq] at h1
      rcases h1 with h1 | h1
      · omega
      · obtain ⟨j, hj, hj2⟩ := List.any_eq_true.1 h1
        simp only [Bool.and_eq_true, decide_eq_true_eq] at hj2
        obtain ⟨oj, hoj, e, he, hbd, hon⟩ := Region.waitsFor_spec hj2.2
        have e2 : oj = ot := Option.some.inj (hoj.symm.trans hot)
        have h2 := hall e (by rw [← e2]; exact he) hbd
        have h3 := inv.tail j hj2.1 (by have := List.mem_range.1 hj; omega)
        rw [hon, getD_both h3] at h2
        cases h2

theorem wpHead_first {n i : Nat} {oi : Oper} {v : Value} {T : Array Bool} {L : Act → Prop} (hi : ops[i]? = some oi) (hsel : ∀ (j : Nat) (o : Oper) cs b, ops[j]? = some o → o.op ≠ .select cs b)
    (hs : Region.sinkB md ops n = true) (hb : behindB md ops n = true) (hn : n < ops.size) (hin : i < n) (hT : ∀ j ∈ Region.ready md ops T, n ≤ j) :
    ∀ (f : Nat) (listed : Array Bool) (a : Act), HeadInv md ops n listed →
      (∀ j oj, ops[j]? = some oj → j ≠ i → listed.getD j true = false → (∀ e ∈ oj.after, Region.binds md e = true → e.on ≠ i) → oi.apart ops oj = true) →
      i ∈ Region.ready md ops listed → YieldsIn P ops C oi v a →
      wpHead P md ops C n T L f (listed.setIfInBounds i true) (a.put oi.dst v) → wpHead P md ops C n T L (f + 1) listed a := by
  intro f
  induction f with
  | zero =>
    intro listed a inv _ hr hy H
    have hun := (mem_ready.1 hr).1
    refine ⟨fun h => (by rw [h] at hr; cases hr), fun j hj => ?_⟩
    have hjn : j < n := by
      rcases Nat.lt_or_ge j n with h | h
      · exact h
      · exact absurd hj (behind_waits hs hb hn inv _ i rfl hin hun j h)
    refine ⟨hjn, ?_⟩
    by_cases hji : j = i
    · subst hji
      exact hy.qOp hi H
    · have h1 := hT j (by rw [← H.1]; exact ready_mono hj hji)
      omega
  | succ f ih =>
    intro listed a inv hfree hr hy H
    have hun := (mem_ready.1 hr).1
    refine ⟨fun h => (by rw [h] at hr; cases hr), fun j hj => ?_⟩
    have hjn : j < n := by
      rcases Nat.lt_or_ge j n with h | h
      · exact h
      · exact absurd hj (behind_waits hs hb hn inv _ i rfl hin hun j h)
    refine ⟨hjn, ?_⟩
    by_cases hji : j = i
    · subst hji
      exact hy.qOp hi H
    · have h1 := (H.2 j (ready_mono hj hji)).2
      obtain ⟨hjun, oj, hoj, hall⟩ := mem_ready.1 hj
      have hnot : ∀ e ∈ oj.after, Region.binds md e = true → e.on ≠ i := fun e he hbd heq => by
        have h1 := hall e he hbd
        rw [heq, getD_both hun] at h1
        cases h1
      refine qOp_mono (fun a' h3 => ih (listed.setIfInBounds j true) a' (inv.set hj hjn) (fun k ok hk hki hku hno => ?_) (ready_mono hr (Ne.symm hji)) h3.1 ?_) (qOp_put hoj (hfree j oj hoj hji hjun hnot) (fun cs b => hsel i oi cs b hi) (fun cs b => hsel j oj cs b hoj) hy h1)
      · refine hfree k ok hk hki ?_ hno
        by_cases hjk : j = k
        · subst hjk
          exact hjun
        · rw [getD_set_ne true hjk] at hku
          exact hku
      · have h5 := h3.2
        rw [Array.setIfInBounds_comm _ _ hji]
        exact h5
theorem wpHead_lex {n : Nat} {T : Array Bool} {Lq : Act → Prop} (hsel : Region.noSelect ops = true) (hs : Region.sinkB md ops n = true) (hb : behindB md ops n = true) (hn : n < ops.size) (hT : Region.ready md ops T = [n]) :
    ∀ (l : List Oper) (k : Nat) (listed : Array Bool) (a : Act), (∀ j, j < l.length → l[j]? = ops[k + j]?) → k + l.length = n → HeadInv md ops n listed → setN l.length k listed = T →
    headN md ops l.length k listed = true → wpQuiet P ops C Lq l a → wpHead P md ops C n T Lq l.length listed a
  | [], k, listed, a, _, hk, _, hT', hB, h => ⟨hT', h⟩
  | o :: l, k, listed, a, hl, hk, inv, hT', hB, h => by
    have h0 : ops[k]? = some o := by simpa using (hl 0 (by simp)).symm
    simp only [List.length_cons, headN, Bool.and_eq_true] at hB
    obtain ⟨⟨hr, hf⟩, hB'⟩ := hB
    have hkn : k < n := by simp only [List.length_cons] at hk; omega
    have hr' : k ∈ Region.ready md ops listed := by simpa using hr
    have hst : qOp P ops C k (wpQuiet P ops C Lq l) a := by unfold qOp; simp only [h0]; exact h
    obtain ⟨v, hy, hK⟩ := yieldsIn_of_qOp h0 hst
    exact wpHead_first h0 (Region.noSelect_spec hsel) hs hb hn hkn (fun j hj => by rw [hT] at hj; simp at hj; omega) l.length listed a inv (Region.free_spec h0 hf) hr' hy
      (wpHead_lex hsel hs hb hn hT l (k + 1) _ _ (fun j hj => by have := hl (j + 1) (by simp; omega); simpa [Nat.add_assoc, Nat.add_comm 1 j] using this) (by simp only [List.length_cons] at hk; omega) (inv.set hr' hkn) hT' hB' hK)
/-- What stands behind a normal end is another thing. -/
def onEnd (Q : Exit → Act → World → Prop) (R : Act → World → Prop) : Exit → Act → World → Prop
  | .normal => R
  | e => Q e
theorem wp_onEnd {Q : Exit → Act → World → Prop} {R K : Act → World → Prop} {o : Oper} {a : Act} {w : World} (hK : ∀ a w, R a w → K a w) (h : o.wp P a w R (onEnd Q R)) : o.wp P a w K Q := by
  unfold Oper.wp at *
  generalize (execOp a.eval o).run P w = r at *
  cases r with
  | ok n w' =>
    cases n <;> simp only [Oper.upon] at h ⊢
    case enter f args =>
      refine h.mono ?_
      intro e w'' he
      cases e with
      | returned v => exact hK _ _ he
      | panicked c => exact he
      | outgrown => exact he
    case row row args => exact h.mono fun v w'' hv => hK _ _ hv
    all_goals exact hK _ _ h
  | halt h' w' =>
    cases h' <;> first | exact h | cases h
theorem wpAny_one {Q : Exit → Act → World → Prop} {R : Act → World → Prop} {k g : Nat} {o : Oper} {listed : Array Bool} {a : Act} {w : World} (h0 : ops[k]? = some o) (hr : Region.ready md ops listed = [k])
    (h : wpList P ops (onEnd Q R) [o] a w) (hq : ∀ a' w', R a' w' → wpAny P md ops Q g (listed.setIfInBounds k true) a' w') : wpAny P md ops Q (g + 1) listed a w := by
  refine ⟨fun h1 => (by rw [hr] at h1; cases h1), fun i hi => ?_⟩
  rw [hr] at hi
  obtain rfl : i = k := by simpa using hi
  unfold wpOp
  simp only [h0]
  unfold wpList at h
  split at h
  · rename_i hw
    rw [if_pos hw]
    rcases h with h | h
    · exact .inl (wp_onEnd hq h)
    · exact .inr h
  · rename_i hw
    rw [if_neg hw]
    exact hq _ _ h
/-- Reads, the operation n, reads. -/
theorem region_qcall {id : Nat} {Q : Exit → Act → World → Prop} {a : Act} {w : World} {l : List Oper} (n : Nat) (hm : P.follows .mixedOrders = true) (hB : qcallB .any l.toArray n = true)
    (h : wpQuiet P l.toArray (fun w' => ∃ m, w' = w.drewN m) (fun a1 => ∀ w1, (∃ m, w1 = w.drewN m) → wpList P l.toArray (onEnd Q fun a2 w2 => wpQuiet P l.toArray (fun w' => ∃ m, w' = w2.drewN m) (fun a3 => ∀ w3, (∃ m, w3 = w2.drewN m) → Q .normal a3 w3) (l.drop (n + 1)) a2) ((l.drop n).take 1) a1 w1) (l.take n) a) : (Code.region id l.toArray true).wp P Q a w := by
  simp only [qcallB, Bool.and_eq_true, decide_eq_true_eq] at hB
  obtain ⟨⟨⟨⟨⟨hsel, hn⟩, hs⟩, hb⟩, hh⟩, hr⟩ := hB
  have hn' : n < l.length := by simpa using hn
  have htl : (l.take n).length = n := by simp; omega
  have inv0 : HeadInv .any l.toArray n (Array.replicate l.toArray.size false) :=
    ⟨by simp, fun j oj _ hl => (by rw [getD_replicate_false] at hl; cases hl), fun t _ ht => getD_in (by simpa using ht) (getD_replicate_false _ _)⟩
  have hT : ∀ (f k : Nat) (x : Array Bool), headN .any l.toArray f k x = true → Region.ready .any l.toArray (setN f k x) = [k + f] := by
    intro f
    induction f with
    | zero => intro k x hx; simpa [headN, setN] using hx
    | succ f ih =>
      intro k x hx
      simp only [headN, Bool.and_eq_true] at hx
      have := ih (k + 1) _ hx.2
      rwa [show k + 1 + f = k + (f + 1) from by omega] at this
  have hTn := hT n 0 _ hh
  rw [Nat.zero_add] at hTn
  have H := wpHead_lex (md := .any) (C := fun w' => ∃ m, w' = w.drewN m) hsel hs hb hn hTn (l.take n) 0 _ a (fun j hj => by
    have hj' : j < n := by rw [htl] at hj; exact hj
    simp [hj']) (by simpa using htl) inv0 (by rw [htl]) (by rw [htl]; exact hh) h
  have hset : ∀ (f k : Nat) (x : Array Bool), (setN f k x).setIfInBounds (k + f) true = setN (f + 1) k x := by
    intro f
    induction f with
    | zero => intro k x; rfl
    | succ f ih =>
      intro k x
      have := ih (k + 1) (x.setIfInBounds k true)
      rw [show k + 1 + f = k + (f + 1) from by omega] at this
      exact this
  have hsn := hset n 0 (Array.replicate l.toArray.size false)
  rw [Nat.zero_add] at hsn
  obtain ⟨o, hd⟩ : ∃ o, l[n]? = some o := ⟨_, List.getElem?_eq_getElem hn'⟩
  have hd1 : (l.drop n).take 1 = [o] := by rw [List.drop_eq_getElem_cons hn', (List.getElem?_eq_some_iff.1 hd).2]; rfl
  refine wp_region_any hm ?_
  have := wpAny_of_head (Q' := Q) (g := l.toArray.size - (n + 1) + 1) (fun a' w' hw' hL => by
    have h1 := hL w' hw'
    rw [hd1] at h1
    refine wpAny_one (by simpa using hd) hTn h1 fun a2 w2 h2 => ?_
    rw [hsn]
    have h3 := wpAny_of_quiet (P := P) (md := .any) (ops := l.toArray) (C := fun w' => ∃ m, w' = w2.drewN m) (Q := fun a3 => ∀ w3, (∃ m, w3 = w2.drewN m) → Q .normal a3 w3) (Q' := Q) (fun a3 w3 hw3 hq => hq w3 hw3) _ _ _ w2 ⟨0, by cases w2; rfl⟩ (wpAnyQ_lex hsel (l.drop (n + 1)) (n + 1) _ a2 (fun j => by simp [List.getElem?_drop]) (by rw [List.length_drop]; simpa using hr) h2)
    rw [List.length_drop] at h3
    simpa using h3) _ _ _ _ ⟨1, rfl⟩ H
  rw [htl, show n + (l.toArray.size - (n + 1) + 1) = l.toArray.size by omega] at this
  exact this
end
end Go.Proofs.Ytpdfalgjmeagjaa
