/-
  A region that draws its order, whose operations leave the worlds of a class alone (reads, and calls that stay in the class), and which ends in a tail of one order: walked once, in the order of the text. Behind any of the head's operations the frame is a pile: what the listed ones yield in the text's order, laid on the frame of before. No program is named here.
-/
import Derived.Test.YtangblcfdboghaaMem
import Derived.StillTail
import Derived.Deep.Quiet
import Derived.Deep.QuietTactic
import Derived.BigQuiet
namespace Go.Proofs.Ytangblcfdboghaa
open Go.RowKit
set_option linter.unusedVariables false

section
variable {P : Program} {ops : Array Oper} {C : World → Prop}

/-- Where an operation lays what it yields. -/
def slotOf (ops : Array Oper) (k : Nat) : Option Tmp := (ops[k]?).bind (·.dst)
/-- The frame with what those of the first n operations yield that S names. -/
def pile (ops : Array Oper) (vs : Nat → Value) (S : Nat → Bool) (a : Act) : Nat → Act
  | 0 => a
  | n + 1 => if S n then (pile ops vs S a n).put (slotOf ops n) (vs n) else pile ops vs S a n

theorem put_tmps_size (a : Act) (x : Option Tmp) (v : Value) : (a.put x v).tmps.size = a.tmps.size := by
  cases x <;> simp [Act.put]
theorem pile_size {vs : Nat → Value} {S : Nat → Bool} {a : Act} (n : Nat) : (pile ops vs S a n).tmps.size = a.tmps.size := by
  induction n with
  | zero => rfl
  | succ n ih =>
    unfold pile
    split
    · rw [put_tmps_size, ih]
    · exact ih
theorem pile_eq {vs us : Nat → Value} {S T : Nat → Bool} {a : Act} (n : Nat) (hv : ∀ k, k < n → vs k = us k) (hS : ∀ k, k < n → S k = T k) : pile ops vs S a n = pile ops us T a n := by
  induction n with
  | zero => rfl
  | succ n ih =>
    have e := ih (fun k hk => hv k (by omega)) (fun k hk => hS k (by omega))
    simp only [pile, e, hv n (by omega), hS n (by omega)]
theorem pile_below {vs : Nat → Value} {a : Act} {i : Nat} (n : Nat) (h : i ≤ n) : pile ops vs (fun k => decide (k < i)) a n = pile ops vs (fun _ => true) a i := by
  induction n with
  | zero => obtain rfl : i = 0 := by omega
            rfl
  | succ n ih =>
    rcases Nat.lt_or_ge n i with h1 | h1
    · obtain rfl : i = n + 1 := by omega
      exact pile_eq _ (fun _ _ => rfl) (fun k hk => by simpa using hk)
    · have : decide (n < i) = false := by simpa using h1
      simp only [pile, this]
      exact ih h1
/-- A slot that no operation writes in which the two differ reads the same. -/
theorem pile_slot {vs : Nat → Value} {S T : Nat → Bool} {a : Act} {t : Tmp} (n : Nat) (h : ∀ k, k < n → S k ≠ T k → slotOf ops k ≠ some t) :
    (pile ops vs S a n).tmps[t]? = (pile ops vs T a n).tmps[t]? := by
  induction n with
  | zero => rfl
  | succ n ih =>
    have e := ih fun k hk => h k (by omega)
    have away : ∀ (b : Act) (v : Value), slotOf ops n ≠ some t → (b.put (slotOf ops n) v).tmps[t]? = b.tmps[t]? := by
      intro b v hne
      cases hd : slotOf ops n with
      | none => rfl
      | some d =>
        have : d ≠ t := fun e => hne (by rw [hd, e])
        simp [Act.put, this]
    by_cases hST : S n = T n
    · simp only [pile, ← hST]
      split
      · by_cases hd : slotOf ops n = some t
        · simp [hd, Act.put, Array.getElem?_setIfInBounds, pile_size]
        · rw [away _ _ hd, away _ _ hd, e]
      · exact e
    · have hne := h n (by omega) hST
      simp only [pile]
      split <;> split <;> simp only [away _ _ hne, e]
theorem pile_add {vs : Nat → Value} {S : Nat → Bool} {a : Act} {i : Nat} (n : Nat) (hi : S i = false) (hn : i < n) (h : ∀ k, i < k → k < n → S k = true → ∀ d, slotOf ops i = some d → slotOf ops k ≠ some d) :
    pile ops vs (fun k => k == i || S k) a n = (pile ops vs S a n).put (slotOf ops i) (vs i) := by
  induction n with
  | zero => omega
  | succ n ih =>
    rcases Nat.lt_or_ge i n with h1 | h1
    · have e := ih h1 fun k h2 h3 => h k h2 (by omega)
      have hne : (n == i) = false := by simpa using (by omega : n ≠ i)
      simp only [pile, hne, Bool.false_or, e]
      split
      · rename_i hs
        exact Act.put_comm _ _ _ (h n h1 (by omega) hs)
      · rfl
    · obtain rfl : n = i := by omega
      have e : pile ops vs (fun k => k == n || S k) a n = pile ops vs S a n := pile_eq _ (fun _ _ => rfl) fun k hk => by
        have : (k == n) = false := by simpa using (by omega : k ≠ n)
        simp [this]
      simp [pile, hi, e]

/-- An operation does as it did, if the slots that it looks at read as they did. -/
theorem looks_same {o : Oper} {a b : Act} (hs : ∀ cs d, o.op ≠ .select cs d) (h : ∀ t ∈ o.looksAt ops, a.tmps[t]? = b.tmps[t]?) :
    execOp a.eval o = execOp b.eval o ∧ Region.wanted o (yielded ops a.tmps) = Region.wanted o (yielded ops b.tmps) := by
  refine ⟨execOp_congr o hs fun x hx => ?_, ?_⟩
  · cases x with
    | tmp t =>
      have := h t (List.mem_append_left _ (List.mem_filterMap.2 ⟨.tmp t, by simpa using hx, rfl⟩))
      simp [Act.eval, this]
    | _ => rfl
  · unfold Region.wanted
    cases hg : o.guard with
    | none => rfl
    | some gw =>
      obtain ⟨g, want⟩ := gw
      have : yielded ops a.tmps g = yielded ops b.tmps g := by
        unfold yielded
        cases ht : (ops[g]?).bind (·.dst) with
        | none => rfl
        | some t => simp [h t (by simp [Oper.looksAt, hg, ht])]
      simp only [this]

/-- What the walk in the text's order tells: each operation's value. -/
theorem values_of {Lq : Act → Prop} {a0 : Act} : ∀ (l : List Oper) (k : Nat) (us : Nat → Value), (∀ j, j < l.length → l[j]? = ops[k + j]?) → wpQuiet P ops C Lq l (pile ops us (fun _ => true) a0 k) →
    ∃ vs : Nat → Value, (∀ j, j < k → vs j = us j) ∧ (∀ j o, k ≤ j → j < k + l.length → ops[j]? = some o → YieldsIn P ops C o (vs j) (pile ops vs (fun _ => true) a0 j)) ∧ Lq (pile ops vs (fun _ => true) a0 (k + l.length))
  | [], k, us, _, h => ⟨us, fun _ _ => rfl, fun j o h1 h2 => by simp at h2; omega, h⟩
  | o :: l, k, us, hl, h => by
    have h0 : ops[k]? = some o := by simpa using (hl 0 (by simp)).symm
    have hq : qOp P ops C k (wpQuiet P ops C Lq l) (pile ops us (fun _ => true) a0 k) := by
      unfold qOp
      simp only [h0]
      exact h
    obtain ⟨v, hy, hK⟩ := yieldsIn_of_qOp h0 hq
    have hd : slotOf ops k = o.dst := by simp [slotOf, h0]
    obtain ⟨vs, e, hv, hL⟩ := values_of (Lq := Lq) (a0 := a0) l (k + 1) (fun j => if j = k then v else us j) (fun j hj => by
      have := hl (j + 1) (by simpa using hj)
      simpa [Nat.add_assoc, Nat.add_comm 1 j] using this) (by
      have : pile ops (fun j => if j = k then v else us j) (fun _ => true) a0 k = pile ops us (fun _ => true) a0 k := pile_eq _ (fun j hj => by simp [Nat.ne_of_lt hj]) fun _ _ => rfl
      simpa [pile, this, hd] using hK)
    have ek : ∀ j, j < k → vs j = us j := fun j hj => by simpa [Nat.ne_of_lt hj] using e j (by omega)
    refine ⟨vs, ek, fun j oj h1 h2 hoj => ?_, by simpa [Nat.add_assoc, Nat.add_comm 1] using hL⟩
    by_cases hj : j = k
    · subst hj
      obtain rfl : oj = o := Option.some.inj (hoj.symm.trans h0)
      rw [pile_eq (us := us) _ ek fun _ _ => rfl, show vs j = v by simpa using e j (by omega)]
      exact hy
    · exact hv j oj (by omega) (by simp at h2; omega) hoj

/-- What the check of the head says: an operation waits for earlier ones alone, and is apart from each later one that does not wait for it; behind the head the tail goes one by one. -/
theorem head_spec {g : Nat} : ∀ (f k : Nat) (listed : Array Bool), listed.size = ops.size → (∀ j, j < ops.size → listed.getD j true = decide (j < k)) → Region.lexHead .any ops g f k listed = true →
    (∀ i o, k ≤ i → i < k + f → ops[i]? = some o → (∀ e ∈ o.after, Region.binds .any e = true → e.on < i) ∧
      ∀ j oj, i < j → ops[j]? = some oj → (∀ e ∈ oj.after, Region.binds .any e = true → e.on ≠ i) → o.apart ops oj = true) ∧
    ∃ last : Array Bool, last.size = ops.size ∧ (∀ j, j < ops.size → last.getD j true = decide (j < k + f)) ∧ Region.seqB .any ops g (k + f) last = true
  | 0, k, listed, hsz, hl, h => ⟨fun i o h1 h2 => by omega, listed, hsz, hl, h⟩
  | f + 1, k, listed, hsz, hl, h => by
    simp only [Region.lexHead, Bool.and_eq_true] at h
    obtain ⟨⟨hr, hf⟩, h'⟩ := h
    have hr' : k ∈ Region.ready .any ops listed := by simpa using hr
    obtain ⟨hk0, ok, hok, hdep⟩ := mem_ready.1 hr'
    have hks : k < ops.size := (Array.getElem?_eq_some_iff.1 hok).1
    obtain ⟨h1, last, h2, h3, h4⟩ := head_spec f (k + 1) (listed.setIfInBounds k true) (by simpa using hsz) (fun j hj => by
      by_cases e : j = k
      · subst e
        simp [hsz, hks]
      · have := hl j hj
        rw [getD_set_ne true (Ne.symm e), this]
        simp only [decide_eq_decide]
        omega) h'
    refine ⟨fun i o hi1 hi2 hio => ?_, last, h2, fun j hj => by rw [h3 j hj]; simp only [decide_eq_decide]; omega, by simpa [Nat.add_assoc, Nat.add_comm 1] using h4⟩
    by_cases e : i = k
    · subst e
      obtain rfl : o = ok := Option.some.inj (hio.symm.trans hok)
      refine ⟨fun e he hb => ?_, fun j oj hj hoj hno => Region.free_spec hok hf j oj hoj (by omega) ?_ hno⟩
      · have hon := hdep e he hb
        have hlt : e.on < listed.size := by
          rcases Nat.lt_or_ge e.on listed.size with h | h
          · exact h
          · simp [Array.getElem?_eq_none h] at hon
        have := hl e.on (by omega)
        have h5 : listed.getD e.on true = true := by simp [hlt] at hon ⊢; exact hon
        rw [h5] at this
        simpa using this.symm
      · rw [hl j (Array.getElem?_eq_some_iff.1 hoj).1]
        simp
        omega
    · exact h1 i o (by omega) (by omega) hio

/-- Whatever order is drawn: the head in the class, then the tail. -/
theorem any_class_tail {Q : Exit → Act → World → Prop} {a : Act} {w1 : World} {l : List Oper} (n : Nat) (hB : Region.lexTailB .any l.toArray n = true) (hC : C w1)
    (h : wpQuiet P l.toArray C (fun a' => ∀ w', C w' → wpList P l.toArray Q (l.drop n) a' w') (l.take n) a) : wpAny P .any l.toArray Q l.toArray.size (Array.replicate l.toArray.size false) a w1 := by
  unfold Region.lexTailB at hB
  simp only [Bool.and_eq_true, decide_eq_true_eq] at hB
  obtain ⟨⟨⟨⟨hsel, hn⟩, hsink⟩, hchain⟩, hhead⟩ := hB
  generalize hops : l.toArray = ops at *
  have hnl : n < l.length := by rw [← hops] at hn; simpa using hn
  have hlen : (l.take n).length = n := by simp; omega
  have hat : ∀ j : Nat, ops[j]? = l[j]? := fun j => by rw [← hops]; simp
  obtain ⟨hspec, last, hls, hlast, hseq⟩ := head_spec n 0 _ (by simp) (fun j hj => by simp [hj]) hhead
  obtain ⟨vs, _, hval, hLq⟩ := values_of (a0 := a) (l.take n) 0 (fun _ => undef) (fun j hj => by
    rw [hlen] at hj
    rw [Nat.zero_add, hat, List.getElem?_take, if_pos hj]) h
  rw [hlen, Nat.zero_add] at hLq
  simp only [hlen, Nat.zero_add, Nat.zero_le, true_implies] at hval hspec
  -- from whichever state of the head
  have main : ∀ (fuel : Nat) (listed : Array Bool) (w' : World), listed.toList.count false = fuel → HeadInv .any ops n listed → C w' →
      wpAny P .any ops Q fuel listed (pile ops vs (fun k => listed.getD k false) a n) w' := by
    intro fuel
    induction fuel with
    | zero =>
      intro listed w' hc inv hw
      exfalso
      have hlt : n < listed.size := by rw [inv.size]; exact hn
      have h0 := inv.tail n (Nat.le_refl _) hn
      have hmem : false ∈ listed.toList := by
        simp [hlt] at h0
        rw [← h0]
        simp
      have := List.count_pos_iff.2 hmem
      omega
    | succ fuel ih =>
      intro listed w' hc inv hw
      by_cases hall : ∀ k, k < n → listed.getD k true = true
      · -- the head is done: the tail
        have el : listed = last := by
          apply Array.ext (by rw [inv.size, hls])
          intro j h1 h2
          have e1 := hlast j (by rw [← hls]; exact h2)
          rw [Nat.zero_add] at e1
          simp [h2] at e1
          rcases Nat.lt_or_ge j n with h3 | h3
          · have := hall j h3
            simp [h1] at this
            simp [this, e1, h3]
          · have := inv.tail j h3 (by rw [← inv.size]; exact h1)
            simp [h1] at this
            simp [this, e1, h3]
        have hg : (l.drop n).length = ops.size - n := by rw [← hops]; simp
        have hcnt : listed.toList.count false = ops.size - n := by
          have e2 : listed.toList = List.replicate n true ++ List.replicate (ops.size - n) false := by
            apply List.ext_getElem
            · simp [inv.size]; omega
            · intro j h1 h2
              have h1' : j < listed.size := by simpa using h1
              rw [List.getElem_append]
              split
              · rename_i h3
                have h4 : j < n := by simpa using h3
                have := hall j h4
                simp [h1'] at this
                simpa using this
              · rename_i h3
                have h4 : n ≤ j := by simpa using h3
                have := inv.tail j h4 (by rw [← inv.size]; exact h1')
                simp [h1'] at this
                simpa using this
          rw [e2]
          simp [List.count_append, List.count_replicate]
        have ep : pile ops vs (fun k => listed.getD k false) a n = pile ops vs (fun _ => true) a n := pile_eq _ (fun _ _ => rfl) fun k hk => by
          have := hall k hk
          have hlt : k < listed.size := by rw [inv.size]; omega
          simp [hlt] at this ⊢
          exact this
        have := wpAny_of_seq (md := .any) (Q' := Q) (l.drop n) n listed (pile ops vs (fun _ => true) a n) w' (fun j => by rw [hat]; simp [List.getElem?_drop]) (by rw [hg, el]; simpa using hseq) (hLq w' hw)
        rw [hg, ← hcnt, hc] at this
        rw [ep]
        exact this
      · -- one more of the head
        have hex : ∃ k, k < n ∧ listed.getD k true = false := by
          refine Classical.byContradiction fun hno => hall fun k hk => ?_
          cases hb : listed.getD k true
          · exact absurd ⟨k, hk, hb⟩ hno
          · rfl
        have hhd : ∀ i ∈ Region.ready .any ops listed, i < n := fun i hi => by
          obtain ⟨k, hk, hb⟩ := hex
          rcases Nat.lt_or_ge i n with h1 | h1
          · exact h1
          · exact absurd hi (tail_waits hsink hchain hn inv _ k rfl hk hb i h1)
        refine ⟨fun h0 => ?_, fun i hi => ?_⟩
        · exfalso
          have : ∀ k, k < n → listed.getD k true = true := by
            intro k
            induction k using Nat.strongRecOn with
            | _ k ihk =>
              intro hk
              cases hb : listed.getD k true
              · exfalso
                have hks : k < ops.size := by omega
                have hm : k ∈ Region.ready .any ops listed := mem_ready.2 ⟨hb, ops[k], Array.getElem?_eq_getElem hks, fun e he hbd => by
                  have hon := (hspec k _ hk (Array.getElem?_eq_getElem hks)).1 e he hbd
                  have h1 := ihk e.on hon (by omega)
                  have hlt : e.on < listed.size := by rw [inv.size]; omega
                  simp [hlt] at h1 ⊢
                  exact h1⟩
                rw [h0] at hm
                cases hm
              · rfl
          exact hall this
        · have hin := hhd i hi
          obtain ⟨hun, o, ho, hdep⟩ := mem_ready.1 hi
          have hsz : i < listed.size := by rw [inv.size]; omega
          have hself : listed.getD i false = false := getD_both hun
          -- who is listed behind i does not wait for it
          have later : ∀ k ok, i < k → k < n → listed.getD k false = true → ops[k]? = some ok → o.apart ops ok = true := fun k ok h1 h2 h3 hok =>
            (hspec i o hin ho).2 k ok h1 hok fun e he hb hon => by
              have := inv.closed k ok hok h3 e he hb
              rw [hon, hself] at this
              cases this
          have before : ∀ k ok, k < i → listed.getD k false = false → ops[k]? = some ok → ok.apart ops o = true := fun k ok h1 h2 hok =>
            (hspec k ok (by omega) hok).2 i o h1 ho fun e he hb hon => by
              have := hdep e he hb
              rw [hon, h2] at this
              cases this
          have hsame := looks_same (ops := ops) (o := o) (a := pile ops vs (fun k => listed.getD k false) a n) (b := pile ops vs (fun k => decide (k < i)) a n) (fun cs b => Region.noSelect_spec hsel i o cs b ho) (fun t ht => pile_slot n fun k hk hne => by
            have hks : k < ops.size := by omega
            have hok := Array.getElem?_eq_getElem hks
            intro hd
            have hd' : (ops[k]).dst = some t := by simpa [slotOf, hok] using hd
            rcases Nat.lt_trichotomy k i with h1 | h1 | h1
            · have : listed.getD k false = false := by
                cases hb : listed.getD k false
                · rfl
                · exact absurd (by simp [hb, h1]) hne
              exact (Oper.apart_spec (before k _ h1 this hok)).1 t hd' ht
            · subst h1
              exact hne (by simp [hself])
            · have : listed.getD k false = true := by
                cases hb : listed.getD k false
                · exact absurd (by simp [hb]; omega) hne
                · rfl
              exact (Oper.apart_spec (later k _ h1 hk this hok)).2.2 t hd' ht)
          have hy : YieldsIn P ops C o (vs i) (pile ops vs (fun k => listed.getD k false) a n) := by
            refine YieldsIn.of_same (a := pile ops vs (fun k => decide (k < i)) a n) ?_ hsame.1 hsame.2
            rw [pile_below n (by omega)]
            exact hval i o hin ho
          have hdst : slotOf ops i = o.dst := by simp [slotOf, ho]
          have hadd : pile ops vs (fun k => (listed.setIfInBounds i true).getD k false) a n = (pile ops vs (fun k => listed.getD k false) a n).put o.dst (vs i) := by
            rw [← hdst, ← pile_add n hself hin fun k h1 h2 h3 d hd hk => ?_]
            · refine pile_eq _ (fun _ _ => rfl) fun k hk => ?_
              by_cases e : k = i
              · subst e
                simp [hsz]
              · rw [getD_set_ne false (Ne.symm e)]
                simp [e]
            · have hks : k < ops.size := by omega
              have hok := Array.getElem?_eq_getElem hks
              exact (Oper.apart_spec (later k _ h1 h2 h3 hok)).2.1 d (by rw [← hdst]; exact hd) (by simpa [slotOf, hok] using hk)
          have hcount : (listed.setIfInBounds i true).toList.count false = fuel := by
            rw [Array.toList_setIfInBounds, List.count_set (by simpa using hsz)]
            have hf : listed.toList[i]'(by simpa using hsz) = false := by simpa [hsz] using hun
            rw [hf, hc]
            simp
          refine wpOp_of_qOp hw (fun a' w'' hw'' ha => ?_) (hy.qOp ho (K := fun a' => a' = (pile ops vs (fun k => listed.getD k false) a n).put o.dst (vs i)) rfl)
          subst ha
          rw [← hadd]
          exact ih _ _ hcount (inv.set hi hin) hw''
  have inv0 : HeadInv .any ops n (Array.replicate ops.size false) :=
    ⟨by simp, fun j oj _ hl => (by rw [getD_replicate_false] at hl; cases hl), fun t _ ht => getD_in (by simpa using ht) (getD_replicate_false _ _)⟩
  have := main ops.size _ _ (by simp) inv0 hC
  have e0 : pile ops vs (fun k => (Array.replicate ops.size false).getD k false) a n = a := by
    have hS : (fun k => (Array.replicate ops.size false).getD k false) = fun _ => false := funext fun k => getD_replicate_false _ k
    rw [hS]
    clear this hhead hspec hval hLq main inv0
    have : ∀ m, pile ops vs (fun _ => false) a m = a := by
      intro m
      induction m with
      | zero => rfl
      | succ m ihm => simpa [pile] using ihm
    exact this n
  rwa [e0] at this
theorem region_class_tail {id : Nat} {Q : Exit → Act → World → Prop} {a : Act} {w : World} {l : List Oper} (n : Nat) (hm : P.follows .mixedOrders = true) (hB : Region.lexTailB .any l.toArray n = true) (hC : C { w with drawn := w.drawn + 1 })
    (h : wpQuiet P l.toArray C (fun a' => ∀ w', C w' → wpList P l.toArray Q (l.drop n) a' w') (l.take n) a) : (Code.region id l.toArray true).wp P Q a w :=
  wp_region_any hm (any_class_tail n hB hC h)
/-- Reads, and calls that only read, ahead of the tail. -/
theorem region_qtail {id : Nat} {Q : Exit → Act → World → Prop} {a : Act} {w : World} {l : List Oper} (n : Nat) (hm : P.follows .mixedOrders = true) (hB : Region.lexTailB .any l.toArray n = true)
    (h : wpQuiet P l.toArray (fun w' => ∃ m, w' = w.drewN m) (fun a' => ∀ w', (∃ m, w' = w.drewN m) → wpList P l.toArray Q (l.drop n) a' w') (l.take n) a) : (Code.region id l.toArray true).wp P Q a w :=
  region_class_tail (C := fun w' => ∃ m, w' = w.drewN m) n hm hB ⟨1, rfl⟩ h
end
end Go.Proofs.Ytangblcfdboghaa
