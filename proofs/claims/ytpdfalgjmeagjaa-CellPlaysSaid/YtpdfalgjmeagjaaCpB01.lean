/-
  Words for memory that all proofs of this seat share: slices that read as a list of cells, slices in new memory, and how both last behind other calls. No function of the program is named here.
-/
import Derived.WalkKit
import Derived.WalkSpells
import Derived.WalkLawsBesides
import Derived.Laws.CopyOwn
import Derived.Deep.QuietTactic
import Derived.BigQuiet
import Derived.Lib.Hide
import Derived.Orders
import Derived.StillTail
import Derived.KernelRfl
import Derived.Laws.Rows
import Derived.Laws.CopyRow
import Derived.OwnWalk
import Derived.StillTailTactics
import Derived.Test.YtpdfalgjmeagjaaProg
namespace Go.Proofs.Ytpdfalgjmeagjaa
open Go.RowKit

/-- The cells of bytes, and of words of 32 bits. -/
abbrev cb (l : List UInt8) : List Value := l.map fun c => .int .u8 (c.toNat : Int)
abbrev cw (l : List UInt32) : List Value := l.map fun c => .int .u32 (c.toNat : Int)

/-- From this address on the cells read so, below block B; of an empty list nothing is asked. -/
def Sees (w : World) (B : Nat) (A : Option Addr) (xs : List Value) : Prop :=
  0 < xs.length → ∃ b o, A = some ⟨b, o, none⟩ ∧ b < B ∧ ∀ j u, xs[j]? = some u → w.cell? ⟨b, o + j, none⟩ = some u

/-- A slice of new memory (blocks from base on), of elements of type e (one cell each), with room of its own. -/
def Fresh (base : Nat) (e : TypeId) (w : World) (A : Option Addr) (n c : Nat) (xs : List Value) : Prop :=
  w.ownsRow base e 1 (.slice A n c) n xs

section
variable {w w' : World} {B B' base : Nat} {A : Option Addr} {xs : List Value} {e : TypeId} {n c : Nat}

theorem Sees.nil : Sees w B A [] := fun h => absurd h (by simp)
theorem Sees.at_ {k : Nat} (h : Sees w B A xs) (hk : k < xs.length) : ∃ b o, A = some ⟨b, o, none⟩ ∧ b < B ∧ w.cell? ⟨b, o + k, none⟩ = some xs[k] := by
  obtain ⟨b, o, e, hb, hc⟩ := h (by omega)
  exact ⟨b, o, e, hb, hc k _ (List.getElem?_eq_getElem hk)⟩
theorem Sees.keep (h : Sees w B A xs) (hk : ∀ p : Addr, p.block < B → w'.cell? p = w.cell? p) : Sees w' B A xs := fun hn => by
  obtain ⟨b, o, e, hb, hc⟩ := h hn
  exact ⟨b, o, e, hb, fun j u hu => (hk _ hb).trans (hc j u hu)⟩
theorem Sees.more (h : Sees w B A xs) (hB : B ≤ B') : Sees w B' A xs := fun hn => by
  obtain ⟨b, o, e, hb, hc⟩ := h hn
  exact ⟨b, o, e, by omega, hc⟩
theorem Sees.below (h : Sees w B A xs) (hb : Below B w w') : Sees w' B A xs := h.keep fun _ hp => hb.cell hp
theorem Sees.step (h : Sees w w.heap.size A xs) (hb : Below w.heap.size w w') : Sees w' w'.heap.size A xs := (h.below hb).more hb.size
theorem Sees.drop_ (h : Sees w B (some ⟨B', c, none⟩) xs) (k : Nat) : Sees w B (some ⟨B', c + k, none⟩) (xs.drop k) := fun hn => by
  obtain ⟨b, o, e, hb, hc⟩ := h (by simp at hn; omega)
  obtain ⟨rfl, rfl⟩ : b = B' ∧ o = c := by simpa [eq_comm] using e
  refine ⟨b, o + k, rfl, hb, fun j u hu => ?_⟩
  rw [Nat.add_assoc]
  exact hc _ u (by rw [← hu, List.getElem?_drop])
theorem Sees.take_ (h : Sees w B A xs) (k : Nat) : Sees w B A (xs.take k) := fun hn => by
  obtain ⟨b, o, e, hb, hc⟩ := h (by simp at hn; omega)
  refine ⟨b, o, e, hb, fun j u hu => hc j u ?_⟩
  rw [List.getElem?_take] at hu
  split at hu
  · exact hu
  · cases hu

theorem Fresh.len (h : Fresh base e w A n c xs) : xs.length = n := by simpa using h.1
theorem Fresh.cap (h : Fresh base e w A n c xs) : n ≤ c ∧ c ≤ maxLen := by
  rcases h.2 with ⟨hv, rfl⟩ | ⟨g, cap, cur, hv, _, _, hn, hm, _⟩
  · simp at hv
    obtain ⟨_, rfl⟩ := hv
    exact ⟨Nat.le_refl _, Nat.zero_le _⟩
  · simp at hv
    obtain ⟨_, rfl⟩ := hv
    exact ⟨hn, hm⟩
theorem Fresh.sees (h : Fresh base e w A n c xs) : Sees w w.heap.size A xs := fun hn => by
  rcases h.2 with ⟨_, rfl⟩ | ⟨g, cap, cur, hv, hb, hg, _, _, _, ht⟩
  · have := h.len; omega
  · simp at hv
    obtain ⟨rfl, rfl⟩ := hv
    refine ⟨g, 0, rfl, (Array.getElem?_eq_some_iff.1 hg).1, fun j u hu => ?_⟩
    rw [Nat.zero_add, cell_of_row w g j cur e (0, 0) hg]
    rw [← ht, List.getElem?_take] at hu
    split at hu
    · simpa using hu
    · cases hu
/-- New memory stays as it is behind a call that writes nothing that was there. -/
theorem Fresh.below (h : Fresh base e w A n c xs) (hb : Below w.heap.size w w') : Fresh base e w' A n c xs := by
  refine ⟨h.1, ?_⟩
  rcases h.2 with hn | ⟨g, cap, cur, hv, hbg, hg, rest⟩
  · exact .inl hn
  · exact .inr ⟨g, cap, cur, hv, hbg, by rw [hb.block g (Array.getElem?_eq_some_iff.1 hg).1]; exact hg, rest⟩
theorem Fresh.lower {base' : Nat} (h : Fresh base e w A n c xs) (hb : base' ≤ base) : Fresh base' e w A n c xs := by
  refine ⟨h.1, ?_⟩
  rcases h.2 with hn | ⟨g, cap, cur, hv, hbg, rest⟩
  · exact .inl hn
  · exact .inr ⟨g, cap, cur, hv, by omega, rest⟩
/-- A slice without spare room that was made here is a whole block. -/
theorem Fresh.block {g : Nat} (h : Fresh base e w (some ⟨g, 0, none⟩) n n xs) : w.heap[g]? = some (.cells xs.toArray e (0, 0)) ∧ base ≤ g := by
  rcases h.2 with ⟨hv, _⟩ | ⟨g', cap, cur, hv, hb, hg, _, _, hs, ht⟩
  · simp at hv
  · simp only [Value.slice.injEq, Option.some.injEq, Addr.mk.injEq, and_true, true_and] at hv
    obtain ⟨rfl, rfl⟩ := hv
    refine ⟨?_, hb⟩
    have e1 : cur.toList = xs := by
      rw [← ht]
      exact (List.take_of_length_le (by simp [hs])).symm
    rw [hg, ← e1]
theorem Fresh.of_block {g : Nat} (hg : w.heap[g]? = some (.cells xs.toArray e (0, 0))) (hb : base ≤ g) (hl : xs.length = n) (hm : n ≤ maxLen) : Fresh base e w (some ⟨g, 0, none⟩) n n xs :=
  ⟨by simpa using hl, .inr ⟨g, n, xs.toArray, rfl, hb, hg, Nat.le_refl _, hm, by simpa using hl, by simp [← hl]⟩⟩
end

/-- What lies below stays below, one call behind the other. -/
theorem Below.then_ {a b c : World} (h : Below a.heap.size a b) (k : Below b.heap.size b c) : Below a.heap.size a c := h.trans (k.mono h.size)

theorem cb_one (l : List UInt8) : ∀ u ∈ cb l, u.oneCell' = true := by
  intro u hu
  obtain ⟨_, _, rfl⟩ := List.mem_map.1 hu
  rfl
theorem cw_one (l : List UInt32) : ∀ u ∈ cw l, u.oneCell' = true := by
  intro u hu
  obtain ⟨_, _, rfl⟩ := List.mem_map.1 hu
  rfl
theorem get_cb (l : List UInt8) (k : Nat) (h : k < l.length) : (cb l)[k]? = some (.int .u8 (l[k].toNat : Int)) := by simp [h]
/-- A byte, and a word, of what a slice reads as, by its place. -/
theorem Sees.byte {w : World} {B : Nat} {A : Option Addr} {l : List UInt8} {n k : Nat} (h : Sees w B A (cb l)) (hl : l.length = n) (hk : k < n) :
    ∃ b o, A = some ⟨b, o, none⟩ ∧ b < B ∧ ∃ c : UInt8, Hid (l[k]? = some c) ∧ c.toNat < 256 ∧ w.cell? ⟨b, o + k, none⟩ = some (.int .u8 (c.toNat : Int)) := by
  obtain ⟨b, o, e, hb, hc⟩ := h.at_ (k := k) (by simp; omega)
  exact ⟨b, o, e, hb, l[k]'(by omega), List.getElem?_eq_getElem (by omega), UInt8.toNat_lt _, by simpa using hc⟩
theorem Sees.word {w : World} {B : Nat} {A : Option Addr} {l : List UInt32} {n k : Nat} (h : Sees w B A (cw l)) (hl : l.length = n) (hk : k < n) :
    ∃ b o, A = some ⟨b, o, none⟩ ∧ b < B ∧ ∃ c : UInt32, Hid (l[k]? = some c) ∧ c.toNat < 4294967296 ∧ w.cell? ⟨b, o + k, none⟩ = some (.int .u32 (c.toNat : Int)) := by
  obtain ⟨b, o, e, hb, hc⟩ := h.at_ (k := k) (by simp; omega)
  exact ⟨b, o, e, hb, l[k]'(by omega), List.getElem?_eq_getElem (by omega), UInt32.toNat_lt _, by simpa using hc⟩

theorem ret_int {k : IntKind} {a b : Int} (h : a = b) : Ending.returned (.int k a) = .returned (.int k b) := by rw [h]
theorem ret_bool {a b : Bool} (h : a = b) : Ending.returned (.bool a) = .returned (.bool b) := by rw [h]
theorem shr_nat (n k : Nat) : (n : Int) / 2 ^ k = ((n / 2 ^ k : Nat) : Int) := by simp
end Go.Proofs.Ytpdfalgjmeagjaa

/-
  A law of our own for a statement whose order is open: where each operation yields a value of a fact that lasts, and writes nothing that was there, every order comes to the same facts.
-/
namespace Go.Proofs.Ytpdfalgjmeagjaa
open Go.RowKit
set_option linter.unusedVariables false

/-- Behind the operations that are listed: nothing that was there has turned, and each listed operation's slot holds a value of which its own fact is known, in the world as it now is. -/
structure Kept (ops : Array Oper) (pr : Nat → Value → World → Prop) (a0 : Act) (w0 : World) (listed : Array Bool) (a : Act) (w : World) : Prop where
  lsize : listed.size = ops.size
  below : Below w0.heap.size w0 w
  defers : a.defers = a0.defers
  size : a.tmps.size = a0.tmps.size
  old : ∀ t, (∀ (j : Nat) (o : Oper), ops[j]? = some o → listed.getD j false = true → o.dst ≠ some t) → a.tmps[t]? = a0.tmps[t]?
  new : ∀ (j : Nat) (o : Oper) (t : Tmp), ops[j]? = some o → o.dst = some t → listed.getD j false = true → ∃ v, a.tmps[t]? = some v ∧ pr j v w

/-- One operation yields a value of its own fact, and writes nothing that was there. -/
def StepOk (P : Program) (ops : Array Oper) (Q : Exit → Act → World → Prop) (pr : Nat → Value → World → Prop) (i : Nat) (o : Oper) (a : Act) (w : World) : Prop :=
  if Region.wanted o (yielded ops a.tmps) = true then o.wp P a w (fun a' w' => ∃ v, a' = a.put o.dst v ∧ pr i v w' ∧ Below w.heap.size w w') Q else pr i undef w

/-- Each slot is written once, within the frame, and each operation waits for earlier ones alone. -/
def slotsOk (ops : Array Oper) (n : Nat) : Bool :=
  (List.range ops.size).all fun i => match ops[i]? with
    | none => true
    | some o => (match o.dst with | none => true | some t => decide (t < n) && (List.range i).all fun j => ((ops[j]?).bind (·.dst)) != some t) && o.after.all fun e => decide (e.on < i)

section
variable {P : Program} {ops : Array Oper} {Q : Exit → Act → World → Prop} {pr : Nat → Value → World → Prop} {a0 : Act} {w0 : World}

theorem slots_at {n i : Nat} {o : Oper} (h : slotsOk ops n = true) (hi : ops[i]? = some o) :
    (∀ t, o.dst = some t → t < n ∧ ∀ j oj, j < i → ops[j]? = some oj → oj.dst ≠ some t) ∧ ∀ e ∈ o.after, e.on < i := by
  have hlt : i < ops.size := (Array.getElem?_eq_some_iff.1 hi).1
  have h1 := List.all_eq_true.1 h i (List.mem_range.2 hlt)
  simp only [hi, Bool.and_eq_true] at h1
  refine ⟨fun t ht => ?_, fun e he => ?_⟩
  · have h2 := h1.1
    simp only [ht, Bool.and_eq_true, decide_eq_true_eq] at h2
    refine ⟨h2.1, fun j oj hj hoj hd => ?_⟩
    have h3 := List.all_eq_true.1 h2.2 j (List.mem_range.2 hj)
    simp [hoj, hd] at h3
  · have h2 := h1.2
    rw [Array.all_eq_true_iff_forall_mem] at h2
    simpa using h2 e he
theorem slots_ne {n i j : Nat} {o oj : Oper} {t : Tmp} (h : slotsOk ops n = true) (hi : ops[i]? = some o) (hj : ops[j]? = some oj) (hne : i ≠ j) (ht : o.dst = some t) : oj.dst ≠ some t := by
  intro htj
  rcases Nat.lt_or_gt_of_ne hne with hlt | hgt
  · exact ((slots_at h hj).1 t htj).2 i o hlt hi ht
  · exact ((slots_at h hi).1 t ht).2 j oj hgt hj htj

theorem getD_listed {listed : Array Bool} {i j : Nat} (h : (listed.setIfInBounds i true).getD j false = true) : j = i ∨ listed.getD j false = true := by
  by_cases e : j = i
  · exact .inl e
  · right
    simpa [Array.getElem?_setIfInBounds, Ne.symm e] using h

theorem Kept.put {listed : Array Bool} {a : Act} {w w' : World} {i : Nat} {o : Oper} {v : Value} (hs : slotsOk ops a0.tmps.size = true) (stab : ∀ j v w w', Below w.heap.size w w' → pr j v w → pr j v w')
    (h : Kept ops pr a0 w0 listed a w) (hi : ops[i]? = some o) (hv : pr i v w') (hb : Below w.heap.size w w') : Kept ops pr a0 w0 (listed.setIfInBounds i true) (a.put o.dst v) w' := by
  refine ⟨by simpa using h.lsize, Below.then_ h.below hb, ?_, ?_, fun t ht => ?_, fun j oj t hj hd hl => ?_⟩
  · cases hd : o.dst <;> simpa [Act.put, hd] using h.defers
  · cases hd : o.dst <;> simpa [Act.put, hd] using h.size
  · have hlt : i < listed.size := by rw [h.lsize]; exact (Array.getElem?_eq_some_iff.1 hi).1
    have hne := ht i o hi (by simp [hlt])
    have ht' : ∀ (j : Nat) (oj : Oper), ops[j]? = some oj → listed.getD j false = true → oj.dst ≠ some t := fun j oj hj hlj => ht j oj hj (by
      by_cases e : i = j
      · subst e; simp [hlt]
      · have hjl : j < listed.size := by rw [h.lsize]; exact (Array.getElem?_eq_some_iff.1 hj).1
        simpa [Array.getElem?_setIfInBounds, e] using hlj)
    cases hd : o.dst with
    | none => simpa [Act.put] using h.old t ht'
    | some d =>
      have : d ≠ t := fun e => hne (by rw [hd, e])
      simpa [Act.put, Array.getElem?_setIfInBounds, this] using h.old t ht'
  · by_cases e : j = i
    · subst e
      obtain rfl : oj = o := Option.some.inj (hj.symm.trans hi)
      have hlt := ((slots_at hs hi).1 t hd).1
      refine ⟨v, ?_, hv⟩
      simp [Act.put, hd, h.size, hlt]
    · obtain ⟨u, hu, hp⟩ := h.new j oj t hj hd ((getD_listed hl).resolve_left e)
      refine ⟨u, ?_, stab j u w w' hb hp⟩
      cases hd' : o.dst with
      | none => simpa [Act.put] using hu
      | some d =>
        have : d ≠ t := fun e' => slots_ne hs hj hi e hd (by rw [hd', e'])
        simpa [Act.put, Array.getElem?_setIfInBounds, this] using hu

end
def AllSteps (F : Nat → Oper → Prop) : Nat → List Oper → Prop
  | _, [] => True
  | i, o :: r => F i o ∧ AllSteps F (i + 1) r
theorem allSteps_get {F : Nat → Oper → Prop} : ∀ (l : List Oper) (k : Nat), AllSteps F k l → ∀ i o, l[i]? = some o → F (k + i) o
  | [], _, _, i, o, h => by simp at h
  | x :: l, k, hs, i, o, h => by
    rcases i with _ | i
    · simp at h
      subst h
      exact hs.1
    · have := allSteps_get l (k + 1) hs.2 i o (by simpa using h)
      rwa [show k + 1 + i = k + (i + 1) from by omega] at this

section
variable {P : Program} {ops : Array Oper} {Q : Exit → Act → World → Prop} {pr : Nat → Value → World → Prop} {a0 a : Act} {w0 w : World} {listed : Array Bool} {o : Oper} {i : Nat}
theorem Kept.ev_old (hk : Kept ops pr a0 w0 listed a w) (t : Tmp) (h : (ops.all fun o => o.dst != some t) = true) : a.eval (.tmp t) = a0.eval (.tmp t) := by
  have := hk.old t (fun j oj hj _ hd => by
    rw [Array.all_eq_true_iff_forall_mem] at h
    have := h oj (Array.mem_of_getElem? hj)
    simp [hd] at this)
  simp [Act.eval, Array.getD_eq_getD_getElem?, this]
theorem Kept.ev_new (hk : Kept ops pr a0 w0 listed a w) (hd : ∀ e ∈ o.after, Region.binds .any e = true → listed.getD e.on false = true) (j : Nat) (t : Tmp)
    (hj : (o.after.any fun e => e.on == j && Region.binds .any e) = true) (ht : ((ops[j]?).bind (·.dst)) = some t) : ∃ v, a.eval (.tmp t) = v ∧ a.tmps[t]? = some v ∧ pr j v w := by
  obtain ⟨e, he, hb⟩ := Array.any_eq_true'.1 hj
  simp only [Bool.and_eq_true, beq_iff_eq] at hb
  obtain ⟨oj, hoj, hdj⟩ := Option.bind_eq_some_iff.1 ht
  have hl := hd e he hb.2
  rw [hb.1] at hl
  obtain ⟨v, hv, hp⟩ := hk.new j oj t hoj hdj hl
  exact ⟨v, by simp [Act.eval, Array.getD_eq_getD_getElem?, hv], hv, hp⟩
theorem stepOk_value {v : Value} (hg : o.guard = none) (hrun : (execOp a.eval o).run P w = .ok (.value v) w) (hp : pr i v w) : StepOk P ops Q pr i o a w := by
  have hw : Region.wanted o (yielded ops a.tmps) = true := by simp [Region.wanted, hg]
  unfold StepOk
  rw [if_pos hw]
  unfold Oper.wp
  rw [hrun]
  exact ⟨v, rfl, hp, Below.refl _ _⟩
theorem stepOk_run {v : Value} {w' : World} (hg : o.guard = none) (hrun : (execOp a.eval o).run P w = .ok (.value v) w') (hp : pr i v w') (hb : Below w.heap.size w w') : StepOk P ops Q pr i o a w := by
  have hw : Region.wanted o (yielded ops a.tmps) = true := by simp [Region.wanted, hg]
  unfold StepOk
  rw [if_pos hw]
  unfold Oper.wp
  rw [hrun]
  exact ⟨v, rfl, hp, hb⟩
theorem stepOk_enter {f : FuncId} {args : Array Value} (hg : Region.wanted o (yielded ops a.tmps) = true) (hrun : (execOp a.eval o).run P w = .ok (.enter f args) w)
    (hc : Calls P f args w fun e w' => ∃ v, e = .returned v ∧ pr i v w' ∧ Below w.heap.size w w') : StepOk P ops Q pr i o a w := by
  unfold StepOk
  rw [if_pos hg]
  unfold Oper.wp
  rw [hrun]
  refine hc.mono ?_
  rintro e w' ⟨v, rfl, hp, hb⟩
  exact ⟨v, rfl, hp, hb⟩
theorem wanted_at {j : Nat} {b : Bool} {t : Tmp} (hg : o.guard = some (j, b)) (ht : ((ops[j]?).bind (·.dst)) = some t) (hv : a.tmps[t]? = some (.bool b)) : Region.wanted o (yielded ops a.tmps) = true := by
  simp [Region.wanted, hg, yielded, ht, hv]
end
/-- A frame in which each of these operations' slots holds a value of its own fact, and all others what they held. -/
def PutsTo (pr : Nat → Value → World → Prop) (w : World) : Nat → List Oper → Act → Act → Prop
  | _, [], a0, a => a = a0
  | i, o :: r, a0, a => match o.dst with
    | none => PutsTo pr w (i + 1) r a0 a
    | some t => ∃ v, pr i v w ∧ PutsTo pr w (i + 1) r (a0.put (some t) v) a
theorem putsTo_of {pr : Nat → Value → World → Prop} {w : World} {a : Act} : ∀ (l : List Oper) (i : Nat) (acc : Act), acc.tmps.size = a.tmps.size → acc.defers = a.defers →
    (∀ t, (∀ o ∈ l, o.dst ≠ some t) → a.tmps[t]? = acc.tmps[t]?) → (∀ (j : Nat) (o : Oper) (t : Tmp), l[j]? = some o → o.dst = some t → ∃ v, a.tmps[t]? = some v ∧ pr (i + j) v w) → PutsTo pr w i l acc a
  | [], i, acc, hs, hd, ho, _ => by
    show a = acc
    have e : a.tmps = acc.tmps := by
      apply Array.ext_getElem?
      intro t
      exact ho t (by simp)
    cases a
    cases acc
    simp_all
  | o :: l, i, acc, hs, hd, ho, hn => by
    unfold PutsTo
    have hn' : ∀ (j : Nat) (o : Oper) (t : Tmp), l[j]? = some o → o.dst = some t → ∃ v, a.tmps[t]? = some v ∧ pr (i + 1 + j) v w := fun j oj t hj ht => by
      have := hn (j + 1) oj t (by simpa using hj) ht
      rwa [show i + (j + 1) = i + 1 + j from by omega] at this
    cases hdst : o.dst with
    | none => exact putsTo_of l (i + 1) acc hs hd (fun t ht => ho t (fun o' ho' => by
        rcases List.mem_cons.1 ho' with rfl | h
        · rw [hdst]; simp
        · exact ht o' h)) hn'
    | some t =>
      obtain ⟨v, hv, hp⟩ := hn 0 o t rfl hdst
      refine ⟨v, hp, putsTo_of l (i + 1) _ (by simpa [Act.put] using hs) (by simpa [Act.put] using hd) (fun t' ht' => ?_) hn'⟩
      by_cases e : t = t'
      · subst e
        have hlt : t < acc.tmps.size := by rw [hs]; exact (Array.getElem?_eq_some_iff.1 hv).1
        rw [hv]
        simp [Act.put, hlt]
      · rw [ho t' (fun o' ho' => by
          rcases List.mem_cons.1 ho' with rfl | h
          · rw [hdst]; simpa using e
          · exact ht' o' h)]
        simp [Act.put, e]
theorem Kept.puts {pr : Nat → Value → World → Prop} {a0 a : Act} {w0 w : World} {listed : Array Bool} {l : List Oper} (n : Nat) (hk : Kept l.toArray pr a0 w0 listed a w) (hall : ∀ j, j < n → listed.getD j false = true) (htail : ∀ j, n ≤ j → listed.getD j false = false) : PutsTo pr w 0 (l.take n) a0 a := by
  refine putsTo_of (l.take n) 0 a0 hk.size.symm hk.defers.symm (fun t ht => hk.old t (fun j o hj hl hd => ?_)) (fun j o t hj ht => ?_)
  · have hjn : j < n := by
      rcases Nat.lt_or_ge j n with h | h
      · exact h
      · rw [htail j h] at hl; cases hl
    have hmem : o ∈ l.take n := by
      have hj' : (l.take n)[j]? = some o := by
        rw [List.getElem?_take, if_pos hjn]
        simpa using hj
      exact List.mem_of_getElem? hj'
    exact ht o hmem hd
  · have hjn : j < n := by
      have := (List.getElem?_eq_some_iff.1 hj).1
      simp at this
      omega
    have hj' : l.toArray[j]? = some o := by
      rw [List.getElem?_take, if_pos hjn] at hj
      simpa using hj
    have := hk.new j o t hj' ht (hall j hjn)
    rwa [Nat.zero_add]

section
variable {P : Program} {ops : Array Oper} {Q : Exit → Act → World → Prop} {pr : Nat → Value → World → Prop} {a0 : Act} {w0 : World}
/-- The first n are listed, and no other. -/
def headArr (size n : Nat) : Array Bool := ((List.range size).map fun j => decide (j < n)).toArray
theorem listed_head {n : Nat} {listed : Array Bool} (inv : HeadInv .any ops n listed) (h : ∀ j, j < n → listed.getD j false = true) : listed = headArr ops.size n := by
  apply Array.ext
  · simp [headArr, inv.size]
  · intro i h1 h2
    have hi : i < ops.size := by rw [← inv.size]; exact h1
    have e : (headArr ops.size n)[i] = decide (i < n) := by simp [headArr]
    rw [e]
    by_cases hn : i < n
    · have := h i hn
      simp [h1] at this
      simp [hn, this]
    · have := inv.tail i (by omega) hi
      simp [h1] at this
      simp [hn, this]
theorem count_set_true {listed : Array Bool} {i f : Nat} (h0 : listed.getD i true = false) (hlt : i < listed.size) (hc : listed.toList.count false = f + 1) : (listed.setIfInBounds i true).toList.count false = f := by
  rw [Array.toList_setIfInBounds, List.count_set (by simpa using hlt)]
  have hf : listed.toList[i]'(by simpa using hlt) = false := by simpa [hlt] using h0
  rw [hf]
  simp only [beq_self_eq_true, if_true]
  show _ - 1 + 0 = f
  omega
theorem wpAny_keptT {l : List Oper} (hl : ops = l.toArray) (n : Nat) (hs : slotsOk ops a0.tmps.size = true) (stab : ∀ j v w w', Below w.heap.size w w' → pr j v w → pr j v w')
    (hsink : Region.sinkB .any ops n = true) (hchain : Region.chainB .any ops n = true) (hn : n < ops.size) (hseq : Region.seqB .any ops (ops.size - n) n (headArr ops.size n) = true)
    (step : ∀ i o, i < n → ops[i]? = some o → ∀ listed a w, Kept ops pr a0 w0 listed a w → (∀ e ∈ o.after, Region.binds .any e = true → listed.getD e.on false = true) → StepOk P ops Q pr i o a w)
    (fin : ∀ listed a w, Kept ops pr a0 w0 listed a w → (∀ j, j < n → listed.getD j false = true) → (∀ j, n ≤ j → listed.getD j false = false) → wpList P ops Q (l.drop n) a w) :
    ∀ (fuel : Nat) (listed : Array Bool) (a : Act) (w : World), Kept ops pr a0 w0 listed a w → HeadInv .any ops n listed → listed.toList.count false = fuel → wpAny P .any ops Q fuel listed a w := by
  have done : ∀ (fuel : Nat) (listed : Array Bool) (a : Act) (w : World), Kept ops pr a0 w0 listed a w → HeadInv .any ops n listed → listed.toList.count false = fuel → (∀ j, j < n → listed.getD j false = true) → wpAny P .any ops Q fuel listed a w := by
    intro fuel listed a w hk inv hc hall
    have e := listed_head inv hall
    have hlen : (l.drop n).length = ops.size - n := by rw [hl]; simp
    have hfuel : fuel = (l.drop n).length := by
      rw [hlen, ← hc, e]
      have : ∀ m, ((headArr m n).toList.count false) = m - n := by
        intro m
        induction m with
        | zero => simp [headArr]
        | succ m ih =>
          have e2 : (headArr (m + 1) n).toList = (headArr m n).toList ++ [decide (m < n)] := by simp [headArr, List.range_succ]
          rw [e2, List.count_append, ih]
          by_cases hmn : m < n
          · simp [hmn]
            omega
          · simp [hmn]
            omega
      exact this _
    rw [hfuel]
    refine wpAny_of_seq (md := .any) (l.drop n) n listed a w (fun j => by rw [hl]; simp [List.getElem?_drop]) ?_ (fin listed a w hk hall (fun j hj => by
      rcases Nat.lt_or_ge j ops.size with h | h
      · exact getD_both (inv.tail j hj h)
      · simp [Array.getElem?_eq_none (show listed.size ≤ j by rw [inv.size]; exact h)]))
    rw [hlen, e]
    exact hseq
  intro fuel
  induction fuel with
  | zero =>
    intro listed a w hk inv hc
    refine done 0 listed a w hk inv hc fun j hj => ?_
    have hjl : j < listed.size := by rw [inv.size]; omega
    cases hb : listed.getD j false
    · exfalso
      have hf : listed[j] = false := by simpa [hjl] using hb
      have hmem : false ∈ listed.toList := by rw [← hf]; simp
      have := List.count_pos_iff.2 hmem
      omega
    · rfl
  | succ fuel ih =>
    intro listed a w hk inv hc
    by_cases hall : ∀ j, j < n → listed.getD j false = true
    · exact done _ listed a w hk inv hc hall
    · obtain ⟨j0, hj0⟩ := Classical.not_forall.1 hall
      obtain ⟨hj0n, hj0f⟩ := Classical.not_imp.1 hj0
      have hj0f' : listed.getD j0 false = false := by simpa using hj0f
      have hun : listed.getD j0 true = false := getD_in (by rw [inv.size]; omega) hj0f'
      -- a ready one
      have hex : ∀ d, d < n → listed.getD d true = false → ∃ i, i ∈ Region.ready .any ops listed := by
        intro d
        induction d using Nat.strongRecOn with
        | _ d ihd =>
          intro hd hdu
          have hdo : d < ops.size := by omega
          by_cases hr : ∀ e ∈ ops[d].after, Region.binds .any e = true → listed.getD e.on false = true
          · exact ⟨d, mem_ready.2 ⟨hdu, ops[d], Array.getElem?_eq_getElem hdo, hr⟩⟩
          · obtain ⟨e, he⟩ := Classical.not_forall.1 hr
            obtain ⟨he1, he2⟩ := Classical.not_imp.1 he
            obtain ⟨he3, he4⟩ := Classical.not_imp.1 he2
            have hon := (slots_at hs (Array.getElem?_eq_getElem hdo)).2 e he1
            exact ihd e.on hon (by omega) (getD_in (by rw [inv.size]; omega) (by simpa using he4))
      obtain ⟨i0, hi0⟩ := hex j0 hj0n hun
      refine ⟨fun h => (by rw [h] at hi0; cases hi0), fun i hi => ?_⟩
      have hin : i < n := by
        rcases Nat.lt_or_ge i n with h | h
        · exact h
        · exact absurd hi (tail_waits hsink hchain hn inv _ j0 rfl hj0n hun i h)
      obtain ⟨h0, o, ho, hdep⟩ := mem_ready.1 hi
      have hlt : i < listed.size := by rw [hk.lsize]; exact (Array.getElem?_eq_some_iff.1 ho).1
      have hcount := count_set_true h0 hlt hc
      have hst := step i o hin ho listed a w hk hdep
      unfold StepOk at hst
      unfold wpOp
      simp only [ho]
      split
      · rename_i hw
        rw [if_pos hw] at hst
        refine .inl (Oper.wp_mono ?_ hst)
        rintro a' w' ⟨v, rfl, hv, hb⟩
        exact ih _ _ _ (hk.put hs stab ho hv hb) (inv.set hi hin) hcount
      · rename_i hw
        rw [if_neg hw] at hst
        exact ih _ _ _ (hk.put hs stab ho hst (Below.refl _ _)) (inv.set hi hin) hcount

def tailOk (l : List Oper) (n : Nat) : Bool := Region.sinkB .any l.toArray n && Region.chainB .any l.toArray n && decide (n < l.toArray.size) && Region.seqB .any l.toArray (l.toArray.size - n) n (headArr l.toArray.size n)
end
/-- A region that draws its order: the first n operations each yield a value of a fact that lasts, the others come behind them in one order. -/
theorem region_all_tail {P : Program} {Q : Exit → Act → World → Prop} {a0 : Act} {id : Nat} {w : World} {l : List Oper} (n : Nat) (pr : Nat → Value → World → Prop) (hm : P.follows .mixedOrders = true) (hs : slotsOk l.toArray a0.tmps.size = true) (ht : tailOk l n = true) (stab : ∀ j v w w', Below w.heap.size w w' → pr j v w → pr j v w')
    (step : ∀ w0, Below w.heap.size w w0 → AllSteps (fun i o => ∀ listed a w', Kept l.toArray pr a0 w0 listed a w' → (∀ e ∈ o.after, Region.binds .any e = true → listed.getD e.on false = true) → StepOk P l.toArray Q pr i o a w') 0 (l.take n))
    (fin : ∀ a w', Below w.heap.size w w' → PutsTo pr w' 0 (l.take n) a0 a → wpList P l.toArray Q (l.drop n) a w') : (Code.region id l.toArray true).wp P Q a0 w := by
  unfold tailOk at ht
  simp only [Bool.and_eq_true, decide_eq_true_eq] at ht
  obtain ⟨⟨⟨hsink, hchain⟩, hn⟩, hseq⟩ := ht
  refine wp_region_any hm ?_
  have hb : Below w.heap.size w { w with drawn := w.drawn + 1 } := ⟨rfl, rfl, rfl, Nat.le_refl _, fun _ _ => rfl⟩
  refine wpAny_keptT rfl n hs stab hsink hchain hn hseq (fun i o hin hi listed a w' hk hd => ?_) (fun listed a w' hk h1 h2 => fin a w' (Below.then_ hb hk.below) (hk.puts n h1 h2)) l.toArray.size _ a0 _ ⟨by simp, Below.refl _ _, rfl, rfl, fun _ _ => rfl, fun j o t _ _ hl => ?_⟩ ⟨by simp, fun j oj _ hl => (by rw [getD_replicate_false] at hl; cases hl), fun t _ h => getD_in (by simpa using h) (getD_replicate_false _ _)⟩ (by simp)
  · have := allSteps_get (l.take n) 0 (step _ hb) i o (by rw [List.getElem?_take, if_pos hin]; simpa using hi)
    rw [Nat.zero_add] at this
    exact this listed a w' hk hd
  · rw [getD_replicate_false] at hl
    cases hl
end Go.Proofs.Ytpdfalgjmeagjaa

/-
  A step of a region by facts, guarded, whose operation has a value.
-/
namespace Go.Proofs.Ytpdfalgjmeagjaa
open Go.RowKit
set_option linter.unusedVariables false

theorem stepOk_val_q {P : Program} {ops : Array Oper} {Q : Exit → Act → World → Prop} {pr : Nat → Value → World → Prop} {i : Nat} {o : Oper} {a : Act} {w : World} {v : Value} (hw : Region.wanted o (yielded ops a.tmps) = true) (hrun : (execOp a.eval o).run P w = .ok (.value v) w) (hp : pr i v w) : StepOk P ops Q pr i o a w := by
  unfold StepOk
  rw [if_pos hw]
  unfold Oper.wp
  rw [hrun]
  exact ⟨v, rfl, hp, Below.refl _ _⟩
end Go.Proofs.Ytpdfalgjmeagjaa

/-
  Arrays and structs by value as laws of the walk: laid in new memory, made of noughts, read whole, written whole, handed back; and a region that draws its order over calls that make memory. No function of the program is named here.
-/
namespace Go.Proofs.Ytpdfalgjmeagjaa
open Go.RowKit
set_option linter.unusedVariables false

section
variable {P : Program} {w : World} {ops : Array Oper} {rest : List Oper} {o : Oper} {a : Act} {Q : Exit → Act → World → Prop}

theorem Fresh.lt_size {base : Nat} {e : TypeId} {g n : Nat} {xs : List Value} (h : Fresh base e w (some ⟨g, 0, none⟩) n n xs) : g < w.heap.size := (Array.getElem?_eq_some_iff.1 h.block.1).1
theorem Fresh.new (w : World) (T : TypeId) (xs : List Value) (n : Nat) (hl : xs.length = n) (hm : n ≤ 1099511627776) : Fresh w.heap.size T (w.alloc (.cells xs.toArray T (0, 0))) (some ⟨w.heap.size, 0, none⟩) n n xs :=
  Fresh.of_block (heap_alloc_new _ _) (Nat.le_refl _) hl (by unfold maxLen; omega)
theorem below_alloc (w : World) (o : Obj) : Below w.heap.size w (w.alloc o) := (Below.refl _ _).alloc (Nat.le_refl _) o

/-- A value of many cells is laid in a new block. -/
theorem wpList_box (hg : o.guard = none) (x : Operand) (T : TypeId) (hop : o.op = .box T x) (xs : List Value) (hx : a.eval x = .agg xs.toArray) (n : Nat) (hn : xs.length = n) (hm : n ≤ 1099511627776)
    (hK : ∀ g w', w.heap.size ≤ g → Fresh w.heap.size T w' (some ⟨g, 0, none⟩) n n xs → Below w.heap.size w w' → wpList P ops Q rest (a.put o.dst (.pointer (some ⟨g, 0, none⟩))) w') : wpList P ops Q (o :: rest) a w := by
  refine wpList_plain hg fun K hK' => ?_
  have hrun : (execOp a.eval o).run P w = .ok (.value (.pointer (some ⟨w.heap.size, 0, none⟩))) (w.alloc (.cells xs.toArray T (0, 0))) := by
    simp only [execOp, hop, hx]
    rfl
  unfold Oper.wp
  rw [hrun]
  exact hK' _ _ (hK _ _ (Nat.le_refl _) (Fresh.new w T xs n hn hm) (below_alloc _ _))

/-- A new variable of many cells, each nought. -/
theorem run_alloc_zero (T : TypeId) (xs : List Value) (hz : ((P.info? T).map (·.zero)) = some (some (.agg xs.toArray))) : (Instr.alloc T true (.tuple #[])).run P w = .ok (.pointer (some ⟨w.heap.size, 0, none⟩)) (w.alloc (.cells xs.toArray T (0, 0))) := by
  obtain ⟨i, hi, h1⟩ := Option.map_eq_some_iff.1 hz
  simp [Instr.alloc, zeroValue, typeInfo, hi, h1, newVar, newRow, Value.cells]
theorem wpList_alloc (hg : o.guard = none) (T : TypeId) (hop : o.op = .alloc T) (xs : List Value) (hz : ((P.info? T).map (·.zero)) = some (some (.agg xs.toArray))) (n : Nat) (hn : xs.length = n) (hm : n ≤ 1099511627776)
    (hK : ∀ g w', w.heap.size ≤ g → Fresh w.heap.size T w' (some ⟨g, 0, none⟩) n n xs → Below w.heap.size w w' → wpList P ops Q rest (a.put o.dst (.pointer (some ⟨g, 0, none⟩))) w') : wpList P ops Q (o :: rest) a w := by
  refine wpList_plain hg fun K hK' => ?_
  have hrun : (execOp a.eval o).run P w = .ok (.value (.pointer (some ⟨w.heap.size, 0, none⟩))) (w.alloc (.cells xs.toArray T (0, 0))) := by
    simp only [execOp, hop]
    rw [Sem.run_bind, run_alloc_zero T xs hz]
    rfl
  unfold Oper.wp
  rw [hrun]
  exact hK' _ _ (hK _ _ (Nat.le_refl _) (Fresh.new w T xs n hn hm) (below_alloc _ _))

/-- The type is an array or a struct, of so many cells. -/
def aggB (P : Program) (T : TypeId) (n : Nat) : Bool :=
  (match P.underlying T with | some (.struct _) | some (.array _ _) => true | _ => false) && ((P.info? T).map (·.size) == some n)
theorem run_loadVar_sees {B b off : Nat} (T : TypeId) (xs : List Value) (hT : aggB P T xs.length = true) (hs : Sees w B (some ⟨b, off, none⟩) xs) : (loadVar T ⟨b, off, none⟩).run P w = .ok (.agg xs.toArray) w := by
  unfold aggB at hT
  simp only [Bool.and_eq_true, beq_iff_eq] at hT
  obtain ⟨i, hi, hsz⟩ := Option.map_eq_some_iff.1 hT.2
  have hl : (loadCells ⟨b, off, none⟩ xs.length).run P w = .ok xs.toArray w := run_loadCells_list (P := P) w ⟨b, off, none⟩ xs (fun j v hv => by
    obtain ⟨b', o', he, _, hc⟩ := hs (by have := (List.getElem?_eq_some_iff.1 hv).1; omega)
    obtain ⟨rfl, rfl⟩ : b = b' ∧ off = o' := by simpa using he
    rw [Addr.add_lit]
    exact hc j v hv)
  have hagg : (isAgg T).run P w = .ok true w := by
    unfold isAgg
    rw [Sem.run_bind]
    cases hu : P.underlying T with
    | none => simp [hu] at hT
    | some d =>
      rw [run_underlying hu w]
      have := hT.1
      rw [hu] at this
      cases d <;> simp_all
  simp [loadVar, Sem.run_bind, hagg, sizeOf, typeInfo, hi, hsz, hl]
/-- A variable of many cells is read whole. -/
theorem run_load_agg {B b off : Nat} (x : Operand) (T : TypeId) (hop : o.op = .load T x) (hx : a.eval x = .pointer (some ⟨b, off, none⟩)) (xs : List Value) (n : Nat) (hn : xs.length = n) (hT : aggB P T n = true) (hs : Sees w B (some ⟨b, off, none⟩) xs) :
    (execOp a.eval o).run P w = .ok (.value (.agg xs.toArray)) w := by
  subst hn
  unfold execOp
  simp only [hop, hx, Instr.loadAt, Instr.sureAddr, Sem.run_bind, Sem.run_pure, Result.andThen_ok, run_loadVar_sees T xs hT hs]
theorem wpList_load (hg : o.guard = none) (x : Operand) (T : TypeId) (hop : o.op = .load T x) (b off B : Nat) (hx : a.eval x = .pointer (some ⟨b, off, none⟩)) (xs : List Value) (n : Nat) (hn : xs.length = n) (hT : aggB P T n = true) (hs : Sees w B (some ⟨b, off, none⟩) xs)
    (hK : wpList P ops Q rest (a.put o.dst (.agg xs.toArray)) w) : wpList P ops Q (o :: rest) a w := by
  refine wpList_plain hg fun K hK' => ?_
  unfold Oper.wp
  rw [run_load_agg x T hop hx xs n hn hT hs]
  exact hK' _ _ hK

/-- The same where the operation is guarded, and wanted. -/
theorem wpList_load_g (x : Operand) (T : TypeId) (hop : o.op = .load T x) (b off B : Nat) (hx : a.eval x = .pointer (some ⟨b, off, none⟩)) (xs : List Value) (n : Nat) (hn : xs.length = n) (hT : aggB P T n = true) (hs : Sees w B (some ⟨b, off, none⟩) xs)
    (hw : Region.wanted o (yielded ops a.tmps) = true) (hK : wpList P ops Q rest (a.put o.dst (.agg xs.toArray)) w) : wpList P ops Q (o :: rest) a w := by
  refine wpList_step fun K hK' => ?_
  rw [if_pos hw]
  unfold Oper.wp
  rw [run_load_agg x T hop hx xs n hn hT hs]
  exact hK' _ _ hK

/-- A part of a block of this call's own is written whole. -/
theorem run_store_agg {g off base : Nat} {t : TypeId} {n : Nat} {cur : List Value} (x v : Operand) (T : TypeId) (hop : o.op = .store T x v) (hx : a.eval x = .pointer (some ⟨g, off, none⟩)) (ys : List Value) (hv : a.eval v = .agg ys.toArray)
    (hT : (P.info? T).map (·.size) = some ys.length) (hF : Fresh base t w (some ⟨g, 0, none⟩) n n cur) (hfit : off + ys.length ≤ n) (h1 : ∀ u ∈ ys, u.oneCell' = true) :
    (execOp a.eval o).run P w = .ok .skip (w.setRow g (splice cur off ys).toArray) := by
  obtain ⟨i, hi, hsz⟩ := Option.map_eq_some_iff.1 hT
  have hst := run_storeCells_at (P := P) g off t ys 0 cur.toArray w hF.block.1 (by have := hF.len; simp; omega) h1
  have e : (cur.toArray.toList.take (off + 0) ++ ys ++ cur.toArray.toList.drop (off + 0 + ys.length)).toArray = (splice cur off ys).toArray := by simp [splice]
  rw [e] at hst
  unfold execOp
  simp only [hop, hx, hv, Instr.storeAt, Instr.sureAddr, Sem.run_bind, Sem.run_pure, Result.andThen_ok, storeVar, sizeOf, typeInfo]
  simp [hsz, Value.cells, hst, hi]
theorem Fresh.setRow {g base : Nat} {t : TypeId} {n : Nat} {cur ys : List Value} (hF : Fresh base t w (some ⟨g, 0, none⟩) n n cur) (hl : ys.length = n) : Fresh base t (w.setRow g ys.toArray) (some ⟨g, 0, none⟩) n n ys :=
  Fresh.of_block (setRow_heap w g _ _ t _ hF.block.1) hF.block.2 hl hF.cap.2
theorem Below.setRow' {B g : Nat} {w0 : World} (h : Below B w0 w) (hB : B ≤ g) (cs : Array Value) : Below B w0 (w.setRow g cs) :=
  ⟨h.os, h.tape, h.output, by simpa using h.size, fun k hk => (setRow_other w g k cs (by omega)).trans (h.block k hk)⟩
theorem wpList_store (hg : o.guard = none) (hd : o.dst = none) (x v : Operand) (T : TypeId) (hop : o.op = .store T x v) (g off base : Nat) (t : TypeId) (n : Nat) (cur ys : List Value) (hx : a.eval x = .pointer (some ⟨g, off, none⟩)) (hv : a.eval v = .agg ys.toArray)
    (m : Nat) (hm : ys.length = m) (hT : aggB P T m = true) (hF : Fresh base t w (some ⟨g, 0, none⟩) n n cur) (hfit : off + m ≤ n) (h1 : ∀ u ∈ ys, u.oneCell' = true) (w0 : World) (hb : Below w0.heap.size w0 w) (hB : w0.heap.size ≤ g)
    (hK : ∀ w', Fresh base t w' (some ⟨g, 0, none⟩) n n (splice cur off ys) → Below w0.heap.size w0 w' → (∀ k, k ≠ g → w'.heap[k]? = w.heap[k]?) → w.heap.size ≤ w'.heap.size → wpList P ops Q rest a w') : wpList P ops Q (o :: rest) a w := by
  subst hm
  have hT' : (P.info? T).map (·.size) = some ys.length := by
    unfold aggB at hT
    simp only [Bool.and_eq_true, beq_iff_eq] at hT
    exact hT.2
  refine wpList_plain hg fun K hK' => ?_
  unfold Oper.wp
  rw [run_store_agg x v T hop hx ys hv hT' hF hfit h1]
  have hl := hF.len
  have h := hK _ (hF.setRow (by rw [length_splice _ _ _ (by omega)]; exact hl)) (Below.setRow' hb hB _) (fun k hk => setRow_other w g k _ hk) (by simp)
  have h' := hK' _ _ h
  have e : a.put o.dst undef = a := by simp [Act.put, hd]
  simp only [Oper.upon]
  first | exact h' | (rw [e]; exact h')

/-- One cell each. -/
def allOne (xs : List Value) : Bool := xs.all fun u => u.oneCell'
theorem allOne_out {xs : List Value} (h : allOne xs = true) : ∀ u ∈ xs, u.oneCell' = true := List.all_eq_true.1 h
/-- The one result lies in memory of this call's own. -/
theorem bodyPost_cell {fn : Func} {R : Ending → World → Prop} {p : Tmp} {T : TypeId} {g B off : Nat} (hr : fn.results = #[.cell p T]) (hp : a.tmps.getD p undef = .pointer (some ⟨g, off, none⟩)) (xs : List Value) (n : Nat) (hn : xs.length = n) (hT : aggB P T n = true) (hs : Sees w B (some ⟨g, off, none⟩) xs)
    (hd : a.defers = []) (hR : R (.returned (.agg xs.toArray)) w) : bodyPost P fn R .ret a w := by
  subst hn
  refine ⟨hd, _, ?_, hR⟩
  have hp' : a.tmps[p]?.getD undef = .pointer (some ⟨g, off, none⟩) := by simpa using hp
  simp [results, hr, hp', asAddr, run_loadVar_sees T xs hT hs]
end

theorem Sees.of_fresh {w : World} {base : Nat} {e : TypeId} {g n : Nat} {xs : List Value} (h : Fresh base e w (some ⟨g, 0, none⟩) n n xs) (off k : Nat) : Sees w w.heap.size (some ⟨g, off, none⟩) ((xs.drop off).take k) := by
  have h1 : Sees w w.heap.size (some ⟨g, 0 + off, none⟩) (xs.drop off) := h.sees.drop_ off
  rw [Nat.zero_add] at h1
  exact h1.take_ k
/-- What lies in another block stays. -/
theorem Fresh.other {w w' : World} {base : Nat} {e : TypeId} {g g' n : Nat} {xs : List Value} (h : Fresh base e w (some ⟨g, 0, none⟩) n n xs) (hne : g ≠ g') (hk : ∀ k, k ≠ g' → w'.heap[k]? = w.heap[k]?) : Fresh base e w' (some ⟨g, 0, none⟩) n n xs :=
  Fresh.of_block (by rw [hk g hne]; exact h.block.1) h.block.2 h.len h.cap.2
theorem Sees.other {w w' : World} {B : Nat} {g b off : Nat} {xs : List Value} (h : Sees w B (some ⟨b, off, none⟩) xs) (hne : b ≠ g) (hk : ∀ k, k ≠ g → w'.heap[k]? = w.heap[k]?) : Sees w' B (some ⟨b, off, none⟩) xs := fun hn => by
  obtain ⟨b', o', e, hb, hc⟩ := h hn
  obtain ⟨rfl, rfl⟩ : b = b' ∧ off = o' := by simpa using e
  exact ⟨b, off, rfl, hb, fun j u hu => (World.cell?_of_block (w := w) (hk b hne)).trans (hc j u hu)⟩
theorem below_drewN' {B : Nat} {a w : World} (h : Below B a w) (n : Nat) : Below B a (w.drewN n) := ⟨h.os, h.tape, h.output, h.size, h.block⟩
end Go.Proofs.Ytpdfalgjmeagjaa

/-
  Numbers, words and strings written down as bytes, and read back: plain functions on lists, as chapter 1 of the document defines them. No program is named here.
-/
namespace Go.Proofs.Ytpdfalgjmeagjaa

/-- May c be the last digit behind i others? -/
def endOk (c : UInt8) (i : Nat) : Bool := if i = 9 then c == 1 else (c != 0 || i == 0)
/-- The number that bytes begin with, how many bytes it has, or an error; i digits are behind us. -/
def guF : Nat → List UInt8 → Nat → Nat → Nat × Nat × Nat
  | 0, _, _, _ => (0, 0, 11)
  | _ + 1, [], _, _ => (0, 0, 10)
  | f + 1, c :: l, i, acc =>
    if 128 ≤ c.toNat then guF f l (i + 1) (acc + c.toNat % 128 * 128 ^ i)
    else if endOk c i then (acc + c.toNat * 128 ^ i, i + 1, 0) else (0, 0, 11)
def gu (l : List UInt8) : Nat × Nat × Nat := guF 10 l 0 0
def isAt (l : Nat) (p : Int) : Bool := decide (0 ≤ p) && decide (p ≤ l)
/-- A number at a place: the number, the place behind it, the error. -/
def getU (l : List UInt8) (p : Int) : Nat × Nat × Nat :=
  if isAt l.length p then (if (gu (l.drop p.toNat)).2.2 = 0 then ((gu (l.drop p.toNat)).1, p.toNat + (gu (l.drop p.toNat)).2.1, 0) else (0, 0, (gu (l.drop p.toNat)).2.2)) else (0, 0, 2)
/-- The four bytes of a word. -/
def byteAt (n i : Nat) : UInt8 := UInt8.ofNat (n / 2 ^ (8 * (3 - i)) % 256)
def wd (n : Nat) : List UInt8 := [byteAt n 0, byteAt n 1, byteAt n 2, byteAt n 3]
/-- The word of the four bytes from a place on, 255 past the end. -/
def oct (l : List UInt8) (k : Nat) : Nat := (l.getD k 255).toNat
def wAt (l : List UInt8) (k : Nat) : Nat := ((oct l k * 256 + oct l (k + 1)) * 256 + oct l (k + 2)) * 256 + oct l (k + 3)
def getW (l : List UInt8) (p : Int) : Nat × Nat × Nat :=
  if isAt l.length p then (if l.length < p.toNat + 4 then (0, 0, 10) else (wAt l p.toNat, p.toNat + 4, 0)) else (0, 0, 2)
def words (l : List UInt8) : List UInt32 := (List.range ((l.length + 3) / 4)).map fun i => UInt32.ofNat (wAt l (4 * i))
def bytesOf (l : List UInt32) : List UInt8 := l.flatMap fun x => wd x.toNat
def getBytes (l : List UInt32) (n : Int) : List UInt8 × Nat :=
  if n < 0 then ([], 2) else if 4 * (l.length : Int) < n then ([], 10) else ((bytesOf l).take n.toNat, 0)

theorem ofNat_toNat (n : Nat) (h : n < 256) : (UInt8.ofNat n).toNat = n := by simp [UInt8.toNat_ofNat']; omega
theorem ofNat_toNat32 (n : Nat) (h : n < 4294967296) : (UInt32.ofNat n).toNat = n := by simp [UInt32.toNat_ofNat']; omega

theorem oct_lt (l : List UInt8) (k : Nat) : oct l k < 256 := UInt8.toNat_lt _
theorem wAt_lt (l : List UInt8) (k : Nat) : wAt l k < 4294967296 := by
  have a := oct_lt l k; have b := oct_lt l (k + 1); have c := oct_lt l (k + 2); have d := oct_lt l (k + 3)
  unfold wAt; omega
theorem len_words (l : List UInt8) : (words l).length = (l.length + 3) / 4 := by simp [words]
theorem len_wd (n : Nat) : (wd n).length = 4 := rfl
theorem len_bytesOf : ∀ l : List UInt32, (bytesOf l).length = 4 * l.length
  | [] => rfl
  | x :: l => by
    have := len_bytesOf l
    simp only [bytesOf, List.flatMap_cons, List.length_append, len_wd, List.length_cons] at this ⊢
    omega
theorem bytesOf_get : ∀ (l : List UInt32) (i : Nat) (h : i / 4 < l.length), (bytesOf l)[i]? = some (byteAt l[i / 4].toNat (i % 4))
  | [], i, h => by simp at h
  | x :: l, i, h => by
    simp only [bytesOf, List.flatMap_cons]
    by_cases hi : i < 4
    · rw [List.getElem?_append_left (by rw [len_wd]; exact hi)]
      have e : i / 4 = 0 := by omega
      simp only [e]
      match i, hi with
      | 0, _ => rfl
      | 1, _ => rfl
      | 2, _ => rfl
      | 3, _ => rfl
    · rw [List.getElem?_append_right (by rw [len_wd]; omega), len_wd]
      have h' : (i - 4) / 4 < l.length := by simp at h; omega
      have := bytesOf_get l (i - 4) h'
      rw [bytesOf] at this
      rw [this]
      have e1 : (i - 4) % 4 = i % 4 := by omega
      have e2 : i / 4 = (i - 4) / 4 + 1 := by omega
      simp only [e1, e2, List.getElem_cons_succ]

end Go.Proofs.Ytpdfalgjmeagjaa

/-
  make and copy of bytes as laws of the walk, and what the inner function grown answers: a copy with noughts behind it, in new memory.
-/
namespace Go.Proofs.Ytpdfalgjmeagjaa
open Go.RowKit
set_option linter.unusedVariables false
theorem info8 : (Try.prog.info? 5).map (fun i => (i.zero, i.size, i.bytes)) = some (some (.int .u8 0), 1, 1) := by kernel_rfl
theorem made8 (n : Nat) : (madeCells (Value.int .u8 0).cells (n * 1)).toList = cb (List.replicate n 0) := by
  rw [Nat.mul_one]
  exact (toList_madeCells_one _ n).trans (by simp [cb])

/-- 'make([]byte, n)': n noughts in a new block. -/
theorem wpList_mk8 {w : World} {ops : Array Oper} {rest : List Oper} {o : Oper} {a : Act} {Q : Exit → Act → World → Prop} (hg : o.guard = none) (x : Operand) (hop : o.op = Op.makeSlice 27 x x)
    (L : Int) (n : Nat) (hl : a.eval x = .int .i64 L) (hL : L = (n : Int)) (hn : n ≤ 1099511627776)
    (hK : ∀ w', Fresh w.heap.size 5 w' (some ⟨w.heap.size, 0, none⟩) n n (cb (List.replicate n 0)) → Below w.heap.size w w' → wpList Try.prog ops Q rest (a.put o.dst (.slice (some ⟨w.heap.size, 0, none⟩) n n)) w') :
    wpList Try.prog ops Q (o :: rest) a w := by
  obtain ⟨i0, hi, hz0, hz1, hz2⟩ := info_parts info8
  refine wpList_make_full w hg x x 27 hop w.heap.size 5 i0 (.int .u8 0) 1 Try.underlying27 hi hz0 hz1 .i64 .i64 L L n hl hl hL hL (by rw [hz2]; omega) (by unfold maxLen; omega) (Nat.le_refl _) ?_
  intro w' h1 h2
  rw [made8] at h1
  exact hK w' h1 ((Below.refl _ _).grown h2 (Nat.le_refl _) (by simp))

def Grows (w : World) (n : Nat) (l : List UInt8) (e : Ending) (w' : World) : Prop :=
  e = .returned (.slice (some ⟨w.heap.size, 0, none⟩) n n) ∧ Fresh w.heap.size 5 w' (some ⟨w.heap.size, 0, none⟩) n n (cb l) ∧ Below w.heap.size w w'
theorem splice_front (l : List UInt8) (m : Nat) : splice (List.replicate (l.length + m) 0) 0 l = l ++ List.replicate m 0 := by
  simp [splice]

theorem fresh_nil (base : Nat) (e : TypeId) (w : World) : Fresh base e w none 0 0 [] := World.ownsRow_nil _ _ _ _
theorem byteAt_nat (n i : Nat) : ((byteAt n i).toNat : Int) = (n : Int) / 2 ^ (8 * (3 - i)) % 256 := by
  unfold byteAt
  rw [ofNat_toNat _ (Nat.mod_lt _ (by omega)), shr_nat]
  rfl
end Go.Proofs.Ytpdfalgjmeagjaa

/-
  Storing into a block of bytes that the call made, and what the inner function putUint does: a number's digits are laid over the block from a place on.
-/
namespace Go.Proofs.Ytpdfalgjmeagjaa
open Go.RowKit
set_option linter.unusedVariables false

section
variable {w : World} {base g n j : Nat} {e : TypeId} {xs : List Value}
theorem Fresh.cellAt (h : Fresh base e w (some ⟨g, 0, none⟩) n n xs) (hj : j < n) : ∃ u, w.cell? ⟨g, j, none⟩ = some u := by
  have hl := h.len
  exact ⟨xs[j]'(by omega), by rw [World.ownsRow.cellAt h j (by omega)]; exact List.getElem?_eq_getElem _⟩
theorem Fresh.frozenAt (h : Fresh base e w (some ⟨g, 0, none⟩) n n xs) : w.frozen? ⟨g, j, none⟩ = false := World.ownsRow.frozenAt h j
theorem Fresh.store (h : Fresh base e w (some ⟨g, 0, none⟩) n n xs) (j : Nat) (u : Value) : Fresh base e (w.setCell ⟨g, j, none⟩ u) (some ⟨g, 0, none⟩) n n (xs.set j u) := (World.ownsRow.stored h j u).1
theorem Fresh.store8 {l : List UInt8} (h : Fresh base e w (some ⟨g, 0, none⟩) n n (cb l)) (j : Nat) (c : UInt8) : Fresh base e (w.setCell ⟨g, j, none⟩ (.int .u8 (c.toNat : Int))) (some ⟨g, 0, none⟩) n n (cb (l.set j c)) := by
  have := h.store j (.int .u8 (c.toNat : Int))
  rwa [show (cb l).set j (.int .u8 (c.toNat : Int)) = cb (l.set j c) from by simp [cb, List.map_set]] at this
end

theorem splice_step {α : Type} (L X : List α) (off k : Nat) (hk : k < X.length) (hL : off + X.length ≤ L.length) : (splice L off (X.take k)).set (off + k) X[k] = splice L off (X.take (k + 1)) := by
  have h1 : (X.take k).length = k := by simp; omega
  have h2 : (X.take (k + 1)).length = k + 1 := by simp; omega
  unfold splice
  rw [h1, h2, List.take_succ_eq_append_getElem hk, List.set_append_right _ _ (by simp; omega), List.set_append_right _ _ (by simp; omega)]
  simp only [List.length_take]
  rw [show off + k - min off L.length - min k X.length = 0 from by omega, List.drop_eq_getElem_cons (show off + k < L.length by omega), List.set_cons_zero, List.append_assoc (List.take k X), Nat.add_assoc]
  rfl
theorem splice_all {α : Type} (L X : List α) (off : Nat) (k : Nat) (h : X.length ≤ k) : splice L off (X.take k) = splice L off X := by rw [List.take_of_length_le h]

theorem info32 : (Try.prog.info? 22).map (fun i => (i.zero, i.size, i.bytes)) = some (some (.int .u32 0), 1, 4) := by kernel_rfl
theorem made32 (n : Nat) : (madeCells (Value.int .u32 0).cells (n * 1)).toList = cw (List.replicate n 0) := by
  rw [Nat.mul_one]
  exact (toList_madeCells_one _ n).trans (by simp [cw])
/-- 'make([]uint32, n)': n noughts in a new block. -/
theorem wpList_mk32 {w : World} {ops : Array Oper} {rest : List Oper} {o : Oper} {a : Act} {Q : Exit → Act → World → Prop} (hg : o.guard = none) (x : Operand) (hop : o.op = Op.makeSlice 54 x x)
    (L : Int) (n : Nat) (hl : a.eval x = .int .i64 L) (hL : L = (n : Int)) (hn : n ≤ 1099511627776)
    (hK : ∀ w', Fresh w.heap.size 22 w' (some ⟨w.heap.size, 0, none⟩) n n (cw (List.replicate n 0)) → Below w.heap.size w w' → wpList Try.prog ops Q rest (a.put o.dst (.slice (some ⟨w.heap.size, 0, none⟩) n n)) w') :
    wpList Try.prog ops Q (o :: rest) a w := by
  obtain ⟨i0, hi, hz0, hz1, hz2⟩ := info_parts info32
  refine wpList_make_full w hg x x 54 hop w.heap.size 22 i0 (.int .u32 0) 1 Try.underlying54 hi hz0 hz1 .i64 .i64 L L n hl hl hL hL (by rw [hz2]; omega) (by unfold maxLen; omega) (Nat.le_refl _) ?_
  intro w' h1 h2
  rw [made32] at h1
  exact hK w' h1 ((Below.refl _ _).grown h2 (Nat.le_refl _) (by simp))
theorem Fresh.store32 {w : World} {base g n : Nat} {e : TypeId} {l : List UInt32} (h : Fresh base e w (some ⟨g, 0, none⟩) n n (cw l)) (j : Nat) (c : UInt32) : Fresh base e (w.setCell ⟨g, j, none⟩ (.int .u32 (c.toNat : Int))) (some ⟨g, 0, none⟩) n n (cw (l.set j c)) := by
  have := h.store j (.int .u32 (c.toNat : Int))
  rwa [show (cw l).set j (.int .u32 (c.toNat : Int)) = cw (l.set j c) from by simp [cw, List.map_set]] at this

theorem splice_zero {α : Type} (z : α) (X : List α) (n : Nat) (h : X.length = n) : splice (List.replicate n z) 0 X = X := by
  subst h
  simp [splice]
end Go.Proofs.Ytpdfalgjmeagjaa
