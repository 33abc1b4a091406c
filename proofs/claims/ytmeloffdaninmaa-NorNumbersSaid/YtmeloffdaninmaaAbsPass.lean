/-
  The small machine's pass over a statement whose order is open, and what its checks come to.
-/
import Derived.Test.YtmeloffdaninmaaAbsFree
namespace Go.Proofs.Ytmeloffdaninmaa
open Go.RowKit
set_option linter.unusedVariables false

def writerOf : List Oper → Nat → Tmp → Option Nat
  | [], _, _ => none
  | o :: l, k, t => match o.dst with
    | some d => match Nat.beq d t with
      | true => some k
      | false => writerOf l (k + 1) t
    | none => writerOf l (k + 1) t
def evT (ops : Array Oper) (ms : List Nat) (T : List ToldOps) (i : Nat) (mask : Nat) (s : St) : Operand → Option AV
  | .tmp t => match writerOf ops.toList 0 t with
    | some j => match mask.testBit j with
      | true => lookT T j
      | false => match (ms.getD j 0).testBit i with
        | true => some (s.tmp t)
        | false => none
    | none => some (s.tmp t)
  | .const v => avOf v
  | .global _ => none
  | .func f => some (.func (.func f) [] [])
def wantT (ops : Array Oper) (T : List ToldOps) (mask : Nat) (o : Oper) : Option Bool := match o.guard with
  | none => some true
  | some (j, b) => match mask.testBit j, ops[j]? with
    | true, some oj => match oj.dst, lookT T j with
      | some _, some (.bool c) => some (c == b)
      | some _, some _ => some false
      | _, _ => none
    | _, _ => none
def addX (base : Nat) : List (Nat × Blk) → H → H
  | [], c => c
  | (j, x) :: l, c => (addX base l c).set (base + j) x
theorem addX_next (base : Nat) : ∀ (l : List (Nat × Blk)) (c : H), (addX base l c).next = c.next
  | [], _ => rfl
  | (j, x) :: l, c => addX_next base l c
theorem addX_get {base : Nat} : ∀ {l : List (Nat × Blk)} {c : H} {b : Nat} {y : Blk}, (addX base l c).get b = some y → (∃ j, (j, y) ∈ l ∧ b = base + j) ∨ c.get b = some y
  | [], c, b, y, h => .inr h
  | (j, x) :: l, c, b, y, h => by
    rcases H.get_set h with ⟨rfl, rfl⟩ | ⟨_, h2⟩
    · exact .inl ⟨j, by simp, rfl⟩
    · rcases addX_get h2 with ⟨k, hk, rfl⟩ | h3
      · exact .inl ⟨k, by simp [hk], rfl⟩
      · exact .inr h3
def topT (h1 : H) (stop take : Nat → Bool) : List (Nat × Blk) → List ToldOps → H × List (Nat × Blk)
  | acc, [] => (h1, acc)
  | acc, r :: l => match r.k with
    | .eff c => match stop r.i with
      | true => (c, acc)
      | false => topT h1 stop take acc l
    | .non (some x) => match take r.i with
      | true => topT h1 stop take ((r.i, x) :: acc) l
      | false => topT h1 stop take acc l
    | .non none => topT h1 stop take acc l
/-- Each is told once. -/
def Once : List ToldOps → Prop
  | [] => True
  | r :: l => doneT l r.i = false ∧ Once l
theorem more_done {S : Nat → Bool} {j : Nat} {x : Blk} : ∀ {T : List ToldOps}, moreT S j T = some x → doneT T j = true
  | r :: l, h => by
    simp only [moreT] at h
    simp only [doneT]
    cases hb : Nat.beq r.i j
    · rw [hb] at h
      simp only [Bool.and_false] at h
      split at h
      · split at h
        · simp at h
        · exact more_done h
      · exact more_done h
    · rfl
theorem top_core {h1 : H} {S take : Nat → Bool} : ∀ (T : List ToldOps) (acc : List (Nat × Blk)), (topT h1 S take acc T).1 = coreT S h1 T
  | [], _ => rfl
  | r :: l, acc => by
    simp only [topT, coreT]
    cases hk : r.k with
    | eff c =>
      cases S r.i
      · exact top_core l acc
      · rfl
    | non q =>
      cases q with
      | none => exact top_core l acc
      | some x => cases take r.i <;> exact top_core l _
theorem top_more {h1 : H} {S take : Nat → Bool} (ht : ∀ j, take j = true → S j = true) : ∀ (T : List ToldOps) (acc : List (Nat × Blk)), Once T → ∀ j x, (j, x) ∈ (topT h1 S take acc T).2 → (j, x) ∈ acc ∨ moreT S j T = some x
  | [], acc, _, j, x, h => .inl h
  | r :: l, acc, ho, j, x, h => by
    have lift : moreT S j l = some x → (∀ c, r.k = .eff c → S r.i = false) → moreT S j (r :: l) = some x := fun h2 h3 => by
      have hne : Nat.beq r.i j = false := by
        cases hb : Nat.beq r.i j
        · rfl
        · have h4 := more_done h2
          rw [← Nat.eq_of_beq_eq_true hb, ho.1] at h4
          cases h4
      simp only [moreT]
      cases hk : r.k with
      | eff c => simp only [h3 c hk]; exact h2
      | non q => simp only [hne, Bool.and_false]; exact h2
    simp only [topT] at h
    cases hk : r.k with
    | eff c =>
      simp only [hk] at h
      cases hs : S r.i
      · simp only [hs] at h
        rcases top_more ht l acc ho.2 j x h with h2 | h2
        · exact .inl h2
        · exact .inr (lift h2 (fun _ _ => hs))
      · simp only [hs] at h
        exact .inl h
    | non q =>
      have hl : moreT S j l = some x → moreT S j (r :: l) = some x := fun h2 => lift h2 (fun c hc => by rw [hk] at hc; cases hc)
      cases q with
      | none =>
        simp only [hk] at h
        rcases top_more ht l acc ho.2 j x h with h2 | h2
        · exact .inl h2
        · exact .inr (hl h2)
      | some y =>
        simp only [hk] at h
        cases hs : take r.i
        · simp only [hs] at h
          rcases top_more ht l acc ho.2 j x h with h2 | h2
          · exact .inl h2
          · exact .inr (hl h2)
        · simp only [hs] at h
          rcases top_more ht l _ ho.2 j x h with h2 | h2
          · rcases List.mem_cons.1 h2 with h3 | h3
            · simp only [Prod.mk.injEq] at h3
              obtain ⟨rfl, rfl⟩ := h3
              refine .inr ?_
              simp only [moreT, hk, ht _ hs, Nat.beq_refl, Bool.and_self]
            · exact .inl h3
          · exact .inr (hl h2)
theorem top_all {h1 : H} {S : Nat → Bool} : ∀ (T : List ToldOps) (acc : List (Nat × Blk)), (∀ j, doneT T j = true → S j = true) → topT h1 (fun _ => true) (fun _ => true) acc T = topT h1 S S acc T
  | [], _, _ => rfl
  | r :: l, acc, h => by
    have hr : S r.i = true := h r.i (by simp [doneT])
    have ih := fun acc => top_all (h1 := h1) l acc (fun j hj => h j (by simp only [doneT]; split <;> first | rfl | exact hj))
    simp only [topT, hr]
    cases hk : r.k with
    | eff c => rfl
    | non q => cases q <;> exact ih _

section
variable (P : Program) (cf : Known) (ops : Array Oper) (ms : List Nat) (s : St)
/-- The memory ahead: so many numbers are kept for the operations themselves. -/
def preH (ops : Array Oper) (s : St) : H := ⟨s.h.bl, s.h.next + ops.size⟩
def localH (s : St) (i : Nat) (q : H × List (Nat × Blk)) : H := ⟨(addX s.h.next q.2 q.1).bl, s.h.next + i⟩
def evalOn (ev : Operand → Option AV) (o : Oper) (i : Nat) (v : AV) (q : H × List (Nat × Blk)) : Bool := match opA P (localH s i q) ev o with
  | some (v', h') => avSame v' v && Nat.beq h'.next (s.h.next + i)
  | none => false
def readOk (ev : Operand → Option AV) (o : Oper) (i : Nat) (v : AV) (mask : Nat) : List (Nat × Blk) → List ToldOps → Bool
  | acc, [] => evalOn P s ev o i v (preH ops s, acc)
  | acc, r :: l => match r.k with
    | .eff c => evalOn P s ev o i v (c, acc) && (mask.testBit r.i || readOk ev o i v mask acc l)
    | .non (some x) => match mask.testBit r.i with
      | true => readOk ev o i v mask ((r.i, x) :: acc) l
      | false => readOk ev o i v mask acc l
    | .non none => readOk ev o i v mask acc l
theorem read_all {ev : Operand → Option AV} {o : Oper} {i : Nat} {v : AV} {mask : Nat} {S : Nat → Bool} (hS : ∀ j, mask.testBit j = true → S j = true) : ∀ (T : List ToldOps) (acc : List (Nat × Blk)), readOk P ops s ev o i v mask acc T = true → evalOn P s ev o i v (topT (preH ops s) S mask.testBit acc T) = true
  | [], acc, h => h
  | r :: l, acc, h => by
    simp only [readOk] at h
    simp only [topT]
    cases hk : r.k with
    | eff c =>
      simp only [hk, Bool.and_eq_true, Bool.or_eq_true] at h
      cases hs : S r.i
      · have hm : mask.testBit r.i = false := by
          cases hq : mask.testBit r.i
          · rfl
          · rw [hS _ hq] at hs; cases hs
        rw [hm] at h
        exact read_all hS l acc (by simpa using h.2)
      · exact h.1
    | non q =>
      cases q with
      | none => simp only [hk] at h; exact read_all hS l acc h
      | some x =>
        simp only [hk] at h
        cases hq : mask.testBit r.i
        · rw [hq] at h; exact read_all hS l acc h
        · rw [hq] at h; exact read_all hS l _ h
/-- Bits of what is told. -/
def MaskIs (dm : Nat) (T : List ToldOps) : Prop := ∀ j, dm.testBit j = doneT T j
def absentB (base : Nat) (dm : Nat) (c : H) : Nat → Bool
  | 0 => true
  | k + 1 => match dm.testBit k with
    | true => absentB base dm c k
    | false => match c.get (base + k) with
      | none => absentB base dm c k
      | some _ => false
theorem absent_out {base : Nat} {dm : Nat} {c : H} : ∀ {m : Nat}, absentB base dm c m = true → ∀ j, j < m → dm.testBit j = false → c.get (base + j) = none
  | m + 1, h, j, hj, hd => by
    simp only [absentB] at h
    by_cases e : j = m
    · subst e
      rw [hd] at h
      simp only at h
      split at h
      · assumption
      · cases h
    · refine absent_out (m := m) ?_ j (by omega) hd
      split at h
      · exact h
      · split at h
        · exact h
        · cases h
def maskSub (a b : Nat) : Bool := Nat.beq (Nat.land a b) a
theorem maskSub_out {a b : Nat} (h : maskSub a b = true) (j : Nat) (hj : a.testBit j = true) : b.testBit j = true := by
  have h1 : a &&& b = a := Nat.eq_of_beq_eq_true h
  rw [← h1, Nat.testBit_and, Bool.and_eq_true] at hj
  exact hj.2
def withBit (dm i : Nat) : Nat := Nat.lor dm (2 ^ i)
theorem mask_with {dm i : Nat} {T : List ToldOps} (h : MaskIs dm T) (r : ToldOps) (hr : r.i = i) : MaskIs (withBit dm i) (r :: T) := by
  intro j
  have h1 : (withBit dm i).testBit j = (dm.testBit j || (2 ^ i).testBit j) := Nat.testBit_or dm (2 ^ i) j
  rw [h1, h j, Nat.testBit_two_pow]
  simp only [doneT]
  cases hb : Nat.beq r.i j
  · have hne : ¬ i = j := fun e => by rw [hr, e, Nat.beq_refl] at hb; cases hb
    simp [hne]
  · have he := Nat.eq_of_beq_eq_true hb
    rw [hr] at he
    simp [he]
/-- What is told, by a tree. -/
def ValsAre (vals : Tq AV) (T : List ToldOps) : Prop := ∀ j, vals.get deep j = lookT T j
def evV (ops : Array Oper) (ms : List Nat) (vals : Tq AV) (i : Nat) (mask : Nat) (s : St) : Operand → Option AV
  | .tmp t => match writerOf ops.toList 0 t with
    | some j => match mask.testBit j with
      | true => vals.get deep j
      | false => match (ms.getD j 0).testBit i with
        | true => some (s.tmp t)
        | false => none
    | none => some (s.tmp t)
  | .const v => avOf v
  | .global _ => none
  | .func f => some (.func (.func f) [] [])
def wantV (ops : Array Oper) (vals : Tq AV) (mask : Nat) (o : Oper) : Option Bool := match o.guard with
  | none => some true
  | some (j, b) => match mask.testBit j, ops[j]? with
    | true, some oj => match oj.dst, vals.get deep j with
      | some _, some (.bool c) => some (c == b)
      | some _, some _ => some false
      | _, _ => none
    | _, _ => none
theorem evV_eq {ops : Array Oper} {ms : List Nat} {vals : Tq AV} {T : List ToldOps} (h : ValsAre vals T) (i mask : Nat) (s : St) : evV ops ms vals i mask s = evT ops ms T i mask s := by
  funext x
  cases x with
  | tmp t =>
    simp only [evV, evT]
    cases writerOf ops.toList 0 t with
    | none => rfl
    | some j => cases mask.testBit j <;> simp only [h j]
  | const v => rfl
  | global g => rfl
  | func f => rfl
theorem wantV_eq {ops : Array Oper} {vals : Tq AV} {T : List ToldOps} (h : ValsAre vals T) (mask : Nat) (o : Oper) : wantV ops vals mask o = wantT ops T mask o := by
  unfold wantV wantT
  cases o.guard with
  | none => rfl
  | some q =>
    obtain ⟨j, b⟩ := q
    simp only [h j]
theorem vals_with {vals : Tq AV} {T : List ToldOps} (h : ValsAre vals T) (r : ToldOps) (hr : r.i < 549755813888) : ValsAre (vals.set deep r.i (some r.v)) (r :: T) := by
  intro j
  simp only [lookT]
  cases hb : Nat.beq r.i j
  · rw [Tq.get_set deep vals r.i _ j (fun e => by rw [e, Nat.beq_refl] at hb; cases hb)]
    exact h j
  · rw [← Nat.eq_of_beq_eq_true hb, Tq.get_set_at deep vals r.i _ (Nat.lt_of_lt_of_le (Nat.succ_lt_succ hr) (by decide))]
/-- One operation is told. -/
def tellT (T : List ToldOps) (vals : Tq AV) (dm : Nat) (i : Nat) (o : Oper) (mask : Nat) : Option ToldOps := match kindOp o with
  | .acts => match maskSub dm mask with
    | true => match topT (preH ops s) (fun _ => true) (fun _ => true) [] T with
      | q => match doOp P cf (evV ops ms vals i mask s) (addX s.h.next q.2 q.1) o with
        | some (v, c) => match absentB s.h.next (withBit dm i) (addX s.h.next q.2 q.1) ops.size && absentB s.h.next (withBit dm i) c ops.size && Nat.ble q.1.next c.next with
          | true => some ⟨i, v, .eff c⟩
          | false => none
        | none => none
    | false => none
  | .free => match opA P ⟨.nil, s.h.next + i⟩ (evV ops ms vals i mask s) o with
    | some (v, h') => match Nat.beq h'.next (s.h.next + i), h'.get (s.h.next + i) with
      | true, _ => some ⟨i, v, .non none⟩
      | false, some x => some ⟨i, v, .non (some x)⟩
      | _, _ => none
    | none => none
  | .reads => match opA P (localH s i (topT (preH ops s) (fun _ => true) mask.testBit [] T)) (evV ops ms vals i mask s) o with
    | some (v, h') => match Nat.beq h'.next (s.h.next + i), h'.get (s.h.next + i) with
      | true, _ => match readOk P ops s (evV ops ms vals i mask s) o i v mask [] T with
        | true => some ⟨i, v, .non none⟩
        | false => none
      | false, some x => some ⟨i, v, .non (some x)⟩
      | _, _ => none
    | none => none
def stepT (T : List ToldOps) (vals : Tq AV) (dm : Nat) (i : Nat) : Option ToldOps := match ops[i]?, !dm.testBit i && maskSub (ms.getD i 0) dm with
  | some o, true => match wantV ops vals (ms.getD i 0) o with
    | some true => tellT P cf ops ms s T vals dm i o (ms.getD i 0)
    | some false => some ⟨i, .undef, .non none⟩
    | none => none
  | _, _ => none
def passT : List Nat → List ToldOps → Tq AV → Nat → Option (List ToldOps × Nat)
  | [], T, _, dm => some (T, dm)
  | i :: l, T, vals, dm => match stepT P cf ops ms s T vals dm i with
    | some r => passT l (r :: T) (vals.set deep i (some r.v)) (withBit dm i)
    | none => none

/-- What the checks say of each that is told. -/
structure Ahead (o : Oper) (r : ToldOps) (l : List ToldOps) (mask : Nat) (pre c : H) : Prop where
  all : ∀ j, j < ops.size → doneT l j = true → mask.testBit j = true
  next : pre.next = (coreT (fun _ => true) (preH ops s) l).next
  sub : ∀ S : Nat → Bool, (∀ j, doneT l j = true → S j = true) → ∀ b x, pre.get b = some x → getT s.h.next ops.size S (preH ops s) l b = some x
  run : doOp P cf (evT ops ms l r.i mask s) pre o = some (r.v, c)
  none1 : ∀ j, j < ops.size → doneT (r :: l) j = false → pre.get (s.h.next + j) = none
  none2 : ∀ j, j < ops.size → doneT (r :: l) j = false → c.get (s.h.next + j) = none
  more : pre.next ≤ c.next
structure Local (o : Oper) (r : ToldOps) (l : List ToldOps) (mask : Nat) (ox : Option Blk) (S : Nat → Bool) (hl : H) : Prop where
  next : hl.next = s.h.next + r.i
  sub : ∀ b x, hl.get b = some x → getT s.h.next ops.size S (preH ops s) l b = some x
  run : opA P hl (evT ops ms l r.i mask s) o = some (r.v, hl.pushO ox)
structure GoodAt (r : ToldOps) (l : List ToldOps) (o : Oper) (mask : Nat) : Prop where
  op : ops[r.i]? = some o
  deps : ∀ j, j < ops.size → mask.testBit j = true → doneT l j = true
  new : doneT l r.i = false
  kind : (wantT ops l mask o = some false ∧ r.v = .undef ∧ r.k = .non none) ∨
    (wantT ops l mask o = some true ∧ ((∃ c pre, r.k = .eff c ∧ Ahead P cf ops ms s o r l mask pre c) ∨ (∃ ox, r.k = .non ox ∧ ∀ S : Nat → Bool, (∀ j, mask.testBit j = true → S j = true) → ∃ hl, Local P ops ms s o r l mask ox S hl)))
def Good : List ToldOps → Prop
  | [] => True
  | r :: l => (∃ o, GoodAt P cf ops ms s r l o (ms.getD r.i 0)) ∧ Good l

theorem Good.once : ∀ {T : List ToldOps}, Good P cf ops ms s T → Once T
  | [], _ => trivial
  | r :: l, ⟨⟨o, g⟩, gl⟩ => ⟨g.new, gl.once⟩
theorem Good.lt : ∀ {T : List ToldOps}, Good P cf ops ms s T → ∀ j, doneT T j = true → j < ops.size
  | r :: l, ⟨⟨o, g⟩, gl⟩, j, hj => by
    simp only [doneT] at hj
    cases hb : Nat.beq r.i j
    · rw [hb] at hj
      exact gl.lt j hj
    · rw [← Nat.eq_of_beq_eq_true hb]
      exact (Array.getElem?_eq_some_iff.1 g.op).1
theorem Good.core_none (hf : ∀ j, s.h.get (s.h.next + j) = none) {S : Nat → Bool} : ∀ {T : List ToldOps}, Good P cf ops ms s T → ∀ j, j < ops.size → doneT T j = false → (coreT S (preH ops s) T).get (s.h.next + j) = none
  | [], _, j, _, _ => hf j
  | r :: l, ⟨⟨o, g⟩, gl⟩, j, hj, hd => by
    have hd' : doneT l j = false := by
      simp only [doneT] at hd
      cases hb : Nat.beq r.i j <;> rw [hb] at hd
      · exact hd
      · cases hd
    have ih := gl.core_none hf (S := S) j hj hd'
    simp only [coreT]
    cases hk : r.k with
    | non q => exact ih
    | eff c =>
      cases S r.i
      · exact ih
      · rcases g.kind with ⟨_, _, k3⟩ | ⟨_, ⟨c', pre, k1, a⟩ | ⟨ox, k1, _⟩⟩
        · rw [hk] at k3; cases k3
        · rw [hk] at k1
          cases k1
          exact a.none2 j hj hd
        · rw [hk] at k1; cases k1
theorem Good.more_none (hf : ∀ j, s.h.get (s.h.next + j) = none) {S : Nat → Bool} {x : Blk} : ∀ {T : List ToldOps}, Good P cf ops ms s T → ∀ j, moreT S j T = some x → (coreT S (preH ops s) T).get (s.h.next + j) = none
  | r :: l, ⟨⟨o, g⟩, gl⟩, j, hm => by
    have hj : j < ops.size := Good.lt P cf ops ms s (T := r :: l) ⟨⟨o, g⟩, gl⟩ j (more_done hm)
    simp only [moreT] at hm
    simp only [coreT]
    cases hk : r.k with
    | eff c =>
      simp only [hk] at hm
      cases hs : S r.i
      · rw [hs] at hm
        exact gl.more_none hf j hm
      · rw [hs] at hm
        cases hm
    | non q =>
      simp only [hk] at hm
      cases hb : (S r.i && Nat.beq r.i j)
      · rw [hb] at hm
        exact gl.more_none hf j hm
      · simp only [Bool.and_eq_true] at hb
        have e1 := Nat.eq_of_beq_eq_true hb.2
        cases q with
        | none =>
          rw [hb.1, hb.2] at hm
          exact gl.more_none hf j hm
        | some y => exact gl.core_none P cf ops ms s hf j hj (by rw [← e1]; exact g.new)
/-- What is laid together is what the listed have. -/
theorem Good.sub (hf : ∀ j, s.h.get (s.h.next + j) = none) {T : List ToldOps} (g : Good P cf ops ms s T) {S take : Nat → Bool} (ht : ∀ j, take j = true → S j = true) {b : Nat} {x : Blk}
    (h : (addX s.h.next (topT (preH ops s) S take [] T).2 (topT (preH ops s) S take [] T).1).get b = some x) : getT s.h.next ops.size S (preH ops s) T b = some x := by
  rcases addX_get h with ⟨j, hj, rfl⟩ | h1
  · rcases top_more ht T [] (g.once P cf ops ms s) j x hj with h2 | h2
    · cases h2
    · have hlt := g.lt P cf ops ms s j (more_done h2)
      unfold getT
      rw [if_pos (by omega), show s.h.next + j - s.h.next = j from by omega, h2]
  · rw [top_core] at h1
    unfold getT
    split
    · rename_i hr
      cases hm : moreT S (b - s.h.next) T with
      | none => exact h1
      | some y =>
        have := g.more_none P cf ops ms s hf (b - s.h.next) hm
        rw [show s.h.next + (b - s.h.next) = b from by omega, h1] at this
        cases this
    · exact h1
theorem get_nilH (n b : Nat) : (⟨.nil, n⟩ : H).get b = none := Tq.get_nil deep b
theorem step_good (hf : ∀ j, s.h.get (s.h.next + j) = none) (hb : s.h.next + ops.size < 549755813888) {T : List ToldOps} {r : ToldOps} {vals : Tq AV} {dm i : Nat} (g : Good P cf ops ms s T) (hdm : MaskIs dm T) (hva : ValsAre vals T) (e : stepT P cf ops ms s T vals dm i = some r) : Good P cf ops ms s (r :: T) ∧ r.i = i := by
  unfold stepT at e
  split at e
  · rename_i o ho hc
    simp only [Bool.and_eq_true, Bool.not_eq_true'] at hc
    have hi : i < ops.size := (Array.getElem?_eq_some_iff.1 ho).1
    have deps : ∀ j, j < ops.size → (ms.getD i 0).testBit j = true → doneT T j = true := fun j _ hj => by rw [← hdm j]; exact maskSub_out hc.2 j hj
    have hnew : doneT T i = false := by rw [← hdm i]; exact hc.1
    rw [wantV_eq hva] at e
    have hw' : ∀ (v : AV) (k : Kd), MaskIs (withBit dm i) (⟨i, v, k⟩ :: T) := fun v k => mask_with hdm _ rfl
    split at e
    · rename_i hw
      unfold tellT at e
      rw [evV_eq hva] at e
      split at e
      · rename_i hk
        split at e
        · rename_i hcov
          simp only at e
          split at e
          · rename_i v c hd
            split at e <;> simp only [Option.some.injEq, reduceCtorEq] at e
            rename_i hab
            simp only [Bool.and_eq_true] at hab
            subst e
            refine ⟨⟨⟨o, ho, deps, hnew, .inr ⟨hw, .inl ⟨c, _, rfl, ⟨fun j _ hj => maskSub_out hcov j (by rw [hdm j]; exact hj), ?_, fun S hS b x hx => ?_, hd, fun j hj hdj => absent_out hab.1.1 j hj (by rw [hw' v (.eff c) j]; exact hdj), fun j hj hdj => absent_out hab.1.2 j hj (by rw [hw' v (.eff c) j]; exact hdj), ?_⟩⟩⟩⟩, g⟩, rfl⟩
            · rw [addX_next, top_core]
            · rw [top_all T [] hS] at hx
              exact g.sub P cf ops ms s hf (fun _ h => h) hx
            · rw [addX_next]
              exact Nat.le_of_ble_eq_true hab.2
          · simp at e
        · simp at e
      · rename_i hk
        split at e
        · rename_i v h' hop
          obtain ⟨ox, hox, hall⟩ := free_op hk hop
          have loc : ∀ k : Kd, k = .non ox → Good P cf ops ms s (⟨i, v, k⟩ :: T) := fun k hkk => by
            subst hkk
            refine ⟨⟨o, ho, deps, hnew, .inr ⟨hw, .inr ⟨ox, rfl, fun S hS => ⟨⟨.nil, s.h.next + i⟩, rfl, fun b x hx => ?_, ?_⟩⟩⟩⟩, g⟩
            · rw [get_nilH] at hx; cases hx
            · rw [← hox]; exact hop
          split at e <;> simp only [Option.some.injEq, reduceCtorEq] at e
          · rename_i hn
            subst e
            have hn := Nat.eq_of_beq_eq_true hn
            cases ox with
            | none => exact ⟨loc _ rfl, rfl⟩
            | some x =>
              exfalso
              rw [hox] at hn
              have : (⟨.nil, s.h.next + i⟩ : H).next + 1 = s.h.next + i := hn
              simp at this
          · rename_i x hn hx
            subst e
            cases ox with
            | none =>
              exfalso
              rw [hox] at hn
              have : Nat.beq (s.h.next + i) (s.h.next + i) = false := hn
              rw [Nat.beq_refl] at this
              cases this
            | some y =>
              have : h'.get (s.h.next + i) = some y := by
                rw [hox]
                exact Tq.get_set_at deep .nil (s.h.next + i) (some y) (Nat.lt_of_lt_of_le (Nat.succ_lt_succ (show s.h.next + i < 549755813888 by omega)) (by decide))
              rw [hx] at this
              simp at this
              subst this
              exact ⟨loc _ rfl, rfl⟩
        · simp at e
      · rename_i hk
        split at e
        · rename_i v h' hop
          split at e
          · rename_i hn
            have hn := Nat.eq_of_beq_eq_true hn
            split at e <;> simp only [Option.some.injEq, reduceCtorEq] at e
            rename_i hr
            subst e
            refine ⟨⟨⟨o, ho, deps, hnew, .inr ⟨hw, .inr ⟨none, rfl, fun S hS => ?_⟩⟩⟩, g⟩, rfl⟩
            have h1 := read_all P ops s hS T [] hr
            unfold evalOn at h1
            split at h1
            · rename_i v' h'' hop'
              simp only [Bool.and_eq_true] at h1
              have e1 := avSame_out h1.1
              have e2 := Nat.eq_of_beq_eq_true h1.2
              subst e1
              have e3 := read_op hk hop' (by rw [e2]; rfl)
              rw [e3] at hop'
              exact ⟨localH s i (topT (preH ops s) S (ms.getD i 0).testBit [] T), rfl, fun b x hx => g.sub P cf ops ms s hf hS hx, hop'⟩
            · simp at h1
          · rename_i x hn hx
            simp only [Option.some.injEq] at e
            subst e
            have hne : ¬ h'.next = (localH s i (topT (preH ops s) (fun _ => true) (ms.getD i 0).testBit [] T)).next := fun q => by
              have : h'.next = s.h.next + i := q
              rw [this, Nat.beq_refl] at hn
              cases hn
            obtain ⟨y, hy, hall⟩ := read_new hk hop hne
            have : h'.get (s.h.next + i) = some y := by
              rw [hy]
              exact Tq.get_set_at deep _ (s.h.next + i) (some y) (Nat.lt_of_lt_of_le (Nat.succ_lt_succ (show s.h.next + i < 549755813888 by omega)) (by decide))
            rw [hx] at this
            simp at this
            subst this
            refine ⟨⟨⟨o, ho, deps, hnew, .inr ⟨hw, .inr ⟨some x, rfl, fun S hS => ⟨⟨.nil, s.h.next + i⟩, rfl, fun b z hz => ?_, hall _ rfl⟩⟩⟩⟩, g⟩, rfl⟩
            rw [get_nilH] at hz; cases hz
          · simp at e
        · simp at e
    · rename_i hw
      simp only [Option.some.injEq] at e
      subst e
      exact ⟨⟨⟨o, ho, deps, hnew, .inl ⟨hw, rfl, rfl⟩⟩, g⟩, rfl⟩
    · simp at e
  · simp at e
theorem pass_good (hf : ∀ j, s.h.get (s.h.next + j) = none) (hb : s.h.next + ops.size < 549755813888) : ∀ (l : List Nat) (T T' : List ToldOps) (vals : Tq AV) (dm dm' : Nat), Good P cf ops ms s T → MaskIs dm T → ValsAre vals T → passT P cf ops ms s l T vals dm = some (T', dm') → Good P cf ops ms s T' ∧ MaskIs dm' T'
  | [], T, T', vals, dm, dm', g, hdm, hva, e => by
    simp only [passT, Option.some.injEq, Prod.mk.injEq] at e
    obtain ⟨rfl, rfl⟩ := e
    exact ⟨g, hdm⟩
  | i :: l, T, T', vals, dm, dm', g, hdm, hva, e => by
    simp only [passT] at e
    split at e
    · rename_i r h1
      obtain ⟨g1, hr⟩ := step_good P cf ops ms s hf hb g hdm hva h1
      have hlt : r.i < ops.size := g1.lt P cf ops ms s r.i (by simp [doneT])
      have hv1 := vals_with hva r (by omega)
      rw [hr] at hv1
      exact pass_good hf hb l _ T' _ _ dm' g1 (mask_with hdm r hr) hv1 e
    · simp at e
end
end Go.Proofs.Ytmeloffdaninmaa
