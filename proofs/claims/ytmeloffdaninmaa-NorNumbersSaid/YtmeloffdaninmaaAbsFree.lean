/-
  Operations that read no memory, values held against each other, and what the checks of a statement whose order is open come to.
-/
import Derived.Test.YtmeloffdaninmaaAbsDraw
namespace Go.Proofs.Ytmeloffdaninmaa
open Go.RowKit
set_option linter.unusedVariables false

/-! ### Values held against each other -/
def capEq : Cap → Cap → Bool
  | .is a, .is b => Nat.beq a b
  | .upTo a, .upTo b => Nat.beq a b
  | .gone a c, .gone b d => Nat.beq a b && Nat.beq c d
  | _, _ => false
theorem capEq_out {a b : Cap} (h : capEq a b = true) : a = b := by
  cases a <;> cases b <;> simp [capEq] at h
  · rw [h]
  · rw [h]
  · rw [h.1, h.2]
/-- The same, as far as it looks. -/
def avEq : AV → AV → Bool
  | .bool a, .bool b => a == b
  | .int k a, .int k' b => decide (k = k') && decide (a = b)
  | .string a, .string b => a.data.toList == b.data.toList
  | .pointer none, .pointer none => true
  | .pointer (some p), .pointer (some q) => Nat.beq p.1 q.1 && Nat.beq p.2 q.2
  | .slice none n c, .slice none n' c' => Nat.beq n n' && capEq c c'
  | .slice (some p) n c, .slice (some q) n' c' => Nat.beq p.1 q.1 && Nat.beq p.2 q.2 && Nat.beq n n' && capEq c c'
  | .nilFunc, .nilFunc => true
  | .nilIface, .nilIface => true
  | _, _ => false
def avEqL : List AV → List AV → Bool
  | [], [] => true
  | a :: l, b :: m => avEq a b && avEqL l m
  | _, _ => false
def avSame : AV → AV → Bool
  | .agg l, .agg m => avEqL l m
  | a, b => avEq a b
theorem avEq_out {a b : AV} (h : avEq a b = true) : a = b := by
  unfold avEq at h
  split at h
  · simp at h; rw [h]
  · simp at h; rw [h.1, h.2]
  · rename_i x y
    have h1 : x.data.toList = y.data.toList := by simpa using h
    congr 1
    apply ByteArray.ext
    apply Array.ext'
    exact h1
  · rfl
  · simp only [Bool.and_eq_true] at h
    have h1 := Nat.eq_of_beq_eq_true h.1
    have h2 := Nat.eq_of_beq_eq_true h.2
    congr 2
    exact Prod.ext h1 h2
  · simp only [Bool.and_eq_true] at h
    rw [Nat.eq_of_beq_eq_true h.1, capEq_out h.2]
  · simp only [Bool.and_eq_true] at h
    rename_i p n c q n' c'
    have h1 : p = q := Prod.ext (Nat.eq_of_beq_eq_true h.1.1.1) (Nat.eq_of_beq_eq_true h.1.1.2)
    rw [h1, Nat.eq_of_beq_eq_true h.1.2, capEq_out h.2]
  · rfl
  · rfl
  · simp at h
theorem avEqL_out : ∀ {a b : List AV}, avEqL a b = true → a = b
  | [], [], _ => rfl
  | [], _ :: _, h => by simp [avEqL] at h
  | _ :: _, [], h => by simp [avEqL] at h
  | a :: l, b :: m, h => by
    simp only [avEqL, Bool.and_eq_true] at h
    rw [avEq_out h.1, avEqL_out h.2]
theorem avSame_out {a b : AV} (h : avSame a b = true) : a = b := by
  unfold avSame at h
  split at h
  · rw [avEqL_out h]
  · exact avEq_out h

/-! ### Operations that read no memory -/
def H.pushO (h : H) : Option Blk → H
  | none => h
  | some x => h.push x
inductive OpKind where
  /-- it may write -/
  | acts
  /-- it reads nothing -/
  | free
  | reads
def kindB : Builtin → OpKind
  | .len | .cap | .min | .max => .free
  | _ => .acts
def kindC : Callee → OpKind
  | .builtin b => kindB b
  | _ => .acts
def kindOp (o : Oper) : OpKind := match o.op with
  | .move _ | .assign _ | .pick _ _ _ | .alloc _ | .box _ _ | .build _ _ | .buildSlice _ _ _ | .nilCheck _ | .binOp _ _ _ _ _ | .unOp _ _ _ | .makeInterface _ _ | .makeFunc _ _ _ | .makeSlice _ _ _ | .fieldAddr _ _ _ | .field _ _ _ | .indexAddr _ _ _ | .index _ _ _ | .extract _ _ => .free
  | .load _ _ | .convert _ _ _ | .slice _ _ _ _ _ => .reads
  | .call c => kindC c.callee
  | _ => .acts
section
variable {P : Program} {h : H} {ev : Operand → Option AV}
theorem withH_free {x : Option AV} {v : AV} {h' : H} (e : withH h x = some (v, h')) : ∃ ox : Option Blk, h' = h.pushO ox ∧ ∀ h2 : H, h2.next = h.next → withH h2 x = some (v, h2.pushO ox) := by
  obtain ⟨rfl, rfl⟩ := withH_out e
  exact ⟨none, rfl, fun h2 _ => rfl⟩
theorem free_builtin {b : Builtin} {ts : Array TypeId} {l : List AV} {v : AV} {h' : H} (hk : kindB b = .free) (e : builtinA P h b ts l = some (v, h')) : ∃ ox : Option Blk, h' = h.pushO ox ∧ ∀ h2 : H, h2.next = h.next → builtinA P h2 b ts l = some (v, h2.pushO ox) := by
  unfold builtinA at e ⊢
  cases b <;> simp only [kindB, reduceCtorEq] at hk
  all_goals
    match l, e with
    | [], e => simp at e
    | [x], e =>
      simp only at e ⊢
      first
        | exact withH_free e
        | (split at e
           · exact withH_free e
           · simp at e)
    | x :: y :: l, e =>
      simp only at e ⊢
      first
        | exact withH_free e
        | (simp at e; done)
theorem free_op {o : Oper} {v : AV} {h' : H} (hk : kindOp o = .free) (e : opA P h ev o = some (v, h')) : ∃ ox : Option Blk, h' = h.pushO ox ∧ ∀ h2 : H, h2.next = h.next → opA P h2 ev o = some (v, h2.pushO ox) := by
  unfold opA at e ⊢
  unfold kindOp at hk
  cases hop : o.op <;> simp only [hop, reduceCtorEq] at e hk ⊢
  case move => exact withH_free e
  case assign => exact withH_free e
  case pick =>
    split at e
    · exact withH_free e
    · exact withH_free e
    · simp at e
  case alloc t =>
    unfold allocA at e ⊢
    split at e <;> simp at e
    rename_i z hz
    obtain ⟨rfl, rfl⟩ := e
    exact ⟨some _, rfl, fun h2 hn => by simp only [hn]; rfl⟩
  case box t x =>
    split at e <;> simp only [Option.some.injEq, reduceCtorEq, boxA, Prod.mk.injEq] at e
    obtain ⟨rfl, rfl⟩ := e
    exact ⟨some _, rfl, fun h2 hn => by simp only [boxA, hn]; rfl⟩
  case build t ps =>
    split at e
    · unfold buildA at e ⊢
      split at e
      · split at e <;> simp only [Option.some.injEq, reduceCtorEq, Prod.mk.injEq] at e
        obtain ⟨rfl, rfl⟩ := e
        exact ⟨none, rfl, fun h2 _ => rfl⟩
      · simp at e
    · simp at e
  case buildSlice t n ps =>
    split at e
    · unfold buildSliceA at e ⊢
      split at e
      · split at e
        · split at e
          · split at e <;> simp only [Option.some.injEq, reduceCtorEq, Prod.mk.injEq] at e
            obtain ⟨rfl, rfl⟩ := e
            exact ⟨some _, rfl, fun h2 hn => by simp only [hn]; rfl⟩
          · simp at e
        · simp at e
      · simp at e
    · simp at e
  case nilCheck x =>
    split at e <;> simp only [Option.some.injEq, reduceCtorEq, Prod.mk.injEq] at e
    · obtain ⟨rfl, rfl⟩ := e
      exact ⟨none, rfl, fun h2 _ => rfl⟩
    · obtain ⟨rfl, rfl⟩ := e
      exact ⟨none, rfl, fun h2 _ => rfl⟩
  case binOp =>
    split at e
    · exact withH_free e
    · simp at e
  case unOp =>
    split at e
    · exact withH_free e
    · simp at e
  case makeInterface =>
    split at e <;> simp only [Option.some.injEq, reduceCtorEq, Prod.mk.injEq] at e
    obtain ⟨rfl, rfl⟩ := e
    exact ⟨none, rfl, fun h2 _ => rfl⟩
  case makeFunc =>
    split at e <;> simp only [Option.some.injEq, reduceCtorEq, Prod.mk.injEq] at e
    obtain ⟨rfl, rfl⟩ := e
    exact ⟨none, rfl, fun h2 _ => rfl⟩
  case makeSlice t l c =>
    split at e
    · unfold makeA at e ⊢
      split at e
      · split at e
        · split at e
          · split at e <;> simp only [Option.some.injEq, reduceCtorEq, Prod.mk.injEq] at e
            · obtain ⟨rfl, rfl⟩ := e
              exact ⟨some _, rfl, fun h2 hn => by simp only [hn]; rfl⟩
            · obtain ⟨rfl, rfl⟩ := e
              exact ⟨some _, rfl, fun h2 hn => by simp only [hn]; rfl⟩
          · simp at e
        · simp at e
      · simp at e
    · simp at e
  case fieldAddr =>
    split at e
    · exact withH_free e
    · simp at e
  case field =>
    split at e
    · exact withH_free e
    · simp at e
  case indexAddr =>
    split at e
    · exact withH_free e
    · simp at e
  case index =>
    split at e
    · exact withH_free e
    · simp at e
  case extract =>
    split at e
    · exact withH_free e
    · simp at e
  case call c =>
    cases hc : c.callee <;> simp only [hc, kindC, reduceCtorEq] at e hk ⊢
    split at e
    · exact free_builtin hk e
    · simp at e
/-- What reads, and makes no block, leaves the memory as it is. -/
theorem read_op {o : Oper} {v : AV} {h' : H} (hk : kindOp o = .reads) (e : opA P h ev o = some (v, h')) (hn : h'.next = h.next) : h' = h := by
  unfold opA at e
  unfold kindOp at hk
  cases hop : o.op <;> simp only [hop, reduceCtorEq] at e hk
  case load =>
    split at e
    · exact (withH_out e).2
    · simp at e
  case slice =>
    split at e
    · exact (withH_out e).2
    · simp at e
  case convert =>
    split at e
    · unfold convA at e
      split at e
      · simp at e; exact e.2.symm
      · simp at e; exact e.2.symm
      · split at e <;> simp only [Option.some.injEq, reduceCtorEq, Prod.mk.injEq] at e
        obtain ⟨_, rfl⟩ := e
        exact absurd hn (by simp [H.push])
      · split at e
        · split at e <;> simp only [Option.some.injEq, reduceCtorEq, Prod.mk.injEq] at e
          exact e.2.symm
        · simp at e
      · split at e
        · simp at e; exact e.2.symm
        · split at e
          · split at e <;> simp only [Option.some.injEq, reduceCtorEq, Prod.mk.injEq] at e
            exact e.2.symm
          · simp at e
        · simp at e
      · split at e
        · simp at e; exact e.2.symm
        · split at e
          · split at e <;> simp only [Option.some.injEq, reduceCtorEq, Prod.mk.injEq] at e
            exact e.2.symm
          · simp at e
        · simp at e
      · split at e <;> simp only [Option.some.injEq, reduceCtorEq, Prod.mk.injEq] at e
        exact e.2.symm
      · simp at e
    · simp at e
  case call c =>
    cases hc : c.callee <;> simp only [hc, kindC, reduceCtorEq] at hk
    rename_i b
    cases b <;> simp [kindB] at hk
/-- What counts as reading, but makes a block, reads nothing. -/
theorem read_new {o : Oper} {v : AV} {h' : H} (hk : kindOp o = .reads) (e : opA P h ev o = some (v, h')) (hn : ¬ h'.next = h.next) : ∃ x : Blk, h' = h.push x ∧ ∀ h2 : H, h2.next = h.next → opA P h2 ev o = some (v, h2.push x) := by
  unfold opA at e ⊢
  unfold kindOp at hk
  cases hop : o.op <;> simp only [hop, reduceCtorEq] at e hk ⊢
  case load =>
    split at e
    · exact absurd (by rw [(withH_out e).2]) hn
    · simp at e
  case slice =>
    split at e
    · exact absurd (by rw [(withH_out e).2]) hn
    · simp at e
  case convert =>
    split at e
    · unfold convA at e ⊢
      split at e
      · simp at e; exact absurd (by rw [e.2]) hn
      · simp at e; exact absurd (by rw [e.2]) hn
      · split at e <;> simp only [Option.some.injEq, reduceCtorEq, Prod.mk.injEq] at e
        obtain ⟨rfl, rfl⟩ := e
        exact ⟨_, rfl, fun h2 h3 => by simp only [h3]⟩
      · split at e
        · split at e <;> simp only [Option.some.injEq, reduceCtorEq, Prod.mk.injEq] at e
          exact absurd (by rw [e.2]) hn
        · simp at e
      · split at e
        · simp at e; exact absurd (by rw [e.2]) hn
        · split at e
          · split at e <;> simp only [Option.some.injEq, reduceCtorEq, Prod.mk.injEq] at e
            exact absurd (by rw [e.2]) hn
          · simp at e
        · simp at e
      · split at e
        · simp at e; exact absurd (by rw [e.2]) hn
        · split at e
          · split at e <;> simp only [Option.some.injEq, reduceCtorEq, Prod.mk.injEq] at e
            exact absurd (by rw [e.2]) hn
          · simp at e
        · simp at e
      · split at e <;> simp only [Option.some.injEq, reduceCtorEq, Prod.mk.injEq] at e
        exact absurd (by rw [e.2]) hn
      · simp at e
    · simp at e
  case call c =>
    cases hc : c.callee <;> simp only [hc, kindC, reduceCtorEq] at hk
    rename_i b
    cases b <;> simp [kindB] at hk
end
end Go.Proofs.Ytmeloffdaninmaa
