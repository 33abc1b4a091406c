/-
  When two variables, and two instructions, are one to '=='.
-/
import Derived.Test.YtangblcfdboghaaCodeMem
import Derived.Test.YtangblcfdboghaaCodeIns
namespace Go.Proofs.Ytangblcfdboghaa
open Go.RowKit
set_option linter.unusedVariables false
set_option linter.unusedSimpArgs false

theorem eq_int (d : Nat) (t : TypeId) (k : IntKind) (a b : Int) (w : World) (h : Try.prog.underlying t = some (.int k)) : (Op.equalIn (d + 1) t (.int k a) (.int k b)).run Try.prog w = .ok (a == b) w := by
  simp [Op.equalIn, run_underlying h]
theorem eq_str (d : Nat) (t : TypeId) (a b : List UInt8) (w : World) (h : Try.prog.underlying t = some .string) : (Op.equalIn (d + 1) t (sv a) (sv b)).run Try.prog w = .ok (decide (a = b)) w := by
  by_cases e : a = b
  · subst e
    have : ((⟨a.toArray⟩ : ByteArray) == ⟨a.toArray⟩) = true := (Go.MapKept.bytes_beq _ _).2 rfl
    simp [Op.equalIn, run_underlying h, this]
  · have : ((⟨a.toArray⟩ : ByteArray) == ⟨b.toArray⟩) = false := by
      rw [Bool.eq_false_iff]
      intro x
      have x := (Go.MapKept.bytes_beq _ _).1 x
      injection x with x
      exact e (congrArg Array.toList x)
    simp [Op.equalIn, run_underlying h, e, this]
theorem part_of (t : TypeId) (xs : Array Value) (off : Nat) (u : Value) (w : World) (ha : (isAgg t).run Try.prog w = .ok false w) (h : xs[off]? = some u) : (part t xs off).run Try.prog w = .ok u w := by
  simp [part, ha, h]
set_option maxRecDepth 100000 in
set_option maxHeartbeats 2000000 in
theorem eq_var (v u : Vr) (w : World) : (Op.equal 56 (.agg v.cells.toArray) (.agg u.cells.toArray)).run Try.prog w = .ok (decide (v = u)) w := by
  have U := Try.underlying56
  have hst : Try.prog.stoodInHeld 56 = false := by kernel_rfl
  have i1 : ∀ w, (isAgg 9).run Try.prog w = .ok false w := fun w => by kernel_rfl
  have i2 : ∀ w, (isAgg 54).run Try.prog w = .ok false w := fun w => by kernel_rfl
  have i3 : ∀ w, (isAgg 28).run Try.prog w = .ok false w := fun w => by kernel_rfl
  have i4 : ∀ w, (isAgg 2).run Try.prog w = .ok false w := fun w => by kernel_rfl
  have e1 := eq_str 9998 9 v.name u.name w Try.underlying9
  have e2 := eq_int 9998 54 .u8 v.cls u.cls w (by kernel_rfl)
  have e3 := eq_int 9998 28 .u8 v.typ u.typ w (by kernel_rfl)
  have e4 := eq_int 9998 2 .i64 v.first u.first w (by kernel_rfl)
  obtain ⟨n, c, t, f⟩ := v
  obtain ⟨n', c', t', f'⟩ := u
  rw [Op.equal, Op.maxDepth, show (10000 : Nat) = (9998 + 1) + 1 from rfl]
  obtain ⟨D, hD⟩ : ∃ D, 9998 + 1 = D := ⟨_, rfl⟩
  rw [hD] at e1 e2 e3 e4 ⊢
  clear hD
  simp only [Op.equalIn, Sem.run_bind, run_underlying U, Result.andThen_ok, run_program, hst, Bool.false_eq_true, if_false, List.forIn_toArray]
  have p : ∀ (t : TypeId) (x : Vr) (o : Nat) (q : Value), (∀ w, (isAgg t).run Try.prog w = .ok false w) → x.cells[o]? = some q → (part t x.cells.toArray o).run Try.prog w = .ok q w := fun t x o q hi hq => part_of t _ o q w (hi w) (by simpa using hq)
  simp only [] at e1 e2 e3 e4
  have p1 := fun x => p _ x 0 _ i1 rfl
  have p2 := fun x => p _ x 1 _ i2 rfl
  have p3 := fun x => p _ x 2 _ i3 rfl
  have p4 := fun x => p _ x 3 _ i4 rfl
  by_cases h1 : n = n'
  · subst h1
    by_cases h2 : c = c'
    · subst h2
      by_cases h3 : t = t'
      · subst h3
        by_cases h4 : f = f'
        · subst h4
          simp [List.forIn_cons, p1, p2, p3, p4, e1, e2, e3, e4]
        · simp [List.forIn_cons, p1, p2, p3, p4, e1, e2, e3, e4, h4]
      · have q : ¬ ((t : Int) = (t' : Int)) := by omega
        simp [List.forIn_cons, p1, p2, p3, p4, e1, e2, e3, e4, h3, q]
    · have q : ¬ ((c : Int) = (c' : Int)) := by omega
      simp [List.forIn_cons, p1, p2, p3, p4, e1, e2, e3, e4, h2, q]
  · simp [List.forIn_cons, p1, p2, p3, p4, e1, e2, e3, e4, h1]
set_option maxRecDepth 100000 in
set_option maxHeartbeats 2000000 in
theorem eq_ins (v u : Jn) (w : World) : (Op.equal 53 (.agg v.cells.toArray) (.agg u.cells.toArray)).run Try.prog w = .ok (decide (v = u)) w := by
  have U := Try.underlying53
  have hst : Try.prog.stoodInHeld 53 = false := by kernel_rfl
  have i1 : ∀ w, (isAgg 51).run Try.prog w = .ok false w := fun w => by kernel_rfl
  have i2 : ∀ w, (isAgg 28).run Try.prog w = .ok false w := fun w => by kernel_rfl
  have i3 : ∀ w, (isAgg 3).run Try.prog w = .ok false w := fun w => by kernel_rfl
  have i4 : ∀ w, (isAgg 2).run Try.prog w = .ok false w := fun w => by kernel_rfl
  have e1 := eq_int 9998 51 .u8 v.op u.op w (by kernel_rfl)
  have e2 := eq_int 9998 28 .u8 v.t u.t w (by kernel_rfl)
  have e3 := eq_int 9998 3 .i64 v.a u.a w (by kernel_rfl)
  have e4 := eq_int 9998 2 .i64 v.n u.n w (by kernel_rfl)
  obtain ⟨n, c, t, f⟩ := v
  obtain ⟨n', c', t', f'⟩ := u
  rw [Op.equal, Op.maxDepth, show (10000 : Nat) = (9998 + 1) + 1 from rfl]
  obtain ⟨D, hD⟩ : ∃ D, 9998 + 1 = D := ⟨_, rfl⟩
  rw [hD] at e1 e2 e3 e4 ⊢
  clear hD
  simp only [Op.equalIn, Sem.run_bind, run_underlying U, Result.andThen_ok, run_program, hst, Bool.false_eq_true, if_false, List.forIn_toArray]
  have p : ∀ (t : TypeId) (x : Jn) (o : Nat) (q : Value), (∀ w, (isAgg t).run Try.prog w = .ok false w) → x.cells[o]? = some q → (part t x.cells.toArray o).run Try.prog w = .ok q w := fun t x o q hi hq => part_of t _ o q w (hi w) (by simpa using hq)
  simp only [] at e1 e2 e3 e4
  have p1 := fun x => p _ x 0 _ i1 rfl
  have p2 := fun x => p _ x 1 _ i2 rfl
  have p3 := fun x => p _ x 2 _ i3 rfl
  have p4 := fun x => p _ x 3 _ i4 rfl
  by_cases h1 : n = n'
  · subst h1
    by_cases h2 : c = c'
    · subst h2
      by_cases h3 : t = t'
      · subst h3
        by_cases h4 : f = f'
        · subst h4
          simp [List.forIn_cons, p1, p2, p3, p4, e1, e2, e3, e4]
        · simp [List.forIn_cons, p1, p2, p3, p4, e1, e2, e3, e4, h4]
      · simp [List.forIn_cons, p1, p2, p3, p4, e1, e2, e3, e4, h3]
    · have q : ¬ ((c : Int) = (c' : Int)) := by omega
      simp [List.forIn_cons, p1, p2, p3, p4, e1, e2, e3, e4, h2, q]
  · have q : ¬ ((n : Int) = (n' : Int)) := by omega
    simp [List.forIn_cons, p1, p2, p3, p4, e1, e2, e3, e4, h1, q]
theorem neq_var (v u : Vr) (w : World) : (binOp .neq 56 (.agg v.cells.toArray) (.agg u.cells.toArray)).run Try.prog w = .ok (.bool (!(decide (v = u)))) w := by
  have := eq_var v u w
  simp [binOp, this]
theorem neq_ins (v u : Jn) (w : World) : (binOp .neq 53 (.agg v.cells.toArray) (.agg u.cells.toArray)).run Try.prog w = .ok (.bool (!(decide (v = u)))) w := by
  have := eq_ins v u w
  simp [binOp, this]
end Go.Proofs.Ytangblcfdboghaa
