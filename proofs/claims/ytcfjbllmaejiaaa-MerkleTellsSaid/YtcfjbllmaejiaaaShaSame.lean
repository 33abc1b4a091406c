/-
  Arrays held against each other; two hashers that are the same.
-/
import Derived.Test.YtcfjbllmaejiaaaShaAwake
import Derived.Laws.StructEq
namespace Go.Proofs.Ytcfjbllmaejiaaa
open Go.RowKit
set_option linter.unusedVariables false
def eqElems (d : Nat) (e : TypeId) (n : Nat) (xs ys : Array Value) : List Nat → Sem Bool
  | [] => pure true
  | i :: l => do
    let a ← part e xs (i * n)
    let b ← part e ys (i * n)
    let r ← Op.equalIn d e a b
    if (!r) = true then pure false else eqElems d e n xs ys l
section
variable {P : Program} (w : World)
theorem run_equalIn_array (d : Nat) (t e : TypeId) (len n : Nat) (xs ys : Array Value) (ht : P.underlying t = some (.array len e)) (hn : ∀ w, (sizeOf e).run P w = .ok n w) :
    (Op.equalIn (d + 1) t (.agg xs) (.agg ys)).run P w = (eqElems d e n xs ys (List.range' 0 len)).run P w := by
  simp only [Op.equalIn, Sem.run_bind, run_underlying ht, Result.andThen_ok, hn]
  rw [Std.Legacy.Range.forIn_eq_forIn_range']
  simp only [Std.Legacy.Range.size, Nat.sub_zero, Nat.add_sub_cancel, Nat.div_one]
  generalize List.range' 0 len = fs
  clear ht
  induction fs generalizing w with
  | nil => simp [eqElems]
  | cons f fs ih =>
    simp only [List.forIn_cons, eqElems, Sem.run_bind, Sem.run_ite]
    generalize (part e xs (f * n)).run P w = r1
    cases r1 with
    | ok a w1 =>
      simp only [Result.andThen_ok]
      generalize (part e ys (f * n)).run P w1 = r2
      cases r2 with
      | ok b w2 =>
        simp only [Result.andThen_ok]
        generalize (Op.equalIn d e a b).run P w2 = r3
        cases r3 with
        | ok r w3 =>
          cases r
          · simp only [Result.andThen_ok, Bool.not_false, if_true, Sem.run_pure]
          · simp only [Result.andThen_ok, Bool.not_true, Bool.false_eq_true, if_false, Sem.run_pure]
            exact ih w3
        | halt x w3 => simp [Result.andThen]
      | halt x w2 => simp [Result.andThen]
    | halt x w1 => simp [Result.andThen]
theorem eqElems_ints (d : Nat) (e : TypeId) (k : IntKind) (he : P.underlying e = some (.int k)) (xs ys : List Int) (hl : xs.length = ys.length) : ∀ (m i : Nat), i + m = xs.length →
    (eqElems (d + 1) e 1 (xs.map (Value.int k)).toArray (ys.map (Value.int k)).toArray (List.range' i m)).run P w = .ok (xs.drop i == ys.drop i) w
  | 0, i, h => by
    rw [List.drop_of_length_le (by omega), List.drop_of_length_le (by omega)]
    rfl
  | m + 1, i, h => by
    have hx : i < xs.length := by omega
    have hy : i < ys.length := by omega
    have hagg : ∀ w, (isAgg e).run P w = .ok false w := fun w => by
      unfold isAgg
      rw [Sem.run_bind, run_underlying he]
      rfl
    have px : ∀ w, (part e (xs.map (Value.int k)).toArray (i * 1)).run P w = .ok (.int k xs[i]) w := fun w => by
      unfold part
      rw [Sem.run_bind, hagg]
      simp [hx]
    have py : ∀ w, (part e (ys.map (Value.int k)).toArray (i * 1)).run P w = .ok (.int k ys[i]) w := fun w => by
      unfold part
      rw [Sem.run_bind, hagg]
      simp [hy]
    have ex : xs.drop i = xs[i] :: xs.drop (i + 1) := List.drop_eq_getElem_cons hx
    have ey : ys.drop i = ys[i] :: ys.drop (i + 1) := List.drop_eq_getElem_cons hy
    rw [List.range'_succ, eqElems, Sem.run_bind, px, Result.andThen_ok, Sem.run_bind, py, Result.andThen_ok, Sem.run_bind, run_equalIn_int w d e k k xs[i] ys[i] he, Result.andThen_ok, Sem.run_ite,
      ex, ey, List.cons_beq_cons]
    by_cases h0 : xs[i] = ys[i]
    · have h1 : (xs[i] == ys[i]) = true := by simpa using h0
      rw [h1, if_neg (by decide), eqElems_ints d e k he xs ys hl m (i + 1) (by omega), Bool.true_and]
    · have h1 : (xs[i] == ys[i]) = false := by simpa using h0
      rw [h1, if_pos (by decide), Bool.false_and]
      rfl
theorem run_equal_ints (t e : TypeId) (k : IntKind) (n : Nat) (ht : P.underlying t = some (.array n e)) (he : P.underlying e = some (.int k)) (hn : ∀ w, (sizeOf e).run P w = .ok 1 w) (xs ys : List Int) (hx : xs.length = n) (hy : ys.length = n) :
    (Op.equal t (.agg (xs.map (Value.int k)).toArray) (.agg (ys.map (Value.int k)).toArray)).run P w = .ok (xs == ys) w := by
  unfold Op.equal
  have hd : Op.maxDepth = (Op.maxDepth - 2) + 1 + 1 := rfl
  rw [hd, run_equalIn_array w _ t e n 1 _ _ ht hn, eqElems_ints w _ e k he xs ys (by omega) n 0 (by omega)]
  rfl
theorem run_eql_ints {o : Oper} {a : Act} (x y : Operand) (t t' e : TypeId) (k : IntKind) (n : Nat) (hop : o.op = .binOp .eql t x y t') (ht : P.underlying t = some (.array n e)) (he : P.underlying e = some (.int k)) (hn : ∀ w, (sizeOf e).run P w = .ok 1 w) (hg : P.eqGuardType P.depth t = false)
    (xs ys : List Int) (hx : a.eval x = .agg (xs.map (Value.int k)).toArray) (hy : a.eval y = .agg (ys.map (Value.int k)).toArray) (lx : xs.length = n) (ly : ys.length = n) : (execOp a.eval o).run P w = .ok (.value (.bool (xs == ys))) w := by
  have h := run_equal_ints w t e k n ht he hn xs ys lx ly
  unfold execOp
  simp [hop, hx, hy, eqGuard, hg, binOp, h]
end
theorem map_beq32 (s t : List UInt32) : ((s.map fun c => (c.toNat : Int)) == t.map fun c => (c.toNat : Int)) = (s == t) := by
  rw [Bool.eq_iff_iff, beq_iff_eq, beq_iff_eq]
  refine ⟨fun h => ?_, fun h => by rw [h]⟩
  exact (List.map_inj_right (fun x y hxy => UInt32.toNat_inj.1 (by omega))).1 h
theorem map_beq8 (s t : List UInt8) : ((s.map fun c => (c.toNat : Int)) == t.map fun c => (c.toNat : Int)) = (s == t) := by
  rw [Bool.eq_iff_iff, beq_iff_eq, beq_iff_eq]
  refine ⟨fun h => ?_, fun h => by rw [h]⟩
  exact (List.map_inj_right (fun x y hxy => UInt8.toNat_inj.1 (by omega))).1 h
section
variable {w : World} {o : Oper} {a : Act}
/-- Two arrays are held against each other. -/
theorem run_eq8w (x y : Operand) (t' : TypeId) (hop : o.op = .binOp .eql 76 x y t') (s t : List UInt32) (hx : a.eval x = .agg (cw s).toArray) (hy : a.eval y = .agg (cw t).toArray) (ls : s.length = 8) (lt : t.length = 8) : (execOp a.eval o).run Try.prog w = .ok (.value (.bool (s == t))) w := by
  rw [← map_beq32]
  exact run_eql_ints w x y 76 t' 75 .u32 8 hop Try.underlying76 Try.underlying75 (fun w => by kernel_rfl) (by kernel_rfl) _ _ (by rw [hx]; simp [cw]) (by rw [hy]; simp [cw]) (by simpa using ls) (by simpa using lt)
theorem run_eq32b (x y : Operand) (t' : TypeId) (hop : o.op = .binOp .eql 84 x y t') (s t : List UInt8) (hx : a.eval x = .agg (cb s).toArray) (hy : a.eval y = .agg (cb t).toArray) (ls : s.length = 32) (lt : t.length = 32) : (execOp a.eval o).run Try.prog w = .ok (.value (.bool (s == t))) w := by
  rw [← map_beq8]
  exact run_eql_ints w x y 84 t' 5 .u8 32 hop Try.underlying84 Try.underlying5 (fun w => by kernel_rfl) (by kernel_rfl) _ _ (by rw [hx]; simp [cb]) (by rw [hy]; simp [cb]) (by simpa using ls) (by simpa using lt)
end
end Go.Proofs.Ytcfjbllmaejiaaa
