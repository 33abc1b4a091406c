/-
  Tables, digests and states held against each other.
-/
import Derived.Test.YtpdfalgjmeagjaaShaSame
import Derived.Laws.StructEq
namespace Go.Proofs.Ytpdfalgjmeagjaa
open Go.RowKit
set_option linter.unusedVariables false

section
variable {P : Program}
theorem eqFields_same (d : Nat) (xs : Array Value) : ∀ fs : List Field, (∀ f ∈ fs, ∃ a, (∀ w, (part f.type xs f.offset).run P w = .ok a w) ∧ ∀ w, (Op.equalIn d f.type a a).run P w = .ok true w) → ∀ w, (Op.eqFields d xs xs fs).run P w = .ok true w
  | [], _, w => rfl
  | f :: fs, h, w => by
    obtain ⟨a, h1, h2⟩ := h f (by simp)
    have ih := eqFields_same d xs fs (fun g hg => h g (by simp [hg]))
    simp only [Op.eqFields]
    split
    · simp only [Sem.run_bind, h1, h2, Result.andThen_ok, Bool.not_true, Bool.false_eq_true, if_false]
      exact ih w
    · exact ih w
theorem run_equalIn_ints (d : Nat) (t e : TypeId) (k : IntKind) (n : Nat) (ht : P.underlying t = some (.array n e)) (he : P.underlying e = some (.int k)) (hn : ∀ w, (sizeOf e).run P w = .ok 1 w) (xs ys : List Int) (hx : xs.length = n) (hy : ys.length = n) (w : World) :
    (Op.equalIn (d + 1 + 1) t (.agg (xs.map (Value.int k)).toArray) (.agg (ys.map (Value.int k)).toArray)).run P w = .ok (xs == ys) w := by
  rw [run_equalIn_array w _ t e n 1 _ _ ht hn, eqElems_ints w _ e k he xs ys (by omega) n 0 (by omega)]
  rfl
end
theorem part_words (t : TypeId) (n off : Nat) (xs : List UInt32) (h1 : ∀ w, (isAgg t).run Try.prog w = .ok true w) (h2 : ∀ w, (sizeOf t).run Try.prog w = .ok n w) (w : World) : (part t (cw xs).toArray off).run Try.prog w = .ok (.agg (cw ((xs.drop off).take n)).toArray) w := by
  simp [part, h1, h2, List.map_take, List.map_drop]
theorem same_words (d : Nat) (t : TypeId) (n : Nat) (ht : Try.prog.underlying t = some (.array n 22)) (xs : List UInt32) (hx : xs.length = n) (w : World) : (Op.equalIn (d + 1 + 1) t (.agg (cw xs).toArray) (.agg (cw xs).toArray)).run Try.prog w = .ok true w := by
  have h := run_equalIn_ints (P := Try.prog) d t 22 .u32 n ht Try.underlying22 (fun w => by kernel_rfl) (xs.map fun c => (c.toNat : Int)) (xs.map fun c => (c.toNat : Int)) (by simpa using hx) (by simpa using hx) w
  rw [show (xs.map fun c => (c.toNat : Int)).map (Value.int .u32) = cw xs from by simp [cw]] at h
  rw [h]
  simp
theorem rounds_same (first keys : List UInt32) (h1 : first.length = 8) (h2 : keys.length = 64) (w : World) : (Op.equalIn 10000 26 (.agg (cw (first ++ keys)).toArray) (.agg (cw (first ++ keys)).toArray)).run Try.prog w = .ok true w := by
  rw [show (10000 : Nat) = 9999 + 1 from rfl, run_equalIn_struct w 9999 26 _ _ (by kernel_rfl) (by kernel_rfl)]
  refine eqFields_same _ _ _ ?_ w
  intro f hf
  have e1 : ((Try.prog.fieldsOf 26).toList.map fun f => (f.type, f.offset)) = [(23, 0), (24, 8)] := by kernel_rfl
  have e2 : (f.type, f.offset) ∈ [((23 : TypeId), (0 : Nat)), (24, 8)] := by rw [← e1]; exact List.mem_map_of_mem hf
  simp only [List.mem_cons, List.mem_nil_iff, or_false, Prod.mk.injEq] at e2
  rcases e2 with ⟨e3, e4⟩ | ⟨e3, e4⟩
  · rw [e3, e4]
    refine ⟨_, fun w => part_words 23 8 0 (first ++ keys) (fun w => by kernel_rfl) (fun w => by kernel_rfl) w, fun w => ?_⟩
    exact same_words 9997 23 8 Try.underlying23 _ (by simp [h1]) w
  · rw [e3, e4]
    refine ⟨_, fun w => part_words 24 64 8 (first ++ keys) (fun w => by kernel_rfl) (fun w => by kernel_rfl) w, fun w => ?_⟩
    exact same_words 9997 24 64 Try.underlying24 _ (by simp [h1, h2]) w
section
variable {w : World}
theorem neq_rounds (first keys : List UInt32) (h1 : first.length = 8) (h2 : keys.length = 64) (w : World) : (binOp .neq 26 (.agg (cw (first ++ keys)).toArray) (.agg (cw (first ++ keys)).toArray)).run Try.prog w = .ok (.bool false) w := by
  rw [run_neq_struct, rounds_same first keys h1 h2]
  rfl
theorem neq_digest (l : List UInt8) (h : l.length = 32) (w : World) : (binOp .neq 38 (.agg (cb l).toArray) (.agg (cb l).toArray)).run Try.prog w = .ok (.bool false) w := by
  have h1 := run_equalIn_ints (P := Try.prog) 9998 38 5 .u8 32 Try.underlying38 Try.underlying5 (fun w => by kernel_rfl) (l.map fun c => (c.toNat : Int)) (l.map fun c => (c.toNat : Int)) (by simpa using h) (by simpa using h) w
  rw [show (l.map fun c => (c.toNat : Int)).map (Value.int .u8) = cb l from by simp [cb]] at h1
  rw [run_neq_struct, show (10000 : Nat) = 9998 + 1 + 1 from rfl, h1]
  simp
theorem neq_state (l : List UInt32) (h : l.length = 8) (w : World) : (binOp .neq 23 (.agg (cw l).toArray) (.agg (cw l).toArray)).run Try.prog w = .ok (.bool false) w := by
  rw [run_neq_struct, show (10000 : Nat) = 9998 + 1 + 1 from rfl, same_words 9998 23 8 Try.underlying23 l h w]
  rfl
theorem run_neq_of {P : Program} {w : World} {o : Oper} {a : Act} (x y : Operand) (t t' : TypeId) (hop : o.op = .binOp .neq t x y t') (hg : P.eqGuardType P.depth t = false) (u v : Array Value) (hx : a.eval x = .agg u) (hy : a.eval y = .agg v) (h : (binOp .neq t (.agg u) (.agg v)).run P w = .ok (.bool false) w) : (execOp a.eval o).run P w = .ok (.value (.bool false)) w := by
  unfold execOp
  simp [hop, hx, hy, eqGuard, hg, h]
end
end Go.Proofs.Ytpdfalgjmeagjaa
