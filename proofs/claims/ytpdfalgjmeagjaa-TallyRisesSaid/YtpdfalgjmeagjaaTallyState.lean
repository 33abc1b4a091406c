/-
  What a tally's words tell, as a value of many cells: how it is built.
-/
import Derived.Test.YtpdfalgjmeagjaaTallyMem
import Derived.Laws.Tables
namespace Go.Proofs.Ytpdfalgjmeagjaa
open Go.RowKit
set_option linter.unusedVariables false

/-- The cells of a state. -/
def stL (s : Int) (c : Nat) (l : List UInt32) : List Value := .int .i64 s :: .int .i64 (c : Int) :: cw l
theorem stL_len (s : Int) (c : Nat) (l : List UInt32) : (stL s c l).length = l.length + 2 := by simp [stL]
theorem stL_one (s : Int) (c : Nat) (l : List UInt32) : ∀ u ∈ stL s c l, u.oneCell' = true := by
  intro u hu
  simp only [stL, List.mem_cons] at hu
  rcases hu with rfl | rfl | hu
  · rfl
  · rfl
  · exact cw_one l u hu
def zeros64 : List UInt32 := List.replicate 64 0
theorem built_state (parts : List (Nat × Value)) : Try.prog.built 199 parts = Instr.fill (#[(0, 1), (1, 1), (2, 64)][·]?) (stL 0 0 zeros64).toArray parts := by kernel_rfl
theorem fold_set (off : Nat) : ∀ (xs : List Value) (k : Nat) (cells : Array Value), off + k + xs.length ≤ cells.size →
    ((xs.zipIdx k).foldl (fun cs (x : Value × Nat) => cs.setIfInBounds (off + x.2) x.1) cells).toList = splice cells.toList (off + k) xs
  | [], k, cells, _ => by simp [splice]
  | x :: xs, k, cells, h => by
    rw [List.zipIdx_cons, List.foldl_cons, fold_set off xs (k + 1) _ (by simp at h ⊢; omega)]
    simp only [List.length_cons] at h
    have hk : off + k < cells.toList.length := by simp; omega
    simp only [Array.toList_setIfInBounds]
    unfold splice
    rw [List.length_cons, show off + (k + 1) + xs.length = off + k + (xs.length + 1) from by omega, List.drop_set_of_lt (by omega), List.take_set, show off + (k + 1) = (off + k) + 1 from by omega, List.take_add_one, List.set_append_right _ _ (by simp; omega)]
    simp only [List.length_take]
    rw [Nat.min_eq_left (by omega), Nat.sub_self, List.getElem?_eq_getElem hk]
    simp
theorem run_built_state (s : Int) (c : Nat) (l : List UInt32) (hl : l.length = 64) (w : World) : (Instr.build 199 #[(0, .int .i64 s), (1, .int .i64 (c : Int)), (2, .agg (cw l).toArray)]).run Try.prog w = .ok (.agg (stL s c l).toArray) w := by
  refine run_build w _ _ _ ?_
  rw [built_state]
  have e1 : Instr.fill (#[(0, 1), (1, 1), (2, 64)][·]?) (stL 0 0 zeros64).toArray [(0, .int .i64 s), (1, .int .i64 (c : Int)), (2, .agg (cw l).toArray)] = Instr.fill (#[(0, 1), (1, 1), (2, 64)][·]?) (stL s c zeros64).toArray [(2, .agg (cw l).toArray)] := by kernel_rfl
  have hz : (stL s c zeros64).length = 66 := by rw [stL_len]; rfl
  show Instr.fill (#[(0, 1), (1, 1), (2, 64)][·]?) (stL 0 0 zeros64).toArray [(0, .int .i64 s), (1, .int .i64 (c : Int)), (2, .agg (cw l).toArray)] = _
  rw [e1]
  simp only [Instr.fill]
  have e3 : (Value.agg (cw l).toArray).cells.size = 64 := by simp [Value.cells, hl]
  show (if ((decide ((Value.agg (cw l).toArray).cells.size ≠ 64) || decide (2 + (Value.agg (cw l).toArray).cells.size > (stL s c zeros64).toArray.size)) = true) then none else some (Array.foldl (fun cs x => cs.setIfInBounds (2 + x.snd) x.fst) (stL s c zeros64).toArray (Value.agg (cw l).toArray).cells.zipIdx)) = some (stL s c l).toArray
  rw [if_neg (by simp [e3, hz])]
  congr 1
  apply Array.toList_inj.1
  rw [← Array.foldl_toList, Array.toList_zipIdx]
  have := fold_set 2 (cw l) 0 (stL s c zeros64).toArray (by simp [hl, hz])
  refine this.trans ?_
  simp [splice, stL, hl, zeros64]
theorem agg_state (s : Int) (c : Nat) (l : List UInt32) (hl : l.length = 64) : List.foldl (fun cs (x : Value × Nat) => cs.setIfInBounds (2 + x.2) x.1) ((Try.zeroCells199.setIfInBounds 0 (.int .i64 s)).setIfInBounds 1 (.int .i64 (c : Int))) (cw l).zipIdx = (stL s c l).toArray := by
  have e1 : (Try.zeroCells199.setIfInBounds 0 (.int .i64 s)).setIfInBounds 1 (.int .i64 (c : Int)) = (stL s c zeros64).toArray := by kernel_rfl
  have hz : (stL s c zeros64).length = 66 := by rw [stL_len]; rfl
  rw [e1]
  apply Array.toList_inj.1
  refine (fold_set 2 (cw l) 0 (stL s c zeros64).toArray (by simp [hl, hz])).trans ?_
  simp [splice, stL, hl, zeros64]
/-- A state is built of its three parts. -/
theorem wpList_bstate {w : World} {ops : Array Oper} {rest : List Oper} {o : Oper} {a : Act} {Q : Exit → Act → World → Prop} (hg : o.guard = none) (x y z : Operand) (hop : o.op = .build 199 #[(0, x), (1, y), (2, z)]) (s : Int) (c : Nat) (l : List UInt32)
    (hx : a.eval x = .int .i64 s) (hy : a.eval y = .int .i64 (c : Int)) (hz : a.eval z = .agg (cw l).toArray) (hl : l.length = 64) (hK : wpList Try.prog ops Q rest (a.put o.dst (.agg (stL s c l).toArray)) w) : wpList Try.prog ops Q (o :: rest) a w := by
  refine wpList_plain hg fun K hK' => ?_
  have hrun : (execOp a.eval o).run Try.prog w = .ok (.value (.agg (stL s c l).toArray)) w := by
    have h := run_built_state s c l hl w
    simp only [execOp, hop]
    simp only [List.map_toArray, List.map_cons, List.map_nil, hx, hy, hz, Sem.run_bind]
    rw [h]
    rfl
  unfold Oper.wp
  rw [hrun]
  exact hK' _ _ hK
theorem run_built_none (w : World) : (Instr.build 199 #[(0, .int .i64 (-1))]).run Try.prog w = .ok (.agg (stL (-1) 0 zeros64).toArray) w := run_build w _ _ _ (by kernel_rfl)
theorem run_built_zero (w : World) : (Instr.build 199 #[]).run Try.prog w = .ok (.agg (stL 0 0 zeros64).toArray) w := run_build w _ _ _ (by kernel_rfl)
end Go.Proofs.Ytpdfalgjmeagjaa
