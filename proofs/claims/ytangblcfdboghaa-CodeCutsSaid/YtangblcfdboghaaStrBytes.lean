/-
  A new variable of one cell, and the bytes of a string, as laws of the walk.
-/
import Derived.Test.YtangblcfdboghaaCodeMem
import Derived.Lib.ConvBytes
namespace Go.Proofs.Ytangblcfdboghaa
open Go.RowKit
set_option linter.unusedVariables false
section
variable {P : Program} {w : World} {ops : Array Oper} {rest : List Oper} {o : Oper} {a : Act} {Q : Exit → Act → World → Prop}
theorem run_alloc_zero1 (T : TypeId) (z : Value) (hc : z.cells = #[z]) (hz : ((P.info? T).map (·.zero)) = some (some z)) : (Instr.alloc T true (.tuple #[])).run P w = .ok (.pointer (some ⟨w.heap.size, 0, none⟩)) (w.alloc (.cells #[z] T (0, 0))) := by
  obtain ⟨i, hi, h1⟩ := Option.map_eq_some_iff.1 hz
  simp [Instr.alloc, zeroValue, typeInfo, hi, h1, newVar, newRow, hc]
theorem wpList_alloc1 (hg : o.guard = none) (T : TypeId) (hop : o.op = .alloc T) (z : Value) (hc : z.cells = #[z]) (hz : ((P.info? T).map (·.zero)) = some (some z))
    (hK : ∀ g w', w.heap.size ≤ g → Fresh w.heap.size T w' (some ⟨g, 0, none⟩) 1 1 [z] → Below w.heap.size w w' → wpList P ops Q rest (a.put o.dst (.pointer (some ⟨g, 0, none⟩))) w') : wpList P ops Q (o :: rest) a w := by
  refine wpList_plain hg fun K hK' => ?_
  have hrun : (execOp a.eval o).run P w = .ok (.value (.pointer (some ⟨w.heap.size, 0, none⟩))) (w.alloc (.cells #[z] T (0, 0))) := by
    simp only [execOp, hop]
    rw [Sem.run_bind, run_alloc_zero1 T z hc hz]
    rfl
  unfold Oper.wp
  rw [hrun]
  exact hK' _ _ (hK _ _ (Nat.le_refl _) (Fresh.new w T [z] 1 rfl (by omega)) (below_alloc _ _))
/-- The bytes of a string, in new memory. -/
theorem wpList_str8 (hg : o.guard = none) (x : Operand) (S T E : TypeId) (hop : o.op = .convert S T x) {u : TypeDesc} (hS : P.underlying S = some u) (hT : P.underlying T = some (.slice E)) (hE : P.underlying E = some (.int .u8)) (l : List UInt8) (hx : a.eval x = sv l)
    (hK : ∀ A c w', Sees w' w'.heap.size A (cb l) → Below w.heap.size w w' → wpList P ops Q rest (a.put o.dst (.slice A l.length c)) w') : wpList P ops Q (o :: rest) a w := by
  refine wpList_plain hg fun K hK' => ?_
  have hrun := Lib.run_convert_string_bytes (P := P) w S T E ⟨l.toArray⟩ hS hT hE
  unfold Oper.wp
  simp only [execOp, hop, hx]
  rw [Sem.run_bind, hrun]
  refine hK' _ _ ?_
  have hsz : (ByteArray.mk l.toArray).size = l.length := by simp [ByteArray.size]
  have := hK (some ⟨w.heap.size, 0, none⟩) (grownCap w (ByteArray.mk l.toArray).size 0 E) (Lib.bytesWorld w E ⟨l.toArray⟩) ?_ ?_
  · rw [hsz] at this ⊢
    exact this
  · intro _
    refine ⟨w.heap.size, 0, rfl, by rw [Lib.bytesWorld_size]; omega, fun j u hu => ?_⟩
    have hj : j < l.length := by have := (List.getElem?_eq_some_iff.1 hu).1; simpa using this
    rw [Nat.zero_add, Lib.bytesWorld_cell w E ⟨l.toArray⟩ j (by rw [hsz]; exact hj)]
    rw [get_cb l j hj] at hu
    rw [← hu]
    simp [List.getD, hj]
  · exact ⟨rfl, rfl, rfl, by rw [Lib.bytesWorld_size]; omega, fun k hk => Lib.bytesWorld_at_old w E _ k hk⟩
end
end Go.Proofs.Ytangblcfdboghaa
