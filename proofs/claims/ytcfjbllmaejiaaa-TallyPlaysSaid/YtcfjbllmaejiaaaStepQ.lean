/-
  A step of a region by facts, guarded, whose operation has a value.
-/
import Derived.Test.YtcfjbllmaejiaaaRegion
namespace Go.Proofs.Ytcfjbllmaejiaaa
open Go.RowKit
set_option linter.unusedVariables false

theorem stepOk_val_q {P : Program} {ops : Array Oper} {Q : Exit → Act → World → Prop} {pr : Nat → Value → World → Prop} {i : Nat} {o : Oper} {a : Act} {w : World} {v : Value} (hw : Region.wanted o (yielded ops a.tmps) = true) (hrun : (execOp a.eval o).run P w = .ok (.value v) w) (hp : pr i v w) : StepOk P ops Q pr i o a w := by
  unfold StepOk
  rw [if_pos hw]
  unfold Oper.wp
  rw [hrun]
  exact ⟨v, rfl, hp, Below.refl _ _⟩
end Go.Proofs.Ytcfjbllmaejiaaa
