/-
  What blockhouselow.Pick answers.
-/
import Derived.Test.YtcfjbllmaejiaaaMem
import Derived.Test.YtcfjbllmaejiaaaLeaf
namespace Go.Proofs.Ytcfjbllmaejiaaa
open Go.RowKit
set_option linter.unusedVariables false
theorem wrap64_' (x : Int) (h : 0 ≤ x) (h' : x < 1000000) : IntKind.i64.wrap x = x := wrap_small x h (by omega)
end Go.Proofs.Ytcfjbllmaejiaaa
