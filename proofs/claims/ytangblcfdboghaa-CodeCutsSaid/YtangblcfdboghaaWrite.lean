/-
  What Uint, Word and Blob of package bytes answer, for every input: the digits of a number, the four bytes of a word, a string with its length, behind what was handed in, in new memory.
-/
import Derived.Test.YtangblcfdboghaaWriteU
import Derived.Test.YtangblcfdboghaaSeesLit
import Derived.Test.YtangblcfdboghaaPut
import Derived.Test.YtangblcfdboghaaLeaf
namespace Go.Proofs.Ytangblcfdboghaa
open Go.RowKit
set_option linter.unusedVariables false

theorem wd_get (x k : Nat) (hk : k < 4) : (wd x)[k]'(by rw [len_wd]; exact hk) = byteAt x k := by
  match k, hk with
  | 0, _ => rfl
  | 1, _ => rfl
  | 2, _ => rfl
  | 3, _ => rfl

end Go.Proofs.Ytangblcfdboghaa
