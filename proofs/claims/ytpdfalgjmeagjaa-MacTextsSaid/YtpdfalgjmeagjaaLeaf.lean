/-
  What the inner functions of package bytes answer, for every input: how many digits a number has, the bytes of a word, whether a place is one, whether a digit may be the last.
-/
import Derived.Test.YtpdfalgjmeagjaaDigits
import Derived.Test.YtpdfalgjmeagjaaProg
import Derived.Test.YtpdfalgjmeagjaaGrow
import Derived.Test.YtpdfalgjmeagjaaMem
import Derived.Test.YtpdfalgjmeagjaaPure
namespace Go.Proofs.Ytpdfalgjmeagjaa
open Go.RowKit
set_option linter.unusedVariables false


set_option maxHeartbeats 400000 in
theorem byteOf_any (n i : Nat) (w : World) (hn : n < 4294967296) (hi : i < 4) :
    Calls Try.prog 210 #[.int .u32 (n : Int), .int .i64 (i : Int)] w fun e w' => e = .returned (.int .u8 ((byteAt n i).toNat : Int)) ∧ w = w' := by
  go_enter Try.func210, Try.ntmps210
  go_wp2
  go_ret
  exact ⟨ret_int (byteAt_nat n i).symm, rfl⟩

end Go.Proofs.Ytpdfalgjmeagjaa
