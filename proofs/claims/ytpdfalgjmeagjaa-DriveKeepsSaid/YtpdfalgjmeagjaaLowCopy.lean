/-
  CopyWords of the statements' own small functions.
-/
import Derived.Test.YtpdfalgjmeagjaaLow
namespace Go.Proofs.Ytpdfalgjmeagjaa
open Go.RowKit
set_option linter.unusedVariables false

set_option maxHeartbeats 400000 in
theorem CopyWords_any (A : Option Addr) (c n : Nat) (l : List UInt32) (w : World) (hs : Sees w w.heap.size A (cw l)) (hl : l.length = n) (hn : n ≤ 1099511627776) :
    Calls Try.prog 40 #[.slice A n c] w (Made32 w n l) := by
  have HL := Lib.hid hl
  clear hl
  go_enter Try.func40, Try.ntmps40
  go_wp2_with (at_builtin; refine wpList_app32 rfl (.tmp 4) (.tmp 5) rfl none A 0 0 n c [] l w rfl rfl (fresh_nil _ _ _) hs HL.out (by omega) (Below.refl _ _) ?_; intro A' c' w1 hF1 hB1)
  go_ret
  exact ⟨A', c', rfl, by simpa using hF1, hB1⟩
end Go.Proofs.Ytpdfalgjmeagjaa
