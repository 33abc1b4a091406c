/-
  The text of a tag and parts, plain.
-/
import Derived.Test.YtpdfalgjmeagjaaVarint
namespace Go.Proofs.Ytpdfalgjmeagjaa
open Go.RowKit
set_option linter.unusedVariables false

/-- The text of a tag and parts. -/
def textF (tag : UInt8) (ls : List (List UInt8)) : List UInt8 := ([75, tag] ++ digs ls.length) ++ ls.flatMap blob
end Go.Proofs.Ytpdfalgjmeagjaa
