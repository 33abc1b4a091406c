/-
  No cell of these rows narrows 'for every input' (looked for: loops, veiled, ifaces, maps, wideKeys, modest, calm, conditions, laid).
  DERIVED. THE GIVEN ROWS OF THIS SEAT. 5 by the template 'for every input the law returns true; each argument reads behind the call as it read before'; 0 by the template 'total and deterministic' (their statements: YtfeomfoicibmcaaTotals.lean).
  GIVEN WITH THE SEED: the statements are not yours to turn. If you find one false, say at which input.
  Laid BY PROGRAM, IN A SANDBOX (cutbox-rows.mjs): the forced cells as the released guide's own fill.sh prints them over the translation 2f7a0996121ac814… (all of the seat's roots in one cut). By AI agents, Wed Nov 11 2026. No macro, syntax, notation, axiom, sorry.
-/
import Derived.Test.YtfeomfoicibmcaaChecked
import GoSem.Claim
import GoSem.ClaimJoined
import GoSem.ClaimMapViews
import Derived.JoinedTies
import Derived.KernelRfl
namespace Go.Proofs.Ytfeomfoicibmcaa
/- THE CELL 'sum', in the pinned program and in every row, IS THE sha256 OF THE DUMP (.gsa) THAT YtfeomfoicibmcaaProg.lean LOADS. Nothing in Lean hashes anything: it is a label: what it is worth is what the hold of that sum in a sandbox is worth. -/
noncomputable def Try.pinned : Pinned := { name := "ytfeomfoicibmcaa", sum := "2f7a0996121ac814d7a713d2e91e9dce1173db05331d8b5e30efb0281a5d8357", checked := Try.checked }
namespace Rows
def none {H : Type} : Left H := { results := [], args := [] }

/-- 'blockhouselaw13.CodeTells': WHATEVER THE INPUT: true; the input reads as it did. -/
def codeTellsSpec : ChangeSpec := { name := "codeTells", fn := fun _ => fun
  | [d1, d2] => { results := [.lit (.bool true)], args := [d1, d2] }
  | _ => none }
def codeTellsRow : OpenClaim := { program := "ytfeomfoicibmcaa", sum := "2f7a0996121ac814d7a713d2e91e9dce1173db05331d8b5e30efb0281a5d8357", func := "blockhouse/blockhouselaw13.CodeTells", spec := "codeTells", unfollowed := true, recurses := true, apart := false }
def CodeTellsSaid : Prop := codeTellsRow.holds Try.pinned (OpenSpec.ofChange codeTellsSpec)

/-- ITS FALSE NEIGHBOUR: 'it returns false'. Refute it at one input. -/
def codeTellsWrong : ChangeSpec := { name := "codeTells", fn := fun _ => fun
  | [d1, d2] => { results := [.lit (.bool false)], args := [d1, d2] }
  | _ => none }
def CodeTellsWrongFalsely : Prop := codeTellsRow.holds Try.pinned (OpenSpec.ofChange codeTellsWrong)

/-- 'blockhouselaw13.CodeBack': WHATEVER THE INPUT: true; the input reads as it did. -/
def codeBackSpec : ChangeSpec := { name := "codeBack", fn := fun _ => fun
  | [d1, d2] => { results := [.lit (.bool true)], args := [d1, d2] }
  | _ => none }
def codeBackRow : OpenClaim := { program := "ytfeomfoicibmcaa", sum := "2f7a0996121ac814d7a713d2e91e9dce1173db05331d8b5e30efb0281a5d8357", func := "blockhouse/blockhouselaw13.CodeBack", spec := "codeBack", unfollowed := true, recurses := true, apart := false }
def CodeBackSaid : Prop := codeBackRow.holds Try.pinned (OpenSpec.ofChange codeBackSpec)

/-- ITS FALSE NEIGHBOUR: 'it returns false'. Refute it at one input. -/
def codeBackWrong : ChangeSpec := { name := "codeBack", fn := fun _ => fun
  | [d1, d2] => { results := [.lit (.bool false)], args := [d1, d2] }
  | _ => none }
def CodeBackWrongFalsely : Prop := codeBackRow.holds Try.pinned (OpenSpec.ofChange codeBackWrong)

/-- 'blockhouselaw13.CodeWraps': WHATEVER THE INPUT: true; the input reads as it did. -/
def codeWrapsSpec : ChangeSpec := { name := "codeWraps", fn := fun _ => fun
  | [d1, d2, d3] => { results := [.lit (.bool true)], args := [d1, d2, d3] }
  | _ => none }
def codeWrapsRow : OpenClaim := { program := "ytfeomfoicibmcaa", sum := "2f7a0996121ac814d7a713d2e91e9dce1173db05331d8b5e30efb0281a5d8357", func := "blockhouse/blockhouselaw13.CodeWraps", spec := "codeWraps", unfollowed := true, recurses := true, apart := false }
def CodeWrapsSaid : Prop := codeWrapsRow.holds Try.pinned (OpenSpec.ofChange codeWrapsSpec)

/-- ITS FALSE NEIGHBOUR: 'it returns false'. Refute it at one input. -/
def codeWrapsWrong : ChangeSpec := { name := "codeWraps", fn := fun _ => fun
  | [d1, d2, d3] => { results := [.lit (.bool false)], args := [d1, d2, d3] }
  | _ => none }
def CodeWrapsWrongFalsely : Prop := codeWrapsRow.holds Try.pinned (OpenSpec.ofChange codeWrapsWrong)

/-- 'blockhouselaw13.CodeCuts': WHATEVER THE INPUT: true; the input reads as it did. -/
def codeCutsSpec : ChangeSpec := { name := "codeCuts", fn := fun _ => fun
  | [d1, d2, d3, d4] => { results := [.lit (.bool true)], args := [d1, d2, d3, d4] }
  | _ => none }
def codeCutsRow : OpenClaim := { program := "ytfeomfoicibmcaa", sum := "2f7a0996121ac814d7a713d2e91e9dce1173db05331d8b5e30efb0281a5d8357", func := "blockhouse/blockhouselaw13.CodeCuts", spec := "codeCuts", unfollowed := true, recurses := true, apart := false }
def CodeCutsSaid : Prop := codeCutsRow.holds Try.pinned (OpenSpec.ofChange codeCutsSpec)

/-- ITS FALSE NEIGHBOUR: 'it returns false'. Refute it at one input. -/
def codeCutsWrong : ChangeSpec := { name := "codeCuts", fn := fun _ => fun
  | [d1, d2, d3, d4] => { results := [.lit (.bool false)], args := [d1, d2, d3, d4] }
  | _ => none }
def CodeCutsWrongFalsely : Prop := codeCutsRow.holds Try.pinned (OpenSpec.ofChange codeCutsWrong)

/-- 'blockhouselaw13.CodeOdd': WHATEVER THE INPUT: true; the input reads as it did. -/
def codeOddSpec : ChangeSpec := { name := "codeOdd", fn := fun _ => fun
  | [d1, d2, d3] => { results := [.lit (.bool true)], args := [d1, d2, d3] }
  | _ => none }
def codeOddRow : OpenClaim := { program := "ytfeomfoicibmcaa", sum := "2f7a0996121ac814d7a713d2e91e9dce1173db05331d8b5e30efb0281a5d8357", func := "blockhouse/blockhouselaw13.CodeOdd", spec := "codeOdd", unfollowed := true, recurses := true, apart := false }
def CodeOddSaid : Prop := codeOddRow.holds Try.pinned (OpenSpec.ofChange codeOddSpec)

/-- ITS FALSE NEIGHBOUR: 'it returns false'. Refute it at one input. -/
def codeOddWrong : ChangeSpec := { name := "codeOdd", fn := fun _ => fun
  | [d1, d2, d3] => { results := [.lit (.bool false)], args := [d1, d2, d3] }
  | _ => none }
def CodeOddWrongFalsely : Prop := codeOddRow.holds Try.pinned (OpenSpec.ofChange codeOddWrong)

/- THE SECOND FORM. 'bulk': how many values and letters a reading holds, each counted each time it is reached (what is shared counts as often as it is met; a slice's spare places count too). A statement '..UptoSaid' is the law's where the arguments, and the package variables that the reading takes, are together of bulk at most 1048576: NARROWER than '..Said'. Prove '..Said' where nothing that the law and all that it calls make is longer than what came in: it says more and counts as full. Else prove '..UptoSaid'. A law counts once. -/
mutual
def uptoBulk {H : Type} : DataW H → Nat
  | .lit (.string bytes) => bytes.length + 1
  | .lit _ => 1
  | .nil => 1
  | .ptr d => uptoBulk d + 1
  | .slice elems spare => uptoBulkAll elems + uptoBulkAll spare + 1
  | .agg parts => uptoBulkAll parts + 1
  | .iface _ d => uptoBulk d + 1
  | .map entries => uptoBulkEntries entries + 1
  | .held _ => 1
def uptoBulkAll {H : Type} : List (DataW H) → Nat
  | [] => 0
  | d :: r => uptoBulk d + uptoBulkAll r
def uptoBulkEntries {H : Type} : List (Lit × DataW H) → Nat
  | [] => 0
  | x :: r => uptoBulkEntry x + uptoBulkEntries r
def uptoBulkEntry {H : Type} : Lit × DataW H → Nat
  | (.string bytes, d) => bytes.length + uptoBulk d + 1
  | (_, d) => uptoBulk d + 1
 end
def uptoSmall : (H : Type) → List (DataW H) → Bool := fun _ ds => decide (uptoBulkAll ds ≤ 1048576)
def OpenSpec.upto (s : _root_.Go.ChangeSpec) : _root_.Go.OpenSpec := { _root_.Go.OpenSpec.ofChange s with cond := some uptoSmall }

/-- 'blockhouselaw13.CodeTells', WHERE WHAT IT READS IS OF BULK AT MOST 1048576: true; the input reads as it did. -/
def codeTellsUptoRow : OpenClaim := { program := "ytfeomfoicibmcaa", sum := "2f7a0996121ac814d7a713d2e91e9dce1173db05331d8b5e30efb0281a5d8357", func := "blockhouse/blockhouselaw13.CodeTells", spec := "codeTells", unfollowed := true, recurses := true, apart := false, narrowed := true }
def CodeTellsUptoSaid : Prop := codeTellsUptoRow.holds Try.pinned (OpenSpec.upto codeTellsSpec)

/-- 'blockhouselaw13.CodeBack', WHERE WHAT IT READS IS OF BULK AT MOST 1048576: true; the input reads as it did. -/
def codeBackUptoRow : OpenClaim := { program := "ytfeomfoicibmcaa", sum := "2f7a0996121ac814d7a713d2e91e9dce1173db05331d8b5e30efb0281a5d8357", func := "blockhouse/blockhouselaw13.CodeBack", spec := "codeBack", unfollowed := true, recurses := true, apart := false, narrowed := true }
def CodeBackUptoSaid : Prop := codeBackUptoRow.holds Try.pinned (OpenSpec.upto codeBackSpec)

/-- 'blockhouselaw13.CodeWraps', WHERE WHAT IT READS IS OF BULK AT MOST 1048576: true; the input reads as it did. -/
def codeWrapsUptoRow : OpenClaim := { program := "ytfeomfoicibmcaa", sum := "2f7a0996121ac814d7a713d2e91e9dce1173db05331d8b5e30efb0281a5d8357", func := "blockhouse/blockhouselaw13.CodeWraps", spec := "codeWraps", unfollowed := true, recurses := true, apart := false, narrowed := true }
def CodeWrapsUptoSaid : Prop := codeWrapsUptoRow.holds Try.pinned (OpenSpec.upto codeWrapsSpec)

/-- 'blockhouselaw13.CodeCuts', WHERE WHAT IT READS IS OF BULK AT MOST 1048576: true; the input reads as it did. -/
def codeCutsUptoRow : OpenClaim := { program := "ytfeomfoicibmcaa", sum := "2f7a0996121ac814d7a713d2e91e9dce1173db05331d8b5e30efb0281a5d8357", func := "blockhouse/blockhouselaw13.CodeCuts", spec := "codeCuts", unfollowed := true, recurses := true, apart := false, narrowed := true }
def CodeCutsUptoSaid : Prop := codeCutsUptoRow.holds Try.pinned (OpenSpec.upto codeCutsSpec)

/-- 'blockhouselaw13.CodeOdd', WHERE WHAT IT READS IS OF BULK AT MOST 1048576: true; the input reads as it did. -/
def codeOddUptoRow : OpenClaim := { program := "ytfeomfoicibmcaa", sum := "2f7a0996121ac814d7a713d2e91e9dce1173db05331d8b5e30efb0281a5d8357", func := "blockhouse/blockhouselaw13.CodeOdd", spec := "codeOdd", unfollowed := true, recurses := true, apart := false, narrowed := true }
def CodeOddUptoSaid : Prop := codeOddUptoRow.holds Try.pinned (OpenSpec.upto codeOddSpec)

end Rows
end Go.Proofs.Ytfeomfoicibmcaa
