/-
  No cell of these rows narrows 'for every input' (looked for: loops, veiled, ifaces, maps, wideKeys, modest, calm, conditions, laid).
  DERIVED. THE GIVEN ROWS OF THIS SEAT. 10 by the template 'for every input the law returns true; each argument reads behind the call as it read before'; 0 by the template 'total and deterministic' (their statements: YthigepkcgijbbaaTotals.lean).
  GIVEN WITH THE SEED: the statements are not yours to turn. If you find one false, say at which input.
  Laid BY PROGRAM, IN A SANDBOX (cutbox-rows.mjs): the forced cells as the released guide's own fill.sh prints them over the translation 763b09dfbcae742d… (all of the seat's roots in one cut). By AI agents, Wed Nov 11 2026. No macro, syntax, notation, axiom, sorry.
-/
import Derived.Test.YthigepkcgijbbaaChecked
import GoSem.Claim
import GoSem.ClaimJoined
import GoSem.ClaimMapViews
import Derived.JoinedTies
import Derived.KernelRfl
namespace Go.Proofs.Ythigepkcgijbbaa
/- THE CELL 'sum', in the pinned program and in every row, IS THE sha256 OF THE DUMP (.gsa) THAT YthigepkcgijbbaaProg.lean LOADS. Nothing in Lean hashes anything: it is a label: what it is worth is what the hold of that sum in a sandbox is worth. -/
noncomputable def Try.pinned : Pinned := { name := "ythigepkcgijbbaa", sum := "763b09dfbcae742df82ba627afc0e7bac6f260a05576306227a661b4af557475", checked := Try.checked }
namespace Rows
def none {H : Type} : Left H := { results := [], args := [] }

/-- 'blockhouselaw03.MacTells': WHATEVER THE INPUT: true; the input reads as it did. -/
def macTellsSpec : ChangeSpec := { name := "macTells", fn := fun _ => fun
  | [d1, d2, d3, d4, d5] => { results := [.lit (.bool true)], args := [d1, d2, d3, d4, d5] }
  | _ => none }
def macTellsRow : OpenClaim := { program := "ythigepkcgijbbaa", sum := "763b09dfbcae742df82ba627afc0e7bac6f260a05576306227a661b4af557475", func := "blockhouse/blockhouselaw03.MacTells", spec := "macTells", apart := false }
def MacTellsSaid : Prop := macTellsRow.holds Try.pinned (OpenSpec.ofChange macTellsSpec)

/-- ITS FALSE NEIGHBOUR: 'it returns false'. Refute it at one input. -/
def macTellsWrong : ChangeSpec := { name := "macTells", fn := fun _ => fun
  | [d1, d2, d3, d4, d5] => { results := [.lit (.bool false)], args := [d1, d2, d3, d4, d5] }
  | _ => none }
def MacTellsWrongFalsely : Prop := macTellsRow.holds Try.pinned (OpenSpec.ofChange macTellsWrong)

/-- 'blockhouselaw03.MacKeys': WHATEVER THE INPUT: true; the input reads as it did. -/
def macKeysSpec : ChangeSpec := { name := "macKeys", fn := fun _ => fun
  | [d1, d2, d3, d4] => { results := [.lit (.bool true)], args := [d1, d2, d3, d4] }
  | _ => none }
def macKeysRow : OpenClaim := { program := "ythigepkcgijbbaa", sum := "763b09dfbcae742df82ba627afc0e7bac6f260a05576306227a661b4af557475", func := "blockhouse/blockhouselaw03.MacKeys", spec := "macKeys", apart := false }
def MacKeysSaid : Prop := macKeysRow.holds Try.pinned (OpenSpec.ofChange macKeysSpec)

/-- ITS FALSE NEIGHBOUR: 'it returns false'. Refute it at one input. -/
def macKeysWrong : ChangeSpec := { name := "macKeys", fn := fun _ => fun
  | [d1, d2, d3, d4] => { results := [.lit (.bool false)], args := [d1, d2, d3, d4] }
  | _ => none }
def MacKeysWrongFalsely : Prop := macKeysRow.holds Try.pinned (OpenSpec.ofChange macKeysWrong)

/-- 'blockhouselaw06.TallyPlays': WHATEVER THE INPUT: true; the input reads as it did. -/
def tallyPlaysSpec : ChangeSpec := { name := "tallyPlays", fn := fun _ => fun
  | [d] => { results := [.lit (.bool true)], args := [d] }
  | _ => none }
def tallyPlaysRow : OpenClaim := { program := "ythigepkcgijbbaa", sum := "763b09dfbcae742df82ba627afc0e7bac6f260a05576306227a661b4af557475", func := "blockhouse/blockhouselaw06.TallyPlays", spec := "tallyPlays", unfollowed := true, recurses := true, apart := false }
def TallyPlaysSaid : Prop := tallyPlaysRow.holds Try.pinned (OpenSpec.ofChange tallyPlaysSpec)

/-- ITS FALSE NEIGHBOUR: 'it returns false'. Refute it at one input. -/
def tallyPlaysWrong : ChangeSpec := { name := "tallyPlays", fn := fun _ => fun
  | [d] => { results := [.lit (.bool false)], args := [d] }
  | _ => none }
def TallyPlaysWrongFalsely : Prop := tallyPlaysRow.holds Try.pinned (OpenSpec.ofChange tallyPlaysWrong)

/-- 'blockhouselaw07.CellPlays': WHATEVER THE INPUT: true; the input reads as it did. -/
def cellPlaysSpec : ChangeSpec := { name := "cellPlays", fn := fun _ => fun
  | [d] => { results := [.lit (.bool true)], args := [d] }
  | _ => none }
def cellPlaysRow : OpenClaim := { program := "ythigepkcgijbbaa", sum := "763b09dfbcae742df82ba627afc0e7bac6f260a05576306227a661b4af557475", func := "blockhouse/blockhouselaw07.CellPlays", spec := "cellPlays", unfollowed := true, recurses := true, apart := false }
def CellPlaysSaid : Prop := cellPlaysRow.holds Try.pinned (OpenSpec.ofChange cellPlaysSpec)

/-- ITS FALSE NEIGHBOUR: 'it returns false'. Refute it at one input. -/
def cellPlaysWrong : ChangeSpec := { name := "cellPlays", fn := fun _ => fun
  | [d] => { results := [.lit (.bool false)], args := [d] }
  | _ => none }
def CellPlaysWrongFalsely : Prop := cellPlaysRow.holds Try.pinned (OpenSpec.ofChange cellPlaysWrong)

/-- 'blockhouselaw08.AreaNumbers': WHATEVER THE INPUT: true; the input reads as it did. -/
def areaNumbersSpec : ChangeSpec := { name := "areaNumbers", fn := fun _ => fun
  | [] => { results := [.lit (.bool true)], args := [] }
  | _ => none }
def areaNumbersRow : OpenClaim := { program := "ythigepkcgijbbaa", sum := "763b09dfbcae742df82ba627afc0e7bac6f260a05576306227a661b4af557475", func := "blockhouse/blockhouselaw08.AreaNumbers", spec := "areaNumbers", unfollowed := true, recurses := true, apart := false }
def AreaNumbersSaid : Prop := areaNumbersRow.holds Try.pinned (OpenSpec.ofChange areaNumbersSpec)

/-- ITS FALSE NEIGHBOUR: 'it returns false'. Refute it at one input. -/
def areaNumbersWrong : ChangeSpec := { name := "areaNumbers", fn := fun _ => fun
  | [] => { results := [.lit (.bool false)], args := [] }
  | _ => none }
def AreaNumbersWrongFalsely : Prop := areaNumbersRow.holds Try.pinned (OpenSpec.ofChange areaNumbersWrong)

/-- 'blockhouselaw08.AreaNone': WHATEVER THE INPUT: true; the input reads as it did. -/
def areaNoneSpec : ChangeSpec := { name := "areaNone", fn := fun _ => fun
  | [d] => { results := [.lit (.bool true)], args := [d] }
  | _ => none }
def areaNoneRow : OpenClaim := { program := "ythigepkcgijbbaa", sum := "763b09dfbcae742df82ba627afc0e7bac6f260a05576306227a661b4af557475", func := "blockhouse/blockhouselaw08.AreaNone", spec := "areaNone", unfollowed := true, recurses := true, apart := false }
def AreaNoneSaid : Prop := areaNoneRow.holds Try.pinned (OpenSpec.ofChange areaNoneSpec)

/-- ITS FALSE NEIGHBOUR: 'it returns false'. Refute it at one input. -/
def areaNoneWrong : ChangeSpec := { name := "areaNone", fn := fun _ => fun
  | [d] => { results := [.lit (.bool false)], args := [d] }
  | _ => none }
def AreaNoneWrongFalsely : Prop := areaNoneRow.holds Try.pinned (OpenSpec.ofChange areaNoneWrong)

/-- 'blockhouselaw08.AreaKeeps': WHATEVER THE INPUT: true; the input reads as it did. -/
def areaKeepsSpec : ChangeSpec := { name := "areaKeeps", fn := fun _ => fun
  | [d1, d2] => { results := [.lit (.bool true)], args := [d1, d2] }
  | _ => none }
def areaKeepsRow : OpenClaim := { program := "ythigepkcgijbbaa", sum := "763b09dfbcae742df82ba627afc0e7bac6f260a05576306227a661b4af557475", func := "blockhouse/blockhouselaw08.AreaKeeps", spec := "areaKeeps", unfollowed := true, recurses := true, apart := false }
def AreaKeepsSaid : Prop := areaKeepsRow.holds Try.pinned (OpenSpec.ofChange areaKeepsSpec)

/-- ITS FALSE NEIGHBOUR: 'it returns false'. Refute it at one input. -/
def areaKeepsWrong : ChangeSpec := { name := "areaKeeps", fn := fun _ => fun
  | [d1, d2] => { results := [.lit (.bool false)], args := [d1, d2] }
  | _ => none }
def AreaKeepsWrongFalsely : Prop := areaKeepsRow.holds Try.pinned (OpenSpec.ofChange areaKeepsWrong)

/-- 'blockhouselaw08.AreaRoom': WHATEVER THE INPUT: true; the input reads as it did. -/
def areaRoomSpec : ChangeSpec := { name := "areaRoom", fn := fun _ => fun
  | [d1, d2] => { results := [.lit (.bool true)], args := [d1, d2] }
  | _ => none }
def areaRoomRow : OpenClaim := { program := "ythigepkcgijbbaa", sum := "763b09dfbcae742df82ba627afc0e7bac6f260a05576306227a661b4af557475", func := "blockhouse/blockhouselaw08.AreaRoom", spec := "areaRoom", unfollowed := true, recurses := true, apart := false }
def AreaRoomSaid : Prop := areaRoomRow.holds Try.pinned (OpenSpec.ofChange areaRoomSpec)

/-- ITS FALSE NEIGHBOUR: 'it returns false'. Refute it at one input. -/
def areaRoomWrong : ChangeSpec := { name := "areaRoom", fn := fun _ => fun
  | [d1, d2] => { results := [.lit (.bool false)], args := [d1, d2] }
  | _ => none }
def AreaRoomWrongFalsely : Prop := areaRoomRow.holds Try.pinned (OpenSpec.ofChange areaRoomWrong)

/-- 'blockhouselaw08.AreaAny': WHATEVER THE INPUT: true; the input reads as it did. -/
def areaAnySpec : ChangeSpec := { name := "areaAny", fn := fun _ => fun
  | [d1, d2, d3] => { results := [.lit (.bool true)], args := [d1, d2, d3] }
  | _ => none }
def areaAnyRow : OpenClaim := { program := "ythigepkcgijbbaa", sum := "763b09dfbcae742df82ba627afc0e7bac6f260a05576306227a661b4af557475", func := "blockhouse/blockhouselaw08.AreaAny", spec := "areaAny", unfollowed := true, recurses := true, apart := false }
def AreaAnySaid : Prop := areaAnyRow.holds Try.pinned (OpenSpec.ofChange areaAnySpec)

/-- ITS FALSE NEIGHBOUR: 'it returns false'. Refute it at one input. -/
def areaAnyWrong : ChangeSpec := { name := "areaAny", fn := fun _ => fun
  | [d1, d2, d3] => { results := [.lit (.bool false)], args := [d1, d2, d3] }
  | _ => none }
def AreaAnyWrongFalsely : Prop := areaAnyRow.holds Try.pinned (OpenSpec.ofChange areaAnyWrong)

/-- 'blockhouselaw08.AreaOwn': WHATEVER THE INPUT: true; the input reads as it did. -/
def areaOwnSpec : ChangeSpec := { name := "areaOwn", fn := fun _ => fun
  | [d] => { results := [.lit (.bool true)], args := [d] }
  | _ => none }
def areaOwnRow : OpenClaim := { program := "ythigepkcgijbbaa", sum := "763b09dfbcae742df82ba627afc0e7bac6f260a05576306227a661b4af557475", func := "blockhouse/blockhouselaw08.AreaOwn", spec := "areaOwn", unfollowed := true, recurses := true, apart := false }
def AreaOwnSaid : Prop := areaOwnRow.holds Try.pinned (OpenSpec.ofChange areaOwnSpec)

/-- ITS FALSE NEIGHBOUR: 'it returns false'. Refute it at one input. -/
def areaOwnWrong : ChangeSpec := { name := "areaOwn", fn := fun _ => fun
  | [d] => { results := [.lit (.bool false)], args := [d] }
  | _ => none }
def AreaOwnWrongFalsely : Prop := areaOwnRow.holds Try.pinned (OpenSpec.ofChange areaOwnWrong)

/- THE SECOND FORM. 'bulk': how many values and letters a reading holds, each counted each time it is reached (what is shared counts as often as it is met; a slice's spare places count too). A statement '..UptoSaid' is the law's where the arguments, and the package variables that the reading takes, are together of bulk at most 1048576: NARROWER than '..Said'. Prove '..Said' where nothing that the law and all that it calls make is longer than what came in: it says more and counts as full. Else prove '..UptoSaid'. A law counts once. -/
mutual
def uptoBulk {H : Type} : DataW H → Nat
  | .lit (.string bytes) => bytes.length + 1
  | .lit _ => 1
  | .nil => 1
  | .ptr d => uptoBulk d + 1
  | .slice elems spare => uptoBulkAll elems + uptoBulkAll spare + 1
  | .agg parts => uptoBulkAll parts + 1
  | .iface _ d => uptoBulk d + 1
  | .map entries => uptoBulkEntries entries + 1
  | .held _ => 1
def uptoBulkAll {H : Type} : List (DataW H) → Nat
  | [] => 0
  | d :: r => uptoBulk d + uptoBulkAll r
def uptoBulkEntries {H : Type} : List (Lit × DataW H) → Nat
  | [] => 0
  | x :: r => uptoBulkEntry x + uptoBulkEntries r
def uptoBulkEntry {H : Type} : Lit × DataW H → Nat
  | (.string bytes, d) => bytes.length + uptoBulk d + 1
  | (_, d) => uptoBulk d + 1
 end
def uptoSmall : (H : Type) → List (DataW H) → Bool := fun _ ds => decide (uptoBulkAll ds ≤ 1048576)
def OpenSpec.upto (s : _root_.Go.ChangeSpec) : _root_.Go.OpenSpec := { _root_.Go.OpenSpec.ofChange s with cond := some uptoSmall }

/-- 'blockhouselaw03.MacTells', WHERE WHAT IT READS IS OF BULK AT MOST 1048576: true; the input reads as it did. -/
def macTellsUptoRow : OpenClaim := { program := "ythigepkcgijbbaa", sum := "763b09dfbcae742df82ba627afc0e7bac6f260a05576306227a661b4af557475", func := "blockhouse/blockhouselaw03.MacTells", spec := "macTells", apart := false, narrowed := true }
def MacTellsUptoSaid : Prop := macTellsUptoRow.holds Try.pinned (OpenSpec.upto macTellsSpec)

/-- 'blockhouselaw03.MacKeys', WHERE WHAT IT READS IS OF BULK AT MOST 1048576: true; the input reads as it did. -/
def macKeysUptoRow : OpenClaim := { program := "ythigepkcgijbbaa", sum := "763b09dfbcae742df82ba627afc0e7bac6f260a05576306227a661b4af557475", func := "blockhouse/blockhouselaw03.MacKeys", spec := "macKeys", apart := false, narrowed := true }
def MacKeysUptoSaid : Prop := macKeysUptoRow.holds Try.pinned (OpenSpec.upto macKeysSpec)

/-- 'blockhouselaw06.TallyPlays', WHERE WHAT IT READS IS OF BULK AT MOST 1048576: true; the input reads as it did. -/
def tallyPlaysUptoRow : OpenClaim := { program := "ythigepkcgijbbaa", sum := "763b09dfbcae742df82ba627afc0e7bac6f260a05576306227a661b4af557475", func := "blockhouse/blockhouselaw06.TallyPlays", spec := "tallyPlays", unfollowed := true, recurses := true, apart := false, narrowed := true }
def TallyPlaysUptoSaid : Prop := tallyPlaysUptoRow.holds Try.pinned (OpenSpec.upto tallyPlaysSpec)

/-- 'blockhouselaw07.CellPlays', WHERE WHAT IT READS IS OF BULK AT MOST 1048576: true; the input reads as it did. -/
def cellPlaysUptoRow : OpenClaim := { program := "ythigepkcgijbbaa", sum := "763b09dfbcae742df82ba627afc0e7bac6f260a05576306227a661b4af557475", func := "blockhouse/blockhouselaw07.CellPlays", spec := "cellPlays", unfollowed := true, recurses := true, apart := false, narrowed := true }
def CellPlaysUptoSaid : Prop := cellPlaysUptoRow.holds Try.pinned (OpenSpec.upto cellPlaysSpec)

/-- 'blockhouselaw08.AreaNumbers', WHERE WHAT IT READS IS OF BULK AT MOST 1048576: true; the input reads as it did. -/
def areaNumbersUptoRow : OpenClaim := { program := "ythigepkcgijbbaa", sum := "763b09dfbcae742df82ba627afc0e7bac6f260a05576306227a661b4af557475", func := "blockhouse/blockhouselaw08.AreaNumbers", spec := "areaNumbers", unfollowed := true, recurses := true, apart := false, narrowed := true }
def AreaNumbersUptoSaid : Prop := areaNumbersUptoRow.holds Try.pinned (OpenSpec.upto areaNumbersSpec)

/-- 'blockhouselaw08.AreaNone', WHERE WHAT IT READS IS OF BULK AT MOST 1048576: true; the input reads as it did. -/
def areaNoneUptoRow : OpenClaim := { program := "ythigepkcgijbbaa", sum := "763b09dfbcae742df82ba627afc0e7bac6f260a05576306227a661b4af557475", func := "blockhouse/blockhouselaw08.AreaNone", spec := "areaNone", unfollowed := true, recurses := true, apart := false, narrowed := true }
def AreaNoneUptoSaid : Prop := areaNoneUptoRow.holds Try.pinned (OpenSpec.upto areaNoneSpec)

/-- 'blockhouselaw08.AreaKeeps', WHERE WHAT IT READS IS OF BULK AT MOST 1048576: true; the input reads as it did. -/
def areaKeepsUptoRow : OpenClaim := { program := "ythigepkcgijbbaa", sum := "763b09dfbcae742df82ba627afc0e7bac6f260a05576306227a661b4af557475", func := "blockhouse/blockhouselaw08.AreaKeeps", spec := "areaKeeps", unfollowed := true, recurses := true, apart := false, narrowed := true }
def AreaKeepsUptoSaid : Prop := areaKeepsUptoRow.holds Try.pinned (OpenSpec.upto areaKeepsSpec)

/-- 'blockhouselaw08.AreaRoom', WHERE WHAT IT READS IS OF BULK AT MOST 1048576: true; the input reads as it did. -/
def areaRoomUptoRow : OpenClaim := { program := "ythigepkcgijbbaa", sum := "763b09dfbcae742df82ba627afc0e7bac6f260a05576306227a661b4af557475", func := "blockhouse/blockhouselaw08.AreaRoom", spec := "areaRoom", unfollowed := true, recurses := true, apart := false, narrowed := true }
def AreaRoomUptoSaid : Prop := areaRoomUptoRow.holds Try.pinned (OpenSpec.upto areaRoomSpec)

/-- 'blockhouselaw08.AreaAny', WHERE WHAT IT READS IS OF BULK AT MOST 1048576: true; the input reads as it did. -/
def areaAnyUptoRow : OpenClaim := { program := "ythigepkcgijbbaa", sum := "763b09dfbcae742df82ba627afc0e7bac6f260a05576306227a661b4af557475", func := "blockhouse/blockhouselaw08.AreaAny", spec := "areaAny", unfollowed := true, recurses := true, apart := false, narrowed := true }
def AreaAnyUptoSaid : Prop := areaAnyUptoRow.holds Try.pinned (OpenSpec.upto areaAnySpec)

/-- 'blockhouselaw08.AreaOwn', WHERE WHAT IT READS IS OF BULK AT MOST 1048576: true; the input reads as it did. -/
def areaOwnUptoRow : OpenClaim := { program := "ythigepkcgijbbaa", sum := "763b09dfbcae742df82ba627afc0e7bac6f260a05576306227a661b4af557475", func := "blockhouse/blockhouselaw08.AreaOwn", spec := "areaOwn", unfollowed := true, recurses := true, apart := false, narrowed := true }
def AreaOwnUptoSaid : Prop := areaOwnUptoRow.holds Try.pinned (OpenSpec.upto areaOwnSpec)

end Rows
end Go.Proofs.Ythigepkcgijbbaa
