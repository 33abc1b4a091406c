/-
  No cell of these rows narrows 'for every input' (looked for: loops, veiled, ifaces, maps, wideKeys, modest, calm, conditions, laid).
  DERIVED. THE GIVEN ROWS OF THIS SEAT. 15 by the template 'for every input the law returns true; each argument reads behind the call as it read before'; 0 by the template 'total and deterministic' (their statements: YtmkpopfaaebgfaaTotals.lean).
  GIVEN WITH THE SEED: the statements are not yours to turn. If you find one false, say at which input.
  Laid BY PROGRAM, IN A SANDBOX (cutbox-rows.mjs): the forced cells as the released guide's own fill.sh prints them over the translation ffcc4cf877dad60e… (all of the seat's roots in one cut). By AI agents, Wed Nov 11 2026. No macro, syntax, notation, axiom, sorry.
-/
import Derived.Test.YtmkpopfaaebgfaaChecked
import GoSem.Claim
import GoSem.ClaimJoined
import GoSem.ClaimMapViews
import Derived.JoinedTies
import Derived.KernelRfl
namespace Go.Proofs.Ytmkpopfaaebgfaa
/- THE CELL 'sum', in the pinned program and in every row, IS THE sha256 OF THE DUMP (.gsa) THAT YtmkpopfaaebgfaaProg.lean LOADS. Nothing in Lean hashes anything: it is a label: what it is worth is what the hold of that sum in a sandbox is worth. -/
noncomputable def Try.pinned : Pinned := { name := "ytmkpopfaaebgfaa", sum := "ffcc4cf877dad60e79770d8eb59c00ee5af327addb6238e9b0b46a3e522c25fc", checked := Try.checked }
namespace Rows
def none {H : Type} : Left H := { results := [], args := [] }

/-- 'blockhouselaw01.BytesTells': WHATEVER THE INPUT: true; the input reads as it did. -/
def bytesTellsSpec : ChangeSpec := { name := "bytesTells", fn := fun _ => fun
  | [d1, d2, d3, d4, d5] => { results := [.lit (.bool true)], args := [d1, d2, d3, d4, d5] }
  | _ => none }
def bytesTellsRow : OpenClaim := { program := "ytmkpopfaaebgfaa", sum := "ffcc4cf877dad60e79770d8eb59c00ee5af327addb6238e9b0b46a3e522c25fc", func := "blockhouse/blockhouselaw01.BytesTells", spec := "bytesTells", apart := false }
def BytesTellsSaid : Prop := bytesTellsRow.holds Try.pinned (OpenSpec.ofChange bytesTellsSpec)

/-- ITS FALSE NEIGHBOUR: 'it returns false'. Refute it at one input. -/
def bytesTellsWrong : ChangeSpec := { name := "bytesTells", fn := fun _ => fun
  | [d1, d2, d3, d4, d5] => { results := [.lit (.bool false)], args := [d1, d2, d3, d4, d5] }
  | _ => none }
def BytesTellsWrongFalsely : Prop := bytesTellsRow.holds Try.pinned (OpenSpec.ofChange bytesTellsWrong)

/-- 'blockhouselaw02.ShaNumbers': WHATEVER THE INPUT: true; the input reads as it did. -/
def shaNumbersSpec : ChangeSpec := { name := "shaNumbers", fn := fun _ => fun
  | [] => { results := [.lit (.bool true)], args := [] }
  | _ => none }
def shaNumbersRow : OpenClaim := { program := "ytmkpopfaaebgfaa", sum := "ffcc4cf877dad60e79770d8eb59c00ee5af327addb6238e9b0b46a3e522c25fc", func := "blockhouse/blockhouselaw02.ShaNumbers", spec := "shaNumbers", apart := false }
def ShaNumbersSaid : Prop := shaNumbersRow.holds Try.pinned (OpenSpec.ofChange shaNumbersSpec)

/-- ITS FALSE NEIGHBOUR: 'it returns false'. Refute it at one input. -/
def shaNumbersWrong : ChangeSpec := { name := "shaNumbers", fn := fun _ => fun
  | [] => { results := [.lit (.bool false)], args := [] }
  | _ => none }
def ShaNumbersWrongFalsely : Prop := shaNumbersRow.holds Try.pinned (OpenSpec.ofChange shaNumbersWrong)

/-- 'blockhouselaw02.ShaTells': WHATEVER THE INPUT: true; the input reads as it did. -/
def shaTellsSpec : ChangeSpec := { name := "shaTells", fn := fun _ => fun
  | [d1, d2, d3, d4, d5] => { results := [.lit (.bool true)], args := [d1, d2, d3, d4, d5] }
  | _ => none }
def shaTellsRow : OpenClaim := { program := "ytmkpopfaaebgfaa", sum := "ffcc4cf877dad60e79770d8eb59c00ee5af327addb6238e9b0b46a3e522c25fc", func := "blockhouse/blockhouselaw02.ShaTells", spec := "shaTells", apart := false }
def ShaTellsSaid : Prop := shaTellsRow.holds Try.pinned (OpenSpec.ofChange shaTellsSpec)

/-- ITS FALSE NEIGHBOUR: 'it returns false'. Refute it at one input. -/
def shaTellsWrong : ChangeSpec := { name := "shaTells", fn := fun _ => fun
  | [d1, d2, d3, d4, d5] => { results := [.lit (.bool false)], args := [d1, d2, d3, d4, d5] }
  | _ => none }
def ShaTellsWrongFalsely : Prop := shaTellsRow.holds Try.pinned (OpenSpec.ofChange shaTellsWrong)

/-- 'blockhouselaw02.ShaTwice': WHATEVER THE INPUT: true; the input reads as it did. -/
def shaTwiceSpec : ChangeSpec := { name := "shaTwice", fn := fun _ => fun
  | [d1, d2, d3, d4] => { results := [.lit (.bool true)], args := [d1, d2, d3, d4] }
  | _ => none }
def shaTwiceRow : OpenClaim := { program := "ytmkpopfaaebgfaa", sum := "ffcc4cf877dad60e79770d8eb59c00ee5af327addb6238e9b0b46a3e522c25fc", func := "blockhouse/blockhouselaw02.ShaTwice", spec := "shaTwice", apart := false }
def ShaTwiceSaid : Prop := shaTwiceRow.holds Try.pinned (OpenSpec.ofChange shaTwiceSpec)

/-- ITS FALSE NEIGHBOUR: 'it returns false'. Refute it at one input. -/
def shaTwiceWrong : ChangeSpec := { name := "shaTwice", fn := fun _ => fun
  | [d1, d2, d3, d4] => { results := [.lit (.bool false)], args := [d1, d2, d3, d4] }
  | _ => none }
def ShaTwiceWrongFalsely : Prop := shaTwiceRow.holds Try.pinned (OpenSpec.ofChange shaTwiceWrong)

/-- 'blockhouselaw02.ShaRoots': WHATEVER THE INPUT: true; the input reads as it did. -/
def shaRootsSpec : ChangeSpec := { name := "shaRoots", fn := fun _ => fun
  | [d] => { results := [.lit (.bool true)], args := [d] }
  | _ => none }
def shaRootsRow : OpenClaim := { program := "ytmkpopfaaebgfaa", sum := "ffcc4cf877dad60e79770d8eb59c00ee5af327addb6238e9b0b46a3e522c25fc", func := "blockhouse/blockhouselaw02.ShaRoots", spec := "shaRoots", apart := false }
def ShaRootsSaid : Prop := shaRootsRow.holds Try.pinned (OpenSpec.ofChange shaRootsSpec)

/-- ITS FALSE NEIGHBOUR: 'it returns false'. Refute it at one input. -/
def shaRootsWrong : ChangeSpec := { name := "shaRoots", fn := fun _ => fun
  | [d] => { results := [.lit (.bool false)], args := [d] }
  | _ => none }
def ShaRootsWrongFalsely : Prop := shaRootsRow.holds Try.pinned (OpenSpec.ofChange shaRootsWrong)

/-- 'blockhouselaw03.MacTells': WHATEVER THE INPUT: true; the input reads as it did. -/
def macTellsSpec : ChangeSpec := { name := "macTells", fn := fun _ => fun
  | [d1, d2, d3, d4, d5] => { results := [.lit (.bool true)], args := [d1, d2, d3, d4, d5] }
  | _ => none }
def macTellsRow : OpenClaim := { program := "ytmkpopfaaebgfaa", sum := "ffcc4cf877dad60e79770d8eb59c00ee5af327addb6238e9b0b46a3e522c25fc", func := "blockhouse/blockhouselaw03.MacTells", spec := "macTells", apart := false }
def MacTellsSaid : Prop := macTellsRow.holds Try.pinned (OpenSpec.ofChange macTellsSpec)

/-- ITS FALSE NEIGHBOUR: 'it returns false'. Refute it at one input. -/
def macTellsWrong : ChangeSpec := { name := "macTells", fn := fun _ => fun
  | [d1, d2, d3, d4, d5] => { results := [.lit (.bool false)], args := [d1, d2, d3, d4, d5] }
  | _ => none }
def MacTellsWrongFalsely : Prop := macTellsRow.holds Try.pinned (OpenSpec.ofChange macTellsWrong)

/-- 'blockhouselaw03.MacTexts': WHATEVER THE INPUT: true; the input reads as it did. -/
def macTextsSpec : ChangeSpec := { name := "macTexts", fn := fun _ => fun
  | [d1, d2, d3, d4, d5] => { results := [.lit (.bool true)], args := [d1, d2, d3, d4, d5] }
  | _ => none }
def macTextsRow : OpenClaim := { program := "ytmkpopfaaebgfaa", sum := "ffcc4cf877dad60e79770d8eb59c00ee5af327addb6238e9b0b46a3e522c25fc", func := "blockhouse/blockhouselaw03.MacTexts", spec := "macTexts", apart := false }
def MacTextsSaid : Prop := macTextsRow.holds Try.pinned (OpenSpec.ofChange macTextsSpec)

/-- ITS FALSE NEIGHBOUR: 'it returns false'. Refute it at one input. -/
def macTextsWrong : ChangeSpec := { name := "macTexts", fn := fun _ => fun
  | [d1, d2, d3, d4, d5] => { results := [.lit (.bool false)], args := [d1, d2, d3, d4, d5] }
  | _ => none }
def MacTextsWrongFalsely : Prop := macTextsRow.holds Try.pinned (OpenSpec.ofChange macTextsWrong)

/-- 'blockhouselaw03.MacKeys': WHATEVER THE INPUT: true; the input reads as it did. -/
def macKeysSpec : ChangeSpec := { name := "macKeys", fn := fun _ => fun
  | [d1, d2, d3, d4] => { results := [.lit (.bool true)], args := [d1, d2, d3, d4] }
  | _ => none }
def macKeysRow : OpenClaim := { program := "ytmkpopfaaebgfaa", sum := "ffcc4cf877dad60e79770d8eb59c00ee5af327addb6238e9b0b46a3e522c25fc", func := "blockhouse/blockhouselaw03.MacKeys", spec := "macKeys", apart := false }
def MacKeysSaid : Prop := macKeysRow.holds Try.pinned (OpenSpec.ofChange macKeysSpec)

/-- ITS FALSE NEIGHBOUR: 'it returns false'. Refute it at one input. -/
def macKeysWrong : ChangeSpec := { name := "macKeys", fn := fun _ => fun
  | [d1, d2, d3, d4] => { results := [.lit (.bool false)], args := [d1, d2, d3, d4] }
  | _ => none }
def MacKeysWrongFalsely : Prop := macKeysRow.holds Try.pinned (OpenSpec.ofChange macKeysWrong)

/-- 'blockhouselaw04.NorPlays': WHATEVER THE INPUT: true; the input reads as it did. -/
def norPlaysSpec : ChangeSpec := { name := "norPlays", fn := fun _ => fun
  | [d1, d2, d3] => { results := [.lit (.bool true)], args := [d1, d2, d3] }
  | _ => none }
def norPlaysRow : OpenClaim := { program := "ytmkpopfaaebgfaa", sum := "ffcc4cf877dad60e79770d8eb59c00ee5af327addb6238e9b0b46a3e522c25fc", func := "blockhouse/blockhouselaw04.NorPlays", spec := "norPlays", apart := false }
def NorPlaysSaid : Prop := norPlaysRow.holds Try.pinned (OpenSpec.ofChange norPlaysSpec)

/-- ITS FALSE NEIGHBOUR: 'it returns false'. Refute it at one input. -/
def norPlaysWrong : ChangeSpec := { name := "norPlays", fn := fun _ => fun
  | [d1, d2, d3] => { results := [.lit (.bool false)], args := [d1, d2, d3] }
  | _ => none }
def NorPlaysWrongFalsely : Prop := norPlaysRow.holds Try.pinned (OpenSpec.ofChange norPlaysWrong)

/-- 'blockhouselaw05.DriveNumbers': WHATEVER THE INPUT: true; the input reads as it did. -/
def driveNumbersSpec : ChangeSpec := { name := "driveNumbers", fn := fun _ => fun
  | [] => { results := [.lit (.bool true)], args := [] }
  | _ => none }
def driveNumbersRow : OpenClaim := { program := "ytmkpopfaaebgfaa", sum := "ffcc4cf877dad60e79770d8eb59c00ee5af327addb6238e9b0b46a3e522c25fc", func := "blockhouse/blockhouselaw05.DriveNumbers", spec := "driveNumbers", unfollowed := true, recurses := true, apart := false }
def DriveNumbersSaid : Prop := driveNumbersRow.holds Try.pinned (OpenSpec.ofChange driveNumbersSpec)

/-- ITS FALSE NEIGHBOUR: 'it returns false'. Refute it at one input. -/
def driveNumbersWrong : ChangeSpec := { name := "driveNumbers", fn := fun _ => fun
  | [] => { results := [.lit (.bool false)], args := [] }
  | _ => none }
def DriveNumbersWrongFalsely : Prop := driveNumbersRow.holds Try.pinned (OpenSpec.ofChange driveNumbersWrong)

/-- 'blockhouselaw05.DrivePlays': WHATEVER THE INPUT: true; the input reads as it did. -/
def drivePlaysSpec : ChangeSpec := { name := "drivePlays", fn := fun _ => fun
  | [d1, d2, d3, d4, d5] => { results := [.lit (.bool true)], args := [d1, d2, d3, d4, d5] }
  | _ => none }
def drivePlaysRow : OpenClaim := { program := "ytmkpopfaaebgfaa", sum := "ffcc4cf877dad60e79770d8eb59c00ee5af327addb6238e9b0b46a3e522c25fc", func := "blockhouse/blockhouselaw05.DrivePlays", spec := "drivePlays", unfollowed := true, recurses := true, apart := false }
def DrivePlaysSaid : Prop := drivePlaysRow.holds Try.pinned (OpenSpec.ofChange drivePlaysSpec)

/-- ITS FALSE NEIGHBOUR: 'it returns false'. Refute it at one input. -/
def drivePlaysWrong : ChangeSpec := { name := "drivePlays", fn := fun _ => fun
  | [d1, d2, d3, d4, d5] => { results := [.lit (.bool false)], args := [d1, d2, d3, d4, d5] }
  | _ => none }
def DrivePlaysWrongFalsely : Prop := drivePlaysRow.holds Try.pinned (OpenSpec.ofChange drivePlaysWrong)

/-- 'blockhouselaw05.DriveNone': WHATEVER THE INPUT: true; the input reads as it did. -/
def driveNoneSpec : ChangeSpec := { name := "driveNone", fn := fun _ => fun
  | [d1, d2, d3] => { results := [.lit (.bool true)], args := [d1, d2, d3] }
  | _ => none }
def driveNoneRow : OpenClaim := { program := "ytmkpopfaaebgfaa", sum := "ffcc4cf877dad60e79770d8eb59c00ee5af327addb6238e9b0b46a3e522c25fc", func := "blockhouse/blockhouselaw05.DriveNone", spec := "driveNone", unfollowed := true, recurses := true, apart := false }
def DriveNoneSaid : Prop := driveNoneRow.holds Try.pinned (OpenSpec.ofChange driveNoneSpec)

/-- ITS FALSE NEIGHBOUR: 'it returns false'. Refute it at one input. -/
def driveNoneWrong : ChangeSpec := { name := "driveNone", fn := fun _ => fun
  | [d1, d2, d3] => { results := [.lit (.bool false)], args := [d1, d2, d3] }
  | _ => none }
def DriveNoneWrongFalsely : Prop := driveNoneRow.holds Try.pinned (OpenSpec.ofChange driveNoneWrong)

/-- 'blockhouselaw05.DriveKeeps': WHATEVER THE INPUT: true; the input reads as it did. -/
def driveKeepsSpec : ChangeSpec := { name := "driveKeeps", fn := fun _ => fun
  | [d1, d2, d3, d4, d5] => { results := [.lit (.bool true)], args := [d1, d2, d3, d4, d5] }
  | _ => none }
def driveKeepsRow : OpenClaim := { program := "ytmkpopfaaebgfaa", sum := "ffcc4cf877dad60e79770d8eb59c00ee5af327addb6238e9b0b46a3e522c25fc", func := "blockhouse/blockhouselaw05.DriveKeeps", spec := "driveKeeps", unfollowed := true, recurses := true, apart := false }
def DriveKeepsSaid : Prop := driveKeepsRow.holds Try.pinned (OpenSpec.ofChange driveKeepsSpec)

/-- ITS FALSE NEIGHBOUR: 'it returns false'. Refute it at one input. -/
def driveKeepsWrong : ChangeSpec := { name := "driveKeeps", fn := fun _ => fun
  | [d1, d2, d3, d4, d5] => { results := [.lit (.bool false)], args := [d1, d2, d3, d4, d5] }
  | _ => none }
def DriveKeepsWrongFalsely : Prop := driveKeepsRow.holds Try.pinned (OpenSpec.ofChange driveKeepsWrong)

/-- 'blockhouselaw05.DriveApart': WHATEVER THE INPUT: true; the input reads as it did. -/
def driveApartSpec : ChangeSpec := { name := "driveApart", fn := fun _ => fun
  | [d1, d2] => { results := [.lit (.bool true)], args := [d1, d2] }
  | _ => none }
def driveApartRow : OpenClaim := { program := "ytmkpopfaaebgfaa", sum := "ffcc4cf877dad60e79770d8eb59c00ee5af327addb6238e9b0b46a3e522c25fc", func := "blockhouse/blockhouselaw05.DriveApart", spec := "driveApart", unfollowed := true, recurses := true, apart := false }
def DriveApartSaid : Prop := driveApartRow.holds Try.pinned (OpenSpec.ofChange driveApartSpec)

/-- ITS FALSE NEIGHBOUR: 'it returns false'. Refute it at one input. -/
def driveApartWrong : ChangeSpec := { name := "driveApart", fn := fun _ => fun
  | [d1, d2] => { results := [.lit (.bool false)], args := [d1, d2] }
  | _ => none }
def DriveApartWrongFalsely : Prop := driveApartRow.holds Try.pinned (OpenSpec.ofChange driveApartWrong)

/-- 'blockhouselaw05.DriveErases': WHATEVER THE INPUT: true; the input reads as it did. -/
def driveErasesSpec : ChangeSpec := { name := "driveErases", fn := fun _ => fun
  | [d1, d2, d3] => { results := [.lit (.bool true)], args := [d1, d2, d3] }
  | _ => none }
def driveErasesRow : OpenClaim := { program := "ytmkpopfaaebgfaa", sum := "ffcc4cf877dad60e79770d8eb59c00ee5af327addb6238e9b0b46a3e522c25fc", func := "blockhouse/blockhouselaw05.DriveErases", spec := "driveErases", unfollowed := true, recurses := true, apart := false }
def DriveErasesSaid : Prop := driveErasesRow.holds Try.pinned (OpenSpec.ofChange driveErasesSpec)

/-- ITS FALSE NEIGHBOUR: 'it returns false'. Refute it at one input. -/
def driveErasesWrong : ChangeSpec := { name := "driveErases", fn := fun _ => fun
  | [d1, d2, d3] => { results := [.lit (.bool false)], args := [d1, d2, d3] }
  | _ => none }
def DriveErasesWrongFalsely : Prop := driveErasesRow.holds Try.pinned (OpenSpec.ofChange driveErasesWrong)

/- THE SECOND FORM. 'bulk': how many values and letters a reading holds, each counted each time it is reached (what is shared counts as often as it is met; a slice's spare places count too). A statement '..UptoSaid' is the law's where the arguments, and the package variables that the reading takes, are together of bulk at most 1048576: NARROWER than '..Said'. Prove '..Said' where nothing that the law and all that it calls make is longer than what came in: it says more and counts as full. Else prove '..UptoSaid'. A law counts once. -/
mutual
def uptoBulk {H : Type} : DataW H → Nat
  | .lit (.string bytes) => bytes.length + 1
  | .lit _ => 1
  | .nil => 1
  | .ptr d => uptoBulk d + 1
  | .slice elems spare => uptoBulkAll elems + uptoBulkAll spare + 1
  | .agg parts => uptoBulkAll parts + 1
  | .iface _ d => uptoBulk d + 1
  | .map entries => uptoBulkEntries entries + 1
  | .held _ => 1
def uptoBulkAll {H : Type} : List (DataW H) → Nat
  | [] => 0
  | d :: r => uptoBulk d + uptoBulkAll r
def uptoBulkEntries {H : Type} : List (Lit × DataW H) → Nat
  | [] => 0
  | x :: r => uptoBulkEntry x + uptoBulkEntries r
def uptoBulkEntry {H : Type} : Lit × DataW H → Nat
  | (.string bytes, d) => bytes.length + uptoBulk d + 1
  | (_, d) => uptoBulk d + 1
 end
def uptoSmall : (H : Type) → List (DataW H) → Bool := fun _ ds => decide (uptoBulkAll ds ≤ 1048576)
def OpenSpec.upto (s : _root_.Go.ChangeSpec) : _root_.Go.OpenSpec := { _root_.Go.OpenSpec.ofChange s with cond := some uptoSmall }

/-- 'blockhouselaw01.BytesTells', WHERE WHAT IT READS IS OF BULK AT MOST 1048576: true; the input reads as it did. -/
def bytesTellsUptoRow : OpenClaim := { program := "ytmkpopfaaebgfaa", sum := "ffcc4cf877dad60e79770d8eb59c00ee5af327addb6238e9b0b46a3e522c25fc", func := "blockhouse/blockhouselaw01.BytesTells", spec := "bytesTells", apart := false, narrowed := true }
def BytesTellsUptoSaid : Prop := bytesTellsUptoRow.holds Try.pinned (OpenSpec.upto bytesTellsSpec)

/-- 'blockhouselaw02.ShaNumbers', WHERE WHAT IT READS IS OF BULK AT MOST 1048576: true; the input reads as it did. -/
def shaNumbersUptoRow : OpenClaim := { program := "ytmkpopfaaebgfaa", sum := "ffcc4cf877dad60e79770d8eb59c00ee5af327addb6238e9b0b46a3e522c25fc", func := "blockhouse/blockhouselaw02.ShaNumbers", spec := "shaNumbers", apart := false, narrowed := true }
def ShaNumbersUptoSaid : Prop := shaNumbersUptoRow.holds Try.pinned (OpenSpec.upto shaNumbersSpec)

/-- 'blockhouselaw02.ShaTells', WHERE WHAT IT READS IS OF BULK AT MOST 1048576: true; the input reads as it did. -/
def shaTellsUptoRow : OpenClaim := { program := "ytmkpopfaaebgfaa", sum := "ffcc4cf877dad60e79770d8eb59c00ee5af327addb6238e9b0b46a3e522c25fc", func := "blockhouse/blockhouselaw02.ShaTells", spec := "shaTells", apart := false, narrowed := true }
def ShaTellsUptoSaid : Prop := shaTellsUptoRow.holds Try.pinned (OpenSpec.upto shaTellsSpec)

/-- 'blockhouselaw02.ShaTwice', WHERE WHAT IT READS IS OF BULK AT MOST 1048576: true; the input reads as it did. -/
def shaTwiceUptoRow : OpenClaim := { program := "ytmkpopfaaebgfaa", sum := "ffcc4cf877dad60e79770d8eb59c00ee5af327addb6238e9b0b46a3e522c25fc", func := "blockhouse/blockhouselaw02.ShaTwice", spec := "shaTwice", apart := false, narrowed := true }
def ShaTwiceUptoSaid : Prop := shaTwiceUptoRow.holds Try.pinned (OpenSpec.upto shaTwiceSpec)

/-- 'blockhouselaw02.ShaRoots', WHERE WHAT IT READS IS OF BULK AT MOST 1048576: true; the input reads as it did. -/
def shaRootsUptoRow : OpenClaim := { program := "ytmkpopfaaebgfaa", sum := "ffcc4cf877dad60e79770d8eb59c00ee5af327addb6238e9b0b46a3e522c25fc", func := "blockhouse/blockhouselaw02.ShaRoots", spec := "shaRoots", apart := false, narrowed := true }
def ShaRootsUptoSaid : Prop := shaRootsUptoRow.holds Try.pinned (OpenSpec.upto shaRootsSpec)

/-- 'blockhouselaw03.MacTells', WHERE WHAT IT READS IS OF BULK AT MOST 1048576: true; the input reads as it did. -/
def macTellsUptoRow : OpenClaim := { program := "ytmkpopfaaebgfaa", sum := "ffcc4cf877dad60e79770d8eb59c00ee5af327addb6238e9b0b46a3e522c25fc", func := "blockhouse/blockhouselaw03.MacTells", spec := "macTells", apart := false, narrowed := true }
def MacTellsUptoSaid : Prop := macTellsUptoRow.holds Try.pinned (OpenSpec.upto macTellsSpec)

/-- 'blockhouselaw03.MacTexts', WHERE WHAT IT READS IS OF BULK AT MOST 1048576: true; the input reads as it did. -/
def macTextsUptoRow : OpenClaim := { program := "ytmkpopfaaebgfaa", sum := "ffcc4cf877dad60e79770d8eb59c00ee5af327addb6238e9b0b46a3e522c25fc", func := "blockhouse/blockhouselaw03.MacTexts", spec := "macTexts", apart := false, narrowed := true }
def MacTextsUptoSaid : Prop := macTextsUptoRow.holds Try.pinned (OpenSpec.upto macTextsSpec)

/-- 'blockhouselaw03.MacKeys', WHERE WHAT IT READS IS OF BULK AT MOST 1048576: true; the input reads as it did. -/
def macKeysUptoRow : OpenClaim := { program := "ytmkpopfaaebgfaa", sum := "ffcc4cf877dad60e79770d8eb59c00ee5af327addb6238e9b0b46a3e522c25fc", func := "blockhouse/blockhouselaw03.MacKeys", spec := "macKeys", apart := false, narrowed := true }
def MacKeysUptoSaid : Prop := macKeysUptoRow.holds Try.pinned (OpenSpec.upto macKeysSpec)

/-- 'blockhouselaw04.NorPlays', WHERE WHAT IT READS IS OF BULK AT MOST 1048576: true; the input reads as it did. -/
def norPlaysUptoRow : OpenClaim := { program := "ytmkpopfaaebgfaa", sum := "ffcc4cf877dad60e79770d8eb59c00ee5af327addb6238e9b0b46a3e522c25fc", func := "blockhouse/blockhouselaw04.NorPlays", spec := "norPlays", apart := false, narrowed := true }
def NorPlaysUptoSaid : Prop := norPlaysUptoRow.holds Try.pinned (OpenSpec.upto norPlaysSpec)

/-- 'blockhouselaw05.DriveNumbers', WHERE WHAT IT READS IS OF BULK AT MOST 1048576: true; the input reads as it did. -/
def driveNumbersUptoRow : OpenClaim := { program := "ytmkpopfaaebgfaa", sum := "ffcc4cf877dad60e79770d8eb59c00ee5af327addb6238e9b0b46a3e522c25fc", func := "blockhouse/blockhouselaw05.DriveNumbers", spec := "driveNumbers", unfollowed := true, recurses := true, apart := false, narrowed := true }
def DriveNumbersUptoSaid : Prop := driveNumbersUptoRow.holds Try.pinned (OpenSpec.upto driveNumbersSpec)

/-- 'blockhouselaw05.DrivePlays', WHERE WHAT IT READS IS OF BULK AT MOST 1048576: true; the input reads as it did. -/
def drivePlaysUptoRow : OpenClaim := { program := "ytmkpopfaaebgfaa", sum := "ffcc4cf877dad60e79770d8eb59c00ee5af327addb6238e9b0b46a3e522c25fc", func := "blockhouse/blockhouselaw05.DrivePlays", spec := "drivePlays", unfollowed := true, recurses := true, apart := false, narrowed := true }
def DrivePlaysUptoSaid : Prop := drivePlaysUptoRow.holds Try.pinned (OpenSpec.upto drivePlaysSpec)

/-- 'blockhouselaw05.DriveNone', WHERE WHAT IT READS IS OF BULK AT MOST 1048576: true; the input reads as it did. -/
def driveNoneUptoRow : OpenClaim := { program := "ytmkpopfaaebgfaa", sum := "ffcc4cf877dad60e79770d8eb59c00ee5af327addb6238e9b0b46a3e522c25fc", func := "blockhouse/blockhouselaw05.DriveNone", spec := "driveNone", unfollowed := true, recurses := true, apart := false, narrowed := true }
def DriveNoneUptoSaid : Prop := driveNoneUptoRow.holds Try.pinned (OpenSpec.upto driveNoneSpec)

/-- 'blockhouselaw05.DriveKeeps', WHERE WHAT IT READS IS OF BULK AT MOST 1048576: true; the input reads as it did. -/
def driveKeepsUptoRow : OpenClaim := { program := "ytmkpopfaaebgfaa", sum := "ffcc4cf877dad60e79770d8eb59c00ee5af327addb6238e9b0b46a3e522c25fc", func := "blockhouse/blockhouselaw05.DriveKeeps", spec := "driveKeeps", unfollowed := true, recurses := true, apart := false, narrowed := true }
def DriveKeepsUptoSaid : Prop := driveKeepsUptoRow.holds Try.pinned (OpenSpec.upto driveKeepsSpec)

/-- 'blockhouselaw05.DriveApart', WHERE WHAT IT READS IS OF BULK AT MOST 1048576: true; the input reads as it did. -/
def driveApartUptoRow : OpenClaim := { program := "ytmkpopfaaebgfaa", sum := "ffcc4cf877dad60e79770d8eb59c00ee5af327addb6238e9b0b46a3e522c25fc", func := "blockhouse/blockhouselaw05.DriveApart", spec := "driveApart", unfollowed := true, recurses := true, apart := false, narrowed := true }
def DriveApartUptoSaid : Prop := driveApartUptoRow.holds Try.pinned (OpenSpec.upto driveApartSpec)

/-- 'blockhouselaw05.DriveErases', WHERE WHAT IT READS IS OF BULK AT MOST 1048576: true; the input reads as it did. -/
def driveErasesUptoRow : OpenClaim := { program := "ytmkpopfaaebgfaa", sum := "ffcc4cf877dad60e79770d8eb59c00ee5af327addb6238e9b0b46a3e522c25fc", func := "blockhouse/blockhouselaw05.DriveErases", spec := "driveErases", unfollowed := true, recurses := true, apart := false, narrowed := true }
def DriveErasesUptoSaid : Prop := driveErasesUptoRow.holds Try.pinned (OpenSpec.upto driveErasesSpec)

end Rows
end Go.Proofs.Ytmkpopfaaebgfaa
