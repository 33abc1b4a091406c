/-
  No cell of these rows narrows 'for every input' (looked for: loops, veiled, ifaces, maps, wideKeys, modest, calm, conditions, laid).
  DERIVED. THE GIVEN ROWS OF THIS SEAT. 16 by the template 'for every input the law returns true; each argument reads behind the call as it read before'; 0 by the template 'total and deterministic' (their statements: YtmeloffdaninmaaTotals.lean).
  GIVEN WITH THE SEED: the statements are not yours to turn. If you find one false, say at which input.
  Laid BY PROGRAM, IN A SANDBOX (cutbox-rows.mjs): the forced cells as the released guide's own fill.sh prints them over the translation 105019cf19020ad3… (all of the seat's roots in one cut). By AI agents, Wed Nov 11 2026. No macro, syntax, notation, axiom, sorry.
-/
import Derived.Test.YtmeloffdaninmaaChecked
import GoSem.Claim
import GoSem.ClaimJoined
import GoSem.ClaimMapViews
import Derived.JoinedTies
import Derived.KernelRfl
namespace Go.Proofs.Ytmeloffdaninmaa
/- THE CELL 'sum', in the pinned program and in every row, IS THE sha256 OF THE DUMP (.gsa) THAT YtmeloffdaninmaaProg.lean LOADS. Nothing in Lean hashes anything: it is a label: what it is worth is what the hold of that sum in a sandbox is worth. -/
noncomputable def Try.pinned : Pinned := { name := "ytmeloffdaninmaa", sum := "105019cf19020ad331a146d488e5d433ef953c209f8ea4ab05e60813a8701af8", checked := Try.checked }
namespace Rows
def none {H : Type} : Left H := { results := [], args := [] }

/-- 'blockhouselaw01.BytesTells': WHATEVER THE INPUT: true; the input reads as it did. -/
def bytesTellsSpec : ChangeSpec := { name := "bytesTells", fn := fun _ => fun
  | [d1, d2, d3, d4, d5] => { results := [.lit (.bool true)], args := [d1, d2, d3, d4, d5] }
  | _ => none }
def bytesTellsRow : OpenClaim := { program := "ytmeloffdaninmaa", sum := "105019cf19020ad331a146d488e5d433ef953c209f8ea4ab05e60813a8701af8", func := "blockhouse/blockhouselaw01.BytesTells", spec := "bytesTells", apart := false }
def BytesTellsSaid : Prop := bytesTellsRow.holds Try.pinned (OpenSpec.ofChange bytesTellsSpec)

/-- ITS FALSE NEIGHBOUR: 'it returns false'. Refute it at one input. -/
def bytesTellsWrong : ChangeSpec := { name := "bytesTells", fn := fun _ => fun
  | [d1, d2, d3, d4, d5] => { results := [.lit (.bool false)], args := [d1, d2, d3, d4, d5] }
  | _ => none }
def BytesTellsWrongFalsely : Prop := bytesTellsRow.holds Try.pinned (OpenSpec.ofChange bytesTellsWrong)

/-- 'blockhouselaw02.ShaNumbers': WHATEVER THE INPUT: true; the input reads as it did. -/
def shaNumbersSpec : ChangeSpec := { name := "shaNumbers", fn := fun _ => fun
  | [] => { results := [.lit (.bool true)], args := [] }
  | _ => none }
def shaNumbersRow : OpenClaim := { program := "ytmeloffdaninmaa", sum := "105019cf19020ad331a146d488e5d433ef953c209f8ea4ab05e60813a8701af8", func := "blockhouse/blockhouselaw02.ShaNumbers", spec := "shaNumbers", apart := false }
def ShaNumbersSaid : Prop := shaNumbersRow.holds Try.pinned (OpenSpec.ofChange shaNumbersSpec)

/-- ITS FALSE NEIGHBOUR: 'it returns false'. Refute it at one input. -/
def shaNumbersWrong : ChangeSpec := { name := "shaNumbers", fn := fun _ => fun
  | [] => { results := [.lit (.bool false)], args := [] }
  | _ => none }
def ShaNumbersWrongFalsely : Prop := shaNumbersRow.holds Try.pinned (OpenSpec.ofChange shaNumbersWrong)

/-- 'blockhouselaw02.ShaTells': WHATEVER THE INPUT: true; the input reads as it did. -/
def shaTellsSpec : ChangeSpec := { name := "shaTells", fn := fun _ => fun
  | [d1, d2, d3, d4, d5] => { results := [.lit (.bool true)], args := [d1, d2, d3, d4, d5] }
  | _ => none }
def shaTellsRow : OpenClaim := { program := "ytmeloffdaninmaa", sum := "105019cf19020ad331a146d488e5d433ef953c209f8ea4ab05e60813a8701af8", func := "blockhouse/blockhouselaw02.ShaTells", spec := "shaTells", apart := false }
def ShaTellsSaid : Prop := shaTellsRow.holds Try.pinned (OpenSpec.ofChange shaTellsSpec)

/-- ITS FALSE NEIGHBOUR: 'it returns false'. Refute it at one input. -/
def shaTellsWrong : ChangeSpec := { name := "shaTells", fn := fun _ => fun
  | [d1, d2, d3, d4, d5] => { results := [.lit (.bool false)], args := [d1, d2, d3, d4, d5] }
  | _ => none }
def ShaTellsWrongFalsely : Prop := shaTellsRow.holds Try.pinned (OpenSpec.ofChange shaTellsWrong)

/-- 'blockhouselaw02.ShaTwice': WHATEVER THE INPUT: true; the input reads as it did. -/
def shaTwiceSpec : ChangeSpec := { name := "shaTwice", fn := fun _ => fun
  | [d1, d2, d3, d4] => { results := [.lit (.bool true)], args := [d1, d2, d3, d4] }
  | _ => none }
def shaTwiceRow : OpenClaim := { program := "ytmeloffdaninmaa", sum := "105019cf19020ad331a146d488e5d433ef953c209f8ea4ab05e60813a8701af8", func := "blockhouse/blockhouselaw02.ShaTwice", spec := "shaTwice", apart := false }
def ShaTwiceSaid : Prop := shaTwiceRow.holds Try.pinned (OpenSpec.ofChange shaTwiceSpec)

/-- ITS FALSE NEIGHBOUR: 'it returns false'. Refute it at one input. -/
def shaTwiceWrong : ChangeSpec := { name := "shaTwice", fn := fun _ => fun
  | [d1, d2, d3, d4] => { results := [.lit (.bool false)], args := [d1, d2, d3, d4] }
  | _ => none }
def ShaTwiceWrongFalsely : Prop := shaTwiceRow.holds Try.pinned (OpenSpec.ofChange shaTwiceWrong)

/-- 'blockhouselaw02.ShaRoots': WHATEVER THE INPUT: true; the input reads as it did. -/
def shaRootsSpec : ChangeSpec := { name := "shaRoots", fn := fun _ => fun
  | [d] => { results := [.lit (.bool true)], args := [d] }
  | _ => none }
def shaRootsRow : OpenClaim := { program := "ytmeloffdaninmaa", sum := "105019cf19020ad331a146d488e5d433ef953c209f8ea4ab05e60813a8701af8", func := "blockhouse/blockhouselaw02.ShaRoots", spec := "shaRoots", apart := false }
def ShaRootsSaid : Prop := shaRootsRow.holds Try.pinned (OpenSpec.ofChange shaRootsSpec)

/-- ITS FALSE NEIGHBOUR: 'it returns false'. Refute it at one input. -/
def shaRootsWrong : ChangeSpec := { name := "shaRoots", fn := fun _ => fun
  | [d] => { results := [.lit (.bool false)], args := [d] }
  | _ => none }
def ShaRootsWrongFalsely : Prop := shaRootsRow.holds Try.pinned (OpenSpec.ofChange shaRootsWrong)

/-- 'blockhouselaw03.MacTells': WHATEVER THE INPUT: true; the input reads as it did. -/
def macTellsSpec : ChangeSpec := { name := "macTells", fn := fun _ => fun
  | [d1, d2, d3, d4, d5] => { results := [.lit (.bool true)], args := [d1, d2, d3, d4, d5] }
  | _ => none }
def macTellsRow : OpenClaim := { program := "ytmeloffdaninmaa", sum := "105019cf19020ad331a146d488e5d433ef953c209f8ea4ab05e60813a8701af8", func := "blockhouse/blockhouselaw03.MacTells", spec := "macTells", apart := false }
def MacTellsSaid : Prop := macTellsRow.holds Try.pinned (OpenSpec.ofChange macTellsSpec)

/-- ITS FALSE NEIGHBOUR: 'it returns false'. Refute it at one input. -/
def macTellsWrong : ChangeSpec := { name := "macTells", fn := fun _ => fun
  | [d1, d2, d3, d4, d5] => { results := [.lit (.bool false)], args := [d1, d2, d3, d4, d5] }
  | _ => none }
def MacTellsWrongFalsely : Prop := macTellsRow.holds Try.pinned (OpenSpec.ofChange macTellsWrong)

/-- 'blockhouselaw03.MacTexts': WHATEVER THE INPUT: true; the input reads as it did. -/
def macTextsSpec : ChangeSpec := { name := "macTexts", fn := fun _ => fun
  | [d1, d2, d3, d4, d5] => { results := [.lit (.bool true)], args := [d1, d2, d3, d4, d5] }
  | _ => none }
def macTextsRow : OpenClaim := { program := "ytmeloffdaninmaa", sum := "105019cf19020ad331a146d488e5d433ef953c209f8ea4ab05e60813a8701af8", func := "blockhouse/blockhouselaw03.MacTexts", spec := "macTexts", apart := false }
def MacTextsSaid : Prop := macTextsRow.holds Try.pinned (OpenSpec.ofChange macTextsSpec)

/-- ITS FALSE NEIGHBOUR: 'it returns false'. Refute it at one input. -/
def macTextsWrong : ChangeSpec := { name := "macTexts", fn := fun _ => fun
  | [d1, d2, d3, d4, d5] => { results := [.lit (.bool false)], args := [d1, d2, d3, d4, d5] }
  | _ => none }
def MacTextsWrongFalsely : Prop := macTextsRow.holds Try.pinned (OpenSpec.ofChange macTextsWrong)

/-- 'blockhouselaw03.MacKeys': WHATEVER THE INPUT: true; the input reads as it did. -/
def macKeysSpec : ChangeSpec := { name := "macKeys", fn := fun _ => fun
  | [d1, d2, d3, d4] => { results := [.lit (.bool true)], args := [d1, d2, d3, d4] }
  | _ => none }
def macKeysRow : OpenClaim := { program := "ytmeloffdaninmaa", sum := "105019cf19020ad331a146d488e5d433ef953c209f8ea4ab05e60813a8701af8", func := "blockhouse/blockhouselaw03.MacKeys", spec := "macKeys", apart := false }
def MacKeysSaid : Prop := macKeysRow.holds Try.pinned (OpenSpec.ofChange macKeysSpec)

/-- ITS FALSE NEIGHBOUR: 'it returns false'. Refute it at one input. -/
def macKeysWrong : ChangeSpec := { name := "macKeys", fn := fun _ => fun
  | [d1, d2, d3, d4] => { results := [.lit (.bool false)], args := [d1, d2, d3, d4] }
  | _ => none }
def MacKeysWrongFalsely : Prop := macKeysRow.holds Try.pinned (OpenSpec.ofChange macKeysWrong)

/-- 'blockhouselaw03.MacTagged': WHATEVER THE INPUT: true; the input reads as it did. -/
def macTaggedSpec : ChangeSpec := { name := "macTagged", fn := fun _ => fun
  | [d1, d2, d3] => { results := [.lit (.bool true)], args := [d1, d2, d3] }
  | _ => none }
def macTaggedRow : OpenClaim := { program := "ytmeloffdaninmaa", sum := "105019cf19020ad331a146d488e5d433ef953c209f8ea4ab05e60813a8701af8", func := "blockhouse/blockhouselaw03.MacTagged", spec := "macTagged", apart := false }
def MacTaggedSaid : Prop := macTaggedRow.holds Try.pinned (OpenSpec.ofChange macTaggedSpec)

/-- ITS FALSE NEIGHBOUR: 'it returns false'. Refute it at one input. -/
def macTaggedWrong : ChangeSpec := { name := "macTagged", fn := fun _ => fun
  | [d1, d2, d3] => { results := [.lit (.bool false)], args := [d1, d2, d3] }
  | _ => none }
def MacTaggedWrongFalsely : Prop := macTaggedRow.holds Try.pinned (OpenSpec.ofChange macTaggedWrong)

/-- 'blockhouselaw04.NorNumbers': WHATEVER THE INPUT: true; the input reads as it did. -/
def norNumbersSpec : ChangeSpec := { name := "norNumbers", fn := fun _ => fun
  | [] => { results := [.lit (.bool true)], args := [] }
  | _ => none }
def norNumbersRow : OpenClaim := { program := "ytmeloffdaninmaa", sum := "105019cf19020ad331a146d488e5d433ef953c209f8ea4ab05e60813a8701af8", func := "blockhouse/blockhouselaw04.NorNumbers", spec := "norNumbers", apart := false }
def NorNumbersSaid : Prop := norNumbersRow.holds Try.pinned (OpenSpec.ofChange norNumbersSpec)

/-- ITS FALSE NEIGHBOUR: 'it returns false'. Refute it at one input. -/
def norNumbersWrong : ChangeSpec := { name := "norNumbers", fn := fun _ => fun
  | [] => { results := [.lit (.bool false)], args := [] }
  | _ => none }
def NorNumbersWrongFalsely : Prop := norNumbersRow.holds Try.pinned (OpenSpec.ofChange norNumbersWrong)

/-- 'blockhouselaw04.NorPlays': WHATEVER THE INPUT: true; the input reads as it did. -/
def norPlaysSpec : ChangeSpec := { name := "norPlays", fn := fun _ => fun
  | [d1, d2, d3] => { results := [.lit (.bool true)], args := [d1, d2, d3] }
  | _ => none }
def norPlaysRow : OpenClaim := { program := "ytmeloffdaninmaa", sum := "105019cf19020ad331a146d488e5d433ef953c209f8ea4ab05e60813a8701af8", func := "blockhouse/blockhouselaw04.NorPlays", spec := "norPlays", apart := false }
def NorPlaysSaid : Prop := norPlaysRow.holds Try.pinned (OpenSpec.ofChange norPlaysSpec)

/-- ITS FALSE NEIGHBOUR: 'it returns false'. Refute it at one input. -/
def norPlaysWrong : ChangeSpec := { name := "norPlays", fn := fun _ => fun
  | [d1, d2, d3] => { results := [.lit (.bool false)], args := [d1, d2, d3] }
  | _ => none }
def NorPlaysWrongFalsely : Prop := norPlaysRow.holds Try.pinned (OpenSpec.ofChange norPlaysWrong)

/-- 'blockhouselaw04.NorNone': WHATEVER THE INPUT: true; the input reads as it did. -/
def norNoneSpec : ChangeSpec := { name := "norNone", fn := fun _ => fun
  | [d1, d2, d3] => { results := [.lit (.bool true)], args := [d1, d2, d3] }
  | _ => none }
def norNoneRow : OpenClaim := { program := "ytmeloffdaninmaa", sum := "105019cf19020ad331a146d488e5d433ef953c209f8ea4ab05e60813a8701af8", func := "blockhouse/blockhouselaw04.NorNone", spec := "norNone", apart := false }
def NorNoneSaid : Prop := norNoneRow.holds Try.pinned (OpenSpec.ofChange norNoneSpec)

/-- ITS FALSE NEIGHBOUR: 'it returns false'. Refute it at one input. -/
def norNoneWrong : ChangeSpec := { name := "norNone", fn := fun _ => fun
  | [d1, d2, d3] => { results := [.lit (.bool false)], args := [d1, d2, d3] }
  | _ => none }
def NorNoneWrongFalsely : Prop := norNoneRow.holds Try.pinned (OpenSpec.ofChange norNoneWrong)

/-- 'blockhouselaw04.NorFalls': WHATEVER THE INPUT: true; the input reads as it did. -/
def norFallsSpec : ChangeSpec := { name := "norFalls", fn := fun _ => fun
  | [d1, d2, d3, d4, d5, d6] => { results := [.lit (.bool true)], args := [d1, d2, d3, d4, d5, d6] }
  | _ => none }
def norFallsRow : OpenClaim := { program := "ytmeloffdaninmaa", sum := "105019cf19020ad331a146d488e5d433ef953c209f8ea4ab05e60813a8701af8", func := "blockhouse/blockhouselaw04.NorFalls", spec := "norFalls", apart := false }
def NorFallsSaid : Prop := norFallsRow.holds Try.pinned (OpenSpec.ofChange norFallsSpec)

/-- ITS FALSE NEIGHBOUR: 'it returns false'. Refute it at one input. -/
def norFallsWrong : ChangeSpec := { name := "norFalls", fn := fun _ => fun
  | [d1, d2, d3, d4, d5, d6] => { results := [.lit (.bool false)], args := [d1, d2, d3, d4, d5, d6] }
  | _ => none }
def NorFallsWrongFalsely : Prop := norFallsRow.holds Try.pinned (OpenSpec.ofChange norFallsWrong)

/-- 'blockhouselaw04.NorSteps': WHATEVER THE INPUT: true; the input reads as it did. -/
def norStepsSpec : ChangeSpec := { name := "norSteps", fn := fun _ => fun
  | [d1, d2] => { results := [.lit (.bool true)], args := [d1, d2] }
  | _ => none }
def norStepsRow : OpenClaim := { program := "ytmeloffdaninmaa", sum := "105019cf19020ad331a146d488e5d433ef953c209f8ea4ab05e60813a8701af8", func := "blockhouse/blockhouselaw04.NorSteps", spec := "norSteps", apart := false }
def NorStepsSaid : Prop := norStepsRow.holds Try.pinned (OpenSpec.ofChange norStepsSpec)

/-- ITS FALSE NEIGHBOUR: 'it returns false'. Refute it at one input. -/
def norStepsWrong : ChangeSpec := { name := "norSteps", fn := fun _ => fun
  | [d1, d2] => { results := [.lit (.bool false)], args := [d1, d2] }
  | _ => none }
def NorStepsWrongFalsely : Prop := norStepsRow.holds Try.pinned (OpenSpec.ofChange norStepsWrong)

/-- 'blockhouselaw04.NorGuard': WHATEVER THE INPUT: true; the input reads as it did. -/
def norGuardSpec : ChangeSpec := { name := "norGuard", fn := fun _ => fun
  | [d] => { results := [.lit (.bool true)], args := [d] }
  | _ => none }
def norGuardRow : OpenClaim := { program := "ytmeloffdaninmaa", sum := "105019cf19020ad331a146d488e5d433ef953c209f8ea4ab05e60813a8701af8", func := "blockhouse/blockhouselaw04.NorGuard", spec := "norGuard", apart := false }
def NorGuardSaid : Prop := norGuardRow.holds Try.pinned (OpenSpec.ofChange norGuardSpec)

/-- ITS FALSE NEIGHBOUR: 'it returns false'. Refute it at one input. -/
def norGuardWrong : ChangeSpec := { name := "norGuard", fn := fun _ => fun
  | [d] => { results := [.lit (.bool false)], args := [d] }
  | _ => none }
def NorGuardWrongFalsely : Prop := norGuardRow.holds Try.pinned (OpenSpec.ofChange norGuardWrong)

/-- 'blockhouselaw04.NorTwice': WHATEVER THE INPUT: true; the input reads as it did. -/
def norTwiceSpec : ChangeSpec := { name := "norTwice", fn := fun _ => fun
  | [d1, d2, d3, d4, d5, d6] => { results := [.lit (.bool true)], args := [d1, d2, d3, d4, d5, d6] }
  | _ => none }
def norTwiceRow : OpenClaim := { program := "ytmeloffdaninmaa", sum := "105019cf19020ad331a146d488e5d433ef953c209f8ea4ab05e60813a8701af8", func := "blockhouse/blockhouselaw04.NorTwice", spec := "norTwice", apart := false }
def NorTwiceSaid : Prop := norTwiceRow.holds Try.pinned (OpenSpec.ofChange norTwiceSpec)

/-- ITS FALSE NEIGHBOUR: 'it returns false'. Refute it at one input. -/
def norTwiceWrong : ChangeSpec := { name := "norTwice", fn := fun _ => fun
  | [d1, d2, d3, d4, d5, d6] => { results := [.lit (.bool false)], args := [d1, d2, d3, d4, d5, d6] }
  | _ => none }
def NorTwiceWrongFalsely : Prop := norTwiceRow.holds Try.pinned (OpenSpec.ofChange norTwiceWrong)

/- THE SECOND FORM. 'bulk': how many values and letters a reading holds, each counted each time it is reached (what is shared counts as often as it is met; a slice's spare places count too). A statement '..UptoSaid' is the law's where the arguments, and the package variables that the reading takes, are together of bulk at most 1048576: NARROWER than '..Said'. Prove '..Said' where nothing that the law and all that it calls make is longer than what came in: it says more and counts as full. Else prove '..UptoSaid'. A law counts once. -/
mutual
def uptoBulk {H : Type} : DataW H → Nat
  | .lit (.string bytes) => bytes.length + 1
  | .lit _ => 1
  | .nil => 1
  | .ptr d => uptoBulk d + 1
  | .slice elems spare => uptoBulkAll elems + uptoBulkAll spare + 1
  | .agg parts => uptoBulkAll parts + 1
  | .iface _ d => uptoBulk d + 1
  | .map entries => uptoBulkEntries entries + 1
  | .held _ => 1
def uptoBulkAll {H : Type} : List (DataW H) → Nat
  | [] => 0
  | d :: r => uptoBulk d + uptoBulkAll r
def uptoBulkEntries {H : Type} : List (Lit × DataW H) → Nat
  | [] => 0
  | x :: r => uptoBulkEntry x + uptoBulkEntries r
def uptoBulkEntry {H : Type} : Lit × DataW H → Nat
  | (.string bytes, d) => bytes.length + uptoBulk d + 1
  | (_, d) => uptoBulk d + 1
 end
def uptoSmall : (H : Type) → List (DataW H) → Bool := fun _ ds => decide (uptoBulkAll ds ≤ 1048576)
def OpenSpec.upto (s : _root_.Go.ChangeSpec) : _root_.Go.OpenSpec := { _root_.Go.OpenSpec.ofChange s with cond := some uptoSmall }

/-- 'blockhouselaw01.BytesTells', WHERE WHAT IT READS IS OF BULK AT MOST 1048576: true; the input reads as it did. -/
def bytesTellsUptoRow : OpenClaim := { program := "ytmeloffdaninmaa", sum := "105019cf19020ad331a146d488e5d433ef953c209f8ea4ab05e60813a8701af8", func := "blockhouse/blockhouselaw01.BytesTells", spec := "bytesTells", apart := false, narrowed := true }
def BytesTellsUptoSaid : Prop := bytesTellsUptoRow.holds Try.pinned (OpenSpec.upto bytesTellsSpec)

/-- 'blockhouselaw02.ShaNumbers', WHERE WHAT IT READS IS OF BULK AT MOST 1048576: true; the input reads as it did. -/
def shaNumbersUptoRow : OpenClaim := { program := "ytmeloffdaninmaa", sum := "105019cf19020ad331a146d488e5d433ef953c209f8ea4ab05e60813a8701af8", func := "blockhouse/blockhouselaw02.ShaNumbers", spec := "shaNumbers", apart := false, narrowed := true }
def ShaNumbersUptoSaid : Prop := shaNumbersUptoRow.holds Try.pinned (OpenSpec.upto shaNumbersSpec)

/-- 'blockhouselaw02.ShaTells', WHERE WHAT IT READS IS OF BULK AT MOST 1048576: true; the input reads as it did. -/
def shaTellsUptoRow : OpenClaim := { program := "ytmeloffdaninmaa", sum := "105019cf19020ad331a146d488e5d433ef953c209f8ea4ab05e60813a8701af8", func := "blockhouse/blockhouselaw02.ShaTells", spec := "shaTells", apart := false, narrowed := true }
def ShaTellsUptoSaid : Prop := shaTellsUptoRow.holds Try.pinned (OpenSpec.upto shaTellsSpec)

/-- 'blockhouselaw02.ShaTwice', WHERE WHAT IT READS IS OF BULK AT MOST 1048576: true; the input reads as it did. -/
def shaTwiceUptoRow : OpenClaim := { program := "ytmeloffdaninmaa", sum := "105019cf19020ad331a146d488e5d433ef953c209f8ea4ab05e60813a8701af8", func := "blockhouse/blockhouselaw02.ShaTwice", spec := "shaTwice", apart := false, narrowed := true }
def ShaTwiceUptoSaid : Prop := shaTwiceUptoRow.holds Try.pinned (OpenSpec.upto shaTwiceSpec)

/-- 'blockhouselaw02.ShaRoots', WHERE WHAT IT READS IS OF BULK AT MOST 1048576: true; the input reads as it did. -/
def shaRootsUptoRow : OpenClaim := { program := "ytmeloffdaninmaa", sum := "105019cf19020ad331a146d488e5d433ef953c209f8ea4ab05e60813a8701af8", func := "blockhouse/blockhouselaw02.ShaRoots", spec := "shaRoots", apart := false, narrowed := true }
def ShaRootsUptoSaid : Prop := shaRootsUptoRow.holds Try.pinned (OpenSpec.upto shaRootsSpec)

/-- 'blockhouselaw03.MacTells', WHERE WHAT IT READS IS OF BULK AT MOST 1048576: true; the input reads as it did. -/
def macTellsUptoRow : OpenClaim := { program := "ytmeloffdaninmaa", sum := "105019cf19020ad331a146d488e5d433ef953c209f8ea4ab05e60813a8701af8", func := "blockhouse/blockhouselaw03.MacTells", spec := "macTells", apart := false, narrowed := true }
def MacTellsUptoSaid : Prop := macTellsUptoRow.holds Try.pinned (OpenSpec.upto macTellsSpec)

/-- 'blockhouselaw03.MacTexts', WHERE WHAT IT READS IS OF BULK AT MOST 1048576: true; the input reads as it did. -/
def macTextsUptoRow : OpenClaim := { program := "ytmeloffdaninmaa", sum := "105019cf19020ad331a146d488e5d433ef953c209f8ea4ab05e60813a8701af8", func := "blockhouse/blockhouselaw03.MacTexts", spec := "macTexts", apart := false, narrowed := true }
def MacTextsUptoSaid : Prop := macTextsUptoRow.holds Try.pinned (OpenSpec.upto macTextsSpec)

/-- 'blockhouselaw03.MacKeys', WHERE WHAT IT READS IS OF BULK AT MOST 1048576: true; the input reads as it did. -/
def macKeysUptoRow : OpenClaim := { program := "ytmeloffdaninmaa", sum := "105019cf19020ad331a146d488e5d433ef953c209f8ea4ab05e60813a8701af8", func := "blockhouse/blockhouselaw03.MacKeys", spec := "macKeys", apart := false, narrowed := true }
def MacKeysUptoSaid : Prop := macKeysUptoRow.holds Try.pinned (OpenSpec.upto macKeysSpec)

/-- 'blockhouselaw03.MacTagged', WHERE WHAT IT READS IS OF BULK AT MOST 1048576: true; the input reads as it did. -/
def macTaggedUptoRow : OpenClaim := { program := "ytmeloffdaninmaa", sum := "105019cf19020ad331a146d488e5d433ef953c209f8ea4ab05e60813a8701af8", func := "blockhouse/blockhouselaw03.MacTagged", spec := "macTagged", apart := false, narrowed := true }
def MacTaggedUptoSaid : Prop := macTaggedUptoRow.holds Try.pinned (OpenSpec.upto macTaggedSpec)

/-- 'blockhouselaw04.NorNumbers', WHERE WHAT IT READS IS OF BULK AT MOST 1048576: true; the input reads as it did. -/
def norNumbersUptoRow : OpenClaim := { program := "ytmeloffdaninmaa", sum := "105019cf19020ad331a146d488e5d433ef953c209f8ea4ab05e60813a8701af8", func := "blockhouse/blockhouselaw04.NorNumbers", spec := "norNumbers", apart := false, narrowed := true }
def NorNumbersUptoSaid : Prop := norNumbersUptoRow.holds Try.pinned (OpenSpec.upto norNumbersSpec)

/-- 'blockhouselaw04.NorPlays', WHERE WHAT IT READS IS OF BULK AT MOST 1048576: true; the input reads as it did. -/
def norPlaysUptoRow : OpenClaim := { program := "ytmeloffdaninmaa", sum := "105019cf19020ad331a146d488e5d433ef953c209f8ea4ab05e60813a8701af8", func := "blockhouse/blockhouselaw04.NorPlays", spec := "norPlays", apart := false, narrowed := true }
def NorPlaysUptoSaid : Prop := norPlaysUptoRow.holds Try.pinned (OpenSpec.upto norPlaysSpec)

/-- 'blockhouselaw04.NorNone', WHERE WHAT IT READS IS OF BULK AT MOST 1048576: true; the input reads as it did. -/
def norNoneUptoRow : OpenClaim := { program := "ytmeloffdaninmaa", sum := "105019cf19020ad331a146d488e5d433ef953c209f8ea4ab05e60813a8701af8", func := "blockhouse/blockhouselaw04.NorNone", spec := "norNone", apart := false, narrowed := true }
def NorNoneUptoSaid : Prop := norNoneUptoRow.holds Try.pinned (OpenSpec.upto norNoneSpec)

/-- 'blockhouselaw04.NorFalls', WHERE WHAT IT READS IS OF BULK AT MOST 1048576: true; the input reads as it did. -/
def norFallsUptoRow : OpenClaim := { program := "ytmeloffdaninmaa", sum := "105019cf19020ad331a146d488e5d433ef953c209f8ea4ab05e60813a8701af8", func := "blockhouse/blockhouselaw04.NorFalls", spec := "norFalls", apart := false, narrowed := true }
def NorFallsUptoSaid : Prop := norFallsUptoRow.holds Try.pinned (OpenSpec.upto norFallsSpec)

/-- 'blockhouselaw04.NorSteps', WHERE WHAT IT READS IS OF BULK AT MOST 1048576: true; the input reads as it did. -/
def norStepsUptoRow : OpenClaim := { program := "ytmeloffdaninmaa", sum := "105019cf19020ad331a146d488e5d433ef953c209f8ea4ab05e60813a8701af8", func := "blockhouse/blockhouselaw04.NorSteps", spec := "norSteps", apart := false, narrowed := true }
def NorStepsUptoSaid : Prop := norStepsUptoRow.holds Try.pinned (OpenSpec.upto norStepsSpec)

/-- 'blockhouselaw04.NorGuard', WHERE WHAT IT READS IS OF BULK AT MOST 1048576: true; the input reads as it did. -/
def norGuardUptoRow : OpenClaim := { program := "ytmeloffdaninmaa", sum := "105019cf19020ad331a146d488e5d433ef953c209f8ea4ab05e60813a8701af8", func := "blockhouse/blockhouselaw04.NorGuard", spec := "norGuard", apart := false, narrowed := true }
def NorGuardUptoSaid : Prop := norGuardUptoRow.holds Try.pinned (OpenSpec.upto norGuardSpec)

/-- 'blockhouselaw04.NorTwice', WHERE WHAT IT READS IS OF BULK AT MOST 1048576: true; the input reads as it did. -/
def norTwiceUptoRow : OpenClaim := { program := "ytmeloffdaninmaa", sum := "105019cf19020ad331a146d488e5d433ef953c209f8ea4ab05e60813a8701af8", func := "blockhouse/blockhouselaw04.NorTwice", spec := "norTwice", apart := false, narrowed := true }
def NorTwiceUptoSaid : Prop := norTwiceUptoRow.holds Try.pinned (OpenSpec.upto norTwiceSpec)

end Rows
end Go.Proofs.Ytmeloffdaninmaa
