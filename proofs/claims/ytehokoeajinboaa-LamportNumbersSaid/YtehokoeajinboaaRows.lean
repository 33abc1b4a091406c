/-
  No cell of these rows narrows 'for every input' (looked for: loops, veiled, ifaces, maps, wideKeys, modest, calm, conditions, laid).
  DERIVED. THE GIVEN ROWS OF THIS SEAT. 10 by the template 'for every input the law returns true; each argument reads behind the call as it read before'; 0 by the template 'total and deterministic' (their statements: YtehokoeajinboaaTotals.lean).
  GIVEN WITH THE SEED: the statements are not yours to turn. If you find one false, say at which input.
  Laid BY PROGRAM, IN A SANDBOX (cutbox-rows.mjs): the forced cells as the released guide's own fill.sh prints them over the translation 5f31f775fe278b0f… (all of the seat's roots in one cut). By AI agents, Wed Nov 11 2026. No macro, syntax, notation, axiom, sorry.
-/
import Derived.Test.YtehokoeajinboaaChecked
import GoSem.Claim
import GoSem.ClaimJoined
import GoSem.ClaimMapViews
import Derived.JoinedTies
import Derived.KernelRfl
namespace Go.Proofs.Ytehokoeajinboaa
/- THE CELL 'sum', in the pinned program and in every row, IS THE sha256 OF THE DUMP (.gsa) THAT YtehokoeajinboaaProg.lean LOADS. Nothing in Lean hashes anything: it is a label: what it is worth is what the hold of that sum in a sandbox is worth. -/
noncomputable def Try.pinned : Pinned := { name := "ytehokoeajinboaa", sum := "5f31f775fe278b0f300fe5e12cc5f87067880d19d7e3732843a576ce345f76b0", checked := Try.checked }
namespace Rows
def none {H : Type} : Left H := { results := [], args := [] }

/-- 'blockhouselaw03.MacTells': WHATEVER THE INPUT: true; the input reads as it did. -/
def macTellsSpec : ChangeSpec := { name := "macTells", fn := fun _ => fun
  | [d1, d2, d3, d4, d5] => { results := [.lit (.bool true)], args := [d1, d2, d3, d4, d5] }
  | _ => none }
def macTellsRow : OpenClaim := { program := "ytehokoeajinboaa", sum := "5f31f775fe278b0f300fe5e12cc5f87067880d19d7e3732843a576ce345f76b0", func := "blockhouse/blockhouselaw03.MacTells", spec := "macTells", apart := false }
def MacTellsSaid : Prop := macTellsRow.holds Try.pinned (OpenSpec.ofChange macTellsSpec)

/-- ITS FALSE NEIGHBOUR: 'it returns false'. Refute it at one input. -/
def macTellsWrong : ChangeSpec := { name := "macTells", fn := fun _ => fun
  | [d1, d2, d3, d4, d5] => { results := [.lit (.bool false)], args := [d1, d2, d3, d4, d5] }
  | _ => none }
def MacTellsWrongFalsely : Prop := macTellsRow.holds Try.pinned (OpenSpec.ofChange macTellsWrong)

/-- 'blockhouselaw06.TallyPlays': WHATEVER THE INPUT: true; the input reads as it did. -/
def tallyPlaysSpec : ChangeSpec := { name := "tallyPlays", fn := fun _ => fun
  | [d] => { results := [.lit (.bool true)], args := [d] }
  | _ => none }
def tallyPlaysRow : OpenClaim := { program := "ytehokoeajinboaa", sum := "5f31f775fe278b0f300fe5e12cc5f87067880d19d7e3732843a576ce345f76b0", func := "blockhouse/blockhouselaw06.TallyPlays", spec := "tallyPlays", unfollowed := true, recurses := true, apart := false }
def TallyPlaysSaid : Prop := tallyPlaysRow.holds Try.pinned (OpenSpec.ofChange tallyPlaysSpec)

/-- ITS FALSE NEIGHBOUR: 'it returns false'. Refute it at one input. -/
def tallyPlaysWrong : ChangeSpec := { name := "tallyPlays", fn := fun _ => fun
  | [d] => { results := [.lit (.bool false)], args := [d] }
  | _ => none }
def TallyPlaysWrongFalsely : Prop := tallyPlaysRow.holds Try.pinned (OpenSpec.ofChange tallyPlaysWrong)

/-- 'blockhouselaw07.CellPlays': WHATEVER THE INPUT: true; the input reads as it did. -/
def cellPlaysSpec : ChangeSpec := { name := "cellPlays", fn := fun _ => fun
  | [d] => { results := [.lit (.bool true)], args := [d] }
  | _ => none }
def cellPlaysRow : OpenClaim := { program := "ytehokoeajinboaa", sum := "5f31f775fe278b0f300fe5e12cc5f87067880d19d7e3732843a576ce345f76b0", func := "blockhouse/blockhouselaw07.CellPlays", spec := "cellPlays", unfollowed := true, recurses := true, apart := false }
def CellPlaysSaid : Prop := cellPlaysRow.holds Try.pinned (OpenSpec.ofChange cellPlaysSpec)

/-- ITS FALSE NEIGHBOUR: 'it returns false'. Refute it at one input. -/
def cellPlaysWrong : ChangeSpec := { name := "cellPlays", fn := fun _ => fun
  | [d] => { results := [.lit (.bool false)], args := [d] }
  | _ => none }
def CellPlaysWrongFalsely : Prop := cellPlaysRow.holds Try.pinned (OpenSpec.ofChange cellPlaysWrong)

/-- 'blockhouselaw09.LamportNumbers': WHATEVER THE INPUT: true; the input reads as it did. -/
def lamportNumbersSpec : ChangeSpec := { name := "lamportNumbers", fn := fun _ => fun
  | [] => { results := [.lit (.bool true)], args := [] }
  | _ => none }
def lamportNumbersRow : OpenClaim := { program := "ytehokoeajinboaa", sum := "5f31f775fe278b0f300fe5e12cc5f87067880d19d7e3732843a576ce345f76b0", func := "blockhouse/blockhouselaw09.LamportNumbers", spec := "lamportNumbers", apart := false }
def LamportNumbersSaid : Prop := lamportNumbersRow.holds Try.pinned (OpenSpec.ofChange lamportNumbersSpec)

/-- ITS FALSE NEIGHBOUR: 'it returns false'. Refute it at one input. -/
def lamportNumbersWrong : ChangeSpec := { name := "lamportNumbers", fn := fun _ => fun
  | [] => { results := [.lit (.bool false)], args := [] }
  | _ => none }
def LamportNumbersWrongFalsely : Prop := lamportNumbersRow.holds Try.pinned (OpenSpec.ofChange lamportNumbersWrong)

/-- 'blockhouselaw09.LamportTells': WHATEVER THE INPUT: true; the input reads as it did. -/
def lamportTellsSpec : ChangeSpec := { name := "lamportTells", fn := fun _ => fun
  | [d1, d2, d3, d4, d5, d6, d7] => { results := [.lit (.bool true)], args := [d1, d2, d3, d4, d5, d6, d7] }
  | _ => none }
def lamportTellsRow : OpenClaim := { program := "ytehokoeajinboaa", sum := "5f31f775fe278b0f300fe5e12cc5f87067880d19d7e3732843a576ce345f76b0", func := "blockhouse/blockhouselaw09.LamportTells", spec := "lamportTells", apart := false }
def LamportTellsSaid : Prop := lamportTellsRow.holds Try.pinned (OpenSpec.ofChange lamportTellsSpec)

/-- ITS FALSE NEIGHBOUR: 'it returns false'. Refute it at one input. -/
def lamportTellsWrong : ChangeSpec := { name := "lamportTells", fn := fun _ => fun
  | [d1, d2, d3, d4, d5, d6, d7] => { results := [.lit (.bool false)], args := [d1, d2, d3, d4, d5, d6, d7] }
  | _ => none }
def LamportTellsWrongFalsely : Prop := lamportTellsRow.holds Try.pinned (OpenSpec.ofChange lamportTellsWrong)

/-- 'blockhouselaw09.LamportKeys': WHATEVER THE INPUT: true; the input reads as it did. -/
def lamportKeysSpec : ChangeSpec := { name := "lamportKeys", fn := fun _ => fun
  | [d1, d2, d3, d4] => { results := [.lit (.bool true)], args := [d1, d2, d3, d4] }
  | _ => none }
def lamportKeysRow : OpenClaim := { program := "ytehokoeajinboaa", sum := "5f31f775fe278b0f300fe5e12cc5f87067880d19d7e3732843a576ce345f76b0", func := "blockhouse/blockhouselaw09.LamportKeys", spec := "lamportKeys", apart := false }
def LamportKeysSaid : Prop := lamportKeysRow.holds Try.pinned (OpenSpec.ofChange lamportKeysSpec)

/-- ITS FALSE NEIGHBOUR: 'it returns false'. Refute it at one input. -/
def lamportKeysWrong : ChangeSpec := { name := "lamportKeys", fn := fun _ => fun
  | [d1, d2, d3, d4] => { results := [.lit (.bool false)], args := [d1, d2, d3, d4] }
  | _ => none }
def LamportKeysWrongFalsely : Prop := lamportKeysRow.holds Try.pinned (OpenSpec.ofChange lamportKeysWrong)

/-- 'blockhouselaw09.LamportSigns': WHATEVER THE INPUT: true; the input reads as it did. -/
def lamportSignsSpec : ChangeSpec := { name := "lamportSigns", fn := fun _ => fun
  | [d1, d2, d3, d4, d5] => { results := [.lit (.bool true)], args := [d1, d2, d3, d4, d5] }
  | _ => none }
def lamportSignsRow : OpenClaim := { program := "ytehokoeajinboaa", sum := "5f31f775fe278b0f300fe5e12cc5f87067880d19d7e3732843a576ce345f76b0", func := "blockhouse/blockhouselaw09.LamportSigns", spec := "lamportSigns", apart := false }
def LamportSignsSaid : Prop := lamportSignsRow.holds Try.pinned (OpenSpec.ofChange lamportSignsSpec)

/-- ITS FALSE NEIGHBOUR: 'it returns false'. Refute it at one input. -/
def lamportSignsWrong : ChangeSpec := { name := "lamportSigns", fn := fun _ => fun
  | [d1, d2, d3, d4, d5] => { results := [.lit (.bool false)], args := [d1, d2, d3, d4, d5] }
  | _ => none }
def LamportSignsWrongFalsely : Prop := lamportSignsRow.holds Try.pinned (OpenSpec.ofChange lamportSignsWrong)

/-- 'blockhouselaw09.LamportTold': WHATEVER THE INPUT: true; the input reads as it did. -/
def lamportToldSpec : ChangeSpec := { name := "lamportTold", fn := fun _ => fun
  | [d1, d2, d3, d4, d5] => { results := [.lit (.bool true)], args := [d1, d2, d3, d4, d5] }
  | _ => none }
def lamportToldRow : OpenClaim := { program := "ytehokoeajinboaa", sum := "5f31f775fe278b0f300fe5e12cc5f87067880d19d7e3732843a576ce345f76b0", func := "blockhouse/blockhouselaw09.LamportTold", spec := "lamportTold", apart := false }
def LamportToldSaid : Prop := lamportToldRow.holds Try.pinned (OpenSpec.ofChange lamportToldSpec)

/-- ITS FALSE NEIGHBOUR: 'it returns false'. Refute it at one input. -/
def lamportToldWrong : ChangeSpec := { name := "lamportTold", fn := fun _ => fun
  | [d1, d2, d3, d4, d5] => { results := [.lit (.bool false)], args := [d1, d2, d3, d4, d5] }
  | _ => none }
def LamportToldWrongFalsely : Prop := lamportToldRow.holds Try.pinned (OpenSpec.ofChange lamportToldWrong)

/-- 'blockhouselaw09.LamportTexts': WHATEVER THE INPUT: true; the input reads as it did. -/
def lamportTextsSpec : ChangeSpec := { name := "lamportTexts", fn := fun _ => fun
  | [d1, d2, d3, d4, d5] => { results := [.lit (.bool true)], args := [d1, d2, d3, d4, d5] }
  | _ => none }
def lamportTextsRow : OpenClaim := { program := "ytehokoeajinboaa", sum := "5f31f775fe278b0f300fe5e12cc5f87067880d19d7e3732843a576ce345f76b0", func := "blockhouse/blockhouselaw09.LamportTexts", spec := "lamportTexts", apart := false }
def LamportTextsSaid : Prop := lamportTextsRow.holds Try.pinned (OpenSpec.ofChange lamportTextsSpec)

/-- ITS FALSE NEIGHBOUR: 'it returns false'. Refute it at one input. -/
def lamportTextsWrong : ChangeSpec := { name := "lamportTexts", fn := fun _ => fun
  | [d1, d2, d3, d4, d5] => { results := [.lit (.bool false)], args := [d1, d2, d3, d4, d5] }
  | _ => none }
def LamportTextsWrongFalsely : Prop := lamportTextsRow.holds Try.pinned (OpenSpec.ofChange lamportTextsWrong)

/-- 'blockhouselaw09.LamportBits': WHATEVER THE INPUT: true; the input reads as it did. -/
def lamportBitsSpec : ChangeSpec := { name := "lamportBits", fn := fun _ => fun
  | [d1, d2] => { results := [.lit (.bool true)], args := [d1, d2] }
  | _ => none }
def lamportBitsRow : OpenClaim := { program := "ytehokoeajinboaa", sum := "5f31f775fe278b0f300fe5e12cc5f87067880d19d7e3732843a576ce345f76b0", func := "blockhouse/blockhouselaw09.LamportBits", spec := "lamportBits", apart := false }
def LamportBitsSaid : Prop := lamportBitsRow.holds Try.pinned (OpenSpec.ofChange lamportBitsSpec)

/-- ITS FALSE NEIGHBOUR: 'it returns false'. Refute it at one input. -/
def lamportBitsWrong : ChangeSpec := { name := "lamportBits", fn := fun _ => fun
  | [d1, d2] => { results := [.lit (.bool false)], args := [d1, d2] }
  | _ => none }
def LamportBitsWrongFalsely : Prop := lamportBitsRow.holds Try.pinned (OpenSpec.ofChange lamportBitsWrong)

/- THE SECOND FORM. 'bulk': how many values and letters a reading holds, each counted each time it is reached (what is shared counts as often as it is met; a slice's spare places count too). A statement '..UptoSaid' is the law's where the arguments, and the package variables that the reading takes, are together of bulk at most 1048576: NARROWER than '..Said'. Prove '..Said' where nothing that the law and all that it calls make is longer than what came in: it says more and counts as full. Else prove '..UptoSaid'. A law counts once. -/
mutual
def uptoBulk {H : Type} : DataW H → Nat
  | .lit (.string bytes) => bytes.length + 1
  | .lit _ => 1
  | .nil => 1
  | .ptr d => uptoBulk d + 1
  | .slice elems spare => uptoBulkAll elems + uptoBulkAll spare + 1
  | .agg parts => uptoBulkAll parts + 1
  | .iface _ d => uptoBulk d + 1
  | .map entries => uptoBulkEntries entries + 1
  | .held _ => 1
def uptoBulkAll {H : Type} : List (DataW H) → Nat
  | [] => 0
  | d :: r => uptoBulk d + uptoBulkAll r
def uptoBulkEntries {H : Type} : List (Lit × DataW H) → Nat
  | [] => 0
  | x :: r => uptoBulkEntry x + uptoBulkEntries r
def uptoBulkEntry {H : Type} : Lit × DataW H → Nat
  | (.string bytes, d) => bytes.length + uptoBulk d + 1
  | (_, d) => uptoBulk d + 1
 end
def uptoSmall : (H : Type) → List (DataW H) → Bool := fun _ ds => decide (uptoBulkAll ds ≤ 1048576)
def OpenSpec.upto (s : _root_.Go.ChangeSpec) : _root_.Go.OpenSpec := { _root_.Go.OpenSpec.ofChange s with cond := some uptoSmall }

/-- 'blockhouselaw03.MacTells', WHERE WHAT IT READS IS OF BULK AT MOST 1048576: true; the input reads as it did. -/
def macTellsUptoRow : OpenClaim := { program := "ytehokoeajinboaa", sum := "5f31f775fe278b0f300fe5e12cc5f87067880d19d7e3732843a576ce345f76b0", func := "blockhouse/blockhouselaw03.MacTells", spec := "macTells", apart := false, narrowed := true }
def MacTellsUptoSaid : Prop := macTellsUptoRow.holds Try.pinned (OpenSpec.upto macTellsSpec)

/-- 'blockhouselaw06.TallyPlays', WHERE WHAT IT READS IS OF BULK AT MOST 1048576: true; the input reads as it did. -/
def tallyPlaysUptoRow : OpenClaim := { program := "ytehokoeajinboaa", sum := "5f31f775fe278b0f300fe5e12cc5f87067880d19d7e3732843a576ce345f76b0", func := "blockhouse/blockhouselaw06.TallyPlays", spec := "tallyPlays", unfollowed := true, recurses := true, apart := false, narrowed := true }
def TallyPlaysUptoSaid : Prop := tallyPlaysUptoRow.holds Try.pinned (OpenSpec.upto tallyPlaysSpec)

/-- 'blockhouselaw07.CellPlays', WHERE WHAT IT READS IS OF BULK AT MOST 1048576: true; the input reads as it did. -/
def cellPlaysUptoRow : OpenClaim := { program := "ytehokoeajinboaa", sum := "5f31f775fe278b0f300fe5e12cc5f87067880d19d7e3732843a576ce345f76b0", func := "blockhouse/blockhouselaw07.CellPlays", spec := "cellPlays", unfollowed := true, recurses := true, apart := false, narrowed := true }
def CellPlaysUptoSaid : Prop := cellPlaysUptoRow.holds Try.pinned (OpenSpec.upto cellPlaysSpec)

/-- 'blockhouselaw09.LamportNumbers', WHERE WHAT IT READS IS OF BULK AT MOST 1048576: true; the input reads as it did. -/
def lamportNumbersUptoRow : OpenClaim := { program := "ytehokoeajinboaa", sum := "5f31f775fe278b0f300fe5e12cc5f87067880d19d7e3732843a576ce345f76b0", func := "blockhouse/blockhouselaw09.LamportNumbers", spec := "lamportNumbers", apart := false, narrowed := true }
def LamportNumbersUptoSaid : Prop := lamportNumbersUptoRow.holds Try.pinned (OpenSpec.upto lamportNumbersSpec)

/-- 'blockhouselaw09.LamportTells', WHERE WHAT IT READS IS OF BULK AT MOST 1048576: true; the input reads as it did. -/
def lamportTellsUptoRow : OpenClaim := { program := "ytehokoeajinboaa", sum := "5f31f775fe278b0f300fe5e12cc5f87067880d19d7e3732843a576ce345f76b0", func := "blockhouse/blockhouselaw09.LamportTells", spec := "lamportTells", apart := false, narrowed := true }
def LamportTellsUptoSaid : Prop := lamportTellsUptoRow.holds Try.pinned (OpenSpec.upto lamportTellsSpec)

/-- 'blockhouselaw09.LamportKeys', WHERE WHAT IT READS IS OF BULK AT MOST 1048576: true; the input reads as it did. -/
def lamportKeysUptoRow : OpenClaim := { program := "ytehokoeajinboaa", sum := "5f31f775fe278b0f300fe5e12cc5f87067880d19d7e3732843a576ce345f76b0", func := "blockhouse/blockhouselaw09.LamportKeys", spec := "lamportKeys", apart := false, narrowed := true }
def LamportKeysUptoSaid : Prop := lamportKeysUptoRow.holds Try.pinned (OpenSpec.upto lamportKeysSpec)

/-- 'blockhouselaw09.LamportSigns', WHERE WHAT IT READS IS OF BULK AT MOST 1048576: true; the input reads as it did. -/
def lamportSignsUptoRow : OpenClaim := { program := "ytehokoeajinboaa", sum := "5f31f775fe278b0f300fe5e12cc5f87067880d19d7e3732843a576ce345f76b0", func := "blockhouse/blockhouselaw09.LamportSigns", spec := "lamportSigns", apart := false, narrowed := true }
def LamportSignsUptoSaid : Prop := lamportSignsUptoRow.holds Try.pinned (OpenSpec.upto lamportSignsSpec)

/-- 'blockhouselaw09.LamportTold', WHERE WHAT IT READS IS OF BULK AT MOST 1048576: true; the input reads as it did. -/
def lamportToldUptoRow : OpenClaim := { program := "ytehokoeajinboaa", sum := "5f31f775fe278b0f300fe5e12cc5f87067880d19d7e3732843a576ce345f76b0", func := "blockhouse/blockhouselaw09.LamportTold", spec := "lamportTold", apart := false, narrowed := true }
def LamportToldUptoSaid : Prop := lamportToldUptoRow.holds Try.pinned (OpenSpec.upto lamportToldSpec)

/-- 'blockhouselaw09.LamportTexts', WHERE WHAT IT READS IS OF BULK AT MOST 1048576: true; the input reads as it did. -/
def lamportTextsUptoRow : OpenClaim := { program := "ytehokoeajinboaa", sum := "5f31f775fe278b0f300fe5e12cc5f87067880d19d7e3732843a576ce345f76b0", func := "blockhouse/blockhouselaw09.LamportTexts", spec := "lamportTexts", apart := false, narrowed := true }
def LamportTextsUptoSaid : Prop := lamportTextsUptoRow.holds Try.pinned (OpenSpec.upto lamportTextsSpec)

/-- 'blockhouselaw09.LamportBits', WHERE WHAT IT READS IS OF BULK AT MOST 1048576: true; the input reads as it did. -/
def lamportBitsUptoRow : OpenClaim := { program := "ytehokoeajinboaa", sum := "5f31f775fe278b0f300fe5e12cc5f87067880d19d7e3732843a576ce345f76b0", func := "blockhouse/blockhouselaw09.LamportBits", spec := "lamportBits", apart := false, narrowed := true }
def LamportBitsUptoSaid : Prop := lamportBitsUptoRow.holds Try.pinned (OpenSpec.upto lamportBitsSpec)

end Rows
end Go.Proofs.Ytehokoeajinboaa
