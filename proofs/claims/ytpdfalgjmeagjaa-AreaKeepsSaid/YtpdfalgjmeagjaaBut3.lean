/-
  Calls that write three blocks alone; a drive beside a block that is written; two results of which one is a block of its own.
-/
import Derived.Test.YtpdfalgjmeagjaaDrives
import Derived.Test.YtpdfalgjmeagjaaArr
import Derived.Laws.ResultCell
namespace Go.Proofs.Ytpdfalgjmeagjaa
open Go.RowKit Go.Shelf
set_option linter.unusedVariables false

/-- Writes nothing that was there but these three blocks. -/
structure But3 (t p b : Nat) (w w' : World) : Prop where
  os : w'.os = w.os
  tape : w'.tape = w.tape
  output : w'.output = w.output
  size : w.heap.size ≤ w'.heap.size
  keep : ∀ k, k < w.heap.size → k ≠ t → k ≠ p → k ≠ b → w'.heap[k]? = w.heap[k]?
section
variable {w w' w'' : World} {base t d p b f : Nat} {S : Fl}
theorem But3.of_but (x : But p b w w') (t : Nat) : But3 t p b w w' := ⟨x.os, x.tape, x.output, x.size, fun k h _ h2 h3 => x.keep k h h2 h3⟩
theorem But3.of_own (x : But t t w w') (p b : Nat) : But3 t p b w w' := ⟨x.os, x.tape, x.output, x.size, fun k h h1 _ _ => x.keep k h h1 h1⟩
theorem But3.of_below (x : Below w.heap.size w w') (t p b : Nat) : But3 t p b w w' := ⟨x.os, x.tape, x.output, x.size, fun k h _ _ _ => x.block k h⟩
theorem But3.then_ (x : But3 t p b w w') (y : But3 t p b w' w'') : But3 t p b w w'' :=
  ⟨y.os.trans x.os, y.tape.trans x.tape, y.output.trans x.output, Nat.le_trans x.size y.size, fun k h h1 h2 h3 => (y.keep k (Nat.lt_of_lt_of_le h x.size) h1 h2 h3).trans (x.keep k h h1 h2 h3)⟩
theorem But3.below {B : Nat} (x : But3 t p b w w') (ht : B ≤ t) (hp : B ≤ p) (hb : B ≤ b) (hB : B ≤ w.heap.size) : Below B w w' := ⟨x.os, x.tape, x.output, x.size, fun k h => x.keep k (by omega) (by omega) (by omega) (by omega)⟩
theorem DrAt.other6 {g m : Nat} (h : DrAt base w d p b f m S) (x : But g g w w') (h1 : p ≠ g) (h2 : b ≠ g) (h3 : d ≠ g) : DrAt base w' d p b f m S := ⟨h.nor.but x h1 h1 h2 h2, h.obj.but x h3 h3, h.fits, h.some_⟩
end
/-- Two results: one in memory of this call's own, one beside it. -/
theorem bodyPost_cell_tmp {P : Program} {a : Act} {w : World} {fn : Func} {R : Ending → World → Prop} {p q : Tmp} {T : TypeId} {g B off : Nat} (hr : fn.results = #[.cell p T, .tmp q]) (hp : a.tmps.getD p undef = .pointer (some ⟨g, off, none⟩)) (u : Value) (hq : a.tmps.getD q undef = u) (xs : List Value) (n : Nat) (hn : xs.length = n) (hT : aggB P T n = true) (hs : Sees w B (some ⟨g, off, none⟩) xs)
    (hd : a.defers = []) (hR : R (.returned (.tuple #[.agg xs.toArray, u])) w) : bodyPost P fn R .ret a w := by
  subst hn
  refine ⟨hd, _, ?_, hR⟩
  rw [results_cell_tmp hr, hp, hq]
  simp [asAddr, run_loadVar_sees T xs hT hs]
theorem results_four {fn : Func} {p q r s : Tmp} (h : fn.results = #[.tmp p, .tmp q, .tmp r, .tmp s]) (tmps : Array Value) (P : Program) (w : World) : (results fn tmps).run P w = .ok (.tuple #[tmps.getD p undef, tmps.getD q undef, tmps.getD r undef, tmps.getD s undef]) w := by
  simp [results, h]
end Go.Proofs.Ytpdfalgjmeagjaa
