/-
  Arguments by value: arrays of integers, and structs of them, opened: what cells a value has that reads as data.
-/
import Derived.Test.YtpdfalgjmeagjaaArrInts
import Derived.Test.YtpdfalgjmeagjaaRow
import Derived.Test.YtpdfalgjmeagjaaProg
import Derived.ChangeSame
import Derived.ChangeBears
import Derived.WideShapes
import Derived.Lib.SmallJoins
namespace Go.Proofs.Ytpdfalgjmeagjaa
open Go.RowKit Go.ChangeShapes Go.WideShapes
set_option linter.unusedVariables false

section
variable {H : Type} {enc : TypeId × Value → H} {P : Program} {w : World} {base : Nat} {spare : Nat → Bool} {held : Bool}
end

section
variable {H : Type} {enc : TypeId × Value → H} {w : World} {base : Nat} {spare : Nat → Bool} {held : Bool}
set_option maxRecDepth 100000 in
/-- A table by value. -/
theorem open_rounds {r : Reach} {b0 : Nat} {v : Value} {d : DataW H} {p : List MemPlace} (hv : Value.okWide Try.prog w r b0 26 v) (h : DataW.Trod enc Try.prog w base spare held 26 v d p) :
    ∃ first keys : List UInt32, v = .agg (cw (first ++ keys)).toArray ∧ first.length = 8 ∧ keys.length = 64 := by
  obtain ⟨cs, rfl, hsz⟩ := okWide_struct Try.underlying26 hv
  obtain ⟨fuel, hf⟩ := h
  obtain ⟨y0, y1, n, _, hl, h0, h1⟩ := trod_struct2 Try.underlying26 hf
  have hc72 : Try.prog.cellsOf 26 = 72 := by kernel_rfl
  have hc8 : Try.prog.cellsOf 23 = 8 := by kernel_rfl
  have hc64 : Try.prog.cellsOf 24 = 64 := by kernel_rfl
  obtain ⟨l0, z0, e0, w0⟩ := trod_array_ints Try.underlying23 Try.underlying22 (by kernel_rfl) hc8 h0
  obtain ⟨l1, z1, e1, w1⟩ := trod_array_ints Try.underlying24 Try.underlying22 (by kernel_rfl) hc64 h1
  obtain ⟨f, lf, ef⟩ := words_of z0 w0
  obtain ⟨k, lk, ek⟩ := words_of z1 w1
  rw [ef] at e0
  rw [ek] at e1
  have hlen : cs.toList.length = 72 := by rw [← hc72]; exact hl
  have hl0 := congrArg List.length e0
  have hl1 := congrArg List.length e1
  rw [l0, List.length_map] at hl0
  rw [l1, List.length_map] at hl1
  refine ⟨f, k, ?_, hl0.symm, hl1.symm⟩
  congr 1
  have e : cs.toList = cw (f ++ k) := by
    rw [cw, List.map_append, ← cw, ← cw, ← e0, ← e1]
    show cs.toList = ((cs.toList.drop 0).take (Try.prog.cellsOf 23)) ++ ((cs.toList.drop 8).take (Try.prog.cellsOf 24))
    rw [hc8, hc64, List.drop_zero, List.take_of_length_le (l := cs.toList.drop 8) (by rw [List.length_drop]; omega), List.take_append_drop]
  rw [← e]
set_option maxRecDepth 100000 in
/-- A block by value. -/
theorem open_block {r : Reach} {b0 : Nat} {v : Value} {d : DataW H} {p : List MemPlace} (hv : Value.okWide Try.prog w r b0 43 v) (h : DataW.Trod enc Try.prog w base spare held 43 v d p) :
    ∃ b : List UInt8, v = .agg (cb b).toArray ∧ b.length = 64 := by
  obtain ⟨cs, rfl, hsz⟩ := okWide_array' Try.underlying43 hv
  obtain ⟨fuel, hf⟩ := h
  obtain ⟨l0, z0, e0, w0⟩ := trod_array_ints Try.underlying43 Try.underlying5 (by kernel_rfl) (by kernel_rfl) hf
  obtain ⟨b, lb, eb⟩ := bytes_of z0 w0
  rw [eb] at e0
  have hl0 := congrArg List.length e0
  rw [l0, List.length_map] at hl0
  refine ⟨b, ?_, hl0.symm⟩
  congr 1
  have e : cs.toList = cb b := e0
  rw [← e]
end
end Go.Proofs.Ytpdfalgjmeagjaa
