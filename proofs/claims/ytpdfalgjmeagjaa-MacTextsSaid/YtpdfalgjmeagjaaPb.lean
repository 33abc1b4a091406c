/-
  Parts: a list of byte strings in memory.
-/
import Derived.Test.YtpdfalgjmeagjaaMem
import Derived.Test.YtpdfalgjmeagjaaRegion
namespace Go.Proofs.Ytpdfalgjmeagjaa
open Go.RowKit
set_option linter.unusedVariables false

/-- A part: where it lies, and its bytes. -/
structure Pb where
  A : Option Addr
  m : Nat
  c : Nat
  l : List UInt8
instance : Inhabited Pb := ⟨⟨none, 0, 0, []⟩⟩
def Pb.cell (p : Pb) : Value := .slice p.A p.m p.c
structure Pb.Ok (p : Pb) (w : World) : Prop where
  sees : Sees w w.heap.size p.A (cb p.l)
  len : p.l.length = p.m
  cap : p.m ≤ p.c
theorem Pb.Ok.step {p : Pb} {w w' : World} (h : p.Ok w) (x : Below w.heap.size w w') : p.Ok w' := ⟨h.sees.step x, h.len, h.cap⟩
/-- A list of parts that can be read. -/
structure Parts (w : World) (A : Option Addr) (n : Nat) (ps : List Pb) : Prop where
  sees : Sees w w.heap.size A (ps.map Pb.cell)
  len : ps.length = n
  ok : ∀ p ∈ ps, p.Ok w
theorem Parts.step {w w' : World} {A : Option Addr} {n : Nat} {ps : List Pb} (h : Parts w A n ps) (x : Below w.heap.size w w') : Parts w' A n ps := ⟨h.sees.step x, h.len, fun p hp => (h.ok p hp).step x⟩
theorem Parts.at_ {w : World} {A : Option Addr} {n k : Nat} {ps : List Pb} (h : Parts w A n ps) (hk : k < n) : ∃ g o, A = some ⟨g, o, none⟩ ∧ ∃ p : Pb, Hid (ps[k]? = some p) ∧ p.Ok w ∧ w.cell? ⟨g, o + k, none⟩ = some (.slice p.A p.m p.c) := by
  have hl := h.len
  obtain ⟨g, o, e, _, hc⟩ := h.sees.at_ (k := k) (by simp; omega)
  refine ⟨g, o, e, ps[k]'(by omega), List.getElem?_eq_getElem (by omega), h.ok _ (List.getElem_mem _), ?_⟩
  rw [hc]
  simp [Pb.cell]
end Go.Proofs.Ytpdfalgjmeagjaa
