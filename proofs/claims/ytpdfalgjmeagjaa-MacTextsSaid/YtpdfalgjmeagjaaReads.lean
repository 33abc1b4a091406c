/-
  What reads of the statements' package answers: true, where each try reads as it says.
-/
import Derived.Test.YtpdfalgjmeagjaaCalls
namespace Go.Proofs.Ytpdfalgjmeagjaa
open Go.RowKit
set_option linter.unusedVariables false

structure Tr where
  A : Option Addr
  n : Nat
  c : Nat
  p : Int
  x : Nat
  q : Nat
  r : Nat
def Tr.cells (t : Tr) : List Value := [.slice t.A t.n t.c, .int .i64 t.p, .int .u64 (t.x : Int), .int .i64 (t.q : Int), .int .i64 (t.r : Int)]
/-- The try reads as the document says. -/
def Tr.Ok (w : World) (t : Tr) : Prop := ∃ l, Sees w w.heap.size t.A (cb l) ∧ l.length = t.n ∧ t.n ≤ 1099511627776 ∧ getU l t.p = (t.x, t.q, t.r)
def Tries (w : World) (g : Nat) (ts : List Tr) : Prop := g < w.heap.size ∧ ∀ k t, ts[k]? = some t → (∀ j u, t.cells[j]? = some u → w.cell? ⟨g, k * 5 + j, none⟩ = some u) ∧ t.Ok w

theorem Tr.Ok.step {w w' : World} {t : Tr} (h : t.Ok w) (hb : Below w.heap.size w w') : t.Ok w' := by
  obtain ⟨l, h1, h2⟩ := h
  exact ⟨l, h1.step hb, h2⟩
theorem Tries.step {w w' : World} {g : Nat} {ts : List Tr} (h : Tries w g ts) (hb : Below w.heap.size w w') : Tries w' g ts :=
  ⟨Nat.lt_of_lt_of_le h.1 hb.size, fun k t hk => ⟨fun j u hu => (hb.cell (p := ⟨g, k * 5 + j, none⟩) h.1).trans ((h.2 k t hk).1 j u hu), (h.2 k t hk).2.step hb⟩⟩

end Go.Proofs.Ytpdfalgjmeagjaa
