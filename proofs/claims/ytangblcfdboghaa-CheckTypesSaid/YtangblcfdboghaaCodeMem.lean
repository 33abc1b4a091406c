/-
  Where a program of the scan machine lies in memory: its variables, blocks and instructions.
-/
import Derived.Test.YtangblcfdboghaaCodePins
namespace Go.Proofs.Ytangblcfdboghaa
open Go.RowKit
set_option linter.unusedVariables false

def Vr.cells (v : Vr) : List Value := [sv v.name, .int .u8 (v.cls : Int), .int .u8 (v.typ : Int), .int .i64 v.first]
def Jn.cells (j : Jn) : List Value := [.int .u8 (j.op : Int), .int .u8 (j.t : Int), .int .i64 j.a, .int .i64 j.n]
structure Vr.Ok (v : Vr) : Prop where
  name : v.name.length ≤ maxLen
  cls : v.cls < 256
  typ : v.typ < 256
  first : -9223372036854775808 ≤ v.first ∧ v.first < 9223372036854775808
structure Jn.Ok (j : Jn) : Prop where
  op : j.op < 256
  t : j.t < 256
  a : -9223372036854775808 ≤ j.a ∧ j.a < 9223372036854775808
  n : -9223372036854775808 ≤ j.n ∧ j.n < 9223372036854775808
/-- Things of four cells each, one behind the other. -/
def quads {α : Type} (f : α → List Value) (l : List α) : List Value := l.flatMap f
abbrev vcs (l : List Vr) : List Value := quads Vr.cells l
abbrev jcs (l : List Jn) : List Value := quads Jn.cells l
theorem vr4 (v : Vr) : v.cells.length = 4 := rfl
theorem jn4 (j : Jn) : j.cells.length = 4 := rfl

section
variable {α : Type} {f : α → List Value} (hf : ∀ x, (f x).length = 4)
include hf
theorem len_quads : ∀ l : List α, (quads f l).length = 4 * l.length
  | [] => rfl
  | a :: l => by
    have := len_quads l
    simp only [quads, List.flatMap_cons, List.length_append, hf, List.length_cons] at this ⊢
    omega
theorem quads_get : ∀ (l : List α) (k j : Nat) (p : α) (u : Value), l[k]? = some p → (f p)[j]? = some u → (quads f l)[k * 4 + j]? = some u
  | [], k, j, p, u, h, hu => by simp at h
  | a :: l, k, j, p, u, h, hu => by
    have hj : j < 4 := by
      have := (List.getElem?_eq_some_iff.1 hu).1
      rwa [hf] at this
    rw [quads, List.flatMap_cons]
    rcases k with _ | k
    · simp at h
      subst h
      rw [List.getElem?_append_left (by rw [hf]; omega)]
      simpa using hu
    · rw [List.getElem?_append_right (by rw [hf]; omega), hf]
      have := quads_get l k j p u (by simpa using h) hu
      rw [quads] at this
      rw [show (k + 1) * 4 + j - 4 = k * 4 + j from by omega]
      exact this
theorem Sees.quad {w : World} {B : Nat} {A : Option Addr} {l : List α} {n k : Nat} (h : Sees w B A (quads f l)) (hl : l.length = n) (hk : k < n) :
    ∃ b o, A = some ⟨b, o, none⟩ ∧ b < B ∧ ∃ x, Hid (l[k]? = some x) ∧ x ∈ l ∧ Sees w B (some ⟨b, o + k * 4, none⟩) (f x) := by
  obtain ⟨b, o, e, hb, hc⟩ := h (by rw [len_quads hf]; omega)
  refine ⟨b, o, e, hb, l[k]'(by omega), List.getElem?_eq_getElem (by omega), List.getElem_mem _, fun _ => ⟨b, o + k * 4, rfl, hb, fun j u hu => ?_⟩⟩
  rw [Nat.add_assoc]
  exact hc _ u (quads_get hf l k j _ u (List.getElem?_eq_getElem (by omega)) hu)
end
theorem Sees.cell4 {w : World} {B b o : Nat} {xs : List Value} (h : Sees w B (some ⟨b, o, none⟩) xs) (j : Nat) (u : Value) (hu : xs[j]? = some u) : w.cell? ⟨b, o + j, none⟩ = some u := by
  obtain ⟨b', o', he, _, hc⟩ := h (by have := (List.getElem?_eq_some_iff.1 hu).1; omega)
  obtain ⟨rfl, rfl⟩ : b = b' ∧ o = o' := by simpa using he
  exact hc j u hu

/-- A program as it lies in memory: where its lists begin, how many things each has, and room. -/
structure Pm where
  p : Pg
  av : Option Addr
  nv : Nat
  cv : Nat
  ab : Option Addr
  nb : Nat
  cb : Nat
  ai : Option Addr
  ni : Nat
  ci : Nat
def Pm.cells (m : Pm) : List Value := [sv m.p.name, .slice m.av m.nv m.cv, .slice m.ab m.nb m.cb, .slice m.ai m.ni m.ci]
structure PmAt (B : Nat) (w : World) (m : Pm) : Prop where
  vars : Sees w B m.av (vcs m.p.vars)
  blocks : Sees w B m.ab (cb m.p.blocks)
  ins : Sees w B m.ai (jcs m.p.ins)
  nv : m.p.vars.length = m.nv
  nb : m.p.blocks.length = m.nb
  ni : m.p.ins.length = m.ni
  cv : m.nv ≤ m.cv ∧ m.cv ≤ maxLen
  cb : m.nb ≤ m.cb ∧ m.cb ≤ maxLen
  ci : m.ni ≤ m.ci ∧ m.ci ≤ maxLen
  okv : ∀ v ∈ m.p.vars, v.Ok
  oki : ∀ j ∈ m.p.ins, j.Ok
  name : m.p.name.length ≤ maxLen
section
variable {w w' : World} {B B' : Nat} {m : Pm}
theorem PmAt.below (h : PmAt B w m) (x : Below B w w') : PmAt B w' m :=
  ⟨h.vars.below x, h.blocks.below x, h.ins.below x, h.nv, h.nb, h.ni, h.cv, h.cb, h.ci, h.okv, h.oki, h.name⟩
theorem PmAt.more (h : PmAt B w m) (x : B ≤ B') : PmAt B' w m :=
  ⟨h.vars.more x, h.blocks.more x, h.ins.more x, h.nv, h.nb, h.ni, h.cv, h.cb, h.ci, h.okv, h.oki, h.name⟩
theorem PmAt.step (h : PmAt w.heap.size w m) (hb : Below w.heap.size w w') : PmAt w'.heap.size w' m := (h.below hb).more hb.size
end
/-- How many things a slice in memory has fits a number of 64 bits. -/
theorem PmAt.small {w : World} {B : Nat} {m : Pm} (h : PmAt B w m) : m.nv ≤ 9223372036854775807 ∧ m.nb ≤ 9223372036854775807 ∧ m.ni ≤ 9223372036854775807 := by
  have h1 := h.cv; have h2 := h.cb; have h3 := h.ci
  unfold maxLen at h1 h2 h3
  omega
end Go.Proofs.Ytangblcfdboghaa
