/-
  A call as the statements write it down: kind, two numbers, words and bools; and what is known of arguments of words and bools.
-/
import Derived.Test.YtpdfalgjmeagjaaNorCrash
import Derived.Test.YtpdfalgjmeagjaaRow
import Derived.Deep.Slices
import Derived.Deep.Strs
import Derived.Deep.Fields
import Derived.Deep.Grids
import Derived.Lib.SmallJoins
namespace Go.Proofs.Ytpdfalgjmeagjaa
open Go.RowKit Go.ChangeShapes Go.WideShapes
set_option linter.unusedVariables false

/-- A call: its kind, sector, place, words and bools, and where these lie. -/
structure Oc where
  k : Int
  s : Int
  a : Int
  A : Option Addr
  m : Nat
  c : Nat
  l : List UInt32
  B : Option Addr
  q : Nat
  d : Nat
  ks : List Bool
def Oc.cells (o : Oc) : List Value := [.int .i64 o.k, .int .i64 o.s, .int .i64 o.a, .slice o.A o.m o.c, .slice o.B o.q o.d]
def ocs (l : List Oc) : List Value := l.flatMap Oc.cells
instance : Inhabited Oc := ⟨⟨0, 0, 0, none, 0, 0, [], none, 0, 0, []⟩⟩
structure Oc.Ok (o : Oc) (B : Nat) (w : World) : Prop where
  sees : Sees w B o.A (cw o.l)
  len : o.l.length = o.m
  cap : o.m ≤ o.c
  sees2 : Sees w B o.B (cl o.ks)
  len2 : o.ks.length = o.q
  hs : -9223372036854775808 ≤ o.s ∧ o.s < 9223372036854775808
  ha : -9223372036854775808 ≤ o.a ∧ o.a < 9223372036854775808
theorem Oc.Ok.below {o : Oc} {B : Nat} {w w' : World} (h : o.Ok B w) (x : Below B w w') : o.Ok B w' := ⟨h.sees.below x, h.len, h.cap, h.sees2.below x, h.len2, h.hs, h.ha⟩
theorem elem32 : Try.prog.underlying 54 = some (.slice (Try.prog.elem 54)) := by kernel_rfl
theorem run_cut32 {w : World} (A : Option Addr) (n c k : Nat) (hk : k ≤ c) : (Instr.slice 54 (.slice A n c) none (some (.int .i64 (k : Int))) none).run Try.prog w = .ok (.slice A k c) w := by
  have hz : (sizeOf (Try.prog.elem 54)).run Try.prog w = .ok 1 w := by kernel_rfl
  rw [run_slice_h w 54 A n c elem32 .i64 (k : Int) (by omega) (by omega), hz]
  simp only [Result.andThen, sliced, Int.toNat_natCast, Nat.zero_mul, Nat.sub_zero]
  cases A <;> simp [Addr.add]
theorem ocs_get (ps : List Oc) : ∀ (k j : Nat) (p : Oc) (u : Value), ps[k]? = some p → p.cells[j]? = some u → (ocs ps)[k * 5 + j]? = some u := by
  induction ps with
  | nil => intro k j p u h; simp at h
  | cons a ps ih =>
    intro k j p u h hu
    have hl : ∀ p : Oc, p.cells.length = 5 := fun _ => rfl
    have hj : j < 5 := by
      have := (List.getElem?_eq_some_iff.1 hu).1
      rwa [hl] at this
    rw [ocs, List.flatMap_cons]
    rcases k with _ | k
    · simp at h
      subst h
      rw [List.getElem?_append_left (by rw [hl]; omega)]
      simpa using hu
    · rw [List.getElem?_append_right (by rw [hl]; omega), hl]
      have := ih k j p u (by simpa using h) hu
      rw [ocs] at this
      rw [show (k + 1) * 5 + j - 5 = k * 5 + j from by omega]
      exact this
theorem len_ocs (ps : List Oc) : (ocs ps).length = 5 * ps.length := by
  induction ps with
  | nil => rfl
  | cons a ps ih =>
    rw [ocs, List.flatMap_cons, List.length_append]
    rw [ocs] at ih
    rw [ih, List.length_cons]
    have : a.cells.length = 5 := rfl
    omega
theorem Sees.op {w : World} {B : Nat} {A : Option Addr} {l : List Oc} {n k : Nat} (h : Sees w B A (ocs l)) (hl : l.length = n) (hk : k < n) :
    ∃ b o, A = some ⟨b, o, none⟩ ∧ b < B ∧ ∃ x : Oc, Hid (l[k]? = some x) ∧ Sees w B (some ⟨b, o + k * 5, none⟩) x.cells := by
  obtain ⟨b, o, e, hb, hc⟩ := h (by rw [len_ocs]; omega)
  refine ⟨b, o, e, hb, l[k]'(by omega), List.getElem?_eq_getElem (by omega), fun _ => ⟨b, o + k * 5, rfl, hb, fun j u hu => ?_⟩⟩
  rw [Nat.add_assoc]
  exact hc _ u (ocs_get l k j _ u (List.getElem?_eq_getElem (by omega)) hu)

section
variable {H : Type} {enc : TypeId × Value → H} {w : World} {held : Bool}
theorem words_slice {fuel : Nat} {v : Value} {x : DataW H × List MemPlace} (h : DataW.trod enc Try.prog w 0 (fun _ => true) held fuel 54 [v] = some x) : ∃ (A : Option Addr) (m c : Nat) (b : List UInt32), v = .slice A m c ∧ b.length = m ∧ Sees w w.heap.size A (cw b) ∧ m ≤ c ∧ c ≤ maxLen := by
  have key : ∃ A m c zs, v = .slice A m c ∧ IsRow .u32 w A m c zs := by
    rcases open_ints Try.underlying54 Try.underlying22 (by kernel_rfl) h with ⟨hcs, _⟩ | ⟨x, l, c, zs, hcs, _, hl, hm, hz, _, hcell, hwz⟩
    · simp at hcs
      exact ⟨none, 0, 0, [], hcs, .inl ⟨rfl, rfl, rfl, rfl⟩⟩
    · simp at hcs
      exact ⟨some x, l, c, zs, hcs, .inr ⟨_, rfl, hl, hm, by simpa using hz, hcell, hwz⟩⟩
  obtain ⟨A, m, c, zs, rfl, hr⟩ := key
  obtain ⟨b, h1, h2, h3, h4⟩ := row_words hr
  exact ⟨A, m, c, b, rfl, h1, h2, h3, h4⟩
theorem bools_slice {fuel : Nat} {v : Value} {x : DataW H × List MemPlace} (h : DataW.trod enc Try.prog w 0 (fun _ => true) held fuel 55 [v] = some x) : ∃ (A : Option Addr) (m c : Nat) (b : List Bool), v = .slice A m c ∧ b.length = m ∧ Sees w w.heap.size A (cl b) := by
  rcases Deep.open_bools Try.underlying55 Try.underlying4 (by kernel_rfl) h with ⟨hcs, _⟩ | ⟨⟨g, o, s⟩, len, cap, B, hcs, _, hl, hm, _, hcell⟩
  · simp at hcs
    exact ⟨none, 0, 0, [], hcs, rfl, Sees.nil⟩
  · simp at hcs
    refine ⟨some ⟨g, o, s⟩, len, cap, (List.range len).map B, hcs, by simp, fun hn => ?_⟩
    have hn' : 0 < len := by simpa using hn
    have h0 := hcell 0 (by omega)
    have hs : s = none := by simpa [Addr.add] using World.cell?_spot h0
    subst hs
    rw [Addr.add_lit] at h0
    refine ⟨g, o, rfl, World.block_lt_of_cell? _ _ h0, fun j u hu => ?_⟩
    have hj : j < len := by have := (List.getElem?_eq_some_iff.1 hu).1; simpa using this
    have h1 := hcell j (by omega)
    rw [Addr.add_lit] at h1
    rw [h1]
    simpa [hj] using hu
theorem ocs_at (ps : List Oc) (j : Nat) (u : Value) (h : (ocs ps)[j]? = some u) : ∃ p, ps[j / 5]? = some p ∧ p.cells[j % 5]? = some u := by
  have hj : j < 5 * ps.length := by
    have := (List.getElem?_eq_some_iff.1 h).1
    rwa [len_ocs] at this
  have hp : ps[j / 5]? = some (ps[j / 5]'(by omega)) := List.getElem?_eq_getElem (by omega)
  have hl : ∀ p : Oc, p.cells.length = 5 := fun _ => rfl
  have hc : (ps[j / 5]'(by omega)).cells[j % 5]? = some ((ps[j / 5]'(by omega)).cells[j % 5]'(by rw [hl]; omega)) := List.getElem?_eq_getElem _
  have := ocs_get ps (j / 5) (j % 5) _ _ hp hc
  rw [show j / 5 * 5 + j % 5 = j from by omega, h] at this
  refine ⟨_, hp, ?_⟩
  rw [hc, ← this]
end
end Go.Proofs.Ytpdfalgjmeagjaa
