/-
  A call as the statements write it down: kind, two numbers, words and bools; and what is known of arguments of words and bools.
-/
import Derived.Test.YtpdfalgjmeagjaaCpB07
import Derived.Test.YtpdfalgjmeagjaaCpB12
import Derived.Deep.Slices
import Derived.Deep.Strs
import Derived.Deep.Fields
import Derived.Deep.Grids
import Derived.Lib.SmallJoins
namespace Go.Proofs.Ytpdfalgjmeagjaa
open Go.RowKit Go.ChangeShapes Go.WideShapes
set_option linter.unusedVariables false

/-- A call: its kind, sector, place, words and bools, and where these lie. -/
structure Oc where
  k : Int
  s : Int
  a : Int
  A : Option Addr
  m : Nat
  c : Nat
  l : List UInt32
  B : Option Addr
  q : Nat
  d : Nat
  ks : List Bool
def Oc.cells (o : Oc) : List Value := [.int .i64 o.k, .int .i64 o.s, .int .i64 o.a, .slice o.A o.m o.c, .slice o.B o.q o.d]
def ocs (l : List Oc) : List Value := l.flatMap Oc.cells
instance : Inhabited Oc := ⟨⟨0, 0, 0, none, 0, 0, [], none, 0, 0, []⟩⟩
structure Oc.Ok (o : Oc) (B : Nat) (w : World) : Prop where
  sees : Sees w B o.A (cw o.l)
  len : o.l.length = o.m
  cap : o.m ≤ o.c
  sees2 : Sees w B o.B (cl o.ks)
  len2 : o.ks.length = o.q
  hs : -9223372036854775808 ≤ o.s ∧ o.s < 9223372036854775808
  ha : -9223372036854775808 ≤ o.a ∧ o.a < 9223372036854775808
theorem Oc.Ok.below {o : Oc} {B : Nat} {w w' : World} (h : o.Ok B w) (x : Below B w w') : o.Ok B w' := ⟨h.sees.below x, h.len, h.cap, h.sees2.below x, h.len2, h.hs, h.ha⟩
theorem ocs_get (ps : List Oc) : ∀ (k j : Nat) (p : Oc) (u : Value), ps[k]? = some p → p.cells[j]? = some u → (ocs ps)[k * 5 + j]? = some u := by
  induction ps with
  | nil => intro k j p u h; simp at h
  | cons a ps ih =>
    intro k j p u h hu
    have hl : ∀ p : Oc, p.cells.length = 5 := fun _ => rfl
    have hj : j < 5 := by
      have := (List.getElem?_eq_some_iff.1 hu).1
      rwa [hl] at this
    rw [ocs, List.flatMap_cons]
    rcases k with _ | k
    · simp at h
      subst h
      rw [List.getElem?_append_left (by rw [hl]; omega)]
      simpa using hu
    · rw [List.getElem?_append_right (by rw [hl]; omega), hl]
      have := ih k j p u (by simpa using h) hu
      rw [ocs] at this
      rw [show (k + 1) * 5 + j - 5 = k * 5 + j from by omega]
      exact this
theorem len_ocs (ps : List Oc) : (ocs ps).length = 5 * ps.length := by
  induction ps with
  | nil => rfl
  | cons a ps ih =>
    rw [ocs, List.flatMap_cons, List.length_append]
    rw [ocs] at ih
    rw [ih, List.length_cons]
    have : a.cells.length = 5 := rfl
    omega
theorem Sees.op {w : World} {B : Nat} {A : Option Addr} {l : List Oc} {n k : Nat} (h : Sees w B A (ocs l)) (hl : l.length = n) (hk : k < n) :
    ∃ b o, A = some ⟨b, o, none⟩ ∧ b < B ∧ ∃ x : Oc, Hid (l[k]? = some x) ∧ Sees w B (some ⟨b, o + k * 5, none⟩) x.cells := by
  obtain ⟨b, o, e, hb, hc⟩ := h (by rw [len_ocs]; omega)
  refine ⟨b, o, e, hb, l[k]'(by omega), List.getElem?_eq_getElem (by omega), fun _ => ⟨b, o + k * 5, rfl, hb, fun j u hu => ?_⟩⟩
  rw [Nat.add_assoc]
  exact hc _ u (ocs_get l k j _ u (List.getElem?_eq_getElem (by omega)) hu)

section
variable {H : Type} {enc : TypeId × Value → H} {w : World} {held : Bool}
theorem words_slice {fuel : Nat} {v : Value} {x : DataW H × List MemPlace} (h : DataW.trod enc Try.prog w 0 (fun _ => true) held fuel 54 [v] = some x) : ∃ (A : Option Addr) (m c : Nat) (b : List UInt32), v = .slice A m c ∧ b.length = m ∧ Sees w w.heap.size A (cw b) ∧ m ≤ c ∧ c ≤ maxLen := by
  have key : ∃ A m c zs, v = .slice A m c ∧ IsRow .u32 w A m c zs := by
    rcases open_ints Try.underlying54 Try.underlying22 (by kernel_rfl) h with ⟨hcs, _⟩ | ⟨x, l, c, zs, hcs, _, hl, hm, hz, _, hcell, hwz⟩
    · simp at hcs
      exact ⟨none, 0, 0, [], hcs, .inl ⟨rfl, rfl, rfl, rfl⟩⟩
    · simp at hcs
      exact ⟨some x, l, c, zs, hcs, .inr ⟨_, rfl, hl, hm, by simpa using hz, hcell, hwz⟩⟩
  obtain ⟨A, m, c, zs, rfl, hr⟩ := key
  obtain ⟨b, h1, h2, h3, h4⟩ := row_words hr
  exact ⟨A, m, c, b, rfl, h1, h2, h3, h4⟩
theorem bools_slice {fuel : Nat} {v : Value} {x : DataW H × List MemPlace} (h : DataW.trod enc Try.prog w 0 (fun _ => true) held fuel 55 [v] = some x) : ∃ (A : Option Addr) (m c : Nat) (b : List Bool), v = .slice A m c ∧ b.length = m ∧ Sees w w.heap.size A (cl b) := by
  rcases Deep.open_bools Try.underlying55 Try.underlying4 (by kernel_rfl) h with ⟨hcs, _⟩ | ⟨⟨g, o, s⟩, len, cap, B, hcs, _, hl, hm, _, hcell⟩
  · simp at hcs
    exact ⟨none, 0, 0, [], hcs, rfl, Sees.nil⟩
  · simp at hcs
    refine ⟨some ⟨g, o, s⟩, len, cap, (List.range len).map B, hcs, by simp, fun hn => ?_⟩
    have hn' : 0 < len := by simpa using hn
    have h0 := hcell 0 (by omega)
    have hs : s = none := by simpa [Addr.add] using World.cell?_spot h0
    subst hs
    rw [Addr.add_lit] at h0
    refine ⟨g, o, rfl, World.block_lt_of_cell? _ _ h0, fun j u hu => ?_⟩
    have hj : j < len := by have := (List.getElem?_eq_some_iff.1 hu).1; simpa using this
    have h1 := hcell j (by omega)
    rw [Addr.add_lit] at h1
    rw [h1]
    simpa [hj] using hu
end
end Go.Proofs.Ytpdfalgjmeagjaa

/-
  What is known of an argument that is a slice of calls upon a cell: kind, two numbers, bytes, words and bools.
-/
namespace Go.Proofs.Ytpdfalgjmeagjaa
open Go.RowKit Go.ChangeShapes Go.WideShapes
set_option linter.unusedVariables false

/-- A call upon a cell: its kind, two numbers, bytes, words and bools, and where these lie. -/
structure Ob where
  k : Int
  s : Int
  a : Int
  E : Option Addr
  v : Nat
  f : Nat
  bs : List UInt8
  A : Option Addr
  m : Nat
  c : Nat
  l : List UInt32
  B : Option Addr
  q : Nat
  d : Nat
  ks : List Bool
def Ob.cells (o : Ob) : List Value := [.int .i64 o.k, .int .i64 o.s, .int .i64 o.a, .slice o.E o.v o.f, .slice o.A o.m o.c, .slice o.B o.q o.d]
def obs (l : List Ob) : List Value := l.flatMap Ob.cells
instance : Inhabited Ob := ⟨⟨0, 0, 0, none, 0, 0, [], none, 0, 0, [], none, 0, 0, []⟩⟩
structure Ob.Ok (o : Ob) (B : Nat) (w : World) : Prop where
  sees : Sees w B o.A (cw o.l)
  len : o.l.length = o.m
  cap : o.m ≤ o.c
  sees2 : Sees w B o.B (cl o.ks)
  len2 : o.ks.length = o.q
  sees3 : Sees w B o.E (cb o.bs)
  len3 : o.bs.length = o.v
  hs : -9223372036854775808 ≤ o.s ∧ o.s < 9223372036854775808
  ha : -9223372036854775808 ≤ o.a ∧ o.a < 9223372036854775808
theorem Ob.Ok.below {o : Ob} {B : Nat} {w w' : World} (h : o.Ok B w) (x : Below B w w') : o.Ok B w' := ⟨h.sees.below x, h.len, h.cap, h.sees2.below x, h.len2, h.sees3.below x, h.len3, h.hs, h.ha⟩
theorem obs_get (ps : List Ob) : ∀ (k j : Nat) (p : Ob) (u : Value), ps[k]? = some p → p.cells[j]? = some u → (obs ps)[k * 6 + j]? = some u := by
  induction ps with
  | nil => intro k j p u h; simp at h
  | cons a ps ih =>
    intro k j p u h hu
    have hl : ∀ p : Ob, p.cells.length = 6 := fun _ => rfl
    have hj : j < 6 := by
      have := (List.getElem?_eq_some_iff.1 hu).1
      rwa [hl] at this
    rw [obs, List.flatMap_cons]
    rcases k with _ | k
    · simp at h
      subst h
      rw [List.getElem?_append_left (by rw [hl]; omega)]
      simpa using hu
    · rw [List.getElem?_append_right (by rw [hl]; omega), hl]
      have := ih k j p u (by simpa using h) hu
      rw [obs] at this
      rw [show (k + 1) * 6 + j - 6 = k * 6 + j from by omega]
      exact this
theorem len_obs (ps : List Ob) : (obs ps).length = 6 * ps.length := by
  induction ps with
  | nil => rfl
  | cons a ps ih =>
    rw [obs, List.flatMap_cons, List.length_append]
    rw [obs] at ih
    rw [ih, List.length_cons]
    have : a.cells.length = 6 := rfl
    omega
theorem Sees.opb {w : World} {B : Nat} {A : Option Addr} {l : List Ob} {n k : Nat} (h : Sees w B A (obs l)) (hl : l.length = n) (hk : k < n) :
    ∃ b o, A = some ⟨b, o, none⟩ ∧ b < B ∧ ∃ x : Ob, Hid (l[k]? = some x) ∧ Sees w B (some ⟨b, o + k * 6, none⟩) x.cells := by
  obtain ⟨b, o, e, hb, hc⟩ := h (by rw [len_obs]; omega)
  refine ⟨b, o, e, hb, l[k]'(by omega), List.getElem?_eq_getElem (by omega), fun _ => ⟨b, o + k * 6, rfl, hb, fun j u hu => ?_⟩⟩
  rw [Nat.add_assoc]
  exact hc _ u (obs_get l k j _ u (List.getElem?_eq_getElem (by omega)) hu)
section
variable {H : Type} {enc : TypeId × Value → H} {w : World} {held : Bool}
theorem bytes_slice7 {fuel : Nat} {v : Value} {x : DataW H × List MemPlace} (h : DataW.trod enc Try.prog w 0 (fun _ => true) held fuel 27 [v] = some x) : ∃ (A : Option Addr) (m c : Nat) (b : List UInt8), v = .slice A m c ∧ b.length = m ∧ Sees w w.heap.size A (cb b) ∧ m ≤ c ∧ c ≤ maxLen := by
  have key : ∃ A m c zs, v = .slice A m c ∧ IsRow .u8 w A m c zs := by
    rcases open_ints Try.underlying27 Try.underlying5 (by kernel_rfl) h with ⟨hcs, _⟩ | ⟨x, l, c, zs, hcs, _, hl, hm, hz, _, hcell, hwz⟩
    · simp at hcs
      exact ⟨none, 0, 0, [], hcs, .inl ⟨rfl, rfl, rfl, rfl⟩⟩
    · simp at hcs
      exact ⟨some x, l, c, zs, hcs, .inr ⟨_, rfl, hl, hm, by simpa using hz, hcell, hwz⟩⟩
  obtain ⟨A, m, c, zs, rfl, hr⟩ := key
  obtain ⟨b, h1, h2, h3, h4⟩ := row_bytes hr
  exact ⟨A, m, c, b, rfl, h1, h2, h3, h4⟩
theorem obs_at (ps : List Ob) (j : Nat) (u : Value) (h : (obs ps)[j]? = some u) : ∃ p, ps[j / 6]? = some p ∧ p.cells[j % 6]? = some u := by
  have hj : j < 6 * ps.length := by
    have := (List.getElem?_eq_some_iff.1 h).1
    rwa [len_obs] at this
  have hp : ps[j / 6]? = some (ps[j / 6]'(by omega)) := List.getElem?_eq_getElem (by omega)
  have hl : ∀ p : Ob, p.cells.length = 6 := fun _ => rfl
  have hc : (ps[j / 6]'(by omega)).cells[j % 6]? = some ((ps[j / 6]'(by omega)).cells[j % 6]'(by rw [hl]; omega)) := List.getElem?_eq_getElem _
  have := obs_get ps (j / 6) (j % 6) _ _ hp hc
  rw [show j / 6 * 6 + j % 6 = j from by omega, h] at this
  refine ⟨_, hp, ?_⟩
  rw [hc, ← this]
set_option maxRecDepth 100000 in
theorem call7_of {fuel : Nat} {cs : List Value} {x : DataW H × List MemPlace} (h : DataW.trod enc Try.prog w 0 (fun _ => true) held fuel 113 cs = some x) : ∃ p : Ob, cs = p.cells ∧ p.Ok w.heap.size w := by
  obtain ⟨xs, n, _, rfl, hl, hlen, hf⟩ := DataW.trod_struct Try.underlying113 h
  have hC : Try.prog.cellsOf 113 = 6 := by kernel_rfl
  rw [hC] at hl
  match cs, hl, xs, hlen with
  | [v0, v1, v2, v3, v4, v5], _, [y0, y1, y2, y3, y4, y5], _ =>
    have h0 : DataW.trod enc Try.prog w 0 (fun _ => true) held n 3 [v0] = some y0 := hf 0 _ rfl
    have h1 : DataW.trod enc Try.prog w 0 (fun _ => true) held n 3 [v1] = some y1 := hf 1 _ rfl
    have h2 : DataW.trod enc Try.prog w 0 (fun _ => true) held n 3 [v2] = some y2 := hf 2 _ rfl
    have h3 : DataW.trod enc Try.prog w 0 (fun _ => true) held n 27 [v3] = some y3 := hf 3 _ rfl
    have h4 : DataW.trod enc Try.prog w 0 (fun _ => true) held n 54 [v4] = some y4 := hf 4 _ rfl
    have h5 : DataW.trod enc Try.prog w 0 (fun _ => true) held n 55 [v5] = some y5 := hf 5 _ rfl
    obtain ⟨k0, e0, _, w0⟩ := DataW.trod_int Try.underlying3 h0
    obtain ⟨k1, e1, _, w1⟩ := DataW.trod_int Try.underlying3 h1
    obtain ⟨k2, e2, _, w2⟩ := DataW.trod_int Try.underlying3 h2
    obtain ⟨E, v, f, bs, rfl, hv, hs3, hv2, hv3⟩ := bytes_slice7 h3
    obtain ⟨A, m, c, b, rfl, hb, hs, hc, hm⟩ := words_slice h4
    obtain ⟨B, q, d, ks, rfl, hq, hs2⟩ := bools_slice h5
    simp at e0 e1 e2
    subst e0 e1 e2
    have b1 := bounds_i64 w1
    have b2 := bounds_i64 w2
    exact ⟨⟨k0, k1, k2, E, v, f, bs, A, m, c, b, B, q, d, ks⟩, rfl, hs, hb, hc, hs2, hq, hs3, hv, by show _ ≤ k1 ∧ k1 < _; omega, by show _ ≤ k2 ∧ k2 < _; omega⟩
theorem calls7_of {fuel : Nat} {A : Option Addr} {N c : Nat} {x : DataW H × List MemPlace} (h : DataW.trod enc Try.prog w 0 (fun _ => true) held fuel 101 [.slice A N c] = some x) :
    ∃ ps : List Ob, ps.length = N ∧ Sees w w.heap.size A (obs ps) ∧ (∀ p ∈ ps, p.Ok w.heap.size w) := by
  have hC : Try.prog.cellsOf 113 = 6 := by kernel_rfl
  rcases Deep.open_slice Try.underlying101 h with ⟨hcs, _⟩ | ⟨a, len, cap, m, n, D, Pl, hcs, _, hl, hm, hmm, _, hi⟩
  · simp at hcs
    obtain ⟨rfl, rfl, rfl⟩ := hcs
    exact ⟨[], rfl, Sees.nil, by simp⟩
  · simp at hcs
    obtain ⟨rfl, rfl, rfl⟩ := hcs
    have hlm : N ≤ m := by rw [hmm]; simp; exact hl
    have hp : ∀ i, i < N → ∃ p : Ob, p.Ok w.heap.size w ∧ ∀ j u, p.cells[j]? = some u → w.cell? (a.add (i * 6 + j)) = some u := by
      intro i hiN
      obtain ⟨cs', hc, ht⟩ := hi i (by omega)
      rw [hC] at hc
      obtain ⟨p, rfl, hok⟩ := call7_of ht
      obtain ⟨_, _, hat⟩ := World.cells?_some hc
      refine ⟨p, hok, fun j u hu => ?_⟩
      have hj : j < 6 := (List.getElem?_eq_some_iff.1 hu).1
      rw [← Deep.add_add, hat j hj, hu]
    obtain ⟨f, hf⟩ := Deep.choose_lt hp
    refine ⟨(List.range N).map f, by simp, fun hpos => ?_, fun p hpm => ?_⟩
    · have hN : 0 < N := by rw [len_obs] at hpos; simp at hpos; exact hpos
      obtain ⟨b, o, s⟩ := a
      have h0 := (hf 0 hN).2 0 _ rfl
      have hs : s = none := by simpa [Addr.add] using World.cell?_spot h0
      subst hs
      rw [Addr.add_lit] at h0
      refine ⟨b, o, rfl, World.block_lt_of_cell? _ _ h0, fun j u hu => ?_⟩
      obtain ⟨p, hp1, hp2⟩ := obs_at _ j u hu
      have hjN : j / 6 < N := by simpa using (List.getElem?_eq_some_iff.1 hp1).1
      have e : f (j / 6) = p := by simpa [hjN] using hp1
      have := (hf (j / 6) hjN).2 (j % 6) u (by rw [e]; exact hp2)
      rw [Addr.add_lit, show j / 6 * 6 + j % 6 = j from by omega] at this
      exact this
    · simp at hpm
      obtain ⟨i, hiN, rfl⟩ := hpm
      exact (hf i hiN).1
end
end Go.Proofs.Ytpdfalgjmeagjaa
