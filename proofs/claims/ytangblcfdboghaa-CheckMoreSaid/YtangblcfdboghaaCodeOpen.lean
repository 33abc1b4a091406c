/-
  What is known of an argument that is a program of the scan machine.
-/
import Derived.Test.YtangblcfdboghaaCodeMem
import Derived.Test.YtangblcfdboghaaRow
import Derived.Deep.Slices
import Derived.OpenShut
namespace Go.Proofs.Ytangblcfdboghaa
open Go.RowKit Go.ChangeShapes Go.WideShapes
set_option linter.unusedVariables false

theorem quads_at {α : Type} {f : α → List Value} (hf : ∀ x, (f x).length = 4) (l : List α) (j : Nat) (u : Value) (h : (quads f l)[j]? = some u) : ∃ p, l[j / 4]? = some p ∧ (f p)[j % 4]? = some u := by
  have hj : j < 4 * l.length := by
    have := (List.getElem?_eq_some_iff.1 h).1
    rwa [len_quads hf] at this
  have hp : l[j / 4]? = some (l[j / 4]'(by omega)) := List.getElem?_eq_getElem (by omega)
  have hc : (f (l[j / 4]'(by omega)))[j % 4]? = some ((f (l[j / 4]'(by omega)))[j % 4]'(by rw [hf]; omega)) := List.getElem?_eq_getElem _
  have := quads_get hf l (j / 4) (j % 4) _ _ hp hc
  rw [show j / 4 * 4 + j % 4 = j from by omega, h] at this
  refine ⟨_, hp, ?_⟩
  rw [hc, ← this]
section
variable {H : Type} {enc : TypeId × Value → H} {w : World} {held : Bool}
theorem quads_of {α : Type} {f : α → List Value} (hf : ∀ x, (f x).length = 4) {t e : TypeId} (ht : Try.prog.underlying t = some (.slice e)) (hC : Try.prog.cellsOf e = 4) {Q : α → Prop}
    (each : ∀ (fuel : Nat) (cs : List Value) (x : DataW H × List MemPlace), DataW.trod enc Try.prog w 0 (fun _ => true) held fuel e cs = some x → ∃ v, cs = f v ∧ Q v)
    {fuel : Nat} {v : Value} {x : DataW H × List MemPlace} (h : DataW.trod enc Try.prog w 0 (fun _ => true) held fuel t [v] = some x) :
    ∃ A N c, v = .slice A N c ∧ ∃ l : List α, l.length = N ∧ Sees w w.heap.size A (quads f l) ∧ (∀ v ∈ l, Q v) ∧ N ≤ c ∧ c ≤ maxLen := by
  rcases Deep.open_slice ht h with ⟨hcs, _⟩ | ⟨a, N, c, m, n, D, Pl, hcs, _, hl, hm, hmm, _, hi⟩
  · simp at hcs
    subst hcs
    exact ⟨none, 0, 0, rfl, [], rfl, Sees.nil, by simp, Nat.le_refl _, Nat.zero_le _⟩
  · simp at hcs
    subst hcs
    have hlm : N ≤ m := by rw [hmm]; simp; exact hl
    obtain ⟨b, o, s⟩ := a
    have each' : ∀ i : Fin N, ∃ v : α, Q v ∧ ∀ j u, (f v)[j]? = some u → w.cell? (Addr.add ⟨b, o, s⟩ (i.val * 4 + j)) = some u := fun i => by
      obtain ⟨cs', hc, ht'⟩ := hi i.val (by have := i.isLt; omega)
      rw [hC] at hc
      obtain ⟨v, rfl, hq⟩ := each _ _ _ ht'
      obtain ⟨_, _, hat⟩ := World.cells?_some hc
      refine ⟨v, hq, fun j u hu => ?_⟩
      have hj : j < 4 := by have := (List.getElem?_eq_some_iff.1 hu).1; rwa [hf] at this
      rw [← Deep.add_add, hat j hj, hu]
    obtain ⟨g, hg⟩ := Classical.axiomOfChoice each'
    refine ⟨_, N, c, rfl, List.ofFn g, by simp, fun hn => ?_, fun v hv => ?_, hl, hm⟩
    · rw [len_quads hf, List.length_ofFn] at hn
      have hN : 0 < N := by omega
      have hc0 : (f (g ⟨0, hN⟩))[0]? = some ((f (g ⟨0, hN⟩))[0]'(by rw [hf]; omega)) := List.getElem?_eq_getElem _
      have h00 := (hg ⟨0, hN⟩).2 0 _ hc0
      have hs0 : s = none := by simpa [Addr.add] using World.cell?_spot h00
      subst hs0
      have h0 := h00
      rw [Addr.add_lit] at h0
      refine ⟨b, o, rfl, World.block_lt_of_cell? _ _ h0, fun j u hu => ?_⟩
      obtain ⟨p, hp, hu2⟩ := quads_at hf _ j u hu
      rw [List.getElem?_ofFn] at hp
      split at hp
      · rename_i hlt
        have hp := Option.some.inj hp
        subst hp
        have := (hg ⟨j / 4, hlt⟩).2 (j % 4) u hu2
        rw [Addr.add_lit, show j / 4 * 4 + j % 4 = j from by omega] at this
        exact this
      · cases hp
    · obtain ⟨i, rfl⟩ := (List.mem_ofFn ..).1 hv
      exact (hg i).1
set_option maxRecDepth 100000 in
theorem str_of {fuel : Nat} {v : Value} {x : DataW H × List MemPlace} (h : DataW.trod enc Try.prog w 0 (fun _ => true) held fuel 9 [v] = some x) : ∃ l : List UInt8, v = sv l ∧ l.length ≤ maxLen := by
  obtain ⟨s, e, _, hs⟩ := DataW.trod_string Try.underlying9 h
  simp at e
  subst e
  obtain ⟨a⟩ := s
  refine ⟨a.toList, by rw [sv, Array.toArray_toList], ?_⟩
  rw [Array.length_toList]
  exact hs
set_option maxRecDepth 100000 in
theorem var_of (fuel : Nat) (cs : List Value) (x : DataW H × List MemPlace) (h : DataW.trod enc Try.prog w 0 (fun _ => true) held fuel 56 cs = some x) : ∃ v : Vr, cs = v.cells ∧ v.Ok := by
  obtain ⟨xs, n, _, rfl, hl, hlen, hf⟩ := DataW.trod_struct Try.underlying56 h
  have hC : Try.prog.cellsOf 56 = 4 := by kernel_rfl
  rw [hC] at hl
  match cs, hl, xs, hlen with
  | [v0, v1, v2, v3], _, [y0, y1, y2, y3], _ =>
    have h0 : DataW.trod enc Try.prog w 0 (fun _ => true) held n 9 [v0] = some y0 := hf 0 _ rfl
    have h1 : DataW.trod enc Try.prog w 0 (fun _ => true) held n 54 [v1] = some y1 := hf 1 _ rfl
    have h2 : DataW.trod enc Try.prog w 0 (fun _ => true) held n 28 [v2] = some y2 := hf 2 _ rfl
    have h3 : DataW.trod enc Try.prog w 0 (fun _ => true) held n 2 [v3] = some y3 := hf 3 _ rfl
    obtain ⟨l, rfl, hl0⟩ := str_of h0
    obtain ⟨k1, e1, _, w1⟩ := DataW.trod_int (k := .u8) (by kernel_rfl) h1
    obtain ⟨k2, e2, _, w2⟩ := DataW.trod_int (k := .u8) (by kernel_rfl) h2
    obtain ⟨k3, e3, _, w3⟩ := DataW.trod_int (k := .i64) (by kernel_rfl) h3
    simp at e1 e2 e3
    subst e1 e2 e3
    have b1 := bounds_u8 w1
    have b2 := bounds_u8 w2
    have b3 := bounds_i64 w3
    obtain ⟨a, rfl⟩ := Int.eq_ofNat_of_zero_le b1.1
    obtain ⟨m, rfl⟩ := Int.eq_ofNat_of_zero_le b2.1
    exact ⟨⟨l, a, m, k3⟩, rfl, ⟨hl0, by simp only []; omega, by simp only []; omega, by simp only []; omega⟩⟩
set_option maxRecDepth 100000 in
theorem ins_of (fuel : Nat) (cs : List Value) (x : DataW H × List MemPlace) (h : DataW.trod enc Try.prog w 0 (fun _ => true) held fuel 53 cs = some x) : ∃ v : Jn, cs = v.cells ∧ v.Ok := by
  obtain ⟨xs, n, _, rfl, hl, hlen, hf⟩ := DataW.trod_struct Try.underlying53 h
  have hC : Try.prog.cellsOf 53 = 4 := by kernel_rfl
  rw [hC] at hl
  match cs, hl, xs, hlen with
  | [v0, v1, v2, v3], _, [y0, y1, y2, y3], _ =>
    have h0 : DataW.trod enc Try.prog w 0 (fun _ => true) held n 51 [v0] = some y0 := hf 0 _ rfl
    have h1 : DataW.trod enc Try.prog w 0 (fun _ => true) held n 28 [v1] = some y1 := hf 1 _ rfl
    have h2 : DataW.trod enc Try.prog w 0 (fun _ => true) held n 3 [v2] = some y2 := hf 2 _ rfl
    have h3 : DataW.trod enc Try.prog w 0 (fun _ => true) held n 2 [v3] = some y3 := hf 3 _ rfl
    obtain ⟨k0, e0, _, w0⟩ := DataW.trod_int (k := .u8) (by kernel_rfl) h0
    obtain ⟨k1, e1, _, w1⟩ := DataW.trod_int (k := .u8) (by kernel_rfl) h1
    obtain ⟨k2, e2, _, w2⟩ := DataW.trod_int (k := .i64) (by kernel_rfl) h2
    obtain ⟨k3, e3, _, w3⟩ := DataW.trod_int (k := .i64) (by kernel_rfl) h3
    simp at e0 e1 e2 e3
    subst e0 e1 e2 e3
    have b0 := bounds_u8 w0
    have b1 := bounds_u8 w1
    have b2 := bounds_i64 w2
    have b3 := bounds_i64 w3
    obtain ⟨a, rfl⟩ := Int.eq_ofNat_of_zero_le b0.1
    obtain ⟨m, rfl⟩ := Int.eq_ofNat_of_zero_le b1.1
    exact ⟨⟨a, m, k2, k3⟩, rfl, ⟨by simp only []; omega, by simp only []; omega, by simp only []; omega, by simp only []; omega⟩⟩
/-- A slice of numbers of 8 bits, whatever they are called. -/
theorem octets_of {t e : TypeId} (ht : Try.prog.underlying t = some (.slice e)) (he : Try.prog.underlying e = some (.int .u8)) (hc : Try.prog.cellsOf e = 1) {fuel : Nat} {v : Value} {x : DataW H × List MemPlace} (h : DataW.trod enc Try.prog w 0 (fun _ => true) held fuel t [v] = some x) :
    ∃ (A : Option Addr) (m c : Nat) (b : List UInt8), v = .slice A m c ∧ b.length = m ∧ Sees w w.heap.size A (cb b) ∧ m ≤ c ∧ c ≤ maxLen := by
  have key : ∃ A m c zs, v = .slice A m c ∧ IsRow .u8 w A m c zs := by
    rcases open_ints ht he hc h with ⟨hcs, _⟩ | ⟨x, l, c, zs, hcs, _, hl, hm, hz, _, hcell, hwz⟩
    · simp at hcs
      exact ⟨none, 0, 0, [], hcs, .inl ⟨rfl, rfl, rfl, rfl⟩⟩
    · simp at hcs
      exact ⟨some x, l, c, zs, hcs, .inr ⟨_, rfl, hl, hm, by simpa using hz, hcell, hwz⟩⟩
  obtain ⟨A, m, c, zs, rfl, hr⟩ := key
  obtain ⟨b, h1, h2, h3, h4⟩ := row_bytes hr
  exact ⟨A, m, c, b, rfl, h1, h2, h3, h4⟩
set_option maxRecDepth 100000 in
theorem open_code {r : Reach} {b0 : Nat} {v : Value} {d : DataW H} {p : List MemPlace} (hv : Value.okWide Try.prog w r b0 26 v) (h : DataW.Trod enc Try.prog w 0 (fun _ => true) held 26 v d p) :
    ∃ m : Pm, v = .agg m.cells.toArray ∧ PmAt w.heap.size w m := by
  obtain ⟨cs, rfl, hsz⟩ := okWide_struct Try.underlying26 hv
  obtain ⟨fuel, hf⟩ := h
  obtain ⟨xs, n, _, _, hl, hlen, hf⟩ := DataW.trod_struct Try.underlying26 hf
  have hC : Try.prog.cellsOf 26 = 4 := by kernel_rfl
  have hl2 : cs.toList.length = 4 := by rw [← hC]; exact hl
  obtain ⟨l⟩ := cs
  match l, hl2, xs, hlen with
  | [v0, v1, v2, v3], _, [y0, y1, y2, y3], _ =>
    have h0 : DataW.trod enc Try.prog w 0 (fun _ => true) held n 9 [v0] = some y0 := hf 0 _ rfl
    have h1 : DataW.trod enc Try.prog w 0 (fun _ => true) held n 22 [v1] = some y1 := hf 1 _ rfl
    have h2 : DataW.trod enc Try.prog w 0 (fun _ => true) held n 23 [v2] = some y2 := hf 2 _ rfl
    have h3 : DataW.trod enc Try.prog w 0 (fun _ => true) held n 24 [v3] = some y3 := hf 3 _ rfl
    obtain ⟨nm, rfl, hnm⟩ := str_of h0
    obtain ⟨av, nv, cv, rfl, V, lv, sv', ov, cv1, cv2⟩ := quads_of vr4 Try.underlying22 (by kernel_rfl) var_of h1
    obtain ⟨ab, nb, cb', B, rfl, lb, sb, cb1, cb2⟩ := octets_of Try.underlying23 (by kernel_rfl) (by kernel_rfl) h2
    obtain ⟨ai, ni, ci, rfl, J, lj, sj, oj, cj1, cj2⟩ := quads_of jn4 Try.underlying24 (by kernel_rfl) ins_of h3
    exact ⟨⟨⟨nm, V, B, J⟩, av, nv, cv, ab, nb, cb', ai, ni, ci⟩, rfl, ⟨sv', sb, sj, lv, lb, lj, ⟨cv1, cv2⟩, ⟨cb1, cb2⟩, ⟨cj1, cj2⟩, ov, oj, hnm⟩⟩
end
end Go.Proofs.Ytangblcfdboghaa
