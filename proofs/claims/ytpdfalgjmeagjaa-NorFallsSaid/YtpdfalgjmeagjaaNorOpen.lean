/-
  What is known of an argument that is a slice of calls, or of bools.
-/
import Derived.Test.YtpdfalgjmeagjaaOc
import Derived.Test.YtpdfalgjmeagjaaRow
import Derived.Deep.Slices
import Derived.Deep.Strs
import Derived.Deep.Fields
import Derived.Deep.Grids
import Derived.Lib.SmallJoins
namespace Go.Proofs.Ytpdfalgjmeagjaa
open Go.RowKit Go.ChangeShapes Go.WideShapes
set_option linter.unusedVariables false

section
variable {H : Type} {enc : TypeId × Value → H} {w : World} {held : Bool}
set_option maxRecDepth 100000 in
theorem call_of {fuel : Nat} {cs : List Value} {x : DataW H × List MemPlace} (h : DataW.trod enc Try.prog w 0 (fun _ => true) held fuel 169 cs = some x) : ∃ p : Oc, cs = p.cells ∧ p.Ok w.heap.size w := by
  obtain ⟨xs, n, _, rfl, hl, hlen, hf⟩ := DataW.trod_struct Try.underlying169 h
  have hC : Try.prog.cellsOf 169 = 5 := by kernel_rfl
  rw [hC] at hl
  match cs, hl, xs, hlen with
  | [v0, v1, v2, v3, v4], _, [y0, y1, y2, y3, y4], _ =>
    have h0 : DataW.trod enc Try.prog w 0 (fun _ => true) held n 3 [v0] = some y0 := hf 0 _ rfl
    have h1 : DataW.trod enc Try.prog w 0 (fun _ => true) held n 3 [v1] = some y1 := hf 1 _ rfl
    have h2 : DataW.trod enc Try.prog w 0 (fun _ => true) held n 3 [v2] = some y2 := hf 2 _ rfl
    have h3 : DataW.trod enc Try.prog w 0 (fun _ => true) held n 54 [v3] = some y3 := hf 3 _ rfl
    have h4 : DataW.trod enc Try.prog w 0 (fun _ => true) held n 55 [v4] = some y4 := hf 4 _ rfl
    obtain ⟨k0, e0, _, w0⟩ := DataW.trod_int Try.underlying3 h0
    obtain ⟨k1, e1, _, w1⟩ := DataW.trod_int Try.underlying3 h1
    obtain ⟨k2, e2, _, w2⟩ := DataW.trod_int Try.underlying3 h2
    obtain ⟨A, m, c, b, rfl, hb, hs, hc, hm⟩ := words_slice h3
    obtain ⟨B, q, d, ks, rfl, hq, hs2⟩ := bools_slice h4
    simp at e0 e1 e2
    subst e0 e1 e2
    have b1 := bounds_i64 w1
    have b2 := bounds_i64 w2
    exact ⟨⟨k0, k1, k2, A, m, c, b, B, q, d, ks⟩, rfl, hs, hb, hc, hs2, hq, by show _ ≤ k1 ∧ k1 < _; omega, by show _ ≤ k2 ∧ k2 < _; omega⟩
theorem calls_of {fuel : Nat} {A : Option Addr} {N c : Nat} {x : DataW H × List MemPlace} (h : DataW.trod enc Try.prog w 0 (fun _ => true) held fuel 53 [.slice A N c] = some x) :
    ∃ ps : List Oc, ps.length = N ∧ Sees w w.heap.size A (ocs ps) ∧ (∀ p ∈ ps, p.Ok w.heap.size w) := by
  have hC : Try.prog.cellsOf 169 = 5 := by kernel_rfl
  rcases Deep.open_slice Try.underlying53 h with ⟨hcs, _⟩ | ⟨a, len, cap, m, n, D, Pl, hcs, _, hl, hm, hmm, _, hi⟩
  · simp at hcs
    obtain ⟨rfl, rfl, rfl⟩ := hcs
    exact ⟨[], rfl, Sees.nil, by simp⟩
  · simp at hcs
    obtain ⟨rfl, rfl, rfl⟩ := hcs
    have hlm : N ≤ m := by rw [hmm]; simp; exact hl
    have hp : ∀ i, i < N → ∃ p : Oc, p.Ok w.heap.size w ∧ ∀ j u, p.cells[j]? = some u → w.cell? (a.add (i * 5 + j)) = some u := by
      intro i hiN
      obtain ⟨cs', hc, ht⟩ := hi i (by omega)
      rw [hC] at hc
      obtain ⟨p, rfl, hok⟩ := call_of ht
      obtain ⟨_, _, hat⟩ := World.cells?_some hc
      refine ⟨p, hok, fun j u hu => ?_⟩
      have hj : j < 5 := (List.getElem?_eq_some_iff.1 hu).1
      rw [← Deep.add_add, hat j hj, hu]
    obtain ⟨f, hf⟩ := Deep.choose_lt hp
    refine ⟨(List.range N).map f, by simp, fun hpos => ?_, fun p hpm => ?_⟩
    · have hN : 0 < N := by rw [len_ocs] at hpos; simp at hpos; exact hpos
      obtain ⟨b, o, s⟩ := a
      have h0 := (hf 0 hN).2 0 _ rfl
      have hs : s = none := by simpa [Addr.add] using World.cell?_spot h0
      subst hs
      rw [Addr.add_lit] at h0
      refine ⟨b, o, rfl, World.block_lt_of_cell? _ _ h0, fun j u hu => ?_⟩
      obtain ⟨p, hp1, hp2⟩ := ocs_at _ j u hu
      have hjN : j / 5 < N := by simpa using (List.getElem?_eq_some_iff.1 hp1).1
      have e : f (j / 5) = p := by simpa [hjN] using hp1
      have := (hf (j / 5) hjN).2 (j % 5) u (by rw [e]; exact hp2)
      rw [Addr.add_lit, show j / 5 * 5 + j % 5 = j from by omega] at this
      exact this
    · simp at hpm
      obtain ⟨i, hiN, rfl⟩ := hpm
      exact (hf i hiN).1
end
end Go.Proofs.Ytpdfalgjmeagjaa
