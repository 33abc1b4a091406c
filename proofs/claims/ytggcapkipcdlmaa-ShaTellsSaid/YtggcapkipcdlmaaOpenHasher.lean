/-
  A hasher by value, opened.
-/
import Derived.Test.YtggcapkipcdlmaaByVal
import Derived.Test.YtggcapkipcdlmaaRow
import Derived.Test.YtggcapkipcdlmaaShaLeaf
import Derived.OpenShut
import Derived.ShutString
namespace Go.Proofs.Ytggcapkipcdlmaa
open Go.RowKit Go.ChangeShapes Go.WideShapes
set_option linter.unusedVariables false

section
variable {H : Type} {enc : TypeId × Value → H} {w : World} {held : Bool}
theorem bytes_slice {fuel : Nat} {v : Value} {x : DataW H × List MemPlace} (h : DataW.trod enc Try.prog w 0 (fun _ => true) held fuel 27 [v] = some x) : ∃ (A : Option Addr) (m c : Nat) (b : List UInt8), v = .slice A m c ∧ b.length = m ∧ Sees w w.heap.size A (cb b) ∧ m ≤ c ∧ c ≤ maxLen := by
  have key : ∃ A m c zs, v = .slice A m c ∧ IsRow .u8 w A m c zs := by
    rcases open_ints Try.underlying27 Try.underlying5 (by kernel_rfl) h with ⟨hcs, _⟩ | ⟨x, l, c, zs, hcs, _, hl, hm, hz, _, hcell, hwz⟩
    · simp at hcs
      exact ⟨none, 0, 0, [], hcs, .inl ⟨rfl, rfl, rfl, rfl⟩⟩
    · simp at hcs
      exact ⟨some x, l, c, zs, hcs, .inr ⟨_, rfl, hl, hm, by simpa using hz, hcell, hwz⟩⟩
  obtain ⟨A, m, c, zs, rfl, hr⟩ := key
  obtain ⟨b, h1, h2, h3, h4⟩ := row_bytes hr
  exact ⟨A, m, c, b, rfl, h1, h2, h3, h4⟩
set_option maxRecDepth 100000 in
theorem open_hasher {r : Reach} {b0 : Nat} {v : Value} {d : DataW H} {p : List MemPlace} (hv : Value.okWide Try.prog w r b0 29 v) (h : DataW.Trod enc Try.prog w 0 (fun _ => true) held 29 v d p) :
    ∃ (s : List UInt32) (R : Option Addr) (m c : Nat) (rest : List UInt8) (L : Int), v = .agg (hz s (.slice R m c) L).toArray ∧ s.length = 8 ∧ rest.length = m ∧ Sees w w.heap.size R (cb rest) ∧ m ≤ c ∧ c ≤ maxLen := by
  obtain ⟨cs, rfl, hsz⟩ := okWide_struct Try.underlying29 hv
  obtain ⟨fuel, hf0⟩ := h
  obtain ⟨xs, n, _, _, hl, hlen, hf⟩ := DataW.trod_struct Try.underlying29 hf0
  have hC : Try.prog.cellsOf 29 = 10 := by kernel_rfl
  rw [hC] at hl
  obtain ⟨ls, rfl⟩ : ∃ ls : List Value, cs = ls.toArray := ⟨cs.toList, by simp⟩
  have hl2 : ls.length = 10 := by simpa [Value.cells] using hl
  match ls, hl2, xs, hlen with
  | [v0, v1, v2, v3, v4, v5, v6, v7, v8, v9], _, [y0, y1, y2], _ =>
    have h0 : DataW.trod enc Try.prog w 0 (fun _ => true) held n 23 [v0, v1, v2, v3, v4, v5, v6, v7] = some y0 := hf 0 _ rfl
    have h1 : DataW.trod enc Try.prog w 0 (fun _ => true) held n 27 [v8] = some y1 := hf 1 _ rfl
    have h2 : DataW.trod enc Try.prog w 0 (fun _ => true) held n 3 [v9] = some y2 := hf 2 _ rfl
    obtain ⟨l0, z0, e0, w0⟩ := trod_array_ints Try.underlying23 Try.underlying22 (by kernel_rfl) (by kernel_rfl) h0
    obtain ⟨s, ls_, es⟩ := words_of z0 w0
    obtain ⟨R, m, c, b, rfl, hb, hs, hc, hm⟩ := bytes_slice h1
    obtain ⟨L, e2, _, w2⟩ := DataW.trod_int Try.underlying3 h2
    simp at e2
    subst e2
    have e8 := congrArg List.length e0
    rw [es] at e0
    refine ⟨s, R, m, c, b, L, ?_, ?_, hb, hs, hc, hm⟩
    · rw [hz, ← e0]
      rfl
    · have := congrArg List.length e0
      simpa using this.symm
end
end Go.Proofs.Ytggcapkipcdlmaa
