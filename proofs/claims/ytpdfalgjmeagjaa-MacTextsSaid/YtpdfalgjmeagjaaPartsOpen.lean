/-
  What is known of an argument that is a slice of slices of bytes.
-/
import Derived.Test.YtpdfalgjmeagjaaPb
import Derived.Test.YtpdfalgjmeagjaaRow
import Derived.Test.YtpdfalgjmeagjaaProg
import Derived.OpenShut
import Derived.ProofKit
import Derived.Deep.Slices
import Derived.Deep.Strs
import Derived.Deep.Fields
import Derived.Lib.SmallJoins
namespace Go.Proofs.Ytpdfalgjmeagjaa
open Go.RowKit Go.ChangeShapes Go.WideShapes
set_option linter.unusedVariables false
section
variable {H : Type} {enc : TypeId × Value → H} {w : World} {held : Bool}
theorem bytes_slice {fuel : Nat} {v : Value} {x : DataW H × List MemPlace} (h : DataW.trod enc Try.prog w 0 (fun _ => true) held fuel 27 [v] = some x) : ∃ p : Pb, v = p.cell ∧ p.Ok w := by
  have key : ∃ A m c zs, v = .slice A m c ∧ IsRow .u8 w A m c zs := by
    rcases open_ints Try.underlying27 Try.underlying5 (by kernel_rfl) h with ⟨hcs, _⟩ | ⟨x, l, c, zs, hcs, _, hl, hm, hz, _, hcell, hwz⟩
    · simp at hcs
      exact ⟨none, 0, 0, [], hcs, .inl ⟨rfl, rfl, rfl, rfl⟩⟩
    · simp at hcs
      exact ⟨some x, l, c, zs, hcs, .inr ⟨_, rfl, hl, hm, by simpa using hz, hcell, hwz⟩⟩
  obtain ⟨A, m, c, zs, rfl, hr⟩ := key
  obtain ⟨b, h1, h2, h3, h4⟩ := row_bytes hr
  exact ⟨⟨A, m, c, b⟩, rfl, h2, h1, h3⟩
theorem parts_of {fuel : Nat} {A : Option Addr} {N c : Nat} {x : DataW H × List MemPlace} (h : DataW.trod enc Try.prog w 0 (fun _ => true) held fuel 48 [.slice A N c] = some x) :
    ∃ ps : List Pb, Parts w A N ps := by
  have hC : Try.prog.cellsOf 27 = 1 := by kernel_rfl
  rcases Deep.open_slice Try.underlying48 h with ⟨hcs, _⟩ | ⟨a, len, cap, m, n, D, Pl, hcs, _, hl, hm, hmm, _, hi⟩
  · simp at hcs
    obtain ⟨rfl, rfl, rfl⟩ := hcs
    exact ⟨[], Sees.nil, rfl, by simp⟩
  · simp at hcs
    obtain ⟨rfl, rfl, rfl⟩ := hcs
    have hlm : N ≤ m := by rw [hmm]; simp; exact hl
    have hp : ∀ i, i < N → ∃ p : Pb, p.Ok w ∧ w.cell? (a.add i) = some p.cell := by
      intro i hiN
      obtain ⟨cs', hc, ht⟩ := hi i (by omega)
      rw [hC] at hc
      obtain ⟨h1, _, hat⟩ := World.cells?_some hc
      match cs', h1 with
      | [v], _ =>
        obtain ⟨p, rfl, hok⟩ := bytes_slice ht
        refine ⟨p, hok, ?_⟩
        have := hat 0 (by omega)
        simpa [Deep.add_add] using this
    obtain ⟨f, hf⟩ := Deep.choose_lt hp
    refine ⟨(List.range N).map f, fun hpos => ?_, by simp, fun p hpm => ?_⟩
    · have hN : 0 < N := by simpa using hpos
      obtain ⟨b, o, s⟩ := a
      have h0 := (hf 0 hN).2
      have hs : s = none := by simpa [Addr.add] using World.cell?_spot h0
      subst hs
      rw [Addr.add_lit] at h0
      refine ⟨b, o, rfl, World.block_lt_of_cell? _ _ h0, fun j u hu => ?_⟩
      have hjN : j < N := by have := (List.getElem?_eq_some_iff.1 hu).1; simpa using this
      have h2 := (hf j hjN).2
      rw [Addr.add_lit] at h2
      rw [h2]
      simpa [hjN] using hu
    · simp at hpm
      obtain ⟨i, hiN, rfl⟩ := hpm
      exact (hf i hiN).1
end
theorem byte_is {a : Int} (h : (Lit.int .u8 a).wf = true) : ∃ t : UInt8, a = (t.toNat : Int) := by
  have := bounds_u8 h
  exact ⟨UInt8.ofNat a.toNat, by rw [ofNat_toNat _ (by omega)]; omega⟩
end Go.Proofs.Ytpdfalgjmeagjaa
