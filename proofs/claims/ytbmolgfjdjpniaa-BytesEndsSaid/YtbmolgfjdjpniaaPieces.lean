/-
  What is known of an argument that is a piece, or a slice of pieces: each piece's number and string.
-/
import Derived.Test.YtbmolgfjdjpniaaReadOne
import Derived.Deep.Slices
import Derived.Deep.Strs
import Derived.Deep.Fields
import Derived.Lib.SmallJoins
namespace Go.Proofs.Ytbmolgfjdjpniaa
open Go.RowKit Go.ChangeShapes Go.WideShapes
set_option linter.unusedVariables false

instance : Inhabited Pc := ⟨⟨0, 0, none, 0, 0, []⟩⟩
section
variable {H : Type} {enc : TypeId × Value → H} {w : World} {held : Bool}
theorem slice_of {fuel : Nat} {v : Value} {x : DataW H × List MemPlace} (h : DataW.trod enc Try.prog w 0 (fun _ => true) held fuel 23 [v] = some x) : ∃ (A : Option Addr) (m c : Nat) (b : List UInt8), v = .slice A m c ∧ b.length = m ∧ Sees w w.heap.size A (cb b) ∧ m ≤ c := by
  have key : ∃ A m c zs, v = .slice A m c ∧ IsRow .u8 w A m c zs := by
    rcases open_ints Try.underlying23 Try.underlying5 (by kernel_rfl) h with ⟨hcs, _⟩ | ⟨x, l, c, zs, hcs, _, hl, hm, hz, _, hcell, hwz⟩
    · simp at hcs
      exact ⟨none, 0, 0, [], hcs, .inl ⟨rfl, rfl, rfl, rfl⟩⟩
    · simp at hcs
      exact ⟨some x, l, c, zs, hcs, .inr ⟨_, rfl, hl, hm, by simpa using hz, hcell, hwz⟩⟩
  obtain ⟨A, m, c, zs, rfl, hr⟩ := key
  obtain ⟨b, h1, h2, h3, _⟩ := row_bytes hr
  exact ⟨A, m, c, b, rfl, h1, h2, h3⟩
theorem piece_mk {fuel : Nat} {v0 v1 v2 : Value} {y0 y1 y2 : DataW H × List MemPlace} (h0 : DataW.trod enc Try.prog w 0 (fun _ => true) held fuel 5 [v0] = some y0) (h1 : DataW.trod enc Try.prog w 0 (fun _ => true) held fuel 22 [v1] = some y1)
    (h2 : DataW.trod enc Try.prog w 0 (fun _ => true) held fuel 23 [v2] = some y2) : ∃ p : Pc, [v0, v1, v2] = p.cells ∧ p.Ok w := by
  obtain ⟨k, e0, _, wk⟩ := DataW.trod_int Try.underlying5 h0
  obtain ⟨n, e1, _, wn⟩ := DataW.trod_int Try.underlying22 h1
  obtain ⟨A, m, c, b, rfl, hb, hs, hc⟩ := slice_of h2
  simp at e0 e1
  subst e0 e1
  have bk := bounds_u8 wk
  have bn := bounds_u64 wn
  obtain ⟨n, rfl⟩ := Int.eq_ofNat_of_zero_le (show 0 ≤ n by omega)
  refine ⟨⟨UInt8.ofNat k.toNat, n, A, m, c, b⟩, ?_, hs, hb, hc, by show n < _; omega⟩
  have e : ((UInt8.ofNat k.toNat).toNat : Int) = k := by rw [ofNat_toNat _ (by omega)]; omega
  simp only [Pc.cells, e]
theorem piece_of {fuel : Nat} {cs : List Value} {x : DataW H × List MemPlace} (h : DataW.trod enc Try.prog w 0 (fun _ => true) held fuel 51 cs = some x) : ∃ p : Pc, cs = p.cells ∧ p.Ok w := by
  obtain ⟨y0, y1, y2, n, _, hl, h0, h1, h2⟩ := Deep.trod_struct3 Try.underlying51 h
  have hC : Try.prog.cellsOf 51 = 3 := by kernel_rfl
  rw [hC] at hl
  match cs, hl with
  | [v0, v1, v2], _ =>
    have c5 : Try.prog.cellsOf 5 = 1 := by kernel_rfl
    have c22 : Try.prog.cellsOf 22 = 1 := by kernel_rfl
    have c23 : Try.prog.cellsOf 23 = 1 := by kernel_rfl
    simp only [c5, c22, c23] at h0 h1 h2
    exact piece_mk h0 h1 h2
end
theorem pcs_at (ps : List Pc) (j : Nat) (u : Value) (h : (pcs ps)[j]? = some u) : ∃ p, ps[j / 3]? = some p ∧ p.cells[j % 3]? = some u := by
  have hj : j < 3 * ps.length := by
    have := (List.getElem?_eq_some_iff.1 h).1
    rwa [len_pcs] at this
  have hp : ps[j / 3]? = some (ps[j / 3]'(by omega)) := List.getElem?_eq_getElem (by omega)
  have hl : ∀ p : Pc, p.cells.length = 3 := fun _ => rfl
  have hc : (ps[j / 3]'(by omega)).cells[j % 3]? = some ((ps[j / 3]'(by omega)).cells[j % 3]'(by rw [hl]; omega)) := List.getElem?_eq_getElem _
  have := pcs_get ps (j / 3) (j % 3) _ _ hp hc
  rw [show j / 3 * 3 + j % 3 = j from by omega, h] at this
  refine ⟨_, hp, ?_⟩
  rw [hc, ← this]
section
variable {H : Type} {enc : TypeId × Value → H} {w : World} {held : Bool}
theorem pieces_of {fuel : Nat} {A : Option Addr} {N c : Nat} {x : DataW H × List MemPlace} (h : DataW.trod enc Try.prog w 0 (fun _ => true) held fuel 49 [.slice A N c] = some x) :
    ∃ ps : List Pc, ps.length = N ∧ Sees w w.heap.size A (pcs ps) ∧ (∀ p ∈ ps, p.Ok w) ∧ N ≤ c := by
  have hC : Try.prog.cellsOf 51 = 3 := by kernel_rfl
  rcases Deep.open_slice Try.underlying49 h with ⟨hcs, _⟩ | ⟨a, len, cap, m, n, D, Pl, hcs, _, hl, hm, hmm, _, hi⟩
  · simp at hcs
    obtain ⟨rfl, rfl, rfl⟩ := hcs
    exact ⟨[], rfl, Sees.nil, by simp, Nat.le_refl _⟩
  · simp at hcs
    obtain ⟨rfl, rfl, rfl⟩ := hcs
    have hlm : N ≤ m := by rw [hmm]; simp; exact hl
    have hp : ∀ i, i < N → ∃ p : Pc, p.Ok w ∧ ∀ j u, p.cells[j]? = some u → w.cell? (a.add (i * 3 + j)) = some u := by
      intro i hiN
      obtain ⟨cs', hc, ht⟩ := hi i (by omega)
      rw [hC] at hc
      obtain ⟨p, rfl, hok⟩ := piece_of ht
      obtain ⟨_, _, hat⟩ := World.cells?_some hc
      refine ⟨p, hok, fun j u hu => ?_⟩
      have hj : j < 3 := (List.getElem?_eq_some_iff.1 hu).1
      rw [← Deep.add_add, hat j hj, hu]
    obtain ⟨f, hf⟩ := Deep.choose_lt hp
    refine ⟨(List.range N).map f, by simp, fun hpos => ?_, fun p hpm => ?_, hl⟩
    · have hN : 0 < N := by rw [len_pcs] at hpos; simp at hpos; exact hpos
      obtain ⟨b, o, s⟩ := a
      have h0 := (hf 0 hN).2 0 _ rfl
      have hs : s = none := by simpa [Addr.add] using World.cell?_spot h0
      subst hs
      rw [Addr.add_lit] at h0
      refine ⟨b, o, rfl, World.block_lt_of_cell? _ _ h0, fun j u hu => ?_⟩
      obtain ⟨p, hp1, hp2⟩ := pcs_at _ j u hu
      have hjN : j / 3 < N := by simpa using (List.getElem?_eq_some_iff.1 hp1).1
      have e : f (j / 3) = p := by simpa [hjN] using hp1
      have := (hf (j / 3) hjN).2 (j % 3) u (by rw [e]; exact hp2)
      rw [Addr.add_lit, show j / 3 * 3 + j % 3 = j from by omega] at this
      exact this
    · simp at hpm
      obtain ⟨i, hiN, rfl⟩ := hpm
      exact (hf i hiN).1
end
end Go.Proofs.Ytbmolgfjdjpniaa
