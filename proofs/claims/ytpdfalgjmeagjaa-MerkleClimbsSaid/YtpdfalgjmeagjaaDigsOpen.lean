/-
  What is known of an argument that is a slice of digests, or a path.
-/
import Derived.Test.YtpdfalgjmeagjaaMerkNode
import Derived.Test.YtpdfalgjmeagjaaOpenDig
import Derived.Deep.Slices
import Derived.Deep.Fields
namespace Go.Proofs.Ytpdfalgjmeagjaa
open Go.RowKit Go.ChangeShapes Go.WideShapes
set_option linter.unusedVariables false
section
variable {H : Type} {enc : TypeId × Value → H} {w : World} {held : Bool}
theorem flat_get (f : Nat → List UInt8) (N : Nat) (h : ∀ i, i < N → (f i).length = 32) (j : Nat) (hj : j < 32 * N) : (((List.range N).map f).flatten)[j]? = (f (j / 32))[j % 32]? := by
  have ha : ∀ d ∈ (List.range N).map f, d.length = 32 := by
    intro d hd
    obtain ⟨i, hi, rfl⟩ := List.mem_map.1 hd
    exact h i (List.mem_range.1 hi)
  have hk : j / 32 < ((List.range N).map f).length := by simp; omega
  have h1 := chunk_flat ha hk
  have h2 : dAt ((List.range N).map f) (j / 32) = f (j / 32) := by
    rw [dAt_lt hk]
    simp
  rw [h2] at h1
  rw [← h1, get_chunk, if_pos (by omega), show 32 * (j / 32) + j % 32 = j from by omega]
set_option maxRecDepth 100000 in
theorem digs_of {fuel : Nat} {A : Option Addr} {N c : Nat} {x : DataW H × List MemPlace} (h : DataW.trod enc Try.prog w 0 (fun _ => true) held fuel 144 [.slice A N c] = some x) :
    ∃ ds, Digs w A N ds ∧ N ≤ c ∧ c ≤ 9223372036854775807 ∧ (A = none → c = 0) := by
  have hC : Try.prog.cellsOf 38 = 32 := by kernel_rfl
  rcases Deep.open_slice Try.underlying144 h with ⟨hcs, _⟩ | ⟨a, len, cap, m, n, D, Pl, hcs, _, hl, hm, hmm, _, hi⟩
  · simp at hcs
    obtain ⟨rfl, rfl, rfl⟩ := hcs
    exact ⟨[], Digs.nil, Nat.le_refl _, Nat.zero_le _, fun _ => rfl⟩
  · simp at hcs
    obtain ⟨rfl, rfl, rfl⟩ := hcs
    have hlm : N ≤ m := by rw [hmm]; simp; exact hl
    have hp : ∀ i, i < N → ∃ d : List UInt8, d.length = 32 ∧ ∀ j u, (cb d)[j]? = some u → w.cell? (a.add (i * 32 + j)) = some u := by
      intro i hiN
      obtain ⟨cs', hc, ht⟩ := hi i (by omega)
      rw [hC] at hc
      obtain ⟨lz, z, hz, hw⟩ := trod_array_ints Try.underlying38 Try.underlying5 (by kernel_rfl) (by kernel_rfl) ht
      obtain ⟨b, lb, eb⟩ := bytes_of z hw
      obtain ⟨_, _, hat⟩ := World.cells?_some hc
      have hlen : b.length = 32 := by
        rw [lb]
        rw [hz, List.length_map] at lz
        exact lz
      refine ⟨b, hlen, fun j u hu => ?_⟩
      have hj : j < 32 := by
        have := (List.getElem?_eq_some_iff.1 hu).1
        rw [List.length_map, hlen] at this
        exact this
      rw [← Deep.add_add, hat j hj, hz, eb]
      exact hu
    obtain ⟨f, hf⟩ := Deep.choose_lt hp
    have hf1 : ∀ i, i < N → (f i).length = 32 := fun i hi => (hf i hi).1
    refine ⟨(List.range N).map f, ⟨fun hpos => ?_, by simp, fun d hd => ?_⟩, hl, by unfold maxLen at hm; omega, fun e => by cases e⟩
    · have hN : 0 < N := by
        rcases Nat.eq_zero_or_pos N with rfl | h0
        · simp at hpos
        · exact h0
      obtain ⟨b, o, s⟩ := a
      have h0 := (hf 0 hN).2 0 _ (List.getElem?_eq_getElem (by rw [List.length_map, hf1 0 hN]; omega))
      have hs : s = none := by simpa [Addr.add] using World.cell?_spot h0
      subst hs
      rw [Addr.add_lit] at h0
      refine ⟨b, o, rfl, World.block_lt_of_cell? _ _ h0, fun j u hu => ?_⟩
      have hj : j < 32 * N := by
        have := (List.getElem?_eq_some_iff.1 hu).1
        rw [List.length_map, len_flat (by
          intro d hd
          obtain ⟨i, hi, rfl⟩ := List.mem_map.1 hd
          exact hf1 i (List.mem_range.1 hi))] at this
        simpa using this
      have hjN : j / 32 < N := by omega
      have hu2 : (cb (f (j / 32)))[j % 32]? = some u := by
        rw [List.getElem?_map] at hu ⊢
        rw [← flat_get f N hf1 j hj]
        exact hu
      have := (hf (j / 32) hjN).2 (j % 32) u hu2
      rw [Addr.add_lit, show j / 32 * 32 + j % 32 = j from by omega] at this
      exact this
    · obtain ⟨i, hi, rfl⟩ := List.mem_map.1 hd
      exact hf1 i (List.mem_range.1 hi)
set_option maxRecDepth 100000 in
theorem open_path {r : Reach} {b0 : Nat} {v : Value} {d : DataW H} {p : List MemPlace} (hv : Value.okWide Try.prog w r b0 149 v) (h : DataW.Trod enc Try.prog w 0 (fun _ => true) held 149 v d p) :
    ∃ leaf A n c ds, v = .agg #[.int .i64 leaf, .slice A n c] ∧ (Lit.int .i64 leaf).wf = true ∧ Digs w A n ds ∧ n ≤ c ∧ c ≤ 9223372036854775807 ∧ (A = none → c = 0) := by
  obtain ⟨cs, rfl, hsz⟩ := okWide_struct Try.underlying149 hv
  obtain ⟨fuel, hf⟩ := h
  obtain ⟨y0, y1, n, _, hl, h0, h1⟩ := trod_struct2 Try.underlying149 hf
  have hc : Try.prog.cellsOf 149 = 2 := by kernel_rfl
  have hc0 : Try.prog.cellsOf 3 = 1 := by kernel_rfl
  have hc1 : Try.prog.cellsOf 144 = 1 := by kernel_rfl
  rw [hc0] at h0
  rw [hc1] at h1
  have hl2 : cs.toList.length = 2 := by rw [← hc]; exact hl
  obtain ⟨l⟩ := cs
  match l, hl2 with
  | [v0, v1], _ =>
    have h0' : DataW.trod enc Try.prog w 0 (fun _ => true) held n 3 [v0] = some y0 := h0
    obtain ⟨k0, e0, _, w0⟩ := DataW.trod_int Try.underlying3 h0'
    simp at e0
    subst e0
    have h1' : DataW.trod enc Try.prog w 0 (fun _ => true) held n 144 [v1] = some y1 := h1
    obtain ⟨A, N, c, rfl⟩ : ∃ A N c, v1 = .slice A N c := by
      rcases Deep.open_slice Try.underlying144 h1' with ⟨hcs, _⟩ | ⟨a, len, cap, m, n, D, Pl, hcs, _⟩
      · exact ⟨none, 0, 0, by simpa using hcs⟩
      · exact ⟨some a, len, cap, by simpa using hcs⟩
    obtain ⟨ds, hd, hn, hcm, hnil⟩ := digs_of h1'
    exact ⟨k0, A, N, c, ds, rfl, w0, hd, hn, hcm, hnil⟩
end
end Go.Proofs.Ytpdfalgjmeagjaa
