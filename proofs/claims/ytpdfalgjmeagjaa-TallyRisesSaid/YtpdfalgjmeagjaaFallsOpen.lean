/-
  What is known of an argument that is a slice of falls of a tally.
-/
import Derived.Test.YtpdfalgjmeagjaaOc
namespace Go.Proofs.Ytpdfalgjmeagjaa
open Go.RowKit Go.ChangeShapes Go.WideShapes
set_option linter.unusedVariables false

/-- A fall lies here: how many steps ahead, how many of the flash, a choice of words. -/
def FallAt (w : World) (g o : Nat) : Prop := ∃ (a m : Nat) (B : Option Addr) (q d : Nat) (ks : List Bool), a < 65536 ∧ m < 256 ∧ w.cell? ⟨g, o, none⟩ = some (.int .u16 (a : Int)) ∧ w.cell? ⟨g, o + 1, none⟩ = some (.int .u8 (m : Int)) ∧ w.cell? ⟨g, o + 2, none⟩ = some (.slice B q d) ∧ ks.length = q ∧ Sees w w.heap.size B (cl ks)
/-- Falls lie here. -/
def FallsAt (w : World) (A : Option Addr) (n : Nat) : Prop := ∀ i, i < n → ∃ g o, A = some ⟨g, o, none⟩ ∧ g < w.heap.size ∧ FallAt w g (o + i * 3)
section
variable {H : Type} {enc : TypeId × Value → H} {w : World} {held : Bool}
set_option maxRecDepth 100000 in
theorem fall_of {fuel : Nat} {cs : List Value} {x : DataW H × List MemPlace} (h : DataW.trod enc Try.prog w 0 (fun _ => true) held fuel 88 cs = some x) : ∃ (a m : Nat) (B : Option Addr) (q d : Nat) (ks : List Bool), cs = [.int .u16 (a : Int), .int .u8 (m : Int), .slice B q d] ∧ a < 65536 ∧ m < 256 ∧ ks.length = q ∧ Sees w w.heap.size B (cl ks) := by
  obtain ⟨xs, n, _, rfl, hl, hlen, hf⟩ := DataW.trod_struct Try.underlying88 h
  have hC : Try.prog.cellsOf 88 = 3 := by kernel_rfl
  rw [hC] at hl
  match cs, hl, xs, hlen with
  | [v0, v1, v2], _, [y0, y1, y2], _ =>
    have h0 : DataW.trod enc Try.prog w 0 (fun _ => true) held n 34 [v0] = some y0 := hf 0 _ rfl
    have h1 : DataW.trod enc Try.prog w 0 (fun _ => true) held n 5 [v1] = some y1 := hf 1 _ rfl
    have h2 : DataW.trod enc Try.prog w 0 (fun _ => true) held n 55 [v2] = some y2 := hf 2 _ rfl
    obtain ⟨k0, e0, _, w0⟩ := DataW.trod_int Try.underlying34 h0
    obtain ⟨k1, e1, _, w1⟩ := DataW.trod_int Try.underlying5 h1
    obtain ⟨B, q, d, ks, rfl, hq, hs2⟩ := bools_slice h2
    simp at e0 e1
    subst e0 e1
    have b0 := bounds_u16 w0
    have b1 := bounds_u8 w1
    obtain ⟨a, rfl⟩ := Int.eq_ofNat_of_zero_le b0.1
    obtain ⟨m, rfl⟩ := Int.eq_ofNat_of_zero_le b1.1
    exact ⟨a, m, B, q, d, ks, rfl, by omega, by omega, hq, hs2⟩
theorem falls_of {fuel : Nat} {A : Option Addr} {N c : Nat} {x : DataW H × List MemPlace} (h : DataW.trod enc Try.prog w 0 (fun _ => true) held fuel 78 [.slice A N c] = some x) : FallsAt w A N := by
  have hC : Try.prog.cellsOf 88 = 3 := by kernel_rfl
  rcases Deep.open_slice Try.underlying78 h with ⟨hcs, _⟩ | ⟨a, len, cap, m, n, D, Pl, hcs, _, hl, hm, hmm, _, hi⟩
  · simp at hcs
    obtain ⟨rfl, rfl, rfl⟩ := hcs
    intro i hi
    omega
  · simp at hcs
    obtain ⟨rfl, rfl, rfl⟩ := hcs
    have hlm : N ≤ m := by rw [hmm]; simp; exact hl
    obtain ⟨b, o, s⟩ := a
    have each : ∀ i, i < N → ∃ (a' m' : Nat) (B : Option Addr) (q d : Nat) (ks : List Bool), a' < 65536 ∧ m' < 256 ∧ ks.length = q ∧ Sees w w.heap.size B (cl ks) ∧ ∀ j u, [Value.int .u16 (a' : Int), .int .u8 (m' : Int), .slice B q d][j]? = some u → w.cell? (Addr.add ⟨b, o, s⟩ (i * 3 + j)) = some u := fun i hiN => by
      obtain ⟨cs', hc, ht⟩ := hi i (by omega)
      rw [hC] at hc
      obtain ⟨a', m', B, q, d, ks, rfl, ha, hm', hq, hs⟩ := fall_of ht
      obtain ⟨_, _, hat⟩ := World.cells?_some hc
      refine ⟨a', m', B, q, d, ks, ha, hm', hq, hs, fun j u hu => ?_⟩
      have hj : j < 3 := (List.getElem?_eq_some_iff.1 hu).1
      rw [← Deep.add_add, hat j hj, hu]
    intro i hiN
    obtain ⟨_, _, _, _, _, _, _, _, _, _, each0⟩ := each 0 (by omega)
    have h00 := each0 0 _ rfl
    have hs0 : s = none := by simpa [Addr.add] using World.cell?_spot h00
    obtain ⟨a', m', B, q, d, ks, ha, hm', hq, hs, each⟩ := each i hiN
    have h0 := each 0 _ rfl
    subst hs0
    simp only [Addr.add_lit] at each
    rw [Nat.add_zero, Addr.add_lit] at h0
    exact ⟨b, o, rfl, World.block_lt_of_cell? _ _ h0, a', m', B, q, d, ks, ha, hm', h0, by have := each 1 _ rfl; rwa [← Nat.add_assoc] at this, by have := each 2 _ rfl; rwa [← Nat.add_assoc] at this, hq, hs⟩
end
end Go.Proofs.Ytpdfalgjmeagjaa
