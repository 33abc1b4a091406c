/-
  What is known of an argument that is a slice of lives of a cell.
-/
import Derived.Test.YtpdfalgjmeagjaaOc
import Derived.Test.YtpdfalgjmeagjaaPartsOpen
namespace Go.Proofs.Ytpdfalgjmeagjaa
open Go.RowKit Go.ChangeShapes Go.WideShapes
set_option linter.unusedVariables false

/-- A life lies here: what is put, where the power fails, a choice of words. -/
def LifeAt (w : World) (g o : Nat) : Prop := ∃ (B : Option Addr) (q d : Nat) (ps : List Pb) (a : Nat) (K : Option Addr) (kq kd : Nat) (ks : List Bool), a < 256 ∧ w.cell? ⟨g, o, none⟩ = some (.slice B q d) ∧ w.cell? ⟨g, o + 1, none⟩ = some (.int .u8 (a : Int)) ∧ w.cell? ⟨g, o + 2, none⟩ = some (.slice K kq kd) ∧ Parts w B q ps ∧ ks.length = kq ∧ Sees w w.heap.size K (cl ks)
/-- Lives lie here. -/
def LivesAt (w : World) (A : Option Addr) (n : Nat) : Prop := ∀ i, i < n → ∃ g o, A = some ⟨g, o, none⟩ ∧ g < w.heap.size ∧ LifeAt w g (o + i * 3)
section
variable {H : Type} {enc : TypeId × Value → H} {w : World} {held : Bool}
set_option maxRecDepth 100000 in
theorem life_of {fuel : Nat} {cs : List Value} {x : DataW H × List MemPlace} (h : DataW.trod enc Try.prog w 0 (fun _ => true) held fuel 96 cs = some x) : ∃ (B : Option Addr) (q d : Nat) (ps : List Pb) (a : Nat) (K : Option Addr) (kq kd : Nat) (ks : List Bool), cs = [.slice B q d, .int .u8 (a : Int), .slice K kq kd] ∧ a < 256 ∧ Parts w B q ps ∧ ks.length = kq ∧ Sees w w.heap.size K (cl ks) := by
  obtain ⟨xs, n, _, rfl, hl, hlen, hf⟩ := DataW.trod_struct Try.underlying96 h
  have hC : Try.prog.cellsOf 96 = 3 := by kernel_rfl
  rw [hC] at hl
  match cs, hl, xs, hlen with
  | [v0, v1, v2], _, [y0, y1, y2], _ =>
    have h0 : DataW.trod enc Try.prog w 0 (fun _ => true) held n 48 [v0] = some y0 := hf 0 _ rfl
    have h1 : DataW.trod enc Try.prog w 0 (fun _ => true) held n 5 [v1] = some y1 := hf 1 _ rfl
    have h2 : DataW.trod enc Try.prog w 0 (fun _ => true) held n 55 [v2] = some y2 := hf 2 _ rfl
    obtain ⟨k1, e1, _, w1⟩ := DataW.trod_int Try.underlying5 h1
    obtain ⟨K, kq, kd, ks, rfl, hq, hs2⟩ := bools_slice h2
    obtain ⟨B, q, d, rfl⟩ : ∃ B q d, v0 = .slice B q d := by
      rcases Deep.open_slice Try.underlying48 h0 with ⟨hcs, _⟩ | ⟨a, len, cap, m, n, D, Pl, hcs, _⟩
      · simp at hcs
        exact ⟨_, _, _, hcs⟩
      · simp at hcs
        exact ⟨_, _, _, hcs⟩
    obtain ⟨ps, hps⟩ := parts_of h0
    simp at e1
    subst e1
    have b1 := bounds_u8 w1
    obtain ⟨a, rfl⟩ := Int.eq_ofNat_of_zero_le b1.1
    exact ⟨B, q, d, ps, a, K, kq, kd, ks, rfl, by omega, hps, hq, hs2⟩
theorem lives_of {fuel : Nat} {A : Option Addr} {N c : Nat} {x : DataW H × List MemPlace} (h : DataW.trod enc Try.prog w 0 (fun _ => true) held fuel 91 [.slice A N c] = some x) : LivesAt w A N := by
  have hC : Try.prog.cellsOf 96 = 3 := by kernel_rfl
  rcases Deep.open_slice Try.underlying91 h with ⟨hcs, _⟩ | ⟨a, len, cap, m, n, D, Pl, hcs, _, hl, hm, hmm, _, hi⟩
  · simp at hcs
    obtain ⟨rfl, rfl, rfl⟩ := hcs
    intro i hi
    omega
  · simp at hcs
    obtain ⟨rfl, rfl, rfl⟩ := hcs
    have hlm : N ≤ m := by rw [hmm]; simp; exact hl
    obtain ⟨b, o, s⟩ := a
    have each : ∀ i, i < N → ∃ (B : Option Addr) (q d : Nat) (ps : List Pb) (a : Nat) (K : Option Addr) (kq kd : Nat) (ks : List Bool), a < 256 ∧ Parts w B q ps ∧ ks.length = kq ∧ Sees w w.heap.size K (cl ks) ∧ ∀ j u, [Value.slice B q d, .int .u8 (a : Int), .slice K kq kd][j]? = some u → w.cell? (Addr.add ⟨b, o, s⟩ (i * 3 + j)) = some u := fun i hiN => by
      obtain ⟨cs', hc, ht⟩ := hi i (by omega)
      rw [hC] at hc
      obtain ⟨B, q, d, ps, a, K, kq, kd, ks, rfl, ha, hps, hq, hs⟩ := life_of ht
      obtain ⟨_, _, hat⟩ := World.cells?_some hc
      refine ⟨B, q, d, ps, a, K, kq, kd, ks, ha, hps, hq, hs, fun j u hu => ?_⟩
      have hj : j < 3 := (List.getElem?_eq_some_iff.1 hu).1
      rw [← Deep.add_add, hat j hj, hu]
    intro i hiN
    obtain ⟨_, _, _, _, _, _, _, _, _, _, _, _, _, each0⟩ := each 0 (by omega)
    have h00 := each0 0 _ rfl
    have hs0 : s = none := by simpa [Addr.add] using World.cell?_spot h00
    obtain ⟨B, q, d, ps, a, K, kq, kd, ks, ha, hps, hq, hs, each⟩ := each i hiN
    have h0 := each 0 _ rfl
    subst hs0
    simp only [Addr.add_lit] at each
    rw [Nat.add_zero, Addr.add_lit] at h0
    exact ⟨b, o, rfl, World.block_lt_of_cell? _ _ h0, B, q, d, ps, a, K, kq, kd, ks, ha, h0, by have := each 1 _ rfl; rwa [← Nat.add_assoc] at this, by have := each 2 _ rfl; rwa [← Nat.add_assoc] at this, hps, hq, hs⟩
end
end Go.Proofs.Ytpdfalgjmeagjaa
