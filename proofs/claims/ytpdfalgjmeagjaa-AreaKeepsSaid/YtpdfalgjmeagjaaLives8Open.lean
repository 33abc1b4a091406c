/-
  What is known of an argument that is a slice of lives of an area.
-/
import Derived.Test.YtpdfalgjmeagjaaOc
import Derived.Test.YtpdfalgjmeagjaaPartsOpen
namespace Go.Proofs.Ytpdfalgjmeagjaa
open Go.RowKit Go.ChangeShapes Go.WideShapes
set_option linter.unusedVariables false

/-- A life's cells. -/
def life8 (B : Option Addr) (q d em ar ag : Nat) (K : Option Addr) (kq kd : Nat) : List Value := [.slice B q d, .int .u8 (em : Int), .int .u8 (ar : Int), .int .u8 (ag : Int), .slice K kq kd]
/-- A life lies here: the records, where it is emptied, where the power fails, and in opening, a choice of words. -/
def Life8At (w : World) (g o : Nat) : Prop := ∃ (B : Option Addr) (q d : Nat) (ps : List Pb) (em ar ag : Nat) (K : Option Addr) (kq kd : Nat) (ks : List Bool), em < 256 ∧ ar < 256 ∧ ag < 256 ∧ (∀ j u, (life8 B q d em ar ag K kq kd)[j]? = some u → w.cell? ⟨g, o + j, none⟩ = some u) ∧ Parts w B q ps ∧ ks.length = kq ∧ Sees w w.heap.size K (cl ks)
/-- Lives lie here. -/
def Lives8At (w : World) (A : Option Addr) (n : Nat) : Prop := ∀ i, i < n → ∃ g o, A = some ⟨g, o, none⟩ ∧ g < w.heap.size ∧ Life8At w g (o + i * 5)
section
variable {H : Type} {enc : TypeId × Value → H} {w : World} {held : Bool}
theorem u8_slot {fuel : Nat} {v : Value} {y : DataW H × List MemPlace} (h : DataW.trod enc Try.prog w 0 (fun _ => true) held fuel 5 [v] = some y) : ∃ k : Nat, v = .int .u8 (k : Int) ∧ k < 256 := by
  obtain ⟨k1, e1, _, w1⟩ := DataW.trod_int Try.underlying5 h
  simp at e1
  subst e1
  have b1 := bounds_u8 w1
  obtain ⟨a, rfl⟩ := Int.eq_ofNat_of_zero_le b1.1
  exact ⟨a, rfl, by omega⟩
set_option maxRecDepth 100000 in
theorem life8_of {fuel : Nat} {cs : List Value} {x : DataW H × List MemPlace} (h : DataW.trod enc Try.prog w 0 (fun _ => true) held fuel 128 cs = some x) : ∃ (B : Option Addr) (q d : Nat) (ps : List Pb) (em ar ag : Nat) (K : Option Addr) (kq kd : Nat) (ks : List Bool), cs = life8 B q d em ar ag K kq kd ∧ em < 256 ∧ ar < 256 ∧ ag < 256 ∧ Parts w B q ps ∧ ks.length = kq ∧ Sees w w.heap.size K (cl ks) := by
  obtain ⟨xs, n, _, rfl, hl, hlen, hf⟩ := DataW.trod_struct Try.underlying128 h
  have hC : Try.prog.cellsOf 128 = 5 := by kernel_rfl
  rw [hC] at hl
  match cs, hl, xs, hlen with
  | [v0, v1, v2, v3, v4], _, [y0, y1, y2, y3, y4], _ =>
    have h0 : DataW.trod enc Try.prog w 0 (fun _ => true) held n 48 [v0] = some y0 := hf 0 _ rfl
    have h1 : DataW.trod enc Try.prog w 0 (fun _ => true) held n 5 [v1] = some y1 := hf 1 _ rfl
    have h2 : DataW.trod enc Try.prog w 0 (fun _ => true) held n 5 [v2] = some y2 := hf 2 _ rfl
    have h3 : DataW.trod enc Try.prog w 0 (fun _ => true) held n 5 [v3] = some y3 := hf 3 _ rfl
    have h4 : DataW.trod enc Try.prog w 0 (fun _ => true) held n 55 [v4] = some y4 := hf 4 _ rfl
    obtain ⟨em, rfl, he⟩ := u8_slot h1
    obtain ⟨ar, rfl, ha⟩ := u8_slot h2
    obtain ⟨ag, rfl, hg⟩ := u8_slot h3
    obtain ⟨K, kq, kd, ks, rfl, hq, hs2⟩ := bools_slice h4
    obtain ⟨B, q, d, rfl⟩ : ∃ B q d, v0 = .slice B q d := by
      rcases Deep.open_slice Try.underlying48 h0 with ⟨hcs, _⟩ | ⟨a, len, cap, m, n, D, Pl, hcs, _⟩
      · simp at hcs
        exact ⟨_, _, _, hcs⟩
      · simp at hcs
        exact ⟨_, _, _, hcs⟩
    obtain ⟨ps, hps⟩ := parts_of h0
    exact ⟨B, q, d, ps, em, ar, ag, K, kq, kd, ks, rfl, he, ha, hg, hps, hq, hs2⟩
theorem lives8_of {fuel : Nat} {A : Option Addr} {N c : Nat} {x : DataW H × List MemPlace} (h : DataW.trod enc Try.prog w 0 (fun _ => true) held fuel 123 [.slice A N c] = some x) : Lives8At w A N := by
  have hC : Try.prog.cellsOf 128 = 5 := by kernel_rfl
  rcases Deep.open_slice Try.underlying123 h with ⟨hcs, _⟩ | ⟨a, len, cap, m, n, D, Pl, hcs, _, hl, hm, hmm, _, hi⟩
  · simp at hcs
    obtain ⟨rfl, rfl, rfl⟩ := hcs
    intro i hi
    omega
  · simp at hcs
    obtain ⟨rfl, rfl, rfl⟩ := hcs
    have hlm : N ≤ m := by rw [hmm]; simp; exact hl
    obtain ⟨b, o, s⟩ := a
    have each : ∀ i, i < N → ∃ (B : Option Addr) (q d : Nat) (ps : List Pb) (em ar ag : Nat) (K : Option Addr) (kq kd : Nat) (ks : List Bool), em < 256 ∧ ar < 256 ∧ ag < 256 ∧ Parts w B q ps ∧ ks.length = kq ∧ Sees w w.heap.size K (cl ks) ∧ ∀ j u, (life8 B q d em ar ag K kq kd)[j]? = some u → w.cell? (Addr.add ⟨b, o, s⟩ (i * 5 + j)) = some u := fun i hiN => by
      obtain ⟨cs', hc, ht⟩ := hi i (by omega)
      rw [hC] at hc
      obtain ⟨B, q, d, ps, em, ar, ag, K, kq, kd, ks, rfl, ha, hb, hg, hps, hq, hs⟩ := life8_of ht
      obtain ⟨_, _, hat⟩ := World.cells?_some hc
      refine ⟨B, q, d, ps, em, ar, ag, K, kq, kd, ks, ha, hb, hg, hps, hq, hs, fun j u hu => ?_⟩
      have hj : j < 5 := (List.getElem?_eq_some_iff.1 hu).1
      rw [← Deep.add_add, hat j hj, hu]
    intro i hiN
    obtain ⟨_, _, _, _, _, _, _, _, _, _, _, _, _, _, _, _, _, each0⟩ := each 0 (by omega)
    have h00 := each0 0 _ rfl
    have hs0 : s = none := by simpa [Addr.add] using World.cell?_spot h00
    obtain ⟨B, q, d, ps, em, ar, ag, K, kq, kd, ks, ha, hb, hg, hps, hq, hs, each⟩ := each i hiN
    have h0 := each 0 _ rfl
    subst hs0
    simp only [Addr.add_lit] at each
    rw [Nat.add_zero, Addr.add_lit] at h0
    exact ⟨b, o, rfl, World.block_lt_of_cell? _ _ h0, B, q, d, ps, em, ar, ag, K, kq, kd, ks, ha, hb, hg, fun j u hj => by rw [Nat.add_assoc]; exact each j u hj, hps, hq, hs⟩
end
end Go.Proofs.Ytpdfalgjmeagjaa
