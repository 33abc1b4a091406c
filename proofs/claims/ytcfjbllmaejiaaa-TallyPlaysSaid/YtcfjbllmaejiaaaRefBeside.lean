/-
  A flash beside the document's own one: both are the same flash; what is left of that behind a call of both.
-/
import Derived.Test.YtcfjbllmaejiaaaRefNors
import Derived.Test.YtcfjbllmaejiaaaFlOk
namespace Go.Proofs.Ytcfjbllmaejiaaa
open Go.RowKit
set_option linter.unusedVariables false

theorem Fresh.butN {w w' : World} {base : Nat} {e : TypeId} {gb p b n c : Nat} {xs : List Value} (h : Fresh base e w (some ⟨gb, 0, none⟩) n c xs) (x : But p b w w') (h1 : gb ≠ p) (h2 : gb ≠ b) : Fresh base e w' (some ⟨gb, 0, none⟩) n c xs := by
  refine ⟨h.1, ?_⟩
  rcases h.2 with h3 | ⟨g', cap, cur, hv, hg, hh, hr⟩
  · exact .inl h3
  · have e : gb = g' := by
      simp only [Value.slice.injEq, Option.some.injEq, Addr.mk.injEq] at hv
      exact hv.1.1
    subst e
    exact .inr ⟨gb, cap, cur, hv, hg, by rw [x.keep gb (Array.getElem?_eq_some_iff.1 hh).1 h1 h2]; exact hh, hr⟩
/-- The flash (p, b) and the document's own one, in the box g with its words in gb. -/
structure Beside (W w : World) (p b g gb c : Nat) (S : Fl) : Prop where
  nor : NorAt W.heap.size w p b S
  box : Fresh W.heap.size 30 w (some ⟨g, 0, none⟩) 5 5 (S.rL (some ⟨gb, 0, none⟩) c)
  row : Fresh W.heap.size 75 w (some ⟨gb, 0, none⟩) (64 * S.n) c (cw S.ws)
  cap : 64 * S.n ≤ c
  n1 : 1 ≤ S.n
  gp : gb ≠ p
  gbb : gb ≠ b
  gg : gb ≠ g
  hp : g ≠ p
  hb : g ≠ b
  below : Below W.heap.size W w
section
variable {W w w1 w2 w3 : World} {p b g gb c c3 : Nat} {S T : Fl}
theorem RnAt.of_row (h : Fresh W.heap.size 75 w (some ⟨gb, 0, none⟩) (64 * S.n) c (cw S.ws)) (hn : S.n ≤ 1024) (hc : 64 * S.n ≤ c) : RnAt w (some ⟨gb, 0, none⟩) c S := ⟨h.sees, by simpa using h.len, hn, hc⟩
theorem Beside.rn (h : Beside W w p b g gb c S) : RnAt w (some ⟨gb, 0, none⟩) c S := RnAt.of_row h.row h.nor.n_le h.cap
theorem Beside.step (h : Beside W w p b g gb c S) (x : Below w.heap.size w w1) : Beside W w1 p b g gb c S :=
  ⟨h.nor.below x, h.box.below x, h.row.below x, h.cap, h.n1, h.gp, h.gbb, h.gg, h.hp, h.hb, Below.then_ h.below x⟩
/-- Behind the flash's own call, ahead of the document's. -/
theorem Beside.half (h : Beside W w p b g gb c S) (x : But p b w w1) : Fresh W.heap.size 30 w1 (some ⟨g, 0, none⟩) 5 5 (S.rL (some ⟨gb, 0, none⟩) c) ∧ RnAt w1 (some ⟨gb, 0, none⟩) c S ∧ Below W.heap.size W w1 ∧ p < w1.heap.size ∧ b < w1.heap.size ∧ g < w1.heap.size ∧ W.heap.size ≤ g := by
  obtain ⟨hp, hb, hp2, hb2⟩ := h.nor.lt
  have hg := h.box.lt_size
  have hs := x.size
  obtain ⟨_, hgg, _, _⟩ := h.box.spot_ (by omega)
  have : W.heap.size ≤ g := by
    obtain ⟨g', e, q, _⟩ := h.box.spot_ (by omega)
    obtain rfl : g = g' := by simpa using e
    exact q
  exact ⟨h.box.butN x h.hp h.hb, RnAt.of_row (h.row.butN x h.gp h.gbb) h.nor.n_le h.cap, h.below.trans (x.below hp2 hb2 h.below.size), by omega, by omega, by omega, this⟩
/-- Behind both calls, and the store of what the document's call told. -/
theorem Beside.then_ (h : Beside W w p b g gb c S) (x : But p b w w1) (hN : NorAt W.heap.size w1 p b T) (hn : T.n = S.n) {B : Option Addr} (hT : RnTo w1 w2 (some ⟨gb, 0, none⟩) B c c3 S T) (y : Below w1.heap.size w1 w2)
    (hF : Fresh W.heap.size 30 w3 (some ⟨g, 0, none⟩) 5 5 (T.rL B c3)) (ho : ∀ k, k ≠ g → w3.heap[k]? = w2.heap[k]?) (hB : Below W.heap.size W w3) : ∃ gb2, B = some ⟨gb2, 0, none⟩ ∧ Beside W w3 p b g gb2 c3 T := by
  obtain ⟨_, _, hBw, lp, lb, lg, hWg⟩ := h.half x
  have hN2 := hN.below y
  have hW1 := hBw.size
  have hN3 : NorAt W.heap.size w3 p b T := ⟨hN2.obj.other (Ne.symm h.hp) ho, hN2.row.other (Ne.symm h.hb) ho, hN2.ne, hN2.n_le, hN2.left_le⟩
  have hcap := hT.at_.cap
  have hn1 : 1 ≤ T.n := by rw [hn]; exact h.n1
  rcases hT.from_ with ⟨rfl, rfl, hw, -⟩ | hR
  · refine ⟨gb, rfl, hN3, hF, ?_, hcap, hn1, h.gp, h.gbb, h.gg, h.hp, h.hb, hB⟩
    have := ((h.row.butN x h.gp h.gbb).below y).otherC h.gg ho
    rw [hn, hw]
    exact this
  · obtain ⟨gb2, rfl, q1, q2⟩ := hR.spot_ (by omega)
    have n3 : gb2 ≠ g := by omega
    exact ⟨gb2, rfl, hN3, hF, (hR.lower hW1).otherC n3 ho, hcap, hn1, by omega, by omega, n3, h.hp, h.hb, hB⟩
theorem arm_to (h : RnAt w1 (some ⟨gb, 0, none⟩) c S) (y : Below w1.heap.size w1 w2) (k : Int) (hT : S.arm k = T) : RnTo w1 w2 (some ⟨gb, 0, none⟩) (some ⟨gb, 0, none⟩) c c S T := by
  obtain ⟨e1, e2⟩ : T.ws = S.ws ∧ T.n = S.n := by
    rw [← hT]
    unfold Fl.arm
    split <;> exact ⟨rfl, rfl⟩
  have h2 := h.step y
  exact ⟨⟨by rw [e1]; exact h2.sees, by rw [e1, e2]; exact h2.len, by rw [e2]; exact h2.n_le, by rw [e2]; exact h2.cap⟩, .inl ⟨rfl, rfl, e1, e2⟩⟩
end
end Go.Proofs.Ytcfjbllmaejiaaa
