/-
  One element more, put behind a slice of this call's own.
-/
import Derived.Test.YtangblcfdboghaaArr
namespace Go.Proofs.Ytangblcfdboghaa
open Go.RowKit
set_option linter.unusedVariables false

/-- One element more. -/
theorem wpList_one {P : Program} {w : World} {ops : Array Oper} {rest : List Oper} {o : Oper} {a : Act} {Q : Exit → Act → World → Prop} (hg : o.guard = none) (s x : Operand) (T e : TypeId) (z : Value) (by_ : Nat)
    (hop : o.op = .call { callee := .builtin .append, args := #[s, x], argTypes := #[T, T] }) (hT : P.underlying T = some (.slice e)) (hI : (P.info? e).map (fun i => (i.zero, i.size, i.bytes)) = some (some z, 1, by_)) (hz : z.cells.size = 1) (hby : by_ ≤ 64)
    (D : Option Addr) (n c g : Nat) (cur : List Value) (u : Value) (w0 : World) (hs : a.eval s = .slice D n c) (hx : a.eval x = .slice (some ⟨g, 0, none⟩) 1 1) (hF : Fresh w0.heap.size e w D n c cur) (hc : w.cell? ⟨g, 0, none⟩ = some u) (h1 : u.oneCell' = true) (hn : n ≤ 1000000) (hb : Below w0.heap.size w0 w)
    (hK : ∀ A' c' w', Fresh w0.heap.size e w' A' (n + 1) c' (cur ++ [u]) → Below w0.heap.size w0 w' → w.grownBy w' (Value.slice D n c).ownBlock → wpList P ops Q rest (a.put o.dst (.slice A' (n + 1) c')) w') :
    wpList P ops Q (o :: rest) a w := by
  obtain ⟨i0, hi, h2⟩ := Option.map_eq_some_iff.1 hI
  simp only [Prod.mk.injEq] at h2
  obtain ⟨hz0, hz1, hz2⟩ := h2
  refine wpList_append_own w hg s x T hop w0.heap.size e i0 z 1 by_ hT hi hz0 hz1 hz2 hz (by omega) _ n cur hs hF ⟨g, 0, none⟩ 1 1 [u] hx (by simp) (fun j v hj => ?_) (by simpa using h1) (by unfold maxLen; omega) ?_ hb.size ?_
  · rcases j with _ | j
    · simp at hj
      subst hj
      exact hc
    · simp at hj
  · have : (n + 1) * by_ ≤ (n + 1) * 64 := Nat.mul_le_mul_left _ hby
    omega
  · intro v' w' hown hgr hnil
    have hB : Below w0.heap.size w0 w' := hb.grown hgr hb.size (fun k hk => (hF.lt k hk).1)
    rcases hown.2 with ⟨rfl, h0⟩ | ⟨g', cap, cu, rfl, _⟩
    · simp at h0
    · exact hK _ cap w' hown hB hgr
/-- Blocks of unlike elements are unlike. -/
theorem fresh_unlike {w : World} {b1 b2 : Nat} {e1 e2 : TypeId} {A B : Option Addr} {n m c d : Nat} {xs ys : List Value} (h : Fresh b1 e1 w A n c xs) (k : Fresh b2 e2 w B m d ys) (hne : e1 ≠ e2) : (Value.slice A n c).ownBlock = none ∨ (Value.slice A n c).ownBlock ≠ (Value.slice B m d).ownBlock := by
  rcases h.2 with ⟨hv, _⟩ | ⟨g, cap, cur, hv, _, hg, _⟩
  · left; rw [hv]; rfl
  · rcases k.2 with ⟨kv, _⟩ | ⟨q, cap2, cur2, kv, _, kg, _⟩
    · right; rw [hv, kv]; simp [Value.ownBlock]
    · right
      rw [hv, kv]
      simp only [Value.ownBlock, ne_eq, Option.some.injEq]
      rintro rfl
      rw [hg] at kg
      simp at kg
      exact hne kg.2
end Go.Proofs.Ytangblcfdboghaa
