/-
  Slices of things of four cells in memory of this call's own; blocks told apart by the type of what they hold.
-/
import Derived.Test.YtangblcfdboghaaCodeReadNum
namespace Go.Proofs.Ytangblcfdboghaa
open Go.RowKit
set_option linter.unusedVariables false

/-- Blocks of such elements are as they were. -/
def KeepT (e : TypeId) (w w' : World) : Prop := ∀ (k : Nat) (xs : Array Value) (fz : Nat × Nat), w.heap[k]? = some (.cells xs e fz) → w'.heap[k]? = w.heap[k]?
theorem KeepT.refl (e : TypeId) (w : World) : KeepT e w w := fun _ _ _ _ => rfl
theorem KeepT.then_ {e : TypeId} {a b c : World} (h : KeepT e a b) (k : KeepT e b c) : KeepT e a c := fun j xs fz hj => by
  have h1 := h j xs fz hj
  exact (k j xs fz (h1.trans hj)).trans h1
theorem KeepT.of_below {e : TypeId} {w w' : World} (h : Below w.heap.size w w') : KeepT e w w' := fun k xs fz hk => h.block k (Array.getElem?_eq_some_iff.1 hk).1
theorem KeepT.of_other {e : TypeId} {w w' : World} {g : Nat} {t : TypeId} {ys : Array Value} {fz' : Nat × Nat} (hg : w.heap[g]? = some (.cells ys t fz')) (hne : e ≠ t) (h : ∀ k, k ≠ g → w'.heap[k]? = w.heap[k]?) : KeepT e w w' := fun k xs fz hk => by
  refine h k (fun e1 => ?_)
  rw [e1, hg] at hk
  simp at hk
  exact hne hk.2.1.symm
theorem KeepT.of_grown {e : TypeId} {w w' : World} {row : Option Nat} (hg : w.grownBy w' row) (hr : ∀ g, row = some g → ∃ ys t fz, w.heap[g]? = some (.cells ys t fz) ∧ e ≠ t) : KeepT e w w' := fun k xs fz hk => by
  refine hg.block k (Array.getElem?_eq_some_iff.1 hk).1 (fun e1 => ?_)
  obtain ⟨ys, t, fz', h1, h2⟩ := hr k e1.symm
  rw [h1] at hk
  simp at hk
  exact h2 hk.2.1.symm
theorem KeepT.of_but2 {e : TypeId} {w w' : World} {ga gt base b1 : Nat} {u v : Value} (h : But2 ga gt w w') (h1 : Fresh base 3 w (some ⟨ga, 0, none⟩) 1 1 [u]) (h2 : Fresh b1 4 w (some ⟨gt, 0, none⟩) 1 1 [v]) (n1 : e ≠ 3) (n2 : e ≠ 4) : KeepT e w w' := fun k xs fz hk => by
  refine h.keep k (Array.getElem?_eq_some_iff.1 hk).1 (fun e1 => ?_) (fun e1 => ?_)
  · rw [e1, h1.block.1] at hk
    simp at hk
    exact n1 hk.2.1.symm
  · rw [e1, h2.block.1] at hk
    simp at hk
    exact n2 hk.2.1.symm
theorem Fresh.keepT {base : Nat} {e : TypeId} {w w' : World} {A : Option Addr} {n c : Nat} {xs : List Value} (h : Fresh base e w A n c xs) (k : KeepT e w w') : Fresh base e w' A n c xs := by
  refine ⟨h.1, ?_⟩
  rcases h.2 with hn | ⟨g, cap, cur, hv, hbg, hg, rest⟩
  · exact .inl hn
  · exact .inr ⟨g, cap, cur, hv, hbg, by rw [k g _ _ hg]; exact hg, rest⟩

/-- A list of things of four cells in new memory. -/
def OwnQ {α : Type} (e : TypeId) (f : α → List Value) (base : Nat) (w : World) (A : Option Addr) (n c : Nat) (xs : List α) : Prop := w.ownsRow base e 4 (.slice A n c) n (quads f xs)
section
variable {α : Type} {e : TypeId} {f : α → List Value} {base : Nat} {w w' : World} {A : Option Addr} {n c : Nat} {xs : List α}
theorem OwnQ.nil : OwnQ e f base w none 0 0 [] := World.ownsRow_nil _ _ _ _
theorem OwnQ.len (hf : ∀ x, (f x).length = 4) (h : OwnQ e f base w A n c xs) : xs.length = n := by
  have h1 := h.1
  rw [len_quads hf] at h1
  omega
theorem OwnQ.cap (h : OwnQ e f base w A n c xs) : n ≤ c ∧ c ≤ maxLen := by
  rcases h.2 with ⟨hv, rfl⟩ | ⟨g, cap, cur, hv, _, _, hn, hm, _⟩
  · simp at hv
    obtain ⟨_, rfl⟩ := hv
    exact ⟨Nat.le_refl _, Nat.zero_le _⟩
  · simp at hv
    obtain ⟨_, rfl⟩ := hv
    exact ⟨hn, hm⟩
theorem OwnQ.sees (h : OwnQ e f base w A n c xs) : Sees w w.heap.size A (quads f xs) := fun hn => by
  rcases h.2 with ⟨hv, h0⟩ | ⟨g, cap, cur, hv, hb, hg, _, _, _, ht⟩
  · have := h.1
    rw [h0] at this
    omega
  · simp at hv
    obtain ⟨rfl, rfl⟩ := hv
    refine ⟨g, 0, rfl, (Array.getElem?_eq_some_iff.1 hg).1, fun j u hu => ?_⟩
    rw [Nat.zero_add, cell_of_row w g j cur _ (0, 0) hg]
    rw [← ht, List.getElem?_take] at hu
    split at hu
    · simpa using hu
    · cases hu
theorem OwnQ.keepT (h : OwnQ e f base w A n c xs) (k : KeepT e w w') : OwnQ e f base w' A n c xs := by
  refine ⟨h.1, ?_⟩
  rcases h.2 with hn | ⟨g, cap, cur, hv, hbg, hg, rest⟩
  · exact .inl hn
  · exact .inr ⟨g, cap, cur, hv, hbg, by rw [k g _ _ hg]; exact hg, rest⟩
theorem OwnQ.below (h : OwnQ e f base w A n c xs) (x : Below w.heap.size w w') : OwnQ e f base w' A n c xs := h.keepT (.of_below x)
theorem OwnQ.lower {b : Nat} (h : OwnQ e f base w A n c xs) (hb : b ≤ base) : OwnQ e f b w A n c xs := by
  refine ⟨h.1, ?_⟩
  rcases h.2 with hn | ⟨g, cap, cur, hv, hbg, rest⟩
  · exact .inl hn
  · exact .inr ⟨g, cap, cur, hv, by omega, rest⟩
/-- Its block holds such elements. -/
theorem OwnQ.block (h : OwnQ e f base w A n c xs) : ∀ g, (Value.slice A n c).ownBlock = some g → base ≤ g ∧ ∃ ys fz, w.heap[g]? = some (.cells ys e fz) := by
  intro g hg
  rcases h.2 with ⟨hv, _⟩ | ⟨g', cap, cur, hv, hbg, hh, _⟩
  · rw [hv] at hg; cases hg
  · rw [hv] at hg
    simp only [Value.ownBlock, Option.some.injEq] at hg
    subst hg
    exact ⟨hbg, _, _, hh⟩
end
theorem Fresh.blockT {base : Nat} {e : TypeId} {w : World} {A : Option Addr} {n c : Nat} {xs : List Value} (h : Fresh base e w A n c xs) : ∀ g, (Value.slice A n c).ownBlock = some g → base ≤ g ∧ ∃ ys fz, w.heap[g]? = some (.cells ys e fz) := by
  intro g hg
  rcases h.2 with ⟨hv, _⟩ | ⟨g', cap, cur, hv, hbg, hh, _⟩
  · rw [hv] at hg; cases hg
  · rw [hv] at hg
    simp only [Value.ownBlock, Option.some.injEq] at hg
    subst hg
    exact ⟨hbg, _, _, hh⟩

/-- One thing more, put behind a slice of this call's own. -/
theorem wpList_appQ {α : Type} {f : α → List Value} (hf : ∀ x, (f x).length = 4) (h1 : ∀ x, ∀ u ∈ f x, u.oneCell' = true) {P : Program} {w : World} {ops : Array Oper} {rest : List Oper} {o : Oper} {a : Act} {Q : Exit → Act → World → Prop} (hg : o.guard = none) (s x : Operand) (T e : TypeId) (z : Value) (by_ : Nat)
    (hop : o.op = .call { callee := .builtin .append, args := #[s, x], argTypes := #[T, T] }) (hT : P.underlying T = some (.slice e)) (hI : (P.info? e).map (fun i => (i.zero, i.size, i.bytes)) = some (some z, 4, by_)) (hz : z.cells.size = 4) (hby : by_ ≤ 64)
    (base : Nat) (A : Option Addr) (n c : Nat) (xs : List α) (y : α) (g : Nat) (hs : a.eval s = .slice A n c) (hx : a.eval x = .slice (some ⟨g, 0, none⟩) 1 1) (hF : OwnQ e f base w A n c xs) (hc : ∀ j u, (f y)[j]? = some u → w.cell? ⟨g, j, none⟩ = some u) (hn : n ≤ 1000000) (hb : base ≤ w.heap.size)
    (hK : ∀ A' c' w', OwnQ e f base w' A' (n + 1) c' (xs ++ [y]) → w.grownBy w' (Value.slice A n c).ownBlock → wpList P ops Q rest (a.put o.dst (.slice A' (n + 1) c')) w') :
    wpList P ops Q (o :: rest) a w := by
  obtain ⟨i0, hi, h2⟩ := Option.map_eq_some_iff.1 hI
  simp only [Prod.mk.injEq] at h2
  obtain ⟨hz0, hz1, hz2⟩ := h2
  refine wpList_append_own w hg s x T hop base e i0 z 4 by_ hT hi hz0 hz1 hz2 hz (by omega) _ n _ hs hF ⟨g, 0, none⟩ 1 1 (f y) hx (by rw [hf]) (fun j v hj => ?_) (h1 y) (by unfold maxLen; omega) ?_ hb ?_
  · have := hc j v hj
    rw [Addr.add_lit, Nat.zero_add]
    exact this
  · have : (n + 1) * by_ ≤ (n + 1) * 64 := Nat.mul_le_mul_left _ hby
    omega
  · intro v' w' hown hgr hnil
    rw [show quads f xs ++ f y = quads f (xs ++ [y]) from by simp [quads]] at hown
    rcases hown.2 with ⟨rfl, h0⟩ | ⟨g', cap, cu, rfl, _⟩
    · simp at h0
    · exact hK _ cap w' hown hgr
theorem infoVar : (Try.prog.info? 56).map (fun i => (i.zero, i.size, i.bytes)) = some (some (.agg (Vr.cells default).toArray), 4, 32) := by kernel_rfl
theorem infoIns : (Try.prog.info? 53).map (fun i => (i.zero, i.size, i.bytes)) = some (some (.agg (Jn.cells default).toArray), 4, 24) := by kernel_rfl
theorem infoKind : (Try.prog.info? 29).map (fun i => (i.zero, i.size, i.bytes)) = some (some (.int .u8 0), 1, 1) := by kernel_rfl
theorem run_bs1V (a b c d : Value) (w : World) : (Instr.buildSlice 22 1 #[(0, .agg #[a, b, c, d])]).run Try.prog w = .ok (.slice (some ⟨w.heap.size, 0, none⟩) 1 1) (w.alloc (.cells #[a, b, c, d] 56)) := by kernel_rfl
theorem run_bs1I (a b c d : Value) (w : World) : (Instr.buildSlice 24 1 #[(0, .agg #[a, b, c, d])]).run Try.prog w = .ok (.slice (some ⟨w.heap.size, 0, none⟩) 1 1) (w.alloc (.cells #[a, b, c, d] 53)) := by kernel_rfl
end Go.Proofs.Ytangblcfdboghaa
