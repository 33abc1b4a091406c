/-
  A statement of Read that reads numbers and puts one thing more behind a list of the program: what is known of the world between its operations, in whatever order.
-/
import Derived.Test.YtangblcfdboghaaCodeReadSt
import Derived.Test.YtangblcfdboghaaRegionJKL
namespace Go.Proofs.Ytangblcfdboghaa
open Go.RowKit
set_option linter.unusedVariables false

theorem setNeR (listed : Array Bool) (i j : Nat) (h : i ≠ j) : (listed.setIfInBounds i true).getD j false = listed.getD j false := by
  simp [Array.getD_eq_getD_getElem?, h]
theorem setEqR {listed : Array Bool} {i : Nat} (h : listed.getD i true = false) : (listed.setIfInBounds i true).getD i false = true := by
  rcases Nat.lt_or_ge i listed.size with h1 | h1
  · simp [h1]
  · simp [Array.getElem?_eq_none h1] at h
theorem falseR {listed : Array Bool} {i : Nat} (h : listed.getD i true = false) : listed.getD i false = false := by
  rcases Nat.lt_or_ge i listed.size with h1 | h1
  · simp [h1] at h ⊢
    exact h
  · simp [Array.getElem?_eq_none h1] at h
theorem putNeR (a : Act) (t s : Nat) (v : Value) (h : t ≠ s) : (a.put (some t) v).tmps[s]? = a.tmps[s]? := by
  simp [Act.put, h]
theorem putEqR (a : Act) (t : Nat) (v : Value) (h : t < a.tmps.size) : (a.put (some t) v).tmps[t]? = some v := by
  simp [Act.put, h]
theorem row_keepT {base : Nat} {e : TypeId} {sz : Nat} {w w' : World} {v : Value} {n : Nat} {xs : List Value} (h : w.ownsRow base e sz v n xs) (k : KeepT e w w') : w'.ownsRow base e sz v n xs := by
  refine ⟨h.1, ?_⟩
  rcases h.2 with hn | ⟨g, cap, cur, hv, hbg, hg, rest⟩
  · exact .inl hn
  · exact .inr ⟨g, cap, cur, hv, hbg, by rw [k g _ _ hg]; exact hg, rest⟩
theorem row_block {base : Nat} {e : TypeId} {sz : Nat} {w : World} {A : Option Addr} {n c : Nat} {xs : List Value} (h : w.ownsRow base e sz (.slice A n c) n xs) : ∀ g, (Value.slice A n c).ownBlock = some g → base ≤ g ∧ ∃ ys fz, w.heap[g]? = some (.cells ys e fz) := by
  intro g hg
  rcases h.2 with ⟨hv, _⟩ | ⟨g', cap, cur, hv, hbg, hh, _⟩
  · rw [hv] at hg; cases hg
  · rw [hv] at hg
    simp only [Value.ownBlock, Option.some.injEq] at hg
    subst hg
    exact ⟨hbg, _, _, hh⟩
/-- One element put behind a row of this call's own, as a step of a drawn region. -/
theorem stepL_app {P : Program} {ops : Array Oper} {Q : Exit → Act → World → Prop} {pr : Nat → Value → World → Prop} {J : Array Bool → Act → World → Prop} {a : Act} {w : World} {listed : Array Bool} {o : Oper} {i : Nat}
    (hg : o.guard = none) (s x : Operand) (T e : TypeId) (z : Value) (sz by_ : Nat) (hop : o.op = .call { callee := .builtin .append, args := #[s, x], argTypes := #[T, T] }) (hT : P.underlying T = some (.slice e)) (hI : (P.info? e).map (fun i => (i.zero, i.size, i.bytes)) = some (some z, sz, by_)) (hz : z.cells.size = sz) (hz0 : 0 < sz) (hby : by_ ≤ 64)
    (base : Nat) (D : Option Addr) (n c g : Nat) (cur news : List Value) (hs : a.eval s = .slice D n c) (hx : a.eval x = .slice (some ⟨g, 0, none⟩) 1 1) (hF : w.ownsRow base e sz (.slice D n c) n cur) (hc : ∀ j u, news[j]? = some u → w.cell? ⟨g, j, none⟩ = some u) (hl : news.length = sz) (h1 : ∀ u ∈ news, u.oneCell' = true) (hn : n ≤ 1000000) (hb : base ≤ w.heap.size)
    (hp : ∀ v w', pr i v w') (hst : ∀ j u w', pr j u w → pr j u w')
    (hJ : ∀ A' c' w', w'.ownsRow base e sz (.slice A' (n + 1) c') (n + 1) (cur ++ news) → w.grownBy w' (Value.slice D n c).ownBlock → J (listed.setIfInBounds i true) (a.put o.dst (.slice A' (n + 1) c')) w') : StepL P Q pr J i o listed a w := by
  obtain ⟨i0, hi, h2⟩ := Option.map_eq_some_iff.1 hI
  simp only [Prod.mk.injEq] at h2
  obtain ⟨h20, h21, h22⟩ := h2
  refine ⟨hg, ?_⟩
  refine wp_append_own w s x T hop base e i0 z sz by_ hT hi h20 h21 h22 hz hz0 _ n cur hs hF ⟨g, 0, none⟩ 1 1 news hx (by rw [hl]; omega) (fun j v hj => ?_) h1 (by unfold maxLen; omega) ?_ hb ?_
  · have := hc j v hj
    rw [Addr.add_lit, Nat.zero_add]
    exact this
  · have : (n + 1) * by_ ≤ (n + 1) * 64 := Nat.mul_le_mul_left _ hby
    omega
  · intro v' w' hown hgr hnil
    rcases hown.2 with ⟨rfl, h0⟩ | ⟨g', cap, cu, rfl, _⟩
    · omega
    · exact ⟨_, rfl, hp _ _, hJ _ cap w' hown hgr, fun j u h => hst j u w' h⟩

/-- What does not change while a statement adds one thing: the captured variables, the program's list and its block. -/
structure RegC where
  base : Nat
  gb : Nat
  ga : Nat
  gt : Nat
  gn : Nat
  gc : Nat
  gr : Nat
  w0 : World
  A : Option Addr
  n : Nat
  c : Nat
  l : List UInt8
  T : TypeId
  sz : Nat
  D : Option Addr
  nD : Nat
  cD : Nat
  cur : List Value
  news : List Value
  old : List Value
  fld : Nat
  iB : Nat
  sB : Nat
  iA : Nat
  sA : Nat
  iS : Nat
  R : World → Prop
/-- Which kinds of elements the statement never writes. -/
structure RegC.Fit (C : RegC) : Prop where
  t : C.T ≠ 27 ∧ C.T ≠ 3 ∧ C.T ≠ 4 ∧ C.T ≠ 81 ∧ C.T ≠ 26
  r : ∀ w w', (∀ e, e ≠ C.T → e ≠ 26 → e ≠ 3 → e ≠ 4 → KeepT e w w') → C.R w → C.R w'
  ne : C.gr ≠ C.gc
  iBA : C.iB ≠ C.iA
  iBS : C.iB ≠ C.iS
  iAS : C.iA ≠ C.iS
  sBA : C.sB ≠ C.sA
def RegJ (C : RegC) (st : Array Bool → Rs) (listed : Array Bool) (a : Act) (w : World) : Prop :=
  RdAt C.base C.gb C.ga C.gt w C.A C.n C.c C.l (st listed) ∧ Fresh C.base 81 w (some ⟨C.gn, 0, none⟩) 1 1 [numV C.gb C.ga C.gt] ∧ Fresh C.base 26 w (some ⟨C.gr, 0, none⟩) 4 4 noCells ∧ C.R w ∧ Below C.base C.w0 w ∧
  (listed.getD C.iA false = true → listed.getD C.iB false = true) ∧ (listed.getD C.iS false = true → listed.getD C.iA false = true) ∧ (listed.getD C.iS false = true → listed.getD 1 false = true) ∧
  (listed.getD C.iA false = false → w.ownsRow C.base C.T C.sz (.slice C.D C.nD C.cD) C.nD C.cur ∧ Fresh C.base 26 w (some ⟨C.gc, 0, none⟩) 4 4 C.old ∧
    (listed.getD C.iB false = true → ∃ g, a.tmps[C.sB]? = some (.slice (some ⟨g, 0, none⟩) 1 1) ∧ w.heap[g]? = some (.cells C.news.toArray C.T (0, 0)) ∧ (Value.slice C.D C.nD C.cD).ownBlock ≠ some g)) ∧
  (listed.getD C.iA false = true → ∃ A' c', a.tmps[C.sA]? = some (.slice A' (C.nD + 1) c') ∧ w.ownsRow C.base C.T C.sz (.slice A' (C.nD + 1) c') (C.nD + 1) (C.cur ++ C.news) ∧ Fresh C.base 26 w (some ⟨C.gc, 0, none⟩) 4 4 (cond (listed.getD C.iS false) (C.old.set C.fld (.slice A' (C.nD + 1) c')) C.old))
section
variable {C : RegC} {st : Array Bool → Rs} {listed : Array Bool} {a : Act} {w w' : World}
/-- An operation that reads, or a call that moves the place. -/
theorem RegJ.turn (h : RegJ C st listed a w) (F : C.Fit) (i t : Nat) (v : Value) (hB : i ≠ C.iB) (hA : i ≠ C.iA) (hS : i ≠ C.iS) (tB : t ≠ C.sB) (tA : t ≠ C.sA) (k : But2 C.ga C.gt w w') (hr : RdAt C.base C.gb C.ga C.gt w' C.A C.n C.c C.l (st (listed.setIfInBounds i true))) : RegJ C st (listed.setIfInBounds i true) (a.put (some t) v) w' := by
  obtain ⟨j1, j2, j3, j4, j5, o1, o2, o3, j6, j7⟩ := h
  have K : ∀ e, e ≠ 3 → e ≠ 4 → KeepT e w w' := fun e n1 n2 => KeepT.of_but2 k j1.at_ j1.there n1 n2
  have hBw : Below C.base w w' := k.below j1.at_.block.2 j1.there.block.2 j1.hbase
  unfold RegJ
  rw [setNeR _ _ _ hA, setNeR _ _ _ hB, setNeR _ _ _ hS, putNeR _ _ _ _ tB, putNeR _ _ _ _ tA]
  refine ⟨hr, j2.keepT (K _ (by decide) (by decide)), j3.keepT (K _ (by decide) (by decide)), F.r w w' (fun e _ _ n1 n2 => K e n1 n2) j4, j5.trans hBw, o1, o2, fun q => ?_, fun q => ?_, fun q => ?_⟩
  · by_cases e1 : i = 1
    · subst e1
      simp only [Array.getD_eq_getD_getElem?]
      have := o3 q
      rcases Nat.lt_or_ge 1 listed.size with h1 | h1
      · simp [h1]
      · simp [Array.getElem?_eq_none h1] at this
    · rw [setNeR _ _ _ e1]
      exact o3 q
  · obtain ⟨r1, r2, r3⟩ := j6 q
    refine ⟨row_keepT r1 (K _ F.t.2.1 F.t.2.2.1), r2.keepT (K _ (by decide) (by decide)), fun q2 => ?_⟩
    obtain ⟨g, g1, g2, g3⟩ := r3 q2
    exact ⟨g, g1, (K _ F.t.2.1 F.t.2.2.1 g _ _ g2).trans g2, g3⟩
  · obtain ⟨A', c', r1, r2, r3⟩ := j7 q
    exact ⟨A', c', r1, row_keepT r2 (K _ F.t.2.1 F.t.2.2.1), r3.keepT (K _ (by decide) (by decide))⟩
theorem RegJ.read (h : RegJ C st listed a w) (F : C.Fit) (i t : Nat) (v : Value) (hB : i ≠ C.iB) (hA : i ≠ C.iA) (hS : i ≠ C.iS) (tB : t ≠ C.sB) (tA : t ≠ C.sA) (hst : st (listed.setIfInBounds i true) = st listed) : RegJ C st (listed.setIfInBounds i true) (a.put (some t) v) w :=
  h.turn F i t v hB hA hS tB tA (But2.refl _ _ _) (by rw [hst]; exact h.1)
/-- Ahead of the append the list is what it was. -/
theorem RegJ.before (h : RegJ C st listed a w) (F : C.Fit) (h1 : listed.getD 1 true = false) : Fresh C.base 26 w (some ⟨C.gc, 0, none⟩) 4 4 C.old := by
  obtain ⟨_, _, _, _, _, o1, o2, o3, j6, j7⟩ := h
  have hs : listed.getD C.iS false = false := by
    cases e : listed.getD C.iS false
    · rfl
    · have := o3 e
      rw [falseR h1] at this
      cases this
  cases e : listed.getD C.iA false
  · exact (j6 e).2.1
  · obtain ⟨A', c', _, _, r3⟩ := j7 e
    rw [hs] at r3
    exact r3
theorem RegJ.built (h : RegJ C st listed a w) (F : C.Fit) (h1 : listed.getD C.iB true = false) (ha : C.sB < a.tmps.size) (hl : C.news.length = C.sz) (hst : st (listed.setIfInBounds C.iB true) = st listed) (h1i : C.iB ≠ 1) :
    RegJ C st (listed.setIfInBounds C.iB true) (a.put (some C.sB) (.slice (some ⟨w.heap.size, 0, none⟩) 1 1)) (w.alloc (.cells C.news.toArray C.T (0, 0))) := by
  obtain ⟨j1, j2, j3, j4, j5, o1, o2, o3, j6, j7⟩ := h
  have hBw : Below w.heap.size w (w.alloc (.cells C.news.toArray C.T (0, 0))) := below_alloc _ _
  have eA : listed.getD C.iA false = false := by
    cases e : listed.getD C.iA false
    · rfl
    · have := o1 e
      rw [falseR h1] at this
      cases this
  have eS : listed.getD C.iS false = false := by
    cases e : listed.getD C.iS false
    · rfl
    · have := o2 e
      rw [eA] at this
      cases this
  unfold RegJ
  rw [setNeR _ _ _ F.iBA, setNeR _ _ _ F.iBS, setEqR h1, putEqR _ _ _ ha, hst, eA, eS]
  obtain ⟨r1, r2, r3⟩ := j6 eA
  refine ⟨j1.below hBw, j2.below hBw, j3.below hBw, F.r _ _ (fun e _ _ _ _ => KeepT.of_below hBw) j4, j5.trans (hBw.mono j1.hbase), fun q => (by cases q), fun q => (by cases q), fun q => (by cases q), fun _ => ⟨row_keepT r1 (KeepT.of_below hBw), r2.below hBw, fun _ => ⟨w.heap.size, rfl, heap_alloc_new _ _, fun e => ?_⟩⟩, fun q => (by cases q)⟩
  obtain ⟨_, ys, fz, hy⟩ := row_block r1 _ e
  exact absurd (Array.getElem?_eq_some_iff.1 hy).1 (Nat.lt_irrefl _)
theorem RegJ.added (h : RegJ C st listed a w) (F : C.Fit) (h1 : listed.getD C.iA true = false) (hb : listed.getD C.iB false = true) (ha : C.sA < a.tmps.size) (hst : st (listed.setIfInBounds C.iA true) = st listed) {A' : Option Addr} {c' : Nat}
    (hown : w'.ownsRow C.base C.T C.sz (.slice A' (C.nD + 1) c') (C.nD + 1) (C.cur ++ C.news)) (hgr : w.grownBy w' (Value.slice C.D C.nD C.cD).ownBlock) :
    RegJ C st (listed.setIfInBounds C.iA true) (a.put (some C.sA) (.slice A' (C.nD + 1) c')) w' := by
  obtain ⟨j1, j2, j3, j4, j5, o1, o2, o3, j6, j7⟩ := h
  have eA := falseR h1
  have eS : listed.getD C.iS false = false := by
    cases e : listed.getD C.iS false
    · rfl
    · have := o2 e
      rw [eA] at this
      cases this
  obtain ⟨r1, r2, _⟩ := j6 eA
  have K : ∀ e, e ≠ C.T → KeepT e w w' := fun e he => KeepT.of_grown hgr (fun q hq => by
    obtain ⟨_, ys, fz, hy⟩ := row_block r1 q hq
    exact ⟨ys, C.T, fz, hy, he⟩)
  have hB : Below C.base w w' := ⟨hgr.os, hgr.tape, hgr.output, hgr.size, fun k hk => hgr.block k (Nat.lt_of_lt_of_le hk j1.hbase) (fun e => by
    have := (row_block r1 k e.symm).1
    omega)⟩
  unfold RegJ
  rw [setEqR h1, setNeR _ _ _ F.iBA.symm, setNeR _ _ _ F.iAS, putEqR _ _ _ ha, hst, eS, hb]
  refine ⟨j1.keepT (K _ (fun e => F.t.1 e.symm)) (K _ (fun e => F.t.2.1 e.symm)) (K _ (fun e => F.t.2.2.1 e.symm)) hB, j2.keepT (K _ (fun e => F.t.2.2.2.1 e.symm)), j3.keepT (K _ (fun e => F.t.2.2.2.2 e.symm)), F.r _ _ (fun e he _ _ _ => K e he) j4, j5.trans hB, fun _ => rfl, fun q => (by cases q), fun q => (by cases q), fun q => (by cases q), fun _ => ⟨A', c', rfl, hown, r2.keepT (K _ (fun e => F.t.2.2.2.2 e.symm))⟩⟩
theorem RegJ.stored (h : RegJ C st listed a w) (F : C.Fit) (h1 : listed.getD C.iS true = false) (ha : listed.getD C.iA false = true) (hone : listed.getD 1 false = true) (hst : st (listed.setIfInBounds C.iS true) = st listed) {A' : Option Addr} {c' : Nat} (hv : a.tmps[C.sA]? = some (.slice A' (C.nD + 1) c')) :
    RegJ C st (listed.setIfInBounds C.iS true) a (w.setCell ⟨C.gc, C.fld, none⟩ (.slice A' (C.nD + 1) c')) := by
  obtain ⟨j1, j2, j3, j4, j5, o1, o2, o3, j6, j7⟩ := h
  obtain ⟨A2, c2, r1, r2, r3⟩ := j7 ha
  rw [falseR h1] at r3
  have e0 : A2 = A' ∧ c2 = c' := by
    rw [r1] at hv
    simp at hv
    exact hv
  obtain ⟨rfl, rfl⟩ := e0
  have ho : ∀ k, k ≠ C.gc → (w.setCell ⟨C.gc, C.fld, none⟩ (.slice A2 (C.nD + 1) c2)).heap[k]? = w.heap[k]? := fun k hk => heap_setCell_other w _ k _ hk
  have K : ∀ e, e ≠ 26 → KeepT e w (w.setCell ⟨C.gc, C.fld, none⟩ (.slice A2 (C.nD + 1) c2)) := fun e he => KeepT.of_other r3.block.1 he ho
  have hB : Below C.base w (w.setCell ⟨C.gc, C.fld, none⟩ (.slice A2 (C.nD + 1) c2)) := (Below.refl _ _).setCell r3.block.2 _
  unfold RegJ
  rw [setEqR h1, setNeR _ _ _ F.iAS.symm, setNeR _ _ _ F.iBS.symm, ha, hst, hv]
  have e1 : (listed.setIfInBounds C.iS true).getD 1 false = true := by
    by_cases e : C.iS = 1
    · rw [← e, setEqR h1]
    · rw [setNeR _ _ _ e, hone]
  refine ⟨j1.keepT (K _ (by decide)) (K _ (by decide)) (K _ (by decide)) hB, j2.keepT (K _ (by decide)), j3.other F.ne ho, F.r _ _ (fun e _ he _ _ => K e he) j4, j5.trans hB, fun _ => o1 ha, fun _ => rfl, fun _ => e1, fun q => (by cases q), fun _ => ⟨A2, c2, rfl, row_keepT r2 (K _ F.t.2.2.2.2), r3.store C.fld _⟩⟩
end
end Go.Proofs.Ytangblcfdboghaa
