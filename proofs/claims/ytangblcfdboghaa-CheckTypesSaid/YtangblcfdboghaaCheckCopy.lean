/-
  Programs copied: append onto a new row of instructions, one of them written anew; two lists of places held against each other.
-/
import Derived.Test.YtangblcfdboghaaCheckAwake
import Derived.Test.YtangblcfdboghaaCheckLawPure
namespace Go.Proofs.Ytangblcfdboghaa
open Go.RowKit
set_option linter.unusedVariables false
set_option linter.constructorNameAsVariable false

section
variable {P : Program} {ops : Array Oper} {Q : Exit → Act → World → Prop} {pr : Nat → Value → World → Prop} {o : Oper} {i : Nat} {a : Act} {w : World}
theorem stepOk_valK {v : Value} (hw : Region.wanted o (yielded ops a.tmps) = true) (hrun : (execOp a.eval o).run P w = .ok (.value v) w) (hp : pr i v w) : StepOk P ops Q pr i o a w := by
  unfold StepOk
  rw [if_pos hw]
  unfold Oper.wp
  rw [hrun]
  exact ⟨v, rfl, hp, Below.refl _ _⟩
end
theorem infoJ : (Try.prog.info? 53).map (fun i => (i.zero, i.size, i.bytes)) = some (some (.agg (Jn.cells default).toArray), 4, 24) := by kernel_rfl
/-- A list of instructions in a row of this call's own. -/
def OwnJ (base : Nat) (w : World) (A : Option Addr) (n c : Nat) (l : List Jn) : Prop := w.ownsRow base 53 4 (.slice A n c) n (jcs l)
section
variable {base : Nat} {w w' : World} {A : Option Addr} {n c : Nat} {l : List Jn}
theorem OwnJ.empty (w : World) : OwnJ w.heap.size (w.alloc (.cells #[] 53 (0, 0))) (some ⟨w.heap.size, 0, none⟩) 0 0 [] :=
  World.ownsRow_lit w #[] 0 (Nat.le_refl _) (by unfold maxLen; omega) rfl
theorem OwnJ.lower {b : Nat} (h : OwnJ base w A n c l) (hb : b ≤ base) : OwnJ b w A n c l := by
  refine ⟨h.1, ?_⟩
  rcases h.2 with hn | ⟨g, cap, cur, hv, hbg, rest⟩
  · exact .inl hn
  · exact .inr ⟨g, cap, cur, hv, by omega, rest⟩
theorem OwnJ.below (h : OwnJ base w A n c l) (x : Below w.heap.size w w') : OwnJ base w' A n c l := by
  refine ⟨h.1, ?_⟩
  rcases h.2 with hn | ⟨g, cap, cur, hv, hbg, hg, rest⟩
  · exact .inl hn
  · exact .inr ⟨g, cap, cur, hv, hbg, by rw [x.block g (Array.getElem?_eq_some_iff.1 hg).1]; exact hg, rest⟩
theorem OwnJ.len (h : OwnJ base w A n c l) : l.length = n := by
  have h1 := h.1
  rw [len_quads jn4] at h1
  omega
theorem OwnJ.cap (h : OwnJ base w A n c l) : n ≤ c ∧ c ≤ maxLen := by
  rcases h.2 with ⟨hv, rfl⟩ | ⟨g, cap, cur, hv, _, _, hn, hm, _⟩
  · simp at hv
    obtain ⟨_, rfl⟩ := hv
    exact ⟨Nat.le_refl _, Nat.zero_le _⟩
  · simp at hv
    obtain ⟨_, rfl⟩ := hv
    exact ⟨hn, hm⟩
theorem OwnJ.sees (h : OwnJ base w A n c l) : Sees w w.heap.size A (jcs l) := fun hn => by
  rcases h.2 with ⟨hv, h0⟩ | ⟨g, cap, cur, hv, hb, hg, _, _, _, ht⟩
  · have := h.1
    rw [h0] at this
    omega
  · simp at hv
    obtain ⟨rfl, rfl⟩ := hv
    refine ⟨g, 0, rfl, (Array.getElem?_eq_some_iff.1 hg).1, fun j u hu => ?_⟩
    rw [Nat.zero_add, cell_of_row w g j cur _ (0, 0) hg]
    rw [← ht, List.getElem?_take] at hu
    split at hu
    · simpa using hu
    · cases hu
theorem OwnJ.other {g : Nat} (h : OwnJ base w A n c l) (hg : g < base) (hk : ∀ k, k ≠ g → w'.heap[k]? = w.heap[k]?) : OwnJ base w' A n c l := by
  refine ⟨h.1, ?_⟩
  rcases h.2 with hn | ⟨g', cap, cur, hv, hbg, hgb, rest⟩
  · exact .inl hn
  · exact .inr ⟨g', cap, cur, hv, hbg, by rw [hk g' (by omega)]; exact hgb, rest⟩
theorem OwnJ.spot (h : OwnJ base w A n c l) (hn : 0 < n) : ∃ g, A = some ⟨g, 0, none⟩ ∧ base ≤ g ∧ g < w.heap.size := by
  rcases h.2 with ⟨hv, rfl⟩ | ⟨g, cap, cur, hv, hb, hg, _⟩
  · omega
  · simp only [Value.slice.injEq] at hv
    exact ⟨g, hv.1, hb, (Array.getElem?_eq_some_iff.1 hg).1⟩
theorem jn_ones (l : List Jn) : ∀ u ∈ jcs l, u.oneCell' = true := by
  intro u hu
  obtain ⟨j, _, hj⟩ := List.mem_flatMap.1 hu
  exact jn_one j u hj
/-- 'append(xs, ys...)', xs of this call's own. -/
theorem wpList_appJ {ops : Array Oper} {rest : List Oper} {o : Oper} {a : Act} {Q : Exit → Act → World → Prop} (hg : o.guard = none) (s x : Operand)
    (hop : o.op = .call { callee := .builtin .append, args := #[s, x], argTypes := #[24, 24] })
    (w0 : World) (B : Option Addr) (m d : Nat) (ys : List Jn) (hs : a.eval s = .slice A n c) (hx : a.eval x = .slice B m d) (hF : OwnJ w0.heap.size w A n c l) (hS : Sees w w.heap.size B (jcs ys)) (hm : ys.length = m) (hm0 : 0 < m) (hn : n + m ≤ 100000) (hb : Below w0.heap.size w0 w)
    (hK : ∀ A' c' w', OwnJ w0.heap.size w' A' (n + m) c' (l ++ ys) → Below w0.heap.size w0 w' → wpList Try.prog ops Q rest (a.put o.dst (.slice A' (n + m) c')) w') :
    wpList Try.prog ops Q (o :: rest) a w := by
  obtain ⟨i0, hi, hz0, hz1, hz2⟩ := info_parts infoJ
  obtain ⟨b, off, rfl, _, hc⟩ := hS (by rw [len_quads jn4]; omega)
  refine wpList_append_own w hg s x 24 hop w0.heap.size 53 i0 (.agg (Jn.cells default).toArray) 4 24 Try.underlying24 hi hz0 hz1 hz2 rfl (by omega) _ n (jcs l) hs hF ⟨b, off, none⟩ m d (jcs ys) hx (by rw [len_quads jn4, hm]; omega) (fun j v hj => by rw [Addr.add_lit]; exact hc j v hj) (jn_ones ys) (by unfold maxLen; omega) (by omega) hb.size ?_
  intro v' w' hown hgr hnil
  have hB : Below w0.heap.size w0 w' := hb.grown hgr hb.size (fun k hk => by
    rcases hF.2 with ⟨hv, _⟩ | ⟨g', cap, cur, hv, hbg, _⟩
    · rw [hv] at hk; cases hk
    · rw [hv] at hk
      simp only [Value.ownBlock, Option.some.injEq] at hk
      omega)
  rw [show jcs l ++ jcs ys = jcs (l ++ ys) from by simp [quads]] at hown
  rcases hown.2 with ⟨rfl, h0⟩ | ⟨g', cap, cu, rfl, _⟩
  · omega
  · exact hK _ cap w' hown hB
theorem run_bs0 (w : World) : (Instr.buildSlice 24 0 #[]).run Try.prog w = .ok (.slice (some ⟨w.heap.size, 0, none⟩) 0 0) (w.alloc (.cells #[] 53 (0, 0))) := by kernel_rfl
theorem wpList_bs0 {ops : Array Oper} {rest : List Oper} {o : Oper} {a : Act} {Q : Exit → Act → World → Prop} (hg : o.guard = none) (hop : o.op = .buildSlice 24 0 #[])
    (hK : ∀ w', OwnJ w.heap.size w' (some ⟨w.heap.size, 0, none⟩) 0 0 [] → Below w.heap.size w w' → wpList Try.prog ops Q rest (a.put o.dst (.slice (some ⟨w.heap.size, 0, none⟩) 0 0)) w') : wpList Try.prog ops Q (o :: rest) a w := by
  refine wpList_plain hg fun K hK' => ?_
  unfold Oper.wp
  have hrun : (execOp a.eval o).run Try.prog w = .ok (.value (.slice (some ⟨w.heap.size, 0, none⟩) 0 0)) (w.alloc (.cells #[] 53 (0, 0))) := by simp [execOp, hop, run_bs0]
  rw [hrun]
  exact hK' _ _ (hK _ (OwnJ.empty w) (below_alloc _ _))
theorem splice_get {L ys : List Value} {off j : Nat} (h : off + ys.length ≤ L.length) : (splice L off ys)[j]? = if j < off then L[j]? else if j < off + ys.length then ys[j - off]? else L[j]? := by
  unfold splice
  by_cases h1 : j < off
  · rw [if_pos h1, List.getElem?_append_left (by rw [List.length_take]; omega), List.getElem?_take, if_pos h1]
  · rw [if_neg h1, List.getElem?_append_right (by rw [List.length_take]; omega), List.length_take, Nat.min_eq_left (by omega)]
    by_cases h2 : j < off + ys.length
    · rw [if_pos h2, List.getElem?_append_left (by omega)]
    · rw [if_neg h2, List.getElem?_append_right (by omega), List.getElem?_drop]
      congr 1
      omega
theorem quads_set4 : ∀ (l : List Jn) (k : Nat) (x : Jn), k < l.length → splice (jcs l) (k * 4) x.cells = jcs (l.set k x)
  | [], k, x, h => by simp at h
  | a :: l, k, x, h => by
    rcases k with _ | k
    · simp [splice, quads, Jn.cells]
    · have := quads_set4 l k x (by simpa using h)
      rw [List.set_cons_succ, show jcs (a :: l) = a.cells ++ jcs l from rfl, show jcs (a :: l.set k x) = a.cells ++ jcs (l.set k x) from rfl, ← this]
      simp only [splice]
      have e : (k + 1) * 4 = 4 + k * 4 := by omega
      rw [e, ← jn4 a, List.take_length_add_append, Nat.add_assoc, List.drop_append]
      simp [List.append_assoc]
/-- One of the instructions is written anew. -/
theorem wpList_storeJ {ops : Array Oper} {rest : List Oper} {o : Oper} {a : Act} {Q : Exit → Act → World → Prop} (hg : o.guard = none) (hd : o.dst = none) (x v : Operand) (hop : o.op = .store 53 x v) (w0 : World) (g k : Nat) (y : Jn)
    (hx : a.eval x = .pointer (some ⟨g, k * 4, none⟩)) (hv : a.eval v = .agg y.cells.toArray) (hF : OwnJ w0.heap.size w (some ⟨g, 0, none⟩) n c l) (hk : k < n) (hb : Below w0.heap.size w0 w)
    (hK : ∀ w', OwnJ w0.heap.size w' (some ⟨g, 0, none⟩) n c (l.set k y) → Below w0.heap.size w0 w' → (∀ q, q ≠ g → w'.heap[q]? = w.heap[q]?) → w.heap.size ≤ w'.heap.size → wpList Try.prog ops Q rest a w') : wpList Try.prog ops Q (o :: rest) a w := by
  have hlen := hF.len
  rcases hF.2 with ⟨hv0, _⟩ | ⟨g', cap, cur, hv0, hbg, hgb, hn, hm, hsz, ht⟩
  · simp at hv0
  · simp only [Value.slice.injEq, Option.some.injEq, Addr.mk.injEq, and_true, true_and] at hv0
    obtain ⟨rfl, rfl⟩ := hv0
    have hT' : (Try.prog.info? 53).map (·.size) = some 4 := by kernel_rfl
    obtain ⟨i, hi, hsz4⟩ := Option.map_eq_some_iff.1 hT'
    have hfit : k * 4 + 4 ≤ cur.size := by rw [hsz]; omega
    have hst := run_storeCells_at (P := Try.prog) g (k * 4) 53 y.cells 0 cur w hgb (by rw [jn4]; omega) (jn_one y)
    have e : (cur.toList.take (k * 4 + 0) ++ y.cells ++ cur.toList.drop (k * 4 + 0 + y.cells.length)).toArray = (splice cur.toList (k * 4) y.cells).toArray := by simp [splice]
    rw [e] at hst
    have hrun : (execOp a.eval o).run Try.prog w = .ok .skip (w.setRow g (splice cur.toList (k * 4) y.cells).toArray) := by
      unfold execOp
      simp only [hop, hx, hv, Instr.storeAt, Instr.sureAddr, Sem.run_bind, Sem.run_pure, Result.andThen_ok, storeVar, sizeOf, typeInfo]
      simp [hsz4, Value.cells, hst, hi, jn4]
    refine wpList_plain hg fun K hK' => ?_
    unfold Oper.wp
    rw [hrun]
    have hlc : (splice cur.toList (k * 4) y.cells).length = cur.size := by
      simp [splice, jn4]
      omega
    have h := hK (w.setRow g (splice cur.toList (k * 4) y.cells).toArray) ⟨by rw [len_quads jn4, List.length_set, hlen]; omega, .inr ⟨g, c, _, rfl, hbg, setRow_heap w g _ _ 53 _ hgb, hn, hm, by simp only [List.size_toArray]; rw [hlc, hsz], ?_⟩⟩ (Below.setRow' hb hbg _) (fun q hq => setRow_other w g q _ hq) (by simp)
    · have h' := hK' _ _ h
      have e : a.put o.dst undef = a := by simp [Act.put, hd]
      simp only [Oper.upon]
      first | exact h' | (rw [e]; exact h')
    · rw [← quads_set4 l k y (by omega), ← ht]
      apply List.ext_getElem?
      intro j
      rw [List.getElem?_take]
      have hl4 : (cur.toList.take (n * 4)).length = n * 4 := by rw [List.length_take, Array.length_toList, hsz]; omega
      rw [splice_get (by rw [jn4]; simpa using hfit), splice_get (by rw [jn4, hl4]; omega), jn4, List.getElem?_take]
      by_cases h1 : j < n * 4
      · simp only [h1, if_true]
      · have h2 : ¬ j < k * 4 := by omega
        have h3 : ¬ j < k * 4 + 4 := by omega
        simp only [h1, h2, h3, if_false]
end
end Go.Proofs.Ytangblcfdboghaa
