/-
  A drawn region with what is known tied to the frame, as region_L, with guarded operations, each of them wanted; and what is known of a list that is copied and added to in such a region.
-/
import Derived.Test.YtpdfalgjmeagjaaMerkAwake
import Derived.Test.YtpdfalgjmeagjaaDigsOpen
import Derived.Test.YtpdfalgjmeagjaaPick
import Derived.Test.YtpdfalgjmeagjaaRegionJKL
namespace Go.Proofs.Ytpdfalgjmeagjaa
open Go.RowKit
set_option linter.unusedVariables false

theorem exec_alloc {P : Program} {o : Oper} {a : Act} {w : World} (T : TypeId) (hop : o.op = .alloc T) (xs : List Value) (hz : ((P.info? T).map (·.zero)) = some (some (.agg xs.toArray))) :
    (execOp a.eval o).run P w = .ok (.value (.pointer (some ⟨w.heap.size, 0, none⟩))) (w.alloc (.cells xs.toArray T (0, 0))) := by
  simp only [execOp, hop]
  rw [Sem.run_bind, run_alloc_zero T xs hz]
  rfl
/-- A new variable of a digest, in a drawn region. -/
theorem step_allocD {ops : Array Oper} {Q : Exit → Act → World → Prop} {pr : Nat → Value → World → Prop} {i : Nat} {o : Oper} {a : Act} {w : World} {B : Nat} (hg : o.guard = none) (hop : o.op = .alloc 38) (hB : B ≤ w.heap.size)
    (hp : ∀ g w', Fresh B 38 w' (some ⟨g, 0, none⟩) 32 32 (cb (List.replicate 32 0)) → pr i (.pointer (some ⟨g, 0, none⟩)) w') : StepOk Try.prog ops Q pr i o a w :=
  stepOk_run hg (exec_alloc 38 hop (cb (List.replicate 32 0)) (by kernel_rfl)) (hp _ _ ((Fresh.new w 38 (cb (List.replicate 32 0)) 32 (len_zb 32) (by omega)).lower hB)) (below_alloc _ _)
/-- A drawn region 'x, e := f(..)' with x in memory: what is known while it goes on: the new variable at slot sl, laid down behind its making. -/
def crJ (w4 : World) (iA iS sl : Nat) (T : TypeId) (n : Nat) (Z R : List Value) (listed : Array Bool) (act : Act) (w : World) : Prop :=
  Below w4.heap.size w4 w ∧ (listed.getD iA false = true → ∃ q, act.tmps[sl]? = some (.pointer (some ⟨q, 0, none⟩)) ∧ Fresh w4.heap.size T w (some ⟨q, 0, none⟩) n n (if listed.getD iS false then R else Z)) ∧ (listed.getD iS false = true → listed.getD iA false = true)
section
variable {w w' w4 : World} {iA iS sl n : Nat} {T : TypeId} {Z R : List Value} {listed : Array Bool} {act : Act}
theorem getD_rep (k i : Nat) : (Array.replicate k false).getD i false = false := getD_replicate_false _ _
theorem crJ.start (k : Nat) (a0 : Act) (w : World) : crJ w iA iS sl T n Z R (Array.replicate k false) a0 { w with drawn := w.drawn + 1 } :=
  ⟨⟨rfl, rfl, rfl, Nat.le_refl _, fun _ _ => rfl⟩, fun h => (by rw [getD_rep] at h; cases h), fun h => (by rw [getD_rep] at h; cases h)⟩
theorem crJ.other (h : crJ w4 iA iS sl T n Z R listed act w) (i t : Nat) (v : Value) (hi : i ≠ iA) (hi2 : i ≠ iS) (ht : t ≠ sl) (y : Below w.heap.size w w') : crJ w4 iA iS sl T n Z R (listed.setIfInBounds i true) (act.put (some t) v) w' := by
  obtain ⟨h1, h2, h3⟩ := h
  refine ⟨h1.trans (y.mono h1.size), ?_, ?_⟩
  · rw [getD_setNeM _ _ _ hi, getD_setNeM _ _ _ hi2, put_otherM _ _ _ _ ht]
    intro e
    obtain ⟨q, e1, e2⟩ := h2 e
    exact ⟨q, e1, e2.below y⟩
  · rw [getD_setNeM _ _ _ hi, getD_setNeM _ _ _ hi2]
    exact h3
theorem crJ.alloc (h : crJ w4 iA iS sl T n Z R listed act w) (hn : listed.getD iA true = false) (hlt : sl < act.tmps.size) (hne : iA ≠ iS) (hZ : Z.length = n) (hn2 : n ≤ 1000) : crJ w4 iA iS sl T n Z R (listed.setIfInBounds iA true) (act.put (some sl) (.pointer (some ⟨w.heap.size, 0, none⟩))) (w.alloc (.cells Z.toArray T (0, 0))) := by
  obtain ⟨h1, h2, h3⟩ := h
  obtain ⟨s9, n9⟩ := sizeOf_getM hn
  have nS : listed.getD iS false = false := by
    cases e : listed.getD iS false
    · rfl
    · rw [h3 e] at n9; cases n9
  refine ⟨h1.trans ((below_alloc _ _).mono h1.size), fun _ => ⟨_, put_selfM _ _ _ hlt, ?_⟩, fun _ => getD_setEqM _ _ s9⟩
  rw [getD_setNeM _ _ _ hne, nS]
  exact (Fresh.new w T Z n hZ (by omega)).lower h1.size
theorem crJ.store (h : crJ w4 iA iS sl T n Z R listed act w) (hn : listed.getD iS true = false) (hA : listed.getD iA false = true) {q : Nat} (hq : act.tmps[sl]? = some (.pointer (some ⟨q, 0, none⟩))) (hne : iS ≠ iA) (hZ : Z.length = n) (hR : R.length = n) :
    Fresh w4.heap.size T w (some ⟨q, 0, none⟩) n n Z ∧ crJ w4 iA iS sl T n Z R (listed.setIfInBounds iS true) act (w.setRow q R.toArray) := by
  obtain ⟨h1, h2, h3⟩ := h
  obtain ⟨s9, n9⟩ := sizeOf_getM hn
  obtain ⟨q', e1, e2⟩ := h2 hA
  rw [hq] at e1
  obtain rfl : q = q' := by simpa using e1
  rw [n9] at e2
  have e3 : Fresh w4.heap.size T w (some ⟨q, 0, none⟩) n n Z := e2
  refine ⟨e3, Below.setRow' h1 e3.block.2 _, fun _ => ⟨q, hq, ?_⟩, fun _ => ?_⟩
  · rw [getD_setEqM _ _ s9]
    exact e3.setRow hR
  · rw [getD_setNeM _ _ _ hne]
    exact hA
end
theorem run_storeF {o : Oper} {a : Act} {w : World} {B q n : Nat} {T : TypeId} (x v : Operand) (hop : o.op = .store T x v) (Z R : List Value) (hx : a.eval x = .pointer (some ⟨q, 0, none⟩)) (hv : a.eval v = .agg R.toArray) (hF : Fresh B T w (some ⟨q, 0, none⟩) n n Z) (hR : R.length = n) (hT : aggB Try.prog T n = true) (h1 : ∀ u ∈ R, u.oneCell' = true) :
    (execOp a.eval o).run Try.prog w = .ok .skip (w.setRow q R.toArray) := by
  have hT' : (Try.prog.info? T).map (·.size) = some R.length := by
    unfold aggB at hT
    simp only [Bool.and_eq_true, beq_iff_eq] at hT
    rw [hR]
    exact hT.2
  have h := run_store_agg (off := 0) x v T hop hx R hv hT' hF (by omega) h1
  have e : splice Z 0 R = R := by
    have hl := hF.len
    simp [splice, hl, hR]
  rw [e] at h
  exact h
end Go.Proofs.Ytpdfalgjmeagjaa

namespace Go.Proofs.Ytpdfalgjmeagjaa
open Go.RowKit
set_option linter.unusedVariables false

theorem run_fromD (A : Option Addr) (n c k : Nat) (hk : k ≤ n) (hc : n ≤ c) :
    ∃ A' : Option Addr, (∀ w, (Instr.slice 144 (.slice A n c) (some (.int .i64 (k : Int))) none none).run Try.prog w = .ok (.slice A' (n - k) (c - k)) w) ∧ ∀ (w : World) (ds : List (List UInt8)), Digs w A n ds → Digs w A' (n - k) (ds.drop k) := by
  have hz : ∀ w, (sizeOf (Try.prog.elem 144)).run Try.prog w = .ok 32 w := fun w => by kernel_rfl
  have hr : ∀ w, (Instr.slice 144 (.slice A n c) (some (.int .i64 (k : Int))) none none).run Try.prog w = .ok (sliced A k n c 32) w := fun w => by
    rw [run_slice_l w 144 A n c elemD .i64 (k : Int) (by omega) (by omega), hz]
    simp only [Result.andThen, Int.toNat_natCast]
  by_cases hkc : k = c
  · subst hkc
    refine ⟨A, fun w => ?_, fun w ds hd => ⟨?_, by rw [List.length_drop, hd.len], all_drop hd.all k⟩⟩
    · rw [hr]
      cases A <;> simp [sliced]
    · rw [List.drop_of_length_le (by rw [hd.len]; omega)]
      exact Sees.nil
  · refine ⟨A.map (·.add (k * 32)), fun w => ?_, fun w ds hd => ⟨?_, by rw [List.length_drop, hd.len], all_drop hd.all k⟩⟩
    · rw [hr]
      cases A <;> simp [sliced, Ne.symm hkc]
    · have hf := len_flat hd.all
      by_cases h0 : 0 < ds.length
      · obtain ⟨g, o, rfl, _⟩ := hd.at_ (k := 0) (by rw [← hd.len]; exact h0)
        have h1 := hd.sees.drop_ (32 * k)
        have e : (cb ds.flatten).drop (32 * k) = cb (ds.drop k).flatten := by rw [← drop_flat hd.all k]; simp [cb, List.map_drop]
        rw [e] at h1
        show Sees w w.heap.size (some ((⟨g, o, none⟩ : Addr).add (k * 32))) _
        rw [Addr.add_lit, Nat.mul_comm]
        exact h1
      · have e : ds = [] := List.eq_nil_of_length_eq_zero (by omega)
        rw [e]
        simpa using Sees.nil
theorem run_min8 {o : Oper} {a : Act} {w : World} (x : Operand) (hop : o.op = .call { callee := .builtin .min, args := #[x, .const (.int .i64 8)], argTypes := #[3, 3] }) (n m : Nat) (hx : a.eval x = .int .i64 (n : Int)) (hm : m = min n 8) : (execOp a.eval o).run Try.prog w = .ok (.value (.int .i64 (m : Int))) w := by
  subst hm
  have hc : a.eval (.const (.int .i64 8)) = .int .i64 8 := rfl
  unfold execOp
  rw [hop]
  simp only [resolve, invoke, builtin, Sem.run_bind, Sem.run_pure, Result.andThen_ok, List.map_toArray, List.map_cons, List.map_nil, hx, hc]
  clear hx hop hc
  rcases Nat.lt_or_ge 8 n with h | h
  · rw [Nat.min_eq_right (by omega)]
    have h2 : ¬ ((n : Int) ≤ 8) := by omega
    have h3 : ¬ (n ≤ 8) := by omega
    have h4 : (8 : Int) < (n : Int) := by omega
    go_simp
  · rw [Nat.min_eq_left (by omega)]
    have h2 : (n : Int) ≤ 8 := by omega
    go_simp
    omega
end Go.Proofs.Ytpdfalgjmeagjaa

namespace Go.Proofs.Ytpdfalgjmeagjaa
open Go.RowKit
set_option linter.unusedVariables false

def StepM (P : Program) (ops : Array Oper) (Q : Exit → Act → World → Prop) (pr : Nat → Value → World → Prop) (J : Array Bool → Act → World → Prop) (i : Nat) (o : Oper) (listed : Array Bool) (a : Act) (w : World) : Prop :=
  Region.wanted o (yielded ops a.tmps) = true ∧ o.wp P a w (fun a' w' => ∃ v, a' = a.put o.dst v ∧ pr i v w' ∧ J (listed.setIfInBounds i true) (a.put o.dst v) w' ∧ ∀ j u, pr j u w → pr j u w') Q
section
variable {P : Program} {ops : Array Oper} {Q : Exit → Act → World → Prop} {pr : Nat → Value → World → Prop} {J : Array Bool → Act → World → Prop} {a0 a : Act} {w w' : World} {listed : Array Bool} {o : Oper} {i : Nat} {v : Value}
theorem wpAny_keptM (hs : bindsOk ops a0.tmps.size = true)
    (step : ∀ i o, ops[i]? = some o → ∀ listed a w, KeptL ops pr J a0 listed a w → listed.getD i true = false → (∀ e ∈ o.after, Region.binds .any e = true → listed.getD e.on false = true) → StepM P ops Q pr J i o listed a w)
    (fin : ∀ listed a w, KeptL ops pr J a0 listed a w → (∀ j, j < ops.size → listed.getD j false = true) → Q .normal a w) :
    ∀ (fuel : Nat) (listed : Array Bool) (a : Act) (w : World), KeptL ops pr J a0 listed a w → listed.toList.count false ≤ fuel → wpAny P .any ops Q fuel listed a w := by
  have done : ∀ listed a w, KeptL ops pr J a0 listed a w → Region.ready .any ops listed = [] → Q .normal a w := by
    intro listed a w hk hr
    refine fin listed a w hk fun j => ?_
    induction j using Nat.strongRecOn with
    | _ j ih =>
      intro hj
      have hjl : j < listed.size := by rw [hk.lsize]; exact hj
      cases hl : listed.getD j false
      · exfalso
        have hl' : listed.getD j true = false := by simp [hjl] at hl ⊢; exact hl
        have hm : j ∈ Region.ready .any ops listed := mem_ready.2 ⟨hl', ops[j], Array.getElem?_eq_getElem hj, fun e he hb => by
          have hon := (bindsOk_at hs (Array.getElem?_eq_getElem hj)).2 e he hb
          exact ih e.on hon (by omega)⟩
        rw [hr] at hm
        cases hm
      · rfl
  intro fuel
  induction fuel with
  | zero =>
    intro listed a w hk hc
    have hr : Region.ready .any ops listed = [] := by
      rw [List.eq_nil_iff_forall_not_mem]
      intro i hi
      have h0 := (mem_ready.1 hi).1
      have hlt : i < listed.size := by
        rcases Nat.lt_or_ge i listed.size with h | h
        · exact h
        · simp [Array.getElem?_eq_none h] at h0
      have hmem : false ∈ listed.toList := by
        simp [hlt] at h0
        rw [← h0]
        simp
      have := List.count_pos_iff.2 hmem
      omega
    exact ⟨hr, done listed a w hk hr⟩
  | succ fuel ih =>
    intro listed a w hk hc
    refine ⟨done listed a w hk, fun i hi => ?_⟩
    obtain ⟨h0, o, ho, hdep⟩ := mem_ready.1 hi
    have hlt : i < listed.size := by rw [hk.lsize]; exact (Array.getElem?_eq_some_iff.1 ho).1
    have hcount : (listed.setIfInBounds i true).toList.count false ≤ fuel := by
      rw [Array.toList_setIfInBounds, List.count_set (by simpa using hlt)]
      have hf : listed.toList[i]'(by simpa using hlt) = false := by simpa [hlt] using h0
      have hp : 0 < listed.toList.count false := List.count_pos_iff.2 (by rw [← hf]; exact List.getElem_mem _)
      rw [hf]
      simp only [beq_self_eq_true, if_true]
      show _ - 1 + 0 ≤ fuel
      omega
    obtain ⟨hg, hst⟩ := step i o ho listed a w hk h0 hdep
    have hw := hg
    unfold wpOp
    simp only [ho]
    rw [if_pos hw]
    refine .inl (Oper.wp_mono ?_ hst)
    rintro a' w' ⟨v, rfl, hp, hv, hst2⟩
    exact ih _ _ _ (hk.put hs ho hp hst2 hv) hcount
theorem stepM_value (hg : Region.wanted o (yielded ops a.tmps) = true) (hrun : (execOp a.eval o).run P w = .ok (.value v) w) (hp : pr i v w) (hJ : J (listed.setIfInBounds i true) (a.put o.dst v) w) : StepM P ops Q pr J i o listed a w := by
  refine ⟨hg, ?_⟩
  unfold Oper.wp
  rw [hrun]
  exact ⟨v, rfl, hp, hJ, fun _ _ h => h⟩
theorem stepM_run (hg : Region.wanted o (yielded ops a.tmps) = true) (hrun : (execOp a.eval o).run P w = .ok (.value v) w') (hp : pr i v w') (hJ : J (listed.setIfInBounds i true) (a.put o.dst v) w') (hst : ∀ j u, pr j u w → pr j u w') : StepM P ops Q pr J i o listed a w := by
  refine ⟨hg, ?_⟩
  unfold Oper.wp
  rw [hrun]
  exact ⟨v, rfl, hp, hJ, hst⟩
theorem stepM_skip (hg : Region.wanted o (yielded ops a.tmps) = true) (hd : o.dst = none) (hrun : (execOp a.eval o).run P w = .ok .skip w') (hp : pr i undef w') (hJ : J (listed.setIfInBounds i true) a w') (hst : ∀ j u, pr j u w → pr j u w') : StepM P ops Q pr J i o listed a w := by
  refine ⟨hg, ?_⟩
  unfold Oper.wp
  rw [hrun]
  exact ⟨undef, by rw [hd], hp, (by rw [hd]; exact hJ), hst⟩
theorem stepM_enter {f : FuncId} {args : Array Value} (hg : Region.wanted o (yielded ops a.tmps) = true) (hrun : (execOp a.eval o).run P w = .ok (.enter f args) w)
    (hc : Calls P f args w fun e w' => ∃ v, e = .returned v ∧ pr i v w' ∧ J (listed.setIfInBounds i true) (a.put o.dst v) w' ∧ ∀ j u, pr j u w → pr j u w') : StepM P ops Q pr J i o listed a w := by
  refine ⟨hg, ?_⟩
  unfold Oper.wp
  rw [hrun]
  refine hc.mono ?_
  rintro e w' ⟨v, rfl, h⟩
  exact ⟨v, rfl, h⟩
theorem region_M {id : Nat} {l : List Oper} (pr : Nat → Value → World → Prop) (J : Array Bool → Act → World → Prop) (hm : P.follows .mixedOrders = true) (hs : bindsOk l.toArray a0.tmps.size = true)
    (h0 : J (Array.replicate l.toArray.size false) a0 { w with drawn := w.drawn + 1 })
    (step : AllSteps (fun i o => ∀ listed a w', KeptL l.toArray pr J a0 listed a w' → listed.getD i true = false → (∀ e ∈ o.after, Region.binds .any e = true → listed.getD e.on false = true) → StepM P l.toArray Q pr J i o listed a w') 0 l)
    (fin : ∀ listed a w', J listed a w' → (∀ j, j < l.toArray.size → listed.getD j false = true) → PutsTo pr w' 0 l a0 a → Q .normal a w') : (Code.region id l.toArray true).wp P Q a0 w := by
  refine wp_region_any hm ?_
  refine wpAny_keptM (pr := pr) (J := J) hs (fun i o hi listed a w' hk h1 h2 => ?_) (fun listed a w' hk hall => ?_) l.toArray.size _ a0 _ ⟨by simp, rfl, rfl, fun _ _ => rfl, fun j o t _ _ hl => ?_, h0⟩ ?_
  · have := allSteps_get l 0 step i o (by simpa using hi)
    rw [Nat.zero_add] at this
    exact this listed a w' hk h1 h2
  · refine fin listed a w' hk.inv hall ?_
    have k : Kept l.toArray pr a0 w' listed a w' := ⟨hk.lsize, Below.refl _ _, hk.defers, hk.size, hk.old, fun j oj t hj hd hl => hk.new j oj t hj hd hl⟩
    have := k.puts l.length (fun j hj => hall j (by simpa using hj)) (fun j hj => by
      have h1 : listed.size ≤ j := by rw [hk.lsize]; simpa using hj
      simp [h1])
    rwa [List.take_length] at this
  · rw [getD_replicate_false] at hl
    cases hl
  · simp
end
theorem wanted_noneM {ops : Array Oper} {o : Oper} {a : Act} (hg : o.guard = none) : Region.wanted o (yielded ops a.tmps) = true := by simp [Region.wanted, hg]
theorem getD_setFalse {listed : Array Bool} {i j : Nat} (h : (listed.setIfInBounds i true).getD j false = false) : listed.getD j false = false := by
  by_cases e : i = j
  · subst e
    by_cases hi : i < listed.size
    · rw [getD_setEqM _ _ hi] at h
      cases h
    · simp [Array.getElem?_eq_none (Nat.le_of_not_lt hi)]
  · rwa [getD_setNeM _ _ _ e] at h
/-- A list copied (iC, at sC), a list of one written out (iB, at sB), both one behind the other (iP, at sP), till it was looked at (iS). -/
def agJ (w1 : World) (iC sC iB sB iP sP iS h : Nat) (P : List (List UInt8)) (Y : List UInt8) (listed : Array Bool) (act : Act) (w : World) : Prop :=
  (listed.getD iC false = true → listed.getD iP false = false → ∃ A c, act.tmps[sC]? = some (.slice A h c) ∧ OwnD w1.heap.size w A h c P) ∧
  (listed.getD iB false = true → listed.getD iP false = false → ∃ g, act.tmps[sB]? = some (.slice (some ⟨g, 0, none⟩) 1 1) ∧ OwnD w1.heap.size w (some ⟨g, 0, none⟩) 1 1 [Y]) ∧
  (listed.getD iP false = true → listed.getD iS false = false → ∃ A c, act.tmps[sP]? = some (.slice A (h + 1) c) ∧ OwnD w1.heap.size w A (h + 1) c (P ++ [Y]))
section
variable {w w' w1 : World} {iC sC iB sB iP sP iS h : Nat} {P : List (List UInt8)} {Y : List UInt8} {listed : Array Bool} {act : Act}
theorem agJ.start (k : Nat) (a0 : Act) (w : World) : agJ w1 iC sC iB sB iP sP iS h P Y (Array.replicate k false) a0 w :=
  ⟨fun e => (by rw [getD_rep] at e; cases e), fun e => (by rw [getD_rep] at e; cases e), fun e => (by rw [getD_rep] at e; cases e)⟩
theorem agJ.other (H : agJ w1 iC sC iB sB iP sP iS h P Y listed act w) (i t : Nat) (v : Value) (h1 : i ≠ iC) (h2 : i ≠ iB) (h3 : i ≠ iP) (t1 : t ≠ sC) (t2 : t ≠ sB) (t3 : t ≠ sP) (y : Below w.heap.size w w') : agJ w1 iC sC iB sB iP sP iS h P Y (listed.setIfInBounds i true) (act.put (some t) v) w' := by
  obtain ⟨a1, a2, a3⟩ := H
  refine ⟨fun e1 e2 => ?_, fun e1 e2 => ?_, fun e1 e2 => ?_⟩
  · rw [getD_setNeM _ _ _ h1] at e1
    obtain ⟨A, c, q1, q2⟩ := a1 e1 (getD_setFalse e2)
    exact ⟨A, c, by rw [put_otherM _ _ _ _ t1]; exact q1, q2.below y⟩
  · rw [getD_setNeM _ _ _ h2] at e1
    obtain ⟨g, q1, q2⟩ := a2 e1 (getD_setFalse e2)
    exact ⟨g, by rw [put_otherM _ _ _ _ t2]; exact q1, q2.below y⟩
  · rw [getD_setNeM _ _ _ h3] at e1
    obtain ⟨A, c, q1, q2⟩ := a3 e1 (getD_setFalse e2)
    exact ⟨A, c, by rw [put_otherM _ _ _ _ t3]; exact q1, q2.below y⟩
theorem agJ.copy (H : agJ w1 iC sC iB sB iP sP iS h P Y listed act w) {A : Option Addr} {c : Nat} (hO : OwnD w1.heap.size w' A h c P) (hlt : sC < act.tmps.size) (h2 : iC ≠ iB) (h3 : iC ≠ iP) (t2 : sC ≠ sB) (t3 : sC ≠ sP) (y : Below w.heap.size w w') : agJ w1 iC sC iB sB iP sP iS h P Y (listed.setIfInBounds iC true) (act.put (some sC) (.slice A h c)) w' := by
  obtain ⟨a1, a2, a3⟩ := H
  refine ⟨fun e1 e2 => ⟨A, c, put_selfM _ _ _ hlt, hO⟩, fun e1 e2 => ?_, fun e1 e2 => ?_⟩
  · rw [getD_setNeM _ _ _ h2] at e1
    obtain ⟨g, q1, q2⟩ := a2 e1 (getD_setFalse e2)
    exact ⟨g, by rw [put_otherM _ _ _ _ t2]; exact q1, q2.below y⟩
  · rw [getD_setNeM _ _ _ h3] at e1
    obtain ⟨A, c, q1, q2⟩ := a3 e1 (getD_setFalse e2)
    exact ⟨A, c, by rw [put_otherM _ _ _ _ t3]; exact q1, q2.below y⟩
theorem agJ.one (H : agJ w1 iC sC iB sB iP sP iS h P Y listed act w) {g : Nat} (hO : OwnD w1.heap.size w' (some ⟨g, 0, none⟩) 1 1 [Y]) (hlt : sB < act.tmps.size) (h1 : iB ≠ iC) (h3 : iB ≠ iP) (t1 : sB ≠ sC) (t3 : sB ≠ sP) (y : Below w.heap.size w w') : agJ w1 iC sC iB sB iP sP iS h P Y (listed.setIfInBounds iB true) (act.put (some sB) (.slice (some ⟨g, 0, none⟩) 1 1)) w' := by
  obtain ⟨a1, a2, a3⟩ := H
  refine ⟨fun e1 e2 => ?_, fun e1 e2 => ⟨g, put_selfM _ _ _ hlt, hO⟩, fun e1 e2 => ?_⟩
  · rw [getD_setNeM _ _ _ h1] at e1
    obtain ⟨A, c, q1, q2⟩ := a1 e1 (getD_setFalse e2)
    exact ⟨A, c, by rw [put_otherM _ _ _ _ t1]; exact q1, q2.below y⟩
  · rw [getD_setNeM _ _ _ h3] at e1
    obtain ⟨A, c, q1, q2⟩ := a3 e1 (getD_setFalse e2)
    exact ⟨A, c, by rw [put_otherM _ _ _ _ t3]; exact q1, q2.below y⟩
theorem agJ.app {A : Option Addr} {c : Nat} (hn : listed.getD iP true = false) (hO : OwnD w1.heap.size w' A (h + 1) c (P ++ [Y])) (hlt : sP < act.tmps.size) : agJ w1 iC sC iB sB iP sP iS h P Y (listed.setIfInBounds iP true) (act.put (some sP) (.slice A (h + 1) c)) w' := by
  have s := (sizeOf_getM hn).1
  exact ⟨fun e1 e2 => (by rw [getD_setEqM _ _ s] at e2; cases e2), fun e1 e2 => (by rw [getD_setEqM _ _ s] at e2; cases e2), fun _ _ => ⟨A, c, put_selfM _ _ _ hlt, hO⟩⟩
/-- Not yet begun. -/
theorem agJ.no (i : Nat) (h1 : i ≠ iC) (h2 : i ≠ iB) (h3 : i ≠ iP) (n1 : listed.getD iC false = false) (n2 : listed.getD iB false = false) (n3 : listed.getD iP false = false) : agJ w1 iC sC iB sB iP sP iS h P Y (listed.setIfInBounds i true) act w' :=
  ⟨fun e => (by rw [getD_setNeM _ _ _ h1, n1] at e; cases e), fun e => (by rw [getD_setNeM _ _ _ h2, n2] at e; cases e), fun e => (by rw [getD_setNeM _ _ _ h3, n3] at e; cases e)⟩
/-- Looked at already. -/
theorem agJ.over (i : Nat) (h3 : i ≠ iP) (h4 : i ≠ iS) (n1 : listed.getD iP false = true) (n2 : listed.getD iS false = true) : agJ w1 iC sC iB sB iP sP iS h P Y (listed.setIfInBounds i true) act w' :=
  ⟨fun _ e => (by rw [getD_setNeM _ _ _ h3, n1] at e; cases e), fun _ e => (by rw [getD_setNeM _ _ _ h3, n1] at e; cases e), fun _ e => (by rw [getD_setNeM _ _ _ h4, n2] at e; cases e)⟩
end
/-- Which operations come behind which. -/
def ordJ (l : List (Nat × Nat)) (listed : Array Bool) : Prop := ∀ p ∈ l, listed.getD p.1 false = true → listed.getD p.2 false = true
theorem ordJ.start (l : List (Nat × Nat)) (k : Nat) : ordJ l (Array.replicate k false) := fun p _ e => (by rw [getD_rep] at e; cases e)
theorem ordJ.set {l : List (Nat × Nat)} {listed : Array Bool} (h : ordJ l listed) (i : Nat) (hi : ∀ p ∈ l, p.1 = i → listed.getD p.2 false = true) : ordJ l (listed.setIfInBounds i true) := by
  intro p hp e
  have up : ∀ j, listed.getD j false = true → (listed.setIfInBounds i true).getD j false = true := fun j hj => by
    by_cases e : i = j
    · subst e
      exact getD_setEqM _ _ (by
        rcases Nat.lt_or_ge i listed.size with h1 | h1
        · exact h1
        · simp [Array.getElem?_eq_none h1] at hj)
    · rw [getD_setNeM _ _ _ e]; exact hj
  by_cases e1 : p.1 = i
  · exact up _ (hi p hp e1)
  · rw [getD_setNeM _ _ _ (Ne.symm e1)] at e
    exact up _ (h p hp e)
/-- 'append' as one run, onto a list of this region's own. -/
theorem run_appM {w0 w : World} {a : Act} {A : Option Addr} {h c g : Nat} {P : List (List UInt8)} {Y : List UInt8} (s x : Operand) (hs : a.eval s = .slice A h c) (hx : a.eval x = .slice (some ⟨g, 0, none⟩) 1 1)
    (hO : OwnD w0.heap.size w A h c P) (hY : OwnD w0.heap.size w (some ⟨g, 0, none⟩) 1 1 [Y]) (hb : Below w0.heap.size w0 w) (hh : h ≤ 1000) :
    ∃ A' c' w', (∀ o : Oper, o.op = .call { callee := .builtin .append, args := #[s, x], argTypes := #[144, 144] } → o.type = 144 → (execOp a.eval o).run Try.prog w = .ok (.value (.slice A' (h + 1) c')) w') ∧ OwnD w0.heap.size w' A' (h + 1) c' (P ++ [Y]) ∧ Below w0.heap.size w0 w' := by
  obtain ⟨i0, hi, hz0, hz1, hz2⟩ := info_parts infoD
  have hrd := hY.digs.read rfl
  have hYl : Y.length = 32 := hY.all Y (by simp)
  obtain ⟨v', w', hr, hown, hgr, hnil, hat⟩ := run_append_own_at (P := Try.prog) w w0.heap.size 144 144 38 i0 (.agg (cb (List.replicate 32 0)).toArray) 32 32 Try.underlying144 hi hz0 hz1 hz2 (by simp [Value.cells]) (by omega) (.slice A h c) h _ hO.row ⟨g, 0, none⟩ 1 1 (cb [Y].flatten) (by simp [hYl]) hrd (cb_one _) (by unfold maxLen; omega) (by omega) hb.size
  obtain ⟨A', c', rfl⟩ : ∃ A' c', v' = .slice A' (h + 1) c' := by
    rcases hown.2 with ⟨rfl, h0⟩ | ⟨g', cap, cu, rfl, _⟩
    · simp at h0
    · exact ⟨_, _, rfl⟩
  refine ⟨A', c', w', ?_, ⟨by rw [List.flatten_append, ← cb_app]; exact hown, all_app hO.all hY.all⟩, hb.grown hgr hb.size (fun k hk => (hO.row.lt k hk).1)⟩
  intro o hop hty
  unfold execOp
  rw [hop]
  simp only [resolve, invoke, builtin, hty, Sem.run_bind, Sem.run_pure, Result.andThen_ok, List.map_toArray, List.map_cons, List.map_nil, hs, hx, hr]
end Go.Proofs.Ytpdfalgjmeagjaa
