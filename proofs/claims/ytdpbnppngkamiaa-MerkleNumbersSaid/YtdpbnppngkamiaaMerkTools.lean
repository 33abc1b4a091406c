/-
  Steps that the walks of layer 10's statements share.
-/
import Derived.Test.YtdpbnppngkamiaaMerkAwake
import Derived.Test.YtdpbnppngkamiaaDigsOpen
import Derived.Test.YtdpbnppngkamiaaPick
namespace Go.Proofs.Ytdpbnppngkamiaa
open Go.RowKit
set_option linter.unusedVariables false

theorem exec_alloc {P : Program} {o : Oper} {a : Act} {w : World} (T : TypeId) (hop : o.op = .alloc T) (xs : List Value) (hz : ((P.info? T).map (·.zero)) = some (some (.agg xs.toArray))) :
    (execOp a.eval o).run P w = .ok (.value (.pointer (some ⟨w.heap.size, 0, none⟩))) (w.alloc (.cells xs.toArray T (0, 0))) := by
  simp only [execOp, hop]
  rw [Sem.run_bind, run_alloc_zero T xs hz]
  rfl
/-- A new variable of a digest, in a drawn region. -/
theorem step_allocD {ops : Array Oper} {Q : Exit → Act → World → Prop} {pr : Nat → Value → World → Prop} {i : Nat} {o : Oper} {a : Act} {w : World} {B : Nat} (hg : o.guard = none) (hop : o.op = .alloc 83) (hB : B ≤ w.heap.size)
    (hp : ∀ g w', Fresh B 83 w' (some ⟨g, 0, none⟩) 32 32 (cb (List.replicate 32 0)) → pr i (.pointer (some ⟨g, 0, none⟩)) w') : StepOk Try.prog ops Q pr i o a w :=
  stepOk_run hg (exec_alloc 83 hop (cb (List.replicate 32 0)) (by kernel_rfl)) (hp _ _ ((Fresh.new w 83 (cb (List.replicate 32 0)) 32 (len_zb 32) (by omega)).lower hB)) (below_alloc _ _)
/-- A drawn region 'x, e := f(..)' with x in memory: what is known while it goes on: the new variable at slot sl, laid down behind its making. -/
def crJ (w4 : World) (iA iS sl : Nat) (T : TypeId) (n : Nat) (Z R : List Value) (listed : Array Bool) (act : Act) (w : World) : Prop :=
  Below w4.heap.size w4 w ∧ (listed.getD iA false = true → ∃ q, act.tmps[sl]? = some (.pointer (some ⟨q, 0, none⟩)) ∧ Fresh w4.heap.size T w (some ⟨q, 0, none⟩) n n (if listed.getD iS false then R else Z)) ∧ (listed.getD iS false = true → listed.getD iA false = true)
section
variable {w w' w4 : World} {iA iS sl n : Nat} {T : TypeId} {Z R : List Value} {listed : Array Bool} {act : Act}
theorem getD_rep (k i : Nat) : (Array.replicate k false).getD i false = false := getD_replicate_false _ _
theorem crJ.start (k : Nat) (a0 : Act) (w : World) : crJ w iA iS sl T n Z R (Array.replicate k false) a0 { w with drawn := w.drawn + 1 } :=
  ⟨⟨rfl, rfl, rfl, Nat.le_refl _, fun _ _ => rfl⟩, fun h => (by rw [getD_rep] at h; cases h), fun h => (by rw [getD_rep] at h; cases h)⟩
theorem crJ.other (h : crJ w4 iA iS sl T n Z R listed act w) (i t : Nat) (v : Value) (hi : i ≠ iA) (hi2 : i ≠ iS) (ht : t ≠ sl) (y : Below w.heap.size w w') : crJ w4 iA iS sl T n Z R (listed.setIfInBounds i true) (act.put (some t) v) w' := by
  obtain ⟨h1, h2, h3⟩ := h
  refine ⟨h1.trans (y.mono h1.size), ?_, ?_⟩
  · rw [getD_setNeM _ _ _ hi, getD_setNeM _ _ _ hi2, put_otherM _ _ _ _ ht]
    intro e
    obtain ⟨q, e1, e2⟩ := h2 e
    exact ⟨q, e1, e2.below y⟩
  · rw [getD_setNeM _ _ _ hi, getD_setNeM _ _ _ hi2]
    exact h3
theorem crJ.alloc (h : crJ w4 iA iS sl T n Z R listed act w) (hn : listed.getD iA true = false) (hlt : sl < act.tmps.size) (hne : iA ≠ iS) (hZ : Z.length = n) (hn2 : n ≤ 1000) : crJ w4 iA iS sl T n Z R (listed.setIfInBounds iA true) (act.put (some sl) (.pointer (some ⟨w.heap.size, 0, none⟩))) (w.alloc (.cells Z.toArray T (0, 0))) := by
  obtain ⟨h1, h2, h3⟩ := h
  obtain ⟨s9, n9⟩ := sizeOf_getM hn
  have nS : listed.getD iS false = false := by
    cases e : listed.getD iS false
    · rfl
    · rw [h3 e] at n9; cases n9
  refine ⟨h1.trans ((below_alloc _ _).mono h1.size), fun _ => ⟨_, put_selfM _ _ _ hlt, ?_⟩, fun _ => getD_setEqM _ _ s9⟩
  rw [getD_setNeM _ _ _ hne, nS]
  exact (Fresh.new w T Z n hZ (by omega)).lower h1.size
theorem crJ.store (h : crJ w4 iA iS sl T n Z R listed act w) (hn : listed.getD iS true = false) (hA : listed.getD iA false = true) {q : Nat} (hq : act.tmps[sl]? = some (.pointer (some ⟨q, 0, none⟩))) (hne : iS ≠ iA) (hZ : Z.length = n) (hR : R.length = n) :
    Fresh w4.heap.size T w (some ⟨q, 0, none⟩) n n Z ∧ crJ w4 iA iS sl T n Z R (listed.setIfInBounds iS true) act (w.setRow q R.toArray) := by
  obtain ⟨h1, h2, h3⟩ := h
  obtain ⟨s9, n9⟩ := sizeOf_getM hn
  obtain ⟨q', e1, e2⟩ := h2 hA
  rw [hq] at e1
  obtain rfl : q = q' := by simpa using e1
  rw [n9] at e2
  have e3 : Fresh w4.heap.size T w (some ⟨q, 0, none⟩) n n Z := e2
  refine ⟨e3, Below.setRow' h1 e3.block.2 _, fun _ => ⟨q, hq, ?_⟩, fun _ => ?_⟩
  · rw [getD_setEqM _ _ s9]
    exact e3.setRow hR
  · rw [getD_setNeM _ _ _ hne]
    exact hA
end
theorem run_storeF {o : Oper} {a : Act} {w : World} {B q n : Nat} {T : TypeId} (x v : Operand) (hop : o.op = .store T x v) (Z R : List Value) (hx : a.eval x = .pointer (some ⟨q, 0, none⟩)) (hv : a.eval v = .agg R.toArray) (hF : Fresh B T w (some ⟨q, 0, none⟩) n n Z) (hR : R.length = n) (hT : aggB Try.prog T n = true) (h1 : ∀ u ∈ R, u.oneCell' = true) :
    (execOp a.eval o).run Try.prog w = .ok .skip (w.setRow q R.toArray) := by
  have hT' : (Try.prog.info? T).map (·.size) = some R.length := by
    unfold aggB at hT
    simp only [Bool.and_eq_true, beq_iff_eq] at hT
    rw [hR]
    exact hT.2
  have h := run_store_agg (off := 0) x v T hop hx R hv hT' hF (by omega) h1
  have e : splice Z 0 R = R := by
    have hl := hF.len
    simp [splice, hl, hR]
  rw [e] at h
  exact h
end Go.Proofs.Ytdpbnppngkamiaa
