/-
  An array of integers, opened.
-/
import Derived.Test.YtpdfalgjmeagjaaRow
import Derived.Test.YtpdfalgjmeagjaaProg
import Derived.ChangeSame
import Derived.ChangeBears
import Derived.WideShapes
import Derived.Lib.SmallJoins
namespace Go.Proofs.Ytpdfalgjmeagjaa
open Go.RowKit Go.ChangeShapes Go.WideShapes
set_option linter.unusedVariables false

section
variable {H : Type} {enc : TypeId × Value → H} {P : Program} {w : World} {base : Nat} {spare : Nat → Bool} {held : Bool}
theorem trod_one_int {e : TypeId} {k : IntKind} {fuel : Nat} {cs : List Value} {x : DataW H × List MemPlace} (he : P.underlying e = some (.int k)) (h : DataW.trod enc P w base spare held fuel e cs = some x) : ∃ z, cs = [.int k z] ∧ (Lit.int k z).wf = true := by
  cases fuel with
  | zero => simp [DataW.trod] at h
  | succ n =>
    unfold DataW.trod at h
    rw [he] at h
    split at h <;> simp_all
theorem ints_of {k : IntKind} : ∀ cs : List Value, (∀ (i : Nat) (c : Value), cs[i]? = some c → ∃ z, c = Value.int k z ∧ (Lit.int k z).wf = true) → ∃ zs : List Int, cs = zs.map (Value.int k) ∧ ∀ z ∈ zs, (Lit.int k z).wf = true
  | [], _ => ⟨[], rfl, by simp⟩
  | c :: cs, h => by
    obtain ⟨z, rfl, hz⟩ := h 0 c rfl
    obtain ⟨zs, rfl, hzs⟩ := ints_of cs (fun i c' hc => h (i + 1) c' (by simpa using hc))
    exact ⟨z :: zs, rfl, fun y hy => by
      rcases List.mem_cons.1 hy with rfl | hy
      · exact hz
      · exact hzs y hy⟩
/-- The cells of an array of integers. -/
theorem trod_array_ints {t e : TypeId} {k : IntKind} {n fuel : Nat} {cs : List Value} {x : DataW H × List MemPlace} (ht : P.underlying t = some (.array n e)) (he : P.underlying e = some (.int k)) (hce : P.cellsOf e = 1) (hct : P.cellsOf t = n)
    (h : DataW.trod enc P w base spare held fuel t cs = some x) : cs.length = n ∧ ∃ zs : List Int, cs = zs.map (Value.int k) ∧ ∀ z ∈ zs, (Lit.int k z).wf = true := by
  cases fuel with
  | zero => simp [DataW.trod] at h
  | succ m =>
    unfold DataW.trod at h
    rw [ht] at h
    have h' : (if cs.length = P.cellsOf t then ((List.range n).mapM fun i => DataW.trod enc P w base spare held m e ((cs.drop (i * P.cellsOf e)).take (P.cellsOf e))).map fun xs => (DataW.agg (xs.map (·.1)), xs.flatMap (·.2)) else none) = some x := by
      simpa using h
    split at h'
    · rename_i hl
      rw [hct] at hl
      refine ⟨hl, ints_of cs fun i c hc => ?_⟩
      obtain ⟨xs, hxs, _⟩ := Option.map_eq_some_iff.1 h'
      have hi : i < n := by rw [← hl]; exact (List.getElem?_eq_some_iff.1 hc).1
      cases ho : DataW.trod enc P w base spare held m e ((cs.drop (i * P.cellsOf e)).take (P.cellsOf e)) with
      | none =>
        rw [mapM_none_of (List.mem_range.2 hi) ho] at hxs
        cases hxs
      | some y =>
        obtain ⟨z, hz, hw⟩ := trod_one_int he ho
        rw [hce, Nat.mul_one] at hz
        have : ((cs.drop i).take 1)[0]? = some c := by
          rw [List.getElem?_take, if_pos (by omega), List.getElem?_drop, Nat.add_zero, hc]
        rw [hz] at this
        simp at this
        exact ⟨z, this.symm, hw⟩
    · cases h'
theorem okWide_array' {r : Reach} {b0 n : Nat} {t e : TypeId} {v : Value} (ht : P.underlying t = some (.array n e)) (h : Value.okWide P w r b0 t v) : ∃ cs, v = .agg cs ∧ cs.size = P.cellsOf t := by
  simp only [Value.okWide, ht] at h
  obtain ⟨cs, h1, h2, _⟩ := h
  exact ⟨cs, h1, h2⟩
theorem open_array_ints {t e : TypeId} {k : IntKind} {n : Nat} {r : Reach} {b0 : Nat} {v : Value} {d : DataW H} {p : List MemPlace} (ht : P.underlying t = some (.array n e)) (he : P.underlying e = some (.int k)) (hce : P.cellsOf e = 1) (hct : P.cellsOf t = n)
    (hv : Value.okWide P w r b0 t v) (h : DataW.Trod enc P w base spare held t v d p) : ∃ zs : List Int, v = .agg (zs.map (Value.int k)).toArray ∧ zs.length = n ∧ ∀ z ∈ zs, (Lit.int k z).wf = true := by
  obtain ⟨cs, rfl, hsz⟩ := okWide_array' ht hv
  obtain ⟨fuel, hf⟩ := h
  obtain ⟨l0, z0, e0, w0⟩ := trod_array_ints ht he hce hct hf
  have hl0 := congrArg List.length e0
  rw [l0, List.length_map] at hl0
  refine ⟨z0, ?_, hl0.symm, w0⟩
  congr 1
  have e : cs.toList = z0.map (Value.int k) := e0
  rw [← e]
end
end Go.Proofs.Ytpdfalgjmeagjaa
