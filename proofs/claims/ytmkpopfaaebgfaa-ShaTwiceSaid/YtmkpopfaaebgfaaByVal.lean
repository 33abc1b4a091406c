/-
  Arguments by value: arrays of integers, and structs of them, opened: what cells a value has that reads as data.
-/
import Derived.Test.YtmkpopfaaebgfaaRow
import Derived.Test.YtmkpopfaaebgfaaProg
import Derived.ChangeSame
import Derived.ChangeBears
import Derived.WideShapes
import Derived.Lib.SmallJoins
namespace Go.Proofs.Ytmkpopfaaebgfaa
open Go.RowKit Go.ChangeShapes Go.WideShapes
set_option linter.unusedVariables false

section
variable {H : Type} {enc : TypeId × Value → H} {P : Program} {w : World} {base : Nat} {spare : Nat → Bool} {held : Bool}
theorem trod_one_int {e : TypeId} {k : IntKind} {fuel : Nat} {cs : List Value} {x : DataW H × List MemPlace} (he : P.underlying e = some (.int k)) (h : DataW.trod enc P w base spare held fuel e cs = some x) : ∃ z, cs = [.int k z] ∧ (Lit.int k z).wf = true := by
  cases fuel with
  | zero => simp [DataW.trod] at h
  | succ n =>
    unfold DataW.trod at h
    rw [he] at h
    split at h <;> simp_all
theorem ints_of {k : IntKind} : ∀ cs : List Value, (∀ (i : Nat) (c : Value), cs[i]? = some c → ∃ z, c = Value.int k z ∧ (Lit.int k z).wf = true) → ∃ zs : List Int, cs = zs.map (Value.int k) ∧ ∀ z ∈ zs, (Lit.int k z).wf = true
  | [], _ => ⟨[], rfl, by simp⟩
  | c :: cs, h => by
    obtain ⟨z, rfl, hz⟩ := h 0 c rfl
    obtain ⟨zs, rfl, hzs⟩ := ints_of cs (fun i c' hc => h (i + 1) c' (by simpa using hc))
    exact ⟨z :: zs, rfl, fun y hy => by
      rcases List.mem_cons.1 hy with rfl | hy
      · exact hz
      · exact hzs y hy⟩
/-- The cells of an array of integers. -/
theorem trod_array_ints {t e : TypeId} {k : IntKind} {n fuel : Nat} {cs : List Value} {x : DataW H × List MemPlace} (ht : P.underlying t = some (.array n e)) (he : P.underlying e = some (.int k)) (hce : P.cellsOf e = 1) (hct : P.cellsOf t = n)
    (h : DataW.trod enc P w base spare held fuel t cs = some x) : cs.length = n ∧ ∃ zs : List Int, cs = zs.map (Value.int k) ∧ ∀ z ∈ zs, (Lit.int k z).wf = true := by
  cases fuel with
  | zero => simp [DataW.trod] at h
  | succ m =>
    unfold DataW.trod at h
    rw [ht] at h
    have h' : (if cs.length = P.cellsOf t then ((List.range n).mapM fun i => DataW.trod enc P w base spare held m e ((cs.drop (i * P.cellsOf e)).take (P.cellsOf e))).map fun xs => (DataW.agg (xs.map (·.1)), xs.flatMap (·.2)) else none) = some x := by
      simpa using h
    split at h'
    · rename_i hl
      rw [hct] at hl
      refine ⟨hl, ints_of cs fun i c hc => ?_⟩
      obtain ⟨xs, hxs, _⟩ := Option.map_eq_some_iff.1 h'
      have hi : i < n := by rw [← hl]; exact (List.getElem?_eq_some_iff.1 hc).1
      cases ho : DataW.trod enc P w base spare held m e ((cs.drop (i * P.cellsOf e)).take (P.cellsOf e)) with
      | none =>
        rw [mapM_none_of (List.mem_range.2 hi) ho] at hxs
        cases hxs
      | some y =>
        obtain ⟨z, hz, hw⟩ := trod_one_int he ho
        rw [hce, Nat.mul_one] at hz
        have : ((cs.drop i).take 1)[0]? = some c := by
          rw [List.getElem?_take, if_pos (by omega), List.getElem?_drop, Nat.add_zero, hc]
        rw [hz] at this
        simp at this
        exact ⟨z, this.symm, hw⟩
    · cases h'

theorem okWide_array' {r : Reach} {b0 n : Nat} {t e : TypeId} {v : Value} (ht : P.underlying t = some (.array n e)) (h : Value.okWide P w r b0 t v) : ∃ cs, v = .agg cs ∧ cs.size = P.cellsOf t := by
  simp only [Value.okWide, ht] at h
  obtain ⟨cs, h1, h2, _⟩ := h
  exact ⟨cs, h1, h2⟩
end

section
variable {H : Type} {enc : TypeId × Value → H} {w : World} {base : Nat} {spare : Nat → Bool} {held : Bool}
set_option maxRecDepth 100000 in
/-- A table by value. -/
theorem open_rounds {r : Reach} {b0 : Nat} {v : Value} {d : DataW H} {p : List MemPlace} (hv : Value.okWide Try.prog w r b0 48 v) (h : DataW.Trod enc Try.prog w base spare held 48 v d p) :
    ∃ first keys : List UInt32, v = .agg (cw (first ++ keys)).toArray ∧ first.length = 8 ∧ keys.length = 64 := by
  obtain ⟨cs, rfl, hsz⟩ := okWide_struct Try.underlying48 hv
  obtain ⟨fuel, hf⟩ := h
  obtain ⟨y0, y1, n, _, hl, h0, h1⟩ := trod_struct2 Try.underlying48 hf
  have hc72 : Try.prog.cellsOf 48 = 72 := by kernel_rfl
  have hc8 : Try.prog.cellsOf 45 = 8 := by kernel_rfl
  have hc64 : Try.prog.cellsOf 46 = 64 := by kernel_rfl
  obtain ⟨l0, z0, e0, w0⟩ := trod_array_ints Try.underlying45 Try.underlying31 (by kernel_rfl) hc8 h0
  obtain ⟨l1, z1, e1, w1⟩ := trod_array_ints Try.underlying46 Try.underlying31 (by kernel_rfl) hc64 h1
  obtain ⟨f, lf, ef⟩ := words_of z0 w0
  obtain ⟨k, lk, ek⟩ := words_of z1 w1
  rw [ef] at e0
  rw [ek] at e1
  have hlen : cs.toList.length = 72 := by rw [← hc72]; exact hl
  have hl0 := congrArg List.length e0
  have hl1 := congrArg List.length e1
  rw [l0, List.length_map] at hl0
  rw [l1, List.length_map] at hl1
  refine ⟨f, k, ?_, hl0.symm, hl1.symm⟩
  congr 1
  have e : cs.toList = cw (f ++ k) := by
    rw [cw, List.map_append, ← cw, ← cw, ← e0, ← e1]
    show cs.toList = ((cs.toList.drop 0).take (Try.prog.cellsOf 45)) ++ ((cs.toList.drop 8).take (Try.prog.cellsOf 46))
    rw [hc8, hc64, List.drop_zero, List.take_of_length_le (l := cs.toList.drop 8) (by rw [List.length_drop]; omega), List.take_append_drop]
  rw [← e]
set_option maxRecDepth 100000 in
/-- A block by value. -/
theorem open_block {r : Reach} {b0 : Nat} {v : Value} {d : DataW H} {p : List MemPlace} (hv : Value.okWide Try.prog w r b0 63 v) (h : DataW.Trod enc Try.prog w base spare held 63 v d p) :
    ∃ b : List UInt8, v = .agg (cb b).toArray ∧ b.length = 64 := by
  obtain ⟨cs, rfl, hsz⟩ := okWide_array' Try.underlying63 hv
  obtain ⟨fuel, hf⟩ := h
  obtain ⟨l0, z0, e0, w0⟩ := trod_array_ints Try.underlying63 Try.underlying5 (by kernel_rfl) (by kernel_rfl) hf
  obtain ⟨b, lb, eb⟩ := bytes_of z0 w0
  rw [eb] at e0
  have hl0 := congrArg List.length e0
  rw [l0, List.length_map] at hl0
  refine ⟨b, ?_, hl0.symm⟩
  congr 1
  have e : cs.toList = cb b := e0
  rw [← e]
end
end Go.Proofs.Ytmkpopfaaebgfaa
