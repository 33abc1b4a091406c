/-
  Digests, secrets and signatures by value, opened.
-/
import Derived.Test.YtpdfalgjmeagjaaByVal
import Derived.Test.YtpdfalgjmeagjaaArrInts
namespace Go.Proofs.Ytpdfalgjmeagjaa
open Go.RowKit Go.ChangeShapes Go.WideShapes
set_option linter.unusedVariables false

section
variable {H : Type} {enc : TypeId × Value → H} {w : World} {base : Nat} {spare : Nat → Bool} {held : Bool}
set_option maxRecDepth 100000 in
theorem open_dig {r : Reach} {b0 : Nat} {v : Value} {d : DataW H} {p : List MemPlace} (hv : Value.okWide Try.prog w r b0 38 v) (h : DataW.Trod enc Try.prog w base spare held 38 v d p) :
    ∃ b : List UInt8, v = .agg (cb b).toArray ∧ b.length = 32 := by
  obtain ⟨z, rfl, hl, hw⟩ := open_array_ints Try.underlying38 Try.underlying5 (by kernel_rfl) (by kernel_rfl) hv h
  obtain ⟨b, lb, eb⟩ := bytes_of z hw
  exact ⟨b, by rw [eb], lb.trans hl⟩
set_option maxRecDepth 100000 in
theorem open_sec {r : Reach} {b0 : Nat} {v : Value} {d : DataW H} {p : List MemPlace} (hv : Value.okWide Try.prog w r b0 37 v) (h : DataW.Trod enc Try.prog w base spare held 37 v d p) :
    ∃ b : List UInt8, v = .agg (cb b).toArray ∧ b.length = 32 := by
  obtain ⟨z, rfl, hl, hw⟩ := open_array_ints Try.underlying37 Try.underlying5 (by kernel_rfl) (by kernel_rfl) hv h
  obtain ⟨b, lb, eb⟩ := bytes_of z hw
  exact ⟨b, by rw [eb], lb.trans hl⟩
theorem trod_array_digs {P : Program} {t e u : TypeId} {n fuel : Nat} {cs : List Value} {x : DataW H × List MemPlace} (ht : P.underlying t = some (.array n e)) (he : P.underlying e = some (.array 32 u)) (hu : P.underlying u = some (.int .u8)) (hcu : P.cellsOf u = 1) (hce : P.cellsOf e = 32) (hct : P.cellsOf t = n * 32)
    (h : DataW.trod enc P w base spare held fuel t cs = some x) : cs.length = n * 32 ∧ ∃ zs : List Int, cs = zs.map (Value.int .u8) ∧ ∀ z ∈ zs, (Lit.int .u8 z).wf = true := by
  cases fuel with
  | zero => simp [DataW.trod] at h
  | succ m =>
    unfold DataW.trod at h
    rw [ht] at h
    have h' : (if cs.length = P.cellsOf t then ((List.range n).mapM fun i => DataW.trod enc P w base spare held m e ((cs.drop (i * P.cellsOf e)).take (P.cellsOf e))).map fun xs => (DataW.agg (xs.map (·.1)), xs.flatMap (·.2)) else none) = some x := by
      simpa using h
    split at h'
    · rename_i hl
      rw [hct] at hl
      refine ⟨hl, ints_of cs fun i c hc => ?_⟩
      obtain ⟨xs, hxs, _⟩ := Option.map_eq_some_iff.1 h'
      have hi : i < n * 32 := by rw [← hl]; exact (List.getElem?_eq_some_iff.1 hc).1
      have hi2 : i / 32 < n := by omega
      cases ho : DataW.trod enc P w base spare held m e ((cs.drop (i / 32 * P.cellsOf e)).take (P.cellsOf e)) with
      | none =>
        rw [mapM_none_of (List.mem_range.2 hi2) ho] at hxs
        cases hxs
      | some y =>
        obtain ⟨ly, zs, hz, hw⟩ := trod_array_ints he hu hcu hce ho
        have e1 : ((cs.drop (i / 32 * P.cellsOf e)).take (P.cellsOf e))[i % 32]? = some c := by
          rw [hce, List.getElem?_take, if_pos (by omega), List.getElem?_drop, show i / 32 * 32 + i % 32 = i from by omega, hc]
        rw [hz, List.getElem?_map] at e1
        obtain ⟨z, hz1, hz2⟩ := Option.map_eq_some_iff.1 e1
        exact ⟨z, hz2.symm, hw z (List.mem_of_getElem? hz1)⟩
    · cases h'
set_option maxRecDepth 100000 in
theorem open_lam {r : Reach} {b0 : Nat} {v : Value} {d : DataW H} {p : List MemPlace} (hv : Value.okWide Try.prog w r b0 138 v) (h : DataW.Trod enc Try.prog w base spare held 138 v d p) :
    ∃ s o : List UInt8, v = .agg (cb (s ++ o)).toArray ∧ s.length = 8192 ∧ o.length = 8192 := by
  obtain ⟨cs, rfl, hsz⟩ := okWide_struct Try.underlying138 hv
  obtain ⟨fuel, hf⟩ := h
  obtain ⟨y0, y1, n, _, hl, h0, h1⟩ := trod_struct2 Try.underlying138 hf
  have hc : Try.prog.cellsOf 138 = 16384 := by kernel_rfl
  have hc0 : Try.prog.cellsOf 135 = 256 * 32 := by kernel_rfl
  have hc1 : Try.prog.cellsOf 136 = 256 * 32 := by kernel_rfl
  obtain ⟨l0, z0, e0, w0⟩ := trod_array_digs Try.underlying135 Try.underlying37 Try.underlying5 (by kernel_rfl) (by kernel_rfl) hc0 h0
  obtain ⟨l1, z1, e1, w1⟩ := trod_array_digs Try.underlying136 Try.underlying38 Try.underlying5 (by kernel_rfl) (by kernel_rfl) hc1 h1
  obtain ⟨f, lf, ef⟩ := bytes_of z0 w0
  obtain ⟨k, lk, ek⟩ := bytes_of z1 w1
  rw [ef] at e0
  rw [ek] at e1
  have hlen : cs.toList.length = 16384 := by rw [← hc]; exact hl
  have hl0 := congrArg List.length e0
  have hl1 := congrArg List.length e1
  rw [l0, List.length_map] at hl0
  rw [l1, List.length_map] at hl1
  refine ⟨f, k, ?_, hl0.symm, hl1.symm⟩
  congr 1
  have e : cs.toList = cb (f ++ k) := by
    rw [cb, List.map_append, ← cb, ← cb, ← e0, ← e1]
    show cs.toList = ((cs.toList.drop 0).take (Try.prog.cellsOf 135)) ++ ((cs.toList.drop 8192).take (Try.prog.cellsOf 136))
    rw [hc0, hc1, List.drop_zero, List.take_of_length_le (l := cs.toList.drop 8192) (by rw [List.length_drop]; omega), List.take_append_drop]
  rw [← e]
end
end Go.Proofs.Ytpdfalgjmeagjaa
