/-
  Digests, secrets and signatures by value, opened.
-/
import Derived.Test.YtcfjbllmaejiaaaByVal
import Derived.Test.YtcfjbllmaejiaaaArrInts
namespace Go.Proofs.Ytcfjbllmaejiaaa
open Go.RowKit Go.ChangeShapes Go.WideShapes
set_option linter.unusedVariables false

section
variable {H : Type} {enc : TypeId × Value → H} {w : World} {base : Nat} {spare : Nat → Bool} {held : Bool}
set_option maxRecDepth 100000 in
theorem open_dig {r : Reach} {b0 : Nat} {v : Value} {d : DataW H} {p : List MemPlace} (hv : Value.okWide Try.prog w r b0 84 v) (h : DataW.Trod enc Try.prog w base spare held 84 v d p) :
    ∃ b : List UInt8, v = .agg (cb b).toArray ∧ b.length = 32 := by
  obtain ⟨z, rfl, hl, hw⟩ := open_array_ints Try.underlying84 Try.underlying5 (by kernel_rfl) (by kernel_rfl) hv h
  obtain ⟨b, lb, eb⟩ := bytes_of z hw
  exact ⟨b, by rw [eb], lb.trans hl⟩
set_option maxRecDepth 100000 in
theorem open_sec {r : Reach} {b0 : Nat} {v : Value} {d : DataW H} {p : List MemPlace} (hv : Value.okWide Try.prog w r b0 83 v) (h : DataW.Trod enc Try.prog w base spare held 83 v d p) :
    ∃ b : List UInt8, v = .agg (cb b).toArray ∧ b.length = 32 := by
  obtain ⟨z, rfl, hl, hw⟩ := open_array_ints Try.underlying83 Try.underlying5 (by kernel_rfl) (by kernel_rfl) hv h
  obtain ⟨b, lb, eb⟩ := bytes_of z hw
  exact ⟨b, by rw [eb], lb.trans hl⟩
theorem trod_array_digs {P : Program} {t e u : TypeId} {n fuel : Nat} {cs : List Value} {x : DataW H × List MemPlace} (ht : P.underlying t = some (.array n e)) (he : P.underlying e = some (.array 32 u)) (hu : P.underlying u = some (.int .u8)) (hcu : P.cellsOf u = 1) (hce : P.cellsOf e = 32) (hct : P.cellsOf t = n * 32)
    (h : DataW.trod enc P w base spare held fuel t cs = some x) : cs.length = n * 32 ∧ ∃ zs : List Int, cs = zs.map (Value.int .u8) ∧ ∀ z ∈ zs, (Lit.int .u8 z).wf = true := by
  cases fuel with
  | zero => simp [DataW.trod] at h
  | succ m =>
    unfold DataW.trod at h
    rw [ht] at h
    have h' : (if cs.length = P.cellsOf t then ((List.range n).mapM fun i => DataW.trod enc P w base spare held m e ((cs.drop (i * P.cellsOf e)).take (P.cellsOf e))).map fun xs => (DataW.agg (xs.map (·.1)), xs.flatMap (·.2)) else none) = some x := by
      simpa using h
    split at h'
    · rename_i hl
      rw [hct] at hl
      refine ⟨hl, ints_of cs fun i c hc => ?_⟩
      obtain ⟨xs, hxs, _⟩ := Option.map_eq_some_iff.1 h'
      have hi : i < n * 32 := by rw [← hl]; exact (List.getElem?_eq_some_iff.1 hc).1
      have hi2 : i / 32 < n := by omega
      cases ho : DataW.trod enc P w base spare held m e ((cs.drop (i / 32 * P.cellsOf e)).take (P.cellsOf e)) with
      | none =>
        rw [mapM_none_of (List.mem_range.2 hi2) ho] at hxs
        cases hxs
      | some y =>
        obtain ⟨ly, zs, hz, hw⟩ := trod_array_ints he hu hcu hce ho
        have e1 : ((cs.drop (i / 32 * P.cellsOf e)).take (P.cellsOf e))[i % 32]? = some c := by
          rw [hce, List.getElem?_take, if_pos (by omega), List.getElem?_drop, show i / 32 * 32 + i % 32 = i from by omega, hc]
        rw [hz, List.getElem?_map] at e1
        obtain ⟨z, hz1, hz2⟩ := Option.map_eq_some_iff.1 e1
        exact ⟨z, hz2.symm, hw z (List.mem_of_getElem? hz1)⟩
    · cases h'
end
end Go.Proofs.Ytcfjbllmaejiaaa
