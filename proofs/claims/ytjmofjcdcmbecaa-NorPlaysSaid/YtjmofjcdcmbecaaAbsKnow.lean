/-
  Calls that are known ahead by contracts, and calls whose arguments are handed on without being looked into.
-/
import Derived.Test.YtjmofjcdcmbecaaAbsMain
namespace Go.Proofs.Ytjmofjcdcmbecaa
open Go.RowKit
set_option linter.unusedVariables false
section
variable {P : Program} {ρ : Pos} {h : H} {w w' : World} {orc : Known}
/-- Memory that was there is there. -/
theorem Rel.below (r : Rel ρ h w) (b : Below w.heap.size w w') : Rel ρ h w' :=
  ⟨fun c x hc => by
    obtain ⟨g, C, cur, fz, h1, h2, h3⟩ := r.at_ c x hc
    exact ⟨g, C, cur, fz, h1, by rw [b.block g (Array.getElem?_eq_some_iff.1 h2).1]; exact h2, h3⟩, r.inj⟩
theorem Ext.of_below (b : Below w.heap.size w w') : Ext ρ h w ρ h w' :=
  ⟨Pos.le_refl _, Nat.le_refl _, b.os, b.tape, b.output, b.size, fun k hk _ => b.block k hk, fun c x k C hc hr hp _ => ⟨c, x, C, hc, hr, hp⟩, fun _ _ => rfl, fun _ _ hc _ => hc⟩
/-- A call that leaves all memory as it was, and tells a value without addresses. -/
theorem CallTo.of_below {f : FuncId} {args : List AV} {r : AV} (H : ∀ ρ w vs, conL ρ args = some vs → Rel ρ h w → ∃ v, con ρ r = some v ∧ Calls P f vs.toArray w fun e w' => e = .returned v ∧ Below w.heap.size w w') : CallTo P f args h r h := by
  intro ρ w vs hc hm hn
  obtain ⟨v, hv, k⟩ := H ρ w vs hc hm
  refine k.mono ?_
  rintro e w' ⟨rfl, hb⟩
  exact ⟨ρ, v, hv, rfl, hm.below hb, hn, .of_below hb⟩
theorem con_opq_mk {v : Value} (h : opaqV v = true) : con ρ (.opq v) = some v := by simp only [con, h]
/-- The call tells true, whatever its arguments are. -/
theorem told_true_of (ok : Known.Ok P orc) {f : FuncId} {args : List AV} {vs : List Value} (e : tells (orc f args noH) = true) (hv : ∀ ρ, conL ρ args = some vs) (w : World) : Calls P f vs.toArray w fun e w' => e = .returned (.bool true) ∧ Below w.heap.size w w' := by
  unfold tells at e
  split at e
  · rename_i h' hr
    refine (ok f args noH (.bool true) h' hr (fun _ => none) w vs (hv _) (noH_rel w) (fun _ _ => rfl)).mono ?_
    rintro e' w' ⟨ρ', v, h1, rfl, _, _, h2⟩
    simp [con] at h1
    subst h1
    exact ⟨rfl, h2.below (fun _ _ hb => (noH_get hb).elim)⟩
  · cases e
end
end Go.Proofs.Ytjmofjcdcmbecaa
