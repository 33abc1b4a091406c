/-
  The small machine's run of a function with all that it calls; a call without arguments that tells true.
-/
import Derived.Test.YtmeloffdaninmaaAbsOrder
namespace Go.Proofs.Ytmeloffdaninmaa
open Go.RowKit
set_option linter.unusedVariables false

/-- Nothing is known of calls ahead. -/
def noneKnown : Known := fun _ _ _ => none
/-- By what is known, else by the body; so many calls deep, so many steps within a body. -/
def runF (P : Program) (orc : Known) (fuel : Nat) : Nat → Known
  | 0 => orc
  | n + 1 => fun f args h => match orc f args h with
    | some r => some r
    | none => enterA P (fun c s => ex P (runF P orc fuel n) (openRun P (runF P orc fuel n)) fuel c s) f args h
section
variable {P : Program} {orc : Known}
theorem noneKnown_ok : Known.Ok P noneKnown := fun f args h r h' e => by cases e
theorem runF_ok (hm : P.follows .mixedOrders = true) (ok : Known.Ok P orc) (fuel : Nat) : ∀ n, Known.Ok P (runF P orc fuel n)
  | 0 => ok
  | n + 1 => by
    have ih := runF_ok hm ok fuel n
    intro f args h r h' e
    simp only [runF] at e
    split at e
    · rename_i q hq
      simp only [Option.some.injEq] at e
      subst e
      exact ok f args h r h' hq
    · exact enter_sound (fun c s x s' hx => (ex_sound ih (open_sound ih hm) fuel).1 c s x s' hx) f args h r h' e
def noH : H := ⟨.nil, 0⟩
theorem noH_get {b : Nat} {x : Blk} (h : noH.get b = some x) : False := by
  rw [show noH.get b = none from get_nilH 0 b] at h
  cases h
theorem noH_rel (w : World) : Rel (fun _ => none) noH w := ⟨fun _ _ hb => (noH_get hb).elim, fun _ _ _ _ _ _ _ hb => (noH_get hb).elim⟩
/-- The call tells true. -/
def tells (r : Option (AV × H)) : Bool := match r with
  | some (.bool true, _) => true
  | _ => false
theorem told_true (ok : Known.Ok P orc) {f : FuncId} (e : tells (orc f [] noH) = true) (w : World) : Calls P f #[] w fun e w' => e = .returned (.bool true) ∧ Below w.heap.size w w' := by
  unfold tells at e
  split at e
  · rename_i h' hr
    refine (ok f [] noH (.bool true) h' hr (fun _ => none) w [] rfl (noH_rel w) (fun _ _ => rfl)).mono ?_
    rintro e' w' ⟨ρ', v, h1, rfl, _, _, h2⟩
    simp [con] at h1
    subst h1
    exact ⟨rfl, h2.below (fun _ _ hb => (noH_get hb).elim)⟩
  · cases e
end
end Go.Proofs.Ytmeloffdaninmaa
