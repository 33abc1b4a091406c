/-
  In a region that draws its order and only reads: a struct is loaded, two structs are told apart.
-/
import Derived.Test.YtangblcfdboghaaCodeEq
namespace Go.Proofs.Ytangblcfdboghaa
open Go.RowKit
set_option linter.unusedVariables false

section
variable {P : Program} {C : World → Prop} {a : Act} {o : Oper} {K : Act → Prop}
theorem quiet_load (x : Operand) (T : TypeId) (hop : o.op = .load T x) {b off B : Nat} (hx : a.eval x = .pointer (some ⟨b, off, none⟩)) (xs : List Value) (n : Nat) (hn : xs.length = n) (hT : aggB P T n = true) (hs : ∀ w, C w → Sees w B (some ⟨b, off, none⟩) xs) (hk : K (a.put o.dst (.agg xs.toArray))) : o.quiet P a C K :=
  ⟨.agg xs.toArray, fun w hc => by
    unfold Oper.quietAt
    rw [run_load_agg x T hop hx xs n hn hT (hs w hc)]
    exact ⟨rfl, rfl⟩, hk⟩
theorem quiet_neq (x y : Operand) (T T' : TypeId) (hop : o.op = .binOp .neq T x y T') {X Y : Array Value} (hx : a.eval x = .agg X) (hy : a.eval y = .agg Y) (hg : P.eqGuardType P.depth T = false) (r : Bool) (hr : ∀ w, (binOp .neq T (.agg X) (.agg Y)).run P w = .ok (.bool r) w) (hk : K (a.put o.dst (.bool r))) : o.quiet P a C K :=
  ⟨.bool r, fun w hc => by
    have h := hr w
    unfold Oper.quietAt
    have e : (execOp a.eval o).run P w = .ok (.value (.bool r)) w := by
      simp [execOp, hop, hx, hy, eqGuard, hg, h]
    rw [e]
    exact ⟨rfl, rfl⟩, hk⟩
end
theorem Sees.drewN {w : World} {B : Nat} {A : Option Addr} {xs : List Value} (h : Sees w B A xs) (q : Nat) : Sees (w.drewN q) B A xs := h.keep (fun p hp => by simp)
theorem guard_var : Try.prog.eqGuardType Try.prog.depth 56 = false := by kernel_rfl
theorem guard_ins : Try.prog.eqGuardType Try.prog.depth 53 = false := by kernel_rfl
end Go.Proofs.Ytangblcfdboghaa
