/-
  CheckTypes over its arguments as they are opened.
-/
import Derived.Test.YtangblcfdboghaaCheckTypeA
import Derived.Test.YtangblcfdboghaaCheckTypeB
import Derived.Test.YtangblcfdboghaaCheckTypeC
import Derived.Test.YtangblcfdboghaaCheckTypeD
import Derived.OpenShut
namespace Go.Proofs.Ytangblcfdboghaa
open Go.RowKit
set_option linter.unusedVariables false

theorem checkTypes_law (w : World) (a : Int) (ha : (Lit.int .u8 a).wf = true) (b : Int) (hb : (Lit.int .u8 b).wf = true) (c : Int) (hc : (Lit.int .u8 c).wf = true) (d : Int) (hd : (Lit.int .u8 d).wf = true) :
    Calls Try.prog 9 #[.int .u8 a, .int .u8 b, .int .u8 c, .int .u8 d] w fun e w' => e = .returned (.bool true) ∧ Below w.heap.size w w' := by
  have h1 := bounds_u8 ha
  have h2 := bounds_u8 hb
  have h3 := bounds_u8 hc
  have h4 := bounds_u8 hd
  obtain ⟨a, rfl⟩ : ∃ k : Nat, a = (k : Int) := ⟨a.toNat, by omega⟩
  obtain ⟨b, rfl⟩ : ∃ k : Nat, b = (k : Int) := ⟨b.toNat, by omega⟩
  obtain ⟨c, rfl⟩ : ∃ k : Nat, c = (k : Int) := ⟨c.toNat, by omega⟩
  obtain ⟨d, rfl⟩ : ∃ k : Nat, d = (k : Int) := ⟨d.toNat, by omega⟩
  have mk : ∀ s o : Nat, d % 11 = s → s < 11 → (cb opsL)[s]? = some (.int .u8 (o : Int)) → o < 256 → TyIn a b c d (1 + a % 5) (1 + b % 5) (1 + c % 5) s o := fun s o e1 e2 e3 e4 =>
    ⟨by omega, by omega, by omega, rfl, rfl, rfl, e1, e2, e3, e4⟩
  rcases (show d % 11 = 0 ∨ d % 11 = 1 ∨ d % 11 = 2 ∨ d % 11 = 3 ∨ d % 11 = 4 ∨ d % 11 = 5 ∨ d % 11 = 6 ∨ d % 11 = 7 ∨ d % 11 = 8 ∨ d % 11 = 9 ∨ d % 11 = 10 by omega) with h | h | h | h | h | h | h | h | h | h | h
  · exact ty_w4 (mk 0 4 h (by decide) rfl (by decide)) rfl
  · exact ty_w5 (mk 1 5 h (by decide) rfl (by decide)) rfl
  · exact ty_w6 (mk 2 6 h (by decide) rfl (by decide)) rfl
  · exact ty_w7 (mk 3 7 h (by decide) rfl (by decide)) rfl
  · exact ty_w8 (mk 4 8 h (by decide) rfl (by decide)) rfl
  · exact ty_wany (mk 5 9 h (by decide) rfl (by decide)) (by decide)
  · exact ty_wany (mk 6 10 h (by decide) rfl (by decide)) (by decide)
  · exact ty_wany (mk 7 11 h (by decide) rfl (by decide)) (by decide)
  · exact ty_wany (mk 8 13 h (by decide) rfl (by decide)) (by decide)
  · exact ty_w14 (mk 9 14 h (by decide) rfl (by decide)) rfl
  · exact ty_wconv (mk 10 15 h (by decide) rfl (by decide)) rfl
end Go.Proofs.Ytangblcfdboghaa
