/-
  A line of pushes and signs: what its walks share.
-/
import Derived.Test.YtangblcfdboghaaCheckCopy
import Derived.Test.YtangblcfdboghaaCheckTypePure
import Derived.ArgAppend
namespace Go.Proofs.Ytangblcfdboghaa
open Go.RowKit
set_option linter.unusedVariables false
set_option linter.constructorNameAsVariable false

theorem zero11 : ((Try.prog.info? 68).map (·.zero)) = some (some (.agg (cb (List.replicate 11 0)).toArray)) := by kernel_rfl
theorem agg11 : aggB Try.prog 68 11 = true := by kernel_rfl
/-- What each case of the sign wants: the numbers, as the walk sees them. -/
structure TyIn (a b c d x y z s o : Nat) : Prop where
  x1 : 1 ≤ x ∧ x ≤ 5
  y1 : 1 ≤ y ∧ y ≤ 5
  z1 : 1 ≤ z ∧ z ≤ 5
  ex : 1 + a % 5 = x
  ey : 1 + b % 5 = y
  ez : 1 + c % 5 = z
  es : d % 11 = s
  s1 : s < 11
  ho : (cb opsL)[s]? = some (.int .u8 (o : Int))
  o1 : o < 256
theorem run_cut44 (g : Nat) (w : World) : (Instr.slice 24 (.slice (some ⟨g, 0, none⟩) 5 5) none (some (.int .i64 4)) (some (.int .i64 4))).run Try.prog w = .ok (.slice (some ⟨g, 0, none⟩) 4 4) w := by kernel_rfl
/-- Four instructions of a row of five, with two more behind them, in a row of their own. -/
theorem run_app42 (w : World) (ty : TypeId) (g h : Nat) (xs ys : List Value) (hx : xs.length = 16) (hy : ys.length = 8) (hcx : ∀ j u, xs[j]? = some u → w.cell? ⟨g, j, none⟩ = some u) (hcy : ∀ j u, ys[j]? = some u → w.cell? ⟨h, j, none⟩ = some u) :
    ∃ g' c' w', (Builtin.append_ #[24, 24] ty #[.slice (some ⟨g, 0, none⟩) 4 4, .slice (some ⟨h, 0, none⟩) 2 2]).run Try.prog w = .ok (.slice (some ⟨g', 0, none⟩) 6 c') w' ∧ w'.ownsRow w.heap.size 53 4 (.slice (some ⟨g', 0, none⟩) 6 c') 6 (xs ++ ys) ∧ Below w.heap.size w w' := by
  obtain ⟨i0, hi, hz0, hz1, hz2⟩ := info_parts infoJ
  obtain ⟨v', w', hr, hown, hgr⟩ := run_append_arg_grows (P := Try.prog) (w := w) 24 ty 53 i0 (.agg (Jn.cells default).toArray) 4 24 Try.underlying24 hi hz0 hz1 hz2 rfl (by omega) ⟨g, 0, none⟩ 4 4 xs (by rw [hx]) (fun j u hj => by rw [Addr.add_lit, Nat.zero_add]; exact hcx j u hj) ⟨h, 0, none⟩ 2 2 ys (by rw [hy]) (fun j u hj => by rw [Addr.add_lit, Nat.zero_add]; exact hcy j u hj) (by omega) (by unfold maxLen; omega) (by omega)
  have hB : Below w.heap.size w w' := (Below.refl _ _).grown hgr (Nat.le_refl _) (by simp)
  rcases hown.2 with ⟨rfl, h0⟩ | ⟨g', cap, cu, rfl, _⟩
  · omega
  · exact ⟨g', cap, w', hr, hown, hB⟩
end Go.Proofs.Ytangblcfdboghaa
