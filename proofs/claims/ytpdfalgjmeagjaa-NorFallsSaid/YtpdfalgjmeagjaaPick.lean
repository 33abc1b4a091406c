/-
  What blockhouselow.Pick answers.
-/
import Derived.Test.YtpdfalgjmeagjaaMem
import Derived.Test.YtpdfalgjmeagjaaLeaf
namespace Go.Proofs.Ytpdfalgjmeagjaa
open Go.RowKit
set_option linter.unusedVariables false
theorem wrap64_' (x : Int) (h : 0 ≤ x) (h' : x < 1000000) : IntKind.i64.wrap x = x := wrap_small x h (by omega)
theorem Pick_any (z : Int) (n : Nat) (w : World) (hn : 0 < n) (hb : n ≤ 1000) (hz : -9223372036854775808 ≤ z ∧ z ≤ 9223372036854775807) :
    Calls Try.prog 30 #[.int .i64 z, .int .i64 (n : Int)] w fun e w' => ∃ r : Nat, r < n ∧ e = .returned (.int .i64 (r : Int)) ∧ w' = w := by
  have h0 : (decide ((n : Int) ≤ 0)) = false := by simp; omega
  have h1 : z.tmod (n : Int) < (n : Int) := Int.tmod_lt_of_pos _ (by omega)
  have h2 : -(n : Int) < z.tmod (n : Int) := Int.lt_tmod_of_pos z (by omega)
  go_enter Try.func30, Try.ntmps30
  by_cases hs : z.tmod (n : Int) < 0
  · have hw : IntKind.i64.wrap (z.tmod (n : Int) + (n : Int)) = z.tmod (n : Int) + (n : Int) := wrap64_' _ (by omega) (by omega)
    go_wp2
    all_goals first | omega | skip
    go_ret
    refine ⟨(z.tmod (n : Int) + (n : Int)).toNat, by omega, ret_int (by omega), rfl⟩
  · go_wp2
    all_goals first | omega | skip
    go_ret
    refine ⟨(z.tmod (n : Int)).toNat, by omega, ret_int (by omega), rfl⟩
end Go.Proofs.Ytpdfalgjmeagjaa
