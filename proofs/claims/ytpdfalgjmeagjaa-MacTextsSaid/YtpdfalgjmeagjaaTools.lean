/-
  Small laws that the statements' walks share: a region that draws its order and ends in one call, a slice that is cut, and what is known of an argument that is a slice of bytes or of words.
-/
import Derived.Test.YtpdfalgjmeagjaaAwake
import Derived.Test.YtpdfalgjmeagjaaArr
import Derived.Test.YtpdfalgjmeagjaaRow
import Derived.StillTailTactics
import Derived.OpenShut
import Derived.ProofKit
namespace Go.Proofs.Ytpdfalgjmeagjaa
open Go.RowKit
set_option linter.unusedVariables false

theorem elem8 : Try.prog.underlying 27 = some (.slice (Try.prog.elem 27)) := by kernel_rfl
/-- 'b[:k]'. -/
theorem run_cut {w : World} (A : Option Addr) (n c k : Nat) (hk : k ≤ c) : (Instr.slice 27 (.slice A n c) none (some (.int .i64 (k : Int))) none).run Try.prog w = .ok (.slice A k c) w := by
  have hz : (sizeOf (Try.prog.elem 27)).run Try.prog w = .ok 1 w := by kernel_rfl
  rw [run_slice_h w 27 A n c elem8 .i64 (k : Int) (by omega) (by omega), hz]
  simp only [Result.andThen, sliced, Int.toNat_natCast, Nat.zero_mul, Nat.sub_zero]
  cases A <;> simp [Addr.add]
theorem SameWords_below {A B : Option Addr} {c d n m : Nat} {l b : List UInt32} {w : World} {r : Bool} (hr : (l == b) = r) (hs : Sees w w.heap.size A (cw l)) (ht : Sees w w.heap.size B (cw b)) (hl : l.length = n) (hm : b.length = m) (hn : n ≤ 1099511627776) :
    Calls Try.prog 42 #[.slice A n c, .slice B m d] w fun e w' => e = .returned (.bool r) ∧ Below w.heap.size w w' := by
  subst hr
  refine (SameWords_any A B c d n m l b w hs ht hl hm hn).mono ?_
  rintro e w' ⟨rfl, k, rfl⟩
  exact ⟨rfl, below_drewN' (Below.refl _ _) k⟩

end Go.Proofs.Ytpdfalgjmeagjaa
