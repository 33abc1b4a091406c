/-
  A drive's Open and Part, where there is no place; both of its answers at once.
-/
import Derived.Test.YtcfjbllmaejiaaaDrOpen
namespace Go.Proofs.Ytcfjbllmaejiaaa
open Go.RowKit
set_option linter.unusedVariables false

section
variable {w : World} {base d p b f m : Nat} {S : Fl}
set_option maxRecDepth 100000 in
theorem Open_no (h : NorAt base w p b S) (h1 : 1 ≤ S.n) (s k : Int) (hs : s < 9223372036854775808) (hno : secsOk S.n s k = false) :
    Calls Try.prog 50 #[.pointer (some ⟨p, 0, none⟩), .int .i64 s, .int .i64 k] w fun e w' => e = .returned (.tuple #[.pointer none, .int .i64 2]) ∧ w' = w := by
  have hS := Sectors_any h
  have hH := hasSectors_any S.n h.n_le s k hs false hno w
  have h0 : ¬ ((S.n : Int) = 0) := by omega
  clear hs hno
  go_enter Try.func50, Try.ntmps50
  go_wp2_with fail
  refine hS.mono ?_
  rintro e w1 ⟨rfl, rfl⟩
  go_wp2_with fail
  refine hH.mono ?_
  rintro e w2 ⟨rfl, rfl⟩
  go_wp2_with fail
  go_ret2
  exact ⟨rfl, rfl⟩
theorem secsOk_out {n : Nat} {s k : Int} (h : secsOk n s k = true) : ∃ s' k' : Nat, s = (s' : Int) ∧ k = (k' : Int) ∧ s' + k' ≤ n ∧ 1 ≤ k' := by
  simp [secsOk] at h
  obtain ⟨s', rfl⟩ := Int.eq_ofNat_of_zero_le (show 0 ≤ s by omega)
  obtain ⟨k', rfl⟩ := Int.eq_ofNat_of_zero_le (show 0 ≤ k by omega)
  exact ⟨s', k', rfl, rfl, by omega, by omega⟩
end
end Go.Proofs.Ytcfjbllmaejiaaa
