/-
  Lists of digests, cut.
-/
import Derived.Test.YtdpbnppngkamiaaMerkTools
namespace Go.Proofs.Ytdpbnppngkamiaa
open Go.RowKit
set_option linter.unusedVariables false

theorem run_fromD (A : Option Addr) (n c k : Nat) (hk : k ≤ n) (hc : n ≤ c) :
    ∃ A' : Option Addr, (∀ w, (Instr.slice 81 (.slice A n c) (some (.int .i64 (k : Int))) none none).run Try.prog w = .ok (.slice A' (n - k) (c - k)) w) ∧ ∀ (w : World) (ds : List (List UInt8)), Digs w A n ds → Digs w A' (n - k) (ds.drop k) := by
  have hz : ∀ w, (sizeOf (Try.prog.elem 81)).run Try.prog w = .ok 32 w := fun w => by kernel_rfl
  have hr : ∀ w, (Instr.slice 81 (.slice A n c) (some (.int .i64 (k : Int))) none none).run Try.prog w = .ok (sliced A k n c 32) w := fun w => by
    rw [run_slice_l w 81 A n c elemD .i64 (k : Int) (by omega) (by omega), hz]
    simp only [Result.andThen, Int.toNat_natCast]
  by_cases hkc : k = c
  · subst hkc
    refine ⟨A, fun w => ?_, fun w ds hd => ⟨?_, by rw [List.length_drop, hd.len], all_drop hd.all k⟩⟩
    · rw [hr]
      cases A <;> simp [sliced]
    · rw [List.drop_of_length_le (by rw [hd.len]; omega)]
      exact Sees.nil
  · refine ⟨A.map (·.add (k * 32)), fun w => ?_, fun w ds hd => ⟨?_, by rw [List.length_drop, hd.len], all_drop hd.all k⟩⟩
    · rw [hr]
      cases A <;> simp [sliced, Ne.symm hkc]
    · have hf := len_flat hd.all
      by_cases h0 : 0 < ds.length
      · obtain ⟨g, o, rfl, _⟩ := hd.at_ (k := 0) (by rw [← hd.len]; exact h0)
        have h1 := hd.sees.drop_ (32 * k)
        have e : (cb ds.flatten).drop (32 * k) = cb (ds.drop k).flatten := by rw [← drop_flat hd.all k]; simp [cb, List.map_drop]
        rw [e] at h1
        show Sees w w.heap.size (some ((⟨g, o, none⟩ : Addr).add (k * 32))) _
        rw [Addr.add_lit, Nat.mul_comm]
        exact h1
      · have e : ds = [] := List.eq_nil_of_length_eq_zero (by omega)
        rw [e]
        simpa using Sees.nil
theorem run_min8 {o : Oper} {a : Act} {w : World} (x : Operand) (hop : o.op = .call { callee := .builtin .min, args := #[x, .const (.int .i64 8)], argTypes := #[3, 3] }) (n m : Nat) (hx : a.eval x = .int .i64 (n : Int)) (hm : m = min n 8) : (execOp a.eval o).run Try.prog w = .ok (.value (.int .i64 (m : Int))) w := by
  subst hm
  have hc : a.eval (.const (.int .i64 8)) = .int .i64 8 := rfl
  unfold execOp
  rw [hop]
  simp only [resolve, invoke, builtin, Sem.run_bind, Sem.run_pure, Result.andThen_ok, List.map_toArray, List.map_cons, List.map_nil, hx, hc]
  clear hx hop hc
  rcases Nat.lt_or_ge 8 n with h | h
  · rw [Nat.min_eq_right (by omega)]
    have h2 : ¬ ((n : Int) ≤ 8) := by omega
    have h3 : ¬ (n ≤ 8) := by omega
    have h4 : (8 : Int) < (n : Int) := by omega
    go_simp
  · rw [Nat.min_eq_left (by omega)]
    have h2 : (n : Int) ≤ 8 := by omega
    go_simp
    omega
end Go.Proofs.Ytdpbnppngkamiaa
