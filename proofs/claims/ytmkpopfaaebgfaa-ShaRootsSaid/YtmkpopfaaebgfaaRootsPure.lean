/-
  The first 64 primes, and that the table's words are the first bits behind the point of their roots: plain numbers, reckoned by the kernel.
-/
import Derived.Test.YtmkpopfaaebgfaaShaTab
import Derived.KernelRfl
namespace Go.Proofs.Ytmkpopfaaebgfaa
open Go.RowKit
set_option linter.unusedVariables false

def p64 : List Nat := [2, 3, 5, 7, 11, 13, 17, 19, 23, 29, 31, 37, 41, 43, 47, 53, 59, 61, 67, 71, 73, 79, 83, 89, 97, 101, 103, 107, 109, 113, 127, 131, 137, 139, 149, 151, 157, 163, 167, 173, 179, 181, 191, 193, 197, 199, 211, 223, 227, 229, 233, 239, 241, 251, 257, 263, 269, 271, 277, 281, 283, 293, 307, 311]
/-- Those below a number. -/
def cutP (p : Nat) : List Nat := p64.filter fun q => Nat.blt q p
/-- Is a number divided by none of these? -/
def bare (p : Nat) (l : List Nat) : Bool := l.all fun q => !(Nat.beq (p % q) 0)
def nextP (p : Nat) (l : List Nat) : List Nat := match bare p l with
  | true => l ++ [p]
  | false => l
def stepsOk : Bool := (List.range 310).all fun k => nextP (k + 2) (cutP (k + 2)) == cutP (k + 3) && Nat.blt (cutP (k + 2)).length 64
theorem stepsOk_is : stepsOk = true := by kernel_rfl
theorem cut_step (p : Nat) (h2 : 2 ≤ p) (hp : p < 312) : nextP p (cutP p) = cutP (p + 1) ∧ (cutP p).length < 64 := by
  have h := List.all_eq_true.1 stepsOk_is (p - 2) (List.mem_range.2 (by omega))
  rw [show p - 2 + 2 = p from by omega, show p - 2 + 3 = p + 1 from by omega] at h
  simp only [Bool.and_eq_true, beq_iff_eq] at h
  exact ⟨h.1, Nat.le_of_ble_eq_true h.2⟩
theorem cut_first : cutP 2 = [] := by kernel_rfl
theorem cut_last : cutP 312 = p64 := by kernel_rfl
theorem cut_ge (p : Nat) : ∀ q ∈ cutP p, 2 ≤ q ∧ q ≤ 311 := by
  intro q hq
  have h1 := (List.mem_filter.1 hq).1
  have h2 : p64.all (fun q => Nat.ble 2 q && Nat.ble q 311) = true := by kernel_rfl
  have h3 := List.all_eq_true.1 h2 q h1
  simp only [Bool.and_eq_true] at h3
  exact ⟨Nat.le_of_ble_eq_true h3.1, Nat.le_of_ble_eq_true h3.2⟩
theorem p64_at (k : Nat) (hk : k < 64) : ∃ p, p64[k]? = some p ∧ p64.getD k 0 = p ∧ 2 ≤ p ∧ p ≤ 311 := by
  have hl : p64.length = 64 := rfl
  have e : p64[k]? = some (p64[k]'(by omega)) := List.getElem?_eq_getElem (by omega)
  refine ⟨_, e, by rw [List.getD_eq_getElem?_getD, e]; rfl, ?_⟩
  have h := cut_ge 312 (p64[k]'(by omega))
  rw [cut_last] at h
  exact h (List.getElem_mem _)

/-- Is c to the third at most p times 2 to the power of 96, as the words of 64 bits tell it? -/
def cubeF (c p : Nat) : Bool := Nat.blt ((c * c / 18446744073709551616 * c + c * c % 18446744073709551616 * c / 18446744073709551616) % 18446744073709551616) (p * 4294967296 % 18446744073709551616) ||
  (Nat.beq ((c * c / 18446744073709551616 * c + c * c % 18446744073709551616 * c / 18446744073709551616) % 18446744073709551616) (p * 4294967296 % 18446744073709551616) && Nat.beq (c * c % 18446744073709551616 * c % 18446744073709551616) 0)
def third (w k : Nat) : Nat := w * 4294967296 + (keysL.getD k 0).toNat
def second (w k : Nat) : Nat := w * 4294967296 + (firstL.getD k 0).toNat
def thirdsOk : Bool := (List.range 64).all fun k => (List.range 7).all fun w => !(Nat.ble (w * w * w) (p64.getD k 0) && Nat.blt (p64.getD k 0) ((w + 1) * (w + 1) * (w + 1))) || (cubeF (third w k) (p64.getD k 0) && !(cubeF (third w k + 1) (p64.getD k 0)))
theorem thirdsOk_is : thirdsOk = true := by kernel_rfl
theorem thirds (k w : Nat) (hk : k < 64) (hw : w < 7) (h1 : w * w * w ≤ p64.getD k 0) (h2 : p64.getD k 0 < (w + 1) * (w + 1) * (w + 1)) : cubeF (third w k) (p64.getD k 0) = true ∧ cubeF (third w k + 1) (p64.getD k 0) = false := by
  have h := List.all_eq_true.1 (List.all_eq_true.1 thirdsOk_is k (List.mem_range.2 hk)) w (List.mem_range.2 hw)
  rw [Nat.ble_eq_true_of_le h1, show Nat.blt (p64.getD k 0) ((w + 1) * (w + 1) * (w + 1)) = true from Nat.ble_eq_true_of_le h2] at h
  simpa using h
/-- The squares: below p times 2 to the power of 64, and above it. -/
def secondsOk : Bool := (List.range 8).all fun k => (List.range 5).all fun w => !(Nat.ble (w * w) (p64.getD k 0) && Nat.blt (p64.getD k 0) ((w + 1) * (w + 1))) ||
  (Nat.blt (second w k * second w k / 18446744073709551616) (p64.getD k 0) && Nat.beq ((second w k + 1) * (second w k + 1) / 18446744073709551616) (p64.getD k 0) && Nat.blt 0 ((second w k + 1) * (second w k + 1) % 18446744073709551616))
theorem secondsOk_is : secondsOk = true := by kernel_rfl
theorem seconds (k w : Nat) (hk : k < 8) (hw : w < 5) (h1 : w * w ≤ p64.getD k 0) (h2 : p64.getD k 0 < (w + 1) * (w + 1)) :
    second w k * second w k / 18446744073709551616 < p64.getD k 0 ∧ (second w k + 1) * (second w k + 1) / 18446744073709551616 = p64.getD k 0 ∧ 0 < (second w k + 1) * (second w k + 1) % 18446744073709551616 := by
  have h := List.all_eq_true.1 (List.all_eq_true.1 secondsOk_is k (List.mem_range.2 hk)) w (List.mem_range.2 hw)
  rw [Nat.ble_eq_true_of_le h1, show Nat.blt (p64.getD k 0) ((w + 1) * (w + 1)) = true from Nat.ble_eq_true_of_le h2] at h
  simp only [Bool.and_self, Bool.not_true, Bool.false_or, Bool.and_eq_true] at h
  exact ⟨Nat.le_of_ble_eq_true h.1.1, Nat.eq_of_beq_eq_true h.1.2, Nat.le_of_ble_eq_true h.2⟩
/-- The whole numbers ahead of the points. -/
theorem p64_small (k : Nat) (hk : k < 8) : p64.getD k 0 ≤ 19 := by
  have h : (List.range 8).all (fun k => Nat.ble (p64.getD k 0) 19) = true := by kernel_rfl
  exact Nat.le_of_ble_eq_true (List.all_eq_true.1 h k (List.mem_range.2 hk))
end Go.Proofs.Ytmkpopfaaebgfaa
