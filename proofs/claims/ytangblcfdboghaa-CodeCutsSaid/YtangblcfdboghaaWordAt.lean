/-
  What wordAt and GetWord of package bytes answer, for every input: the word of the four bytes at a place.
-/
import Derived.Test.YtangblcfdboghaaLeaf
namespace Go.Proofs.Ytangblcfdboghaa
open Go.RowKit
set_option linter.unusedVariables false

def wP (l : List UInt8) (p : Nat) : Nat → Nat
  | 0 => 0
  | k + 1 => wP l p k * 256 + oct l (p + k)
theorem wP_lt (l : List UInt8) (p : Nat) : ∀ k, wP l p k < 256 ^ k
  | 0 => by simp [wP]
  | k + 1 => by
    have h := wP_lt l p k
    have h' := oct_lt l (p + k)
    rw [wP, Nat.pow_succ]
    omega
theorem wP_lt4 (l : List UInt8) (p k : Nat) (hk : k < 4) : wP l p k < 16777216 := by
  have h := wP_lt l p k
  have : 256 ^ k ≤ 256 ^ 3 := Nat.pow_le_pow_right (by omega) (by omega)
  omega
theorem wP_four (l : List UInt8) (p : Nat) : wP l p 4 = wAt l p := by simp [wP, wAt]
theorem wP_step (l : List UInt8) (p k c : Nat) (hk : k < 4) (hc : oct l (p + k) = c) : bits .or .u32 ((wP l p k : Int) * 256 % 4294967296) (c : Int) = (wP l p (k + 1) : Int) := by
  have h := wP_lt4 l p k hk
  have h' := oct_lt l (p + k)
  subst hc
  have e : (wP l p k : Int) * 256 % 4294967296 = ((wP l p k * 256 : Nat) : Int) := by omega
  rw [e, u32_or_nat _ _ (by omega) (by omega), nat_join 8 _ _ (by omega) (by simpa using h'), wP]

theorem getW_no {l : List UInt8} {p : Int} (h : isAt l.length p = false) : getW l p = (0, 0, 2) := by simp [getW, h]
theorem isAt_true {n : Nat} {p : Int} (h : isAt n p = true) : 0 ≤ p ∧ p ≤ n := by simpa [isAt] using h

/-- Three results: a number of 32 bits, of 64 bits; a place; an error. -/
def tri (k : IntKind) (r : Nat × Nat × Nat) : Value := .tuple #[.int k (r.1 : Int), .int .i64 (r.2.1 : Int), .int .i64 (r.2.2 : Int)]

end Go.Proofs.Ytangblcfdboghaa
