/-
  Words of 32 bits as the walk spells their sums and signs, and what sha.ror answers.
-/
import Derived.Test.YtangblcfdboghaaPut
import Derived.Test.YtangblcfdboghaaShaPure
import Derived.Test.YtangblcfdboghaaArr
import Derived.Laws.BitsAll
namespace Go.Proofs.Ytangblcfdboghaa
open Go.RowKit
set_option linter.unusedVariables false

theorem u32_xor (a b : UInt32) : bits .xor .u32 (a.toNat : Int) (b.toNat : Int) = ((a ^^^ b).toNat : Int) := by
  rw [u32_xor_nat _ _ a.toNat_lt b.toNat_lt, UInt32.toNat_xor]
theorem u32_and (a b : UInt32) : bits .and .u32 (a.toNat : Int) (b.toNat : Int) = ((a &&& b).toNat : Int) := by
  rw [u32_and_nat _ _ a.toNat_lt b.toNat_lt, UInt32.toNat_and]
theorem u32_or (a b : UInt32) : bits .or .u32 (a.toNat : Int) (b.toNat : Int) = ((a ||| b).toNat : Int) := by
  rw [u32_or_nat _ _ a.toNat_lt b.toNat_lt, UInt32.toNat_or]
theorem u32_add (a b : UInt32) : ((a.toNat : Int) + (b.toNat : Int)) % 4294967296 = ((a + b).toNat : Int) := by
  rw [UInt32.toNat_add]
  omega
theorem u32_not (a : UInt32) : 4294967295 - (a.toNat : Int) = ((~~~a).toNat : Int) := by
  have := a.toNat_lt
  rw [UInt32.toNat_not]
  simp [UInt32.size]
  omega
theorem u32_sh (a : UInt32) (n : Nat) : (a.toNat : Int) / (2 ^ n : Nat) = ((sh a n).toNat : Int) := by
  have h : a.toNat / 2 ^ n < 4294967296 := Nat.lt_of_le_of_lt (Nat.div_le_self _ _) a.toNat_lt
  unfold sh
  rw [ofNat_toNat32 _ h]
  rfl
theorem rr_nat (x : UInt32) (n m k : Nat) (hm : 2 ^ (32 - n) = m) (hk : 2 ^ n = k) (hp : 0 < k) : bits .or .u32 ((x.toNat : Int) * (m : Int) % 4294967296) ((x.toNat : Int) / (k : Int)) = ((rr x n).toNat : Int) := by
  have e1 : (x.toNat : Int) * (m : Int) % 4294967296 = ((x.toNat * m % 4294967296 : Nat) : Int) := by rw [Int.natCast_emod, Int.natCast_mul]; rfl
  have e2 : (x.toNat : Int) / (k : Int) = ((x.toNat / k : Nat) : Int) := by rw [Int.natCast_ediv]
  have h1 : x.toNat * m % 4294967296 < 4294967296 := Nat.mod_lt _ (by omega)
  have h2 : x.toNat / k < 4294967296 := Nat.lt_of_le_of_lt (Nat.div_le_self _ _) x.toNat_lt
  rw [e1, e2, u32_or_nat _ _ h1 h2]
  unfold rr
  rw [hm, hk, ofNat_toNat32]
  exact Nat.or_lt_two_pow (n := 32) h1 h2

def rotOk (n : Nat) : Bool := [2, 6, 7, 11, 13, 17, 18, 19, 22, 25].contains n
end Go.Proofs.Ytangblcfdboghaa
