/-
  Words of 32 bits as the walk spells their sums and signs, and what sha.ror answers.
-/
import Derived.Test.YtpdfalgjmeagjaaPut
import Derived.Test.YtpdfalgjmeagjaaShaPure
import Derived.Test.YtpdfalgjmeagjaaArr
import Derived.Laws.BitsAll
namespace Go.Proofs.Ytpdfalgjmeagjaa
open Go.RowKit
set_option linter.unusedVariables false

theorem u32_xor (a b : UInt32) : bits .xor .u32 (a.toNat : Int) (b.toNat : Int) = ((a ^^^ b).toNat : Int) := by
  rw [u32_xor_nat _ _ a.toNat_lt b.toNat_lt, UInt32.toNat_xor]
theorem u32_and (a b : UInt32) : bits .and .u32 (a.toNat : Int) (b.toNat : Int) = ((a &&& b).toNat : Int) := by
  rw [u32_and_nat _ _ a.toNat_lt b.toNat_lt, UInt32.toNat_and]
theorem u32_or (a b : UInt32) : bits .or .u32 (a.toNat : Int) (b.toNat : Int) = ((a ||| b).toNat : Int) := by
  rw [u32_or_nat _ _ a.toNat_lt b.toNat_lt, UInt32.toNat_or]
theorem u32_add (a b : UInt32) : ((a.toNat : Int) + (b.toNat : Int)) % 4294967296 = ((a + b).toNat : Int) := by
  rw [UInt32.toNat_add]
  omega
theorem u32_not (a : UInt32) : 4294967295 - (a.toNat : Int) = ((~~~a).toNat : Int) := by
  have := a.toNat_lt
  rw [UInt32.toNat_not]
  simp [UInt32.size]
  omega
theorem u32_sh (a : UInt32) (n : Nat) : (a.toNat : Int) / (2 ^ n : Nat) = ((sh a n).toNat : Int) := by
  have h : a.toNat / 2 ^ n < 4294967296 := Nat.lt_of_le_of_lt (Nat.div_le_self _ _) a.toNat_lt
  unfold sh
  rw [ofNat_toNat32 _ h]
  rfl
theorem rr_nat (x : UInt32) (n m k : Nat) (hm : 2 ^ (32 - n) = m) (hk : 2 ^ n = k) (hp : 0 < k) : bits .or .u32 ((x.toNat : Int) * (m : Int) % 4294967296) ((x.toNat : Int) / (k : Int)) = ((rr x n).toNat : Int) := by
  have e1 : (x.toNat : Int) * (m : Int) % 4294967296 = ((x.toNat * m % 4294967296 : Nat) : Int) := by rw [Int.natCast_emod, Int.natCast_mul]; rfl
  have e2 : (x.toNat : Int) / (k : Int) = ((x.toNat / k : Nat) : Int) := by rw [Int.natCast_ediv]
  have h1 : x.toNat * m % 4294967296 < 4294967296 := Nat.mod_lt _ (by omega)
  have h2 : x.toNat / k < 4294967296 := Nat.lt_of_le_of_lt (Nat.div_le_self _ _) x.toNat_lt
  rw [e1, e2, u32_or_nat _ _ h1 h2]
  unfold rr
  rw [hm, hk, ofNat_toNat32]
  exact Nat.or_lt_two_pow (n := 32) h1 h2

def rotOk (n : Nat) : Bool := [2, 6, 7, 11, 13, 17, 18, 19, 22, 25].contains n
theorem rotl_any (x : UInt32) (n : Nat) (hn : rotOk n = true) (w : World) :
    Calls Try.prog 198 #[.int .u32 (x.toNat : Int), .int .i64 (-(n : Int))] w fun e w' => e = .returned (.int .u32 ((rr x n).toNat : Int)) ∧ w = w' := by
  have hx : x.toNat < 4294967296 := x.toNat_lt
  simp only [rotOk, List.contains_cons, List.contains_nil, Bool.or_false, Bool.or_eq_true, beq_iff_eq] at hn
  rcases hn with rfl | rfl | rfl | rfl | rfl | rfl | rfl | rfl | rfl | rfl
  · have hb : bits BinOp.and IntKind.u64 (IntKind.u64.wrap (-2)) 31 = 30 := by decide
    go_enter Try.func198, Try.ntmps198
    go_wp2
    go_ret
    exact ⟨ret_int (rr_nat x 2 _ _ rfl rfl (by decide)), rfl⟩
  · have hb : bits BinOp.and IntKind.u64 (IntKind.u64.wrap (-6)) 31 = 26 := by decide
    go_enter Try.func198, Try.ntmps198
    go_wp2
    go_ret
    exact ⟨ret_int (rr_nat x 6 _ _ rfl rfl (by decide)), rfl⟩
  · have hb : bits BinOp.and IntKind.u64 (IntKind.u64.wrap (-7)) 31 = 25 := by decide
    go_enter Try.func198, Try.ntmps198
    go_wp2
    go_ret
    exact ⟨ret_int (rr_nat x 7 _ _ rfl rfl (by decide)), rfl⟩
  · have hb : bits BinOp.and IntKind.u64 (IntKind.u64.wrap (-11)) 31 = 21 := by decide
    go_enter Try.func198, Try.ntmps198
    go_wp2
    go_ret
    exact ⟨ret_int (rr_nat x 11 _ _ rfl rfl (by decide)), rfl⟩
  · have hb : bits BinOp.and IntKind.u64 (IntKind.u64.wrap (-13)) 31 = 19 := by decide
    go_enter Try.func198, Try.ntmps198
    go_wp2
    go_ret
    exact ⟨ret_int (rr_nat x 13 _ _ rfl rfl (by decide)), rfl⟩
  · have hb : bits BinOp.and IntKind.u64 (IntKind.u64.wrap (-17)) 31 = 15 := by decide
    go_enter Try.func198, Try.ntmps198
    go_wp2
    go_ret
    exact ⟨ret_int (rr_nat x 17 _ _ rfl rfl (by decide)), rfl⟩
  · have hb : bits BinOp.and IntKind.u64 (IntKind.u64.wrap (-18)) 31 = 14 := by decide
    go_enter Try.func198, Try.ntmps198
    go_wp2
    go_ret
    exact ⟨ret_int (rr_nat x 18 _ _ rfl rfl (by decide)), rfl⟩
  · have hb : bits BinOp.and IntKind.u64 (IntKind.u64.wrap (-19)) 31 = 13 := by decide
    go_enter Try.func198, Try.ntmps198
    go_wp2
    go_ret
    exact ⟨ret_int (rr_nat x 19 _ _ rfl rfl (by decide)), rfl⟩
  · have hb : bits BinOp.and IntKind.u64 (IntKind.u64.wrap (-22)) 31 = 10 := by decide
    go_enter Try.func198, Try.ntmps198
    go_wp2
    go_ret
    exact ⟨ret_int (rr_nat x 22 _ _ rfl rfl (by decide)), rfl⟩
  · have hb : bits BinOp.and IntKind.u64 (IntKind.u64.wrap (-25)) 31 = 7 := by decide
    go_enter Try.func198, Try.ntmps198
    go_wp2
    go_ret
    exact ⟨ret_int (rr_nat x 25 _ _ rfl rfl (by decide)), rfl⟩

theorem ror_any (x : UInt32) (K : Int) (n : Nat) (hK : K = (n : Int)) (hn : rotOk n = true) (w : World) :
    Calls Try.prog 172 #[.int .u32 (x.toNat : Int), .int .i64 K] w fun e w' => e = .returned (.int .u32 ((rr x n).toNat : Int)) ∧ w' = w := by
  subst hK
  have hl : n ≤ 25 := by
    simp only [rotOk, List.contains_cons, List.contains_nil, Bool.or_false, Bool.or_eq_true, beq_iff_eq] at hn
    omega
  go_enter Try.func172, Try.ntmps172
  go_wp2_with (go_at_call 198; refine (rotl_any x n hn _).mono ?_; rintro e w' ⟨rfl, rfl⟩)
  go_ret
  exact ⟨rfl, rfl⟩
end Go.Proofs.Ytpdfalgjmeagjaa
