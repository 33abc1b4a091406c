/-
  The small machine's arithmetic on whole numbers, strings and truths, and that the world's own does as it says.
-/
import Derived.Test.YtmeloffdaninmaaAbsMem
import Derived.Laws.Bits64
import Derived.Laws.BitsLemmas
import Derived.Laws.BitsAllLaws
import Derived.Laws.Strings
namespace Go.Proofs.Ytmeloffdaninmaa
open Go.RowKit
set_option linter.unusedVariables false

def wrapA (k : IntKind) (n : Int) : Int :=
  match k with
  | .u8 => n % 256
  | .u16 => n % 65536
  | .u32 => n % 4294967296
  | .u64 => n % 18446744073709551616
  | .i8 => (n + 128) % 256 - 128
  | .i16 => (n + 32768) % 65536 - 32768
  | .i32 => (n + 2147483648) % 4294967296 - 2147483648
  | .i64 => (n + 9223372036854775808) % 18446744073709551616 - 9223372036854775808
theorem wrapA_eq (k : IntKind) (n : Int) : k.wrap n = wrapA k n := by
  cases k <;> simp [IntKind.wrap, IntKind.bits, IntKind.signed, wrapA] <;> (split <;> omega)
def modA (k : IntKind) : Nat :=
  match k with
  | .u8 | .i8 => 256
  | .u16 | .i16 => 65536
  | .u32 | .i32 => 4294967296
  | .u64 | .i64 => 18446744073709551616
theorem modA_eq (k : IntKind) : 2 ^ k.bits = modA k := by cases k <;> rfl
def bitsN (k : IntKind) : Nat :=
  match k with
  | .u8 | .i8 => 8
  | .u16 | .i16 => 16
  | .u32 | .i32 => 32
  | .u64 | .i64 => 64
theorem bitsN_eq (k : IntKind) : k.bits = bitsN k := by cases k <;> rfl

/-- Operators on two whole numbers of one kind. -/
def numA (op : BinOp) (k : IntKind) (x y : Int) : Option AV :=
  match op with
  | .add => some (.int k (wrapA k (x + y)))
  | .sub => some (.int k (wrapA k (x - y)))
  | .mul => some (.int k (wrapA k (x * y)))
  | .quo => match y with
    | .ofNat 0 => none
    | y => some (.int k (wrapA k (x.tdiv y)))
  | .rem => match y with
    | .ofNat 0 => none
    | y => some (.int k (x.tmod y))
  | .and => match x, y with
    | .ofNat a, .ofNat b => some (.int k (wrapA k (Int.ofNat (Nat.land (a % modA k) (b % modA k)))))
    | _, _ => none
  | .or => match x, y with
    | .ofNat a, .ofNat b => some (.int k (wrapA k (Int.ofNat (Nat.lor (a % modA k) (b % modA k)))))
    | _, _ => none
  | .xor => match x, y with
    | .ofNat a, .ofNat b => some (.int k (wrapA k (Int.ofNat (Nat.xor (a % modA k) (b % modA k)))))
    | _, _ => none
  | .andNot => match x, y with
    | .ofNat a, .ofNat b => some (.int k (wrapA k (Int.ofNat (Nat.land (a % modA k) (modA k - 1 - b % modA k)))))
    | _, _ => none
  | .eql => some (.bool (x == y))
  | .neq => some (.bool (x != y))
  | .lss => some (.bool (decide (x < y)))
  | .leq => some (.bool (decide (x ≤ y)))
  | .gtr => some (.bool (decide (y < x)))
  | .geq => some (.bool (decide (y ≤ x)))
  | _ => none
def shiftA (op : BinOp) (k : IntKind) (x y : Int) : Option AV :=
  match y with
  | .ofNat n => match op with
    | .shl => some (.int k (wrapA k (x * Int.ofNat (2 ^ (min n (bitsN k))))))
    | .shr => some (.int k (x.fdiv (Int.ofNat (2 ^ (min n (bitsN k))))))
    | _ => none
  | _ => none
section
variable {P : Program} {w : World} {t : TypeId}
theorem ofNat_bits (k : IntKind) (a : Nat) : (BitVec.ofInt k.bits (Int.ofNat a)).toNat = a % modA k := by
  rw [← modA_eq]
  show (BitVec.ofInt k.bits ((a : Nat) : Int)).toNat = _
  rw [BitVec.ofInt_natCast, BitVec.toNat_ofNat]
theorem numA_sound {op : BinOp} {k : IntKind} {x y : Int} {v : AV} (hs : op ≠ .shl ∧ op ≠ .shr) (e : numA op k x y = some v) (ρ : Pos) :
    ∃ u, (binOp op t (.int k x) (.int k y)).run P w = .ok u w ∧ con ρ v = some u := by
  cases op <;> simp only [numA, Option.some.injEq, reduceCtorEq] at e <;> (try (exact absurd rfl hs.1)) <;> (try (exact absurd rfl hs.2))
  case add => subst e; exact ⟨_, by simp [binOp, Op.intArith, wrapA_eq], rfl⟩
  case sub => subst e; exact ⟨_, by simp [binOp, Op.intArith, wrapA_eq], rfl⟩
  case mul => subst e; exact ⟨_, by simp [binOp, Op.intArith, wrapA_eq], rfl⟩
  case quo =>
    split at e
    · simp at e
    · rename_i hy
      simp at e
      subst e
      have h0 : y ≠ 0 := fun h => hy h
      exact ⟨_, by simp [binOp, Op.intDiv, h0, wrapA_eq], rfl⟩
  case rem =>
    split at e
    · simp at e
    · rename_i hy
      simp at e
      subst e
      have h0 : y ≠ 0 := fun h => hy h
      exact ⟨_, by simp [binOp, Op.intDiv, h0], rfl⟩
  case and =>
    split at e <;> simp at e
    rename_i a b
    subst e
    exact ⟨_, by simp only [binOp, Op.intBits, ne_eq, not_true_eq_false, if_false, BitVec.toNat_and, ofNat_bits, wrapA_eq]; rfl, rfl⟩
  case or =>
    split at e <;> simp at e
    rename_i a b
    subst e
    exact ⟨_, by simp only [binOp, Op.intBits, ne_eq, not_true_eq_false, if_false, BitVec.toNat_or, ofNat_bits, wrapA_eq]; rfl, rfl⟩
  case xor =>
    split at e <;> simp at e
    rename_i a b
    subst e
    exact ⟨_, by simp only [binOp, Op.intBits, ne_eq, not_true_eq_false, if_false, BitVec.toNat_xor, ofNat_bits, wrapA_eq]; rfl, rfl⟩
  case andNot =>
    split at e <;> simp at e
    rename_i a b
    subst e
    refine ⟨_, ?_, rfl⟩
    simp only [binOp, Op.intBits, ne_eq, not_true_eq_false, if_false, BitVec.toNat_and, BitVec.toNat_not, ofNat_bits, wrapA_eq, modA_eq]
    rfl
  case eql => subst e; exact ⟨_, by simp [binOp, Op.intCmp], rfl⟩
  case neq => subst e; exact ⟨_, by simp [binOp, Op.intCmp], rfl⟩
  case lss => subst e; exact ⟨_, by simp [binOp, Op.intCmp], rfl⟩
  case leq => subst e; exact ⟨_, by simp [binOp, Op.intCmp], rfl⟩
  case gtr => subst e; exact ⟨_, by simp [binOp, Op.intCmp], rfl⟩
  case geq => subst e; exact ⟨_, by simp [binOp, Op.intCmp], rfl⟩
theorem two_pow_int (n : Nat) : (2 : Int) ^ n = Int.ofNat (2 ^ n) := by
  show _ = ((2 ^ n : Nat) : Int)
  simp
theorem shiftA_sound {op : BinOp} {k k' : IntKind} {x y : Int} {v : AV} (e : shiftA op k x y = some v) (ρ : Pos) :
    ∃ u, (Op.shift op k x k' y).run P w = .ok u w ∧ con ρ v = some u := by
  unfold shiftA at e
  split at e
  · rename_i n
    have hn : ¬ (Int.ofNat n < 0) := by simp
    have ht : (Int.ofNat n).toNat = n := rfl
    split at e <;> simp at e <;> subst e
    · exact ⟨_, by simp only [Op.shift, hn, if_false, ht, bitsN_eq, two_pow_int, wrapA_eq]; rfl, rfl⟩
    · exact ⟨_, by simp only [Op.shift, hn, if_false, ht, bitsN_eq, two_pow_int]; rfl, rfl⟩
  · simp at e

theorem blt_false {a b : Nat} (h : Nat.blt a b = false) : b ≤ a := by
  rcases Nat.lt_or_ge a b with k | k
  · have : Nat.blt a b = true := Nat.ble_eq_true_of_le k
    rw [h] at this
    cases this
  · exact k
theorem blt_true {a b : Nat} (h : Nat.blt a b = true) : a < b := Nat.le_of_ble_eq_true h
theorem size_data (x : ByteArray) : x.size = x.data.toList.length := (Array.length_toList).symm
def strA (op : BinOp) (x y : ByteArray) : Option AV :=
  match op with
  | .add => match Nat.blt 9223372036854775807 (x.data.toList.length + y.data.toList.length) with
    | false => some (.string ⟨⟨x.data.toList ++ y.data.toList⟩⟩)
    | true => none
  | .eql => some (.bool (x.data.toList == y.data.toList))
  | .neq => some (.bool (!(x.data.toList == y.data.toList)))
  | _ => none
theorem strA_sound {op : BinOp} {x y : ByteArray} {v : AV} (e : strA op x y = some v) (ρ : Pos) :
    ∃ u, (binOp op t (.string x) (.string y)).run P w = .ok u w ∧ con ρ v = some u := by
  unfold strA at e
  cases op <;> simp only [reduceCtorEq] at e
  case add =>
    split at e <;> simp at e
    rename_i hlt
    subst e
    refine ⟨.string (x ++ y), ?_, ?_⟩
    · have h1 : ¬ ((9223372036854775807 : Int) < ((x.size + y.size : Nat) : Int)) := by
        have h2 := blt_false hlt
        rw [← size_data, ← size_data] at h2
        omega
      have h5 : IntKind.i64.max = 9223372036854775807 := by decide
      simp only [binOp, Op.stringOp, h5]
      rw [if_neg (by simpa using h1)]
      rfl
    · have : x ++ y = ⟨⟨x.data.toList ++ y.data.toList⟩⟩ := by
        apply ByteArray.ext
        apply Array.ext'
        simp
      simp [con, this]
  case eql => simp at e; subst e; exact ⟨_, by simp [binOp, Op.stringOp, ByteArray.toList_eq], rfl⟩
  case neq => simp at e; subst e; exact ⟨_, by simp [binOp, Op.stringOp, ByteArray.toList_eq], rfl⟩
end
end Go.Proofs.Ytmeloffdaninmaa
