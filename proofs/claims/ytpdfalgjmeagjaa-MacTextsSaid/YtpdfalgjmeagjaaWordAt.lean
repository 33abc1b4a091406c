/-
  What wordAt and GetWord of package bytes answer, for every input: the word of the four bytes at a place.
-/
import Derived.Test.YtpdfalgjmeagjaaLeaf
namespace Go.Proofs.Ytpdfalgjmeagjaa
open Go.RowKit
set_option linter.unusedVariables false

def wP (l : List UInt8) (p : Nat) : Nat → Nat
  | 0 => 0
  | k + 1 => wP l p k * 256 + oct l (p + k)
theorem wP_lt (l : List UInt8) (p : Nat) : ∀ k, wP l p k < 256 ^ k
  | 0 => by simp [wP]
  | k + 1 => by
    have h := wP_lt l p k
    have h' := oct_lt l (p + k)
    rw [wP, Nat.pow_succ]
    omega
theorem wP_lt4 (l : List UInt8) (p k : Nat) (hk : k < 4) : wP l p k < 16777216 := by
  have h := wP_lt l p k
  have : 256 ^ k ≤ 256 ^ 3 := Nat.pow_le_pow_right (by omega) (by omega)
  omega
theorem wP_four (l : List UInt8) (p : Nat) : wP l p 4 = wAt l p := by simp [wP, wAt]
theorem wP_step (l : List UInt8) (p k c : Nat) (hk : k < 4) (hc : oct l (p + k) = c) : bits .or .u32 ((wP l p k : Int) * 256 % 4294967296) (c : Int) = (wP l p (k + 1) : Int) := by
  have h := wP_lt4 l p k hk
  have h' := oct_lt l (p + k)
  subst hc
  have e : (wP l p k : Int) * 256 % 4294967296 = ((wP l p k * 256 : Nat) : Int) := by omega
  rw [e, u32_or_nat _ _ (by omega) (by omega), nat_join 8 _ _ (by omega) (by simpa using h'), wP]

set_option maxHeartbeats 400000 in
theorem wordAt_any (A : Option Addr) (c n p : Nat) (P : Int) (l : List UInt8) (w : World) (hP : P = (p : Int)) (hs : Sees w w.heap.size A (cb l)) (hl : l.length = n) (hn : n ≤ 1099511627776) (hp : p ≤ 1099511627776) :
    Calls Try.prog 209 #[.slice A n c, .int .i64 P] w fun e w' => e = .returned (.int .u32 (wAt l p : Int)) ∧ w = w' := by
  subst hP
  have HL := Lib.hid hl
  clear hl
  go_enter Try.func209, Try.ntmps209
  go_wp2
  go_loop [5, 8] (fun x i => ∃ k : Nat, k ≤ 4 ∧ i = .int .i64 k ∧ x = .int .u32 (wP l p k : Int)) (fun _ i => 4 - (intOf i).toNat)
  case atStart => exact ⟨0, by omega, rfl, rfl⟩
  case round =>
    obtain ⟨k, hk, rfl, rfl⟩ := hrel
    by_cases hlt : k < 4
    · by_cases hin : p + k < n
      · obtain ⟨b, o, rfl, hb, x, HX, hx, hc⟩ := hs.byte HL.out hin
        go_wp2
        go_round
        case rel => exact ⟨k + 1, by omega, by go_num, by rw [wP_step l p k _ hlt (by simp [oct, List.getD, HX.out])]⟩
        case measure => simp [intOf]; omega
      · go_wp2
        go_round
        case rel => exact ⟨k + 1, by omega, by go_num, congrArg (Value.int .u32) (wP_step l p k 255 hlt (by simp [oct, List.getD, List.getElem?_eq_none (show l.length ≤ p + k by have := HL.out; omega)]))⟩
        case measure => simp [intOf]; omega
    · go_wp2
      go_ret
      obtain rfl : k = 4 := by omega
      exact ⟨ret_int (by rw [wP_four]), rfl⟩

theorem getW_no {l : List UInt8} {p : Int} (h : isAt l.length p = false) : getW l p = (0, 0, 2) := by simp [getW, h]
theorem isAt_true {n : Nat} {p : Int} (h : isAt n p = true) : 0 ≤ p ∧ p ≤ n := by simpa [isAt] using h

/-- Three results: a number of 32 bits, of 64 bits; a place; an error. -/
def tri (k : IntKind) (r : Nat × Nat × Nat) : Value := .tuple #[.int k (r.1 : Int), .int .i64 (r.2.1 : Int), .int .i64 (r.2.2 : Int)]

end Go.Proofs.Ytpdfalgjmeagjaa
