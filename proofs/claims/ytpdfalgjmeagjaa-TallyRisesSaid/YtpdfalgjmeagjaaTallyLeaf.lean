/-
  Bits counted, the highest bit: what the library's OnesCount32 and Len32 answer, and tally's withoutHighest.
-/
import Derived.Test.YtpdfalgjmeagjaaPut
import Derived.Test.YtpdfalgjmeagjaaTallyBits
import Derived.Laws.BitsAll
namespace Go.Proofs.Ytpdfalgjmeagjaa
open Go.RowKit
set_option linter.unusedVariables false

theorem pop8_nat (b : Nat) (h : b < 256) : Lib.pop8 (b : Int) = (Lib.popAux 8 b : Int) := by
  have e := Lib.pop8_eq ⟨b, h⟩
  simp only at e
  rw [e, Lib.onesCount, show (64 : Nat) = 8 + 56 from rfl, pop_fuel 8 56 b (by omega)]
theorem pop32 (x : Nat) (h : x < 4294967296) : Lib.popAux 32 x = Lib.popAux 8 (x / 16777216 % 256) + Lib.popAux 8 (x / 65536 % 256) + Lib.popAux 8 (x / 256 % 256) + Lib.popAux 8 (x % 256) := by
  rw [show (32 : Nat) = 8 + 24 from rfl, pop_add, show (24 : Nat) = 8 + 16 from rfl, pop_add, show (16 : Nat) = 8 + 8 from rfl, pop_add]
  simp only [show (2 : Nat) ^ 8 = 256 from rfl, Nat.div_div_eq_div_mul]
  simp only [show 256 * (256 * 256) = 16777216 from rfl, show 256 * 256 = 65536 from rfl]
  have : x / 16777216 % 256 = x / 16777216 := by omega
  rw [this]
  omega
theorem and255 (a : Nat) (h : a < 4294967296) : bits .and .u32 (a : Int) 255 = ((a % 256 : Nat) : Int) := by
  have := u32_and_nat a 255 h (by omega)
  rw [show ((255 : Nat) : Int) = 255 from rfl] at this
  rw [this, show (255 : Nat) = 2 ^ 8 - 1 from rfl, Nat.and_two_pow_sub_one_eq_mod]
set_option maxHeartbeats 1000000 in
set_option maxRecDepth 100000 in
theorem OnesCount32_any (x : UInt32) (w : World) : Calls Try.prog 202 #[.int .u32 (x.toNat : Int)] w fun e w' => e = .returned (.int .i64 (Lib.popAux 32 x.toNat : Int)) ∧ ∃ q, w' = w.drewN q := by
  obtain ⟨n, hn⟩ : ∃ n, x.toNat = n := ⟨_, rfl⟩
  have hx := x.toNat_lt
  rw [hn] at hx ⊢
  have hx2 : n < 4294967296 := hx
  have s1 : bits .and .u32 ((n : Int) / 65536) 255 = ((n / 65536 % 256 : Nat) : Int) := by
    rw [show (n : Int) / 65536 = ((n / 65536 : Nat) : Int) from by omega]
    exact and255 _ (by omega)
  have s2 : bits .and .u32 ((n : Int) / 256) 255 = ((n / 256 % 256 : Nat) : Int) := by
    rw [show (n : Int) / 256 = ((n / 256 : Nat) : Int) from by omega]
    exact and255 _ (by omega)
  have s3 : bits .and .u32 (n : Int) 255 = ((n % 256 : Nat) : Int) := and255 _ (by omega)
  have b0 : (0 : Int) ≤ (n : Int) / 16777216 ∧ (n : Int) / 16777216 ≤ 255 := by omega
  have b1 : (0 : Int) ≤ ((n / 65536 % 256 : Nat) : Int) ∧ ((n / 65536 % 256 : Nat) : Int) ≤ 255 := by omega
  have b2 : (0 : Int) ≤ ((n / 256 % 256 : Nat) : Int) ∧ ((n / 256 % 256 : Nat) : Int) ≤ 255 := by omega
  have b3 : (0 : Int) ≤ ((n % 256 : Nat) : Int) ∧ ((n % 256 : Nat) : Int) ≤ 255 := by omega
  obtain ⟨b00, b01⟩ := b0
  obtain ⟨b10, b11⟩ := b1
  obtain ⟨b20, b21⟩ := b2
  obtain ⟨b30, b31⟩ := b3
  have p0 := pop8_nat (n / 16777216 % 256) (by omega)
  have p1 := pop8_nat (n / 65536 % 256) (by omega)
  have p2 := pop8_nat (n / 256 % 256) (by omega)
  have p3 := pop8_nat (n % 256) (by omega)
  have l0 := pop_le 8 (n / 16777216 % 256)
  have l1 := pop_le 8 (n / 65536 % 256)
  have l2 := pop_le 8 (n / 256 % 256)
  have l3 := pop_le 8 (n % 256)
  have H := Lib.hid (And.intro p0 (And.intro p1 (And.intro p2 (And.intro p3 (And.intro l0 (And.intro l1 (And.intro l2 l3)))))))
  rw [pop32 n hx2]
  clear hn p0 p1 p2 p3 l0 l1 l2 l3
  go_enter Try.func202, Try.ntmps202
  go_wp2_with fail
  generalize hT : ByteArray.mk (List.toArray (List.append _ _)) = T
  obtain rfl : T = Lib.pop8tab := by rw [← hT]; rfl
  clear hT
  go_quiet (fail)
  go_wp2_with fail
  go_ret
  obtain ⟨p0, p1, p2, p3, l0, l1, l2, l3⟩ := H.out
  refine ⟨ret_int ?_, nq, rfl⟩
  have e0 : (n : Int) / 16777216 = ((n / 16777216 % 256 : Nat) : Int) := by omega
  have e1 : (n : Int) / 65536 % 256 = ((n / 65536 % 256 : Nat) : Int) := by omega
  have e2 : (n : Int) / 256 % 256 = ((n / 256 % 256 : Nat) : Int) := by omega
  have e3 : (n : Int) % 256 = ((n % 256 : Nat) : Int) := by omega
  rw [e0, e1, e2, e3, p0, p1, p2, p3]
  omega
theorem len8_nat (b : Nat) (h : b < 256) : Lib.len8 (b : Int) = (Lib.bitLen b : Int) := Lib.len8_eq ⟨b, h⟩
theorem len8_run (w : World) (i : Int) (h0 : 0 ≤ i) (h1 : i ≤ 255) : (Instr.index 9 (.string Lib.len8tab) (.int .u8 i)).run Try.prog w = .ok (.int .u8 (Lib.len8 i)) w :=
  Lib.run_index_len8tab w 9 .u8 i Try.underlying9 h0 h1
set_option maxHeartbeats 4000000 in
set_option maxRecDepth 100000 in
theorem Len32_a (x : Int) (w : World) (h0 : 0 ≤ x) (h1 : x ≤ 4294967295) (c : x < 256) : Calls Try.prog 203 #[.int .u32 x] w fun e w' => e = .returned (.int .i64 (Lib.bitLen x.toNat : Int)) ∧ w' = w := by
  have hI := len8_run w (x) (by omega) (by omega)
  go_enter Try.func203, Try.ntmps203
  generalize hT : ByteArray.mk (List.toArray (List.append _ _)) = T
  obtain rfl : T = Lib.len8tab := by rw [← hT]; rfl
  clear hT
  generalize Lib.len8tab = T at hI ⊢
  go_wp2
  go_ret
  refine ⟨ret_int ?_, rfl⟩
  rw [Lib.len8_of _ (by omega) (by omega)]
  have l := Lib.bitLen_le8' (x) (by omega) (by omega)
  unfold wrap64
  omega
set_option maxHeartbeats 4000000 in
set_option maxRecDepth 100000 in
theorem Len32_b (x : Int) (w : World) (h0 : 0 ≤ x) (h1 : x ≤ 4294967295) (c : 256 ≤ x) (d : x < 65536) : Calls Try.prog 203 #[.int .u32 x] w fun e w' => e = .returned (.int .i64 (Lib.bitLen x.toNat : Int)) ∧ w' = w := by
  have hI := len8_run w (x / 256) (by omega) (by omega)
  go_enter Try.func203, Try.ntmps203
  generalize hT : ByteArray.mk (List.toArray (List.append _ _)) = T
  obtain rfl : T = Lib.len8tab := by rw [← hT]; rfl
  clear hT
  generalize Lib.len8tab = T at hI ⊢
  go_wp2
  go_ret
  refine ⟨ret_int ?_, rfl⟩
  rw [Lib.len8_of _ (by omega) (by omega)]
  have l := Lib.bitLen_le8' (x / 256) (by omega) (by omega)
  have s := Lib.bitLen_shift8 x.toNat (by omega) (by omega)
  have e : (x / 256).toNat = x.toNat / 256 := by omega
  rw [e] at l ⊢
  unfold wrap64
  omega
set_option maxHeartbeats 4000000 in
set_option maxRecDepth 100000 in
theorem Len32_c (x : Int) (w : World) (h0 : 0 ≤ x) (h1 : x ≤ 4294967295) (c : 65536 ≤ x) (d : x < 16777216) : Calls Try.prog 203 #[.int .u32 x] w fun e w' => e = .returned (.int .i64 (Lib.bitLen x.toNat : Int)) ∧ w' = w := by
  have hI := len8_run w (x / 65536) (by omega) (by omega)
  go_enter Try.func203, Try.ntmps203
  generalize hT : ByteArray.mk (List.toArray (List.append _ _)) = T
  obtain rfl : T = Lib.len8tab := by rw [← hT]; rfl
  clear hT
  generalize Lib.len8tab = T at hI ⊢
  go_wp2
  go_ret
  refine ⟨ret_int ?_, rfl⟩
  rw [Lib.len8_of _ (by omega) (by omega)]
  have l := Lib.bitLen_le8' (x / 65536) (by omega) (by omega)
  have s := Lib.bitLen_shift16 x.toNat (by omega) (by omega)
  have e : (x / 65536).toNat = x.toNat / 65536 := by omega
  rw [e] at l ⊢
  unfold wrap64
  omega
set_option maxHeartbeats 4000000 in
set_option maxRecDepth 100000 in
theorem Len32_d (x : Int) (w : World) (h0 : 0 ≤ x) (h1 : x ≤ 4294967295) (c : 16777216 ≤ x) : Calls Try.prog 203 #[.int .u32 x] w fun e w' => e = .returned (.int .i64 (Lib.bitLen x.toNat : Int)) ∧ w' = w := by
  have hI := len8_run w (x / 65536 / 256) (by omega) (by omega)
  go_enter Try.func203, Try.ntmps203
  generalize hT : ByteArray.mk (List.toArray (List.append _ _)) = T
  obtain rfl : T = Lib.len8tab := by rw [← hT]; rfl
  clear hT
  generalize Lib.len8tab = T at hI ⊢
  go_wp2
  go_ret
  refine ⟨ret_int ?_, rfl⟩
  rw [Lib.len8_of _ (by omega) (by omega)]
  have l := Lib.bitLen_le8' (x / 65536 / 256) (by omega) (by omega)
  have s := Lib.bitLen_shift24 x.toNat (by omega) (by omega)
  have e : (x / 65536 / 256).toNat = x.toNat / 16777216 := by omega
  rw [e] at l ⊢
  unfold wrap64
  omega
theorem Len32_any (x : UInt32) (w : World) : Calls Try.prog 203 #[.int .u32 (x.toNat : Int)] w fun e w' => e = .returned (.int .i64 (Lib.bitLen x.toNat : Int)) ∧ w' = w := by
  have hx := x.toNat_lt
  have key : Calls Try.prog 203 #[.int .u32 (x.toNat : Int)] w fun e w' => e = .returned (.int .i64 (Lib.bitLen ((x.toNat : Int)).toNat : Int)) ∧ w' = w := by
    by_cases c1 : (x.toNat : Int) < 256
    · exact Len32_a _ w (by omega) (by omega) c1
    · by_cases c2 : (x.toNat : Int) < 65536
      · exact Len32_b _ w (by omega) (by omega) (by omega) c2
      · by_cases c3 : (x.toNat : Int) < 16777216
        · exact Len32_c _ w (by omega) (by omega) (by omega) c3
        · exact Len32_d _ w (by omega) (by omega) (by omega)
  rwa [Int.toNat_natCast] at key
theorem and_not_low {x : UInt32} (h : x ≠ 0) : bits .andNot .u32 (x.toNat : Int) ((2 ^ (Lib.bitLen x.toNat - 1) : Nat) : Int) = ((low32 x).toNat : Int) := by
  have hx := x.toNat_lt
  obtain ⟨h1, h2, h3, h4⟩ := bitLen_bounds 32 x.toNat (by omega) (by omega) (ne0 h)
  have hp : 2 ^ (Lib.bitLen x.toNat - 1) < 4294967296 := by
    have := Nat.pow_le_pow_right (n := 2) (by omega) (show Lib.bitLen x.toNat - 1 ≤ 31 by omega)
    exact Nat.lt_of_le_of_lt this (by decide)
  rw [u32_andNot_nat _ _ x.toNat_lt hp, low32_nat]
  revert h1 h2 hp
  generalize Lib.bitLen x.toNat - 1 = i
  intro h1 h2 hp
  obtain ⟨y, hy⟩ : ∃ y, x.toNat = 2 ^ i + y := ⟨x.toNat - 2 ^ i, by omega⟩
  congr 1
  rw [hy, show 2 ^ i + y - 2 ^ i = y from by omega]
  apply Nat.eq_of_testBit_eq
  intro j
  rw [Nat.testBit_and, show 4294967295 - 2 ^ i = 2 ^ 32 - (2 ^ i + 1) from by omega, Nat.testBit_two_pow_sub_succ (by omega), Nat.testBit_two_pow]
  by_cases hj : j < i
  · have hj2 : j < 32 := by
      have : i < 32 := (Nat.pow_lt_pow_iff_right (a := 2) (by omega)).1 (show 2 ^ i < 2 ^ 32 by omega)
      omega
    rw [Nat.testBit_two_pow_add_gt hj]
    simp [hj2]
    intro _
    omega
  · have e1 : y.testBit j = false := Nat.testBit_lt_two_pow (Nat.lt_of_lt_of_le (show y < 2 ^ i by omega) (Nat.pow_le_pow_right (by omega) (by omega)))
    rw [e1]
    by_cases hij : i = j
    · simp [hij]
    · have e2 : (2 ^ i + y).testBit j = false := Nat.testBit_lt_two_pow (Nat.lt_of_lt_of_le (show 2 ^ i + y < 2 ^ (i + 1) by rw [Nat.pow_succ]; omega) (Nat.pow_le_pow_right (by omega) (by omega)))
      rw [e2]
      simp
theorem withoutHighest_any (x : UInt32) (h : x ≠ 0) (w : World) : Calls Try.prog 181 #[.int .u32 (x.toNat : Int)] w fun e w' => e = .returned (.int .u32 ((low32 x).toNat : Int)) ∧ w' = w := by
  have hx := x.toNat_lt
  obtain ⟨h1, h2, h3, h4⟩ := bitLen_bounds 32 x.toNat (by omega) (by omega) (ne0 h)
  have ha := and_not_low h
  have hL := Len32_any x w
  obtain ⟨i, hi⟩ : ∃ i, Lib.bitLen x.toNat = i + 1 := ⟨Lib.bitLen x.toNat - 1, by omega⟩
  rw [hi] at ha hL h4
  rw [Nat.add_sub_cancel] at ha
  have hi2 : i ≤ 31 := by omega
  clear h1 h2 h3 h4 hi hx h
  go_enter Try.func181, Try.ntmps181
  go_wp2_with fail
  refine hL.mono ?_
  rintro e w1 ⟨rfl, rfl⟩
  go_wp2_with fail
  go_ret
  refine ⟨ret_int ?_, rfl⟩
  have hp : 2 ^ i < 4294967296 := Nat.lt_of_le_of_lt (Nat.pow_le_pow_right (by omega) hi2) (by decide)
  have e : (2 : Int) ^ i % 4294967296 = ((2 ^ i : Nat) : Int) := by
    have : (2 : Int) ^ i = ((2 ^ i : Nat) : Int) := by simp
    rw [this]
    revert hp
    generalize 2 ^ i = y
    intro hp
    omega
  exact (congrArg (bits .andNot .u32 (x.toNat : Int)) e).trans ha
end Go.Proofs.Ytpdfalgjmeagjaa
