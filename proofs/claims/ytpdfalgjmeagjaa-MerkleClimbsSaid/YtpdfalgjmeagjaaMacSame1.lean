/-
  What mac.Same answers, for any two lists of bytes.
-/
import Derived.Test.YtpdfalgjmeagjaaLow
import Derived.Test.YtpdfalgjmeagjaaBlock
import Derived.Laws.BitsAll
namespace Go.Proofs.Ytpdfalgjmeagjaa
open Go.RowKit
set_option linter.unusedVariables false
theorem nat_xor_zero (a b : Nat) : a ^^^ b = 0 ↔ a = b := by
  constructor
  · intro h
    have h1 : a ^^^ (a ^^^ b) = a := by rw [h, Nat.xor_zero]
    rw [← Nat.xor_assoc, Nat.xor_self, Nat.zero_xor] at h1
    exact h1.symm
  · rintro rfl
    exact Nat.xor_self a
theorem i64_xor_small (a b : Nat) (ha : a < 2 ^ 41) (hb : b < 2 ^ 41) : bits .xor .i64 (a : Int) (b : Int) = ((a ^^^ b : Nat) : Int) := by
  have hx : a ^^^ b < 2 ^ 41 := Nat.xor_lt_two_pow ha hb
  show IntKind.i64.wrap ((BitVec.ofInt 64 (a : Int) ^^^ BitVec.ofInt 64 (b : Int)).toNat : Int) = _
  rw [BitVec.toNat_xor, ofInt_u64 a (by omega), ofInt_u64 b (by omega)]
  exact wrap_small _ (by omega) (by omega)
theorem byte_take (l b : List UInt8) (k : Nat) (x y : UInt8) (hx : l[k]? = some x) (hy : b[k]? = some y) : l.take (k + 1) = b.take (k + 1) ↔ l.take k = b.take k ∧ x = y := by
  rw [List.take_add_one, List.take_add_one, hx, hy]
  have hl : (l.take k).length = (b.take k).length := by
    have h1 := (List.getElem?_eq_some_iff.1 hx).1
    have h2 := (List.getElem?_eq_some_iff.1 hy).1
    simp
    omega
  constructor
  · intro h
    obtain ⟨h1, h2⟩ := List.append_inj h hl
    exact ⟨h1, by simpa using h2⟩
  · rintro ⟨h1, h2⟩
    rw [h1, h2]
def Unlike (a b : List UInt8) (k x : Nat) : Prop := x < 18446744073709551616 ∧ (x = 0 ↔ a.length = b.length ∧ a.take k = b.take k)
theorem Unlike.start (a b : List UInt8) (n m : Nat) (ha : a.length = n) (hb : b.length = m) (h1 : n ≤ 1099511627776) (h2 : m ≤ 1099511627776) : Unlike a b 0 (n ^^^ m) := by
  have hx : n ^^^ m < 2 ^ 41 := Nat.xor_lt_two_pow (by omega) (by omega)
  refine ⟨by omega, ?_⟩
  rw [nat_xor_zero, ha, hb]
  simp
theorem Unlike.next {a b : List UInt8} {k x : Nat} (h : Unlike a b k x) (c d : UInt8) (hc : a[k]? = some c) (hd : b[k]? = some d) : Unlike a b (k + 1) (x ||| (c ^^^ d).toNat) := by
  have hcd := (c ^^^ d).toNat_lt
  have hlt : x ||| (c ^^^ d).toNat < 2 ^ 64 := Nat.or_lt_two_pow h.1 (by omega)
  refine ⟨by omega, ?_⟩
  rw [Nat.or_eq_zero_iff, h.2, byte_take a b k c d hc hd]
  have e : (c ^^^ d).toNat = 0 ↔ c = d := by
    rw [UInt8.toNat_xor, nat_xor_zero, UInt8.toNat_inj]
  rw [e]
  constructor
  · rintro ⟨⟨p, q⟩, r⟩; exact ⟨p, q, r⟩
  · rintro ⟨p, q, r⟩; exact ⟨⟨p, q⟩, r⟩
theorem Unlike.done {a b : List UInt8} {k x : Nat} (h : Unlike a b k x) (hk : k = min a.length b.length) : decide (x = 0) = (a == b) := by
  have e : (x = 0) ↔ a = b := by
    rw [h.2]
    constructor
    · rintro ⟨p, q⟩
      rw [hk, p, Nat.min_self] at q
      rw [← p, List.take_length] at q
      rw [q, p, List.take_length]
    · rintro rfl; exact ⟨rfl, rfl⟩
  by_cases hx : x = 0
  · simp [hx, (e.1 hx)]
  · have : a ≠ b := fun h' => hx (e.2 h')
    simp [hx, this]
set_option maxHeartbeats 1000000 in
set_option maxRecDepth 100000 in
theorem Same_any (A B : Option Addr) (c d n m : Nat) (a b : List UInt8) (w : World) (hs : Sees w w.heap.size A (cb a)) (ht : Sees w w.heap.size B (cb b)) (ha : a.length = n) (hb : b.length = m) (hn : n ≤ 1099511627776) (hm : m ≤ 1099511627776) :
    Calls Try.prog 99 #[.slice A n c, .slice B m d] w fun e w' => e = .returned (.bool (a == b)) ∧ ∃ k, w' = w.drewN k := by
  have HA := Lib.hid ha
  have HB := Lib.hid hb
  have HU := Lib.hid (Unlike.start a b n m ha hb hn hm)
  have hx0 := i64_xor_small n m (by omega) (by omega)
  have hx1 : IntKind.u64.wrap ((n ^^^ m : Nat) : Int) = ((n ^^^ m : Nat) : Int) := by
    have := HU.out.1
    rw [IntKind.wrap_u64]
    omega
  clear ha hb
  go_enter Try.func99, Try.ntmps99
  by_cases hle : n ≤ m
  · go_wp2
    go_loopw [5, 18] (fun u i wr => ∃ (k x : Nat), k ≤ n ∧ i = .int .i64 (k : Int) ∧ u = .int .u64 (x : Int) ∧ Hid (Unlike a b k x) ∧ ∃ q, wr = w.drewN q) (fun u i _ => n - (intOf i).toNat)
    case atStart => exact ⟨0, n ^^^ m, by omega, rfl, rfl, HU, 0, rfl⟩
    case round =>
      obtain ⟨k, x, hk, rfl, rfl, HX, q, rfl⟩ := hrel
      clear HU hx0 hx1
      by_cases hlt : k < n
      · have hB9 := below_drewN' (Below.refl w.heap.size w) q
        obtain ⟨b0, o0, rfl, hb0, x0, H0, l0, r0⟩ := hs.byte (k := k) HA.out (by omega)
        obtain ⟨b1, o1, rfl, hb1, y0, H1, l1, r1⟩ := ht.byte (k := k) HB.out (by omega)
        have hxb := HX.out.1
        have e1 : bits .xor .u8 (x0.toNat : Int) (y0.toNat : Int) = (((x0 ^^^ y0).toNat : Nat) : Int) := by rw [u8_xor_nat _ _ x0.toNat_lt y0.toNat_lt, UInt8.toNat_xor]
        have e2 : bits .or .u64 (x : Int) (((x0 ^^^ y0).toNat : Nat) : Int) = ((x ||| (x0 ^^^ y0).toNat : Nat) : Int) := u64_or_nat _ _ hxb (by have := (x0 ^^^ y0).toNat_lt; omega)
        have e3 : IntKind.u64.wrap (((x0 ^^^ y0).toNat : Nat) : Int) = (((x0 ^^^ y0).toNat : Nat) : Int) := by
          have := (x0 ^^^ y0).toNat_lt
          rw [IntKind.wrap_u64]
          omega
        go_wp2
        go_quiet (fail)
        go_wp2
        go_roundw
        case rel => exact ⟨k + 1, x ||| (x0 ^^^ y0).toNat, by omega, by go_num, by rw [← UInt8.toNat_xor, e3, e2], Lib.hid (HX.out.next x0 y0 H0.out H1.out), _, rfl⟩
        case measure => simp [intOf]; omega
      · obtain rfl : k = n := by omega
        have hfin := HX.out.done (by rw [HA.out, HB.out]; omega)
        have HFIN := Lib.hid hfin
        clear hfin
        go_wp2
        go_ret
        refine ⟨?_, q, rfl⟩
        show Ending.returned (Value.bool ((x : Int) == 0)) = _
        rw [← HFIN.out]
        have : ((x : Int) == 0) = decide (x = 0) := by by_cases h : x = 0 <;> simp [h]
        rw [this]
  · go_wp2
    go_loopw [5, 18] (fun u i wr => ∃ (k x : Nat), k ≤ m ∧ i = .int .i64 (k : Int) ∧ u = .int .u64 (x : Int) ∧ Hid (Unlike a b k x) ∧ ∃ q, wr = w.drewN q) (fun u i _ => m - (intOf i).toNat)
    case atStart => exact ⟨0, n ^^^ m, by omega, rfl, rfl, HU, 0, rfl⟩
    case round =>
      obtain ⟨k, x, hk, rfl, rfl, HX, q, rfl⟩ := hrel
      clear HU hx0 hx1
      by_cases hlt : k < m
      · have hB9 := below_drewN' (Below.refl w.heap.size w) q
        obtain ⟨b0, o0, rfl, hb0, x0, H0, l0, r0⟩ := hs.byte (k := k) HA.out (by omega)
        obtain ⟨b1, o1, rfl, hb1, y0, H1, l1, r1⟩ := ht.byte (k := k) HB.out (by omega)
        have hxb := HX.out.1
        have e1 : bits .xor .u8 (x0.toNat : Int) (y0.toNat : Int) = (((x0 ^^^ y0).toNat : Nat) : Int) := by rw [u8_xor_nat _ _ x0.toNat_lt y0.toNat_lt, UInt8.toNat_xor]
        have e2 : bits .or .u64 (x : Int) (((x0 ^^^ y0).toNat : Nat) : Int) = ((x ||| (x0 ^^^ y0).toNat : Nat) : Int) := u64_or_nat _ _ hxb (by have := (x0 ^^^ y0).toNat_lt; omega)
        have e3 : IntKind.u64.wrap (((x0 ^^^ y0).toNat : Nat) : Int) = (((x0 ^^^ y0).toNat : Nat) : Int) := by
          have := (x0 ^^^ y0).toNat_lt
          rw [IntKind.wrap_u64]
          omega
        go_wp2
        go_quiet (fail)
        go_wp2
        go_roundw
        case rel => exact ⟨k + 1, x ||| (x0 ^^^ y0).toNat, by omega, by go_num, by rw [← UInt8.toNat_xor, e3, e2], Lib.hid (HX.out.next x0 y0 H0.out H1.out), _, rfl⟩
        case measure => simp [intOf]; omega
      · obtain rfl : k = m := by omega
        have hfin := HX.out.done (by rw [HA.out, HB.out]; omega)
        have HFIN := Lib.hid hfin
        clear hfin
        go_wp2
        go_ret
        refine ⟨?_, q, rfl⟩
        show Ending.returned (Value.bool ((x : Int) == 0)) = _
        rw [← HFIN.out]
        have : ((x : Int) == 0) = decide (x = 0) := by by_cases h : x = 0 <;> simp [h]
        rw [this]
end Go.Proofs.Ytpdfalgjmeagjaa
