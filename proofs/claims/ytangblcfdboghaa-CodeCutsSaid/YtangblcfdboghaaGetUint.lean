/-
  What GetUint of package bytes answers, for every input: the number at a place, or the error that chapter 1 asks.
-/
import Derived.Test.YtangblcfdboghaaWordAt
namespace Go.Proofs.Ytangblcfdboghaa
open Go.RowKit
set_option linter.unusedVariables false

/-- The digits' value so far. -/
def accTo (l : List UInt8) (p : Nat) : Nat → Nat
  | 0 => 0
  | k + 1 => accTo l p k + oct l (p + k) % 128 * 128 ^ k
/-- Behind k digits, each of which another one follows. -/
def On (l : List UInt8) (p k x : Nat) : Prop := gu (l.drop p) = guF (10 - k) (l.drop (p + k)) k (accTo l p k) ∧ (k ≤ 9 → x = accTo l p k) ∧ x < 18446744073709551616

theorem accTo_lt (l : List UInt8) (p : Nat) : ∀ k, accTo l p k < 128 ^ k
  | 0 => by simp [accTo]
  | k + 1 => by
    have h := accTo_lt l p k
    have h2 : oct l (p + k) % 128 ≤ 127 := by omega
    have h3 : oct l (p + k) % 128 * 128 ^ k ≤ 127 * 128 ^ k := Nat.mul_le_mul_right _ h2
    rw [accTo, Nat.pow_succ]
    omega
def orTo (x d k : Nat) : Nat := x ||| (d % 128 * 128 ^ k % 18446744073709551616)
theorem orTo_is (x d k : Nat) (hx : x < 18446744073709551616) : bits .or .u64 (x : Int) (IntKind.u64.wrap ((d : Int) % 128 * 2 ^ (7 * k))) = (orTo x d k : Int) := by
  have e : IntKind.u64.wrap ((d : Int) % 128 * 2 ^ (7 * k)) = ((d % 128 * 128 ^ k % 18446744073709551616 : Nat) : Int) := by
    rw [IntKind.wrap_u64, ← pow7]
    simp
  rw [e, u64_or_nat _ _ hx (Nat.mod_lt _ (by omega)), orTo]
theorem orTo_lt (x d k : Nat) (hx : x < 18446744073709551616) : orTo x d k < 18446744073709551616 :=
  Nat.or_lt_two_pow (n := 64) hx (Nat.mod_lt _ (by omega))
theorem orTo_add (x d k : Nat) (hk : k ≤ 9) (hx : x < 128 ^ k) (hd : d % 128 * 128 ^ k < 18446744073709551616) : orTo x d k = x + d % 128 * 128 ^ k := by
  unfold orTo
  rw [Nat.mod_eq_of_lt hd, Nat.or_comm, nat_join (7 * k) _ _ (by rw [pow7]; simp) (by rw [pow7]; exact hx), Nat.add_comm]
theorem dig_small (d k : Nat) (hk : k ≤ 8) : d % 128 * 128 ^ k < 18446744073709551616 := by
  have h1 : 128 ^ k ≤ 128 ^ 8 := Nat.pow_le_pow_right (by omega) hk
  have h2 : d % 128 ≤ 127 := by omega
  have h3 : d % 128 * 128 ^ k ≤ 127 * 128 ^ 8 := Nat.mul_le_mul h2 h1
  omega

theorem drop_at {l : List UInt8} {i : Nat} {d : UInt8} (h : l[i]? = some d) : l.drop i = d :: l.drop (i + 1) := by
  obtain ⟨hi, rfl⟩ := List.getElem?_eq_some_iff.1 h
  exact List.drop_eq_getElem_cons hi
theorem oct_at {l : List UInt8} {i : Nat} {d : UInt8} (h : l[i]? = some d) : oct l i = d.toNat := by simp [oct, List.getD, h]
theorem guF_cons (f : Nat) (d : UInt8) (l : List UInt8) (i a : Nat) : guF (f + 1) (d :: l) i a = if 128 ≤ d.toNat then guF f l (i + 1) (a + d.toNat % 128 * 128 ^ i) else if endOk d i then (a + d.toNat * 128 ^ i, i + 1, 0) else (0, 0, 11) := rfl

theorem on_more {l : List UInt8} {p k x : Nat} {d : UInt8} (h : On l p k x) (hk : k < 10) (hd : l[p + k]? = some d) (h128 : 128 ≤ d.toNat) : On l p (k + 1) (orTo x d.toNat k) := by
  obtain ⟨h1, h2, h3⟩ := h
  refine ⟨?_, fun hk2 => ?_, orTo_lt _ _ _ h3⟩
  · rw [h1, drop_at hd, show 10 - k = (10 - (k + 1)) + 1 from by omega, guF_cons, if_pos h128, accTo, oct_at hd, Nat.add_assoc]
  · rw [accTo, oct_at hd, h2 (by omega), orTo_add _ _ _ (by omega) (accTo_lt l p k) (dig_small _ _ (by omega))]
theorem on_bad {l : List UInt8} {p k x : Nat} {d : UInt8} (h : On l p k x) (hk : k < 10) (hd : l[p + k]? = some d) (h128 : ¬ 128 ≤ d.toNat) (he : endOk d k = false) : getU l p = (0, 0, 11) := by
  have hl : p + k < l.length := (List.getElem?_eq_some_iff.1 hd).1
  have ha : isAt l.length p = true := by simp [isAt]; omega
  have hg : gu (l.drop p) = (0, 0, 11) := by
    rw [h.1, drop_at hd, show 10 - k = (10 - (k + 1)) + 1 from by omega, guF_cons, if_neg h128, he]
    simp
  simp [getU, ha, hg]
theorem on_hit {l : List UInt8} {p k x : Nat} {d : UInt8} (h : On l p k x) (hk : k < 10) (hd : l[p + k]? = some d) (h128 : ¬ 128 ≤ d.toNat) (he : endOk d k = true) : getU l p = (orTo x d.toNat k, p + k + 1, 0) := by
  have hl : p + k < l.length := (List.getElem?_eq_some_iff.1 hd).1
  have ha : isAt l.length p = true := by simp [isAt]; omega
  have hx := h.2.1 (by omega)
  have hsm : d.toNat % 128 * 128 ^ k < 18446744073709551616 := by
    by_cases h8 : k ≤ 8
    · exact dig_small _ _ h8
    · obtain rfl : k = 9 := by omega
      simp [endOk] at he
      subst he
      decide
  have e : orTo x d.toNat k = accTo l p k + d.toNat * 128 ^ k := by
    rw [hx, orTo_add _ _ _ (by omega) (accTo_lt l p k) hsm, Nat.mod_eq_of_lt (by omega : d.toNat < 128)]
  have hg : gu (l.drop p) = (orTo x d.toNat k, k + 1, 0) := by
    rw [h.1, drop_at hd, show 10 - k = (10 - (k + 1)) + 1 from by omega, guF_cons, if_neg h128, he, e]
    simp
  simp [getU, ha, hg]
  omega
theorem on_ten {l : List UInt8} {p x : Nat} (h : On l p 10 x) (hl : p + 10 ≤ l.length) : getU l p = (0, 0, 11) := by
  have ha : isAt l.length p = true := by simp [isAt]; omega
  have hg : gu (l.drop p) = (0, 0, 11) := by rw [h.1]; rfl
  simp [getU, ha, hg]
theorem on_short {l : List UInt8} {p k x : Nat} (h : On l p k x) (hk : k < 10) (hl : p + k = l.length) : getU l p = (0, 0, 10) := by
  have ha : isAt l.length p = true := by simp [isAt]; omega
  have hg : gu (l.drop p) = (0, 0, 10) := by
    rw [h.1, List.drop_of_length_le (by omega), show 10 - k = (10 - (k + 1)) + 1 from by omega]
    rfl
  simp [getU, ha, hg]

set_option maxRecDepth 100000 in
set_option maxHeartbeats 400000 in
theorem GetUint_in (A : Option Addr) (c n : Nat) (p : Nat) (l : List UInt8) (w : World) (hs : Sees w w.heap.size A (cb l)) (hl : l.length = n) (hn : n ≤ 1099511627776) (hp : p ≤ n) :
    Calls Try.prog 45 #[.slice A n c, .int .i64 (p : Int)] w fun e w' => e = .returned (tri .u64 (getU l p)) ∧ w = w' := by
  have HL := Lib.hid hl
  clear hl
  have HA := Lib.hid (show isAt n (p : Int) = true by simp [isAt]; omega)
  go_enter Try.func45, Try.ntmps45
  go_wp2_with (go_at_call 68; refine (isPlace_any A n c _ _).mono ?_; rw [HA.out]; rintro e w1 ⟨rfl, rfl⟩)
  all_goals
    go_loop [8, 21] (fun v i => ∃ k x : Nat, k ≤ 10 ∧ p + k ≤ n ∧ i = .int .i64 k ∧ v = .int .u64 (x : Int) ∧ On l p k x) (fun _ i => 10 - (intOf i).toNat)
    case atStart => exact ⟨0, 0, by omega, by omega, rfl, rfl, rfl, fun _ => rfl, by omega⟩
    case round =>
      obtain ⟨k, x, hk, hk2, rfl, rfl, hon⟩ := hrel
      by_cases hlt : k < 10 ∧ p + k < n
      · obtain ⟨hlt, hlt2⟩ := hlt
        obtain ⟨b, o, rfl, hb, d, HD, hd, hc⟩ := hs.byte HL.out hlt2
        by_cases h128 : 128 ≤ d.toNat
        · go_wp2_with fail
          go_round
          case rel => exact ⟨k + 1, orTo x d.toNat k, by omega, by omega, by go_num, by rw [orTo_is _ _ _ hon.2.2], on_more hon hlt HD.out h128⟩
          case measure => simp [intOf]; omega
        · cases he : endOk d k
          · have HE := Lib.hid he
            clear he
            go_wp2_with (go_at_call 69; refine (mayEnd_any d k _).mono ?_; rw [HE.out]; rintro e w1 ⟨rfl, rfl⟩)
            go_ret3
            exact ⟨by rw [on_bad hon hlt HD.out h128 HE.out]; rfl, rfl⟩
          · have HE := Lib.hid he
            clear he
            go_wp2_with (go_at_call 69; refine (mayEnd_any d k _).mono ?_; rw [HE.out]; rintro e w1 ⟨rfl, rfl⟩)
            go_ret3
            exact ⟨by rw [on_hit hon hlt HD.out h128 HE.out, tri, ← orTo_is _ _ _ hon.2.2]; rfl, rfl⟩
      · by_cases hs10 : p + 10 ≤ n
        · obtain rfl : k = 10 := by omega
          go_wp2_with fail
          go_ret3
          exact ⟨by rw [on_ten hon (by have := HL.out; omega)]; rfl, rfl⟩
        · go_wp2_with fail
          all_goals (go_ret3; exact ⟨by rw [on_short hon (by omega) (by have := HL.out; omega)]; rfl, rfl⟩)

set_option maxHeartbeats 400000 in
theorem GetUint_any (A : Option Addr) (c n : Nat) (p : Int) (l : List UInt8) (w : World) (hs : Sees w w.heap.size A (cb l)) (hl : l.length = n) (hn : n ≤ 1099511627776) :
    Calls Try.prog 45 #[.slice A n c, .int .i64 p] w fun e w' => e = .returned (tri .u64 (getU l p)) ∧ w = w' := by
  cases hat : isAt n p
  · have HA := Lib.hid hat
    have HL := Lib.hid hl
    clear hat hl
    go_enter Try.func45, Try.ntmps45
    go_wp2_with (go_at_call 68; refine (isPlace_any A n c p _).mono ?_; rw [HA.out]; rintro e w1 ⟨rfl, rfl⟩)
    go_ret3
    exact ⟨by rw [getU, HL.out, HA.out]; rfl, rfl⟩
  · obtain ⟨h0, h1⟩ := isAt_true hat
    obtain ⟨p, rfl⟩ := Int.eq_ofNat_of_zero_le h0
    exact GetUint_in A c n p l w hs hl hn (by omega)
end Go.Proofs.Ytangblcfdboghaa
