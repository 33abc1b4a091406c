/-
  What GetBlob of package bytes answers, for every input: the string at a place, in new memory, or the error that chapter 1 asks.
-/
import Derived.Test.YtangblcfdboghaaGetUint
import Derived.Test.YtangblcfdboghaaWrite
namespace Go.Proofs.Ytangblcfdboghaa
open Go.RowKit
set_option linter.unusedVariables false

theorem guF_ok : ∀ f l i a, (guF f l i a).2.2 = 0 → i + 1 ≤ (guF f l i a).2.1 ∧ (guF f l i a).2.1 ≤ i + l.length ∧ (i + f = 10 → a < 128 ^ i → (guF f l i a).1 < 18446744073709551616)
  | 0, _, _, _, h => by simp [guF] at h
  | _ + 1, [], _, _, h => by simp [guF] at h
  | f + 1, c :: l, i, a, h => by
    rw [guF_cons] at h ⊢
    by_cases h1 : 128 ≤ c.toNat
    · rw [if_pos h1] at h ⊢
      have := guF_ok f l (i + 1) _ h
      refine ⟨by omega, by simp; omega, fun hi ha => this.2.2 (by omega) ?_⟩
      have h3 : c.toNat % 128 * 128 ^ i ≤ 127 * 128 ^ i := Nat.mul_le_mul_right _ (by omega)
      rw [Nat.pow_succ]
      omega
    · rw [if_neg h1] at h ⊢
      cases he : endOk c i
      · simp [he] at h
      · simp only [if_true]
        refine ⟨Nat.le_refl _, by simp, fun hi ha => ?_⟩
        by_cases h9 : i = 9
        · subst h9
          simp [endOk] at he
          subst he
          have e : (1 : UInt8).toNat * 128 ^ 9 = 9223372036854775808 := by decide
          rw [e]
          omega
        · have h3 : c.toNat * 128 ^ i ≤ 127 * 128 ^ i := Nat.mul_le_mul_right _ (by omega)
          have h4 : 128 ^ i ≤ 128 ^ 8 := Nat.pow_le_pow_right (by omega) (by omega)
          omega
theorem getU_ok {l : List UInt8} {p : Int} {x q : Nat} (h : getU l p = (x, q, 0)) : 0 ≤ p ∧ p.toNat < q ∧ q ≤ l.length ∧ x < 18446744073709551616 := by
  unfold getU at h
  cases ha : isAt l.length p
  · simp [ha] at h
  · have hp := isAt_true ha
    rw [ha, if_pos rfl] at h
    by_cases hz : (gu (l.drop p.toNat)).2.2 = 0
    · rw [if_pos hz] at h
      simp only [Prod.mk.injEq, and_true] at h
      have := guF_ok 10 _ 0 0 hz
      rw [List.length_drop] at this
      have h1 : (gu (l.drop p.toNat)).1 = (guF 10 (l.drop p.toNat) 0 0).1 := rfl
      have h2 : (gu (l.drop p.toNat)).2.1 = (guF 10 (l.drop p.toNat) 0 0).2.1 := rfl
      have h5 := this.2.2 (by omega) (by simp)
      refine ⟨hp.1, ?_, ?_, ?_⟩ <;> omega
    · rw [if_neg hz] at h
      simp only [Prod.mk.injEq] at h
      omega

theorem GetUint_eq {l : List UInt8} {p : Int} {x q r : Nat} (h : getU l p = (x, q, r)) (A : Option Addr) (c n : Nat) (w : World) (hs : Sees w w.heap.size A (cb l)) (hl : l.length = n) (hn : n ≤ 1099511627776) :
    Calls Try.prog 45 #[.slice A n c, .int .i64 p] w fun e w' => e = .returned (.tuple #[.int .u64 (x : Int), .int .i64 (q : Int), .int .i64 (r : Int)]) ∧ w = w' := by
  have := GetUint_any A c n p l w hs hl hn
  rw [h] at this
  exact this

theorem cb_part (l : List UInt8) (q x : Nat) : ((cb l).drop q).take x = cb ((l.drop q).take x) := by simp [cb]
theorem Sees.part {w : World} {B b o : Nat} {l : List UInt8} (h : Sees w B (some ⟨b, o, none⟩) (cb l)) (q x : Nat) : Sees w B (some ⟨b, o + q, none⟩) (cb ((l.drop q).take x)) := by
  have := (h.drop_ q).take_ x
  rwa [cb_part] at this

/-- A list in new memory, a place, an error. -/
def Tells (w : World) (r : List UInt8 × Nat × Nat) (e : Ending) (w' : World) : Prop :=
  ∃ A c, e = .returned (.tuple #[.slice A r.1.length c, .int .i64 (r.2.1 : Int), .int .i64 (r.2.2 : Int)]) ∧ Fresh w.heap.size 5 w' A r.1.length c (cb r.1) ∧ Below w.heap.size w w'


set_option maxHeartbeats 400000 in
theorem GetBlob_any (A : Option Addr) (c n : Nat) (p most : Int) (l : List UInt8) (w : World) (hs : Sees w w.heap.size A (cb l)) (hl : l.length = n) (hc : n ≤ c) (hn : n ≤ 1099511627776) (hm : most ≤ 9223372036854775807) :
    Calls Try.prog 48 #[.slice A n c, .int .i64 p, .int .i64 most] w (Tells w (getB l p most)) := by
  have HL := Lib.hid hl
  clear hl
  obtain ⟨⟨x, q, r⟩, hg⟩ : ∃ t, getU l p = t := ⟨_, rfl⟩
  have HG := Lib.hid hg
  by_cases hr : r = 0
  · subst hr
    obtain ⟨g1, g2, g3, g4⟩ := getU_ok hg
    rw [HL.out] at g3
    have G4 := Lib.hid g4
    clear hg g4
    by_cases hm0 : most < 0
    · go_enter Try.func48, Try.ntmps48
      go_wp2_with (go_at_call 45; refine (GetUint_eq HG.out A c n _ hs HL.out hn).mono ?_; rintro e w1 ⟨rfl, rfl⟩)
      go_ret3
      have e : getB l p most = ([], 0, 3) := by simp [getB, HG.out]; omega
      rw [e]
      exact ⟨none, 0, rfl, fresh_nil _ _ _, Below.refl _ _⟩
    · obtain ⟨m, rfl⟩ := Int.eq_ofNat_of_zero_le (show 0 ≤ most by omega)
      by_cases hx : m < x
      · go_enter Try.func48, Try.ntmps48
        go_wp2_with (go_at_call 45; refine (GetUint_eq HG.out A c n _ hs HL.out hn).mono ?_; rintro e w1 ⟨rfl, rfl⟩)
        go_ret3
        have e : getB l p (m : Int) = ([], 0, 3) := by simp [getB, HG.out]; omega
        rw [e]
        exact ⟨none, 0, rfl, fresh_nil _ _ _, Below.refl _ _⟩
      · by_cases hq : n < q + x
        · go_enter Try.func48, Try.ntmps48
          go_wp2_with (go_at_call 45; refine (GetUint_eq HG.out A c n _ hs HL.out hn).mono ?_; rintro e w1 ⟨rfl, rfl⟩)
          go_ret3
          have e : getB l p (m : Int) = ([], 0, 10) := by
            simp only [getB, HG.out, HL.out]
            rw [if_neg (by simp), if_neg (by omega), if_pos (by omega)]
          rw [e]
          exact ⟨none, 0, rfl, fresh_nil _ _ _, Below.refl _ _⟩
        · obtain ⟨b, o, rfl, hb, _⟩ := hs (by simp [HL.out]; omega)
          have e : getB l p (m : Int) = ((l.drop q).take x, q + x, 0) := by
            simp only [getB, HG.out, HL.out]
            rw [if_neg (by simp), if_neg (by omega), if_neg (by omega)]
          have hlen : ((l.drop q).take x).length = x := by
            have := HL.out
            simp; omega
          have hS := hs.part q x
          have HE := Lib.hid e
          have HN := Lib.hid hlen
          clear e hlen
          have hE : ∀ A, x = 0 → Sees w w.heap.size A (cb ((l.drop q).take x)) := fun A h0 hp => absurd hp (by rw [List.length_map, HN.out]; omega)
          have HS := Lib.hid hE
          clear hE
          go_enter Try.func48, Try.ntmps48
          go_wp2_with (go_at_call 45; refine (GetUint_eq HG.out _ c n _ hs HL.out hn).mono ?_; rintro e w1 ⟨rfl, rfl⟩)
          · refine (grown_any _ _ x 0 _ ((l.drop q).take x) w rfl (HS.out _ (by omega)) HN.out (by omega)).mono ?_
            rintro e w2 ⟨rfl, hF, hB⟩
            go_wp2
            go_ret3
            rw [HE.out]
            refine ⟨some ⟨w.heap.size, 0, none⟩, x, ?_, ?_, hB⟩
            · rw [HN.out]; rfl
            · rw [HN.out]; simpa using hF
          · refine (grown_any _ _ x 0 _ ((l.drop q).take x) w rfl hS HN.out (by omega)).mono ?_
            rintro e w2 ⟨rfl, hF, hB⟩
            go_wp2
            go_ret3
            rw [HE.out]
            refine ⟨some ⟨w.heap.size, 0, none⟩, x, ?_, ?_, hB⟩
            · rw [HN.out]; rfl
            · rw [HN.out]; simpa using hF
  · go_enter Try.func48, Try.ntmps48
    go_wp2_with (go_at_call 45; refine (GetUint_eq HG.out A c n _ hs HL.out hn).mono ?_; rintro e w1 ⟨rfl, rfl⟩)
    go_ret3
    have e : getB l p most = ([], 0, r) := by simp [getB, HG.out, hr]
    rw [e]
    exact ⟨none, 0, rfl, fresh_nil _ _ _, Below.refl _ _⟩
end Go.Proofs.Ytangblcfdboghaa
