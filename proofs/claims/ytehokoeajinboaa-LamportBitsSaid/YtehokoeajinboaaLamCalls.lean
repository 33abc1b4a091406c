/-
  The bits of a digest, numbers written down, halves in pairs: what the program's calls answer.
-/
import Derived.Test.YtehokoeajinboaaLamPlain
import Derived.Test.YtehokoeajinboaaText600
import Derived.Test.YtehokoeajinboaaMacSame1
namespace Go.Proofs.Ytehokoeajinboaa
open Go.RowKit
set_option linter.unusedVariables false

section
variable {w : World}
theorem other_same (v : Int) (hv : v = 0 ∨ v = 1) : Calls Try.prog 115 #[.int .i64 v] w fun e w' => e = .returned (.int .i64 (1 - v)) ∧ w' = w := by
  rcases hv with rfl | rfl
  all_goals
    go_enter Try.func115, Try.ntmps115
    go_wp2
    go_ret
    exact ⟨rfl, rfl⟩
theorem i64_and1 (m : Nat) (h : m < 256) : bits .and .i64 (m : Int) 1 = ((m % 2 : Nat) : Int) := by
  have hx : m &&& 1 = m % 2 := Nat.and_one_is_mod m
  show IntKind.i64.wrap ((BitVec.ofInt 64 (m : Int) &&& BitVec.ofInt 64 ((1 : Nat) : Int)).toNat : Int) = _
  rw [BitVec.toNat_and, ofInt_u64 m (by omega), ofInt_u64 1 (by omega), hx]
  exact wrap_small _ (by omega) (by omega)
theorem bit_out (x : UInt8) (n : Nat) : bits .and .i64 (wrap64 ((x.toNat : Int) / 2 ^ n)) 1 = ((x.toNat / 2 ^ n % 2 : Nat) : Int) := by
  have h : x.toNat / 2 ^ n < 256 := Nat.lt_of_le_of_lt (Nat.div_le_self _ _) x.toNat_lt
  obtain ⟨m, hm⟩ : ∃ m, x.toNat / 2 ^ n = m := ⟨_, rfl⟩
  have e : ((x.toNat : Int) / 2 ^ n) = (m : Int) := by rw [← hm]; simp
  rw [hm] at h ⊢
  rw [e, show wrap64 (m : Int) = (m : Int) from by unfold wrap64; omega]
  exact i64_and1 _ h
set_option maxHeartbeats 1000000 in
theorem Bit_any (d : List UInt8) (i : Int) (hd : d.length = 32) :
    Calls Try.prog 52 #[.agg (cb d).toArray, .int .i64 i] w fun e w' => e = .returned (.int .i64 (bitI d i : Int)) ∧ Below w.heap.size w w' := by
  have HD := Lib.hid hd
  by_cases h : 0 ≤ i ∧ i < 256
  · obtain ⟨k, rfl⟩ := Int.eq_ofNat_of_zero_le h.1
    have hk : k < 256 := by omega
    rw [bitI_nat d k hk]
    obtain ⟨x, hx⟩ : ∃ x, d[k / 8]? = some x := ⟨d[k / 8]'(by omega), List.getElem?_eq_getElem (by omega)⟩
    have hb : bitF d k = x.toNat / 2 ^ (7 - k % 8) % 2 := by
      unfold bitF
      rw [List.getD_eq_getElem?_getD, hx]
      rfl
    rw [hb]
    have HX := Lib.hid hx
    clear hd hx hb
    go_enter Try.func52, Try.ntmps52
    go_wp2_with (with_reducible refine wpList_box (o := ⟨some 2, _, _, _, _, _⟩) rfl (.tmp 0) 32 rfl (cb d) rfl 32 (by simp [HD.out]) (by decide) ?_; intro gb w1 hgb hFb hBb; have hcell : w1.cell? ⟨gb, k / 8, none⟩ = some (.int .u8 (x.toNat : Int))  := hFb.cell_ (by simp [cb, HX.out]))
    go_ret
    exact ⟨ret_int (bit_out x _), hBb⟩
  · have hb : bitI d i = 0 := if_neg h
    rw [hb]
    clear hb
    rcases (by omega : i < 0 ∨ (0 ≤ i ∧ 256 ≤ i)) with h1 | ⟨h1, h2⟩
    all_goals
      go_enter Try.func52, Try.ntmps52
      go_wp2_with (with_reducible refine wpList_box (o := ⟨some 2, _, _, _, _, _⟩) rfl (.tmp 0) 32 rfl (cb d) rfl 32 (by simp [HD.out]) (by decide) ?_; intro gb w1 hgb hFb hBb)
      go_ret
      exact ⟨rfl, hBb⟩
end
end Go.Proofs.Ytehokoeajinboaa
