/-
  What the document's own digits, times, digit and greater answer (layer 2): values of digits of sixteen bits.
-/
import Derived.Test.YtmkpopfaaebgfaaNumPure
import Derived.Test.YtmkpopfaaebgfaaLow
import Derived.Test.YtmkpopfaaebgfaaApp1
import Derived.BigQuiet
namespace Go.Proofs.Ytmkpopfaaebgfaa
open Go.RowKit
set_option linter.unusedVariables false

/-- Digits of this call's own, of a value. -/
def Digs (w0 : World) (V M : Nat) (w' : World) (v : Value) : Prop := ∃ (A : Option Addr) (n c : Nat) (l : List UInt32), v = .slice A n c ∧ Fresh w0.heap.size 31 w' A n c (cw l) ∧ l.length = n ∧ n ≤ M ∧ Hid (Small l) ∧ Hid (dv l = V)
theorem of_small {v : Nat} (h : v < 65536) : (UInt32.ofNat v).toNat = v := ofNat_toNat32 _ (by omega)
set_option maxHeartbeats 1000000 in
set_option maxRecDepth 100000 in
theorem rdigits_any (N : Nat) (w : World) (hN : N < 281474976710656) :
    Calls Try.prog 156 #[.int .u64 (N : Int)] w fun e w' => ∃ v, e = .returned v ∧ Digs w N 3 w' v ∧ Below w.heap.size w w' := by
  go_enter Try.func156, Try.ntmps156
  go_wp2_with fail
  go_loopw [0, 3] (fun x v wr => ∃ (m k c : Nat) (A : Option Addr) (l : List UInt32), k ≤ 3 ∧ x = .int .u64 (m : Int) ∧ m < 281474976710656 ∧ Hid (m < 65536 ^ (3 - k)) ∧ v = .slice A k c ∧ Fresh w.heap.size 31 wr A k c (cw l) ∧ Hid (l.length = k) ∧ Hid (Small l) ∧ Hid (dv l + 65536 ^ k * m = N) ∧ Below w.heap.size w wr) (fun x _ _ => (intOf x).toNat)
  case atStart => exact ⟨N, 0, 0, none, [], by omega, rfl, hN, Lib.hid (by simpa using hN), rfl, World.ownsRow_nil _ _ _ _, Lib.hid rfl, Lib.hid (by intro x hx; cases hx), Lib.hid (by simp [dv]), Below.refl _ _⟩
  case round =>
    obtain ⟨m, k, c, A, l, hk, rfl, hm, HM, rfl, hF, HL, HS, HV, hB⟩ := hrel
    by_cases h0 : m = 0
    · subst h0
      have e := HV.out
      rw [Nat.mul_zero, Nat.add_zero] at e
      go_wp2_with fail
      go_ret
      exact ⟨_, rfl, ⟨A, k, c, l, rfl, hF, HL.out, hk, HS, Lib.hid e⟩, hB⟩
    · have hb : decide ((0 : Int) < (m : Int)) = true := by simp; omega
      have hb' : decide (0 < m) = true := by simp; omega
      have hk3 : k < 3 := by
        have := HM.out
        rcases Nat.lt_or_ge k 3 with h | h
        · exact h
        · rw [show 3 - k = 0 from by omega] at this
          omega
      obtain ⟨d, hd⟩ : ∃ d, m % 65536 = d := ⟨_, rfl⟩
      have hd' : d < 65536 := by omega
      have hrem : ((m : Int)).tmod 65536 = (d : Int) := by rw [Int.tmod_eq_emod_of_nonneg (by omega)]; omega
      have hquo : ((m : Int)).tdiv 65536 = ((m / 65536 : Nat) : Int) := by rw [Int.tdiv_eq_ediv_of_nonneg (by omega)]; omega
      obtain ⟨x, hx⟩ : ∃ x : UInt32, x.toNat = d := ⟨UInt32.ofNat d, of_small hd'⟩
      rw [← hx] at hrem
      have hq : m / 65536 < m := Nat.div_lt_self (by omega) (by decide)
      have hv2 : dv (l ++ [x]) + 65536 ^ (k + 1) * (m / 65536) = N := by
        rw [dv_append, HL.out, Nat.pow_succ, Nat.mul_assoc]
        have := HV.out
        have e2 : m = d + 65536 * (m / 65536) := by omega
        conv at this => lhs; rw [e2]
        rw [Nat.mul_add] at this
        show dv l + 65536 ^ k * (x.toNat + 65536 * 0) + _ = _
        rw [hx, Nat.mul_zero, Nat.add_zero]
        omega
      have hm2 : m / 65536 < 65536 ^ (3 - (k + 1)) := by
        have := HM.out
        rw [show 3 - k = (3 - (k + 1)) + 1 from by omega, Nat.pow_succ] at this
        exact Nat.div_lt_of_lt_mul (by rw [Nat.mul_comm]; exact this)
      have hs2 : Small (l ++ [x]) := small_append HS.out (fun y hy => by simp at hy; subst hy; omega)
      obtain ⟨Mq, hMq⟩ : ∃ q, m / 65536 = q := ⟨_, rfl⟩
      rw [hMq] at hquo hq hv2 hm2
      have HV2 := Lib.hid hv2
      have HM2 := Lib.hid hm2
      have HS2 := Lib.hid hs2
      have HL2 : Hid ((l ++ [x]).length = k + 1) := Lib.hid (by rw [List.length_append, HL.out]; rfl)
      have hba := below_alloc wr (.cells #[.int .u32 (x.toNat : Int)] 31)
      have hF3 := hF.below hba
      have hcell : (wr.alloc (.cells #[.int .u32 (x.toNat : Int)] 31)).cell? ⟨wr.heap.size, 0, none⟩ = some (.int .u32 (x.toNat : Int)) := by
        rw [World.cell?_alloc_mark]; rfl
      have hxl := x.toNat_lt
      clear hv2 hm2 hs2 hx hd hMq h0
      go_wp2_with (at_builtin; refine wpList_one rfl (.tmp 6) (.tmp 10) 24 31 (.int .u32 0) 4 rfl Try.underlying24 (by kernel_rfl) rfl (by omega) A k c wr.heap.size _ (.int .u32 (x.toNat : Int)) w rfl rfl hF3 hcell rfl (by omega) (Below.then_ hB hba) ?_; intro A2 c2 w4 hF4 hB4 hgr)
      go_roundw
      case rel =>
        refine ⟨Mq, k + 1, c2, A2, l ++ [x], by omega, by go_num, by omega, HM2, rfl, ?_, HL2, HS2, HV2, hB4⟩
        rw [show cw (l ++ [x]) = cw l ++ [.int .u32 (x.toNat : Int)] from by simp [cw]]
        exact hF4
      case measure => simp [intOf]; omega
set_option maxHeartbeats 400000 in
theorem rdigit_any (A : Option Addr) (n c j : Nat) (l : List UInt32) (w : World) (hs : Sees w w.heap.size A (cw l)) (hl : l.length = n) (hn : n ≤ 1000) :
    Calls Try.prog 162 #[.slice A n c, .int .i64 (j : Int)] w fun e w' => e = .returned (.int .u32 (dg l j : Int)) ∧ w = w' := by
  have HL := Lib.hid hl
  clear hl
  by_cases h : j < n
  · obtain ⟨b, o, rfl, hb, x, HX, hx, hc⟩ := hs.word HL.out h
    have e := dg_get HX.out
    rw [e]
    clear e
    go_enter Try.func162, Try.ntmps162
    go_wp2_with fail
    go_ret
    exact ⟨rfl, rfl⟩
  · have e := dg_out (l := l) (j := j) (by rw [HL.out]; omega)
    rw [e]
    clear e
    go_enter Try.func162, Try.ntmps162
    go_wp2_with fail
    go_ret
    exact ⟨rfl, rfl⟩
end Go.Proofs.Ytmkpopfaaebgfaa
