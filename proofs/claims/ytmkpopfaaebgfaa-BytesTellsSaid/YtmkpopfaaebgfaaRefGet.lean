/-
  What GetUint of the document's own answers at a place: what the program's answers.
-/
import Derived.Test.YtmkpopfaaebgfaaRefA
import Derived.IntWalk
namespace Go.Proofs.Ytmkpopfaaebgfaa
open Go.RowKit
set_option linter.unusedVariables false

/-- 'b[p:p+k]', 'b[p:]': a slice that reads as that part. -/
theorem sees_sliced {w : World} {B : Nat} {A : Option Addr} {l : List UInt8} {n c p k : Nat} (hs : Sees w B A (cb l)) (hl : l.length = n) (hc : n ≤ c) (hk : p + k ≤ n) :
    Sees w B (if c = p then A else A.map (·.add (p * 1))) (cb ((l.drop p).take k)) := by
  intro hp
  have hpos : 0 < k := by
    rw [List.length_map, List.length_take] at hp
    omega
  obtain ⟨b, o, rfl, hb, _⟩ := hs (by rw [List.length_map, hl]; omega)
  have h := hs.part p k
  rw [if_neg (by omega)]
  have e : Option.map (fun x : Addr => x.add (p * 1)) (some ⟨b, o, none⟩) = some ⟨b, o + p, none⟩ := by simp [Addr.add_lit]
  rw [e]
  exact h hp
theorem run_part {w : World} {B : Nat} {A : Option Addr} {l : List UInt8} {n c p k : Nat} (hs : Sees w B A (cb l)) (hl : l.length = n) (hc : n ≤ c) (hk : p + k ≤ n) :
    ∃ A', (∀ W, (Instr.slice 23 (.slice A n c) (some (.int .i64 (p : Int))) (some (.int .i64 ((p : Int) + (k : Int)))) none).run Try.prog W = .ok (.slice A' k (c - p)) W) ∧ Sees w B A' (cb ((l.drop p).take k)) := by
  refine ⟨_, fun W => ?_, sees_sliced hs hl hc hk⟩
  have hz : (sizeOf (Try.prog.elem 23)).run Try.prog W = .ok 1 W := by kernel_rfl
  rw [run_slice_lh W 23 A n c elem8 .i64 .i64 (p : Int) ((p : Int) + (k : Int)) (by omega) (by omega) (by omega), hz]
  simp only [Result.andThen, sliced, Int.toNat_natCast]
  rw [show ((p : Int) + (k : Int)).toNat - p = k from by omega]
theorem run_rest {w : World} {B : Nat} {A : Option Addr} {l : List UInt8} {n c p : Nat} (hs : Sees w B A (cb l)) (hl : l.length = n) (hc : n ≤ c) (hk : p ≤ n) :
    ∃ A', (∀ W, (Instr.slice 23 (.slice A n c) (some (.int .i64 (p : Int))) none none).run Try.prog W = .ok (.slice A' (n - p) (c - p)) W) ∧ Sees w B A' (cb (l.drop p)) := by
  have h := sees_sliced (p := p) (k := n - p) hs hl hc (by omega)
  rw [List.take_of_length_le (by rw [List.length_drop]; omega)] at h
  refine ⟨_, fun W => ?_, h⟩
  have hz : (sizeOf (Try.prog.elem 23)).run Try.prog W = .ok 1 W := by kernel_rfl
  rw [run_slice_l W 23 A n c elem8 .i64 (p : Int) (by omega) (by omega), hz]
  simp only [Result.andThen, sliced, Int.toNat_natCast]

/-- What the document's GetUint looks for. -/
def isNum (l : List UInt8) (k : Nat) : Bool := digs (valF (l.take k) % 18446744073709551616) == l.take k
theorem isNum_hit {l : List UInt8} {k : Nat} (h : isNum l k = true) : gu l = (valF (l.take k) % 18446744073709551616, nd (valF (l.take k) % 18446744073709551616), 0) ∧ nd (valF (l.take k) % 18446744073709551616) = (l.take k).length := by
  have h1 : digs (valF (l.take k) % 18446744073709551616) = l.take k := by simpa [isNum] using h
  have hlt : valF (l.take k) % 18446744073709551616 < 18446744073709551616 := Nat.mod_lt _ (by omega)
  have e : l = digs (valF (l.take k) % 18446744073709551616) ++ l.drop k := by rw [h1, List.take_append_drop]
  refine ⟨?_, by rw [← len_digs, h1]⟩
  have := gu_digs (valF (l.take k) % 18446744073709551616) (l.drop k) hlt
  rwa [← e] at this
theorem isNum_none {l : List UInt8} (h : ∀ k, 1 ≤ k → k ≤ 10 → k ≤ l.length → isNum l k = false) : gu l = (0, 0, if starts l then 10 else 11) := by
  apply gu_err
  intro h0
  obtain ⟨⟨x, k, r⟩, hg⟩ : ∃ t, gu l = t := ⟨_, rfl⟩
  rw [hg] at h0
  simp at h0
  subst h0
  have hok := guF_ok 10 l 0 0 (by show (gu l).2.2 = 0; rw [hg])
  have hk : (guF 10 l 0 0).2.1 = k := by show (gu l).2.1 = k; rw [hg]
  have hx : (guF 10 l 0 0).1 = x := by show (gu l).1 = x; rw [hg]
  rw [hk, hx] at hok
  have hlt : x < 18446744073709551616 := hok.2.2 rfl (by simp)
  have hr := gu_read l x k hg
  have hk10 : k ≤ 10 := by
    have h1 := len_digs x
    rw [← hr, List.length_take] at h1
    have := (nd_bd x).2
    omega
  have hv : valF (l.take k) % 18446744073709551616 = x := by
    rw [hr, digs, valF_digsF 9 x (by simp; omega), Nat.mod_eq_of_lt hlt]
  have := h k (by omega) hk10 (by omega)
  rw [isNum, hv, hr] at this
  simp at this

set_option maxRecDepth 100000 in
set_option maxHeartbeats 2000000 in
theorem rGetUint_in (A : Option Addr) (c n p : Nat) (l : List UInt8) (w : World) (hs : Sees w w.heap.size A (cb l)) (hl : l.length = n) (hc : n ≤ c) (hn : n ≤ 1000) (hp : p ≤ n) (R : Nat × Nat × Nat) (hR : getU l (p : Int) = R) :
    Calls Try.prog 22 #[.slice A n c, .int .i64 (p : Int)] w fun e w' => e = .returned (tri .u64 R) ∧ Below w.heap.size w w' := by
  have HL := Lib.hid hl
  have HR := Lib.hid hR
  clear hl hR
  have hd0 : decide ((p : Int) < 0) = false := by simp
  have hd1 : decide (n < p) = false := by simp; omega
  go_enter Try.func22, Try.ntmps22
  go_wp2_with fail
  go_loopw [7] (fun i wr => ∃ k : Nat, 1 ≤ k ∧ k ≤ 11 ∧ p + k ≤ n + 1 ∧ i = .int .i64 k ∧ (∀ j, 1 ≤ j → j < k → isNum (l.drop p) j = false) ∧ Below w.heap.size w wr) (fun i _ => 11 - (intOf i).toNat)
  case atStart => exact ⟨1, by omega, by omega, by omega, rfl, fun j h1 h2 => by omega, Below.refl _ _⟩
  case round =>
    obtain ⟨k, hk1, hk11, hkn, rfl, hno, hbr⟩ := hrel
    have HNO := Lib.hid hno
    clear hno
    by_cases hlt : k ≤ 10 ∧ p + k ≤ n
    · obtain ⟨hlt1, hlt2⟩ := hlt
      obtain ⟨A', hcut, hS⟩ := run_part (p := p) (k := k) (hs.step hbr) HL.out hc hlt2
      have hSl : ((l.drop p).take k).length = k := by rw [List.length_take, List.length_drop, HL.out]; omega
      have HSL := Lib.hid hSl
      clear hSl
      go_wp2_with fail
      refine (value_is A' (c - p) k ((l.drop p).take k) wr hS HSL.out (by omega)).mono ?_
      rintro e w1 ⟨rfl, rfl⟩
      obtain ⟨v, hv⟩ : ∃ v, v = valF ((l.drop p).take k) % 18446744073709551616 := ⟨_, rfl⟩
      rw [← hv]
      have hvlt : v < 18446744073709551616 := by rw [hv]; exact Nat.mod_lt _ (by omega)
      have HV := Lib.hid hv
      have HVL := Lib.hid hvlt
      clear hv hvlt
      have va : ∀ W, Below wr.heap.size wr W → (convert 23 9 (.slice A' k (c - p))).run Try.prog W = .ok (.string ⟨((l.drop p).take k).toArray⟩) W := fun W hW => run_str (hS.step hW) HSL.out (c - p)
      have r0 : Below wr.heap.size wr wr.drew := (Below.refl _ _).drew
      obtain ⟨part, hpart⟩ : ∃ part, part = (l.drop p).take k := ⟨_, rfl⟩
      rw [← hpart] at va HSL HV hS
      have HPT := Lib.hid hpart
      clear hpart
      cases hit : (digs v == part)
      · have hNum : isNum (l.drop p) k = false := by unfold isNum; rw [← HPT.out, ← HV.out]; exact hit
        have hno' : ∀ j, 1 ≤ j → j < k + 1 → isNum (l.drop p) j = false := fun j h1 h2 => by
          by_cases hj : j = k
          · rw [hj]; exact hNum
          · exact HNO.out j h1 (by omega)
        have HNO' := Lib.hid hno'
        clear hNum hno'
        go_wp2_with fail
        have hwr : IntKind.i64.wrap ((p : Int) + (k : Int)) = (p : Int) + (k : Int) := IntWalk.i64_in _ (by omega)
        go_region_with (first | (go_at_call 109; refine (Varint_any v _ HVL.out).mono ?_; rintro e w2 ⟨A2, c2, rfl, hF2, hB2⟩; have hC2 : Below wr.heap.size wr w2 := Below.then_ (by assumption) hB2; have s2 := run_str hF2.sees (len_digs v) c2))
        all_goals
          clear hwr
          go_wp2_with fail
          go_roundw
          case rel => exact ⟨k + 1, by omega, by omega, by omega, by go_num, HNO'.out, Below.then_ hbr (by assumption)⟩
          case measure => simp [intOf]; omega
      · have hNum : isNum (l.drop p) k = true := by unfold isNum; rw [← HPT.out, ← HV.out]; exact hit
        have hRes : R = (v, p + k, 0) := by
          have h1 := isNum_hit hNum
          rw [← HPT.out, ← HV.out] at h1
          rw [HSL.out] at h1
          have ha : isAt l.length (p : Int) = true := by simp [isAt, HL.out]; omega
          rw [← HR.out, getU, ha, if_pos rfl]
          simp only [Int.toNat_natCast, h1.1, h1.2, if_true]
        have HRES := Lib.hid hRes
        clear hNum hRes
        go_wp2_with fail
        have hwr : IntKind.i64.wrap ((p : Int) + (k : Int)) = (p : Int) + (k : Int) := IntWalk.i64_in _ (by omega)
        go_region_with (first | (go_at_call 109; refine (Varint_any v _ HVL.out).mono ?_; rintro e w2 ⟨A2, c2, rfl, hF2, hB2⟩; have hC2 : Below wr.heap.size wr w2 := Below.then_ (by assumption) hB2; have s2 := run_str hF2.sees (len_digs v) c2))
        all_goals
          clear hwr
          go_wp2_with fail
          go_ret3
          exact ⟨by rw [HRES.out]; rfl, Below.then_ hbr (by assumption)⟩
    · have hk2 : k = 11 ∨ p + k = n + 1 := by omega
      have hRes : R = (0, 0, if starts (l.drop p) then 10 else 11) := by
        have h1 := isNum_none (l := l.drop p) (fun j hj1 hj2 hj3 => HNO.out j hj1 (by rw [List.length_drop, HL.out] at hj3; omega))
        have ha : isAt l.length (p : Int) = true := by simp [isAt, HL.out]; omega
        rw [← HR.out, getU, ha, if_pos rfl]
        simp only [Int.toNat_natCast, h1]
        cases starts (l.drop p) <;> simp
      have HRES := Lib.hid hRes
      clear hRes
      obtain ⟨A', hcut, hS⟩ := run_rest (p := p) (hs.step hbr) HL.out hc hp
      have HDL := Lib.hid (show (l.drop p).length = n - p by rw [List.length_drop, HL.out])
      have hlt1 : ¬ (k ≤ 10 ∧ p + k ≤ n) := hlt
      clear hlt
      cases hst : starts (l.drop p)
      · have HST := Lib.hid hst
        clear hst
        by_cases hk10 : k ≤ 10
        · have hk3 : n < p + k := by omega
          clear hk2
          go_wp2_with (go_at_call 110; refine (begins_any A' (c - p) (n - p) (l.drop p) _ hS HDL.out (by omega)).mono ?_; rw [HST.out]; rintro e w1 ⟨rfl, rfl⟩)
          go_ret3
          exact ⟨by rw [HRES.out, HST.out]; rfl, hbr⟩
        · clear hk2
          go_wp2_with (go_at_call 110; refine (begins_any A' (c - p) (n - p) (l.drop p) _ hS HDL.out (by omega)).mono ?_; rw [HST.out]; rintro e w1 ⟨rfl, rfl⟩)
          go_ret3
          exact ⟨by rw [HRES.out, HST.out]; rfl, hbr⟩
      · have HST := Lib.hid hst
        clear hst
        by_cases hk10 : k ≤ 10
        · have hk3 : n < p + k := by omega
          clear hk2
          go_wp2_with (go_at_call 110; refine (begins_any A' (c - p) (n - p) (l.drop p) _ hS HDL.out (by omega)).mono ?_; rw [HST.out]; rintro e w1 ⟨rfl, rfl⟩)
          go_ret3
          exact ⟨by rw [HRES.out, HST.out]; rfl, hbr⟩
        · clear hk2
          go_wp2_with (go_at_call 110; refine (begins_any A' (c - p) (n - p) (l.drop p) _ hS HDL.out (by omega)).mono ?_; rw [HST.out]; rintro e w1 ⟨rfl, rfl⟩)
          go_ret3
          exact ⟨by rw [HRES.out, HST.out]; rfl, hbr⟩
end Go.Proofs.Ytmkpopfaaebgfaa
