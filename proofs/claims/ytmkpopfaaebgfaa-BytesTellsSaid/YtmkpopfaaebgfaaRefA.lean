/-
  What behind, value and begins of the document's own answer, for every input.
-/
import Derived.Test.YtmkpopfaaebgfaaVarint
namespace Go.Proofs.Ytmkpopfaaebgfaa
open Go.RowKit
set_option linter.unusedVariables false

theorem getElem_of {l : List UInt8} {k : Nat} {x : UInt8} (h : l[k]? = some x) (hk : k < l.length) : l[k] = x := by
  rw [List.getElem?_eq_getElem hk] at h
  injection h

set_option maxRecDepth 100000 in
set_option maxHeartbeats 1000000 in
theorem behind_any (A B : Option Addr) (c d n m : Nat) (a b : List UInt8) (w : World) (hs : Sees w w.heap.size A (cb a)) (ht : Sees w w.heap.size B (cb b)) (ha : a.length = n) (hb : b.length = m) (hn : n ≤ 274877906944) (hm : m ≤ 274877906944) :
    Calls Try.prog 113 #[.slice A n c, .slice B m d] w (Made8 w (n + m) (a ++ b)) := by
  have HA := Lib.hid ha
  have HB := Lib.hid hb
  clear ha hb
  go_enter Try.func113, Try.ntmps113
  go_wp2_with (at_make; refine wpList_mk8 rfl (.tmp 12) rfl _ (n + m) rfl (by omega) (by omega) ?_; intro w1 hF1 hB1)
  go_loopw [6] (fun i wr => ∃ k : Nat, k ≤ n ∧ i = .int .i64 k ∧ Fresh w.heap.size 5 wr (some ⟨w.heap.size, 0, none⟩) (n + m) (n + m) (cb (splice (List.replicate (n + m) 0) 0 (a.take k))) ∧ Below w.heap.size w wr) (fun i _ => n - (intOf i).toNat)
  case atStart => exact ⟨0, by omega, rfl, by simpa [splice] using hF1, hB1⟩
  case round =>
    obtain ⟨k, hk, rfl, hFr, hbr⟩ := hrel
    by_cases hlt : k < n
    · obtain ⟨u, hc⟩ := hFr.cellAt (j := k) (by omega)
      have hz := hFr.frozenAt (j := k)
      obtain ⟨g, o, rfl, hg, x, HX, hx, hcx⟩ := (hs.below hbr).byte HA.out hlt
      go_wp2_with fail
      have hka : k < a.length := by rw [HA.out]; exact hlt
      have hst := hFr.store8 (0 + k) x
      rw [← getElem_of HX.out hka, splice_step _ _ _ _ hka (by simp [HA.out]), getElem_of HX.out hka, Nat.zero_add] at hst
      go_roundw
      case rel => exact ⟨k + 1, by omega, by go_num, hst, hbr.setCell (Nat.le_refl _) _⟩
      case measure => simp [intOf]; omega
    · have hk' : k = n := by omega
      have hF2 : Fresh w.heap.size 5 wr (some ⟨w.heap.size, 0, none⟩) (n + m) (n + m) (cb (a ++ List.replicate m 0)) := by
        have h := hFr
        rw [splice_all _ _ _ _ (by rw [HA.out]; omega)] at h
        rw [← HA.out] at h ⊢
        rwa [splice_front] at h
      obtain ⟨w0, hw0⟩ : ∃ w0, w0 = wr := ⟨_, rfl⟩
      rw [← hw0] at hbr hF2 ⊢
      clear hw0 hFr hk'
      go_wp2_with fail
      go_loopw [7] (fun i wr => ∃ k : Nat, k ≤ m ∧ i = .int .i64 k ∧ Fresh w.heap.size 5 wr (some ⟨w.heap.size, 0, none⟩) (n + m) (n + m) (cb (splice (a ++ List.replicate m 0) n (b.take k))) ∧ Below w.heap.size w wr) (fun i _ => m - (intOf i).toNat)
      case atStart => exact ⟨0, by omega, rfl, by simpa [splice] using hF2, hbr⟩
      case round =>
        obtain ⟨j, hj, rfl, hFj, hbj⟩ := hrel
        by_cases hlt2 : j < m
        · obtain ⟨u, hc⟩ := hFj.cellAt (j := n + j) (by omega)
          have hz := hFj.frozenAt (j := n + j)
          obtain ⟨g, o, rfl, hg, x, HX, hx, hcx⟩ := (ht.below hbj).byte HB.out hlt2
          go_wp2_with fail
          have hjb : j < b.length := by rw [HB.out]; exact hlt2
          have hst := hFj.store8 (n + j) x
          rw [← getElem_of HX.out hjb, splice_step _ _ _ _ hjb (by simp [HA.out, HB.out]), getElem_of HX.out hjb] at hst
          go_roundw
          case rel => exact ⟨j + 1, by omega, by go_num, hst, hbj.setCell (Nat.le_refl _) _⟩
          case measure => simp [intOf]; omega
        · have hj' : j = m := by omega
          have e := splice_tail a b m HB.out
          rw [HA.out] at e
          have h := hFj
          rw [splice_all _ _ _ _ (by rw [HB.out]; omega), e] at h
          clear e hj'
          go_wp2_with fail
          go_ret
          exact ⟨_, _, rfl, h, hbj⟩

/-- What the digits are worth, as far as 64 bits go. -/
def valTo (l : List UInt8) : Nat → Nat
  | 0 => 0
  | k + 1 => (valTo l k + 128 ^ k % 18446744073709551616 * (oct l k % 128)) % 18446744073709551616
theorem wrap_val (v p y : Nat) : IntKind.u64.wrap ((v : Int) + IntKind.u64.wrap ((p : Int) * ((y : Int) % 128))) = (((v + p * (y % 128)) % 18446744073709551616 : Nat) : Int) := by
  rw [IntKind.wrap_u64, IntKind.wrap_u64]
  have e : (p : Int) * ((y : Int) % 128) = ((p * (y % 128) : Nat) : Int) := by simp
  rw [e]
  generalize p * (y % 128) = t
  omega
theorem wrap_unit (p k : Nat) (hp : p = 128 ^ k % 18446744073709551616) : IntKind.u64.wrap ((p : Int) * 128) = ((128 ^ (k + 1) % 18446744073709551616 : Nat) : Int) := by
  rw [IntKind.wrap_u64, Nat.pow_succ]
  subst hp
  generalize 128 ^ k = t
  omega
theorem valF_snoc : ∀ (l : List UInt8) (c : UInt8), valF (l ++ [c]) = valF l + 128 ^ l.length * (c.toNat % 128)
  | [], c => by simp [valF]
  | d :: l, c => by
    have := valF_snoc l c
    simp only [List.cons_append, valF, this, List.length_cons, Nat.pow_succ']
    rw [Nat.mul_add, Nat.add_assoc, Nat.mul_assoc]
theorem valTo_is (l : List UInt8) : ∀ k, k ≤ l.length → valTo l k = valF (l.take k) % 18446744073709551616
  | 0, _ => by simp [valTo, valF]
  | k + 1, h => by
    have ih := valTo_is l k (by omega)
    have hk : l[k]? = some (l[k]'(by omega)) := List.getElem?_eq_getElem (by omega)
    rw [valTo, ih, List.take_succ_eq_append_getElem (by omega), valF_snoc, oct_get l k _ hk, List.length_take, Nat.min_eq_left (by omega)]
    rw [Nat.add_mod, Nat.mod_mod, Nat.mod_mul_mod, ← Nat.add_mod]
set_option maxRecDepth 100000 in
set_option maxHeartbeats 1000000 in
theorem value_any (A : Option Addr) (c n : Nat) (l : List UInt8) (w : World) (hs : Sees w w.heap.size A (cb l)) (hl : l.length = n) (hn : n ≤ 1099511627776) :
    Calls Try.prog 108 #[.slice A n c] w fun e w' => e = .returned (.int .u64 (valTo l n : Int)) ∧ w = w' := by
  have HL := Lib.hid hl
  clear hl
  go_enter Try.func108, Try.ntmps108
  go_wp2
  go_loop [3, 4, 5] (fun x u i => ∃ k : Nat, k ≤ n ∧ i = .int .i64 k ∧ x = .int .u64 (valTo l k : Int) ∧ u = .int .u64 ((128 ^ k % 18446744073709551616 : Nat) : Int)) (fun _ _ i => n - (intOf i).toNat)
  case atStart => exact ⟨0, by omega, rfl, rfl, rfl⟩
  case round =>
    obtain ⟨k, hk, rfl, rfl, rfl⟩ := hrel
    by_cases hlt : k < n
    · obtain ⟨b, o, rfl, hb, x, HX, hx, hc⟩ := hs.byte HL.out hlt
      obtain ⟨p, hp⟩ : ∃ p, p = 128 ^ k % 18446744073709551616 := ⟨_, rfl⟩
      rw [← hp]
      have HP := Lib.hid hp
      clear hp
      go_wp2_with fail
      go_round
      case rel => exact ⟨k + 1, by omega, by go_num, congrArg (Value.int .u64) (by rw [wrap_val, HP.out, valTo, oct_get l k x HX.out]), congrArg (Value.int .u64) (wrap_unit p k HP.out)⟩
      case measure => simp [intOf]; omega
    · go_wp2_with fail
      go_ret
      obtain rfl : k = n := by omega
      exact ⟨rfl, rfl⟩
theorem value_is (A : Option Addr) (c n : Nat) (l : List UInt8) (w : World) (hs : Sees w w.heap.size A (cb l)) (hl : l.length = n) (hn : n ≤ 1099511627776) :
    Calls Try.prog 108 #[.slice A n c] w fun e w' => e = .returned (.int .u64 ((valF l % 18446744073709551616 : Nat) : Int)) ∧ w = w' := by
  have h := value_any A c n l w hs hl hn
  rwa [valTo_is l n (by omega), List.take_of_length_le (by omega)] at h

set_option maxRecDepth 100000 in
set_option maxHeartbeats 1000000 in
theorem begins_any (A : Option Addr) (c n : Nat) (l : List UInt8) (w : World) (hs : Sees w w.heap.size A (cb l)) (hl : l.length = n) (hn : n ≤ 1099511627776) :
    Calls Try.prog 110 #[.slice A n c] w fun e w' => e = .returned (.bool (starts l)) ∧ w = w' := by
  have HL := Lib.hid hl
  clear hl
  go_enter Try.func110, Try.ntmps110
  go_wp2
  go_loop [3] (fun i => ∃ k : Nat, k ≤ n ∧ i = .int .i64 k ∧ ∀ d ∈ l.take k, 128 ≤ d.toNat) (fun i => n - (intOf i).toNat)
  case atStart => exact ⟨0, by omega, rfl, by simp⟩
  case round =>
    obtain ⟨k, hk, rfl, hall⟩ := hrel
    have HA := Lib.hid hall
    clear hall
    by_cases hlt : k < n
    · obtain ⟨b, o, rfl, hb, x, HX, hx, hc⟩ := hs.byte HL.out hlt
      by_cases h128 : x.toNat < 128
      · go_wp2_with fail
        go_ret
        refine ⟨ret_bool ?_, rfl⟩
        have hm : x ∈ l := List.mem_of_getElem? HX.out
        rw [eq_comm, Bool.eq_false_iff]
        intro h
        simp only [starts, Bool.and_eq_true, List.all_eq_true, decide_eq_true_eq] at h
        have := h.2 x hm
        omega
      · go_wp2_with fail
        go_round
        case rel =>
          refine ⟨k + 1, by omega, by go_num, fun d hd => ?_⟩
          rw [List.take_add_one, HX.out] at hd
          simp at hd
          rcases hd with hd | rfl
          · exact HA.out d hd
          · omega
        case measure => simp [intOf]; omega
    · go_wp2_with fail
      go_ret
      refine ⟨ret_bool ?_, rfl⟩
      have hall := HA.out
      rw [List.take_of_length_le (by rw [HL.out]; omega)] at hall
      have h2 : (l.all fun c => decide (128 ≤ c.toNat)) = true := by
        rw [List.all_eq_true]
        intro d hd
        simpa using hall d hd
      rw [starts, h2, Bool.and_true, HL.out]
      rw [Bool.eq_iff_iff]
      simp only [decide_eq_true_eq]
      omega
end Go.Proofs.Ytmkpopfaaebgfaa
