/-
  What behind of the document's own answer tells, for every input.
-/
import Derived.Test.YtcfjbllmaejiaaaVarint
namespace Go.Proofs.Ytcfjbllmaejiaaa
open Go.RowKit
set_option linter.unusedVariables false

theorem getElem_of {l : List UInt8} {k : Nat} {x : UInt8} (h : l[k]? = some x) (hk : k < l.length) : l[k] = x := by
  rw [List.getElem?_eq_getElem hk] at h
  injection h

set_option maxRecDepth 100000 in
set_option maxHeartbeats 1000000 in
theorem behind_any (A B : Option Addr) (c d n m : Nat) (a b : List UInt8) (w : World) (hs : Sees w w.heap.size A (cb a)) (ht : Sees w w.heap.size B (cb b)) (ha : a.length = n) (hb : b.length = m) (hn : n ≤ 274877906944) (hm : m ≤ 274877906944) :
    Calls Try.prog 117 #[.slice A n c, .slice B m d] w (Made8 w (n + m) (a ++ b)) := by
  have HA := Lib.hid ha
  have HB := Lib.hid hb
  clear ha hb
  go_enter Try.func117, Try.ntmps117
  go_wp2_with (at_make; refine wpList_mk8 rfl (.tmp 12) rfl _ (n + m) rfl (by omega) (by omega) ?_; intro w1 hF1 hB1)
  go_loopw [6] (fun i wr => ∃ k : Nat, k ≤ n ∧ i = .int .i64 k ∧ Fresh w.heap.size 5 wr (some ⟨w.heap.size, 0, none⟩) (n + m) (n + m) (cb (splice (List.replicate (n + m) 0) 0 (a.take k))) ∧ Below w.heap.size w wr) (fun i _ => n - (intOf i).toNat)
  case atStart => exact ⟨0, by omega, rfl, by simpa [splice] using hF1, hB1⟩
  case round =>
    obtain ⟨k, hk, rfl, hFr, hbr⟩ := hrel
    by_cases hlt : k < n
    · obtain ⟨u, hc⟩ := hFr.cellAt (j := k) (by omega)
      have hz := hFr.frozenAt (j := k)
      obtain ⟨g, o, rfl, hg, x, HX, hx, hcx⟩ := (hs.below hbr).byte HA.out hlt
      go_wp2_with fail
      have hka : k < a.length := by rw [HA.out]; exact hlt
      have hst := hFr.store8 (0 + k) x
      rw [← getElem_of HX.out hka, splice_step _ _ _ _ hka (by simp [HA.out]), getElem_of HX.out hka, Nat.zero_add] at hst
      go_roundw
      case rel => exact ⟨k + 1, by omega, by go_num, hst, hbr.setCell (Nat.le_refl _) _⟩
      case measure => simp [intOf]; omega
    · have hk' : k = n := by omega
      have hF2 : Fresh w.heap.size 5 wr (some ⟨w.heap.size, 0, none⟩) (n + m) (n + m) (cb (a ++ List.replicate m 0)) := by
        have h := hFr
        rw [splice_all _ _ _ _ (by rw [HA.out]; omega)] at h
        rw [← HA.out] at h ⊢
        rwa [splice_front] at h
      obtain ⟨w0, hw0⟩ : ∃ w0, w0 = wr := ⟨_, rfl⟩
      rw [← hw0] at hbr hF2 ⊢
      clear hw0 hFr hk'
      go_wp2_with fail
      go_loopw [7] (fun i wr => ∃ k : Nat, k ≤ m ∧ i = .int .i64 k ∧ Fresh w.heap.size 5 wr (some ⟨w.heap.size, 0, none⟩) (n + m) (n + m) (cb (splice (a ++ List.replicate m 0) n (b.take k))) ∧ Below w.heap.size w wr) (fun i _ => m - (intOf i).toNat)
      case atStart => exact ⟨0, by omega, rfl, by simpa [splice] using hF2, hbr⟩
      case round =>
        obtain ⟨j, hj, rfl, hFj, hbj⟩ := hrel
        by_cases hlt2 : j < m
        · obtain ⟨u, hc⟩ := hFj.cellAt (j := n + j) (by omega)
          have hz := hFj.frozenAt (j := n + j)
          obtain ⟨g, o, rfl, hg, x, HX, hx, hcx⟩ := (ht.below hbj).byte HB.out hlt2
          go_wp2_with fail
          have hjb : j < b.length := by rw [HB.out]; exact hlt2
          have hst := hFj.store8 (n + j) x
          rw [← getElem_of HX.out hjb, splice_step _ _ _ _ hjb (by simp [HA.out, HB.out]), getElem_of HX.out hjb] at hst
          go_roundw
          case rel => exact ⟨j + 1, by omega, by go_num, hst, hbj.setCell (Nat.le_refl _) _⟩
          case measure => simp [intOf]; omega
        · have hj' : j = m := by omega
          have e := splice_tail a b m HB.out
          rw [HA.out] at e
          have h := hFj
          rw [splice_all _ _ _ _ (by rw [HB.out]; omega), e] at h
          clear e hj'
          go_wp2_with fail
          go_ret
          exact ⟨_, _, rfl, h, hbj⟩

/-- What the digits are worth, as far as 64 bits go. -/
def valTo (l : List UInt8) : Nat → Nat
  | 0 => 0
  | k + 1 => (valTo l k + 128 ^ k % 18446744073709551616 * (oct l k % 128)) % 18446744073709551616
theorem wrap_val (v p y : Nat) : IntKind.u64.wrap ((v : Int) + IntKind.u64.wrap ((p : Int) * ((y : Int) % 128))) = (((v + p * (y % 128)) % 18446744073709551616 : Nat) : Int) := by
  rw [IntKind.wrap_u64, IntKind.wrap_u64]
  have e : (p : Int) * ((y : Int) % 128) = ((p * (y % 128) : Nat) : Int) := by simp
  rw [e]
  generalize p * (y % 128) = t
  omega
theorem wrap_unit (p k : Nat) (hp : p = 128 ^ k % 18446744073709551616) : IntKind.u64.wrap ((p : Int) * 128) = ((128 ^ (k + 1) % 18446744073709551616 : Nat) : Int) := by
  rw [IntKind.wrap_u64, Nat.pow_succ]
  subst hp
  generalize 128 ^ k = t
  omega
end Go.Proofs.Ytcfjbllmaejiaaa
