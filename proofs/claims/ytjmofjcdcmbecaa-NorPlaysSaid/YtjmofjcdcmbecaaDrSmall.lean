/-
  Small loops over words: whether a bit would be set; whether two lists of words are the same.
-/
import Derived.Test.YtjmofjcdcmbecaaDrWords
import Derived.Test.YtjmofjcdcmbecaaSched
import Derived.Laws.BitsAll
namespace Go.Proofs.Ytjmofjcdcmbecaa
open Go.RowKit
set_option linter.unusedVariables false

/-- The bits that would be set. -/
def nset (x y : UInt32) : Nat := x.toNat &&& (4294967295 - y.toNat)
def sets32 : List UInt32 → List UInt32 → Bool
  | y :: is, x :: l => !(nset x y == 0) || sets32 is l
  | _, _ => false
theorem andNot32 (x y : UInt32) : bits .andNot .u32 (x.toNat : Int) (y.toNat : Int) = ((nset x y : Nat) : Int) := u32_andNot_nat _ _ x.toNat_lt y.toNat_lt
theorem drop_at32 {α : Type} {l : List α} {k : Nat} {x : α} (h : l[k]? = some x) : l.drop k = x :: l.drop (k + 1) := by
  obtain ⟨h1, h2⟩ := List.getElem?_eq_some_iff.1 h
  rw [List.drop_eq_getElem_cons h1, h2]
set_option maxHeartbeats 1000000 in
set_option maxRecDepth 100000 in
theorem wouldSet_any (A B : Option Addr) (c d n : Nat) (is l : List UInt32) (w : World) (hs : Sees w w.heap.size A (cw is)) (ht : Sees w w.heap.size B (cw l)) (ha : is.length = n) (hb : l.length = n) (hn : n ≤ 1099511627776) (r : Bool) (hr : sets32 is l = r) :
    Calls Try.prog 116 #[.slice A n c, .slice B n d] w fun e w' => e = .returned (.bool r) ∧ ∃ k, w' = w.drewN k := by
  have HA := Lib.hid ha
  have HB := Lib.hid hb
  have HR := Lib.hid hr
  clear ha hb hr
  go_enter Try.func116, Try.ntmps116
  go_wp2_with fail
  go_loopw [8] (fun i wr => ∃ k : Nat, k ≤ n ∧ i = .int .i64 (k : Int) ∧ Hid (sets32 (is.drop k) (l.drop k) = r) ∧ ∃ q, wr = w.drewN q) (fun i _ => n - (intOf i).toNat)
  case atStart => exact ⟨0, Nat.zero_le _, rfl, Lib.hid (by simpa using HR.out), 0, rfl⟩
  case round =>
    obtain ⟨k, hk, rfl, hu, q, rfl⟩ := hrel
    by_cases hlt : k < n
    · obtain ⟨g, o, rfl, hg, y, HY, hy', hcy⟩ := hs.word HA.out hlt
      obtain ⟨g', o', rfl, hg', x, HX, hx', hcx⟩ := ht.word HB.out hlt
      have hu2 := hu.out
      rw [drop_at32 HY.out, drop_at32 HX.out] at hu2
      simp only [sets32] at hu2
      have hraw := andNot32 x y
      revert hraw hu2
      generalize nset x y = N
      intro hu2 hraw
      clear hs ht hu HR
      rcases N with _ | N
      · simp at hu2
        have HU := Lib.hid hu2
        clear hu2
        go_wp2_with fail
        go_quiet (fail)
        go_wp2_with fail
        go_roundw
        case rel => exact ⟨k + 1, by omega, by go_num, HU, q + nq, (by first | rfl | rw [World.drewN_drewN])⟩
        case measure => simp [intOf]; omega
      · obtain rfl : r = true := by rw [← hu2]; simp
        clear hu2
        have h0 : ¬ (((N + 1 : Nat) : Int) = 0) := by omega
        go_wp2_with fail
        go_quiet (fail)
        go_wp2_with fail
        go_ret
        exact ⟨rfl, q + nq, (by first | rfl | rw [World.drewN_drewN])⟩
    · obtain rfl : k = n := by omega
      have hu2 := hu.out
      rw [List.drop_of_length_le (by rw [HA.out]; exact Nat.le_refl _)] at hu2
      simp only [sets32] at hu2
      subst hu2
      clear hs ht hu HR
      go_wp2_with fail
      go_ret
      exact ⟨rfl, q, rfl⟩
set_option maxHeartbeats 1000000 in
set_option maxRecDepth 100000 in
theorem EqualW_any (A B : Option Addr) (c d n m : Nat) (a l : List UInt32) (w : World) (hs : Sees w w.heap.size A (cw a)) (ht : Sees w w.heap.size B (cw l)) (ha : a.length = n) (hb : l.length = m) (hn : n ≤ 1099511627776) (hm : m ≤ 1099511627776) (r : Bool) (hr : (a == l) = r) :
    Calls Try.prog 119 #[.slice A n c, .slice B m d] w fun e w' => e = .returned (.bool r) ∧ ∃ k, w' = w.drewN k := by
  have HA := Lib.hid ha
  have HB := Lib.hid hb
  have HR := Lib.hid hr
  clear ha hb hr
  go_enter Try.func119, Try.ntmps119
  by_cases hnm : n = m
  · subst hnm
    go_wp2_with fail
    go_loopw [13] (fun i wr => ∃ k : Nat, k ≤ n ∧ i = .int .i64 (k : Int) ∧ Hid ((a.drop k == l.drop k) = r) ∧ ∃ q, wr = w.drewN q) (fun i _ => n - (intOf i).toNat)
    case atStart => exact ⟨0, Nat.zero_le _, rfl, Lib.hid (by simpa using HR.out), 0, rfl⟩
    case round =>
      obtain ⟨k, hk, rfl, hu, q, rfl⟩ := hrel
      by_cases hlt : k < n
      · obtain ⟨g, o, rfl, hg, y, HY, hy', hcy⟩ := hs.word HA.out hlt
        obtain ⟨g', o', rfl, hg', x, HX, hx', hcx⟩ := ht.word HB.out hlt
        have hu2 := hu.out
        rw [drop_at32 HY.out, drop_at32 HX.out, List.cons_beq_cons] at hu2
        clear hs ht hu HR
        by_cases hxy : y = x
        · subst hxy
          rw [beq_self_eq_true, Bool.true_and] at hu2
          have HU := Lib.hid hu2
          clear hu2
          go_wp2_with fail
          go_quiet (fail)
          go_wp2_with fail
          go_roundw
          case rel => exact ⟨k + 1, by omega, by go_num, HU, q + nq, (by first | rfl | rw [World.drewN_drewN])⟩
          case measure => simp [intOf]; omega
        · obtain rfl : r = false := by rw [← hu2]; simp [hxy]
          have h0 : ¬ ((y.toNat : Int) = (x.toNat : Int)) := by
            intro e
            exact hxy (UInt32.toNat_inj.1 (by omega))
          clear hu2 hxy
          go_wp2_with fail
          go_quiet (fail)
          go_wp2_with fail
          go_ret
          exact ⟨rfl, q + nq, (by first | rfl | rw [World.drewN_drewN])⟩
      · obtain rfl : k = n := by omega
        have hu2 := hu.out
        rw [List.drop_of_length_le (by rw [HA.out]; exact Nat.le_refl _), List.drop_of_length_le (by rw [HB.out]; exact Nat.le_refl _)] at hu2
        obtain rfl : r = true := by rw [← hu2]; rfl
        clear hs ht hu HR hu2
        go_wp2_with fail
        go_ret
        exact ⟨rfl, q, rfl⟩
  · obtain rfl : r = false := by
      rw [← HR.out]
      have : a ≠ l := fun e => hnm (by rw [← HA.out, ← HB.out, e])
      simp [this]
    have h0 : ¬ ((n : Int) = (m : Int)) := by omega
    clear hs ht HR
    go_wp2_with fail
    go_ret
    exact ⟨rfl, 0, rfl⟩
end Go.Proofs.Ytjmofjcdcmbecaa
