/-
  Lists of types held against each other, and the examples of chapter 13 (awake).
-/
import Derived.Test.YtangblcfdboghaaCodeBytes
namespace Go.Proofs.Ytangblcfdboghaa
open Go.RowKit
set_option linter.unusedVariables false
theorem take_same8 (l b : List UInt8) (k : Nat) (x y : UInt8) (h : l.take k = b.take k) (hx : l[k]? = some x) (hy : b[k]? = some y) (e : x = y) : l.take (k + 1) = b.take (k + 1) := by
  subst e
  rw [List.take_add_one, List.take_add_one, h, hx, hy]

set_option maxHeartbeats 1000000 in
theorem sameTypes_any (A B : Option Addr) (c d n m : Nat) (l b : List UInt8) (w : World) (hs : Sees w w.heap.size A (cb l)) (ht : Sees w w.heap.size B (cb b)) (hl : l.length = n) (hm : b.length = m) (hn : n ≤ 1099511627776) :
    Calls Try.prog 23 #[.slice A n c, .slice B m d] w fun e w' => e = .returned (.bool (l == b)) ∧ ∃ k, w' = w.drewN k := by
  have HL := Lib.hid hl
  have HM := Lib.hid hm
  clear hl hm
  by_cases hnm : n = m
  · subst hnm
    go_enter Try.func23, Try.ntmps23
    go_wp2
    go_loopw [5, 13] (fun s5 i wr => ∃ k : Nat, k ≤ n ∧ i = .int .i64 k ∧ l.take k = b.take k ∧ ∃ q, wr = w.drewN q) (fun _ i _ => n - (intOf i).toNat)
    case atStart => exact ⟨0, by omega, rfl, rfl, 0, rfl⟩
    case round =>
      obtain ⟨k, hk, rfl, htk, q, rfl⟩ := hrel
      have HT := Lib.hid htk
      clear htk
      by_cases hlt : k < n
      · obtain ⟨b1, o1, rfl, hb1, x, HX, hx, hcx⟩ := hs.byte HL.out hlt
        obtain ⟨b2, o2, rfl, hb2, y, HY, hy, hcy⟩ := ht.byte HM.out hlt
        by_cases he : x.toNat = y.toNat
        · have hne : ((x.toNat : Int) != (y.toNat : Int)) = false := by simp [he]
          have HE := Lib.hid he
          clear he
          go_wp2
          go_quiet (fail)
          go_wp2
          go_roundw
          case rel => exact ⟨k + 1, by omega, by go_num, take_same8 l b k x y HT.out HX.out HY.out (UInt8.toNat_inj.1 HE.out), _, rfl⟩
          case measure => simp [intOf]; omega
        · have hne : ((x.toNat : Int) != (y.toNat : Int)) = true := by simp; omega
          go_wp2
          go_quiet (fail)
          go_wp2
          go_ret
          refine ⟨ret_bool ?_, _, World.drewN_drewN _ _ _⟩
          rw [eq_comm, beq_eq_false_iff_ne]
          rintro rfl
          have h1 := HX.out
          rw [HY.out] at h1
          injection h1 with h1
          exact he (by rw [h1])
      · go_wp2
        go_ret
        obtain rfl : k = n := by omega
        refine ⟨ret_bool ?_, _, rfl⟩
        rw [eq_comm, beq_iff_eq]
        have h := HT.out
        rwa [List.take_of_length_le (by rw [HL.out]; exact Nat.le_refl _), List.take_of_length_le (by rw [HM.out]; exact Nat.le_refl _)] at h
  · have hne : ((n : Int) != (m : Int)) = true := by simp; omega
    go_enter Try.func23, Try.ntmps23
    go_wp2
    go_ret
    refine ⟨ret_bool ?_, 0, rfl⟩
    rw [eq_comm, beq_eq_false_iff_ne]
    rintro rfl
    exact hnm (HL.out.symm.trans HM.out)

/-- The example's program. -/
def pgP : Pg := ⟨[112], [], [], [⟨22, 0, 0, 0⟩]⟩
def pmP (b : Nat) : Pm := ⟨pgP, none, 0, 0, none, 0, 0, some ⟨b, 0, none⟩, 1, 1⟩
theorem pgP_right : pgP.right = true := by decide
theorem pgP_bytes : pgP.bytes = [1, 112, 0, 0, 1, 22, 0, 0, 0] := by decide

theorem pmP_at (w : World) : PmAt (w.alloc (.cells (jcs [⟨22, 0, 0, 0⟩]).toArray 53 (0, 0))).heap.size (w.alloc (.cells (jcs [⟨22, 0, 0, 0⟩]).toArray 53 (0, 0))) (pmP w.heap.size) where
  vars := Sees.nil
  blocks := Sees.nil
  ins := sees_new w 53 (jcs [⟨22, 0, 0, 0⟩])
  nv := rfl
  nb := rfl
  ni := rfl
  cv := ⟨Nat.le_refl _, Nat.zero_le _⟩
  cb := ⟨Nat.le_refl _, Nat.zero_le _⟩
  ci := ⟨Nat.le_refl _, by unfold maxLen; simp [pmP]⟩
  okv := by intro v hv; simp [pmP, pgP] at hv
  oki := by
    intro j hj
    simp [pmP, pgP] at hj
    subst hj
    exact ⟨by decide, by decide, by decide, by decide⟩
  name := by simp [pmP, pgP, maxLen]
theorem Bytes_yes (m : Pm) (w : World) (hm : PmAt w.heap.size w m) (hr : m.p.right = true) :
    Calls Try.prog 14 #[.agg m.cells.toArray] w fun e w' => ∃ A c, e = .returned (.tuple #[.slice A m.p.bytes.length c, .int .i64 0]) ∧ Fresh w.heap.size 5 w' A m.p.bytes.length c (cb m.p.bytes) ∧ Below w.heap.size w w' :=
  Bytes_yes0 m w hm hr (fun wq h => by
    have := Right_any m wq h
    rwa [hr] at this)
theorem Bytes_P (w : World) : Calls Try.prog 14 #[.agg #[.string ⟨#[112]⟩, .slice none 0 0, .slice none 0 0, .slice (some ⟨w.heap.size, 0, none⟩) 1 1]] (w.alloc (.cells #[.int .u8 22, .int .u8 0, .int .i64 0, .int .i64 0] 53)) fun e w' => ∃ A c, e = .returned (.tuple #[.slice A 9 c, .int .i64 0]) ∧ Fresh w.heap.size 5 w' A 9 c (cb [1, 112, 0, 0, 1, 22, 0, 0, 0]) ∧ Below w.heap.size w w' := by
  refine (Bytes_yes (pmP w.heap.size) _ (pmP_at w) pgP_right).mono ?_
  rintro e w' ⟨A, c, rfl, hF, hB⟩
  have e1 : (pmP w.heap.size).p.bytes = [1, 112, 0, 0, 1, 22, 0, 0, 0] := pgP_bytes
  rw [e1] at hF
  refine ⟨A, c, by rw [e1]; rfl, hF.lower (by simp), (below_alloc _ _).trans (hB.mono (by simp))⟩
theorem Pins_6 (w : World) : Calls Try.prog 20 #[.int .u8 6] w fun e w' => ∃ A c B d, e = .returned (.tuple #[.slice A 5 c, .slice B 3 d]) ∧ Fresh w.heap.size 28 w' A 5 c (cb [1, 1, 1, 1, 4]) ∧ Fresh w.heap.size 28 w' B 3 d (cb [1, 1, 4]) ∧ Below w.heap.size w w' := Pins_any 6 w
theorem Wrap_v (t : Nat) (n v : Int) (w : World) (hn : -9223372036854775808 ≤ n ∧ n < 9223372036854775808) (hv : wrapF t n = v) : Calls Try.prog 24 #[.int .u8 (t : Int), .int .i64 n] w fun e w' => e = .returned (.int .i64 v) ∧ w = w' := by
  have := Wrap_any t n w hn
  rwa [hv] at this
theorem Wrap_1 (w : World) : Calls Try.prog 24 #[.int .u8 2, .int .i64 200] w fun e w' => e = .returned (.int .i64 (-56)) ∧ w = w' := Wrap_v 2 200 (-56) w (by decide) (by decide)
theorem Wrap_2 (w : World) : Calls Try.prog 24 #[.int .u8 5, .int .i64 (-1)] w fun e w' => e = .returned (.int .i64 4294967295) ∧ w = w' := Wrap_v 5 (-1) 4294967295 w (by decide) (by decide)
theorem Wrap_3 (w : World) : Calls Try.prog 24 #[.int .u8 1, .int .i64 7] w fun e w' => e = .returned (.int .i64 1) ∧ w = w' := Wrap_v 1 7 1 w (by decide) (by decide)
theorem same_true (A B : Option Addr) (c d n : Nat) (l : List UInt8) (w : World) (hs : Sees w w.heap.size A (cb l)) (ht : Sees w w.heap.size B (cb l)) (hl : l.length = n) (hn : n ≤ 1099511627776) :
    Calls Try.prog 23 #[.slice A n c, .slice B n d] w fun e w' => e = .returned (.bool true) ∧ ∃ k, w' = w.drewN k := by
  have := sameTypes_any A B c d n n l l w hs ht hl hl hn
  rwa [beq_self_eq_true] at this

theorem same5 {B : Nat} {A : Option Addr} {c : Nat} {w : World} (h : Fresh B 28 w A 5 c (cb [1, 1, 1, 1, 4])) : Calls Try.prog 23 #[.slice A 5 c, .slice (some ⟨w.heap.size, 0, none⟩) 5 5] (w.alloc (.cells #[.int .u8 1, .int .u8 1, .int .u8 1, .int .u8 1, .int .u8 4] 28)) fun e w' => e = .returned (.bool true) ∧ ∃ k, w' = (w.alloc (.cells #[.int .u8 1, .int .u8 1, .int .u8 1, .int .u8 1, .int .u8 4] 28)).drewN k :=
  same_true A _ c 5 5 [1, 1, 1, 1, 4] _ (h.sees.step (below_alloc _ _)) (sees_new w 28 (cb [1, 1, 1, 1, 4])) rfl (by omega)
theorem same3 {B : Nat} {A : Option Addr} {c : Nat} {w : World} (h : Fresh B 28 w A 3 c (cb [1, 1, 4])) (q : Nat) : Calls Try.prog 23 #[.slice A 3 c, .slice (some ⟨w.heap.size + 1, 0, none⟩) 3 3] (((w.alloc (.cells #[.int .u8 1, .int .u8 1, .int .u8 1, .int .u8 1, .int .u8 4] 28)).drewN q).alloc (.cells #[.int .u8 1, .int .u8 1, .int .u8 4] 28)) fun e w' => e = .returned (.bool true) ∧ ∃ k, w' = (((w.alloc (.cells #[.int .u8 1, .int .u8 1, .int .u8 1, .int .u8 1, .int .u8 4] 28)).drewN q).alloc (.cells #[.int .u8 1, .int .u8 1, .int .u8 4] 28)).drewN k := by
  have hB : Below w.heap.size w ((w.alloc (.cells #[.int .u8 1, .int .u8 1, .int .u8 1, .int .u8 1, .int .u8 4] 28)).drewN q) := below_drewN' (below_alloc _ _) q
  have h1 := (h.below hB).sees.step (below_alloc _ (.cells #[.int .u8 1, .int .u8 1, .int .u8 4] 28))
  have h2 := sees_new ((w.alloc (.cells #[.int .u8 1, .int .u8 1, .int .u8 1, .int .u8 1, .int .u8 4] 28)).drewN q) 28 (cb [1, 1, 4])
  have es : ((w.alloc (.cells #[.int .u8 1, .int .u8 1, .int .u8 1, .int .u8 1, .int .u8 4] 28)).drewN q).heap.size = w.heap.size + 1 := by simp
  rw [es] at h2
  exact same_true A _ c 3 3 [1, 1, 4] _ h1 h2 rfl (by omega)
set_option maxHeartbeats 4000000 in
set_option maxRecDepth 100000 in
theorem awake13_any (w : World) : Calls Try.prog 13 #[] w fun e w' => e = .returned (.bool true) ∧ Below w.heap.size w w' := by
  go_enter Try.func13, Try.ntmps13
  go_wp2_with (first
    | (go_at_call 14; refine (Bytes_P _).mono ?_; rintro e w1 ⟨A, c, rfl, hF1, hB1⟩)
    | (go_at_call 20; refine (Pins_6 _).mono ?_; rintro e w2 ⟨A1, c1, A2, c2, rfl, hP1, hP2, hB2⟩; have hstr := run_str (hF1.below hB2).sees (n := 9) rfl c; have hB := Below.then_ hB1 hB2; have S1 := same5 hP1; have S2 := same3 hP2)
    | (go_at_call 24; with_reducible refine (Wrap_1 _).mono ?_; rintro e w' ⟨rfl, rfl⟩)
    | (go_at_call 24; with_reducible refine (Wrap_2 _).mono ?_; rintro e w' ⟨rfl, rfl⟩)
    | (go_at_call 24; with_reducible refine (Wrap_3 _).mono ?_; rintro e w' ⟨rfl, rfl⟩)
    | (go_at_call 23; with_reducible refine S1.mono ?_; rintro e w' ⟨rfl, q, rfl⟩)
    | (go_at_call 23; with_reducible refine (S2 _).mono ?_; rintro e w' ⟨rfl, q2, rfl⟩))
  go_ret
  refine ⟨rfl, ?_⟩
  exact below_drewN' ((below_drewN' ((hB.alloc hB.size _)) _).alloc (by have := hB.size; simp; omega) _) _
end Go.Proofs.Ytangblcfdboghaa
