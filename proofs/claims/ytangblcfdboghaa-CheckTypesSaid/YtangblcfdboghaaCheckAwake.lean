/-
  The statements' own small functions of layer 14: prog, same, and the chapter's examples (awake).
-/
import Derived.Test.YtangblcfdboghaaCheckCalls
namespace Go.Proofs.Ytangblcfdboghaa
open Go.RowKit
set_option linter.unusedVariables false

theorem take_sameC (l b : List UInt8) (k : Nat) (x y : UInt8) (h : l.take k = b.take k) (hx : l[k]? = some x) (hy : b[k]? = some y) (e : x = y) : l.take (k + 1) = b.take (k + 1) := by
  subst e
  rw [List.take_add_one, List.take_add_one, h, hx, hy]
set_option maxHeartbeats 1000000 in
set_option maxRecDepth 100000 in
theorem same14_any (A B : Option Addr) (c d n m : Nat) (l b : List UInt8) (w : World) (hs : Sees w w.heap.size A (cb l)) (ht : Sees w w.heap.size B (cb b)) (hl : l.length = n) (hm : b.length = m) (hn : n ≤ 1099511627776) :
    Calls Try.prog 35 #[.slice A n c, .slice B m d] w fun e w' => e = .returned (.bool (l == b)) ∧ ∃ k, w' = w.drewN k := by
  have HL := Lib.hid hl
  have HM := Lib.hid hm
  clear hl hm
  by_cases hnm : n = m
  · subst hnm
    go_enter Try.func35, Try.ntmps35
    go_wp2
    go_loopw [5, 13] (fun s5 i wr => ∃ k : Nat, k ≤ n ∧ i = .int .i64 k ∧ l.take k = b.take k ∧ ∃ q, wr = w.drewN q) (fun _ i _ => n - (intOf i).toNat)
    case atStart => exact ⟨0, by omega, rfl, rfl, 0, rfl⟩
    case round =>
      obtain ⟨k, hk, rfl, htk, q, rfl⟩ := hrel
      have HT := Lib.hid htk
      clear htk
      by_cases hlt : k < n
      · obtain ⟨b1, o1, rfl, hb1, x, HX, hx, hcx⟩ := hs.byte HL.out hlt
        obtain ⟨b2, o2, rfl, hb2, y, HY, hy, hcy⟩ := ht.byte HM.out hlt
        by_cases he : x.toNat = y.toNat
        · have hne : ((x.toNat : Int) != (y.toNat : Int)) = false := by simp [he]
          have HE := Lib.hid he
          clear he
          go_wp2
          go_quiet (fail)
          go_wp2
          go_roundw
          case rel => exact ⟨k + 1, by omega, by go_num, take_sameC l b k x y HT.out HX.out HY.out (UInt8.toNat_inj.1 HE.out), _, rfl⟩
          case measure => simp [intOf]; omega
        · have hne : ((x.toNat : Int) != (y.toNat : Int)) = true := by simp; omega
          go_wp2
          go_quiet (fail)
          go_wp2
          go_ret
          refine ⟨ret_bool ?_, _, World.drewN_drewN _ _ _⟩
          rw [eq_comm, beq_eq_false_iff_ne]
          rintro rfl
          have h1 := HX.out
          rw [HY.out] at h1
          injection h1 with h1
          exact he (by rw [h1])
      · go_wp2
        go_ret
        obtain rfl : k = n := by omega
        refine ⟨ret_bool ?_, _, rfl⟩
        rw [eq_comm, beq_iff_eq]
        have h := HT.out
        rwa [List.take_of_length_le (by rw [HL.out]; exact Nat.le_refl _), List.take_of_length_le (by rw [HM.out]; exact Nat.le_refl _)] at h
  · have hne : ((n : Int) != (m : Int)) = true := by simp; omega
    go_enter Try.func35, Try.ntmps35
    go_wp2
    go_ret
    refine ⟨ret_bool ?_, 0, rfl⟩
    rw [eq_comm, beq_eq_false_iff_ne]
    rintro rfl
    exact hnm (HL.out.symm.trans HM.out)

/-- A program of instructions alone. -/
def pmJ (js : List Jn) (A : Option Addr) (c : Nat) : Pm := ⟨⟨[112], [], [], js⟩, none, 0, 0, none, 0, 0, A, js.length, c⟩
def pgJ (js : List Jn) : Pg := ⟨[112], [], [], js⟩
theorem pmJ_at {js : List Jn} {A : Option Addr} {c : Nat} {w : World} (hs : Sees w w.heap.size A (jcs js)) (ho : ∀ j ∈ js, j.Ok) (hc : js.length ≤ c ∧ c ≤ maxLen) : PmAt w.heap.size w (pmJ js A c) where
  vars := Sees.nil
  blocks := Sees.nil
  ins := hs
  nv := rfl
  nb := rfl
  ni := rfl
  cv := by simp [pmJ, maxLen]
  cb := by simp [pmJ, maxLen]
  ci := hc
  okv := by intro v hv; simp [pmJ] at hv
  oki := ho
  name := by simp [pmJ, maxLen]
theorem jns_ok {js : List Jn} (h : js.all (fun j => decide (j.op < 256) && (decide (j.t < 256) && (decide (0 ≤ j.a) && (decide (j.a < 1000000) && (decide (-1000000 ≤ j.n) && decide (j.n < 1000000)))))) = true) : ∀ j ∈ js, j.Ok := by
  intro j hj
  have := List.all_eq_true.1 h j hj
  simp at this
  exact ⟨this.1, this.2.1, by omega, by omega⟩
def okJ (j : Jn) : Bool := decide (j.op < 256) && (decide (j.t < 256) && (decide (0 ≤ j.a) && (decide (j.a < 1000000) && (decide (-1000000 ≤ j.n) && decide (j.n < 1000000)))))
set_option maxRecDepth 100000 in
theorem prog_any (A : Option Addr) (n c : Nat) (w : World) : Calls Try.prog 36 #[.slice A n c] w fun e w' => e = .returned (.agg #[.string ⟨#[112]⟩, .slice none 0 0, .slice none 0 0, .slice A n c]) ∧ Below w.heap.size w w' := by
  go_enter Try.func36, Try.ntmps36
  go_wp2_with (first
    | (with_reducible refine wpList_alloc (o := ⟨some 2, _, _, _, _, _⟩) rfl 26 rfl noC zeroC 4 rfl (by decide) ?_; intro g w1 hg hF hB)
    | (
        with_reducible refine wpList_store rfl rfl (.tmp 2) (.tmp 4) 26 rfl g 0 w.heap.size 26 4 noC [.string ⟨#[112]⟩, .slice none 0 0, .slice none 0 0, .slice A n c] ?_ ?_ 4 ?_ ?_ ?_ ?_ ?_ w ?_ ?_ ?_
        · rfl
        · rfl
        · rfl
        · exact aggCode
        · exact hF
        · omega
        · exact cd1 _ _ _ _ _ _ _ _ _ _
        · exact hB
        · exact hg
        intro w2 hF2 hB2 hk2 hs2))
  refine bodyPost_cell rfl rfl _ 4 rfl aggCode hF2.sees rfl ?_
  exact ⟨rfl, hB2⟩
section
variable {js : List Jn} {A : Option Addr} {n c : Nat} {w : World} (hs : Sees w w.heap.size A (jcs js)) (hl : js.length = n) (ho : ∀ j ∈ js, j.Ok) (hc : n ≤ c ∧ c ≤ maxLen)
include hs hl ho hc
theorem spots_J : Calls Try.prog 29 #[.agg #[.string ⟨#[112]⟩, .slice none 0 0, .slice none 0 0, .slice A n c]] w (SpotsOut (pgJ js) w) := by
  subst hl
  exact Spots_any (pmJ js A c) w (pmJ_at hs ho hc)
theorem steps_J : Calls Try.prog 31 #[.agg #[.string ⟨#[112]⟩, .slice none 0 0, .slice none 0 0, .slice A n c]] w fun e w' => e = .returned (.int .i64 (stepsF (pgJ js) : Int)) ∧ Below w.heap.size w w' := by
  subst hl
  exact Steps_any (pmJ js A c) w (pmJ_at hs ho hc)
theorem check_J (b : Int) : Calls Try.prog 33 #[.agg #[.string ⟨#[112]⟩, .slice none 0 0, .slice none 0 0, .slice A n c], .int .i64 b] w fun e w' => e = .returned (.int .i64 (checkF (pgJ js) b : Int)) ∧ Below w.heap.size w w' := by
  subst hl
  exact Check_any (pmJ js A c) b w (pmJ_at hs ho hc)
end
theorem ex_a : spotsF (pgJ [⟨1, 1, 0, 1⟩, ⟨22, 0, 0, 0⟩]) = .error (1, 140) := by kernel_rfl
theorem ex_b : spotsF (pgJ [⟨18, 0, 0, 0⟩]) = .error (0, 141) := by kernel_rfl
theorem ex_c : stepsF (pgJ [⟨1, 1, 0, 1⟩, ⟨19, 0, 3, 0⟩, ⟨22, 0, 0, 0⟩, ⟨22, 0, 0, 0⟩]) = 3 := by kernel_rfl
theorem ex_d : stepsF (pgJ [⟨1, 1, 0, 1⟩, ⟨17, 0, 0, 0⟩]) = 2 := by kernel_rfl
theorem ex_e : checkF (pgJ [⟨1, 1, 0, 1⟩, ⟨17, 0, 0, 0⟩]) 1 = 142 := by kernel_rfl
theorem spots_e {js : List Jn} {A : Option Addr} {n c : Nat} {w : World} (k er : Nat) (h : spotsF (pgJ js) = .error (k, er)) (hs : Sees w w.heap.size A (jcs js)) (hl : js.length = n) (ho : ∀ j ∈ js, j.Ok) (hc : n ≤ c ∧ c ≤ maxLen) :
    Calls Try.prog 29 #[.agg #[.string ⟨#[112]⟩, .slice none 0 0, .slice none 0 0, .slice A n c]] w fun e w' => e = .returned (.tuple #[.slice none 0 0, .int .i64 (k : Int), .int .i64 (er : Int)]) ∧ Below w.heap.size w w' := by
  refine (spots_J hs hl ho hc).mono ?_
  rintro e w' ⟨hB, hx⟩
  rw [h] at hx
  exact ⟨hx, hB⟩
theorem steps_is {js : List Jn} {A : Option Addr} {n c : Nat} {w : World} (k : Nat) (h : stepsF (pgJ js) = k) (hs : Sees w w.heap.size A (jcs js)) (hl : js.length = n) (ho : ∀ j ∈ js, j.Ok) (hc : n ≤ c ∧ c ≤ maxLen) :
    Calls Try.prog 31 #[.agg #[.string ⟨#[112]⟩, .slice none 0 0, .slice none 0 0, .slice A n c]] w fun e w' => e = .returned (.int .i64 (k : Int)) ∧ Below w.heap.size w w' := by
  rw [← h]
  exact steps_J hs hl ho hc
theorem check_is {js : List Jn} {A : Option Addr} {n c : Nat} {w : World} (b : Int) (k : Nat) (h : checkF (pgJ js) b = k) (hs : Sees w w.heap.size A (jcs js)) (hl : js.length = n) (ho : ∀ j ∈ js, j.Ok) (hc : n ≤ c ∧ c ≤ maxLen) :
    Calls Try.prog 33 #[.agg #[.string ⟨#[112]⟩, .slice none 0 0, .slice none 0 0, .slice A n c], .int .i64 b] w fun e w' => e = .returned (.int .i64 (k : Int)) ∧ Below w.heap.size w w' := by
  rw [← h]
  exact check_J hs hl ho hc b
theorem prog_new (js : List Jn) (xs : Array Value) (n : Nat) (hx : xs = (jcs js).toArray) (w : World) : Calls Try.prog 36 #[.slice (some ⟨w.heap.size, 0, none⟩) n n] (w.alloc (.cells xs 53 (0, 0))) fun e w' =>
    e = .returned (.agg #[.string ⟨#[112]⟩, .slice none 0 0, .slice none 0 0, .slice (some ⟨w.heap.size, 0, none⟩) n n]) ∧ Sees w' w'.heap.size (some ⟨w.heap.size, 0, none⟩) (jcs js) ∧ Below w.heap.size w w' := by
  subst hx
  refine (prog_any (some ⟨w.heap.size, 0, none⟩) n n _).mono ?_
  rintro e w' ⟨rfl, hB⟩
  exact ⟨rfl, (sees_new w 53 (jcs js)).step hB, Below.then_ (below_alloc _ _) hB⟩
theorem prog_a (w : World) : Calls Try.prog 36 #[.slice (some ⟨w.heap.size, 0, none⟩) 2 2] (w.alloc (.cells #[.int .u8 1, .int .u8 1, .int .i64 0, .int .i64 1, .int .u8 22, .int .u8 0, .int .i64 0, .int .i64 0] 53 (0, 0))) fun e w2 =>
    e = .returned (.agg #[.string ⟨#[112]⟩, .slice none 0 0, .slice none 0 0, .slice (some ⟨w.heap.size, 0, none⟩) 2 2]) ∧ Sees w2 w2.heap.size (some ⟨w.heap.size, 0, none⟩) (jcs [⟨1, 1, 0, 1⟩, ⟨22, 0, 0, 0⟩]) ∧ Below w.heap.size w w2 := prog_new [⟨1, 1, 0, 1⟩, ⟨22, 0, 0, 0⟩] #[.int .u8 1, .int .u8 1, .int .i64 0, .int .i64 1, .int .u8 22, .int .u8 0, .int .i64 0, .int .i64 0] 2 rfl w
theorem prog_b (w : World) : Calls Try.prog 36 #[.slice (some ⟨w.heap.size, 0, none⟩) 1 1] (w.alloc (.cells #[.int .u8 18, .int .u8 0, .int .i64 0, .int .i64 0] 53 (0, 0))) fun e w2 =>
    e = .returned (.agg #[.string ⟨#[112]⟩, .slice none 0 0, .slice none 0 0, .slice (some ⟨w.heap.size, 0, none⟩) 1 1]) ∧ Sees w2 w2.heap.size (some ⟨w.heap.size, 0, none⟩) (jcs [⟨18, 0, 0, 0⟩]) ∧ Below w.heap.size w w2 := prog_new [⟨18, 0, 0, 0⟩] #[.int .u8 18, .int .u8 0, .int .i64 0, .int .i64 0] 1 rfl w
theorem prog_c (w : World) : Calls Try.prog 36 #[.slice (some ⟨w.heap.size, 0, none⟩) 4 4] (w.alloc (.cells #[.int .u8 1, .int .u8 1, .int .i64 0, .int .i64 1, .int .u8 19, .int .u8 0, .int .i64 3, .int .i64 0, .int .u8 22, .int .u8 0, .int .i64 0, .int .i64 0, .int .u8 22, .int .u8 0, .int .i64 0, .int .i64 0] 53 (0, 0))) fun e w2 =>
    e = .returned (.agg #[.string ⟨#[112]⟩, .slice none 0 0, .slice none 0 0, .slice (some ⟨w.heap.size, 0, none⟩) 4 4]) ∧ Sees w2 w2.heap.size (some ⟨w.heap.size, 0, none⟩) (jcs [⟨1, 1, 0, 1⟩, ⟨19, 0, 3, 0⟩, ⟨22, 0, 0, 0⟩, ⟨22, 0, 0, 0⟩]) ∧ Below w.heap.size w w2 := prog_new [⟨1, 1, 0, 1⟩, ⟨19, 0, 3, 0⟩, ⟨22, 0, 0, 0⟩, ⟨22, 0, 0, 0⟩] #[.int .u8 1, .int .u8 1, .int .i64 0, .int .i64 1, .int .u8 19, .int .u8 0, .int .i64 3, .int .i64 0, .int .u8 22, .int .u8 0, .int .i64 0, .int .i64 0, .int .u8 22, .int .u8 0, .int .i64 0, .int .i64 0] 4 rfl w
theorem prog_d (w : World) : Calls Try.prog 36 #[.slice (some ⟨w.heap.size, 0, none⟩) 2 2] (w.alloc (.cells #[.int .u8 1, .int .u8 1, .int .i64 0, .int .i64 1, .int .u8 17, .int .u8 0, .int .i64 0, .int .i64 0] 53 (0, 0))) fun e w2 =>
    e = .returned (.agg #[.string ⟨#[112]⟩, .slice none 0 0, .slice none 0 0, .slice (some ⟨w.heap.size, 0, none⟩) 2 2]) ∧ Sees w2 w2.heap.size (some ⟨w.heap.size, 0, none⟩) (jcs [⟨1, 1, 0, 1⟩, ⟨17, 0, 0, 0⟩]) ∧ Below w.heap.size w w2 := prog_new [⟨1, 1, 0, 1⟩, ⟨17, 0, 0, 0⟩] #[.int .u8 1, .int .u8 1, .int .i64 0, .int .i64 1, .int .u8 17, .int .u8 0, .int .i64 0, .int .i64 0] 2 rfl w
set_option maxHeartbeats 8000000 in
set_option maxRecDepth 100000 in
theorem awake14_any (w : World) : Calls Try.prog 28 #[] w fun e w' => e = .returned (.bool true) ∧ Below w.heap.size w w' := by
  go_enter Try.func28, Try.ntmps28
  go_wp2_with (first
    | (with_reducible refine wpList_alloc (o := ⟨some 1, _, _, _, _, _⟩) rfl 53 rfl (Jn.cells default) zeroIns 4 rfl (by decide) ?_; intro b1 w1 hgw1 hFw1 hBw1)
    | (
        with_reducible refine wpList_store rfl rfl (.tmp 1) (.tmp 9) 53 rfl b1 0 w.heap.size 53 4 (Jn.cells default) [.int .u8 1, .int .u8 1, .int .i64 0, .int .i64 1] ?_ ?_ 4 ?_ ?_ ?_ ?_ ?_ w ?_ ?_ ?_
        · rfl
        · rfl
        · rfl
        · exact aggIns
        · exact hFw1
        · omega
        · decide
        · exact hBw1
        · exact hgw1
        intro w2 hFw2 hBw2 hkw2 hsw2
        rw [show splice (Jn.cells default) 0 [.int .u8 1, .int .u8 1, .int .i64 0, .int .i64 1] = [.int .u8 1, .int .u8 1, .int .i64 0, .int .i64 1] from rfl] at hFw2)
    | (with_reducible refine wpList_alloc (o := ⟨some 2, _, _, _, _, _⟩) rfl 53 rfl (Jn.cells default) zeroIns 4 rfl (by decide) ?_; intro b2 w3 hgw3 hFw3 hBw3)
    | (
        with_reducible refine wpList_store rfl rfl (.tmp 2) (.tmp 10) 53 rfl b2 0 w2.heap.size 53 4 (Jn.cells default) [.int .u8 22, .int .u8 0, .int .i64 0, .int .i64 0] ?_ ?_ 4 ?_ ?_ ?_ ?_ ?_ w2 ?_ ?_ ?_
        · rfl
        · rfl
        · rfl
        · exact aggIns
        · exact hFw3
        · omega
        · decide
        · exact hBw3
        · exact hgw3
        intro w4 hFw4 hBw4 hkw4 hsw4
        rw [show splice (Jn.cells default) 0 [.int .u8 22, .int .u8 0, .int .i64 0, .int .i64 0] = [.int .u8 22, .int .u8 0, .int .i64 0, .int .i64 0] from rfl] at hFw4; have hFa := hFw2.below hBw4; have hFb := hFw4; have hW := Below.then_ hBw2 hBw4)
    | (with_reducible refine wpList_load (o := ⟨some 12, _, _, _, _, _⟩) rfl (.tmp 1) 53 rfl b1 0 _ rfl [.int .u8 1, .int .u8 1, .int .i64 0, .int .i64 1] 4 rfl aggIns hFa.sees ?_)
    | (with_reducible refine wpList_load (o := ⟨some 13, _, _, _, _, _⟩) rfl (.tmp 2) 53 rfl b2 0 _ rfl [.int .u8 22, .int .u8 0, .int .i64 0, .int .i64 0] 4 rfl aggIns hFb.sees ?_)
    | (with_reducible refine wpList_load (o := ⟨some 28, _, _, _, _, _⟩) rfl (.tmp 1) 53 rfl b1 0 _ rfl [.int .u8 1, .int .u8 1, .int .i64 0, .int .i64 1] 4 rfl aggIns hFa.sees ?_)
    | (with_reducible refine wpList_load (o := ⟨some 30, _, _, _, _, _⟩) rfl (.tmp 2) 53 rfl b2 0 _ rfl [.int .u8 22, .int .u8 0, .int .i64 0, .int .i64 0] 4 rfl aggIns hFb.sees ?_)
    | (with_reducible refine wpList_load (o := ⟨some 31, _, _, _, _, _⟩) rfl (.tmp 2) 53 rfl b2 0 _ rfl [.int .u8 22, .int .u8 0, .int .i64 0, .int .i64 0] 4 rfl aggIns hFb.sees ?_)
    | (with_reducible refine wpList_load_g (.tmp 1) 53 rfl b1 0 _ rfl [.int .u8 1, .int .u8 1, .int .i64 0, .int .i64 1] 4 rfl aggIns hFa.sees rfl ?_)
    | (go_at_call 36; with_reducible refine (prog_a _).mono ?_; (rintro e wx ⟨rfl, hSa, hBx⟩; have hQa := spots_e (n := 2) (c := 2) 1 140 ex_a hSa rfl (jns_ok (by decide)) (by simp [maxLen]); clear hSa; have hW := Below.then_ hW hBx; have hFa := hFa.below hBx; have hFb := hFb.below hBx))
    | (go_at_call 36; with_reducible refine (prog_b _).mono ?_; (rintro e wx ⟨rfl, hSb, hBx⟩; have hQb := spots_e (n := 1) (c := 1) 0 141 ex_b hSb rfl (jns_ok (by decide)) (by simp [maxLen]); clear hSb; have hW := Below.then_ hW hBx; have hFa := hFa.below hBx; have hFb := hFb.below hBx))
    | (go_at_call 36; with_reducible refine (prog_c _).mono ?_; (rintro e wx ⟨rfl, hSc, hBx⟩; have hQc := steps_is (n := 4) (c := 4) 3 ex_c hSc rfl (jns_ok (by decide)) (by simp [maxLen]); clear hSc; have hW := Below.then_ hW hBx; have hFa := hFa.below hBx; have hFb := hFb.below hBx))
    | (go_at_call 36; with_reducible refine (prog_d _).mono ?_; (rintro e wx ⟨rfl, hSd, hBx⟩; have hQd := steps_is (n := 2) (c := 2) 2 ex_d hSd rfl (jns_ok (by decide)) (by simp [maxLen]); have hRd := check_is (n := 2) (c := 2) 1 142 ex_e hSd rfl (jns_ok (by decide)) (by simp [maxLen]); clear hSd; have hW := Below.then_ hW hBx; have hFa := hFa.below hBx; have hFb := hFb.below hBx))
    | (go_at_call 29; with_reducible refine hQa.mono ?_; rintro e wx ⟨rfl, hBx⟩; have hW := Below.then_ hW hBx; have hFa := hFa.below hBx; have hFb := hFb.below hBx)
    | (go_at_call 29; with_reducible refine hQb.mono ?_; rintro e wx ⟨rfl, hBx⟩; have hW := Below.then_ hW hBx; have hFa := hFa.below hBx; have hFb := hFb.below hBx)
    | (go_at_call 31; with_reducible refine hQc.mono ?_; rintro e wx ⟨rfl, hBx⟩; have hW := Below.then_ hW hBx; have hFa := hFa.below hBx; have hFb := hFb.below hBx)
    | (go_at_call 31; with_reducible refine hQd.mono ?_; rintro e wx ⟨rfl, hBx⟩; have hW := Below.then_ hW hBx; have hFa := hFa.below hBx; have hFb := hFb.below hBx)
    | (go_at_call 33; with_reducible refine hRd.mono ?_; rintro e wx ⟨rfl, hBx⟩; have hW := Below.then_ hW hBx; have hFa := hFa.below hBx; have hFb := hFb.below hBx))
  go_ret
  exact ⟨rfl, hW⟩
end Go.Proofs.Ytangblcfdboghaa
