/-
  The path of a leaf, as the program tells it.
-/
import Derived.Test.YtpdfalgjmeagjaaMerkNode
import Derived.Laws.ResultCell
import Derived.Great.FillDense
import Derived.Great.BuildSlice
import Derived.Test.YtpdfalgjmeagjaaRegionJKL
import Derived.Maps.AppendAt
namespace Go.Proofs.Ytpdfalgjmeagjaa
open Go.RowKit
set_option linter.unusedVariables false

def mayB (n : Nat) : Bool := decide (0 < n ∧ n ≤ 256 ∧ n &&& (n - 1) = 0)
def rightB (leaf : Int) (n : Nat) : Bool := decide (n ≤ 8 ∧ 0 ≤ leaf ∧ leaf < 2 ^ n)
set_option maxRecDepth 100000 in
theorem may_all : ∀ n : Fin 257, mayB n.val = true ↔ ∃ h : Fin 9, n.val = 2 ^ h.val := by decide +kernel
theorem may_iff (n : Nat) : mayB n = true ↔ ∃ h, h ≤ 8 ∧ n = 2 ^ h := by
  by_cases hn : n < 257
  · rw [may_all ⟨n, hn⟩]
    exact ⟨fun ⟨h, e⟩ => ⟨h.val, by omega, e⟩, fun ⟨h, hh, e⟩ => ⟨⟨h, by omega⟩, e⟩⟩
  · constructor
    · intro h
      have := (of_decide_eq_true h).2.1
      omega
    · rintro ⟨h, hh, rfl⟩
      have : 2 ^ h ≤ 2 ^ 8 := Nat.pow_le_pow_right (by decide) hh
      omega
section
variable {w : World}
set_option maxRecDepth 100000
theorem isFirst_same (k : Nat) (hk : k < 1000000) : Calls Try.prog 168 #[.int .i64 (k : Int)] w fun e w' => e = .returned (.bool (decide (k % 2 = 0))) ∧ w' = w := by
  go_enter Try.func168, Try.ntmps168
  go_wp2
  go_ret
  refine ⟨ret_bool ?_, rfl⟩
  rw [Bool.eq_iff_iff, beq_iff_eq, decide_eq_true_iff]
  omega
theorem beside_same (k : Nat) (hk : k < 1000000) : Calls Try.prog 167 #[.int .i64 (k : Int)] w fun e w' => e = .returned (.int .i64 (sibF k : Int)) ∧ w' = w := by
  have hf := isFirst_same (w := w) k hk
  unfold sibF
  by_cases h : k % 2 = 0
  · rw [if_pos h]
    rw [decide_eq_true h] at hf
    have H := Lib.hid h
    clear h
    go_enter Try.func167, Try.ntmps167
    go_wp2_with (go_at_call 168; refine hf.mono ?_; rintro e w2 ⟨rfl, rfl⟩)
    go_ret
    exact ⟨ret_int (by omega), rfl⟩
  · rw [if_neg h]
    rw [decide_eq_false h] at hf
    have H := Lib.hid h
    clear h
    go_enter Try.func167, Try.ntmps167
    go_wp2_with (go_at_call 168; refine hf.mono ?_; rintro e w2 ⟨rfl, rfl⟩)
    go_ret
    have := H.out
    exact ⟨ret_int (by omega), rfl⟩
theorem mayBe_same (A : Option Addr) (n c : Nat) (hn : n ≤ 9223372036854775807) : Calls Try.prog 163 #[.slice A n c] w fun e w' => e = .returned (.bool (mayB n)) ∧ w' = w := by
  by_cases h0 : 0 < n
  · by_cases h1 : n ≤ 256
    · obtain ⟨m, rfl⟩ : ∃ m, n = m + 1 := ⟨n - 1, by omega⟩
      obtain ⟨q, hq⟩ : ∃ q, (m + 1) &&& m = q := ⟨_, rfl⟩
      have hq2 : q ≤ m + 1 := by rw [← hq]; exact Nat.and_le_left
      have hb : bits .and .i64 ((m + 1 : Nat) : Int) (m : Int) = (q : Int) := by
        show IntKind.i64.wrap ((BitVec.ofInt 64 ((m + 1 : Nat) : Int) &&& BitVec.ofInt 64 (m : Int)).toNat : Int) = _
        rw [BitVec.toNat_and, ofInt_u64 (m + 1) (by omega), ofInt_u64 m (by omega), hq]
        exact wrap_small _ (by omega) (by omega)
      have he : mayB (m + 1) = decide (q = 0) := by
        unfold mayB
        rw [Nat.add_sub_cancel, hq]
        simp
        omega
      rw [he]
      have HB := Lib.hid hb
      clear hb hq he
      go_enter Try.func163, Try.ntmps163
      go_wp2
      go_ret
      have e := HB.out
      rw [Int.natCast_add] at e
      refine ⟨ret_bool ?_, rfl⟩
      rw [show bits .and .i64 ((m : Int) + 1) (m : Int) = (q : Int) from e, Bool.eq_iff_iff, beq_iff_eq, decide_eq_true_iff]
      omega
    · have he : mayB n = false := decide_eq_false (by omega)
      rw [he]
      go_enter Try.func163, Try.ntmps163
      go_wp2
      go_ret
      exact ⟨rfl, rfl⟩
  · obtain rfl : n = 0 := by omega
    have he : mayB 0 = false := by decide
    rw [he]
    go_enter Try.func163, Try.ntmps163
    go_wp2
    go_ret
    exact ⟨rfl, rfl⟩
theorem Right_any (leaf : Int) (A : Option Addr) (n c : Nat) :
    Calls Try.prog 86 #[.agg #[.int .i64 leaf, .slice A n c]] w fun e w' => e = .returned (.bool (rightB leaf n)) ∧ Below w.heap.size w w' := by
  have cs : (8 < n ∧ rightB leaf n = false) ∨ (n ≤ 8 ∧ leaf < 0 ∧ rightB leaf n = false) ∨ (n ≤ 8 ∧ 0 ≤ leaf ∧ ∃ q : Nat, Hid (2 ^ n = q) ∧ q ≤ 256 ∧ Hid (rightB leaf n = decide (leaf < (q : Int)))) := by
    rcases Nat.lt_or_ge 8 n with h | h
    · exact .inl ⟨h, decide_eq_false (by omega)⟩
    · rcases Int.lt_or_le leaf 0 with h2 | h2
      · exact .inr (.inl ⟨h, h2, decide_eq_false (by omega)⟩)
      · refine .inr (.inr ⟨h, h2, 2 ^ n, Lib.hid rfl, Nat.le_trans (Nat.pow_le_pow_right (by decide) h) (by decide), Lib.hid ?_⟩)
        have e : ((2 ^ n : Nat) : Int) = 2 ^ n := by simp
        unfold rightB
        rw [e, Bool.eq_iff_iff, decide_eq_true_iff, decide_eq_true_iff]
        exact ⟨fun k => k.2.2, fun k => ⟨h, h2, k⟩⟩
  rcases cs with ⟨h, e⟩ | ⟨h, h2, e⟩ | ⟨h, h2, q, HQ, hq, HE⟩
  · rw [e]
    clear e
    have e8 : decide ((n : Int) ≤ 8) = false := by simp; omega
    go_enter Try.func86, Try.ntmps86
    go_wp2_with (with_reducible refine wpList_box (o := ⟨some 1, _, _, _, _, _⟩) rfl (.tmp 0) 149 rfl [.int .i64 leaf, .slice A n c] rfl 2 rfl (by decide) ?_; intro gb w1 hgb hFb hb; have hc0 : w1.cell? ⟨gb, 0, none⟩ = some (.int .i64 leaf) := hFb.cell_ rfl; have hc1 : w1.cell? ⟨gb, 1, none⟩ = some (.slice A n c) := hFb.cell_ rfl)
    refine region_qtail 14 (by kernel_rfl) (by kernel_rfl) ?_
    simp only [List.take_succ_cons, List.take_zero, List.drop_succ_cons, List.drop_zero]
    repeat (go_big_quiet_step (fail))
    refine wpQuiet_nil ?_
    rintro _ ⟨nq, rfl⟩
    go_wp2
    go_ret
    exact ⟨rfl, below_drewN' hb _⟩
  · rw [e]
    clear e
    have e8 : decide ((n : Int) ≤ 8) = true := by simp; omega
    have e9 : decide (0 ≤ leaf) = false := by simp; omega
    have e9' : decide (leaf ≥ 0) = false := by simp; omega
    go_enter Try.func86, Try.ntmps86
    go_wp2_with (with_reducible refine wpList_box (o := ⟨some 1, _, _, _, _, _⟩) rfl (.tmp 0) 149 rfl [.int .i64 leaf, .slice A n c] rfl 2 rfl (by decide) ?_; intro gb w1 hgb hFb hb; have hc0 : w1.cell? ⟨gb, 0, none⟩ = some (.int .i64 leaf) := hFb.cell_ rfl; have hc1 : w1.cell? ⟨gb, 1, none⟩ = some (.slice A n c) := hFb.cell_ rfl)
    refine region_qtail 14 (by kernel_rfl) (by kernel_rfl) ?_
    simp only [List.take_succ_cons, List.take_zero, List.drop_succ_cons, List.drop_zero]
    repeat (go_big_quiet_step (fail))
    refine wpQuiet_nil ?_
    rintro _ ⟨nq, rfl⟩
    go_wp2
    go_ret
    exact ⟨rfl, below_drewN' hb _⟩
  · rw [HE.out]
    have e8 : decide ((n : Int) ≤ 8) = true := by simp; omega
    have e9 : decide (0 ≤ leaf) = true := by simp; omega
    have e9' : decide (leaf ≥ 0) = true := by simp; omega
    go_enter Try.func86, Try.ntmps86
    go_wp2_with (with_reducible refine wpList_box (o := ⟨some 1, _, _, _, _, _⟩) rfl (.tmp 0) 149 rfl [.int .i64 leaf, .slice A n c] rfl 2 rfl (by decide) ?_; intro gb w1 hgb hFb hb; have hc0 : w1.cell? ⟨gb, 0, none⟩ = some (.int .i64 leaf) := hFb.cell_ rfl; have hc1 : w1.cell? ⟨gb, 1, none⟩ = some (.slice A n c) := hFb.cell_ rfl)
    refine region_qtail 14 (by kernel_rfl) (by kernel_rfl) ?_
    simp only [List.take_succ_cons, List.take_zero, List.drop_succ_cons, List.drop_zero]
    repeat (go_big_quiet_step (fail))
    refine wpQuiet_nil ?_
    rintro _ ⟨nq, rfl⟩
    go_wp2
    go_ret
    have e : ((2 : Int) ^ n) = (q : Int) := by rw [← HQ.out]; simp
    refine ⟨ret_bool ?_, below_drewN' hb _⟩
    rw [e, show wrap64 (q : Int) = (q : Int) from by unfold wrap64; omega]
end
end Go.Proofs.Ytpdfalgjmeagjaa

namespace Go.Proofs.Ytpdfalgjmeagjaa
open Go.RowKit
set_option linter.unusedVariables false

/-- Two results: one in memory of this call's own, one beside it. -/
theorem bodyPost_ct {P : Program} {a : Act} {w : World} {fn : Func} {R : Ending → World → Prop} {p q : Tmp} {T : TypeId} {g B off : Nat} (hr : fn.results = #[.cell p T, .tmp q]) (hp : a.tmps.getD p undef = .pointer (some ⟨g, off, none⟩)) (u : Value) (hq : a.tmps.getD q undef = u) (xs : List Value) (n : Nat) (hn : xs.length = n) (hT : aggB P T n = true) (hs : Sees w B (some ⟨g, off, none⟩) xs)
    (hd : a.defers = []) (hR : R (.returned (.tuple #[.agg xs.toArray, u])) w) : bodyPost P fn R .ret a w := by
  subst hn
  refine ⟨hd, _, ?_, hR⟩
  rw [results_cell_tmp hr, hp, hq]
  simp [asAddr, run_loadVar_sees T xs hT hs]
theorem splice_32 (X Y : List UInt8) (hx : X.length = 32) (hy : Y.length = 32) : splice (cb X) 0 (cb Y) = cb Y := by
  simp [splice, hx, hy]
theorem bdz (w : World) : (Instr.build 38 #[]).run Try.prog w = .ok (.agg (cb (List.replicate 32 0)).toArray) w := run_build w _ _ _ (by kernel_rfl)
section
variable {w : World}
set_option maxHeartbeats 2000000 in
set_option maxRecDepth 100000 in
theorem Climb_no {T : Option Addr} (x : List UInt8) (hx : x.length = 32) (leaf : Int) (A : Option Addr) (n c : Nat) (hr : rightB leaf n = false) :
    Calls Try.prog 85 #[.pointer T, .agg (cb x).toArray, .agg #[.int .i64 leaf, .slice A n c]] w fun e w' => e = .returned (.tuple #[.agg (cb (List.replicate 32 0)).toArray, .int .i64 2]) ∧ Below w.heap.size w w' := by
  have HX := Lib.hid hx
  have hR := fun w => Right_any leaf A n c (w := w)
  rw [hr] at hR
  have HR := Lib.hid hR
  clear hx hR hr
  go_enter Try.func85, Try.ntmps85
  go_wp2_with (first
    | (with_reducible refine wpList_box (o := ⟨some 4, _, _, _, _, _⟩) rfl (.tmp 1) 38 rfl (cb x) rfl 32 (by rw [List.length_map]; exact HX.out) (by decide) ?_; intro gx w1 hgx hFx hBx)
    | (with_reducible refine wpList_box (o := ⟨some 5, _, _, _, _, _⟩) rfl (.tmp 2) 149 rfl [.int .i64 leaf, .slice A n c] rfl 2 rfl (by decide) ?_; intro gp w2 hgp hFp hBp)
    | (with_reducible refine wpList_alloc (o := ⟨some 6, _, _, _, _, _⟩) rfl 38 rfl (cb (List.replicate 32 0)) (by kernel_rfl) 32 (len_zb 32) (by decide) ?_; intro gr w3 hgr hFr hBr; have hB03 := Below.then_ (Below.then_ hBx hBp) hBr; have z1 := hBx.size; have z2 := hBp.size)
    | (with_reducible refine wpList_load (o := ⟨some 11, _, _, _, _, _⟩) rfl (.tmp 5) 149 rfl gp 0 _ rfl [.int .i64 leaf, .slice A n c] 2 rfl (by kernel_rfl) (hFp.below hBr).sees ?_)
    | (go_at_call 86; refine (HR.out w3).mono ?_; rintro e w4 ⟨rfl, hB4⟩; have hB04 := Below.then_ hB03 hB4)
    | (with_reducible refine wpList_bz rfl rfl bdz ?_)
    | (with_reducible refine wpList_store rfl rfl (.tmp 6) (.tmp 14) 38 rfl gr 0 w.heap.size 38 32 (cb (List.replicate 32 0)) (cb (List.replicate 32 0)) rfl rfl 32 (len_zb 32) (by kernel_rfl) ((hFr.below hB4).lower (by omega)) (by omega) (cb_one _) w hB04 (by omega) ?_; intro w7 hF7 hB7 ho7 hz7))
  rw [splice_32 _ _ List.length_replicate List.length_replicate] at hF7
  exact bodyPost_ct rfl rfl _ rfl (cb (List.replicate 32 0)) 32 (len_zb 32) (by kernel_rfl) hF7.sees rfl ⟨rfl, hB7⟩
set_option maxHeartbeats 4000000 in
set_option maxRecDepth 100000 in
theorem Climb_yes {T : Option Addr} {G : Dg} (hG : OfAt w T G) (x : List UInt8) (hx : x.length = 32) (leaf : Nat) (A : Option Addr) (n c : Nat) (ds : List (List UInt8)) (hd : Digs w A n ds) (hn : n ≤ 8) (hl : leaf < 2 ^ n) :
    Calls Try.prog 85 #[.pointer T, .agg (cb x).toArray, .agg #[.int .i64 (leaf : Int), .slice A n c]] w fun e w' => e = .returned (.tuple #[.agg (cb (climbF G x leaf ds)).toArray, .int .i64 0]) ∧ Below w.heap.size w w' := by
  have HX := Lib.hid hx
  have hR := fun w => Right_any (leaf : Int) A n c (w := w)
  have hq : (2 : Nat) ^ n ≤ 256 := Nat.le_trans (Nat.pow_le_pow_right (by decide) hn) (by decide)
  have hlt9 : leaf < 256 := by omega
  rw [show rightB (leaf : Int) n = true from by
    unfold rightB
    rw [decide_eq_true_iff]
    refine ⟨hn, by omega, ?_⟩
    have e : ((2 ^ n : Nat) : Int) = 2 ^ n := by simp
    rw [← e]
    omega] at hR
  have HR := Lib.hid hR
  have HLN := Lib.hid hd.len
  have HAL := Lib.hid hd.all
  clear hx hR hl hq
  go_enter Try.func85, Try.ntmps85
  go_wp2_with (first
    | (with_reducible refine wpList_box (o := ⟨some 4, _, _, _, _, _⟩) rfl (.tmp 1) 38 rfl (cb x) rfl 32 (by rw [List.length_map]; exact HX.out) (by decide) ?_; intro gx w1 hgx hFx hBx)
    | (with_reducible refine wpList_box (o := ⟨some 5, _, _, _, _, _⟩) rfl (.tmp 2) 149 rfl [.int .i64 (leaf : Int), .slice A n c] rfl 2 rfl (by decide) ?_; intro gp w2 hgp hFp hBp)
    | (with_reducible refine wpList_alloc (o := ⟨some 6, _, _, _, _, _⟩) rfl 38 rfl (cb (List.replicate 32 0)) (by kernel_rfl) 32 (len_zb 32) (by decide) ?_; intro gr w3 hgr hFr hBr; have hB03 := Below.then_ (Below.then_ hBx hBp) hBr; have z1 := hBx.size; have z2 := hBp.size; have l1 := hFx.lt_size; have l2 := hFp.lt_size; have l3 := hFr.lt_size)
    | (with_reducible refine wpList_load (o := ⟨some 11, _, _, _, _, _⟩) rfl (.tmp 5) 149 rfl gp 0 _ rfl [.int .i64 (leaf : Int), .slice A n c] 2 rfl (by kernel_rfl) (hFp.below hBr).sees ?_)
    | (go_at_call 86; refine (HR.out w3).mono ?_; rintro e w4 ⟨rfl, hB4⟩; have hB04 := Below.then_ hB03 hB4; have hp4 := (hFp.below hBr).below hB4; have hc0 : w4.cell? ⟨gp, 0, none⟩ = some (.int .i64 (leaf : Int)) := hp4.cell_ rfl; have hc1 : w4.cell? ⟨gp, 1, none⟩ = some (.slice A n c) := hp4.cell_ rfl))
  have fx := (((hFx.below hBp).below hBr).below hB4)
  have fr := (hFr.below hB4).lower (base' := w.heap.size) (by omega)
  have hgx2 : w.heap.size ≤ gx := hgx
  have nrx : gr ≠ gx := by omega
  have hgr2 : w.heap.size ≤ gr := by omega
  clear hFx hFp hFr hBx hBp hBr hB4 hB03 hgx hgp hgr z1 z2 l1 l2 l3 hc0 hc1 hp4
  go_loopw [8, 20] (fun pv iv wr => ∃ (k : Nat) (X : List UInt8) (place : Nat), k ≤ n ∧ iv = .int .i64 (k : Int) ∧ pv = .int .i64 (place : Int) ∧ Hid (place = leaf / 2 ^ k) ∧ Hid (climbF G x leaf ds = climbF G X place (ds.drop k)) ∧ Hid (X.length = 32) ∧ Fresh w.heap.size 38 wr (some ⟨gx, 0, none⟩) 32 32 (cb X) ∧ Fresh w.heap.size 38 wr (some ⟨gr, 0, none⟩) 32 32 (cb (List.replicate 32 0)) ∧ Below w.heap.size w wr) (fun _ iv _ => n - (intOf iv).toNat)
  case atStart => exact ⟨0, x, leaf, by omega, rfl, rfl, Lib.hid (by simp), Lib.hid (by simp), HX, fx, fr, hB04⟩
  case round =>
    clear fx fr hB04
    obtain ⟨k, X, place, hk, rfl, rfl, HP, HC, HXL, fx, fr, hB⟩ := hrel
    have hplt : place < 1000000 := by
      rw [HP.out]
      exact Nat.lt_of_le_of_lt (Nat.div_le_self _ _) (by omega)
    by_cases hlt : k < n
    · obtain ⟨g, o, rfl, hgB, hS, hDL⟩ := (hd.step hB).at_ hlt
      have HDL := Lib.hid hDL
      have hzr := hB.size
      clear hDL
      go_wp2_with (first
        | (with_reducible refine wpList_is (v := .pointer (some ⟨g, o + 32 * k, none⟩)) rfl (run_ixL (.tmp 18) (.tmp 20) rfl rfl rfl rfl hlt rfl) ?_)
        | (with_reducible refine wpList_load (o := ⟨some 23, _, _, _, _, _⟩) rfl (.tmp 22) 38 rfl g (o + 32 * k) _ rfl (cb (dAt ds k)) 32 (by rw [List.length_map]; exact HDL.out) (by kernel_rfl) hS ?_)
        | (with_reducible refine wpList_alloc (o := ⟨some 10, _, _, _, _, _⟩) rfl 38 rfl (cb (List.replicate 32 0)) (by kernel_rfl) 32 (len_zb 32) (by decide) ?_; intro go w3 hgo hFo hBo)
        | (with_reducible refine wpList_store rfl rfl (.tmp 10) (.tmp 23) 38 rfl go 0 wr.heap.size 38 32 (cb (List.replicate 32 0)) (cb (dAt ds k)) rfl rfl 32 (by rw [List.length_map]; exact HDL.out) (by kernel_rfl) hFo (by omega) (cb_one _) wr hBo hgo ?_; intro w4 hF4 hB4' ho4 hz4)
        | (go_at_call 168; fail))
      rw [splice_32 _ _ List.length_replicate HDL.out] at hF4
      have fo4 := hF4
      have fx4 := fx.below hB4'
      have fr4 := fr.below hB4'
      have hB4 := Below.then_ hB hB4'
      clear hFo hBo ho4 hz4 hF4 hgo hB4' hS hgB fx fr hB
      by_cases hp2 : place % 2 = 0
      · have hpar := Lib.hid hp2
        have hf := isFirst_same (w := w4) place hplt
        rw [show decide (place % 2 = 0) = true from by simp [hp2]] at hf
        clear hp2
        go_wp2_with (first
          | (go_at_call 168; refine hf.mono ?_; rintro e w5 ⟨rfl, rfl⟩)
          | (with_reducible refine wpList_load (o := ⟨some 27, _, _, _, _, _⟩) rfl (.tmp 4) 38 rfl gx 0 _ rfl (cb X) 32 (by rw [List.length_map]; exact HXL.out) (by kernel_rfl) fx4.sees ?_)
          | (with_reducible refine wpList_load (o := ⟨some 28, _, _, _, _, _⟩) rfl (.tmp 10) 38 rfl go 0 _ rfl (cb (dAt ds k)) 32 (by rw [List.length_map]; exact HDL.out) (by kernel_rfl) fo4.sees ?_)
          | (go_at_call 169; refine (Node_any (hG.step hB4) X (dAt ds k) HXL.out HDL.out).mono ?_; rintro e w6 ⟨rfl, hB6⟩; have hB06 := Below.then_ hB4 hB6)
          | (with_reducible refine wpList_store rfl rfl (.tmp 4) (.tmp 29) 38 rfl gx 0 w.heap.size 38 32 (cb X) (cb (nodeF G X (dAt ds k))) rfl rfl 32 (by rw [List.length_map]; exact len_nodeF _ _ _) (by kernel_rfl) (fx4.below hB6) (by omega) (cb_one _) w hB06 hgx2 ?_; intro w7 hF7 hB7 ho7 hz7))
        rw [splice_32 X _ HXL.out (len_nodeF _ _ _)] at hF7
        have fr7 := (fr4.below hB6).other nrx ho7
        go_roundw
        case rel =>
          refine ⟨k + 1, nodeF G X (dAt ds k), place / 2, by omega, by go_num, ?_, Lib.hid ?_, Lib.hid ?_, Lib.hid (len_nodeF _ _ _), hF7, fr7, hB7⟩
          · go_num
          · rw [HP.out, Nat.div_div_eq_div_mul, Nat.pow_succ]
          · rw [HC.out, List.drop_eq_getElem_cons (by rw [HLN.out]; exact hlt), climbF, dAt_lt (by rw [HLN.out]; exact hlt)]
            congr 1
            exact if_pos hpar.out
        case measure => simp [intOf]; omega
      · have hpar := Lib.hid hp2
        have hf := isFirst_same (w := w4) place hplt
        rw [show decide (place % 2 = 0) = false from by simp [hp2]] at hf
        clear hp2
        go_wp2_with (first
          | (go_at_call 168; refine hf.mono ?_; rintro e w5 ⟨rfl, rfl⟩)
          | (with_reducible refine wpList_load (o := ⟨some 32, _, _, _, _, _⟩) rfl (.tmp 4) 38 rfl gx 0 _ rfl (cb X) 32 (by rw [List.length_map]; exact HXL.out) (by kernel_rfl) fx4.sees ?_)
          | (with_reducible refine wpList_load (o := ⟨some 31, _, _, _, _, _⟩) rfl (.tmp 10) 38 rfl go 0 _ rfl (cb (dAt ds k)) 32 (by rw [List.length_map]; exact HDL.out) (by kernel_rfl) fo4.sees ?_)
          | (go_at_call 169; refine (Node_any (hG.step hB4) (dAt ds k) X HDL.out HXL.out).mono ?_; rintro e w6 ⟨rfl, hB6⟩; have hB06 := Below.then_ hB4 hB6)
          | (with_reducible refine wpList_store rfl rfl (.tmp 4) (.tmp 33) 38 rfl gx 0 w.heap.size 38 32 (cb X) (cb (nodeF G (dAt ds k) X)) rfl rfl 32 (by rw [List.length_map]; exact len_nodeF _ _ _) (by kernel_rfl) (fx4.below hB6) (by omega) (cb_one _) w hB06 hgx2 ?_; intro w7 hF7 hB7 ho7 hz7))
        rw [splice_32 X _ HXL.out (len_nodeF _ _ _)] at hF7
        have fr7 := (fr4.below hB6).other nrx ho7
        go_roundw
        case rel =>
          refine ⟨k + 1, nodeF G (dAt ds k) X, place / 2, by omega, by go_num, ?_, Lib.hid ?_, Lib.hid ?_, Lib.hid (len_nodeF _ _ _), hF7, fr7, hB7⟩
          · go_num
          · rw [HP.out, Nat.div_div_eq_div_mul, Nat.pow_succ]
          · rw [HC.out, List.drop_eq_getElem_cons (by rw [HLN.out]; exact hlt), climbF, dAt_lt (by rw [HLN.out]; exact hlt)]
            congr 1
            exact if_neg hpar.out
        case measure => simp [intOf]; omega
    · obtain rfl : k = n := by omega
      have hfin : climbF G X place (ds.drop k) = X := by rw [List.drop_of_length_le (by rw [HLN.out]; exact Nat.le_refl _), climbF]
      have HFIN := Lib.hid hfin
      clear hfin
      go_wp2_with (first
        | (with_reducible refine wpList_load (o := ⟨some 37, _, _, _, _, _⟩) rfl (.tmp 4) 38 rfl gx 0 _ rfl (cb X) 32 (by rw [List.length_map]; exact HXL.out) (by kernel_rfl) fx.sees ?_)
        | (with_reducible refine wpList_store rfl rfl (.tmp 6) (.tmp 37) 38 rfl gr 0 w.heap.size 38 32 (cb (List.replicate 32 0)) (cb X) rfl rfl 32 (by rw [List.length_map]; exact HXL.out) (by kernel_rfl) fr (by omega) (cb_one _) w hB hgr2 ?_; intro w7 hF7 hB7 ho7 hz7))
      rw [splice_32 _ _ List.length_replicate HXL.out] at hF7
      rw [HC.out, HFIN.out]
      exact bodyPost_ct rfl rfl _ rfl (cb X) 32 (by rw [List.length_map]; exact HXL.out) (by kernel_rfl) hF7.sees rfl ⟨rfl, hB7⟩
end
end Go.Proofs.Ytpdfalgjmeagjaa

namespace Go.Proofs.Ytpdfalgjmeagjaa
open Go.RowKit
set_option linter.unusedVariables false

def maF (T : Option Addr) (g o n c gn m k : Nat) (X Y R : List UInt8) (j : Nat) (x : Value) (w : World) : Prop :=
  match j with
  | 0 => x = .slice (some ⟨gn, 0, none⟩) m m
  | 1 => x = .int .i64 (k : Int)
  | 2 => x = .pointer T
  | 3 => x = .slice (some ⟨g, o, none⟩) n c
  | 4 => x = .int .i64 (k : Int)
  | 5 => x = .int .i64 (2 * (k : Int))
  | 6 => x = .pointer (some ⟨g, o + 32 * (2 * k), none⟩)
  | 7 => x = .agg (cb X).toArray
  | 8 => x = .slice (some ⟨g, o, none⟩) n c
  | 9 => x = .int .i64 (k : Int)
  | 10 => x = .int .i64 (2 * (k : Int))
  | 11 => x = .int .i64 (2 * (k : Int) + 1)
  | 12 => x = .pointer (some ⟨g, o + 32 * (2 * k + 1), none⟩)
  | 13 => x = .agg (cb Y).toArray
  | 14 => x = .agg (cb R).toArray
  | 15 => x = .pointer (some ⟨gn, 32 * k, none⟩)
  | _ => True
theorem maF_stab (T : Option Addr) (g o n c gn m k : Nat) (X Y R : List UInt8) : ∀ j x w w', Below w.heap.size w w' → maF T g o n c gn m k X Y R j x w → maF T g o n c gn m k X Y R j x w' := fun _ _ _ _ _ h => h

theorem upF_step (D : Dg) (ds : List (List UInt8)) (k m : Nat) (hm : ds.length / 2 = m) (hk : k < m) (z : List UInt8) :
    ((upF D ds).take k ++ List.replicate (m - k) z).set k (nodeF D (dAt ds (2 * k)) (dAt ds (2 * k + 1))) = (upF D ds).take (k + 1) ++ List.replicate (m - (k + 1)) z := by
  have hl : (upF D ds).length = m := by rw [len_upF, hm]
  rw [List.set_append_right _ _ (by rw [List.length_take]; omega), List.length_take, Nat.min_eq_left (by omega), Nat.sub_self, show m - k = (m - (k + 1)) + 1 from by omega, List.replicate_succ, List.set_cons_zero, List.take_add_one, some_dAt (by omega), dAt_upF D (by omega), List.append_assoc]
  rfl
theorem flat_splice {l : List (List UInt8)} (h : ∀ d ∈ l, d.length = 32) {k : Nat} (hk : k < l.length) (d : List UInt8) (hd : d.length = 32) : splice (cb l.flatten) (32 * k) (cb d) = cb (l.set k d).flatten := by
  rw [cb_splice]
  congr 1
  have hall : ∀ x ∈ l.set k d, x.length = 32 := by
    intro x hx
    rcases List.mem_or_eq_of_mem_set hx with h1 | h1
    · exact h x h1
    · rw [h1]; exact hd
  have hls : (l.set k d).length = l.length := List.length_set
  have hf := len_flat h
  have hf2 := len_flat hall
  refine chunks_ext _ _ l.length (by rw [len_splice8 _ _ _ (by omega)]; omega) (by omega) fun j hj => ?_
  rw [chunk_splice _ _ _ _ hd (by omega), chunk_flat hall (by omega), chunk_flat h hj, dAt_lt (l := l.set k d) (by omega), dAt_lt hj, List.getElem_set]
  by_cases hjk : j = k
  · rw [if_pos hjk, if_pos hjk.symm]
  · rw [if_neg hjk, if_neg (fun e => hjk e.symm)]
section
variable {w : World}
set_option maxHeartbeats 4000000 in
set_option maxRecDepth 100000 in
theorem above_any {T : Option Addr} {G : Dg} (hG : OfAt w T G) (gt : Nat) (hct : Sees w w.heap.size (some ⟨gt, 0, none⟩) [.pointer T]) (A : Option Addr) (n c : Nat) (ds : List (List UInt8)) (hd : Digs w A n ds) (hn : n ≤ 1000) :
    Calls Try.prog 197 #[.slice A n c, .pointer (some ⟨gt, 0, none⟩)] w fun e w' => ∃ A', e = .returned (.slice A' (n / 2) (n / 2)) ∧ OwnD w.heap.size w' A' (n / 2) (n / 2) (upF G ds) ∧ (∃ g, A' = some ⟨g, 0, none⟩) ∧ Below w.heap.size w w' := by
  obtain ⟨m, hm⟩ : ∃ m, n / 2 = m := ⟨_, rfl⟩
  have hq : Int.tdiv (n : Int) 2 = (m : Int) := by rw [← hm]; rw [Int.tdiv_eq_ediv_of_nonneg (by omega)]; omega
  have hq2 : (n : Int) / 2 = (m : Int) := by rw [← hm]; omega
  have hm2 : 2 * m ≤ n := by omega
  have HM := Lib.hid (show ds.length / 2 = m by rw [hd.len]; exact hm)
  have HAL := Lib.hid hd.all
  have HLN := Lib.hid hd.len
  have HCT := Lib.hid hct
  rw [hm]
  clear hm hct
  go_enter Try.func197, Try.ntmps197
  go_wp2_with (with_reducible refine wpList_mkD rfl _ _ rfl m rfl rfl (by omega) ?_; intro w1 hF1 hB1)
  have hF1' : OwnD w.heap.size w1 (some ⟨w.heap.size, 0, none⟩) m m ((upF G ds).take 0 ++ List.replicate (m - 0) (List.replicate 32 0)) := by simpa using hF1
  clear hF1 hq hq2
  go_loopw [12] (fun iv wr => ∃ k : Nat, k ≤ m ∧ iv = .int .i64 (k : Int) ∧ OwnD w.heap.size wr (some ⟨w.heap.size, 0, none⟩) m m ((upF G ds).take k ++ List.replicate (m - k) (List.replicate 32 0)) ∧ Below w.heap.size w wr) (fun iv _ => m - (intOf iv).toNat)
  case atStart => exact ⟨0, by omega, rfl, hF1', hB1⟩
  case round =>
    clear hF1' hB1
    obtain ⟨k, hk, rfl, hF, hB⟩ := hrel
    by_cases hlt : k < m
    · obtain ⟨g, o, rfl, hgB, hSX, hXL⟩ := (hd.step hB).at_ (k := 2 * k) (by omega)
      obtain ⟨g', o', hgo, _, hSY, hYL⟩ := (hd.step hB).at_ (k := 2 * k + 1) (by omega)
      obtain ⟨rfl, rfl⟩ : g = g' ∧ o = o' := by simpa using hgo
      have hst := upF_step G ds k m HM.out hlt (List.replicate 32 0)
      obtain ⟨X, hX⟩ : ∃ X, dAt ds (2 * k) = X := ⟨_, rfl⟩
      obtain ⟨Y, hY⟩ : ∃ Y, dAt ds (2 * k + 1) = Y := ⟨_, rfl⟩
      obtain ⟨R, hR⟩ : ∃ R, nodeF G X Y = R := ⟨_, rfl⟩
      rw [hX, hY, hR] at hst
      rw [hX] at hSX hXL
      rw [hY] at hSY hYL
      have HXL := Lib.hid hXL
      have HYL := Lib.hid hYL
      have HR := Lib.hid hR
      have HRL : Hid (R.length = 32) := Lib.hid (by rw [← hR]; exact len_nodeF _ _ _)
      have HST := Lib.hid hst
      have HALL := Lib.hid hF.all
      have HLEN := Lib.hid hF.len
      have hff := hF.fresh (by omega)
      have w2k : IntKind.i64.wrap (2 * (k : Int)) = 2 * (k : Int) := by rw [IntKind.wrap_i64]; omega
      have w2k1 : IntKind.i64.wrap (2 * (k : Int) + 1) = 2 * (k : Int) + 1 := by rw [IntKind.wrap_i64]; omega
      clear hX hY hR hst hXL hYL hgo hF
      go_wp2_with fail
      refine region_all_tail 16 (maF T g o n c w.heap.size m k X Y R) (by kernel_rfl) (by kernel_rfl) (by kernel_rfl) (maF_stab _ _ _ _ _ _ _ _ _ _ _) ?_ ?_
      · intro w0 hb0
        simp only [List.take_succ_cons, List.take_zero]
        refine ⟨?_, ?_, ?_, ?_, ?_, ?_, ?_, ?_, ?_, ?_, ?_, ?_, ?_, ?_, ?_, ?_, trivial⟩
        all_goals intro listed a1 w' hk1 hd1
        · have f4_ : a1.eval (.tmp 4) = .slice (some ⟨w.heap.size, 0, none⟩) m m := hk1.ev_old 4 (by kernel_rfl)
          have g4_ : a1.tmps[4]?.getD undef = .slice (some ⟨w.heap.size, 0, none⟩) m m := by simpa [Act.eval] using f4_
          exact stepOk_value rfl (v := .slice (some ⟨w.heap.size, 0, none⟩) m m) (by go_simp) rfl
        · have f5_ : a1.eval (.tmp 5) = .int .i64 (k : Int) := hk1.ev_old 5 (by kernel_rfl)
          have g5_ : a1.tmps[5]?.getD undef = .int .i64 (k : Int) := by simpa [Act.eval] using f5_
          exact stepOk_value rfl (v := .int .i64 (k : Int)) (by go_simp) rfl
        · have f1_ : a1.eval (.tmp 1) = .pointer (some ⟨gt, 0, none⟩) := hk1.ev_old 1 (by kernel_rfl)
          have g1_ : a1.tmps[1]?.getD undef = .pointer (some ⟨gt, 0, none⟩) := by simpa [Act.eval] using f1_
          have hcr := (((HCT.out.step hB).step hb0).step hk1.below)
          obtain ⟨_, _, hq, _, hcc⟩ := hcr (by simp)
          obtain ⟨rfl, rfl⟩ : gt = _ ∧ 0 = _ := by simpa using hq
          have hc1 := hcc 0 _ rfl
          exact stepOk_value rfl (v := .pointer T) (by go_simp) rfl
        · have f0_ : a1.eval (.tmp 0) = .slice (some ⟨g, o, none⟩) n c := hk1.ev_old 0 (by kernel_rfl)
          have g0_ : a1.tmps[0]?.getD undef = .slice (some ⟨g, o, none⟩) n c := by simpa [Act.eval] using f0_
          exact stepOk_value rfl (v := .slice (some ⟨g, o, none⟩) n c) (by go_simp) rfl
        · have f5_ : a1.eval (.tmp 5) = .int .i64 (k : Int) := hk1.ev_old 5 (by kernel_rfl)
          have g5_ : a1.tmps[5]?.getD undef = .int .i64 (k : Int) := by simpa [Act.eval] using f5_
          exact stepOk_value rfl (v := .int .i64 (k : Int)) (by go_simp) rfl
        · obtain ⟨y4, e4, q4, rfl⟩ := hk1.ev_new hd1 4 19 (by kernel_rfl) rfl
          exact stepOk_value rfl (v := .int .i64 (2 * (k : Int))) (by go_simp) rfl
        · obtain ⟨y3, e3, q3, rfl⟩ := hk1.ev_new hd1 3 18 (by kernel_rfl) rfl
          obtain ⟨y5, e5, q5, rfl⟩ := hk1.ev_new hd1 5 20 (by kernel_rfl) rfl
          exact stepOk_value rfl (run_ixL (.tmp 18) (.tmp 20) rfl e3 e5 (j := 2 * k) (by omega) (by omega) rfl) rfl
        · obtain ⟨y6, e6, q6, rfl⟩ := hk1.ev_new hd1 6 21 (by kernel_rfl) rfl
          exact stepOk_value rfl (run_load_agg (.tmp 21) 38 rfl e6 (cb X) 32 (by rw [List.length_map]; exact HXL.out) (by kernel_rfl) ((hSX.step hb0).step hk1.below)) rfl
        · have f0_ : a1.eval (.tmp 0) = .slice (some ⟨g, o, none⟩) n c := hk1.ev_old 0 (by kernel_rfl)
          have g0_ : a1.tmps[0]?.getD undef = .slice (some ⟨g, o, none⟩) n c := by simpa [Act.eval] using f0_
          exact stepOk_value rfl (v := .slice (some ⟨g, o, none⟩) n c) (by go_simp) rfl
        · have f5_ : a1.eval (.tmp 5) = .int .i64 (k : Int) := hk1.ev_old 5 (by kernel_rfl)
          have g5_ : a1.tmps[5]?.getD undef = .int .i64 (k : Int) := by simpa [Act.eval] using f5_
          exact stepOk_value rfl (v := .int .i64 (k : Int)) (by go_simp) rfl
        · obtain ⟨y9, e9, q9, rfl⟩ := hk1.ev_new hd1 9 24 (by kernel_rfl) rfl
          exact stepOk_value rfl (v := .int .i64 (2 * (k : Int))) (by go_simp) rfl
        · obtain ⟨y10, e10, q10, rfl⟩ := hk1.ev_new hd1 10 25 (by kernel_rfl) rfl
          exact stepOk_value rfl (v := .int .i64 (2 * (k : Int) + 1)) (by go_simp) rfl
        · obtain ⟨y8, e8, q8, rfl⟩ := hk1.ev_new hd1 8 23 (by kernel_rfl) rfl
          obtain ⟨y11, e11, q11, rfl⟩ := hk1.ev_new hd1 11 26 (by kernel_rfl) rfl
          exact stepOk_value rfl (run_ixL (.tmp 23) (.tmp 26) rfl e8 e11 (j := 2 * k + 1) (by omega) (by omega) rfl) rfl
        · obtain ⟨y12, e12, q12, rfl⟩ := hk1.ev_new hd1 12 27 (by kernel_rfl) rfl
          exact stepOk_value rfl (run_load_agg (.tmp 27) 38 rfl e12 (cb Y) 32 (by rw [List.length_map]; exact HYL.out) (by kernel_rfl) ((hSY.step hb0).step hk1.below)) rfl
        · obtain ⟨y2, e2, q2, rfl⟩ := hk1.ev_new hd1 2 17 (by kernel_rfl) rfl
          obtain ⟨y7, e7, q7, rfl⟩ := hk1.ev_new hd1 7 22 (by kernel_rfl) rfl
          obtain ⟨y13, e13, q13, rfl⟩ := hk1.ev_new hd1 13 28 (by kernel_rfl) rfl
          refine stepOk_enter rfl (f := 169) (args := #[.pointer T, .agg (cb X).toArray, .agg (cb Y).toArray]) (by go_simp) ?_
          have ho := Node_any ((hG.step (Below.then_ hB hb0)).step hk1.below) X Y HXL.out HYL.out
          rw [HR.out] at ho
          refine ho.mono ?_
          rintro e w5 ⟨rfl, hB5⟩
          exact ⟨_, rfl, rfl, hB5⟩
        · obtain ⟨y0, e0, q0, rfl⟩ := hk1.ev_new hd1 0 15 (by kernel_rfl) rfl
          obtain ⟨y1, e1, q1, rfl⟩ := hk1.ev_new hd1 1 16 (by kernel_rfl) rfl
          exact stepOk_value rfl (run_ixL (.tmp 15) (.tmp 16) rfl e0 e1 (j := k) rfl hlt (by omega)) rfl
      · intro a1 w7 hb7 hp
        obtain ⟨x0, p0, x1, p1, x2, p2, x3, p3, x4, p4, x5, p5, x6, p6, x7, p7, x8, p8, x9, p9, x10, p10, x11, p11, x12, p12, x13, p13, x14, p14, x15, p15, rfl⟩ := hp
        simp only [maF] at p0 p1 p2 p3 p4 p5 p6 p7 p8 p9 p10 p11 p12 p13 p14 p15
        subst p0 p1 p2 p3 p4 p5 p6 p7 p8 p9 p10 p11 p12 p13 p14 p15
        simp only [List.drop_succ_cons, List.drop_zero, Act.put, List.setIfInBounds_toArray, List.set_cons_succ, List.set_cons_zero]
        have hBw7 := Below.then_ hB hb7
        go_wp2_with (with_reducible refine wpList_store rfl rfl (.tmp 30) (.tmp 29) 38 rfl w.heap.size (32 * k) w.heap.size 38 (32 * m) _ (cb R) rfl rfl 32 (by rw [List.length_map]; exact HRL.out) (by kernel_rfl) (hff.below hb7) (by omega) (cb_one _) w hBw7 (Nat.le_refl _) ?_; intro w8 hF8 hB8 ho8 hz8)
        rw [flat_splice HALL.out (by rw [HLEN.out]; exact hlt) R HRL.out, HST.out] at hF8
        go_roundw
        case rel =>
          refine ⟨k + 1, by omega, by go_num, OwnD.of_fresh hF8 (all_app (all_take (all_upF _ _) _) (fun d hd => by rw [List.eq_of_mem_replicate hd]; rfl)) (by unfold maxLen; omega), hB8⟩
        case measure => simp [intOf]; omega
    · obtain rfl : k = m := by omega
      have hfull : (upF G ds).take k ++ List.replicate (k - k) (List.replicate 32 (0 : UInt8)) = upF G ds := by
        rw [Nat.sub_self, List.take_of_length_le (by rw [len_upF, HM.out]; exact Nat.le_refl _)]
        simp
      rw [hfull] at hF
      clear hfull
      go_wp2
      go_ret
      exact ⟨_, rfl, hF, ⟨_, rfl⟩, hB⟩
end
end Go.Proofs.Ytpdfalgjmeagjaa

namespace Go.Proofs.Ytpdfalgjmeagjaa
open Go.RowKit
set_option linter.unusedVariables false

/-- What is told the levels writes blocks of its own alone (S), and keeps what it is to keep. -/
structure Teller (D : Dg) (l : List (List UInt8)) (h : Nat) (w0 : World) (f : FuncId) (caps : List Value) (I : Nat → (Nat → Prop) → World → Prop) : Prop where
  enter : ∀ args w, (callFunc f args).run Try.prog w = .ok (.enter f args) w
  keep : ∀ k S w w', I k S w → Below w.heap.size w w' → I k S w'
  own : ∀ k S w, I k S w → ∀ b, S b → b < w.heap.size
  tell : ∀ k S w A n c, I k S w → k ≤ h → n = 2 ^ (h - k) → Digs w A n (levF D l k) → (∀ g o, A = some ⟨g, o, none⟩ → ¬ S g) → Below w0.heap.size w0 w →
    Calls Try.prog f (.slice A n c :: caps).toArray w fun e w' => e = .returned (.tuple #[]) ∧ ∃ S', I (k + 1) S' w' ∧ Below w0.heap.size w0 w' ∧ w.heap.size ≤ w'.heap.size ∧ (∀ b, b < w.heap.size → ¬ S b → w'.heap[b]? = w.heap[b]?) ∧ (∀ b, S' b → S b ∨ w.heap.size ≤ b)
theorem Sees.aside {w w' : World} {B B' : Nat} {A : Option Addr} {xs : List Value} {S : Nat → Prop} (h : Sees w B A xs) (hA : ∀ g o, A = some ⟨g, o, none⟩ → ¬ S g) (hk : ∀ b, b < B → ¬ S b → w'.heap[b]? = w.heap[b]?) (hB : B ≤ B') : Sees w' B' A xs := fun hn => by
  obtain ⟨b, o, e, hb, hc⟩ := h hn
  exact ⟨b, o, e, by omega, fun j u hu => (World.cell?_of_block (w := w) (hk b hb (hA b o e))).trans (hc j u hu)⟩
section
variable {w : World}
set_option maxHeartbeats 4000000 in
set_option maxRecDepth 100000 in
theorem levels_any {D : Dg} {l : List (List UInt8)} {h : Nat} {w0 : World} {f : FuncId} {caps : List Value} {I : Nat → (Nat → Prop) → World → Prop} (ht : Teller D l h w0 f caps I) {T : Option Addr} (hG : OfAt w0 T D) (hh : h ≤ 8) (S : Nat → Prop) (A : Option Addr) (n c : Nat) (hn : n = 2 ^ h) (hI : I 0 S w) (hd : Digs w A n l) (hA : ∀ g o, A = some ⟨g, o, none⟩ → ¬ S g) (hB : Below w0.heap.size w0 w) :
    Calls Try.prog 164 #[.pointer T, .slice A n c, .func (.func f) #[] caps.toArray] w fun e w' => e = .returned (.tuple #[]) ∧ ∃ S', I (h + 1) S' w' ∧ Below w0.heap.size w0 w' ∧ w.heap.size ≤ w'.heap.size ∧ (∀ b, b < w.heap.size → ¬ S b → w'.heap[b]? = w.heap[b]?) ∧ (∀ b, S' b → S b ∨ w.heap.size ≤ b) := by
  have HN := Lib.hid hn
  clear hn
  go_enter Try.func164, Try.ntmps164
  have hba := below_alloc w (.cells #[.pointer T] 33)
  have hs0 := sees_newO w 33 #[.pointer T] [.pointer T] rfl
  have hw1 : ∃ w1, w1 = w.alloc (.cells #[.pointer T] 33) := ⟨_, rfl⟩
  obtain ⟨w1, hw1⟩ := hw1
  rw [← hw1] at hba hs0
  go_wp2_with fail
  rw [ht.enter, ← hw1]
  simp only [Oper.upon]
  have hI1 := ht.keep 0 S w w1 hI hba
  have hB1 := Below.then_ hB hba
  have hown := ht.own 0 S w hI
  have hz1 := hba.size
  have hlt1 : w.heap.size < w1.heap.size := by rw [hw1]; simp
  have hd1 : Digs w1 A n (levF D l 0) := hd.step hba
  refine (ht.tell 0 S w1 A n c hI1 (by omega) (by rw [HN.out]; rfl) hd1 hA hB1).mono ?_
  rintro e w2 ⟨rfl, S2, hI2, hB2, hz2, hk2, hS2⟩
  have hA2 : ∀ g o, A = some ⟨g, o, none⟩ → ¬ S2 g := fun g o e hs => by
    rcases hS2 g hs with h3 | h3
    · exact hA g o e h3
    · by_cases h0 : 0 < n
      · obtain ⟨g', o', e', hg', _⟩ := hd1.at_ h0
        have e2 : some (⟨g, o, none⟩ : Addr) = some ⟨g', o', none⟩ := e.symm.trans e'
        have e3 : g = g' := congrArg Addr.block (Option.some.inj e2)
        omega
      · have := HN.out
        have : 0 < 2 ^ h := Nat.pow_pos (by decide)
        omega
  have hd2 : Digs w2 A n (levF D l 0) := ⟨hd1.sees.aside hA hk2 hz2, hd1.len, hd1.all⟩
  have ht2 : Sees w2 w2.heap.size (some ⟨w.heap.size, 0, none⟩) [.pointer T] := hs0.aside (fun g o e hs => by simp at e; have := hown g hs; omega) hk2 hz2
  have hnt2 : ¬ S2 w.heap.size := fun hs => by
    rcases hS2 _ hs with h3 | h3
    · exact absurd (hown _ h3) (by omega)
    · omega
  have hkw : ∀ b, b < w.heap.size → ¬ S b → w2.heap[b]? = w.heap[b]? := fun b hb hs => (hk2 b (by omega) hs).trans (hba.block b hb)
  have hSw : ∀ b, S2 b → S b ∨ w.heap.size ≤ b := fun b hs => (hS2 b hs).imp id (fun h3 => by omega)
  have hzw : w.heap.size < w2.heap.size := by omega
  have HDL := Lib.hid hd.len
  clear hw1 hba hs0 hI1 hB1 hd1 hd hA hI hz1 hlt1 hk2 hS2 hz2
  go_wp2_with fail
  go_loopw [7] (fun lv wr => ∃ (k N : Nat) (A : Option Addr) (c : Nat) (S' : Nat → Prop), k ≤ h ∧ lv = .slice A N c ∧ Hid (N = 2 ^ (h - k)) ∧ N ≤ 256 ∧ Digs wr A N (levF D l k) ∧ (∀ g o, A = some ⟨g, o, none⟩ → ¬ S' g) ∧ I (k + 1) S' wr ∧ Sees wr wr.heap.size (some ⟨w.heap.size, 0, none⟩) [.pointer T] ∧ ¬ S' w.heap.size ∧ Below w0.heap.size w0 wr ∧ w.heap.size < wr.heap.size ∧ (∀ b, b < w.heap.size → ¬ S b → wr.heap[b]? = w.heap[b]?) ∧ (∀ b, S' b → S b ∨ w.heap.size ≤ b)) (fun lv _ => lenOf lv)
  case atStart =>
    refine ⟨0, n, A, c, S2, by omega, rfl, Lib.hid (by rw [HN.out]; rfl), ?_, hd2, hA2, hI2, ht2, hnt2, hB2, hzw, hkw, hSw⟩
    rw [HN.out]
    exact Nat.le_trans (Nat.pow_le_pow_right (by decide) hh) (by decide)
  case round =>
    clear hd2 hA2 hI2 ht2 hnt2 hB2 hzw hkw hSw hB
    obtain ⟨k, N, A, c, S', hk, rfl, HNK, hN, hd, hA, hI, hT, hnT, hBw, hzw, hkw, hSw⟩ := hrel
    by_cases h1 : 1 < N
    · obtain ⟨r, hr⟩ : ∃ r, h - k = r + 1 := ⟨h - k - 1, by
        have h2 : h - k ≠ 0 := fun h3 => by
          have h4 := HNK.out
          rw [h3] at h4
          omega
        omega⟩
      have hN2 : N / 2 = 2 ^ (h - (k + 1)) := by
        rw [HNK.out, hr, Nat.pow_succ, show h - (k + 1) = r from by omega]
        omega
      have HN2 := Lib.hid hN2
      have hk1 : k + 1 ≤ h := by omega
      have hab := above_any (hG.step hBw) w.heap.size hT A N c (levF D l k) hd (by omega)
      clear hN2 hr
      go_wp2_with (go_at_call 197; refine hab.mono ?_; rintro e w3 ⟨A3, rfl, hO3, ⟨g3, rfl⟩, hB3⟩)
      rw [ht.enter]
      simp only [Oper.upon]
      have hI3 := ht.keep _ _ _ _ hI hB3
      have hBw3 := Below.then_ hBw hB3
      have hown3 := ht.own _ _ _ hI
      have hg3 : wr.heap.size ≤ g3 ∧ g3 < w3.heap.size := hO3.row.lt g3 rfl
      have hd3 : Digs w3 (some ⟨g3, 0, none⟩) (N / 2) (levF D l (k + 1)) := hO3.digs
      have hT3 := hT.step hB3
      have hz3 := hB3.size
      refine (ht.tell (k + 1) S' w3 (some ⟨g3, 0, none⟩) (N / 2) (N / 2) hI3 hk1 HN2.out hd3 (fun g o e hs => by simp at e; have := hown3 g hs; omega) hBw3).mono ?_
      rintro e w4 ⟨rfl, S4, hI4, hB4, hz4, hk4, hS4⟩
      have hnS : ¬ S' g3 := fun hs => by have := hown3 g3 hs; omega
      go_wp2_with fail
      go_roundw
      case rel =>
        refine ⟨k + 1, N / 2, some ⟨g3, 0, none⟩, N / 2, S4, hk1, rfl, HN2, by omega, ⟨hd3.sees.aside (fun g o e => by simp at e; rw [← e.1]; exact hnS) hk4 hz4, hd3.len, hd3.all⟩, ?_, hI4, hT3.aside (fun g o e => by simp at e; rw [← e.1]; exact hnT) hk4 hz4, ?_, hB4, by omega, ?_, ?_⟩
        · intro g o e hs
          simp at e
          obtain ⟨rfl, _⟩ := e
          rcases hS4 _ hs with h3 | h3
          · exact hnS h3
          · omega
        · intro hs
          rcases hS4 _ hs with h3 | h3
          · exact hnT h3
          · omega
        · intro b hb hs
          refine (hk4 b (by omega) (fun h3 => ?_)).trans ((hB3.block b (by omega)).trans (hkw b hb hs))
          rcases hSw b h3 with h5 | h5
          · exact hs h5
          · omega
        · intro b hs
          rcases hS4 b hs with h3 | h3
          · exact hSw b h3
          · right; omega
      case measure => simp [lenOf]; omega
    · have hkh : k = h := by
        have h4 := HNK.out
        by_cases h5 : h - k = 0
        · omega
        · obtain ⟨r, hr⟩ : ∃ r, h - k = r + 1 := ⟨h - k - 1, by omega⟩
          rw [hr, Nat.pow_succ] at h4
          have : 0 < 2 ^ r := Nat.pow_pos (by decide)
          omega
      subst hkh
      go_wp2_with fail
      refine ⟨rfl, .tuple #[], by kernel_rfl, ?_⟩
      exact ⟨rfl, S', hI, hBw, by omega, hkw, hSw⟩
end
end Go.Proofs.Ytpdfalgjmeagjaa

namespace Go.Proofs.Ytpdfalgjmeagjaa
open Go.RowKit
set_option linter.unusedVariables false

section
variable {w : World}
set_option maxRecDepth 100000 in
theorem Root1_any {w0 : World} (gr : Nat) (X : List UInt8) (hX : X.length = 32) (hF : Fresh w0.heap.size 38 w (some ⟨gr, 0, none⟩) 32 32 (cb X)) (hg : w0.heap.size ≤ gr) (hB : Below w0.heap.size w0 w) (A : Option Addr) (n c : Nat) (ds : List (List UInt8)) (hd : Digs w A n ds) (hn : 0 < n) :
    Calls Try.prog 165 #[.slice A n c, .pointer (some ⟨gr, 0, none⟩)] w fun e w' => e = .returned (.tuple #[]) ∧ Fresh w0.heap.size 38 w' (some ⟨gr, 0, none⟩) 32 32 (cb (dAt ds 0)) ∧ (∀ b, b ≠ gr → w'.heap[b]? = w.heap[b]?) ∧ w.heap.size ≤ w'.heap.size ∧ Below w0.heap.size w0 w' := by
  have HX := Lib.hid hX
  obtain ⟨g, o, rfl, hgB, hS, hDL⟩ := hd.at_ hn
  have HDL := Lib.hid hDL
  clear hX hDL
  go_enter Try.func165, Try.ntmps165
  go_wp2_with (first
    | (with_reducible refine wpList_is (v := .pointer (some ⟨g, o + 32 * 0, none⟩)) rfl (run_ixL (.tmp 3) (.const (.int .i64 0)) rfl rfl rfl rfl hn rfl) ?_)
    | (with_reducible refine wpList_load (o := ⟨some 5, _, _, _, _, _⟩) rfl (.tmp 4) 38 rfl g (o + 32 * 0) _ rfl (cb (dAt ds 0)) 32 (by rw [List.length_map]; exact HDL.out) (by kernel_rfl) hS ?_)
    | (with_reducible refine wpList_store rfl rfl (.tmp 1) (.tmp 5) 38 rfl gr 0 w0.heap.size 38 32 (cb X) (cb (dAt ds 0)) rfl rfl 32 (by rw [List.length_map]; exact HDL.out) (by kernel_rfl) hF (by omega) (cb_one _) w0 hB hg ?_; intro w7 hF7 hB7 ho7 hz7))
  rw [splice_32 _ _ HX.out HDL.out] at hF7
  exact ⟨rfl, .tuple #[], by kernel_rfl, rfl, hF7, ho7, hz7, hB7⟩
def rootI (D : Dg) (l : List (List UInt8)) (w0 : World) (gr : Nat) (k : Nat) (S : Nat → Prop) (w : World) : Prop :=
  S = (fun b => b = gr) ∧ Fresh w0.heap.size 38 w (some ⟨gr, 0, none⟩) 32 32 (cb (match k with | 0 => List.replicate 32 0 | k + 1 => dAt (levF D l k) 0))
theorem rootTeller (D : Dg) (l : List (List UInt8)) (h : Nat) (hl : l.length = 2 ^ h) (ha : ∀ d ∈ l, d.length = 32) (w0 : World) (gr : Nat) (hg : w0.heap.size ≤ gr) : Teller D l h w0 165 [.pointer (some ⟨gr, 0, none⟩)] (rootI D l w0 gr) where
  enter := fun args w => by kernel_rfl
  keep := fun k S w w' hI hb => ⟨hI.1, hI.2.below hb⟩
  own := fun k S w hI b hs => by
    rw [hI.1] at hs
    obtain rfl : b = gr := hs
    exact hI.2.lt_size
  tell := fun k S w A n c hI hk hn hd hA hB => by
    obtain ⟨rfl, hF⟩ := hI
    have hX : (match k with | 0 => List.replicate 32 (0 : UInt8) | k + 1 => dAt (levF D l k) 0).length = 32 := by
      cases k with
      | zero => exact List.length_replicate
      | succ k =>
        refine len_dAt (all_levF D l ha k) ?_
        rw [len_lev2 D hl (by omega)]
        exact Nat.pow_pos (by decide)
    refine (Root1_any gr _ hX hF hg hB A n c _ hd (by rw [hn]; exact Nat.pow_pos (by decide))).mono ?_
    rintro e w' ⟨rfl, h1, h2, h3, h4⟩
    exact ⟨rfl, _, ⟨rfl, h1⟩, h4, h3, fun b _ hs => h2 b hs, fun b hs => .inl hs⟩
set_option maxHeartbeats 2000000 in
set_option maxRecDepth 100000 in
theorem Root_no {T : Option Addr} (A : Option Addr) (n c : Nat) (hn : n ≤ 9223372036854775807) (hm : mayB n = false) :
    Calls Try.prog 83 #[.pointer T, .slice A n c] w fun e w' => e = .returned (.tuple #[.agg (cb (List.replicate 32 0)).toArray, .int .i64 2]) ∧ Below w.heap.size w w' := by
  have hM := fun w => mayBe_same A n c hn (w := w)
  rw [hm] at hM
  have HM := Lib.hid hM
  clear hn hM hm
  go_enter Try.func83, Try.ntmps83
  go_wp2_with (first
    | (with_reducible refine wpList_alloc (o := ⟨some 4, _, _, _, _, _⟩) rfl 38 rfl (cb (List.replicate 32 0)) (by kernel_rfl) 32 (len_zb 32) (by decide) ?_; intro gr w3 hgr hFr hBr)
    | (go_at_call 163; refine (HM.out w3).mono ?_; rintro e w4 ⟨rfl, rfl⟩)
    | (with_reducible refine wpList_bz rfl rfl bdz ?_)
    | (with_reducible refine wpList_store rfl rfl (.tmp 4) (.tmp 10) 38 rfl gr 0 w.heap.size 38 32 (cb (List.replicate 32 0)) (cb (List.replicate 32 0)) rfl rfl 32 (len_zb 32) (by kernel_rfl) hFr (by omega) (cb_one _) w hBr (by omega) ?_; intro w7 hF7 hB7 ho7 hz7))
  rw [splice_32 _ _ List.length_replicate List.length_replicate] at hF7
  exact bodyPost_ct rfl rfl _ rfl (cb (List.replicate 32 0)) 32 (len_zb 32) (by kernel_rfl) hF7.sees rfl ⟨rfl, hB7⟩
set_option maxHeartbeats 2000000 in
set_option maxRecDepth 100000 in
theorem Root_yes {T : Option Addr} {D : Dg} (hG : OfAt w T D) (A : Option Addr) (n c : Nat) (ds : List (List UInt8)) (hd : Digs w A n ds) (h : Nat) (hh : h ≤ 8) (hn : n = 2 ^ h) :
    Calls Try.prog 83 #[.pointer T, .slice A n c] w fun e w' => e = .returned (.tuple #[.agg (cb (rootF D ds h)).toArray, .int .i64 0]) ∧ Below w.heap.size w w' := by
  have hn256 : n ≤ 256 := by rw [hn]; exact Nat.le_trans (Nat.pow_le_pow_right (by decide) hh) (by decide)
  have hM := fun w => mayBe_same A n c (by omega) (w := w)
  rw [(may_iff n).2 ⟨h, hh, hn⟩] at hM
  have HM := Lib.hid hM
  have HN := Lib.hid hn
  have HLEN := Lib.hid hd.len
  have HALL := Lib.hid hd.all
  have HRL : Hid ((rootF D ds h).length = 32) := Lib.hid (len_rootF D (by rw [hd.len, hn]) hd.all)
  clear hn hM
  go_enter Try.func83, Try.ntmps83
  go_wp2_with (first
    | (with_reducible refine wpList_alloc (o := ⟨some 4, _, _, _, _, _⟩) rfl 38 rfl (cb (List.replicate 32 0)) (by kernel_rfl) 32 (len_zb 32) (by decide) ?_; intro gr w3 hgr hFr hBr)
    | (go_at_call 163; refine (HM.out w3).mono ?_; rintro e w4 ⟨rfl, rfl⟩)
    | (with_reducible refine wpList_alloc (o := ⟨some 6, _, _, _, _, _⟩) rfl 38 rfl (cb (List.replicate 32 0)) (by kernel_rfl) 32 (len_zb 32) (by decide) ?_; intro gv w5 hgv hFv hBv))
  have hB5 := Below.then_ hBr hBv
  have z1 := hBr.size
  have hgv2 : w.heap.size ≤ gv := by omega
  have fr5 := hFr.below hBv
  have lr := hFr.lt_size
  have hne : gr ≠ gv := by omega
  have hlv := levels_any (rootTeller D ds h (by rw [HLEN.out, HN.out]) HALL.out w gv hgv2) hG hh (fun b => b = gv) A n c HN.out ⟨rfl, hFv.lower hBr.size⟩ (hd.step hB5) (fun g o e hs => by
    have h0 : 0 < n := by rw [HN.out]; exact Nat.pow_pos (by decide)
    obtain ⟨g', o', e', hg', _⟩ := hd.at_ h0
    have e3 : g = g' := congrArg Addr.block (Option.some.inj (e.symm.trans e'))
    obtain rfl : g = gv := hs
    omega) hB5
  refine hlv.mono ?_
  rintro e w6 ⟨rfl, S6, ⟨_, hF6⟩, hB6, hz6, hk6, _⟩
  have hF6' : Fresh w.heap.size 38 w6 (some ⟨gv, 0, none⟩) 32 32 (cb (rootF D ds h)) := hF6
  have fr6 : Fresh w.heap.size 38 w6 (some ⟨gr, 0, none⟩) 32 32 (cb (List.replicate 32 0)) := Fresh.of_block (by rw [hk6 gr (Nat.lt_of_lt_of_le lr hBv.size) hne]; exact fr5.block.1) fr5.block.2 (len_zb 32) (by unfold maxLen; omega)
  clear hlv hF6 hk6 fr5 hFr hFv hBr hBv hB5
  go_wp2_with (first
    | (with_reducible refine wpList_load (o := ⟨some 15, _, _, _, _, _⟩) rfl (.tmp 6) 38 rfl gv 0 _ rfl (cb (rootF D ds h)) 32 (by rw [List.length_map]; exact HRL.out) (by kernel_rfl) hF6'.sees ?_)
    | (with_reducible refine wpList_store rfl rfl (.tmp 4) (.tmp 15) 38 rfl gr 0 w.heap.size 38 32 (cb (List.replicate 32 0)) (cb (rootF D ds h)) rfl rfl 32 (by rw [List.length_map]; exact HRL.out) (by kernel_rfl) fr6 (by omega) (cb_one _) w hB6 (by omega) ?_; intro w7 hF7 hB7 ho7 hz7))
  rw [splice_32 _ _ List.length_replicate HRL.out] at hF7
  exact bodyPost_ct rfl rfl _ rfl (cb (rootF D ds h)) 32 (by rw [List.length_map]; exact HRL.out) (by kernel_rfl) hF7.sees rfl ⟨rfl, hB7⟩
end
end Go.Proofs.Ytpdfalgjmeagjaa

namespace Go.Proofs.Ytpdfalgjmeagjaa
open Go.RowKit
set_option linter.unusedVariables false

theorem flat_cells (ds : List (List UInt8)) : ((ds.map fun d => Value.agg (cb d).toArray).flatMap fun v => v.cells.toList) = cb ds.flatten := by
  induction ds with
  | nil => rfl
  | cons d ds ih =>
    rw [List.map_cons, List.flatMap_cons, ih, List.flatten_cons, ← cb_app]
    rfl
theorem run_bsD (w : World) (ds : List (List UInt8)) (ha : ∀ d ∈ ds, d.length = 32) (h0 : 0 < ds.length) (hl : ds.length ≤ 1000) (parts : Array (Nat × Value)) (hp : parts.toList = ((ds.map fun d => Value.agg (cb d).toArray).zipIdx 0).map fun x => (x.2, x.1)) :
    (Instr.buildSlice 144 ds.length parts).run Try.prog w = .ok (.slice (some ⟨w.heap.size, 0, none⟩) ds.length ds.length) (w.alloc (.cells (cb ds.flatten).toArray 38)) := by
  obtain ⟨i0, hi, hz0, hz1, hz2⟩ := info_parts infoD
  refine run_buildSlice w 144 38 ds.length parts _ i0 _ Try.underlying144 hi hz0 (by rw [hz1]; omega) (by rw [hz1]; omega) ?_
  rw [hp, hz1, ← flat_cells]
  refine Great.fill_whole (by omega) _ _ (fun v hv => ?_) (by simp)
  obtain ⟨d, hd, rfl⟩ := List.mem_map.1 hv
  simp [Value.cells, ha d hd]
theorem run_bs1 (a : List UInt8) (ha : a.length = 32) (w : World) : (Instr.buildSlice 144 1 #[(0, .agg (cb a).toArray)]).run Try.prog w = .ok (.slice (some ⟨w.heap.size, 0, none⟩) 1 1) (w.alloc (.cells (cb [a].flatten).toArray 38)) :=
  run_bsD w [a] (fun d hd => by simp at hd; rw [hd]; exact ha) (by simp) (by simp) _ rfl
theorem run_bs2 (a b : List UInt8) (ha : a.length = 32) (hb : b.length = 32) (w : World) : (Instr.buildSlice 144 2 #[(0, .agg (cb a).toArray), (1, .agg (cb b).toArray)]).run Try.prog w = .ok (.slice (some ⟨w.heap.size, 0, none⟩) 2 2) (w.alloc (.cells (cb [a, b].flatten).toArray 38)) :=
  run_bsD w [a, b] (fun d hd => by simp at hd; rcases hd with rfl | rfl <;> assumption) (by simp) (by simp) _ rfl
theorem run_bs4 (a b c d : List UInt8) (ha : a.length = 32) (hb : b.length = 32) (hc : c.length = 32) (hd : d.length = 32) (w : World) : (Instr.buildSlice 144 4 #[(0, .agg (cb a).toArray), (1, .agg (cb b).toArray), (2, .agg (cb c).toArray), (3, .agg (cb d).toArray)]).run Try.prog w = .ok (.slice (some ⟨w.heap.size, 0, none⟩) 4 4) (w.alloc (.cells (cb [a, b, c, d].flatten).toArray 38)) :=
  run_bsD w [a, b, c, d] (fun x hx => by simp at hx; rcases hx with rfl | rfl | rfl | rfl <;> assumption) (by simp) (by simp) _ rfl
theorem exec_bs1 {o : Oper} {a : Act} {w : World} (x : Operand) (hop : o.op = .buildSlice 144 1 #[(0, x)]) (d : List UInt8) (hx : a.eval x = .agg (cb d).toArray) (hd : d.length = 32) :
    (execOp a.eval o).run Try.prog w = .ok (.value (.slice (some ⟨w.heap.size, 0, none⟩) 1 1)) (w.alloc (.cells (cb [d].flatten).toArray 38)) := by
  unfold execOp
  simp only [hop, List.map_toArray, List.map_cons, List.map_nil, hx, Sem.run_bind, run_bs1 d hd w, Result.andThen_ok]
  rfl
theorem exec_bs2 {o : Oper} {a : Act} {w : World} (x y : Operand) (hop : o.op = .buildSlice 144 2 #[(0, x), (1, y)]) (d e : List UInt8) (hx : a.eval x = .agg (cb d).toArray) (hy : a.eval y = .agg (cb e).toArray) (hd : d.length = 32) (he : e.length = 32) :
    (execOp a.eval o).run Try.prog w = .ok (.value (.slice (some ⟨w.heap.size, 0, none⟩) 2 2)) (w.alloc (.cells (cb [d, e].flatten).toArray 38)) := by
  unfold execOp
  simp only [hop, List.map_toArray, List.map_cons, List.map_nil, hx, hy, Sem.run_bind, run_bs2 d e hd he w, Result.andThen_ok]
  rfl
theorem exec_bs4 {o : Oper} {a : Act} {w : World} (x y z u : Operand) (hop : o.op = .buildSlice 144 4 #[(0, x), (1, y), (2, z), (3, u)]) (d e f g : List UInt8) (hx : a.eval x = .agg (cb d).toArray) (hy : a.eval y = .agg (cb e).toArray) (hz : a.eval z = .agg (cb f).toArray) (hu : a.eval u = .agg (cb g).toArray) (hd : d.length = 32) (he : e.length = 32) (hf : f.length = 32) (hg : g.length = 32) :
    (execOp a.eval o).run Try.prog w = .ok (.value (.slice (some ⟨w.heap.size, 0, none⟩) 4 4)) (w.alloc (.cells (cb [d, e, f, g].flatten).toArray 38)) := by
  unfold execOp
  simp only [hop, List.map_toArray, List.map_cons, List.map_nil, hx, hy, hz, hu, Sem.run_bind, run_bs4 d e f g hd he hf hg w, Result.andThen_ok]
  rfl
theorem own_new (w : World) (ds : List (List UInt8)) (ha : ∀ d ∈ ds, d.length = 32) (n : Nat) (hn : ds.length = n) (hl : n ≤ 1000) : OwnD w.heap.size (w.alloc (.cells (cb ds.flatten).toArray 38)) (some ⟨w.heap.size, 0, none⟩) n n ds :=
  OwnD.of_fresh (Fresh.new w 38 (cb ds.flatten) (32 * n) (by rw [List.length_map, len_flat ha, hn]) (by omega)) ha (by unfold maxLen; omega)
end Go.Proofs.Ytpdfalgjmeagjaa

namespace Go.Proofs.Ytpdfalgjmeagjaa
open Go.RowKit
set_option linter.unusedVariables false

theorem getD_setNeM (listed : Array Bool) (i j : Nat) (h : i ≠ j) : (listed.setIfInBounds i true).getD j false = listed.getD j false := by
  simp [Array.getD_eq_getD_getElem?, h]
theorem put_otherM (a : Act) (t s : Nat) (v : Value) (h : t ≠ s) : (a.put (some t) v).tmps[s]? = a.tmps[s]? := by
  simp [Act.put, h]
theorem put_selfM (a : Act) (t : Nat) (v : Value) (h : t < a.tmps.size) : (a.put (some t) v).tmps[t]? = some v := by
  simp [Act.put, h]
theorem getD_setEqM (listed : Array Bool) (i : Nat) (h : i < listed.size) : (listed.setIfInBounds i true).getD i false = true := by
  simp [h]
theorem sizeOf_getM {listed : Array Bool} {i : Nat} (h : listed.getD i true = false) : i < listed.size ∧ listed.getD i false = false := by
  rcases Nat.lt_or_ge i listed.size with h1 | h1
  · refine ⟨h1, ?_⟩
    simp [h1] at h ⊢
    exact h
  · simp [Array.getElem?_eq_none h1] at h
theorem Fresh.stayM {w w' : World} {base : Nat} {e : TypeId} {A : Option Addr} {n c : Nat} {xs : List Value} (h : Fresh base e w A n c xs) (hk : ∀ k, base ≤ k → k < w.heap.size → w'.heap[k]? = w.heap[k]?) : Fresh base e w' A n c xs := by
  refine ⟨h.1, ?_⟩
  rcases h.2 with h3 | ⟨g', cap, cur, hv, hg, hh, hr⟩
  · exact .inl h3
  · exact .inr ⟨g', cap, cur, hv, hg, by rw [hk g' hg (Array.getElem?_eq_some_iff.1 hh).1]; exact hh, hr⟩
theorem fresh_unlikeD {w : World} {b1 b2 : Nat} {e1 : TypeId} {g n m d : Nat} {B : Option Addr} {xs : List Value} {ds : List (List UInt8)} (h : Fresh b1 e1 w (some ⟨g, 0, none⟩) n n xs) (k : OwnD b2 w B m d ds) (hne : e1 ≠ 38) : (Value.slice (some ⟨g, 0, none⟩) n n).ownBlock = none ∨ (Value.slice (some ⟨g, 0, none⟩) n n).ownBlock ≠ (Value.slice B m d).ownBlock := by
  right
  rcases k.row.2 with ⟨kv, _⟩ | ⟨q, cap2, cur2, kv, _, kg, _⟩
  · rw [kv]; simp [Value.ownBlock]
  · rw [kv]
    simp only [Value.ownBlock, ne_eq, Option.some.injEq]
    rintro rfl
    have hb := h.block.1
    rw [hb] at kg
    simp at kg
    exact hne kg.2
def mpF (gp g o n c gq m cB place B0 : Nat) (B : Option Addr) (d : List UInt8) (k : Nat) (v : Value) (w : World) : Prop :=
  match k with
  | 0 => v = .pointer (some ⟨gp, 1, none⟩)
  | 1 => v = .slice B m cB
  | 2 => v = .slice (some ⟨g, o, none⟩) n c
  | 3 => v = .int .i64 (place : Int)
  | 4 => v = .int .i64 (sibF place : Int)
  | 5 => v = .pointer (some ⟨g, o + 32 * sibF place, none⟩)
  | 6 => v = .agg (cb d).toArray
  | 7 => ∃ gb, v = .slice (some ⟨gb, 0, none⟩) 1 1 ∧ Fresh B0 38 w (some ⟨gb, 0, none⟩) 32 32 (cb [d].flatten)
  | 9 => v = .pointer (some ⟨gp, 1, none⟩)
  | _ => True
theorem mpF_keep {gp g o n c gq m cB place B0 : Nat} {B : Option Addr} {d : List UInt8} {w w' : World} (hk : ∀ k, B0 ≤ k → k < w.heap.size → w'.heap[k]? = w.heap[k]?) : ∀ k v, mpF gp g o n c gq m cB place B0 B d k v w → mpF gp g o n c gq m cB place B0 B d k v w' := by
  intro k v h
  unfold mpF at *
  split at h <;> first | exact h | (obtain ⟨gb, h1, h2⟩ := h; exact ⟨gb, h1, h2.stayM hk⟩) | trivial
/-- Behind the path's growing; its new slice laid down, or not yet. -/
structure GrownP (w0 w1 : World) (gp gq leaf place : Nat) (B : Option Addr) (m cB : Nat) (bs : List (List UInt8)) (d : List UInt8) (A' : Option Addr) (c' : Nat) (done : Bool) (w : World) : Prop where
  obj : Fresh w0.heap.size 149 w (some ⟨gp, 0, none⟩) 2 2 (match done with | true => [.int .i64 (leaf : Int), .slice A' (m + 1) c'] | false => [.int .i64 (leaf : Int), .slice B m cB])
  plc : Fresh w0.heap.size 3 w (some ⟨gq, 0, none⟩) 1 1 [.int .i64 (place : Int)]
  row : OwnD w0.heap.size w A' (m + 1) c' (bs ++ [d])
  keep : ∀ b, b < w1.heap.size → b ≠ gp → some b ≠ (Value.slice B m cB).ownBlock → w.heap[b]? = w1.heap[b]?
  size : w1.heap.size ≤ w.heap.size
  bel : Below w0.heap.size w0 w
  own : (Value.slice A' (m + 1) c').ownBlock = (Value.slice B m cB).ownBlock ∨ ∀ k, (Value.slice A' (m + 1) c').ownBlock = some k → w1.heap.size ≤ k
def mpJ (w0 w1 : World) (gp gq leaf place : Nat) (B : Option Addr) (m cB : Nat) (bs : List (List UInt8)) (d : List UInt8) (listed : Array Bool) (act : Act) (w : World) : Prop :=
  w1.heap.size ≤ w.heap.size ∧ (listed.getD 8 false = false → Below w1.heap.size w1 w) ∧ (∀ b, b < w1.heap.size → b ≠ gp → some b ≠ (Value.slice B m cB).ownBlock → w.heap[b]? = w1.heap[b]?) ∧
  (listed.getD 8 false = true → ∃ A' c', act.tmps[15]? = some (.slice A' (m + 1) c') ∧ GrownP w0 w1 gp gq leaf place B m cB bs d A' c' (listed.getD 10 false) w) ∧
  (listed.getD 8 false = true → listed.getD 1 false = true) ∧ (listed.getD 10 false = true → listed.getD 8 false = true)
section
variable {w w' w0 w1 : World} {gp gq leaf place m cB c' : Nat} {B A' : Option Addr} {bs : List (List UInt8)} {d : List UInt8} {done : Bool} {listed : Array Bool} {act : Act}
theorem Sees.keepAt {B' B2 g o : Nat} {xs : List Value} (h : Sees w B' (some ⟨g, o, none⟩) xs) (hk : w'.heap[g]? = w.heap[g]?) (hB : B' ≤ B2) : Sees w' B2 (some ⟨g, o, none⟩) xs := fun hn => by
  obtain ⟨b, o', e, hb, hc⟩ := h hn
  obtain ⟨rfl, rfl⟩ : g = b ∧ o = o' := by simpa using e
  exact ⟨g, o, rfl, by omega, fun j u hu => (World.cell?_of_block (w := w) hk).trans (hc j u hu)⟩
theorem GrownP.below (h : GrownP w0 w1 gp gq leaf place B m cB bs d A' c' done w) (y : Below w.heap.size w w') : GrownP w0 w1 gp gq leaf place B m cB bs d A' c' done w' :=
  ⟨h.obj.below y, h.plc.below y, h.row.below y, fun b hb h1 h2 => (y.block b (Nat.lt_of_lt_of_le hb h.size)).trans (h.keep b hb h1 h2), Nat.le_trans h.size y.size, h.bel.trans (y.mono h.bel.size), h.own⟩
theorem GrownP.lay (h : GrownP w0 w1 gp gq leaf place B m cB bs d A' c' false w) (hpq : gp ≠ gq) : GrownP w0 w1 gp gq leaf place B m cB bs d A' c' true (w.setCell ⟨gp, 1, none⟩ (.slice A' (m + 1) c')) := by
  have ho : ∀ j, j ≠ gp → (w.setCell ⟨gp, 1, none⟩ (.slice A' (m + 1) c')).heap[j]? = w.heap[j]? := fun j hj => Below.heap_setCell _ _ _ _ hj
  have hb := h.obj.block
  exact ⟨h.obj.store 1 _, h.plc.other (Ne.symm hpq) ho, h.row.apart hb.1 (by decide) ho, fun b hb h1 h2 => (ho b h1).trans (h.keep b hb h1 h2), by simpa [World.setCell] using h.size, h.bel.setCell hb.2 _, h.own⟩
theorem mpJ.below (h : mpJ w0 w1 gp gq leaf place B m cB bs d listed act w) (y : Below w.heap.size w w') : mpJ w0 w1 gp gq leaf place B m cB bs d listed act w' := by
  obtain ⟨h1, h2, hK, h3, h4⟩ := h
  refine ⟨Nat.le_trans h1 y.size, fun e => (h2 e).trans (y.mono h1), fun b hb k1 k2 => (y.block b (by omega)).trans (hK b hb k1 k2), fun e => ?_, h4⟩
  obtain ⟨A', c', e1, e2⟩ := h3 e
  exact ⟨A', c', e1, e2.below y⟩
theorem mpJ.other (h : mpJ w0 w1 gp gq leaf place B m cB bs d listed act w) (i t : Nat) (v : Value) (hi : i ≠ 8) (hi2 : i ≠ 10) (ht : t ≠ 15) : mpJ w0 w1 gp gq leaf place B m cB bs d (listed.setIfInBounds i true) (act.put (some t) v) w := by
  obtain ⟨h1, h2, hK, h3, h4, h5⟩ := h
  refine ⟨h1, ?_, hK, ?_, ?_, ?_⟩
  · rw [getD_setNeM _ _ _ hi]
    exact h2
  · rw [getD_setNeM _ _ _ hi, getD_setNeM _ _ _ hi2, put_otherM _ _ _ _ ht]
    exact h3
  · rw [getD_setNeM _ _ _ hi]
    intro e
    by_cases e1 : i = 1
    · subst e1
      refine getD_setEqM _ _ ?_
      have := h4 e
      rcases Nat.lt_or_ge 1 listed.size with k | k
      · exact k
      · simp [Array.getElem?_eq_none k] at this
    · rw [getD_setNeM _ _ _ e1]
      exact h4 e
  · rw [getD_setNeM _ _ _ hi, getD_setNeM _ _ _ hi2]
    exact h5
theorem mpJ.not8 (h : mpJ w0 w1 gp gq leaf place B m cB bs d listed act w) (hn : listed.getD 1 true = false) : listed.getD 8 false = false := by
  cases e : listed.getD 8 false
  · rfl
  · have k1 := h.2.2.2.2.1 e
    rw [(sizeOf_getM hn).2] at k1
    cases k1
end
section
variable {w : World}
set_option maxHeartbeats 4000000 in
set_option maxRecDepth 100000 in
theorem Path1_any {w0 : World} (gp gq leaf place m cB : Nat) (B : Option Addr) (bs : List (List UInt8)) (hobj : Fresh w0.heap.size 149 w (some ⟨gp, 0, none⟩) 2 2 [.int .i64 (leaf : Int), .slice B m cB]) (hplc : Fresh w0.heap.size 3 w (some ⟨gq, 0, none⟩) 1 1 [.int .i64 (place : Int)]) (hrow : OwnD w0.heap.size w B m cB bs) (hm : m ≤ 100) (hplt : place < 1000000) (hpq : gp ≠ gq)
    (A : Option Addr) (n c : Nat) (ds : List (List UInt8)) (hd : Digs w A n ds) (hn : 1 < n) (hn2 : n ≤ 1000) (hsib : sibF place < n) (hA : ∀ g o, A = some ⟨g, o, none⟩ → g ≠ gp ∧ some g ≠ (Value.slice B m cB).ownBlock) (hbel : Below w0.heap.size w0 w) :
    Calls Try.prog 166 #[.slice A n c, .pointer (some ⟨gp, 0, none⟩), .pointer (some ⟨gq, 0, none⟩)] w fun e w' => e = .returned (.tuple #[]) ∧ ∃ A' c', Fresh w0.heap.size 149 w' (some ⟨gp, 0, none⟩) 2 2 [.int .i64 (leaf : Int), .slice A' (m + 1) c'] ∧ Fresh w0.heap.size 3 w' (some ⟨gq, 0, none⟩) 1 1 [.int .i64 ((place / 2 : Nat) : Int)] ∧ OwnD w0.heap.size w' A' (m + 1) c' (bs ++ [dAt ds (sibF place)]) ∧
      (∀ b, b < w.heap.size → b ≠ gp → b ≠ gq → some b ≠ (Value.slice B m cB).ownBlock → w'.heap[b]? = w.heap[b]?) ∧ w.heap.size ≤ w'.heap.size ∧ Below w0.heap.size w0 w' ∧ ((Value.slice A' (m + 1) c').ownBlock = (Value.slice B m cB).ownBlock ∨ ∀ k, (Value.slice A' (m + 1) c').ownBlock = some k → w.heap.size ≤ k) := by
  obtain ⟨g, o, rfl, hgB, hS, hDL⟩ := hd.at_ hsib
  obtain ⟨hgp, hgBo⟩ := hA g o rfl
  have HDL := Lib.hid hDL
  have hqB : some gq ≠ (Value.slice B m cB).ownBlock := by
    rcases fresh_unlikeD hplc hrow (by decide) with h | h
    · simp [Value.ownBlock] at h
    · exact h
  obtain ⟨d, hdd⟩ : ∃ d, dAt ds (sibF place) = d := ⟨_, rfl⟩
  rw [hdd] at hS HDL ⊢
  have hsz0 := hbel.size
  have hq2 : Int.tdiv (place : Int) 2 = ((place / 2 : Nat) : Int) := by rw [Int.tdiv_eq_ediv_of_nonneg (by omega)]; omega
  have hn1 : decide ((n : Int) = 1) = false := by simp; omega
  have hn1' : ((n : Int) == 1) = false := by simp; omega
  clear hA hDL hdd hd
  go_enter Try.func166, Try.ntmps166
  go_wp2_with fail
  obtain ⟨w1, hw1⟩ : ∃ w1, w1 = w := ⟨w, rfl⟩
  rw [← hw1] at hobj hplc hrow hbel hS hgB hsz0
  rw [← hw1]
  refine region_L (mpF gp g o n c gq m cB place w1.heap.size B d) (mpJ w0 w1 gp gq leaf place B m cB bs d) (by kernel_rfl) (by kernel_rfl) ⟨Nat.le_refl _, fun _ => ⟨rfl, rfl, rfl, Nat.le_refl _, fun _ _ => rfl⟩, fun _ _ _ _ => rfl, fun h => (by simp at h), fun h => (by simp at h), fun h => (by simp at h)⟩ ?_ ?_
  · refine ⟨?_, ?_, ?_, ?_, ?_, ?_, ?_, ?_, ?_, ?_, ?_, trivial⟩
    all_goals intro listed a1 w' hk h1 hd
    · have f1_ : a1.eval (.tmp 1) = .pointer (some ⟨gp, 0, none⟩) := hk.ev_old 1 (by kernel_rfl)
      have g1_ : a1.tmps[1]?.getD undef = .pointer (some ⟨gp, 0, none⟩) := by simpa [Act.eval] using f1_
      exact stepL_value rfl (v := .pointer (some ⟨gp, 1, none⟩)) (by go_simp) rfl (hk.inv.other 0 7 _ (by omega) (by omega) (by omega))
    · obtain ⟨v0, e0, q0, rfl, l0⟩ := hk.ev_new hd 0 7 (by kernel_rfl) rfl
      have n8 := hk.inv.not8 h1
      have cc : w'.cell? ⟨gp, 1, none⟩ = some (.slice B m cB) := (hobj.below (hk.inv.2.1 n8)).cell_ rfl
      exact stepL_value rfl (v := .slice B m cB) (by go_simp) rfl (hk.inv.other 1 8 _ (by omega) (by omega) (by omega))
    · have f0_ : a1.eval (.tmp 0) = .slice (some ⟨g, o, none⟩) n c := hk.ev_old 0 (by kernel_rfl)
      have g0_ : a1.tmps[0]?.getD undef = .slice (some ⟨g, o, none⟩) n c := by simpa [Act.eval] using f0_
      exact stepL_value rfl (v := .slice (some ⟨g, o, none⟩) n c) (by go_simp) rfl (hk.inv.other 2 9 _ (by omega) (by omega) (by omega))
    · have f2_ : a1.eval (.tmp 2) = .pointer (some ⟨gq, 0, none⟩) := hk.ev_old 2 (by kernel_rfl)
      have g2_ : a1.tmps[2]?.getD undef = .pointer (some ⟨gq, 0, none⟩) := by simpa [Act.eval] using f2_
      have cc : w'.cell? ⟨gq, 0, none⟩ = some (.int .i64 (place : Int)) := (World.cell?_of_block (w := w1) (hk.inv.2.2.1 gq hplc.lt_size (Ne.symm hpq) hqB)).trans (hplc.cell_ rfl)
      exact stepL_value rfl (v := .int .i64 (place : Int)) (by go_simp) rfl (hk.inv.other 3 10 _ (by omega) (by omega) (by omega))
    · obtain ⟨v3, e3, q3, rfl, l3⟩ := hk.ev_new hd 3 10 (by kernel_rfl) rfl
      refine stepL_enter rfl (f := 167) (args := #[.int .i64 (place : Int)]) (by go_simp) ?_
      refine (beside_same (w := w') place hplt).mono ?_
      rintro e w5 ⟨rfl, rfl⟩
      exact ⟨_, rfl, rfl, (hk.inv.other 4 11 _ (by omega) (by omega) (by omega)), fun _ _ h => h⟩
    · obtain ⟨v2, e2, q2, rfl, l2⟩ := hk.ev_new hd 2 9 (by kernel_rfl) rfl
      obtain ⟨v4, e4, q4, rfl, l4⟩ := hk.ev_new hd 4 11 (by kernel_rfl) rfl
      exact stepL_value rfl (run_ixL (.tmp 9) (.tmp 11) rfl e2 e4 (j := sibF place) rfl hsib rfl) rfl (hk.inv.other 5 12 _ (by omega) (by omega) (by omega))
    · obtain ⟨v5, e5, q5, rfl, l5⟩ := hk.ev_new hd 5 12 (by kernel_rfl) rfl
      exact stepL_value rfl (run_load_agg (.tmp 12) 38 rfl e5 (cb d) 32 (by rw [List.length_map]; exact HDL.out) (by kernel_rfl) (hS.keepAt (hk.inv.2.2.1 g hgB hgp hgBo) hk.inv.1)) rfl (hk.inv.other 6 13 _ (by omega) (by omega) (by omega))
    · obtain ⟨v6, e6, q6, rfl, l6⟩ := hk.ev_new hd 6 13 (by kernel_rfl) rfl
      have hba := below_alloc w' (.cells (cb [d].flatten).toArray 38)
      refine stepL_run rfl (v := .slice (some ⟨w'.heap.size, 0, none⟩) 1 1) (w' := w'.alloc (.cells (cb [d].flatten).toArray 38)) (exec_bs1 (.tmp 13) rfl d e6 HDL.out) ⟨w'.heap.size, rfl, (Fresh.new w' 38 (cb [d].flatten) 32 (by simp [HDL.out]) (by omega)).lower hk.inv.1⟩ ((hk.inv.below hba).other 7 14 _ (by omega) (by omega) (by omega)) (mpF_keep fun k _ hk2 => hba.block k hk2)
    · obtain ⟨v1, e1, q1, rfl, l1⟩ := hk.ev_new hd 1 8 (by kernel_rfl) rfl
      obtain ⟨v7, e7, q7, hv7, l7⟩ := hk.ev_new hd 7 14 (by kernel_rfl) rfl
      obtain ⟨gb, rfl, hgb⟩ := hv7
      obtain ⟨s8, n8⟩ := sizeOf_getM h1
      have n10 : listed.getD 10 false = false := by
        cases e : listed.getD 10 false
        · rfl
        · rw [hk.inv.2.2.2.2.2 e] at n8; cases n8
      have hb0 := hk.inv.2.1 n8
      have hsz := hk.inv.1
      have hrow5 := hrow.below hb0
      obtain ⟨i0, hi, hz0, hz1, hz2⟩ := info_parts infoD
      obtain ⟨v', w5, hr, hown, hgr, hnil, hat⟩ := run_append_own_at (P := Try.prog) w' w0.heap.size 144 144 38 i0 (.agg (cb (List.replicate 32 0)).toArray) 32 32 Try.underlying144 hi hz0 hz1 hz2 (by simp [Value.cells]) (by omega) (.slice B m cB) m _ hrow5.row ⟨gb, 0, none⟩ 1 1 (cb d) (by rw [List.length_map, HDL.out]) (fun j u hj => by rw [Addr.add_lit, Nat.zero_add]; exact hgb.cell_ (by simpa using hj)) (cb_one _) (by unfold maxLen; omega) (by omega) (by omega)
      obtain ⟨A', c', rfl⟩ : ∃ A' c', v' = .slice A' (m + 1) c' := by
        rcases hown.2 with ⟨rfl, h0⟩ | ⟨g', cap, cu, rfl, _⟩
        · simp at h0
        · exact ⟨_, _, rfl⟩
      have hG : GrownP w0 w1 gp gq leaf place B m cB bs d A' c' false w5 := ⟨World.ownsRow.kept (hobj.below hb0) hgr (fresh_unlikeD (hobj.below hb0) hrow5 (by decide)), World.ownsRow.kept (hplc.below hb0) hgr (fresh_unlikeD (hplc.below hb0) hrow5 (by decide)), ⟨by rw [List.flatten_append, ← cb_app]; simpa using hown, all_app hrow.all (fun x hx => by simp at hx; rw [hx]; exact HDL.out)⟩, fun b hb _ h2 => (hgr.block b (by omega) h2).trans (hb0.block b hb), Nat.le_trans hsz hgr.size, (hbel.trans (hb0.mono hsz0)).grown hgr (by omega) (fun k hk => (hrow5.row.lt k hk).1), by
        rcases hat with h6 | h6
        · exact .inl h6
        · exact .inr fun k e => by rw [h6] at e; simp at e; omega⟩
      refine stepL_run rfl (v := .slice A' (m + 1) c') (w' := w5) ?_ trivial ⟨Nat.le_trans hsz hgr.size, ?_, hG.keep, fun _ => ⟨A', c', put_selfM _ _ _ (by rw [hk.size]; exact (show (15 : Nat) < 19 by decide)), ?_⟩, fun _ => ?_, fun _ => getD_setEqM _ _ s8⟩ (mpF_keep fun k hB hlt => hgr.block k hlt fun e => by have := hrow.row.lt k e.symm; omega)
      · unfold execOp
        simp only [resolve, invoke, builtin, Sem.run_bind, Sem.run_pure, Result.andThen_ok, List.map_toArray, List.map_cons, List.map_nil, e1, e7, hr]
      · intro e
        rw [getD_setEqM _ _ s8] at e
        cases e
      · rw [getD_setNeM _ _ _ (by omega), n10]
        exact hG
      · rw [getD_setNeM _ _ _ (by omega)]
        exact l1
    · have f1_ : a1.eval (.tmp 1) = .pointer (some ⟨gp, 0, none⟩) := hk.ev_old 1 (by kernel_rfl)
      have g1_ : a1.tmps[1]?.getD undef = .pointer (some ⟨gp, 0, none⟩) := by simpa [Act.eval] using f1_
      exact stepL_value rfl (v := .pointer (some ⟨gp, 1, none⟩)) (by go_simp) rfl (hk.inv.other 9 16 _ (by omega) (by omega) (by omega))
    · obtain ⟨v9, e9, q9, rfl, l9⟩ := hk.ev_new hd 9 16 (by kernel_rfl) rfl
      obtain ⟨v8, e8, q8, -, l8⟩ := hk.ev_new hd 8 15 (by kernel_rfl) rfl
      obtain ⟨s10, n10⟩ := sizeOf_getM h1
      obtain ⟨j1, j2, jK, j3, j4, j5⟩ := hk.inv
      obtain ⟨A', c', e15, hG⟩ := j3 l8
      rw [n10] at hG
      rw [q8] at e15
      obtain rfl : v8 = .slice A' (m + 1) c' := by simpa using e15
      have kc : w'.cell? ⟨gp, 1, none⟩ = some (.slice B m cB) := hG.obj.cell_ rfl
      have kz : w'.frozen? ⟨gp, 1, none⟩ = false := hG.obj.frozenAt
      refine stepL_skip rfl rfl (w' := w'.setCell ⟨gp, 1, none⟩ (.slice A' (m + 1) c')) (by go_simp) trivial ⟨by simpa [World.setCell] using j1, ?_, (hG.lay hpq).keep, fun _ => ⟨A', c', q8, ?_⟩, ?_, ?_⟩ (mpF_keep fun k hB hlt => Below.heap_setCell _ _ _ _ (fun e => by have := hobj.lt_size; simp at e; omega))
      · intro e
        rw [getD_setNeM _ _ _ (by omega), l8] at e
        cases e
      · rw [getD_setEqM _ _ s10]
        exact hG.lay hpq
      · rw [getD_setNeM _ _ _ (by omega)]
        rw [getD_setNeM _ _ _ (by omega)]
        exact j4
      · intro _
        rw [getD_setNeM _ _ _ (by omega)]
        exact l8
  · intro listed a1 w6 hJ hall hp
    obtain ⟨A', c', -, hG⟩ := hJ.2.2.2.1 (hall 8 (by decide))
    rw [hall 10 (by decide)] at hG
    obtain ⟨v0, p0, v1, p1, v2, p2, v3, p3, v4, p4, v5, p5, v6, p6, v7, p7, v8, p8, v9, p9, rfl⟩ := hp
    clear p0 p1 p2 p3 p4 p5 p6 p7 p8 p9 hJ hall
    simp only [Act.put, List.setIfInBounds_toArray, List.set_cons_succ, List.set_cons_zero]
    have kc : w6.cell? ⟨gq, 0, none⟩ = some (.int .i64 (place : Int)) := hG.plc.cell_ rfl
    have kz : w6.frozen? ⟨gq, 0, none⟩ = false := hG.plc.frozenAt
    have HQ2 := Lib.hid hq2
    have hG' := Lib.hid hG
    have hq3 : (place : Int) / 2 = ((place / 2 : Nat) : Int) := by omega
    clear hG hq2 hq3
    go_wp2_with fail
    subst hw1
    have hG := hG'.out
    have hq4 : (place : Int) / 2 = ((place / 2 : Nat) : Int) := by omega
    rw [hq4]
    have ho : ∀ j, j ≠ gq → (w6.setCell ⟨gq, 0, none⟩ (.int .i64 ((place / 2 : Nat) : Int))).heap[j]? = w6.heap[j]? := fun j hj => Below.heap_setCell _ _ _ _ hj
    have hb := hG.plc.block
    exact ⟨rfl, .tuple #[], by kernel_rfl, rfl, A', c', hG.obj.other hpq ho, hG.plc.store 0 _, hG.row.apart hb.1 (by decide) ho, fun b hb h1 h2 h3 => (ho b h2).trans (hG.keep b hb h1 h3), by simpa [World.setCell] using hG.size, hG.bel.setCell hb.2 _, hG.own⟩
/-- At the root's level nothing is added. -/
theorem Path1_end (gp gq : Nat) (A : Option Addr) (c : Nat) : Calls Try.prog 166 #[.slice A 1 c, .pointer (some ⟨gp, 0, none⟩), .pointer (some ⟨gq, 0, none⟩)] w fun e w' => e = .returned (.tuple #[]) ∧ w' = w := by
  go_enter Try.func166, Try.ntmps166
  go_wp2_with fail
  exact ⟨rfl, .tuple #[], by kernel_rfl, rfl, rfl⟩
end
end Go.Proofs.Ytpdfalgjmeagjaa

namespace Go.Proofs.Ytpdfalgjmeagjaa
open Go.RowKit
set_option linter.unusedVariables false

def pathI (D : Dg) (l : List (List UInt8)) (h leaf : Nat) (w0 : World) (gp gq : Nat) (k : Nat) (S : Nat → Prop) (w : World) : Prop :=
  ∃ B m cB, S = (fun b => b = gp ∨ b = gq ∨ some b = (Value.slice B m cB).ownBlock) ∧ gp ≠ gq ∧ m = min k h ∧ Fresh w0.heap.size 149 w (some ⟨gp, 0, none⟩) 2 2 [.int .i64 (leaf : Int), .slice B m cB] ∧ Fresh w0.heap.size 3 w (some ⟨gq, 0, none⟩) 1 1 [.int .i64 ((leaf / 2 ^ m : Nat) : Int)] ∧ OwnD w0.heap.size w B m cB ((pathF D l h leaf).take k)
theorem path_take (D : Dg) (l : List (List UInt8)) (h leaf k : Nat) (hk : k < h) : (pathF D l h leaf).take (k + 1) = (pathF D l h leaf).take k ++ [dAt (levF D l k) (sibF (leaf / 2 ^ k))] := by
  rw [List.take_add_one]
  congr 1
  simp [pathF, hk]
theorem pathTeller (D : Dg) (l : List (List UInt8)) (h leaf : Nat) (hh : h ≤ 8) (hl : l.length = 2 ^ h) (ha : ∀ d ∈ l, d.length = 32) (hf : leaf < 2 ^ h) (w0 : World) (gp gq : Nat) : Teller D l h w0 166 [.pointer (some ⟨gp, 0, none⟩), .pointer (some ⟨gq, 0, none⟩)] (pathI D l h leaf w0 gp gq) where
  enter := fun args w => by kernel_rfl
  keep := fun k S w w' hI hb => by
    obtain ⟨B, m, cB, h1, h2, h3, h4, h5, h6⟩ := hI
    exact ⟨B, m, cB, h1, h2, h3, h4.below hb, h5.below hb, h6.below hb⟩
  own := fun k S w hI b hs => by
    obtain ⟨B, m, cB, rfl, h2, h3, h4, h5, h6⟩ := hI
    rcases hs with rfl | rfl | hs
    · exact h4.lt_size
    · exact h5.lt_size
    · exact (h6.row.lt b hs.symm).2
  tell := fun k S w A n c hI hk hn hd hA hB => by
    obtain ⟨B, m, cB, rfl, hpq, hm, hobj, hplc, hrow⟩ := hI
    by_cases hkh : k < h
    · obtain rfl : m = k := by omega
      obtain ⟨r, hr⟩ : ∃ r, h - m = r + 1 := ⟨h - m - 1, by omega⟩
      have h2r : 0 < 2 ^ r := Nat.pow_pos (by decide)
      have hn2 : n = 2 * 2 ^ r := by rw [hn, hr, Nat.pow_succ]; omega
      have hr7 : 2 ^ r ≤ 2 ^ 7 := Nat.pow_le_pow_right (by decide) (by omega)
      have hp := place_lt (k := m) (by omega) hf
      have hpl : leaf / 2 ^ m < 1000000 := by
        have : 2 ^ h ≤ 2 ^ 8 := Nat.pow_le_pow_right (by decide) hh
        exact Nat.lt_of_le_of_lt (Nat.div_le_self _ _) (by omega)
      have hs : sibF (leaf / 2 ^ m) < n := by
        rw [hn]
        rw [hr] at hp ⊢
        exact sib_lt hp
      refine (Path1_any gp gq leaf (leaf / 2 ^ m) m cB B _ hobj hplc hrow (by omega) hpl hpq A n c _ hd (by omega) (by omega) hs (fun g o e => ⟨fun e2 => hA g o e (.inl e2), fun e2 => hA g o e (.inr (.inr e2))⟩) hB).mono ?_
      rintro e w' ⟨rfl, A', c', r1, r2, r3, r4, r5, r6, r7⟩
      refine ⟨rfl, _, ⟨A', m + 1, c', rfl, hpq, by omega, r1, ?_, ?_⟩, r6, r5, fun b hb hs => r4 b hb (fun e => hs (.inl e)) (fun e => hs (.inr (.inl e))) (fun e => hs (.inr (.inr e))), fun b hs => ?_⟩
      · rw [Nat.pow_succ, ← Nat.div_div_eq_div_mul]
        exact r2
      · rw [path_take D l h leaf m hkh]
        exact r3
      · rcases hs with e | e | e
        · exact .inl (.inl e)
        · exact .inl (.inr (.inl e))
        · rcases r7 with h7 | h7
          · rw [h7] at e
            exact .inl (.inr (.inr e))
          · exact .inr (h7 b e.symm)
    · obtain rfl : k = h := by omega
      obtain rfl : m = k := by omega
      rw [Nat.sub_self, Nat.pow_zero] at hn
      subst hn
      refine (Path1_end gp gq A c).mono ?_
      rintro e w' ⟨rfl, rfl⟩
      refine ⟨rfl, _, ⟨B, m, cB, rfl, hpq, by omega, hobj, hplc, ?_⟩, hB, Nat.le_refl _, fun _ _ _ => rfl, fun b hs => .inl hs⟩
      rw [List.take_of_length_le (by rw [len_pathF]; omega)]
      rw [List.take_of_length_le (by rw [len_pathF]; omega)] at hrow
      exact hrow
def zPath : List Value := [.int .i64 0, .slice none 0 0]
theorem zPath_one : ∀ u ∈ zPath, u.oneCell' = true := allOne_out (by kernel_rfl)
theorem bdp (w : World) : (Instr.build 149 #[]).run Try.prog w = .ok (.agg zPath.toArray) w := run_build w _ _ _ (by kernel_rfl)
theorem wpList_bp {w : World} {ops : Array Oper} {rest : List Oper} {o : Oper} {a : Act} {Q : Exit → Act → World → Prop} (hg : o.guard = none) (hop : o.op = .build 149 #[]) (hK : wpList Try.prog ops Q rest (a.put o.dst (.agg zPath.toArray)) w) : wpList Try.prog ops Q (o :: rest) a w := by
  refine wpList_is hg (v := .agg zPath.toArray) ?_ hK
  unfold execOp
  simp [hop, bdp]
theorem splice_pa (X Y : List Value) (hx : X.length = 2) (hy : Y.length = 2) : splice X 0 Y = Y := by
  simp [splice, hx, hy]
section
variable {w : World}
set_option maxHeartbeats 2000000 in
set_option maxRecDepth 100000 in
theorem Path_no {T : Option Addr} (A : Option Addr) (n c : Nat) (leaf : Int) (hn : n ≤ 9223372036854775807) (hm : mayB n = false ∨ leaf < 0 ∨ (n : Int) ≤ leaf) :
    Calls Try.prog 84 #[.pointer T, .slice A n c, .int .i64 leaf] w fun e w' => e = .returned (.tuple #[.agg zPath.toArray, .int .i64 2]) ∧ Below w.heap.size w w' := by
  have hM := fun w => mayBe_same A n c hn (w := w)
  have cs : mayB n = false ∨ (mayB n = true ∧ leaf < 0) ∨ (mayB n = true ∧ 0 ≤ leaf ∧ (n : Int) ≤ leaf) := by
    cases h : mayB n
    · exact .inl rfl
    · rw [h] at hm
      rcases hm with h1 | h1 | h1
      · cases h1
      · exact .inr (.inl ⟨rfl, h1⟩)
      · exact .inr (.inr ⟨rfl, by omega, h1⟩)
  rcases cs with h1 | ⟨h1, h2⟩ | ⟨h1, h2, h3⟩
  all_goals
    rw [h1] at hM
    have HM := Lib.hid hM
    clear hn hM hm h1
    go_enter Try.func84, Try.ntmps84
    go_wp2_with (first
      | (with_reducible refine wpList_alloc (o := ⟨some 6, _, _, _, _, _⟩) rfl 149 rfl zPath (by kernel_rfl) 2 rfl (by decide) ?_; intro gr w3 hgr hFr hBr)
      | (go_at_call 163; refine (HM.out w3).mono ?_; rintro e w4 ⟨rfl, rfl⟩)
      | (with_reducible refine wpList_bp rfl rfl ?_)
      | (with_reducible refine wpList_store rfl rfl (.tmp 6) (.tmp 23) 149 rfl gr 0 w.heap.size 149 2 zPath zPath rfl rfl 2 rfl (by kernel_rfl) hFr (by omega) zPath_one w hBr (by omega) ?_; intro w7 hF7 hB7 ho7 hz7))
    rw [splice_pa _ _ rfl rfl] at hF7
    exact bodyPost_ct rfl rfl _ rfl zPath 2 rfl (by kernel_rfl) hF7.sees rfl ⟨rfl, hB7⟩
set_option maxHeartbeats 4000000 in
set_option maxRecDepth 100000 in
theorem Path_yes {T : Option Addr} {D : Dg} (hG : OfAt w T D) (A : Option Addr) (n c : Nat) (ds : List (List UInt8)) (hd : Digs w A n ds) (h : Nat) (hh : h ≤ 8) (hn : n = 2 ^ h) (leaf : Nat) (hf : leaf < n) :
    Calls Try.prog 84 #[.pointer T, .slice A n c, .int .i64 (leaf : Int)] w fun e w' => ∃ B cB, e = .returned (.tuple #[.agg #[.int .i64 (leaf : Int), .slice B h cB], .int .i64 0]) ∧ OwnD w.heap.size w' B h cB (pathF D ds h leaf) ∧ Below w.heap.size w w' := by
  have hn256 : n ≤ 256 := by rw [hn]; exact Nat.le_trans (Nat.pow_le_pow_right (by decide) hh) (by decide)
  have hM := fun w => mayBe_same A n c (by omega) (w := w)
  rw [(may_iff n).2 ⟨h, hh, hn⟩] at hM
  have HM := Lib.hid hM
  have HN := Lib.hid hn
  have HLEN := Lib.hid hd.len
  have HALL := Lib.hid hd.all
  clear hn hM
  go_enter Try.func84, Try.ntmps84
  go_wp2_with (first
    | (with_reducible refine wpList_alloc (o := ⟨some 6, _, _, _, _, _⟩) rfl 149 rfl zPath (by kernel_rfl) 2 rfl (by decide) ?_; intro gr w3 hgr hFr hBr)
    | (go_at_call 163; refine (HM.out w3).mono ?_; rintro e w4 ⟨rfl, rfl⟩)
    | (with_reducible refine wpList_alloc (o := ⟨some 8, _, _, _, _, _⟩) rfl 149 rfl zPath (by kernel_rfl) 2 rfl (by decide) ?_; intro gp w5 hgp hFp hBp)
    | (with_reducible refine wpList_store rfl rfl (.tmp 8) (.tmp 25) 149 rfl gp 0 _ 149 2 zPath [.int .i64 (leaf : Int), .slice none 0 0] rfl rfl 2 rfl (by kernel_rfl) hFp (by omega) (allOne_out (by kernel_rfl)) _ hBp hgp ?_; intro w6 hF6 hB6 ho6 hz6))
  rw [splice_pa _ _ rfl rfl] at hF6
  have z3 := hBr.size
  have z6 := hB6.size
  have lr := hFr.lt_size
  have lp := hF6.lt_size
  obtain ⟨w7, hw7⟩ : ∃ w7, w7 = w6.alloc (.cells #[.int .i64 (leaf : Int)] 3) := ⟨_, rfl⟩
  have hFq : Fresh w6.heap.size 3 w7 (some ⟨w6.heap.size, 0, none⟩) 1 1 [.int .i64 (leaf : Int)] := by rw [hw7]; exact Fresh.new w6 3 [.int .i64 (leaf : Int)] 1 rfl (by omega)
  have hB67 : Below w6.heap.size w6 w7 := by rw [hw7]; exact below_alloc _ _
  have z7 : w6.heap.size < w7.heap.size := hFq.lt_size
  rw [← hw7]
  obtain ⟨gq, hgq⟩ : ∃ gq, gq = w6.heap.size := ⟨_, rfl⟩
  rw [← hgq] at hFq z7 ⊢
  have hB36 := Below.then_ hBr hB6
  have hB7 := Below.then_ hB36 hB67
  have hgp2 : w.heap.size ≤ gp := by omega
  have hgq2 : w.heap.size ≤ gq := by omega
  have hpq : gp ≠ gq := by omega
  have nrp : gr ≠ gp := by omega
  have nrq : gr ≠ gq := by omega
  have hlr7 : gr < w7.heap.size := by omega
  have fr7 : w7.heap[gr]? = some (.cells zPath.toArray 149 (0, 0)) := by
    rw [hB67.block gr (by omega), hB6.block gr (by omega)]
    exact hFr.block.1
  have hgr2 : w.heap.size ≤ gr := hFr.block.2
  have fq7 := hFq.lower (base' := w.heap.size) (by omega)
  have fp7 := (hF6.below hB67).lower (base' := w.heap.size) z3
  have hlv := levels_any (pathTeller D ds h leaf hh (by rw [HLEN.out, HN.out]) HALL.out (by rw [← HN.out]; exact hf) w gp gq) hG hh (fun b => b = gp ∨ b = gq ∨ some b = (Value.slice none 0 0).ownBlock) A n c HN.out ⟨none, 0, 0, rfl, hpq, by omega, fp7, by rw [Nat.pow_zero, Nat.div_one]; exact fq7, OwnD.nil⟩ (hd.step hB7) (fun g o e hs => by
    obtain ⟨g', o', e', hg', _⟩ := hd.at_ (k := leaf) hf
    have e3 : g = g' := congrArg Addr.block (Option.some.inj (e.symm.trans e'))
    rcases hs with e4 | e4 | e4
    · omega
    · omega
    · simp [Value.ownBlock] at e4) hB7
  clear hF6 hFq hB67 hw7 hB36 fq7 fp7
  refine hlv.mono ?_
  rintro e w8 ⟨rfl, S8, ⟨B, m, cB, hS8, _, hm, hobj, hplc, hrow⟩, hB8, hz8, hk8, _⟩
  obtain rfl : m = h := by omega
  have fr8 : Fresh w.heap.size 149 w8 (some ⟨gr, 0, none⟩) 2 2 zPath := Fresh.of_block (by rw [hk8 gr hlr7 (fun hs => by rcases hs with e4 | e4 | e4 <;> first | exact nrp e4 | exact nrq e4 | (simp [Value.ownBlock] at e4))]; exact fr7) hgr2 rfl (by unfold maxLen; omega)
  rw [List.take_of_length_le (by rw [len_pathF]; omega)] at hrow
  clear hlv hk8 hplc hS8 hm fr7
  go_wp2_with (first
    | (with_reducible refine wpList_load (o := ⟨some 31, _, _, _, _, _⟩) rfl (.tmp 8) 149 rfl gp 0 _ rfl [.int .i64 (leaf : Int), .slice B m cB] 2 rfl (by kernel_rfl) hobj.sees ?_)
    | (with_reducible refine wpList_store rfl rfl (.tmp 6) (.tmp 31) 149 rfl gr 0 w.heap.size 149 2 zPath [.int .i64 (leaf : Int), .slice B m cB] rfl rfl 2 rfl (by kernel_rfl) fr8 (by omega) (allOne_out (by kernel_rfl)) w hB8 hgr2 ?_; intro w9 hF9 hB9 ho9 hz9))
  rw [splice_pa _ _ rfl rfl] at hF9
  have hrow9 := hrow.apart fr8.block.1 (by decide) ho9
  exact bodyPost_ct rfl rfl _ rfl [.int .i64 (leaf : Int), .slice B m cB] 2 rfl (by kernel_rfl) hF9.sees rfl ⟨B, cB, rfl, hrow9, hB9⟩
end
end Go.Proofs.Ytpdfalgjmeagjaa
