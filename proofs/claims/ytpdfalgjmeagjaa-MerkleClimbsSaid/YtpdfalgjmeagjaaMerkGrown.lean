/-
  The leaves that the statements of layer 10 make.
-/
import Derived.Test.YtpdfalgjmeagjaaMerkPath
import Derived.Test.YtpdfalgjmeagjaaRoundsSame
import Derived.Laws.AppendOwnNone
namespace Go.Proofs.Ytpdfalgjmeagjaa
open Go.RowKit
set_option linter.unusedVariables false

def sdF (g o n c g2 o2 c2 k : Nat) (X : List UInt8) (j : Nat) (x : Value) (w : World) : Prop :=
  match j with
  | 0 => x = .slice (some ⟨g, o, none⟩) n c
  | 1 => x = .int .i64 (k : Int)
  | 2 => x = .pointer (some ⟨g, o + 32 * k, none⟩)
  | 3 => x = .agg (cb X).toArray
  | 4 => x = .slice (some ⟨g2, o2, none⟩) n c2
  | 5 => x = .int .i64 (k : Int)
  | 6 => x = .pointer (some ⟨g2, o2 + 32 * k, none⟩)
  | 7 => x = .agg (cb X).toArray
  | _ => True
theorem sdF_stab (g o n c g2 o2 c2 k : Nat) (X : List UInt8) : ∀ j x w w', Below w.heap.size w w' → sdF g o n c g2 o2 c2 k X j x w → sdF g o n c g2 o2 c2 k X j x w' := fun _ _ _ _ _ h => h

section
variable {w : World}
set_option maxHeartbeats 2000000 in
set_option maxRecDepth 100000 in
theorem SameDigests_same (A B : Option Addr) (n c c2 : Nat) (ds : List (List UInt8)) (hA : Digs w A n ds) (hB2 : Digs w B n ds) (hn : n ≤ 1000) :
    Calls Try.prog 170 #[.slice A n c, .slice B n c2] w fun e w' => e = .returned (.bool true) ∧ Below w.heap.size w w' := by
  go_enter Try.func170, Try.ntmps170
  go_wp2_with fail
  go_loopw [5] (fun iv wr => ∃ k : Nat, k ≤ n ∧ iv = .int .i64 (k : Int) ∧ Below w.heap.size w wr) (fun iv _ => n - (intOf iv).toNat)
  case atStart => exact ⟨0, by omega, rfl, Below.refl _ _⟩
  case round =>
    obtain ⟨k, hk, rfl, hB⟩ := hrel
    by_cases hlt : k < n
    · obtain ⟨g, o, rfl, hgB, hSX, hXL⟩ := (hA.step hB).at_ hlt
      obtain ⟨g2, o2, rfl, _, hSY, _⟩ := (hB2.step hB).at_ hlt
      obtain ⟨X, hX⟩ : ∃ X, dAt ds k = X := ⟨_, rfl⟩
      rw [hX] at hSX hSY hXL
      have HXL := Lib.hid hXL
      clear hX hXL
      go_wp2_with fail
      refine region_all_tail 8 (sdF g o n c g2 o2 c2 k X) (by kernel_rfl) (by kernel_rfl) (by kernel_rfl) (sdF_stab _ _ _ _ _ _ _ _ _) ?_ ?_
      · intro w0 hb0
        simp only [List.take_succ_cons, List.take_zero]
        refine ⟨?_, ?_, ?_, ?_, ?_, ?_, ?_, ?_, trivial⟩
        all_goals intro listed a1 w' hk1 hd1
        · have f0_ : a1.eval (.tmp 0) = .slice (some ⟨g, o, none⟩) n c := hk1.ev_old 0 (by kernel_rfl)
          have g0_ : a1.tmps[0]?.getD undef = .slice (some ⟨g, o, none⟩) n c := by simpa [Act.eval] using f0_
          exact stepOk_value rfl (v := .slice (some ⟨g, o, none⟩) n c) (by go_simp) rfl
        · have f5_ : a1.eval (.tmp 5) = .int .i64 (k : Int) := hk1.ev_old 5 (by kernel_rfl)
          have g5_ : a1.tmps[5]?.getD undef = .int .i64 (k : Int) := by simpa [Act.eval] using f5_
          exact stepOk_value rfl (v := .int .i64 (k : Int)) (by go_simp) rfl
        · obtain ⟨y0, e0, q0, rfl⟩ := hk1.ev_new hd1 0 17 (by kernel_rfl) rfl
          obtain ⟨y1, e1, q1, rfl⟩ := hk1.ev_new hd1 1 18 (by kernel_rfl) rfl
          exact stepOk_value rfl (run_ixL (.tmp 17) (.tmp 18) rfl e0 e1 (j := k) rfl hlt rfl) rfl
        · obtain ⟨y2, e2, q2, rfl⟩ := hk1.ev_new hd1 2 19 (by kernel_rfl) rfl
          exact stepOk_value rfl (run_load_agg (.tmp 19) 38 rfl e2 (cb X) 32 (by rw [List.length_map]; exact HXL.out) (by kernel_rfl) ((hSX.step hb0).step hk1.below)) rfl
        · have f1_ : a1.eval (.tmp 1) = .slice (some ⟨g2, o2, none⟩) n c2 := hk1.ev_old 1 (by kernel_rfl)
          have g1_ : a1.tmps[1]?.getD undef = .slice (some ⟨g2, o2, none⟩) n c2 := by simpa [Act.eval] using f1_
          exact stepOk_value rfl (v := .slice (some ⟨g2, o2, none⟩) n c2) (by go_simp) rfl
        · have f5_ : a1.eval (.tmp 5) = .int .i64 (k : Int) := hk1.ev_old 5 (by kernel_rfl)
          have g5_ : a1.tmps[5]?.getD undef = .int .i64 (k : Int) := by simpa [Act.eval] using f5_
          exact stepOk_value rfl (v := .int .i64 (k : Int)) (by go_simp) rfl
        · obtain ⟨y4, e4, q4, rfl⟩ := hk1.ev_new hd1 4 21 (by kernel_rfl) rfl
          obtain ⟨y5, e5, q5, rfl⟩ := hk1.ev_new hd1 5 22 (by kernel_rfl) rfl
          exact stepOk_value rfl (run_ixL (.tmp 21) (.tmp 22) rfl e4 e5 (j := k) rfl hlt rfl) rfl
        · obtain ⟨y6, e6, q6, rfl⟩ := hk1.ev_new hd1 6 23 (by kernel_rfl) rfl
          exact stepOk_value rfl (run_load_agg (.tmp 23) 38 rfl e6 (cb X) 32 (by rw [List.length_map]; exact HXL.out) (by kernel_rfl) ((hSY.step hb0).step hk1.below)) rfl
      · intro a1 w7 hb7 hp
        obtain ⟨x0, p0, x1, p1, x2, p2, x3, p3, x4, p4, x5, p5, x6, p6, x7, p7, rfl⟩ := hp
        simp only [sdF] at p0 p1 p2 p3 p4 p5 p6 p7
        subst p0 p1 p2 p3 p4 p5 p6 p7
        simp only [List.drop_succ_cons, List.drop_zero, Act.put, List.setIfInBounds_toArray, List.set_cons_succ, List.set_cons_zero]
        have hBw7 := Below.then_ hB hb7
        go_wp2_with (with_reducible refine wpList_is (v := .bool false) rfl (run_neq_of (.tmp 20) (.tmp 24) 38 _ rfl (by kernel_rfl) _ _ rfl rfl (neq_digest X HXL.out w7)) ?_)
        go_roundw
        case rel => exact ⟨k + 1, by omega, by go_num, hBw7⟩
        case measure => simp [intOf]; omega
    · obtain rfl : k = n := by omega
      go_wp2_with fail
      go_ret
      exact ⟨rfl, hB⟩
theorem Digs.read {A : Option Addr} {n : Nat} {ds : List (List UInt8)} {ad : Addr} (h : Digs w A n ds) (hA : A = some ad) : ∀ j u, (cb ds.flatten)[j]? = some u → w.cell? (ad.add j) = some u := by
  intro j u hu
  obtain ⟨b, o, e, hb, hc⟩ := h.sees (by have := (List.getElem?_eq_some_iff.1 hu).1; omega)
  rw [hA] at e
  obtain rfl : ad = ⟨b, o, none⟩ := by simpa using e
  rw [Addr.add_lit]
  exact hc j u hu
end
end Go.Proofs.Ytpdfalgjmeagjaa

namespace Go.Proofs.Ytpdfalgjmeagjaa
open Go.RowKit
set_option linter.unusedVariables false
section
variable {w : World} {ops : Array Oper} {rest : List Oper} {o : Oper} {a : Act} {Q : Exit → Act → World → Prop}
theorem wpList_val_run {v : Value} {w' : World} (hg : o.guard = none) (hrun : (execOp a.eval o).run Try.prog w = .ok (.value v) w') (hK : wpList Try.prog ops Q rest (a.put o.dst v) w') : wpList Try.prog ops Q (o :: rest) a w := by
  refine wpList_plain hg fun K hK' => ?_
  unfold Oper.wp
  rw [hrun]
  exact hK' _ _ hK
theorem wpList_bs1 (hg : o.guard = none) (x : Operand) (hop : o.op = .buildSlice 144 1 #[(0, x)]) (d : List UInt8) (hx : a.eval x = .agg (cb d).toArray) (hd : d.length = 32)
    (hK : ∀ g w', OwnD w.heap.size w' (some ⟨g, 0, none⟩) 1 1 [d] → Below w.heap.size w w' → wpList Try.prog ops Q rest (a.put o.dst (.slice (some ⟨g, 0, none⟩) 1 1)) w') : wpList Try.prog ops Q (o :: rest) a w :=
  wpList_val_run hg (exec_bs1 x hop d hx hd) (hK _ _ (own_new w [d] (fun e he => by simp at he; rw [he]; exact hd) 1 rfl (by omega)) (below_alloc _ _))
end
section
variable {w : World}
set_option maxHeartbeats 4000000 in
set_option maxRecDepth 100000 in
theorem grown10_any (A : Option Addr) (n c : Nat) (l : List (List UInt8)) (hA : Digs w A n l) (hn : n ≤ 9223372036854775807) (hh : Nat) (hb : hh < 256) :
    Calls Try.prog 82 #[.slice A n c, .int .u8 (hh : Int)] w fun e w' => ∃ A' c' ds, e = .returned (.slice A' (2 ^ (hh % 6)) c') ∧ OwnD w.heap.size w' A' (2 ^ (hh % 6)) c' ds ∧ Below w.heap.size w w' := by
  obtain ⟨h, hhm⟩ : ∃ h, hh % 6 = h := ⟨_, rfl⟩
  have h6 : h < 6 := by omega
  obtain ⟨N, hN⟩ : ∃ N, 2 ^ h = N := ⟨_, rfl⟩
  have hN32 : N ≤ 32 := by rw [← hN]; exact Nat.le_trans (Nat.pow_le_pow_right (by decide) (show h ≤ 5 by omega)) (by decide)
  rw [hhm, hN]
  have e2 : ((2 : Int) ^ h) = (N : Int) := by rw [← hN]; simp
  have e1 : ((2 : Int) ^ (hh % 6)) = (N : Int) := by rw [hhm]; exact e2
  have ew2 : wrap64 ((2 : Int) ^ h) = (N : Int) := by rw [e2]; unfold wrap64; omega
  have ew1 : wrap64 ((2 : Int) ^ (hh % 6)) = (N : Int) := by rw [e1]; unfold wrap64; omega
  have HNN := Lib.hid hn
  have HA := Lib.hid hA.len
  clear hn hN hhm e1 e2 h6
  go_enter Try.func82, Try.ntmps82
  go_wp2_with fail
  go_loopw [5, 6] (fun v iv wr => ∃ (k : Nat) (A' : Option Addr) (c' : Nat) (ds : List (List UInt8)), k ≤ N ∧ iv = .int .i64 (k : Int) ∧ v = .slice A' k c' ∧ OwnD w.heap.size wr A' k c' ds ∧ Below w.heap.size w wr) (fun _ iv _ => N - (intOf iv).toNat)
  case atStart => exact ⟨0, none, 0, [], by omega, rfl, rfl, OwnD.nil, Below.refl _ _⟩
  case round =>
    obtain ⟨k, A', c', ds, hk, rfl, rfl, hF, hB⟩ := hrel
    have hzr := hB.size
    by_cases hlt : k < N
    · have e9 : decide ((k : Int) < (N : Int)) = true := by simp; omega
      by_cases h0 : 0 < n
      · have e8 : decide (0 < (n : Int)) = true := by simp; omega
        have e8' : decide (0 < n) = true := by simp; omega
        have hkn : Hid (k % n < n) := Lib.hid (Nat.mod_lt _ h0)
        obtain ⟨g, o, rfl, hgB, hS, hDL⟩ := (hA.step hB).at_ hkn.out
        have HDL := Lib.hid hDL
        have hmod : Hid (((k : Int) % (n : Int)) = ((k % n : Nat) : Int)) := Lib.hid (by simp)
        have hn0 : ¬ ((n : Int) = 0) := by omega
        clear hDL hgB
        obtain ⟨x, hx⟩ : ∃ x : UInt8, (dAt l (k % n))[0]? = some x := ⟨_, List.getElem?_eq_getElem (by rw [HDL.out]; omega)⟩
        obtain ⟨d', hd'⟩ : ∃ d', (dAt l (k % n)).set 0 (x ^^^ UInt8.ofNat k) = d' := ⟨_, rfl⟩
        have hset : Hid ((cb (dAt l (k % n))).set 0 (.int .u8 ((x.toNat ^^^ k : Nat) : Int)) = cb d') := Lib.hid (by
          rw [← hd']
          simp only [cb, List.map_set, UInt8.toNat_xor, UInt8.toNat_ofNat']
          rw [Nat.mod_eq_of_lt (show k < 2 ^ 8 by omega)])
        have hdl' : Hid (d'.length = 32) := Lib.hid (by rw [← hd', List.length_set]; exact HDL.out)
        have hx3 : Hid ((cb (dAt l (k % n)))[0]? = some (.int .u8 (x.toNat : Int))) := Lib.hid (by rw [List.getElem?_map, hx]; rfl)
        have hxor : bits .xor .u8 (x.toNat : Int) (k : Int) = ((x.toNat ^^^ k : Nat) : Int) := u8_xor_nat _ k x.toNat_lt (by omega)
        clear hx hd'
        go_wp2_with (first
          | (with_reducible refine wpList_alloc (o := ⟨some 7, _, _, _, _, _⟩) rfl 38 rfl (cb (List.replicate 32 0)) (by kernel_rfl) 32 (len_zb 32) (by decide) ?_; intro gd w2 hgd hFd hBd; have hS2 := hS.step hBd)
          | (with_reducible refine wpList_is (v := .pointer (some ⟨g, o + 32 * (k % n), none⟩)) rfl (run_ixL (.tmp 18) (.tmp 22) rfl rfl rfl hmod.out hkn.out rfl) ?_)
          | (with_reducible refine wpList_load (o := ⟨some 24, _, _, _, _, _⟩) rfl (.tmp 23) 38 rfl g (o + 32 * (k % n)) _ rfl (cb (dAt l (k % n))) 32 (by rw [List.length_map]; exact HDL.out) (by kernel_rfl) hS2 ?_)
          | (with_reducible refine wpList_store rfl rfl (.tmp 7) (.tmp 24) 38 rfl gd 0 wr.heap.size 38 32 (cb (List.replicate 32 0)) (cb (dAt l (k % n))) rfl rfl 32 (by rw [List.length_map]; exact HDL.out) (by kernel_rfl) hFd (by omega) (cb_one _) wr hBd hgd ?_; intro w3 hF3' hB3 ho3 hz3; have hF3 : Fresh wr.heap.size 38 w3 (some ⟨gd, 0, none⟩) 32 32 (cb (dAt l (k % n))) := (by rw [← splice_32 _ _ List.length_replicate HDL.out]; exact hF3'); have hc3 : w3.cell? ⟨gd, 0, none⟩ = some (.int .u8 (x.toNat : Int)) := hF3.cell_ hx3.out; have hz3f : w3.frozen? ⟨gd, 0, none⟩ = false := hF3.frozenAt; have hF4 : Fresh wr.heap.size 38 (w3.setCell ⟨gd, 0, none⟩ (.int .u8 ((x.toNat ^^^ k : Nat) : Int))) (some ⟨gd, 0, none⟩) 32 32 (cb d') := (by rw [← hset.out]; exact hF3.store 0 _); have hB4 : Below wr.heap.size wr (w3.setCell ⟨gd, 0, none⟩ (.int .u8 ((x.toNat ^^^ k : Nat) : Int))) := hB3.setCell hgd _)
          | (with_reducible refine wpList_load (o := ⟨some 32, _, _, _, _, _⟩) rfl (.tmp 7) 38 rfl gd 0 _ rfl (cb d') 32 (by rw [List.length_map]; exact hdl'.out) (by kernel_rfl) hF4.sees ?_)
          | (with_reducible refine wpList_bs1 rfl (.tmp 32) rfl d' rfl hdl'.out ?_; intro gb w5 hO5 hB5; have hF5 := (hF.below hB4).below hB5; have hB05 := Below.then_ (Below.then_ hB hB4) hB5)
          | (at_builtin; refine wpList_appD rfl (.tmp 31) (.tmp 33) rfl w.heap.size A' k c' ds ⟨gb, 0, none⟩ 1 1 [d'] w rfl rfl hF5 (hO5.digs.read rfl) hO5.all rfl (by omega) (Nat.le_refl _) hB05.size hB05 ?_; intro A6 c6 w6 hF6 hB6 _))
        go_roundw
        case rel => exact ⟨k + 1, A6, c6, ds ++ [d'], by omega, by go_num, rfl, hF6, hB6⟩
        case measure => simp [intOf]; omega
      · obtain rfl : n = 0 := by omega
        obtain ⟨x, hx⟩ : ∃ x : UInt8, (List.replicate 32 (0 : UInt8))[0]? = some x := ⟨_, List.getElem?_eq_getElem (by rw [List.length_replicate]; omega)⟩
        obtain ⟨d', hd'⟩ : ∃ d', (List.replicate 32 (0 : UInt8)).set 0 (x ^^^ UInt8.ofNat k) = d' := ⟨_, rfl⟩
        have hset : Hid ((cb (List.replicate 32 (0 : UInt8))).set 0 (.int .u8 ((x.toNat ^^^ k : Nat) : Int)) = cb d') := Lib.hid (by
          rw [← hd']
          simp only [cb, List.map_set, UInt8.toNat_xor, UInt8.toNat_ofNat']
          rw [Nat.mod_eq_of_lt (show k < 2 ^ 8 by omega)])
        have hdl' : Hid (d'.length = 32) := Lib.hid (by rw [← hd', List.length_set]; exact List.length_replicate)
        have hx3 : Hid ((cb (List.replicate 32 (0 : UInt8)))[0]? = some (.int .u8 (x.toNat : Int))) := Lib.hid (by rw [List.getElem?_map, hx]; rfl)
        have hxor : bits .xor .u8 (x.toNat : Int) (k : Int) = ((x.toNat ^^^ k : Nat) : Int) := u8_xor_nat _ k x.toNat_lt (by omega)
        clear hx hd'
        go_wp2_with (first
          | (with_reducible refine wpList_alloc (o := ⟨some 7, _, _, _, _, _⟩) rfl 38 rfl (cb (List.replicate 32 0)) (by kernel_rfl) 32 (len_zb 32) (by decide) ?_; intro gd w2 hgd hFd hBd; have hF3 := hFd; have hB3 := hBd; have hc3 : w2.cell? ⟨gd, 0, none⟩ = some (.int .u8 (x.toNat : Int)) := hF3.cell_ hx3.out; have hz3f : w2.frozen? ⟨gd, 0, none⟩ = false := hF3.frozenAt; have hF4 : Fresh wr.heap.size 38 (w2.setCell ⟨gd, 0, none⟩ (.int .u8 ((x.toNat ^^^ k : Nat) : Int))) (some ⟨gd, 0, none⟩) 32 32 (cb d') := (by rw [← hset.out]; exact hF3.store 0 _); have hB4 : Below wr.heap.size wr (w2.setCell ⟨gd, 0, none⟩ (.int .u8 ((x.toNat ^^^ k : Nat) : Int))) := hB3.setCell hgd _)
          | (with_reducible refine wpList_load (o := ⟨some 32, _, _, _, _, _⟩) rfl (.tmp 7) 38 rfl gd 0 _ rfl (cb d') 32 (by rw [List.length_map]; exact hdl'.out) (by kernel_rfl) hF4.sees ?_)
          | (with_reducible refine wpList_bs1 rfl (.tmp 32) rfl d' rfl hdl'.out ?_; intro gb w5 hO5 hB5; have hF5 := (hF.below hB4).below hB5; have hB05 := Below.then_ (Below.then_ hB hB4) hB5)
          | (at_builtin; refine wpList_appD rfl (.tmp 31) (.tmp 33) rfl w.heap.size A' k c' ds ⟨gb, 0, none⟩ 1 1 [d'] w rfl rfl hF5 (hO5.digs.read rfl) hO5.all rfl (by omega) (Nat.le_refl _) hB05.size hB05 ?_; intro A6 c6 w6 hF6 hB6 _))
        go_roundw
        case rel => exact ⟨k + 1, A6, c6, ds ++ [d'], by omega, by go_num, rfl, hF6, hB6⟩
        case measure => simp [intOf]; omega
    · obtain rfl : k = N := by omega
      go_wp2_with fail
      go_ret
      exact ⟨A', c', ds, rfl, hF, hB⟩
end
end Go.Proofs.Ytpdfalgjmeagjaa
