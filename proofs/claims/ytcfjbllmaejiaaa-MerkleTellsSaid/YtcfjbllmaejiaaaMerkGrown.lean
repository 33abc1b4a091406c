/-
  The leaves that the statements of layer 10 make.
-/
import Derived.Test.YtcfjbllmaejiaaaMerkPath
import Derived.Test.YtcfjbllmaejiaaaRoundsSame
import Derived.Laws.AppendOwnNone
namespace Go.Proofs.Ytcfjbllmaejiaaa
open Go.RowKit
set_option linter.unusedVariables false

def sdF (g o n c g2 o2 c2 k : Nat) (X : List UInt8) (j : Nat) (x : Value) (w : World) : Prop :=
  match j with
  | 0 => x = .slice (some ⟨g, o, none⟩) n c
  | 1 => x = .int .i64 (k : Int)
  | 2 => x = .pointer (some ⟨g, o + 32 * k, none⟩)
  | 3 => x = .agg (cb X).toArray
  | 4 => x = .slice (some ⟨g2, o2, none⟩) n c2
  | 5 => x = .int .i64 (k : Int)
  | 6 => x = .pointer (some ⟨g2, o2 + 32 * k, none⟩)
  | 7 => x = .agg (cb X).toArray
  | _ => True
theorem sdF_stab (g o n c g2 o2 c2 k : Nat) (X : List UInt8) : ∀ j x w w', Below w.heap.size w w' → sdF g o n c g2 o2 c2 k X j x w → sdF g o n c g2 o2 c2 k X j x w' := fun _ _ _ _ _ h => h

section
variable {w : World}
set_option maxHeartbeats 2000000 in
set_option maxRecDepth 100000 in
theorem SameDigests_same (A B : Option Addr) (n c c2 : Nat) (ds : List (List UInt8)) (hA : Digs w A n ds) (hB2 : Digs w B n ds) (hn : n ≤ 1000) :
    Calls Try.prog 48 #[.slice A n c, .slice B n c2] w fun e w' => e = .returned (.bool true) ∧ Below w.heap.size w w' := by
  go_enter Try.func48, Try.ntmps48
  go_wp2_with fail
  go_loopw [5] (fun iv wr => ∃ k : Nat, k ≤ n ∧ iv = .int .i64 (k : Int) ∧ Below w.heap.size w wr) (fun iv _ => n - (intOf iv).toNat)
  case atStart => exact ⟨0, by omega, rfl, Below.refl _ _⟩
  case round =>
    obtain ⟨k, hk, rfl, hB⟩ := hrel
    by_cases hlt : k < n
    · obtain ⟨g, o, rfl, hgB, hSX, hXL⟩ := (hA.step hB).at_ hlt
      obtain ⟨g2, o2, rfl, _, hSY, _⟩ := (hB2.step hB).at_ hlt
      obtain ⟨X, hX⟩ : ∃ X, dAt ds k = X := ⟨_, rfl⟩
      rw [hX] at hSX hSY hXL
      have HXL := Lib.hid hXL
      clear hX hXL
      go_wp2_with fail
      refine region_all_tail 8 (sdF g o n c g2 o2 c2 k X) (by kernel_rfl) (by kernel_rfl) (by kernel_rfl) (sdF_stab _ _ _ _ _ _ _ _ _) ?_ ?_
      · intro w0 hb0
        simp only [List.take_succ_cons, List.take_zero]
        refine ⟨?_, ?_, ?_, ?_, ?_, ?_, ?_, ?_, trivial⟩
        all_goals intro listed a1 w' hk1 hd1
        · have f0_ : a1.eval (.tmp 0) = .slice (some ⟨g, o, none⟩) n c := hk1.ev_old 0 (by kernel_rfl)
          have g0_ : a1.tmps[0]?.getD undef = .slice (some ⟨g, o, none⟩) n c := by simpa [Act.eval] using f0_
          exact stepOk_value rfl (v := .slice (some ⟨g, o, none⟩) n c) (by go_simp) rfl
        · have f5_ : a1.eval (.tmp 5) = .int .i64 (k : Int) := hk1.ev_old 5 (by kernel_rfl)
          have g5_ : a1.tmps[5]?.getD undef = .int .i64 (k : Int) := by simpa [Act.eval] using f5_
          exact stepOk_value rfl (v := .int .i64 (k : Int)) (by go_simp) rfl
        · obtain ⟨y0, e0, q0, rfl⟩ := hk1.ev_new hd1 0 17 (by kernel_rfl) rfl
          obtain ⟨y1, e1, q1, rfl⟩ := hk1.ev_new hd1 1 18 (by kernel_rfl) rfl
          exact stepOk_value rfl (run_ixL (.tmp 17) (.tmp 18) rfl e0 e1 (j := k) rfl hlt rfl) rfl
        · obtain ⟨y2, e2, q2, rfl⟩ := hk1.ev_new hd1 2 19 (by kernel_rfl) rfl
          exact stepOk_value rfl (run_load_agg (.tmp 19) 84 rfl e2 (cb X) 32 (by rw [List.length_map]; exact HXL.out) (by kernel_rfl) ((hSX.step hb0).step hk1.below)) rfl
        · have f1_ : a1.eval (.tmp 1) = .slice (some ⟨g2, o2, none⟩) n c2 := hk1.ev_old 1 (by kernel_rfl)
          have g1_ : a1.tmps[1]?.getD undef = .slice (some ⟨g2, o2, none⟩) n c2 := by simpa [Act.eval] using f1_
          exact stepOk_value rfl (v := .slice (some ⟨g2, o2, none⟩) n c2) (by go_simp) rfl
        · have f5_ : a1.eval (.tmp 5) = .int .i64 (k : Int) := hk1.ev_old 5 (by kernel_rfl)
          have g5_ : a1.tmps[5]?.getD undef = .int .i64 (k : Int) := by simpa [Act.eval] using f5_
          exact stepOk_value rfl (v := .int .i64 (k : Int)) (by go_simp) rfl
        · obtain ⟨y4, e4, q4, rfl⟩ := hk1.ev_new hd1 4 21 (by kernel_rfl) rfl
          obtain ⟨y5, e5, q5, rfl⟩ := hk1.ev_new hd1 5 22 (by kernel_rfl) rfl
          exact stepOk_value rfl (run_ixL (.tmp 21) (.tmp 22) rfl e4 e5 (j := k) rfl hlt rfl) rfl
        · obtain ⟨y6, e6, q6, rfl⟩ := hk1.ev_new hd1 6 23 (by kernel_rfl) rfl
          exact stepOk_value rfl (run_load_agg (.tmp 23) 84 rfl e6 (cb X) 32 (by rw [List.length_map]; exact HXL.out) (by kernel_rfl) ((hSY.step hb0).step hk1.below)) rfl
      · intro a1 w7 hb7 hp
        obtain ⟨x0, p0, x1, p1, x2, p2, x3, p3, x4, p4, x5, p5, x6, p6, x7, p7, rfl⟩ := hp
        simp only [sdF] at p0 p1 p2 p3 p4 p5 p6 p7
        subst p0 p1 p2 p3 p4 p5 p6 p7
        simp only [List.drop_succ_cons, List.drop_zero, Act.put, List.setIfInBounds_toArray, List.set_cons_succ, List.set_cons_zero]
        have hBw7 := Below.then_ hB hb7
        go_wp2_with (with_reducible refine wpList_is (v := .bool false) rfl (run_neq_of (.tmp 20) (.tmp 24) 84 _ rfl (by kernel_rfl) _ _ rfl rfl (neq_digest X HXL.out w7)) ?_)
        go_roundw
        case rel => exact ⟨k + 1, by omega, by go_num, hBw7⟩
        case measure => simp [intOf]; omega
    · obtain rfl : k = n := by omega
      go_wp2_with fail
      go_ret
      exact ⟨rfl, hB⟩
theorem Digs.read {A : Option Addr} {n : Nat} {ds : List (List UInt8)} {ad : Addr} (h : Digs w A n ds) (hA : A = some ad) : ∀ j u, (cb ds.flatten)[j]? = some u → w.cell? (ad.add j) = some u := by
  intro j u hu
  obtain ⟨b, o, e, hb, hc⟩ := h.sees (by have := (List.getElem?_eq_some_iff.1 hu).1; omega)
  rw [hA] at e
  obtain rfl : ad = ⟨b, o, none⟩ := by simpa using e
  rw [Addr.add_lit]
  exact hc j u hu
theorem CopyDigests_any (A : Option Addr) (n c : Nat) (ds : List (List UInt8)) (hA : Digs w A n ds) (hn : n ≤ 1000) (hnil : A = none → c = 0) :
    Calls Try.prog 36 #[.slice A n c] w fun e w' => ∃ A' c', e = .returned (.slice A' n c') ∧ OwnD w.heap.size w' A' n c' ds ∧ Below w.heap.size w w' := by
  have HLEN := Lib.hid hA.len
  have HALL := Lib.hid hA.all
  cases A with
  | none =>
    obtain rfl : c = 0 := hnil rfl
    have hn0 : n = 0 := by
      rcases Nat.eq_zero_or_pos n with h | h
      · exact h
      · obtain ⟨g, o, e, _⟩ := hA.at_ h
        cases e
    subst hn0
    have hds : ds = [] := List.eq_nil_of_length_eq_zero HLEN.out
    obtain ⟨i0, hi, hz0, hz1, hz2⟩ := info_parts infoD
    rw [hds]
    clear hnil
    go_enter Try.func36, Try.ntmps36
    go_wp2_with (at_builtin; refine wpList_append_own_none rfl (.tmp 4) (.tmp 5) 80 rfl w.heap.size 84 i0 32 Try.underlying80 hi (.slice none 0 0) 0 [] rfl (World.ownsRow_nil _ _ _ _) rfl ?_)
    go_ret
    exact ⟨none, 0, rfl, OwnD.nil, Below.refl _ _⟩
  | some ad =>
    have hrd := Lib.hid (hA.read rfl)
    clear hnil
    go_enter Try.func36, Try.ntmps36
    go_wp2_with (at_builtin; refine wpList_appD rfl (.tmp 4) (.tmp 5) rfl w.heap.size none 0 0 [] ad n c ds w rfl rfl OwnD.nil hrd.out HALL.out HLEN.out (by omega) (Nat.le_refl _) (Nat.le_refl _) (Below.refl _ _) ?_; intro A' c' w1 hF1 hB1 _)
    rw [List.nil_append] at hF1
    go_ret
    exact ⟨A', c', by simp, by simpa only [Nat.zero_add] using hF1, hB1⟩
end
end Go.Proofs.Ytcfjbllmaejiaaa

namespace Go.Proofs.Ytcfjbllmaejiaaa
open Go.RowKit
set_option linter.unusedVariables false
section
variable {w : World} {ops : Array Oper} {rest : List Oper} {o : Oper} {a : Act} {Q : Exit → Act → World → Prop}
theorem wpList_val_run {v : Value} {w' : World} (hg : o.guard = none) (hrun : (execOp a.eval o).run Try.prog w = .ok (.value v) w') (hK : wpList Try.prog ops Q rest (a.put o.dst v) w') : wpList Try.prog ops Q (o :: rest) a w := by
  refine wpList_plain hg fun K hK' => ?_
  unfold Oper.wp
  rw [hrun]
  exact hK' _ _ hK
theorem wpList_bs1 (hg : o.guard = none) (x : Operand) (hop : o.op = .buildSlice 80 1 #[(0, x)]) (d : List UInt8) (hx : a.eval x = .agg (cb d).toArray) (hd : d.length = 32)
    (hK : ∀ g w', OwnD w.heap.size w' (some ⟨g, 0, none⟩) 1 1 [d] → Below w.heap.size w w' → wpList Try.prog ops Q rest (a.put o.dst (.slice (some ⟨g, 0, none⟩) 1 1)) w') : wpList Try.prog ops Q (o :: rest) a w :=
  wpList_val_run hg (exec_bs1 x hop d hx hd) (hK _ _ (own_new w [d] (fun e he => by simp at he; rw [he]; exact hd) 1 rfl (by omega)) (below_alloc _ _))
end
section
variable {w : World}
end
end Go.Proofs.Ytcfjbllmaejiaaa
