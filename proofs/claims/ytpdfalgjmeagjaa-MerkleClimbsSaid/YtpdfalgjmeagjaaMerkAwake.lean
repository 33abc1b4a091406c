/-
  The chapter's examples of layer 10.
-/
import Derived.Test.YtpdfalgjmeagjaaMerkGrown
import Derived.Test.YtpdfalgjmeagjaaShaTab
import Derived.Test.YtpdfalgjmeagjaaShaAwake
namespace Go.Proofs.Ytpdfalgjmeagjaa
open Go.RowKit
set_option linter.unusedVariables false

section
variable {w : World} {ops : Array Oper} {rest : List Oper} {o : Oper} {a : Act} {Q : Exit → Act → World → Prop}
theorem wpList_bs4 (hg : o.guard = none) (x y z u : Operand) (hop : o.op = .buildSlice 144 4 #[(0, x), (1, y), (2, z), (3, u)]) (d e f g : List UInt8) (hx : a.eval x = .agg (cb d).toArray) (hy : a.eval y = .agg (cb e).toArray) (hz : a.eval z = .agg (cb f).toArray) (hu : a.eval u = .agg (cb g).toArray) (hd : d.length = 32) (he : e.length = 32) (hf : f.length = 32) (hg2 : g.length = 32)
    (hK : ∀ q w', OwnD w.heap.size w' (some ⟨q, 0, none⟩) 4 4 [d, e, f, g] → Below w.heap.size w w' → wpList Try.prog ops Q rest (a.put o.dst (.slice (some ⟨q, 0, none⟩) 4 4)) w') : wpList Try.prog ops Q (o :: rest) a w :=
  wpList_val_run hg (exec_bs4 x y z u hop d e f g hx hy hz hu hd he hf hg2) (hK _ _ (own_new w [d, e, f, g] (fun v hv => by simp at hv; rcases hv with rfl | rfl | rfl | rfl <;> assumption) 4 rfl (by omega)) (below_alloc _ _))
theorem wpList_bs2g (hw : Region.wanted o (yielded ops a.tmps) = true) (x y : Operand) (hop : o.op = .buildSlice 144 2 #[(0, x), (1, y)]) (d e : List UInt8) (hx : a.eval x = .agg (cb d).toArray) (hy : a.eval y = .agg (cb e).toArray) (hd : d.length = 32) (he : e.length = 32)
    (hK : ∀ q w', OwnD w.heap.size w' (some ⟨q, 0, none⟩) 2 2 [d, e] → Below w.heap.size w w' → wpList Try.prog ops Q rest (a.put o.dst (.slice (some ⟨q, 0, none⟩) 2 2)) w') : wpList Try.prog ops Q (o :: rest) a w := by
  refine wpList_step fun K hK' => ?_
  rw [if_pos hw]
  unfold Oper.wp
  rw [exec_bs2 x y hop d e hx hy hd he]
  exact hK' _ _ (hK _ _ (own_new w [d, e] (fun v hv => by simp at hv; rcases hv with rfl | rfl <;> assumption) 2 rfl (by omega)) (below_alloc _ _))
theorem run_bk1 {v : Value} {k : Value} (hop : o.op = .build 38 #[(0, .const k)]) (hrun : ∀ w, (Instr.build 38 #[(0, k)]).run Try.prog w = .ok v w) : (execOp a.eval o).run Try.prog w = .ok (.value v) w := by
  simp only [execOp, hop]
  simp only [List.map_toArray, List.map_cons, List.map_nil, Act.eval, Sem.run_bind]
  rw [hrun]
  rfl
theorem run_cutD {w : World} (A : Option Addr) (n c k : Nat) (hk : k ≤ c) : (Instr.slice 144 (.slice A n c) none (some (.int .i64 (k : Int))) none).run Try.prog w = .ok (.slice A k c) w := by
  have hz : (sizeOf (Try.prog.elem 144)).run Try.prog w = .ok 32 w := by kernel_rfl
  rw [run_slice_h w 144 A n c elemD .i64 (k : Int) (by omega) (by omega), hz]
  simp only [Result.andThen, sliced, Int.toNat_natCast, Nat.zero_mul, Nat.sub_zero]
  cases A <;> simp [Addr.add]
theorem stepOk_runG {pr : Nat → Value → World → Prop} {i : Nat} {v : Value} {w' : World} (hw : Region.wanted o (yielded ops a.tmps) = true) (hrun : (execOp a.eval o).run Try.prog w = .ok (.value v) w') (hp : pr i v w') (hb : Below w.heap.size w w') : StepOk Try.prog ops Q pr i o a w := by
  unfold StepOk
  rw [if_pos hw]
  unfold Oper.wp
  rw [hrun]
  exact ⟨v, rfl, hp, hb⟩
theorem stepOk_valG {pr : Nat → Value → World → Prop} {i : Nat} {v : Value} (hw : Region.wanted o (yielded ops a.tmps) = true) (hrun : (execOp a.eval o).run Try.prog w = .ok (.value v) w) (hp : pr i v w) : StepOk Try.prog ops Q pr i o a w := stepOk_runG hw hrun hp (Below.refl _ _)
theorem splice_tab (TL : List Value) (h : TL.length = 72) : splice (cw (List.replicate 72 0)) 0 TL = TL := by
  simp [splice, h]
end
def mkF (gt ga gb gc gd g7 g9 g11 g17 g19 cB c0 : Nat) (B B0 : Option Addr) (a b c d AB CD R : List UInt8) (j : Nat) (x : Value) (w : World) : Prop :=
  match j with
  | 0 => x = .int .i64 0
  | 1 => x = .int .i64 0
  | 2 => x = .int .i64 0
  | 3 => x = .int .i64 0
  | 4 => x = .int .i64 0
  | 5 => x = .bool true
  | 6 => x = .bool true
  | 7 => x = .agg (cb R).toArray
  | 8 => x = .agg (cb a).toArray
  | 9 => x = .agg (cb b).toArray
  | 10 => x = .agg (cb AB).toArray
  | 11 => x = .agg (cb c).toArray
  | 12 => x = .agg (cb d).toArray
  | 13 => x = .agg (cb CD).toArray
  | 14 => x = .agg (cb R).toArray
  | 15 => x = .bool true
  | 16 => x = .bool true
  | 17 => x = .bool true
  | 18 => x = .pointer (some ⟨g9, 0, none⟩)
  | 19 => x = .int .i64 2
  | 20 => x = .bool true
  | 21 => x = .bool true
  | 22 => x = .bool true
  | 23 => x = .pointer (some ⟨g9, 1, none⟩)
  | 24 => x = .slice B 2 cB
  | 25 => x = .agg (cb d).toArray
  | 26 => x = .agg (cb a).toArray
  | 27 => x = .agg (cb b).toArray
  | 28 => x = .agg (cb AB).toArray
  | 29 => ∃ gs, x = .slice (some ⟨gs, 0, none⟩) 2 2 ∧ Digs w (some ⟨gs, 0, none⟩) 2 [d, AB]
  | 30 => x = .bool true
  | 31 => x = .bool true
  | 32 => x = .bool true
  | 33 => x = .agg (cb R).toArray
  | 34 => x = .agg (cb R).toArray
  | 35 => x = .bool true
  | 36 => x = .bool true
  | 37 => x = .bool true
  | 38 => x = .int .i64 2
  | 39 => x = .bool true
  | 40 => x = .bool true
  | 41 => x = .bool true
  | 42 => x = .int .i64 2
  | 43 => x = .bool true
  | 44 => x = .bool true
  | 45 => x = .bool true
  | 46 => x = .int .i64 0
  | 47 => x = .bool true
  | 48 => x = .bool true
  | 49 => x = .bool true
  | 50 => x = .agg (cb a).toArray
  | 51 => x = .agg (cb a).toArray
  | 52 => x = .bool true
  | 53 => x = .bool true
  | 54 => x = .bool true
  | 55 => x = .int .i64 0
  | 56 => x = .bool true
  | 57 => x = .bool true
  | 58 => x = .bool true
  | 59 => x = .pointer (some ⟨g19, 1, none⟩)
  | 60 => x = .slice B0 0 c0
  | 61 => x = .int .i64 0
  | 62 => x = .bool true
  | 63 => x = .bool true
  | _ => True
theorem mkF_stab (gt ga gb gc gd g7 g9 g11 g17 g19 cB c0 : Nat) (B B0 : Option Addr) (a b c d AB CD R : List UInt8) : ∀ j x w w', Below w.heap.size w w' → mkF gt ga gb gc gd g7 g9 g11 g17 g19 cB c0 B B0 a b c d AB CD R j x w → mkF gt ga gb gc gd g7 g9 g11 g17 g19 cB c0 B B0 a b c d AB CD R j x w' := by
  intro j x w w' hb h
  unfold mkF at *
  split at h <;> first | exact h | (obtain ⟨g, e, hP⟩ := h; exact ⟨g, e, hP.step hb⟩) | trivial

def eK (k : UInt8) : List UInt8 := k :: List.replicate 31 0
theorem run_ek (k : UInt8) (z : Value) (h : z = .int .u8 (k.toNat : Int)) (w : World) (hk : (Instr.build 38 #[(0, z)]).run Try.prog w = .ok (.agg (cb (eK k)).toArray) w) : (Instr.build 38 #[(0, z)]).run Try.prog w = .ok (.agg (cb (eK k)).toArray) w := hk
section
variable {w : World}
set_option maxHeartbeats 8000000 in
set_option maxRecDepth 100000 in
theorem awake10_walk (TL : List Value) (hC : TL.length = 72) (hON : ∀ u ∈ TL, u.oneCell' = true) (G : Dg)
    (HT : Hid (∀ w', Calls Try.prog 88 #[] w' fun e w2 => e = .returned (.agg TL.toArray) ∧ Below w'.heap.size w' w2))
    (HG : Hid (∀ (w' : World) (gt base : Nat), Fresh base 26 w' (some ⟨gt, 0, none⟩) 72 72 TL → OfAt w' (some ⟨gt, 0, none⟩) G))
    (a b c d : List UInt8) (ha : a.length = 32) (hb : b.length = 32) (hc : c.length = 32) (hd : d.length = 32)
    (R1 : Hid (∀ w, (Instr.build 38 #[(0, .int .u8 1)]).run Try.prog w = .ok (.agg (cb a).toArray) w)) (R2 : Hid (∀ w, (Instr.build 38 #[(0, .int .u8 2)]).run Try.prog w = .ok (.agg (cb b).toArray) w))
    (R3 : Hid (∀ w, (Instr.build 38 #[(0, .int .u8 3)]).run Try.prog w = .ok (.agg (cb c).toArray) w)) (R4 : Hid (∀ w, (Instr.build 38 #[(0, .int .u8 4)]).run Try.prog w = .ok (.agg (cb d).toArray) w)) :
    Calls Try.prog 87 #[] w fun e w' => e = .returned (.bool true) ∧ Below w.heap.size w w' := by
  have HC := Lib.hid hC
  have HON := Lib.hid hON
  have La := Lib.hid ha
  have Lb := Lib.hid hb
  have Lc := Lib.hid hc
  have Ld := Lib.hid hd
  have hall : ∀ x ∈ [a, b, c, d], x.length = 32 := by
    intro x hx
    simp at hx
    rcases hx with rfl | rfl | rfl | rfl <;> assumption
  have q1 : ∀ (w' : World) (A : Option Addr) (k : Nat) (T : Option Addr), OfAt w' T G → Digs w' A 4 [a, b, c, d] → Calls Try.prog 83 #[.pointer T, .slice A 4 k] w' fun e w2 => e = .returned (.tuple #[.agg (cb (rootF G [a, b, c, d] 2)).toArray, .int .i64 0]) ∧ Below w'.heap.size w' w2 := fun w' A k T h1 h2 => Root_yes h1 A 4 k _ h2 2 (by omega) rfl
  have q2 : ∀ (w' : World) (A : Option Addr) (k : Nat) (T : Option Addr), OfAt w' T G → Digs w' A 4 [a, b, c, d] → Calls Try.prog 84 #[.pointer T, .slice A 4 k, .int .i64 2] w' fun e w2 => ∃ B cB, e = .returned (.tuple #[.agg #[.int .i64 2, .slice B 2 cB], .int .i64 0]) ∧ OwnD w'.heap.size w2 B 2 cB (pathF G [a, b, c, d] 2 2) ∧ Below w'.heap.size w' w2 := fun w' A k T h1 h2 => Path_yes h1 A 4 k _ h2 2 (by omega) rfl 2 (by omega)
  have eR : rootF G [a, b, c, d] 2 = nodeF G (nodeF G a b) (nodeF G c d) := by kernel_rfl
  have eP : pathF G [a, b, c, d] 2 2 = [d, nodeF G a b] := by kernel_rfl
  rw [eR] at q1
  rw [eP] at q2
  have q3 : ∀ (w' : World) (T B : Option Addr) (k : Nat), OfAt w' T G → Digs w' B 2 [d, nodeF G a b] → Calls Try.prog 85 #[.pointer T, .agg (cb c).toArray, .agg #[.int .i64 2, .slice B 2 k]] w' fun e w2 => e = .returned (.tuple #[.agg (cb (nodeF G (nodeF G a b) (nodeF G c d))).toArray, .int .i64 0]) ∧ Below w'.heap.size w' w2 := fun w' T B k h1 h2 => Climb_yes h1 c hc 2 B 2 k _ h2 (by omega) (by omega)
  have q4 : ∀ (w' : World) (T : Option Addr), OfAt w' T G → Calls Try.prog 169 #[.pointer T, .agg (cb a).toArray, .agg (cb b).toArray] w' fun e w2 => e = .returned (.agg (cb (nodeF G a b)).toArray) ∧ Below w'.heap.size w' w2 := fun w' T h => Node_any h a b ha hb
  have q5 : ∀ (w' : World) (T : Option Addr), OfAt w' T G → Calls Try.prog 169 #[.pointer T, .agg (cb c).toArray, .agg (cb d).toArray] w' fun e w2 => e = .returned (.agg (cb (nodeF G c d)).toArray) ∧ Below w'.heap.size w' w2 := fun w' T h => Node_any h c d hc hd
  have q6 : ∀ (w' : World) (T : Option Addr), OfAt w' T G → Calls Try.prog 169 #[.pointer T, .agg (cb (nodeF G a b)).toArray, .agg (cb (nodeF G c d)).toArray] w' fun e w2 => e = .returned (.agg (cb (nodeF G (nodeF G a b) (nodeF G c d))).toArray) ∧ Below w'.heap.size w' w2 := fun w' T h => Node_any h _ _ (len_nodeF _ _ _) (len_nodeF _ _ _)
  obtain ⟨AB, hAB⟩ : ∃ AB, nodeF G a b = AB := ⟨_, rfl⟩
  obtain ⟨CD, hCD⟩ : ∃ CD, nodeF G c d = CD := ⟨_, rfl⟩
  have LAB : Hid (AB.length = 32) := Lib.hid (by rw [← hAB]; exact len_nodeF _ _ _)
  have LCD : Hid (CD.length = 32) := Lib.hid (by rw [← hCD]; exact len_nodeF _ _ _)
  rw [hAB, hCD] at q1 q3 q6
  rw [hAB] at q2 q4
  rw [hCD] at q5
  obtain ⟨R, hR⟩ : ∃ R, nodeF G AB CD = R := ⟨_, rfl⟩
  have LR : Hid (R.length = 32) := Lib.hid (by rw [← hR]; exact len_nodeF _ _ _)
  rw [hR] at q1 q3 q6
  have HR4 : Hid (∀ (w' : World) (A : Option Addr) (T : Option Addr), OfAt w' T G → Digs w' A 4 [a, b, c, d] → Calls Try.prog 83 #[.pointer T, .slice A 4 4] w' fun e w2 => e = .returned (.tuple #[.agg (cb R).toArray, .int .i64 0]) ∧ Below w'.heap.size w' w2) := Lib.hid fun w' A T => q1 w' A 4 T
  have HP4 : Hid (∀ (w' : World) (A : Option Addr) (T : Option Addr), OfAt w' T G → Digs w' A 4 [a, b, c, d] → Calls Try.prog 84 #[.pointer T, .slice A 4 4, .int .i64 2] w' fun e w2 => ∃ B cB, e = .returned (.tuple #[.agg #[.int .i64 2, .slice B 2 cB], .int .i64 0]) ∧ OwnD w'.heap.size w2 B 2 cB [d, AB] ∧ Below w'.heap.size w' w2) := Lib.hid fun w' A T => q2 w' A 4 T
  have HC4 := Lib.hid q3
  have HNab := Lib.hid q4
  have HNcd := Lib.hid q5
  have HNR := Lib.hid q6
  have HN3 : Hid (∀ (w' : World) (A T : Option Addr) (k : Nat), Calls Try.prog 83 #[.pointer T, .slice A 3 k] w' fun e w2 => e = .returned (.tuple #[.agg (cb (List.replicate 32 0)).toArray, .int .i64 2]) ∧ Below w'.heap.size w' w2) := Lib.hid fun w' A T k => Root_no A 3 k (by omega) (by decide)
  have HN0 : Hid (∀ (w' : World) (A T : Option Addr) (k : Nat), Calls Try.prog 83 #[.pointer T, .slice A 0 k] w' fun e w2 => e = .returned (.tuple #[.agg (cb (List.replicate 32 0)).toArray, .int .i64 2]) ∧ Below w'.heap.size w' w2) := Lib.hid fun w' A T k => Root_no A 0 k (by omega) (by decide)
  have HR1 : Hid (∀ (w' : World) (A T : Option Addr) (k : Nat), OfAt w' T G → Digs w' A 1 [a] → Calls Try.prog 83 #[.pointer T, .slice A 1 k] w' fun e w2 => e = .returned (.tuple #[.agg (cb a).toArray, .int .i64 0]) ∧ Below w'.heap.size w' w2) := Lib.hid fun w' A T k h1 h2 => Root_yes h1 A 1 k [a] h2 0 (by omega) rfl
  have HP1 : Hid (∀ (w' : World) (A T : Option Addr) (k : Nat), OfAt w' T G → Digs w' A 1 [a] → Calls Try.prog 84 #[.pointer T, .slice A 1 k, .int .i64 0] w' fun e w2 => ∃ B cB, e = .returned (.tuple #[.agg #[.int .i64 0, .slice B 0 cB], .int .i64 0]) ∧ OwnD w'.heap.size w2 B 0 cB [] ∧ Below w'.heap.size w' w2) := Lib.hid fun w' A T k h1 h2 => Path_yes h1 A 1 k [a] h2 0 (by omega) rfl 0 (by omega)
  clear ha hb hc hd hall q1 q2 q3 q4 q5 q6 eR eP hAB hCD hR hC hON
  go_enter Try.func87, Try.ntmps87
  go_wp2_with (first
    | (go_at_call 88; refine (HT.out _).mono ?_; rintro e w1 ⟨rfl, hB1⟩)
    | (with_reducible refine wpList_alloc (o := ⟨some 1, _, _, _, _, _⟩) rfl 26 rfl (cw (List.replicate 72 0)) (by kernel_rfl) 72 (by simp) (by decide) ?_; intro gt w2 hgt hFt hBt)
    | (with_reducible refine wpList_store rfl rfl (.tmp 1) (.tmp 21) 26 rfl gt 0 _ 26 72 (cw (List.replicate 72 0)) TL rfl rfl 72 HC.out (by kernel_rfl) hFt (by omega) HON.out w1 hBt hgt ?_; intro w3 ft hB3 ho3_ _; have ho3 := Lib.hid ho3_; clear ho3_)
    | (with_reducible refine wpList_is (o := ⟨some 22, _, _, _, _, _⟩) rfl (run_bk1 rfl R1.out) ?_)
    | (with_reducible refine wpList_is (o := ⟨some 23, _, _, _, _, _⟩) rfl (run_bk1 rfl R2.out) ?_)
    | (with_reducible refine wpList_is (o := ⟨some 24, _, _, _, _, _⟩) rfl (run_bk1 rfl R3.out) ?_)
    | (with_reducible refine wpList_is (o := ⟨some 25, _, _, _, _, _⟩) rfl (run_bk1 rfl R4.out) ?_; simp only [Act.put, List.setIfInBounds_toArray, List.set_cons_succ, List.set_cons_zero])
    | (with_reducible refine wpList_alloc (o := ⟨some 2, _, _, _, _, _⟩) rfl 38 rfl (cb (List.replicate 32 0)) (by kernel_rfl) 32 (len_zb 32) (by decide) ?_; intro ga w4 hga hFa hBa)
    | (with_reducible refine wpList_alloc (o := ⟨some 3, _, _, _, _, _⟩) rfl 38 rfl (cb (List.replicate 32 0)) (by kernel_rfl) 32 (len_zb 32) (by decide) ?_; intro gb w5 hgb hFb hBb)
    | (with_reducible refine wpList_alloc (o := ⟨some 4, _, _, _, _, _⟩) rfl 38 rfl (cb (List.replicate 32 0)) (by kernel_rfl) 32 (len_zb 32) (by decide) ?_; intro gc w6 hgc hFc hBc)
    | (with_reducible refine wpList_alloc (o := ⟨some 5, _, _, _, _, _⟩) rfl 38 rfl (cb (List.replicate 32 0)) (by kernel_rfl) 32 (len_zb 32) (by decide) ?_; intro gd w7 hgd hFd hBd; simp only [Act.put, List.setIfInBounds_toArray, List.set_cons_succ, List.set_cons_zero]; have x4 := hBa.size; have x5 := hBb.size; have x6 := hBc.size; have x7 := hBd.size; have la := hFa.lt_size; have lb := hFb.lt_size; have lc := hFc.lt_size; have ld := hFd.lt_size; have hBabcd := Below.then_ (Below.then_ (Below.then_ hBa hBb) hBc) hBd; (have nab : ga ≠ gb := by omega); (have nac : ga ≠ gc := by omega); (have nad : ga ≠ gd := by omega); (have nbc : gb ≠ gc := by omega); (have nbd : gb ≠ gd := by omega); (have ncd : gc ≠ gd := by omega))
    | (with_reducible refine wpList_store rfl rfl (.tmp 2) (.tmp 22) 38 rfl ga 0 _ 38 32 (cb (List.replicate 32 0)) (cb a) rfl rfl 32 (by rw [List.length_map]; exact La.out) (by kernel_rfl) (((hFa.below hBb).below hBc).below hBd) (by omega) (cb_one _) w3 hBabcd (by omega) ?_; intro w8 fa8 hB8 ho8_ _; have ho8 := Lib.hid ho8_; clear ho8_)
    | (with_reducible refine wpList_store rfl rfl (.tmp 3) (.tmp 23) 38 rfl gb 0 _ 38 32 (cb (List.replicate 32 0)) (cb b) rfl rfl 32 (by rw [List.length_map]; exact Lb.out) (by kernel_rfl) (((hFb.below hBc).below hBd).other (Ne.symm nab) ho8.out) (by omega) (cb_one _) w3 hB8 (by omega) ?_; intro w9 fb9 hB9 ho9_ _; have ho9 := Lib.hid ho9_; clear ho9_)
    | (with_reducible refine wpList_store rfl rfl (.tmp 4) (.tmp 24) 38 rfl gc 0 _ 38 32 (cb (List.replicate 32 0)) (cb c) rfl rfl 32 (by rw [List.length_map]; exact Lc.out) (by kernel_rfl) (((hFc.below hBd).other (Ne.symm nac) ho8.out).other (Ne.symm nbc) ho9.out) (by omega) (cb_one _) w3 hB9 (by omega) ?_; intro w10 fc10 hB10 ho10_ _; have ho10 := Lib.hid ho10_; clear ho10_)
    | (with_reducible refine wpList_store rfl rfl (.tmp 5) (.tmp 25) 38 rfl gd 0 _ 38 32 (cb (List.replicate 32 0)) (cb d) rfl rfl 32 (by rw [List.length_map]; exact Ld.out) (by kernel_rfl) (((hFd.other (Ne.symm nad) ho8.out).other (Ne.symm nbd) ho9.out).other (Ne.symm ncd) ho10.out) (by omega) (cb_one _) w3 hB10 (by omega) ?_; intro w11 fd11 hB11 ho11_ _; have ho11 := Lib.hid ho11_; clear ho11_; (rw [splice_32 _ _ List.length_replicate La.out] at fa8); (rw [splice_32 _ _ List.length_replicate Lb.out] at fb9); (rw [splice_32 _ _ List.length_replicate Lc.out] at fc10); (rw [splice_32 _ _ List.length_replicate Ld.out] at fd11); have fa := (((fa8.other nab ho9.out).other nac ho10.out).other nad ho11.out); have fb := ((fb9.other nbc ho10.out).other nbd ho11.out); have fc := (fc10.other ncd ho11.out); have fd := fd11)
    | (with_reducible refine wpList_load (o := ⟨some 26, _, _, _, _, _⟩) rfl (.tmp 2) 38 rfl ga 0 _ rfl (cb a) 32 (by rw [List.length_map]; exact La.out) (by kernel_rfl) fa.sees ?_)
    | (with_reducible refine wpList_load (o := ⟨some 27, _, _, _, _, _⟩) rfl (.tmp 3) 38 rfl gb 0 _ rfl (cb b) 32 (by rw [List.length_map]; exact Lb.out) (by kernel_rfl) fb.sees ?_)
    | (with_reducible refine wpList_load (o := ⟨some 28, _, _, _, _, _⟩) rfl (.tmp 4) 38 rfl gc 0 _ rfl (cb c) 32 (by rw [List.length_map]; exact Lc.out) (by kernel_rfl) fc.sees ?_)
    | (with_reducible refine wpList_load (o := ⟨some 29, _, _, _, _, _⟩) rfl (.tmp 5) 38 rfl gd 0 _ rfl (cb d) 32 (by rw [List.length_map]; exact Ld.out) (by kernel_rfl) fd.sees ?_; simp only [Act.put, List.setIfInBounds_toArray, List.set_cons_succ, List.set_cons_zero])
    | (with_reducible refine wpList_bs4 rfl (.tmp 26) (.tmp 27) (.tmp 28) (.tmp 29) rfl a b c d rfl rfl rfl rfl La.out Lb.out Lc.out Ld.out ?_; intro gl w12 hO hB12))
  rw [splice_tab TL HC.out] at ft
  have hB_3 := Below.then_ (Below.then_ hB1 hB3) (Below.then_ hB11 hB12)
  have ft_3 := (ft.below hB11).below hB12
  have fa_3 := fa.below hB12
  have fb_3 := fb.below hB12
  have fc_3 := fc.below hB12
  have fd_3 := fd.below hB12
  clear hFt hBt hFa hFb hFc hFd hBa hBb hBc hBd hBabcd x4 x5 x6 x7 la lb lc ld nab nac nad nbc nbd ncd ho3 ho8 ho9 ho10 ho11 fa8 fb9 fc10 fd11 hB8 hB9 hB10 hB11 hB12 hB1 hB3 hga hgb hgc hgd hgt ft fa fb fc fd
  have hc3 : ∀ w', (Instr.slice 144 (.slice (some ⟨gl, 0, none⟩) 4 4) none (some (.int .i64 3)) none).run Try.prog w' = .ok (.slice (some ⟨gl, 0, none⟩) 3 4) w' := fun w' => run_cutD _ 4 4 3 (by omega)
  have hc1 : ∀ w', (Instr.slice 144 (.slice (some ⟨gl, 0, none⟩) 4 4) none (some (.int .i64 1)) none).run Try.prog w' = .ok (.slice (some ⟨gl, 0, none⟩) 1 4) w' := fun w' => run_cutD _ 4 4 1 (by omega)
  have hO_3 := hO
  go_wp2_with (first
    | (go_at_call 83; refine (HR4.out _ _ _ (HG.out _ gt _ ft_3) hO_3.digs).mono ?_; rintro e wc4 ⟨rfl, hBc4⟩)
    | (with_reducible refine wpList_alloc (o := ⟨some 7, _, _, _, _, _⟩) rfl 38 rfl (cb (List.replicate 32 0)) (by kernel_rfl) 32 (len_zb 32) (by decide) ?_; intro g7 wa4 hg7 hF4 hBa4)
    | (with_reducible refine wpList_store rfl rfl (.tmp 7) (.tmp 34) 38 rfl g7 0 _ 38 32 (cb (List.replicate 32 0)) (cb R) rfl rfl 32 (by rw [List.length_map]; exact LR.out) (by kernel_rfl) hF4 (by omega) (cb_one _) wc4 hBa4 hg7 ?_; intro ws4 f7_4 hbs4 ho4_ _; have ho4 := Lib.hid ho4_; clear ho4_; (rw [splice_32 _ _ List.length_replicate LR.out] at f7_4); have hBr4 := Below.then_ hBc4 hbs4; have ft_4 := ft_3.below hBr4; have fa_4 := fa_3.below hBr4; have fb_4 := fb_3.below hBr4; have fc_4 := fc_3.below hBr4; have fd_4 := fd_3.below hBr4; have hO_4 := hO_3.below hBr4; have hB_4 := Below.then_ hB_3 hBr4))
  clear hF4 hBa4 ho4 hBr4 hBc4 hbs4 hB_3 hg7 ft_3 fa_3 fb_3 fc_3 fd_3 hO_3
  go_wp2_with (first
    | (go_at_call 84; refine (HP4.out _ _ _ (HG.out _ gt _ ft_4) hO_4.digs).mono ?_; rintro e wc5 ⟨B, cB, rfl, hOB, hBc5⟩)
    | (with_reducible refine wpList_alloc (o := ⟨some 9, _, _, _, _, _⟩) rfl 149 rfl zPath (by kernel_rfl) 2 rfl (by decide) ?_; intro g9 wa5 hg9 hF5 hBa5)
    | (with_reducible refine wpList_store rfl rfl (.tmp 9) (.tmp 39) 149 rfl g9 0 _ 149 2 zPath [.int .i64 2, .slice B 2 cB] rfl rfl 2 rfl (by kernel_rfl) hF5 (by omega) (allOne_out (by kernel_rfl)) wc5 hBa5 hg9 ?_; intro ws5 f9_5 hbs5 ho5_ _; have ho5 := Lib.hid ho5_; clear ho5_; (rw [splice_pa _ _ rfl rfl] at f9_5); have hBr5 := Below.then_ hBc5 hbs5; have ft_5 := ft_4.below hBr5; have fa_5 := fa_4.below hBr5; have fb_5 := fb_4.below hBr5; have fc_5 := fc_4.below hBr5; have fd_5 := fd_4.below hBr5; have hO_5 := hO_4.below hBr5; have f7_5 := f7_4.below hBr5; have hOB2_5 := hOB.below hbs5; have hB_5 := Below.then_ hB_4 hBr5)
    | (with_reducible refine wpList_load (o := ⟨some 42, _, _, _, _, _⟩) rfl (.tmp 4) 38 rfl gc 0 _ rfl (cb c) 32 (by rw [List.length_map]; exact Lc.out) (by kernel_rfl) fc_5.sees ?_)
    | (with_reducible refine wpList_load (o := ⟨some 43, _, _, _, _, _⟩) rfl (.tmp 9) 149 rfl g9 0 _ rfl [.int .i64 2, .slice B 2 cB] 2 rfl (by kernel_rfl) f9_5.sees ?_))
  clear hF5 hBa5 ho5 hBr5 hBc5 hbs5 hB_4 hg9 ft_4 fa_4 fb_4 fc_4 fd_4 hO_4 f7_4
  go_wp2_with (first
    | (go_at_call 85; refine (HC4.out _ _ _ _ (HG.out _ gt _ ft_5) hOB2_5.digs).mono ?_; rintro e wc6 ⟨rfl, hBc6⟩)
    | (with_reducible refine wpList_alloc (o := ⟨some 11, _, _, _, _, _⟩) rfl 38 rfl (cb (List.replicate 32 0)) (by kernel_rfl) 32 (len_zb 32) (by decide) ?_; intro g11 wa6 hg11 hF6 hBa6)
    | (with_reducible refine wpList_store rfl rfl (.tmp 11) (.tmp 45) 38 rfl g11 0 _ 38 32 (cb (List.replicate 32 0)) (cb R) rfl rfl 32 (by rw [List.length_map]; exact LR.out) (by kernel_rfl) hF6 (by omega) (cb_one _) wc6 hBa6 hg11 ?_; intro ws6 f11_6 hbs6 ho6_ _; have ho6 := Lib.hid ho6_; clear ho6_; (rw [splice_32 _ _ List.length_replicate LR.out] at f11_6); have hBr6 := Below.then_ hBc6 hbs6; have ft_6 := ft_5.below hBr6; have fa_6 := fa_5.below hBr6; have fb_6 := fb_5.below hBr6; have fc_6 := fc_5.below hBr6; have fd_6 := fd_5.below hBr6; have hO_6 := hO_5.below hBr6; have f7_6 := f7_5.below hBr6; have f9_6 := f9_5.below hBr6; have hOB2_6 := hOB2_5.below hBr6; have hB_6 := Below.then_ hB_5 hBr6))
  clear hF6 hBa6 ho6 hBr6 hBc6 hbs6 hB_5 hg11 ft_5 fa_5 fb_5 fc_5 fd_5 hO_5 f7_5 f9_5 hOB2_5
  go_wp2_with (first
    | (go_at_call 83; with_reducible refine (HN3.out _ _ _ _).mono ?_; rintro e wc7 ⟨rfl, hBc7⟩)
    | (with_reducible refine wpList_alloc (o := ⟨some 13, _, _, _, _, _⟩) rfl 38 rfl (cb (List.replicate 32 0)) (by kernel_rfl) 32 (len_zb 32) (by decide) ?_; intro g13 wa7 hg13 hF7 hBa7)
    | (with_reducible refine wpList_store rfl rfl (.tmp 13) (.tmp 51) 38 rfl g13 0 _ 38 32 (cb (List.replicate 32 0)) (cb (List.replicate 32 0)) rfl rfl 32 (len_zb 32) (by kernel_rfl) hF7 (by omega) (cb_one _) wc7 hBa7 hg13 ?_; intro ws7 f13_7 hbs7 ho7_ _; have ho7 := Lib.hid ho7_; clear ho7_; (rw [splice_32 _ _ List.length_replicate List.length_replicate] at f13_7); have hBr7 := Below.then_ hBc7 hbs7; have ft_7 := ft_6.below hBr7; have fa_7 := fa_6.below hBr7; have fb_7 := fb_6.below hBr7; have fc_7 := fc_6.below hBr7; have fd_7 := fd_6.below hBr7; have hO_7 := hO_6.below hBr7; have f7_7 := f7_6.below hBr7; have f9_7 := f9_6.below hBr7; have hOB2_7 := hOB2_6.below hBr7; have f11_7 := f11_6.below hBr7; have hB_7 := Below.then_ hB_6 hBr7))
  clear hF7 hBa7 ho7 hBr7 hBc7 hbs7 hB_6 hg13 ft_6 fa_6 fb_6 fc_6 fd_6 hO_6 f7_6 f9_6 hOB2_6 f11_6
  go_wp2_with (first
    | (go_at_call 83; with_reducible refine (HN0.out _ _ _ _).mono ?_; rintro e wc8 ⟨rfl, hBc8⟩)
    | (with_reducible refine wpList_alloc (o := ⟨some 15, _, _, _, _, _⟩) rfl 38 rfl (cb (List.replicate 32 0)) (by kernel_rfl) 32 (len_zb 32) (by decide) ?_; intro g15 wa8 hg15 hF8 hBa8)
    | (with_reducible refine wpList_store rfl rfl (.tmp 15) (.tmp 55) 38 rfl g15 0 _ 38 32 (cb (List.replicate 32 0)) (cb (List.replicate 32 0)) rfl rfl 32 (len_zb 32) (by kernel_rfl) hF8 (by omega) (cb_one _) wc8 hBa8 hg15 ?_; intro ws8 f15_8 hbs8 ho8_ _; have ho8 := Lib.hid ho8_; clear ho8_; (rw [splice_32 _ _ List.length_replicate List.length_replicate] at f15_8); have hBr8 := Below.then_ hBc8 hbs8; have ft_8 := ft_7.below hBr8; have fa_8 := fa_7.below hBr8; have fb_8 := fb_7.below hBr8; have fc_8 := fc_7.below hBr8; have fd_8 := fd_7.below hBr8; have hO_8 := hO_7.below hBr8; have f7_8 := f7_7.below hBr8; have f9_8 := f9_7.below hBr8; have hOB2_8 := hOB2_7.below hBr8; have f11_8 := f11_7.below hBr8; have f13_8 := f13_7.below hBr8; have hB_8 := Below.then_ hB_7 hBr8))
  clear hF8 hBa8 ho8 hBr8 hBc8 hbs8 hB_7 hg15 ft_7 fa_7 fb_7 fc_7 fd_7 hO_7 f7_7 f9_7 hOB2_7 f11_7 f13_7
  go_wp2_with (first
    | (go_at_call 83; refine (HR1.out _ _ _ _ (HG.out _ gt _ ft_8) (hO_8.digs.take_ (k := 1) (by omega))).mono ?_; rintro e wc9 ⟨rfl, hBc9⟩)
    | (with_reducible refine wpList_alloc (o := ⟨some 17, _, _, _, _, _⟩) rfl 38 rfl (cb (List.replicate 32 0)) (by kernel_rfl) 32 (len_zb 32) (by decide) ?_; intro g17 wa9 hg17 hF9 hBa9)
    | (with_reducible refine wpList_store rfl rfl (.tmp 17) (.tmp 61) 38 rfl g17 0 _ 38 32 (cb (List.replicate 32 0)) (cb a) rfl rfl 32 (by rw [List.length_map]; exact La.out) (by kernel_rfl) hF9 (by omega) (cb_one _) wc9 hBa9 hg17 ?_; intro ws9 f17_9 hbs9 ho9_ _; have ho9 := Lib.hid ho9_; clear ho9_; (rw [splice_32 _ _ List.length_replicate La.out] at f17_9); have hBr9 := Below.then_ hBc9 hbs9; have ft_9 := ft_8.below hBr9; have fa_9 := fa_8.below hBr9; have fb_9 := fb_8.below hBr9; have fc_9 := fc_8.below hBr9; have fd_9 := fd_8.below hBr9; have hO_9 := hO_8.below hBr9; have f7_9 := f7_8.below hBr9; have f9_9 := f9_8.below hBr9; have hOB2_9 := hOB2_8.below hBr9; have f11_9 := f11_8.below hBr9; have f13_9 := f13_8.below hBr9; have f15_9 := f15_8.below hBr9; have hB_9 := Below.then_ hB_8 hBr9))
  clear hF9 hBa9 ho9 hBr9 hBc9 hbs9 hB_8 hg17 ft_8 fa_8 fb_8 fc_8 fd_8 hO_8 f7_8 f9_8 hOB2_8 f11_8 f13_8 f15_8
  go_wp2_with (first
    | (go_at_call 84; refine (HP1.out _ _ _ _ (HG.out _ gt _ ft_9) (hO_9.digs.take_ (k := 1) (by omega))).mono ?_; rintro e wc10 ⟨B0, c0, rfl, hO0, hBc10⟩)
    | (with_reducible refine wpList_alloc (o := ⟨some 19, _, _, _, _, _⟩) rfl 149 rfl zPath (by kernel_rfl) 2 rfl (by decide) ?_; intro g19 wa10 hg19 hF10 hBa10)
    | (with_reducible refine wpList_store rfl rfl (.tmp 19) (.tmp 67) 149 rfl g19 0 _ 149 2 zPath [.int .i64 0, .slice B0 0 c0] rfl rfl 2 rfl (by kernel_rfl) hF10 (by omega) (allOne_out (by kernel_rfl)) wc10 hBa10 hg19 ?_; intro ws10 f19_10 hbs10 ho10_ _; have ho10 := Lib.hid ho10_; clear ho10_; (rw [splice_pa _ _ rfl rfl] at f19_10); have hBr10 := Below.then_ hBc10 hbs10; have ft_10 := ft_9.below hBr10; have fa_10 := fa_9.below hBr10; have fb_10 := fb_9.below hBr10; have fc_10 := fc_9.below hBr10; have fd_10 := fd_9.below hBr10; have hO_10 := hO_9.below hBr10; have f7_10 := f7_9.below hBr10; have f9_10 := f9_9.below hBr10; have hOB2_10 := hOB2_9.below hBr10; have f11_10 := f11_9.below hBr10; have f13_10 := f13_9.below hBr10; have f15_10 := f15_9.below hBr10; have f17_10 := f17_9.below hBr10; have hB_10 := Below.then_ hB_9 hBr10))
  clear hF10 hBa10 ho10 hBr10 hBc10 hbs10 hB_9 hg19 ft_9 fa_9 fb_9 fc_9 fd_9 hO_9 f7_9 f9_9 hOB2_9 f11_9 f13_9 f15_9 f17_9
  have hall2 : Hid (∀ v ∈ [d, AB], v.length = 32) := Lib.hid (fun v hv => by simp at hv; rcases hv with rfl | rfl; exact Ld.out; exact LAB.out)
  refine region_all_tail 64 (mkF gt ga gb gc gd g7 g9 g11 g17 g19 cB c0 B B0 a b c d AB CD R) (by kernel_rfl) (by kernel_rfl) (by kernel_rfl) (mkF_stab _ _ _ _ _ _ _ _ _ _ _ _ _ _ _ _ _ _ _ _ _) ?_ ?_
  · intro w0 hb0
    simp only [List.append_eq, List.cons_append, List.nil_append, List.take_succ_cons, List.take_zero]
    refine ⟨?_, ?_, ?_, ?_, ?_, ?_, ?_, ?_, ?_, ?_, ?_, ?_, ?_, ?_, ?_, ?_, ?_, ?_, ?_, ?_, ?_, ?_, ?_, ?_, ?_, ?_, ?_, ?_, ?_, ?_, ?_, ?_, ?_, ?_, ?_, ?_, ?_, ?_, ?_, ?_, ?_, ?_, ?_, ?_, ?_, ?_, ?_, ?_, ?_, ?_, ?_, ?_, ?_, ?_, ?_, ?_, ?_, ?_, ?_, ?_, ?_, ?_, ?_, ?_, trivial⟩
    all_goals intro listed a1 w' hk1 hd1
    · have f8_ : a1.eval (.tmp 8) = .int .i64 0 := hk1.ev_old 8 (by kernel_rfl)
      have g8_ : a1.tmps[8]?.getD undef = .int .i64 0 := by simpa [Act.eval] using f8_
      exact stepOk_value rfl (v := .int .i64 0) (by go_simp) rfl
    · have f10_ : a1.eval (.tmp 10) = .int .i64 0 := hk1.ev_old 10 (by kernel_rfl)
      have g10_ : a1.tmps[10]?.getD undef = .int .i64 0 := by simpa [Act.eval] using f10_
      exact stepOk_value rfl (v := .int .i64 0) (by go_simp) rfl
    · obtain ⟨y0, e0, q0, rfl⟩ := hk1.ev_new hd1 0 69 (by kernel_rfl) rfl
      obtain ⟨y1, e1, q1, rfl⟩ := hk1.ev_new hd1 1 70 (by kernel_rfl) rfl
      have w00 : IntKind.i64.wrap 0 = 0 := by decide
      exact stepOk_value rfl (v := .int .i64 0) (by go_simp) rfl
    · have f12_ : a1.eval (.tmp 12) = .int .i64 0 := hk1.ev_old 12 (by kernel_rfl)
      have g12_ : a1.tmps[12]?.getD undef = .int .i64 0 := by simpa [Act.eval] using f12_
      exact stepOk_value rfl (v := .int .i64 0) (by go_simp) rfl
    · obtain ⟨y2, e2, q2, rfl⟩ := hk1.ev_new hd1 2 71 (by kernel_rfl) rfl
      obtain ⟨y3, e3, q3, rfl⟩ := hk1.ev_new hd1 3 72 (by kernel_rfl) rfl
      have w00 : IntKind.i64.wrap 0 = 0 := by decide
      exact stepOk_value rfl (v := .int .i64 0) (by go_simp) rfl
    · obtain ⟨y4, e4, q4, rfl⟩ := hk1.ev_new hd1 4 73 (by kernel_rfl) rfl
      exact stepOk_value rfl (v := .bool true) (by go_simp) rfl
    · obtain ⟨y5, e5, q5, rfl⟩ := hk1.ev_new hd1 5 74 (by kernel_rfl) rfl
      exact stepOk_value rfl (v := .bool true) (by go_simp) rfl
    · obtain ⟨y6, e6, q6, rfl⟩ := hk1.ev_new hd1 6 75 (by kernel_rfl) rfl
      have f7_ : a1.eval (.tmp 7) = .pointer (some ⟨g7, 0, none⟩) := hk1.ev_old 7 (by kernel_rfl)
      have g7_ : a1.tmps[7]?.getD undef = .pointer (some ⟨g7, 0, none⟩) := by simpa [Act.eval] using f7_
      exact stepOk_valG (wanted_at (t := 75) rfl rfl q6) (run_load_agg (.tmp 7) 38 rfl (hk1.ev_old 7 (by kernel_rfl)) (cb R) 32 (by rw [List.length_map]; exact LR.out) (by kernel_rfl) ((f7_10.below hb0).below hk1.below).sees) rfl
    · obtain ⟨y6, e6, q6, rfl⟩ := hk1.ev_new hd1 6 75 (by kernel_rfl) rfl
      have f2_ : a1.eval (.tmp 2) = .pointer (some ⟨ga, 0, none⟩) := hk1.ev_old 2 (by kernel_rfl)
      have g2_ : a1.tmps[2]?.getD undef = .pointer (some ⟨ga, 0, none⟩) := by simpa [Act.eval] using f2_
      exact stepOk_valG (wanted_at (t := 75) rfl rfl q6) (run_load_agg (.tmp 2) 38 rfl (hk1.ev_old 2 (by kernel_rfl)) (cb a) 32 (by rw [List.length_map]; exact La.out) (by kernel_rfl) ((fa_10.below hb0).below hk1.below).sees) rfl
    · obtain ⟨y6, e6, q6, rfl⟩ := hk1.ev_new hd1 6 75 (by kernel_rfl) rfl
      have f3_ : a1.eval (.tmp 3) = .pointer (some ⟨gb, 0, none⟩) := hk1.ev_old 3 (by kernel_rfl)
      have g3_ : a1.tmps[3]?.getD undef = .pointer (some ⟨gb, 0, none⟩) := by simpa [Act.eval] using f3_
      exact stepOk_valG (wanted_at (t := 75) rfl rfl q6) (run_load_agg (.tmp 3) 38 rfl (hk1.ev_old 3 (by kernel_rfl)) (cb b) 32 (by rw [List.length_map]; exact Lb.out) (by kernel_rfl) ((fb_10.below hb0).below hk1.below).sees) rfl
    · obtain ⟨y6, e6, q6, rfl⟩ := hk1.ev_new hd1 6 75 (by kernel_rfl) rfl
      have f1_ : a1.eval (.tmp 1) = .pointer (some ⟨gt, 0, none⟩) := hk1.ev_old 1 (by kernel_rfl)
      have g1_ : a1.tmps[1]?.getD undef = .pointer (some ⟨gt, 0, none⟩) := by simpa [Act.eval] using f1_
      obtain ⟨y8, e8, q8, rfl⟩ := hk1.ev_new hd1 8 77 (by kernel_rfl) rfl
      obtain ⟨y9, e9, q9, rfl⟩ := hk1.ev_new hd1 9 78 (by kernel_rfl) rfl
      refine stepOk_enter (wanted_at (t := 75) rfl rfl q6) (f := 169) (args := #[.pointer (some ⟨gt, 0, none⟩), .agg (cb a).toArray, .agg (cb b).toArray]) (by go_simp) ?_
      have ho := HNab.out _ _ (HG.out _ gt _ ((ft_10.below hb0).below hk1.below))
      refine ho.mono ?_
      rintro e w5 ⟨rfl, hB5⟩
      exact ⟨_, rfl, rfl, hB5⟩
    · obtain ⟨y6, e6, q6, rfl⟩ := hk1.ev_new hd1 6 75 (by kernel_rfl) rfl
      have f4_ : a1.eval (.tmp 4) = .pointer (some ⟨gc, 0, none⟩) := hk1.ev_old 4 (by kernel_rfl)
      have g4_ : a1.tmps[4]?.getD undef = .pointer (some ⟨gc, 0, none⟩) := by simpa [Act.eval] using f4_
      exact stepOk_valG (wanted_at (t := 75) rfl rfl q6) (run_load_agg (.tmp 4) 38 rfl (hk1.ev_old 4 (by kernel_rfl)) (cb c) 32 (by rw [List.length_map]; exact Lc.out) (by kernel_rfl) ((fc_10.below hb0).below hk1.below).sees) rfl
    · obtain ⟨y6, e6, q6, rfl⟩ := hk1.ev_new hd1 6 75 (by kernel_rfl) rfl
      have f5_ : a1.eval (.tmp 5) = .pointer (some ⟨gd, 0, none⟩) := hk1.ev_old 5 (by kernel_rfl)
      have g5_ : a1.tmps[5]?.getD undef = .pointer (some ⟨gd, 0, none⟩) := by simpa [Act.eval] using f5_
      exact stepOk_valG (wanted_at (t := 75) rfl rfl q6) (run_load_agg (.tmp 5) 38 rfl (hk1.ev_old 5 (by kernel_rfl)) (cb d) 32 (by rw [List.length_map]; exact Ld.out) (by kernel_rfl) ((fd_10.below hb0).below hk1.below).sees) rfl
    · obtain ⟨y6, e6, q6, rfl⟩ := hk1.ev_new hd1 6 75 (by kernel_rfl) rfl
      have f1_ : a1.eval (.tmp 1) = .pointer (some ⟨gt, 0, none⟩) := hk1.ev_old 1 (by kernel_rfl)
      have g1_ : a1.tmps[1]?.getD undef = .pointer (some ⟨gt, 0, none⟩) := by simpa [Act.eval] using f1_
      obtain ⟨y11, e11, q11, rfl⟩ := hk1.ev_new hd1 11 80 (by kernel_rfl) rfl
      obtain ⟨y12, e12, q12, rfl⟩ := hk1.ev_new hd1 12 81 (by kernel_rfl) rfl
      refine stepOk_enter (wanted_at (t := 75) rfl rfl q6) (f := 169) (args := #[.pointer (some ⟨gt, 0, none⟩), .agg (cb c).toArray, .agg (cb d).toArray]) (by go_simp) ?_
      have ho := HNcd.out _ _ (HG.out _ gt _ ((ft_10.below hb0).below hk1.below))
      refine ho.mono ?_
      rintro e w5 ⟨rfl, hB5⟩
      exact ⟨_, rfl, rfl, hB5⟩
    · obtain ⟨y6, e6, q6, rfl⟩ := hk1.ev_new hd1 6 75 (by kernel_rfl) rfl
      have f1_ : a1.eval (.tmp 1) = .pointer (some ⟨gt, 0, none⟩) := hk1.ev_old 1 (by kernel_rfl)
      have g1_ : a1.tmps[1]?.getD undef = .pointer (some ⟨gt, 0, none⟩) := by simpa [Act.eval] using f1_
      obtain ⟨y10, e10, q10, rfl⟩ := hk1.ev_new hd1 10 79 (by kernel_rfl) rfl
      obtain ⟨y13, e13, q13, rfl⟩ := hk1.ev_new hd1 13 82 (by kernel_rfl) rfl
      refine stepOk_enter (wanted_at (t := 75) rfl rfl q6) (f := 169) (args := #[.pointer (some ⟨gt, 0, none⟩), .agg (cb AB).toArray, .agg (cb CD).toArray]) (by go_simp) ?_
      have ho := HNR.out _ _ (HG.out _ gt _ ((ft_10.below hb0).below hk1.below))
      refine ho.mono ?_
      rintro e w5 ⟨rfl, hB5⟩
      exact ⟨_, rfl, rfl, hB5⟩
    · obtain ⟨y6, e6, q6, rfl⟩ := hk1.ev_new hd1 6 75 (by kernel_rfl) rfl
      obtain ⟨y7, e7, q7, rfl⟩ := hk1.ev_new hd1 7 76 (by kernel_rfl) rfl
      obtain ⟨y14, e14, q14, rfl⟩ := hk1.ev_new hd1 14 83 (by kernel_rfl) rfl
      exact stepOk_valG (wanted_at (t := 75) rfl rfl q6) (run_eq32b (.tmp 76) (.tmp 83) _ rfl R R e7 e14 LR.out LR.out) (by show Value.bool (R == R) = _; simp)
    · obtain ⟨y6, e6, q6, rfl⟩ := hk1.ev_new hd1 6 75 (by kernel_rfl) rfl
      obtain ⟨y15, e15, q15, rfl⟩ := hk1.ev_new hd1 15 84 (by kernel_rfl) rfl
      exact stepOk_value rfl (v := .bool true) (by go_simp) rfl
    · obtain ⟨y16, e16, q16, rfl⟩ := hk1.ev_new hd1 16 85 (by kernel_rfl) rfl
      exact stepOk_value rfl (v := .bool true) (by go_simp) rfl
    · obtain ⟨y17, e17, q17, rfl⟩ := hk1.ev_new hd1 17 86 (by kernel_rfl) rfl
      have f9_ : a1.eval (.tmp 9) = .pointer (some ⟨g9, 0, none⟩) := hk1.ev_old 9 (by kernel_rfl)
      have g9_ : a1.tmps[9]?.getD undef = .pointer (some ⟨g9, 0, none⟩) := by simpa [Act.eval] using f9_
      exact stepOk_valG (wanted_at (t := 86) rfl rfl q17) (v := .pointer (some ⟨g9, 0, none⟩)) (by go_simp) rfl
    · obtain ⟨y17, e17, q17, rfl⟩ := hk1.ev_new hd1 17 86 (by kernel_rfl) rfl
      obtain ⟨y18, e18, q18, rfl⟩ := hk1.ev_new hd1 18 87 (by kernel_rfl) rfl
      have kc : w'.cell? ⟨g9, 0, none⟩ = some (.int .i64 2) := ((f9_10.below hb0).below hk1.below).cell_ rfl
      exact stepOk_valG (wanted_at (t := 86) rfl rfl q17) (v := .int .i64 2) (by go_simp) rfl
    · obtain ⟨y17, e17, q17, rfl⟩ := hk1.ev_new hd1 17 86 (by kernel_rfl) rfl
      obtain ⟨y19, e19, q19, rfl⟩ := hk1.ev_new hd1 19 88 (by kernel_rfl) rfl
      exact stepOk_valG (wanted_at (t := 86) rfl rfl q17) (v := .bool true) (by go_simp) rfl
    · obtain ⟨y17, e17, q17, rfl⟩ := hk1.ev_new hd1 17 86 (by kernel_rfl) rfl
      obtain ⟨y20, e20, q20, rfl⟩ := hk1.ev_new hd1 20 89 (by kernel_rfl) rfl
      exact stepOk_value rfl (v := .bool true) (by go_simp) rfl
    · obtain ⟨y21, e21, q21, rfl⟩ := hk1.ev_new hd1 21 90 (by kernel_rfl) rfl
      exact stepOk_value rfl (v := .bool true) (by go_simp) rfl
    · obtain ⟨y22, e22, q22, rfl⟩ := hk1.ev_new hd1 22 91 (by kernel_rfl) rfl
      have f9_ : a1.eval (.tmp 9) = .pointer (some ⟨g9, 0, none⟩) := hk1.ev_old 9 (by kernel_rfl)
      have g9_ : a1.tmps[9]?.getD undef = .pointer (some ⟨g9, 0, none⟩) := by simpa [Act.eval] using f9_
      exact stepOk_valG (wanted_at (t := 91) rfl rfl q22) (v := .pointer (some ⟨g9, 1, none⟩)) (by go_simp) rfl
    · obtain ⟨y22, e22, q22, rfl⟩ := hk1.ev_new hd1 22 91 (by kernel_rfl) rfl
      obtain ⟨y23, e23, q23, rfl⟩ := hk1.ev_new hd1 23 92 (by kernel_rfl) rfl
      have kc : w'.cell? ⟨g9, 1, none⟩ = some (.slice B 2 cB) := ((f9_10.below hb0).below hk1.below).cell_ rfl
      exact stepOk_valG (wanted_at (t := 91) rfl rfl q22) (v := .slice B 2 cB) (by go_simp) rfl
    · obtain ⟨y22, e22, q22, rfl⟩ := hk1.ev_new hd1 22 91 (by kernel_rfl) rfl
      have f5_ : a1.eval (.tmp 5) = .pointer (some ⟨gd, 0, none⟩) := hk1.ev_old 5 (by kernel_rfl)
      have g5_ : a1.tmps[5]?.getD undef = .pointer (some ⟨gd, 0, none⟩) := by simpa [Act.eval] using f5_
      exact stepOk_valG (wanted_at (t := 91) rfl rfl q22) (run_load_agg (.tmp 5) 38 rfl (hk1.ev_old 5 (by kernel_rfl)) (cb d) 32 (by rw [List.length_map]; exact Ld.out) (by kernel_rfl) ((fd_10.below hb0).below hk1.below).sees) rfl
    · obtain ⟨y22, e22, q22, rfl⟩ := hk1.ev_new hd1 22 91 (by kernel_rfl) rfl
      have f2_ : a1.eval (.tmp 2) = .pointer (some ⟨ga, 0, none⟩) := hk1.ev_old 2 (by kernel_rfl)
      have g2_ : a1.tmps[2]?.getD undef = .pointer (some ⟨ga, 0, none⟩) := by simpa [Act.eval] using f2_
      exact stepOk_valG (wanted_at (t := 91) rfl rfl q22) (run_load_agg (.tmp 2) 38 rfl (hk1.ev_old 2 (by kernel_rfl)) (cb a) 32 (by rw [List.length_map]; exact La.out) (by kernel_rfl) ((fa_10.below hb0).below hk1.below).sees) rfl
    · obtain ⟨y22, e22, q22, rfl⟩ := hk1.ev_new hd1 22 91 (by kernel_rfl) rfl
      have f3_ : a1.eval (.tmp 3) = .pointer (some ⟨gb, 0, none⟩) := hk1.ev_old 3 (by kernel_rfl)
      have g3_ : a1.tmps[3]?.getD undef = .pointer (some ⟨gb, 0, none⟩) := by simpa [Act.eval] using f3_
      exact stepOk_valG (wanted_at (t := 91) rfl rfl q22) (run_load_agg (.tmp 3) 38 rfl (hk1.ev_old 3 (by kernel_rfl)) (cb b) 32 (by rw [List.length_map]; exact Lb.out) (by kernel_rfl) ((fb_10.below hb0).below hk1.below).sees) rfl
    · obtain ⟨y22, e22, q22, rfl⟩ := hk1.ev_new hd1 22 91 (by kernel_rfl) rfl
      have f1_ : a1.eval (.tmp 1) = .pointer (some ⟨gt, 0, none⟩) := hk1.ev_old 1 (by kernel_rfl)
      have g1_ : a1.tmps[1]?.getD undef = .pointer (some ⟨gt, 0, none⟩) := by simpa [Act.eval] using f1_
      obtain ⟨y26, e26, q26, rfl⟩ := hk1.ev_new hd1 26 95 (by kernel_rfl) rfl
      obtain ⟨y27, e27, q27, rfl⟩ := hk1.ev_new hd1 27 96 (by kernel_rfl) rfl
      refine stepOk_enter (wanted_at (t := 91) rfl rfl q22) (f := 169) (args := #[.pointer (some ⟨gt, 0, none⟩), .agg (cb a).toArray, .agg (cb b).toArray]) (by go_simp) ?_
      have ho := HNab.out _ _ (HG.out _ gt _ ((ft_10.below hb0).below hk1.below))
      refine ho.mono ?_
      rintro e w5 ⟨rfl, hB5⟩
      exact ⟨_, rfl, rfl, hB5⟩
    · obtain ⟨y22, e22, q22, rfl⟩ := hk1.ev_new hd1 22 91 (by kernel_rfl) rfl
      obtain ⟨y25, e25, q25, rfl⟩ := hk1.ev_new hd1 25 94 (by kernel_rfl) rfl
      obtain ⟨y28, e28, q28, rfl⟩ := hk1.ev_new hd1 28 97 (by kernel_rfl) rfl
      exact stepOk_runG (wanted_at (t := 91) rfl rfl q22) (exec_bs2 (.tmp 94) (.tmp 97) rfl d AB e25 e28 Ld.out LAB.out) ⟨_, rfl, (own_new w' [d, AB] hall2.out 2 rfl (by omega)).digs⟩ (below_alloc _ _)
    · obtain ⟨y22, e22, q22, rfl⟩ := hk1.ev_new hd1 22 91 (by kernel_rfl) rfl
      obtain ⟨y24, e24, q24, rfl⟩ := hk1.ev_new hd1 24 93 (by kernel_rfl) rfl
      obtain ⟨y29, e29, r29, q29⟩ := hk1.ev_new hd1 29 98 (by kernel_rfl) rfl
      obtain ⟨gs, rfl, hds⟩ := q29
      refine stepOk_enter (wanted_at (t := 91) rfl rfl q22) (f := 170) (args := #[.slice B 2 cB, .slice (some ⟨gs, 0, none⟩) 2 2]) (by go_simp) ?_
      have ho := SameDigests_same B (some ⟨gs, 0, none⟩) 2 cB 2 [d, AB] ((hOB2_10.below hb0).below hk1.below).digs hds (by omega)
      refine ho.mono ?_
      rintro e w5 ⟨rfl, hB5⟩
      exact ⟨_, rfl, rfl, hB5⟩
    · obtain ⟨y22, e22, q22, rfl⟩ := hk1.ev_new hd1 22 91 (by kernel_rfl) rfl
      obtain ⟨y30, e30, q30, rfl⟩ := hk1.ev_new hd1 30 99 (by kernel_rfl) rfl
      exact stepOk_value rfl (v := .bool true) (by go_simp) rfl
    · obtain ⟨y31, e31, q31, rfl⟩ := hk1.ev_new hd1 31 100 (by kernel_rfl) rfl
      exact stepOk_value rfl (v := .bool true) (by go_simp) rfl
    · obtain ⟨y32, e32, q32, rfl⟩ := hk1.ev_new hd1 32 101 (by kernel_rfl) rfl
      have f11_ : a1.eval (.tmp 11) = .pointer (some ⟨g11, 0, none⟩) := hk1.ev_old 11 (by kernel_rfl)
      have g11_ : a1.tmps[11]?.getD undef = .pointer (some ⟨g11, 0, none⟩) := by simpa [Act.eval] using f11_
      exact stepOk_valG (wanted_at (t := 101) rfl rfl q32) (run_load_agg (.tmp 11) 38 rfl (hk1.ev_old 11 (by kernel_rfl)) (cb R) 32 (by rw [List.length_map]; exact LR.out) (by kernel_rfl) ((f11_10.below hb0).below hk1.below).sees) rfl
    · obtain ⟨y32, e32, q32, rfl⟩ := hk1.ev_new hd1 32 101 (by kernel_rfl) rfl
      have f7_ : a1.eval (.tmp 7) = .pointer (some ⟨g7, 0, none⟩) := hk1.ev_old 7 (by kernel_rfl)
      have g7_ : a1.tmps[7]?.getD undef = .pointer (some ⟨g7, 0, none⟩) := by simpa [Act.eval] using f7_
      exact stepOk_valG (wanted_at (t := 101) rfl rfl q32) (run_load_agg (.tmp 7) 38 rfl (hk1.ev_old 7 (by kernel_rfl)) (cb R) 32 (by rw [List.length_map]; exact LR.out) (by kernel_rfl) ((f7_10.below hb0).below hk1.below).sees) rfl
    · obtain ⟨y32, e32, q32, rfl⟩ := hk1.ev_new hd1 32 101 (by kernel_rfl) rfl
      obtain ⟨y33, e33, q33, rfl⟩ := hk1.ev_new hd1 33 102 (by kernel_rfl) rfl
      obtain ⟨y34, e34, q34, rfl⟩ := hk1.ev_new hd1 34 103 (by kernel_rfl) rfl
      exact stepOk_valG (wanted_at (t := 101) rfl rfl q32) (run_eq32b (.tmp 102) (.tmp 103) _ rfl R R e33 e34 LR.out LR.out) (by show Value.bool (R == R) = _; simp)
    · obtain ⟨y32, e32, q32, rfl⟩ := hk1.ev_new hd1 32 101 (by kernel_rfl) rfl
      obtain ⟨y35, e35, q35, rfl⟩ := hk1.ev_new hd1 35 104 (by kernel_rfl) rfl
      exact stepOk_value rfl (v := .bool true) (by go_simp) rfl
    · obtain ⟨y36, e36, q36, rfl⟩ := hk1.ev_new hd1 36 105 (by kernel_rfl) rfl
      exact stepOk_value rfl (v := .bool true) (by go_simp) rfl
    · obtain ⟨y37, e37, q37, rfl⟩ := hk1.ev_new hd1 37 106 (by kernel_rfl) rfl
      have f14_ : a1.eval (.tmp 14) = .int .i64 2 := hk1.ev_old 14 (by kernel_rfl)
      have g14_ : a1.tmps[14]?.getD undef = .int .i64 2 := by simpa [Act.eval] using f14_
      exact stepOk_valG (wanted_at (t := 106) rfl rfl q37) (v := .int .i64 2) (by go_simp) rfl
    · obtain ⟨y37, e37, q37, rfl⟩ := hk1.ev_new hd1 37 106 (by kernel_rfl) rfl
      obtain ⟨y38, e38, q38, rfl⟩ := hk1.ev_new hd1 38 107 (by kernel_rfl) rfl
      exact stepOk_valG (wanted_at (t := 106) rfl rfl q37) (v := .bool true) (by go_simp) rfl
    · obtain ⟨y37, e37, q37, rfl⟩ := hk1.ev_new hd1 37 106 (by kernel_rfl) rfl
      obtain ⟨y39, e39, q39, rfl⟩ := hk1.ev_new hd1 39 108 (by kernel_rfl) rfl
      exact stepOk_value rfl (v := .bool true) (by go_simp) rfl
    · obtain ⟨y40, e40, q40, rfl⟩ := hk1.ev_new hd1 40 109 (by kernel_rfl) rfl
      exact stepOk_value rfl (v := .bool true) (by go_simp) rfl
    · obtain ⟨y41, e41, q41, rfl⟩ := hk1.ev_new hd1 41 110 (by kernel_rfl) rfl
      have f16_ : a1.eval (.tmp 16) = .int .i64 2 := hk1.ev_old 16 (by kernel_rfl)
      have g16_ : a1.tmps[16]?.getD undef = .int .i64 2 := by simpa [Act.eval] using f16_
      exact stepOk_valG (wanted_at (t := 110) rfl rfl q41) (v := .int .i64 2) (by go_simp) rfl
    · obtain ⟨y41, e41, q41, rfl⟩ := hk1.ev_new hd1 41 110 (by kernel_rfl) rfl
      obtain ⟨y42, e42, q42, rfl⟩ := hk1.ev_new hd1 42 111 (by kernel_rfl) rfl
      exact stepOk_valG (wanted_at (t := 110) rfl rfl q41) (v := .bool true) (by go_simp) rfl
    · obtain ⟨y41, e41, q41, rfl⟩ := hk1.ev_new hd1 41 110 (by kernel_rfl) rfl
      obtain ⟨y43, e43, q43, rfl⟩ := hk1.ev_new hd1 43 112 (by kernel_rfl) rfl
      exact stepOk_value rfl (v := .bool true) (by go_simp) rfl
    · obtain ⟨y44, e44, q44, rfl⟩ := hk1.ev_new hd1 44 113 (by kernel_rfl) rfl
      exact stepOk_value rfl (v := .bool true) (by go_simp) rfl
    · obtain ⟨y45, e45, q45, rfl⟩ := hk1.ev_new hd1 45 114 (by kernel_rfl) rfl
      have f18_ : a1.eval (.tmp 18) = .int .i64 0 := hk1.ev_old 18 (by kernel_rfl)
      have g18_ : a1.tmps[18]?.getD undef = .int .i64 0 := by simpa [Act.eval] using f18_
      exact stepOk_valG (wanted_at (t := 114) rfl rfl q45) (v := .int .i64 0) (by go_simp) rfl
    · obtain ⟨y45, e45, q45, rfl⟩ := hk1.ev_new hd1 45 114 (by kernel_rfl) rfl
      obtain ⟨y46, e46, q46, rfl⟩ := hk1.ev_new hd1 46 115 (by kernel_rfl) rfl
      exact stepOk_valG (wanted_at (t := 114) rfl rfl q45) (v := .bool true) (by go_simp) rfl
    · obtain ⟨y45, e45, q45, rfl⟩ := hk1.ev_new hd1 45 114 (by kernel_rfl) rfl
      obtain ⟨y47, e47, q47, rfl⟩ := hk1.ev_new hd1 47 116 (by kernel_rfl) rfl
      exact stepOk_value rfl (v := .bool true) (by go_simp) rfl
    · obtain ⟨y48, e48, q48, rfl⟩ := hk1.ev_new hd1 48 117 (by kernel_rfl) rfl
      exact stepOk_value rfl (v := .bool true) (by go_simp) rfl
    · obtain ⟨y49, e49, q49, rfl⟩ := hk1.ev_new hd1 49 118 (by kernel_rfl) rfl
      have f17_ : a1.eval (.tmp 17) = .pointer (some ⟨g17, 0, none⟩) := hk1.ev_old 17 (by kernel_rfl)
      have g17_ : a1.tmps[17]?.getD undef = .pointer (some ⟨g17, 0, none⟩) := by simpa [Act.eval] using f17_
      exact stepOk_valG (wanted_at (t := 118) rfl rfl q49) (run_load_agg (.tmp 17) 38 rfl (hk1.ev_old 17 (by kernel_rfl)) (cb a) 32 (by rw [List.length_map]; exact La.out) (by kernel_rfl) ((f17_10.below hb0).below hk1.below).sees) rfl
    · obtain ⟨y49, e49, q49, rfl⟩ := hk1.ev_new hd1 49 118 (by kernel_rfl) rfl
      have f2_ : a1.eval (.tmp 2) = .pointer (some ⟨ga, 0, none⟩) := hk1.ev_old 2 (by kernel_rfl)
      have g2_ : a1.tmps[2]?.getD undef = .pointer (some ⟨ga, 0, none⟩) := by simpa [Act.eval] using f2_
      exact stepOk_valG (wanted_at (t := 118) rfl rfl q49) (run_load_agg (.tmp 2) 38 rfl (hk1.ev_old 2 (by kernel_rfl)) (cb a) 32 (by rw [List.length_map]; exact La.out) (by kernel_rfl) ((fa_10.below hb0).below hk1.below).sees) rfl
    · obtain ⟨y49, e49, q49, rfl⟩ := hk1.ev_new hd1 49 118 (by kernel_rfl) rfl
      obtain ⟨y50, e50, q50, rfl⟩ := hk1.ev_new hd1 50 119 (by kernel_rfl) rfl
      obtain ⟨y51, e51, q51, rfl⟩ := hk1.ev_new hd1 51 120 (by kernel_rfl) rfl
      exact stepOk_valG (wanted_at (t := 118) rfl rfl q49) (run_eq32b (.tmp 119) (.tmp 120) _ rfl a a e50 e51 La.out La.out) (by show Value.bool (a == a) = _; simp)
    · obtain ⟨y49, e49, q49, rfl⟩ := hk1.ev_new hd1 49 118 (by kernel_rfl) rfl
      obtain ⟨y52, e52, q52, rfl⟩ := hk1.ev_new hd1 52 121 (by kernel_rfl) rfl
      exact stepOk_value rfl (v := .bool true) (by go_simp) rfl
    · obtain ⟨y53, e53, q53, rfl⟩ := hk1.ev_new hd1 53 122 (by kernel_rfl) rfl
      exact stepOk_value rfl (v := .bool true) (by go_simp) rfl
    · obtain ⟨y54, e54, q54, rfl⟩ := hk1.ev_new hd1 54 123 (by kernel_rfl) rfl
      have f20_ : a1.eval (.tmp 20) = .int .i64 0 := hk1.ev_old 20 (by kernel_rfl)
      have g20_ : a1.tmps[20]?.getD undef = .int .i64 0 := by simpa [Act.eval] using f20_
      exact stepOk_valG (wanted_at (t := 123) rfl rfl q54) (v := .int .i64 0) (by go_simp) rfl
    · obtain ⟨y54, e54, q54, rfl⟩ := hk1.ev_new hd1 54 123 (by kernel_rfl) rfl
      obtain ⟨y55, e55, q55, rfl⟩ := hk1.ev_new hd1 55 124 (by kernel_rfl) rfl
      exact stepOk_valG (wanted_at (t := 123) rfl rfl q54) (v := .bool true) (by go_simp) rfl
    · obtain ⟨y54, e54, q54, rfl⟩ := hk1.ev_new hd1 54 123 (by kernel_rfl) rfl
      obtain ⟨y56, e56, q56, rfl⟩ := hk1.ev_new hd1 56 125 (by kernel_rfl) rfl
      exact stepOk_value rfl (v := .bool true) (by go_simp) rfl
    · obtain ⟨y57, e57, q57, rfl⟩ := hk1.ev_new hd1 57 126 (by kernel_rfl) rfl
      exact stepOk_value rfl (v := .bool true) (by go_simp) rfl
    · obtain ⟨y58, e58, q58, rfl⟩ := hk1.ev_new hd1 58 127 (by kernel_rfl) rfl
      have f19_ : a1.eval (.tmp 19) = .pointer (some ⟨g19, 0, none⟩) := hk1.ev_old 19 (by kernel_rfl)
      have g19_ : a1.tmps[19]?.getD undef = .pointer (some ⟨g19, 0, none⟩) := by simpa [Act.eval] using f19_
      exact stepOk_valG (wanted_at (t := 127) rfl rfl q58) (v := .pointer (some ⟨g19, 1, none⟩)) (by go_simp) rfl
    · obtain ⟨y58, e58, q58, rfl⟩ := hk1.ev_new hd1 58 127 (by kernel_rfl) rfl
      obtain ⟨y59, e59, q59, rfl⟩ := hk1.ev_new hd1 59 128 (by kernel_rfl) rfl
      have kc : w'.cell? ⟨g19, 1, none⟩ = some (.slice B0 0 c0) := ((f19_10.below hb0).below hk1.below).cell_ rfl
      exact stepOk_valG (wanted_at (t := 127) rfl rfl q58) (v := .slice B0 0 c0) (by go_simp) rfl
    · obtain ⟨y58, e58, q58, rfl⟩ := hk1.ev_new hd1 58 127 (by kernel_rfl) rfl
      obtain ⟨y60, e60, q60, rfl⟩ := hk1.ev_new hd1 60 129 (by kernel_rfl) rfl
      exact stepOk_valG (wanted_at (t := 127) rfl rfl q58) (v := .int .i64 0) (by go_simp) rfl
    · obtain ⟨y58, e58, q58, rfl⟩ := hk1.ev_new hd1 58 127 (by kernel_rfl) rfl
      obtain ⟨y61, e61, q61, rfl⟩ := hk1.ev_new hd1 61 130 (by kernel_rfl) rfl
      exact stepOk_valG (wanted_at (t := 127) rfl rfl q58) (v := .bool true) (by go_simp) rfl
    · obtain ⟨y58, e58, q58, rfl⟩ := hk1.ev_new hd1 58 127 (by kernel_rfl) rfl
      obtain ⟨y62, e62, q62, rfl⟩ := hk1.ev_new hd1 62 131 (by kernel_rfl) rfl
      exact stepOk_value rfl (v := .bool true) (by go_simp) rfl
  · intro a1 w7 hb7 hp
    obtain ⟨x0, p0, x1, p1, x2, p2, x3, p3, x4, p4, x5, p5, x6, p6, x7, p7, x8, p8, x9, p9, x10, p10, x11, p11, x12, p12, x13, p13, x14, p14, x15, p15, x16, p16, x17, p17, x18, p18, x19, p19, x20, p20, x21, p21, x22, p22, x23, p23, x24, p24, x25, p25, x26, p26, x27, p27, x28, p28, x29, p29, x30, p30, x31, p31, x32, p32, x33, p33, x34, p34, x35, p35, x36, p36, x37, p37, x38, p38, x39, p39, x40, p40, x41, p41, x42, p42, x43, p43, x44, p44, x45, p45, x46, p46, x47, p47, x48, p48, x49, p49, x50, p50, x51, p51, x52, p52, x53, p53, x54, p54, x55, p55, x56, p56, x57, p57, x58, p58, x59, p59, x60, p60, x61, p61, x62, p62, x63, p63, rfl⟩ := hp
    simp only [mkF] at p0 p1 p2 p3 p4 p5 p6 p7 p8 p9 p10 p11 p12 p13 p14 p15 p16 p17 p18 p19 p20 p21 p22 p23 p24 p25 p26 p27 p28 p29 p30 p31 p32 p33 p34 p35 p36 p37 p38 p39 p40 p41 p42 p43 p44 p45 p46 p47 p48 p49 p50 p51 p52 p53 p54 p55 p56 p57 p58 p59 p60 p61 p62 p63
    obtain ⟨gs, rfl, hds⟩ := p29
    subst p0 p1 p2 p3 p4 p5 p6 p7 p8 p9 p10 p11 p12 p13 p14 p15 p16 p17 p18 p19 p20 p21 p22 p23 p24 p25 p26 p27 p28 p30 p31 p32 p33 p34 p35 p36 p37 p38 p39 p40 p41 p42 p43 p44 p45 p46 p47 p48 p49 p50 p51 p52 p53 p54 p55 p56 p57 p58 p59 p60 p61 p62 p63
    simp only [List.append_eq, List.cons_append, List.nil_append, List.drop_succ_cons, List.drop_zero, Act.put, List.setIfInBounds_toArray, List.set_cons_succ, List.set_cons_zero]
    go_wp2_with fail
    go_ret
    exact ⟨rfl, Below.then_ hB_10 hb7⟩
theorem awake10_any : Calls Try.prog 87 #[] w fun e w' => e = .returned (.bool true) ∧ Below w.heap.size w w' :=
  awake10_walk (cw (firstL ++ keysL)) (by simp; rfl) (cw_one _) (Dg.tabO firstL keysL rfl) (Lib.hid Table_any) (Lib.hid fun w' gt base h => OfAt.of_tab (tabL w' gt 72 base _ h)) (eK 1) (eK 2) (eK 3) (eK 4) rfl rfl rfl rfl
    (Lib.hid fun w => run_build w _ _ _ (by kernel_rfl)) (Lib.hid fun w => run_build w _ _ _ (by kernel_rfl)) (Lib.hid fun w => run_build w _ _ _ (by kernel_rfl)) (Lib.hid fun w => run_build w _ _ _ (by kernel_rfl))
end
end Go.Proofs.Ytpdfalgjmeagjaa
