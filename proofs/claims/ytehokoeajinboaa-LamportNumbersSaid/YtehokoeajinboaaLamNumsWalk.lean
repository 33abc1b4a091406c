/-
  LamportNumbers returns true, and writes nothing that was there: the walk.
-/
import Derived.Test.YtehokoeajinboaaLamTellsWalk
import Derived.Test.YtehokoeajinboaaLamKeysWalk
import Derived.Test.YtehokoeajinboaaMacNil
import Derived.Test.YtehokoeajinboaaShaTab
namespace Go.Proofs.Ytehokoeajinboaa
open Go.RowKit
set_option linter.unusedVariables false

/-- No table: digests of noughts. -/
def Dg.nil : Dg := ⟨zF, fun _ b => zF b, zF_len, fun _ b => zF_len b⟩
theorem DgAt.nil (w : World) : DgAt w none Dg.nil :=
  ⟨fun w' _ A n c b h1 h2 _ _ => Of_nil A n c b w' h1 h2,
   fun w' _ A B n c m d key b h1 h2 h3 h4 h5 h6 h7 h8 => Mac_nil A B n c m d key b w' h1 h2 h3 h4 h5 h6 h7 h8⟩
def d1s : List UInt8 := 1 :: (List.replicate 30 0 ++ [1])
def s9s : List UInt8 := 9 :: List.replicate 31 0
theorem bits1 : ∀ k : Nat, k < 256 → k ≠ 7 → k ≠ 255 → bitI d1s (k : Int) = 0 := by
  intro k h1 h2 h3
  have h : ∀ k : Fin 256, k.val ≠ 7 → k.val ≠ 255 → bitF d1s k.val = 0 := by decide +kernel
  unfold bitI
  rw [if_pos ⟨by omega, by omega⟩, Int.toNat_natCast]
  exact h ⟨k, h1⟩ h2 h3
theorem chunks_nil (f : Nat → List UInt8) (h : ∀ j, f j = List.replicate 32 0) : ∀ n, ofChunks n f = List.replicate (32 * n) 0
  | 0 => rfl
  | n + 1 => by
    have ih := chunks_nil f h n
    unfold ofChunks at ih ⊢
    rw [List.range_succ, List.flatMap_append, ih]
    simp only [List.flatMap_cons, List.flatMap_nil, List.append_nil, h]
    rw [List.replicate_append_replicate, Nat.mul_succ]
theorem run_eqI {o : Oper} {a : Act} {w : World} (x y : Operand) (t' : TypeId) (hop : o.op = .binOp .eql 3 x y t') (m n : Int) (hx : a.eval x = .int .i64 m) (hy : a.eval y = .int .i64 n) : (execOp a.eval o).run Try.prog w = .ok (.value (.bool (decide (m = n)))) w := by
  have hg : Try.prog.eqGuardType Try.prog.depth 3 = false := by kernel_rfl
  unfold execOp
  simp [hop, hx, hy, eqGuard]
  go_simp
  by_cases h : m = n <;> simp [h]
theorem run_bd {w : World} {o : Oper} {a : Act} {v : Value} (T : TypeId) (hop : o.op = .build T #[]) (hrun : ∀ w, (Instr.build T #[]).run Try.prog w = .ok v w) : (execOp a.eval o).run Try.prog w = .ok (.value v) w := by
  simp only [execOp, hop]
  simp only [List.map_toArray, List.map_nil, Sem.run_bind]
  rw [hrun]
  rfl
theorem run_bD1 {w : World} {o : Oper} {a : Act} {v : Value} (hop : o.op = .build 32 #[(0, .const (.int .u8 1)), (31, .const (.int .u8 1))]) (hrun : ∀ w, (Instr.build 32 #[(0, .int .u8 1), (31, .int .u8 1)]).run Try.prog w = .ok v w) : (execOp a.eval o).run Try.prog w = .ok (.value v) w := by
  simp only [execOp, hop]
  simp only [List.map_toArray, List.map_cons, List.map_nil, Act.eval, Sem.run_bind]
  rw [hrun]
  rfl
theorem run_bS9 {w : World} {o : Oper} {a : Act} {v : Value} (hop : o.op = .build 31 #[(0, .const (.int .u8 9))]) (hrun : ∀ w, (Instr.build 31 #[(0, .int .u8 9)]).run Try.prog w = .ok v w) : (execOp a.eval o).run Try.prog w = .ok (.value v) w := by
  simp only [execOp, hop]
  simp only [List.map_toArray, List.map_cons, List.map_nil, Act.eval, Sem.run_bind]
  rw [hrun]
  rfl
theorem bd31 (w : World) : (Instr.build 31 #[]).run Try.prog w = .ok (.agg (cb (List.replicate 32 0)).toArray) w := run_build w _ _ _ (by kernel_rfl)
theorem bd32 (w : World) : (Instr.build 32 #[]).run Try.prog w = .ok (.agg (cb (List.replicate 32 0)).toArray) w := run_build w _ _ _ (by kernel_rfl)
theorem bdS9 (w : World) : (Instr.build 31 #[(0, .int .u8 9)]).run Try.prog w = .ok (.agg (cb s9s).toArray) w := run_build w _ _ _ (by kernel_rfl)
theorem bdD1 (w : World) : (Instr.build 32 #[(0, .int .u8 1), (31, .int .u8 1)]).run Try.prog w = .ok (.agg (cb d1s).toArray) w := run_build w _ _ _ (by kernel_rfl)
set_option maxRecDepth 100000 in
theorem bdLA (w : World) : (Instr.build 100 #[]).run Try.prog w = .ok (.agg (cb (List.replicate 16384 0)).toArray) w := run_build w _ _ _ (by kernel_rfl)
section
variable {ops : Array Oper} {o : Oper} {a : Act} {w : World} {P : Program} {Q : Exit → Act → World → Prop} {pr : Nat → Value → World → Prop} {i : Nat}
theorem stepOk_off2 (hw : Region.wanted o (yielded ops a.tmps) = false) (hp : pr i undef w) : StepOk P ops Q pr i o a w := by
  unfold StepOk
  rw [if_neg (by rw [hw]; decide)]
  exact hp
theorem wanted_off2 {j : Nat} {b c : Bool} {t : Tmp} (hg : o.guard = some (j, b)) (ht : ((ops[j]?).bind (·.dst)) = some t) (hv : a.tmps[t]? = some (.bool c)) (hc : (c == b) = false) : Region.wanted o (yielded ops a.tmps) = false := by
  cases b <;> cases c <;> simp_all [Region.wanted, yielded]
end
def lnA (k : Nat) (d : List UInt8) (j : Nat) (x : Value) (w : World) : Prop :=
  match j with
  | 0 => x = .agg (cb d).toArray
  | 1 => x = .int .i64 (7 : Int)
  | 2 => x = .int .i64 1
  | 3 => x = .agg (cb d).toArray
  | 4 => x = .int .i64 (7 : Int)
  | 5 => x = .int .i64 1
  | 6 => x = .bool false
  | 7 => x = .bool false
  | 8 => x = .agg (cb d).toArray
  | 9 => x = .int .i64 (7 : Int)
  | 10 => x = .int .i64 1
  | 11 => x = .bool true
  | 12 => x = .int .i64 (7 : Int)
  | 13 => x = .bool true
  | 14 => x = .bool true
  | 17 => x = .bool true
  | 18 => x = .bool false
  | _ => True
theorem lnA_stab (k : Nat) (d : List UInt8) : ∀ j x w w', Below w.heap.size w w' → lnA k d j x w → lnA k d j x w' := fun _ _ _ _ _ h => h
def lnB (k : Nat) (d : List UInt8) (j : Nat) (x : Value) (w : World) : Prop :=
  match j with
  | 0 => x = .agg (cb d).toArray
  | 1 => x = .int .i64 (255 : Int)
  | 2 => x = .int .i64 1
  | 3 => x = .agg (cb d).toArray
  | 4 => x = .int .i64 (255 : Int)
  | 5 => x = .int .i64 1
  | 6 => x = .bool false
  | 7 => x = .bool false
  | 8 => x = .agg (cb d).toArray
  | 9 => x = .int .i64 (255 : Int)
  | 10 => x = .int .i64 1
  | 11 => x = .bool true
  | 12 => x = .int .i64 (255 : Int)
  | 13 => x = .bool false
  | 14 => x = .bool false
  | 15 => x = .int .i64 (255 : Int)
  | 16 => x = .bool true
  | 17 => x = .bool true
  | 18 => x = .bool false
  | _ => True
theorem lnB_stab (k : Nat) (d : List UInt8) : ∀ j x w w', Below w.heap.size w w' → lnB k d j x w → lnB k d j x w' := fun _ _ _ _ _ h => h
def lnC (k : Nat) (d : List UInt8) (j : Nat) (x : Value) (w : World) : Prop :=
  match j with
  | 0 => x = .agg (cb d).toArray
  | 1 => x = .int .i64 (k : Int)
  | 2 => x = .int .i64 0
  | 3 => x = .agg (cb d).toArray
  | 4 => x = .int .i64 (k : Int)
  | 5 => x = .int .i64 0
  | 6 => x = .bool false
  | 7 => x = .bool false
  | 8 => x = .agg (cb d).toArray
  | 9 => x = .int .i64 (k : Int)
  | 10 => x = .int .i64 0
  | 11 => x = .bool false
  | 12 => x = .int .i64 (k : Int)
  | 13 => x = .bool false
  | 14 => x = .bool false
  | 15 => x = .int .i64 (k : Int)
  | 16 => x = .bool false
  | 17 => x = .bool false
  | 18 => x = .bool false
  | _ => True
theorem lnC_stab (k : Nat) (d : List UInt8) : ∀ j x w w', Below w.heap.size w w' → lnC k d j x w → lnC k d j x w' := fun _ _ _ _ _ h => h
def lnN (d sd X K : List UInt8) (j : Nat) (x : Value) (w : World) : Prop :=
  match j with
  | 0 => x = .agg (cb d).toArray
  | 1 => x = .int .i64 0
  | 2 => x = .bool true
  | 3 => x = .bool true
  | 4 => x = .agg (cb d).toArray
  | 5 => x = .int .i64 0
  | 6 => x = .bool true
  | 7 => x = .bool true
  | 8 => x = .bool true
  | 9 => x = .agg (cb sd).toArray
  | 10 => x = .agg (cb X).toArray
  | 11 => x = .agg (cb sd).toArray
  | 12 => x = .agg (cb X).toArray
  | 13 => x = .bool true
  | 14 => x = .bool true
  | 15 => x = .bool true
  | 16 => x = .agg (cb sd).toArray
  | 17 => x = .agg (cb K).toArray
  | 18 => x = .agg (cb sd).toArray
  | 19 => x = .agg (cb K).toArray
  | 20 => x = .bool true
  | 21 => x = .bool true
  | _ => True
theorem lnN_stab (d sd X K : List UInt8) : ∀ j x w w', Below w.heap.size w w' → lnN d sd X K j x w → lnN d sd X K j x w' := fun _ _ _ _ _ h => h

section
variable {w : World}
set_option maxHeartbeats 8000000 in
set_option maxRecDepth 100000 in
theorem lnums_walk (TB : List Value) (hTB : TB.length = 72) (HON : Hid (∀ u ∈ TB, u.oneCell' = true)) (d sd X K Z Y : List UInt8)
    (HT : Hid (∀ w', Calls Try.prog 51 #[] w' fun e w2 => e = .returned (.agg TB.toArray) ∧ Below w'.heap.size w' w2))
    (rd : ∀ w', (Instr.build 32 #[(0, .int .u8 1), (31, .int .u8 1)]).run Try.prog w' = .ok (.agg (cb d).toArray) w')
    (rs : ∀ w', (Instr.build 31 #[(0, .int .u8 9)]).run Try.prog w' = .ok (.agg (cb sd).toArray) w')
    (RE : Hid (∀ w', (Instr.build 31 #[]).run Try.prog w' = .ok (.agg (cb Z).toArray) w'))
    (RG : Hid (∀ w', (Instr.build 32 #[]).run Try.prog w' = .ok (.agg (cb Z).toArray) w'))
    (RL : Hid (∀ w', (Instr.build 100 #[]).run Try.prog w' = .ok (.agg (cb Y).toArray) w'))
    (HD : Hid (d.length = 32)) (HS : Hid (sd.length = 32)) (HXL : Hid (X.length = 32)) (HKL : Hid (K.length = 32)) (HZL : Hid (Z.length = 32)) (HYL : Hid (Y.length = 16384))
    (HB7 : Hid (bitI d 7 = 1)) (HB255 : Hid (bitI d 255 = 1)) (HBO : Hid (∀ k : Nat, k < 256 → k ≠ 7 → k ≠ 255 → bitI d (k : Int) = 0))
    (HM0 : Hid (bitI d (-1) = 0)) (HO0 : Hid (bitI d 256 = 0))
    (HX1 : Hid (∀ w' (g : Nat), Fresh w.heap.size 26 w' (some ⟨g, 0, none⟩) 72 72 TB → Calls Try.prog 54 #[.pointer (some ⟨g, 0, none⟩), .agg (cb sd).toArray, .int .i64 (-5), .int .i64 (-1), .int .i64 (-9)] w' fun e w2 => e = .returned (.agg (cb X).toArray) ∧ Below w'.heap.size w' w2))
    (HX2 : Hid (∀ w' (g : Nat), Fresh w.heap.size 26 w' (some ⟨g, 0, none⟩) 72 72 TB → Calls Try.prog 54 #[.pointer (some ⟨g, 0, none⟩), .agg (cb sd).toArray, .int .i64 0, .int .i64 0, .int .i64 0] w' fun e w2 => e = .returned (.agg (cb X).toArray) ∧ Below w'.heap.size w' w2))
    (HK1 : Hid (∀ w' (g : Nat), Fresh w.heap.size 26 w' (some ⟨g, 0, none⟩) 72 72 TB → Calls Try.prog 55 #[.pointer (some ⟨g, 0, none⟩), .agg (cb sd).toArray, .int .i64 (-1)] w' fun e w2 => e = .returned (.agg (cb K).toArray) ∧ Below w'.heap.size w' w2))
    (HK2 : Hid (∀ w' (g : Nat), Fresh w.heap.size 26 w' (some ⟨g, 0, none⟩) 72 72 TB → Calls Try.prog 55 #[.pointer (some ⟨g, 0, none⟩), .agg (cb sd).toArray, .int .i64 0] w' fun e w2 => e = .returned (.agg (cb K).toArray) ∧ Below w'.heap.size w' w2))
    (NS : Hid (∀ w', Calls Try.prog 54 #[.pointer none, .agg (cb sd).toArray, .int .i64 1, .int .i64 2, .int .i64 1] w' fun e w2 => e = .returned (.agg (cb Z).toArray) ∧ Below w'.heap.size w' w2))
    (NH : Hid (∀ w', Calls Try.prog 56 #[.pointer none, .agg (cb sd).toArray] w' fun e w2 => e = .returned (.agg (cb Z).toArray) ∧ Below w'.heap.size w' w2))
    (NK : Hid (∀ w', Calls Try.prog 55 #[.pointer none, .agg (cb sd).toArray, .int .i64 1] w' fun e w2 => e = .returned (.agg (cb Z).toArray) ∧ Below w'.heap.size w' w2))
    (NG : Hid (∀ w', Calls Try.prog 57 #[.pointer none, .agg (cb sd).toArray, .int .i64 1, .agg (cb d).toArray] w' fun e w2 => e = .returned (.agg (cb Y).toArray) ∧ Below w'.heap.size w' w2))
    (NO : Hid (∀ w', Calls Try.prog 58 #[.pointer none, .agg (cb d).toArray, .agg (cb Y).toArray] w' fun e w2 => e = .returned (.agg (cb Z).toArray) ∧ Below w'.heap.size w' w2)) :
    Calls Try.prog 6 #[] w fun e w' => e = .returned (.bool true) ∧ Below w.heap.size w w' := by
  have HC := Lib.hid hTB
  have HDL : Hid ((cb d).length = 32) := Lib.hid (by rw [List.length_map]; exact HD.out)
  have HSL : Hid ((cb sd).length = 32) := Lib.hid (by rw [List.length_map]; exact HS.out)
  have RD := Lib.hid rd
  have RS := Lib.hid rs
  have HM : Hid (∀ w', Calls Try.prog 52 #[.agg (cb d).toArray, .int .i64 (-1)] w' fun e w2 => e = .returned (.int .i64 0) ∧ Below w'.heap.size w' w2) := Lib.hid (fun w' => by
    have ho := Bit_any (w := w') d (-1) HD.out
    rw [HM0.out] at ho
    exact ho)
  have HO : Hid (∀ w', Calls Try.prog 52 #[.agg (cb d).toArray, .int .i64 256] w' fun e w2 => e = .returned (.int .i64 0) ∧ Below w'.heap.size w' w2) := Lib.hid (fun w' => by
    have ho := Bit_any (w := w') d 256 HD.out
    rw [HO0.out] at ho
    exact ho)
  clear hTB rd rs HM0 HO0
  go_enter Try.func6, Try.ntmps6
  go_wp2_with (first
    | (go_at_call 51; refine (HT.out _).mono ?_; rintro e w1 ⟨rfl, hB1⟩)
    | (with_reducible refine wpList_alloc (o := ⟨some 1, _, _, _, _, _⟩) rfl 26 rfl (cw (List.replicate 72 0)) (by kernel_rfl) 72 (by simp) (by decide) ?_; intro gt w2 hgt hFt hBt; have z1 := hB1.size; have z2 := hBt.size; have hBw2 := Below.then_ hB1 hBt)
    | (with_reducible refine wpList_store rfl rfl (.tmp 1) (.tmp 6) 26 rfl gt 0 _ 26 72 (cw (List.replicate 72 0)) TB rfl rfl 72 HC.out (by kernel_rfl) hFt (by omega) HON.out w hBw2 (by omega) ?_; intro w3 f3 hB3 ho3 hz3)
    | (with_reducible refine wpList_is (o := ⟨some 7, _, _, _, _, _⟩) rfl (run_bD1 rfl RD.out) ?_)
    | (with_reducible refine wpList_alloc (o := ⟨some 2, _, _, _, _, _⟩) rfl 32 rfl (cb (List.replicate 32 0)) (by kernel_rfl) 32 (len_zb 32) (by decide) ?_; intro gd w4 hgd hFd hBd; have z4 := hBd.size; have hBw4 := Below.then_ hB3 hBd)
    | (with_reducible refine wpList_store rfl rfl (.tmp 2) (.tmp 7) 32 rfl gd 0 w3.heap.size 32 32 (cb (List.replicate 32 0)) (cb d) rfl rfl 32 HDL.out (by kernel_rfl) hFd (by omega) (cb_one _) w hBw4 (by omega) ?_; intro w5 f5 hB5 ho5 hz5))
  have e1 : splice (cw (List.replicate 72 0)) 0 TB = TB := by
    have := HC.out
    simp [splice, this]
  rw [e1] at f3
  rw [splice_zb 32 d HD.out] at f5
  go_loopw [3] (fun i wr => ∃ (k : Nat), k ≤ 256 ∧ i = .int .i64 (k : Int) ∧ Fresh w.heap.size 26 wr (some ⟨gt, 0, none⟩) 72 72 TB ∧ Fresh w.heap.size 32 wr (some ⟨gd, 0, none⟩) 32 32 (cb d) ∧ Below w.heap.size w wr) (fun i _ => 256 - (intOf i).toNat)
  case atStart => exact ⟨0, by omega, rfl, ((f3.below hBd).other (g' := gd) (by have := f3.lt_size; omega) ho5).lower (by omega), f5.lower (by have := hB3.size; omega), hB5⟩
  case round =>
    clear hFt hBt hBw2 f3 hB3 ho3 hz3 hFd hBd hBw4 f5 hB5 ho5 hz5
    obtain ⟨k, hk, rfl, ft, fd, hB⟩ := hrel
    by_cases hlt : k < 256
    · by_cases k7 : k = 7
      · have HK7 := Lib.hid k7
        subst k7
        have HB : Hid (∀ w', Calls Try.prog 52 #[.agg (cb d).toArray, .int .i64 7] w' fun e w2 => e = .returned (.int .i64 1) ∧ Below w'.heap.size w' w2) := Lib.hid (fun w' => by
          have ho := Bit_any (w := w') d 7 HD.out
          rw [HB7.out] at ho
          exact ho)
        have HR : Hid (∀ w', Calls Try.prog 53 #[.agg (cb d).toArray, .int .i64 7] w' fun e w2 => e = .returned (.int .i64 1) ∧ Below w'.heap.size w' w2) := Lib.hid (fun w' => by
          have ho := rBit_any (w := w') d 7 HD.out
          rw [HB7.out] at ho
          exact ho)
        go_wp2_with fail
        refine region_all_tail 19 (lnA 7 d) (by kernel_rfl) (by kernel_rfl) (by kernel_rfl) (lnA_stab _ _) ?_ ?_
        · intro w0 hb0
          simp only [List.take_succ_cons, List.take_zero]
          refine ⟨?_, ?_, ?_, ?_, ?_, ?_, ?_, ?_, ?_, ?_, ?_, ?_, ?_, ?_, ?_, ?_, ?_, ?_, ?_, trivial⟩
          all_goals intro listed a1 w' hk1 hd1
          · have f2_ : a1.eval (.tmp 2) = .pointer (some ⟨gd, 0, none⟩) := hk1.ev_old 2 (by kernel_rfl)
            have g2_ : a1.tmps[2]?.getD undef = .pointer (some ⟨gd, 0, none⟩) := by simpa [Act.eval] using f2_
            exact stepOk_value rfl (run_load_agg (.tmp 2) 32 rfl (hk1.ev_old 2 (by kernel_rfl)) (cb d) 32 HDL.out (by kernel_rfl) ((fd.below hb0).below hk1.below).sees) rfl
          · have f3_ : a1.eval (.tmp 3) = .int .i64 (7 : Int) := hk1.ev_old 3 (by kernel_rfl)
            have g3_ : a1.tmps[3]?.getD undef = .int .i64 (7 : Int) := by simpa [Act.eval] using f3_
            exact stepOk_value rfl (v := .int .i64 (7 : Int)) (by go_simp) rfl
          · obtain ⟨y0, e0, q0, rfl⟩ := hk1.ev_new hd1 0 12 (by kernel_rfl) rfl
            obtain ⟨y1, e1, q1, rfl⟩ := hk1.ev_new hd1 1 13 (by kernel_rfl) rfl
            refine stepOk_enter rfl (f := 52) (args := #[.agg (cb d).toArray, .int .i64 (7 : Int)]) (by go_simp) ?_
            have ho := HB.out w'
            refine ho.mono ?_
            rintro e w5 ⟨rfl, hB5⟩
            exact ⟨_, rfl, rfl, hB5⟩
          · have f2_ : a1.eval (.tmp 2) = .pointer (some ⟨gd, 0, none⟩) := hk1.ev_old 2 (by kernel_rfl)
            have g2_ : a1.tmps[2]?.getD undef = .pointer (some ⟨gd, 0, none⟩) := by simpa [Act.eval] using f2_
            exact stepOk_value rfl (run_load_agg (.tmp 2) 32 rfl (hk1.ev_old 2 (by kernel_rfl)) (cb d) 32 HDL.out (by kernel_rfl) ((fd.below hb0).below hk1.below).sees) rfl
          · have f3_ : a1.eval (.tmp 3) = .int .i64 (7 : Int) := hk1.ev_old 3 (by kernel_rfl)
            have g3_ : a1.tmps[3]?.getD undef = .int .i64 (7 : Int) := by simpa [Act.eval] using f3_
            exact stepOk_value rfl (v := .int .i64 (7 : Int)) (by go_simp) rfl
          · obtain ⟨y3, e3, q3, rfl⟩ := hk1.ev_new hd1 3 15 (by kernel_rfl) rfl
            obtain ⟨y4, e4, q4, rfl⟩ := hk1.ev_new hd1 4 16 (by kernel_rfl) rfl
            refine stepOk_enter rfl (f := 53) (args := #[.agg (cb d).toArray, .int .i64 (7 : Int)]) (by go_simp) ?_
            have ho := HR.out w'
            refine ho.mono ?_
            rintro e w5 ⟨rfl, hB5⟩
            exact ⟨_, rfl, rfl, hB5⟩
          · obtain ⟨y2, e2, q2, rfl⟩ := hk1.ev_new hd1 2 14 (by kernel_rfl) rfl
            obtain ⟨y5, e5, q5, rfl⟩ := hk1.ev_new hd1 5 17 (by kernel_rfl) rfl
            exact stepOk_value rfl (v := .bool false) (by go_simp) rfl
          · obtain ⟨y6, e6, q6, rfl⟩ := hk1.ev_new hd1 6 18 (by kernel_rfl) rfl
            exact stepOk_value rfl (v := .bool false) (by go_simp) rfl
          · obtain ⟨y7, e7, q7, rfl⟩ := hk1.ev_new hd1 7 19 (by kernel_rfl) rfl
            have f2_ : a1.eval (.tmp 2) = .pointer (some ⟨gd, 0, none⟩) := hk1.ev_old 2 (by kernel_rfl)
            have g2_ : a1.tmps[2]?.getD undef = .pointer (some ⟨gd, 0, none⟩) := by simpa [Act.eval] using f2_
            exact stepOk_valG (wanted_at (t := 19) rfl rfl q7) (run_load_agg (.tmp 2) 32 rfl (hk1.ev_old 2 (by kernel_rfl)) (cb d) 32 HDL.out (by kernel_rfl) ((fd.below hb0).below hk1.below).sees) rfl
          · obtain ⟨y7, e7, q7, rfl⟩ := hk1.ev_new hd1 7 19 (by kernel_rfl) rfl
            have f3_ : a1.eval (.tmp 3) = .int .i64 (7 : Int) := hk1.ev_old 3 (by kernel_rfl)
            have g3_ : a1.tmps[3]?.getD undef = .int .i64 (7 : Int) := by simpa [Act.eval] using f3_
            exact stepOk_valG (wanted_at (t := 19) rfl rfl q7) (v := .int .i64 (7 : Int)) (by go_simp) rfl
          · obtain ⟨y7, e7, q7, rfl⟩ := hk1.ev_new hd1 7 19 (by kernel_rfl) rfl
            obtain ⟨y8, e8, q8, rfl⟩ := hk1.ev_new hd1 8 20 (by kernel_rfl) rfl
            obtain ⟨y9, e9, q9, rfl⟩ := hk1.ev_new hd1 9 21 (by kernel_rfl) rfl
            refine stepOk_enter (wanted_at (t := 19) rfl rfl q7) (f := 52) (args := #[.agg (cb d).toArray, .int .i64 (7 : Int)]) (by go_simp) ?_
            have ho := HB.out w'
            refine ho.mono ?_
            rintro e w5 ⟨rfl, hB5⟩
            exact ⟨_, rfl, rfl, hB5⟩
          · obtain ⟨y7, e7, q7, rfl⟩ := hk1.ev_new hd1 7 19 (by kernel_rfl) rfl
            obtain ⟨y10, e10, q10, rfl⟩ := hk1.ev_new hd1 10 22 (by kernel_rfl) rfl
            exact stepOk_valG (wanted_at (t := 19) rfl rfl q7) (v := .bool true) (by go_simp) rfl
          · obtain ⟨y7, e7, q7, rfl⟩ := hk1.ev_new hd1 7 19 (by kernel_rfl) rfl
            have f3_ : a1.eval (.tmp 3) = .int .i64 (7 : Int) := hk1.ev_old 3 (by kernel_rfl)
            have g3_ : a1.tmps[3]?.getD undef = .int .i64 (7 : Int) := by simpa [Act.eval] using f3_
            exact stepOk_valG (wanted_at (t := 19) rfl rfl q7) (v := .int .i64 (7 : Int)) (by go_simp) rfl
          · obtain ⟨y7, e7, q7, rfl⟩ := hk1.ev_new hd1 7 19 (by kernel_rfl) rfl
            obtain ⟨y12, e12, q12, rfl⟩ := hk1.ev_new hd1 12 24 (by kernel_rfl) rfl
            exact stepOk_valG (wanted_at (t := 19) rfl rfl q7) (v := .bool true) (by go_simp) rfl
          · obtain ⟨y7, e7, q7, rfl⟩ := hk1.ev_new hd1 7 19 (by kernel_rfl) rfl
            obtain ⟨y13, e13, q13, rfl⟩ := hk1.ev_new hd1 13 25 (by kernel_rfl) rfl
            exact stepOk_valG (wanted_at (t := 19) rfl rfl q7) (v := .bool true) (by go_simp) rfl
          · obtain ⟨y14, e14, q14, rfl⟩ := hk1.ev_new hd1 14 26 (by kernel_rfl) rfl
            exact stepOk_off2 (wanted_off2 (t := 26) rfl rfl q14 (by decide)) trivial
          · obtain ⟨y14, e14, q14, rfl⟩ := hk1.ev_new hd1 14 26 (by kernel_rfl) rfl
            exact stepOk_off2 (wanted_off2 (t := 26) rfl rfl q14 (by decide)) trivial
          · obtain ⟨y7, e7, q7, rfl⟩ := hk1.ev_new hd1 7 19 (by kernel_rfl) rfl
            obtain ⟨y14, e14, q14, rfl⟩ := hk1.ev_new hd1 14 26 (by kernel_rfl) rfl
            exact stepOk_valG (wanted_at (t := 19) rfl rfl q7) (v := .bool true) (by go_simp) rfl
          · obtain ⟨y7, e7, q7, rfl⟩ := hk1.ev_new hd1 7 19 (by kernel_rfl) rfl
            obtain ⟨y11, e11, q11, rfl⟩ := hk1.ev_new hd1 11 23 (by kernel_rfl) rfl
            obtain ⟨y17, e17, q17, rfl⟩ := hk1.ev_new hd1 17 29 (by kernel_rfl) rfl
            exact stepOk_valG (wanted_at (t := 19) rfl rfl q7) (v := .bool false) (by go_simp) rfl
        · intro a1 w9 hb9 hp
          obtain ⟨x0, p0, x1, p1, x2, p2, x3, p3, x4, p4, x5, p5, x6, p6, x7, p7, x8, p8, x9, p9, x10, p10, x11, p11, x12, p12, x13, p13, x14, p14, x15, p15, x16, p16, x17, p17, x18, p18, rfl⟩ := hp
          simp only [lnA] at p0 p1 p2 p3 p4 p5 p6 p7 p8 p9 p10 p11 p12 p13 p14 p17 p18
          subst p0 p1 p2 p3 p4 p5 p6 p7 p8 p9 p10 p11 p12 p13 p14 p17 p18
          simp only [List.drop_succ_cons, List.drop_zero, Act.put, List.setIfInBounds_toArray, List.set_cons_succ, List.set_cons_zero]
          go_wp2_with fail
          go_roundw
          case rel => exact ⟨8, by omega, by go_num, ft.below hb9, fd.below hb9, Below.then_ hB hb9⟩
          case measure => simp [intOf]
      · by_cases k255 : k = 255
        · subst k255
          have HB : Hid (∀ w', Calls Try.prog 52 #[.agg (cb d).toArray, .int .i64 255] w' fun e w2 => e = .returned (.int .i64 1) ∧ Below w'.heap.size w' w2) := Lib.hid (fun w' => by
            have ho := Bit_any (w := w') d 255 HD.out
            rw [HB255.out] at ho
            exact ho)
          have HR : Hid (∀ w', Calls Try.prog 53 #[.agg (cb d).toArray, .int .i64 255] w' fun e w2 => e = .returned (.int .i64 1) ∧ Below w'.heap.size w' w2) := Lib.hid (fun w' => by
            have ho := rBit_any (w := w') d 255 HD.out
            rw [HB255.out] at ho
            exact ho)
          go_wp2_with fail
          refine region_all_tail 19 (lnB 255 d) (by kernel_rfl) (by kernel_rfl) (by kernel_rfl) (lnB_stab _ _) ?_ ?_
          · intro w0 hb0
            simp only [List.take_succ_cons, List.take_zero]
            refine ⟨?_, ?_, ?_, ?_, ?_, ?_, ?_, ?_, ?_, ?_, ?_, ?_, ?_, ?_, ?_, ?_, ?_, ?_, ?_, trivial⟩
            all_goals intro listed a1 w' hk1 hd1
            · have f2_ : a1.eval (.tmp 2) = .pointer (some ⟨gd, 0, none⟩) := hk1.ev_old 2 (by kernel_rfl)
              have g2_ : a1.tmps[2]?.getD undef = .pointer (some ⟨gd, 0, none⟩) := by simpa [Act.eval] using f2_
              exact stepOk_value rfl (run_load_agg (.tmp 2) 32 rfl (hk1.ev_old 2 (by kernel_rfl)) (cb d) 32 HDL.out (by kernel_rfl) ((fd.below hb0).below hk1.below).sees) rfl
            · have f3_ : a1.eval (.tmp 3) = .int .i64 (255 : Int) := hk1.ev_old 3 (by kernel_rfl)
              have g3_ : a1.tmps[3]?.getD undef = .int .i64 (255 : Int) := by simpa [Act.eval] using f3_
              exact stepOk_value rfl (v := .int .i64 (255 : Int)) (by go_simp) rfl
            · obtain ⟨y0, e0, q0, rfl⟩ := hk1.ev_new hd1 0 12 (by kernel_rfl) rfl
              obtain ⟨y1, e1, q1, rfl⟩ := hk1.ev_new hd1 1 13 (by kernel_rfl) rfl
              refine stepOk_enter rfl (f := 52) (args := #[.agg (cb d).toArray, .int .i64 (255 : Int)]) (by go_simp) ?_
              have ho := HB.out w'
              refine ho.mono ?_
              rintro e w5 ⟨rfl, hB5⟩
              exact ⟨_, rfl, rfl, hB5⟩
            · have f2_ : a1.eval (.tmp 2) = .pointer (some ⟨gd, 0, none⟩) := hk1.ev_old 2 (by kernel_rfl)
              have g2_ : a1.tmps[2]?.getD undef = .pointer (some ⟨gd, 0, none⟩) := by simpa [Act.eval] using f2_
              exact stepOk_value rfl (run_load_agg (.tmp 2) 32 rfl (hk1.ev_old 2 (by kernel_rfl)) (cb d) 32 HDL.out (by kernel_rfl) ((fd.below hb0).below hk1.below).sees) rfl
            · have f3_ : a1.eval (.tmp 3) = .int .i64 (255 : Int) := hk1.ev_old 3 (by kernel_rfl)
              have g3_ : a1.tmps[3]?.getD undef = .int .i64 (255 : Int) := by simpa [Act.eval] using f3_
              exact stepOk_value rfl (v := .int .i64 (255 : Int)) (by go_simp) rfl
            · obtain ⟨y3, e3, q3, rfl⟩ := hk1.ev_new hd1 3 15 (by kernel_rfl) rfl
              obtain ⟨y4, e4, q4, rfl⟩ := hk1.ev_new hd1 4 16 (by kernel_rfl) rfl
              refine stepOk_enter rfl (f := 53) (args := #[.agg (cb d).toArray, .int .i64 (255 : Int)]) (by go_simp) ?_
              have ho := HR.out w'
              refine ho.mono ?_
              rintro e w5 ⟨rfl, hB5⟩
              exact ⟨_, rfl, rfl, hB5⟩
            · obtain ⟨y2, e2, q2, rfl⟩ := hk1.ev_new hd1 2 14 (by kernel_rfl) rfl
              obtain ⟨y5, e5, q5, rfl⟩ := hk1.ev_new hd1 5 17 (by kernel_rfl) rfl
              exact stepOk_value rfl (v := .bool false) (by go_simp) rfl
            · obtain ⟨y6, e6, q6, rfl⟩ := hk1.ev_new hd1 6 18 (by kernel_rfl) rfl
              exact stepOk_value rfl (v := .bool false) (by go_simp) rfl
            · obtain ⟨y7, e7, q7, rfl⟩ := hk1.ev_new hd1 7 19 (by kernel_rfl) rfl
              have f2_ : a1.eval (.tmp 2) = .pointer (some ⟨gd, 0, none⟩) := hk1.ev_old 2 (by kernel_rfl)
              have g2_ : a1.tmps[2]?.getD undef = .pointer (some ⟨gd, 0, none⟩) := by simpa [Act.eval] using f2_
              exact stepOk_valG (wanted_at (t := 19) rfl rfl q7) (run_load_agg (.tmp 2) 32 rfl (hk1.ev_old 2 (by kernel_rfl)) (cb d) 32 HDL.out (by kernel_rfl) ((fd.below hb0).below hk1.below).sees) rfl
            · obtain ⟨y7, e7, q7, rfl⟩ := hk1.ev_new hd1 7 19 (by kernel_rfl) rfl
              have f3_ : a1.eval (.tmp 3) = .int .i64 (255 : Int) := hk1.ev_old 3 (by kernel_rfl)
              have g3_ : a1.tmps[3]?.getD undef = .int .i64 (255 : Int) := by simpa [Act.eval] using f3_
              exact stepOk_valG (wanted_at (t := 19) rfl rfl q7) (v := .int .i64 (255 : Int)) (by go_simp) rfl
            · obtain ⟨y7, e7, q7, rfl⟩ := hk1.ev_new hd1 7 19 (by kernel_rfl) rfl
              obtain ⟨y8, e8, q8, rfl⟩ := hk1.ev_new hd1 8 20 (by kernel_rfl) rfl
              obtain ⟨y9, e9, q9, rfl⟩ := hk1.ev_new hd1 9 21 (by kernel_rfl) rfl
              refine stepOk_enter (wanted_at (t := 19) rfl rfl q7) (f := 52) (args := #[.agg (cb d).toArray, .int .i64 (255 : Int)]) (by go_simp) ?_
              have ho := HB.out w'
              refine ho.mono ?_
              rintro e w5 ⟨rfl, hB5⟩
              exact ⟨_, rfl, rfl, hB5⟩
            · obtain ⟨y7, e7, q7, rfl⟩ := hk1.ev_new hd1 7 19 (by kernel_rfl) rfl
              obtain ⟨y10, e10, q10, rfl⟩ := hk1.ev_new hd1 10 22 (by kernel_rfl) rfl
              exact stepOk_valG (wanted_at (t := 19) rfl rfl q7) (v := .bool true) (by go_simp) rfl
            · obtain ⟨y7, e7, q7, rfl⟩ := hk1.ev_new hd1 7 19 (by kernel_rfl) rfl
              have f3_ : a1.eval (.tmp 3) = .int .i64 (255 : Int) := hk1.ev_old 3 (by kernel_rfl)
              have g3_ : a1.tmps[3]?.getD undef = .int .i64 (255 : Int) := by simpa [Act.eval] using f3_
              exact stepOk_valG (wanted_at (t := 19) rfl rfl q7) (v := .int .i64 (255 : Int)) (by go_simp) rfl
            · obtain ⟨y7, e7, q7, rfl⟩ := hk1.ev_new hd1 7 19 (by kernel_rfl) rfl
              obtain ⟨y12, e12, q12, rfl⟩ := hk1.ev_new hd1 12 24 (by kernel_rfl) rfl
              exact stepOk_valG (wanted_at (t := 19) rfl rfl q7) (v := .bool false) (by go_simp) rfl
            · obtain ⟨y7, e7, q7, rfl⟩ := hk1.ev_new hd1 7 19 (by kernel_rfl) rfl
              obtain ⟨y13, e13, q13, rfl⟩ := hk1.ev_new hd1 13 25 (by kernel_rfl) rfl
              exact stepOk_valG (wanted_at (t := 19) rfl rfl q7) (v := .bool false) (by go_simp) rfl
            · obtain ⟨y14, e14, q14, rfl⟩ := hk1.ev_new hd1 14 26 (by kernel_rfl) rfl
              have f3_ : a1.eval (.tmp 3) = .int .i64 (255 : Int) := hk1.ev_old 3 (by kernel_rfl)
              have g3_ : a1.tmps[3]?.getD undef = .int .i64 (255 : Int) := by simpa [Act.eval] using f3_
              exact stepOk_valG (wanted_at (t := 26) rfl rfl q14) (v := .int .i64 (255 : Int)) (by go_simp) rfl
            · obtain ⟨y14, e14, q14, rfl⟩ := hk1.ev_new hd1 14 26 (by kernel_rfl) rfl
              obtain ⟨y15, e15, q15, rfl⟩ := hk1.ev_new hd1 15 27 (by kernel_rfl) rfl
              exact stepOk_valG (wanted_at (t := 26) rfl rfl q14) (v := .bool true) (by go_simp) rfl
            · obtain ⟨y7, e7, q7, rfl⟩ := hk1.ev_new hd1 7 19 (by kernel_rfl) rfl
              obtain ⟨y14, e14, q14, rfl⟩ := hk1.ev_new hd1 14 26 (by kernel_rfl) rfl
              obtain ⟨y16, e16, q16, rfl⟩ := hk1.ev_new hd1 16 28 (by kernel_rfl) rfl
              exact stepOk_valG (wanted_at (t := 19) rfl rfl q7) (v := .bool true) (by go_simp) rfl
            · obtain ⟨y7, e7, q7, rfl⟩ := hk1.ev_new hd1 7 19 (by kernel_rfl) rfl
              obtain ⟨y11, e11, q11, rfl⟩ := hk1.ev_new hd1 11 23 (by kernel_rfl) rfl
              obtain ⟨y17, e17, q17, rfl⟩ := hk1.ev_new hd1 17 29 (by kernel_rfl) rfl
              exact stepOk_valG (wanted_at (t := 19) rfl rfl q7) (v := .bool false) (by go_simp) rfl
          · intro a1 w9 hb9 hp
            obtain ⟨x0, p0, x1, p1, x2, p2, x3, p3, x4, p4, x5, p5, x6, p6, x7, p7, x8, p8, x9, p9, x10, p10, x11, p11, x12, p12, x13, p13, x14, p14, x15, p15, x16, p16, x17, p17, x18, p18, rfl⟩ := hp
            simp only [lnB] at p0 p1 p2 p3 p4 p5 p6 p7 p8 p9 p10 p11 p12 p13 p14 p15 p16 p17 p18
            subst p0 p1 p2 p3 p4 p5 p6 p7 p8 p9 p10 p11 p12 p13 p14 p15 p16 p17 p18
            simp only [List.drop_succ_cons, List.drop_zero, Act.put, List.setIfInBounds_toArray, List.set_cons_succ, List.set_cons_zero]
            go_wp2_with fail
            go_roundw
            case rel => exact ⟨256, by omega, by go_num, ft.below hb9, fd.below hb9, Below.then_ hB hb9⟩
            case measure => simp [intOf]
        · have HKO := Lib.hid (HBO.out k hlt k7 k255)
          have HB : Hid (∀ w', Calls Try.prog 52 #[.agg (cb d).toArray, .int .i64 (k : Int)] w' fun e w2 => e = .returned (.int .i64 0) ∧ Below w'.heap.size w' w2) := Lib.hid (fun w' => by
            have ho := Bit_any (w := w') d (k : Int) HD.out
            rw [HKO.out] at ho
            exact ho)
          have HR : Hid (∀ w', Calls Try.prog 53 #[.agg (cb d).toArray, .int .i64 (k : Int)] w' fun e w2 => e = .returned (.int .i64 0) ∧ Below w'.heap.size w' w2) := Lib.hid (fun w' => by
            have ho := rBit_any (w := w') d (k : Int) HD.out
            rw [HKO.out] at ho
            exact ho)
          go_wp2_with fail
          refine region_all_tail 19 (lnC k d) (by kernel_rfl) (by kernel_rfl) (by kernel_rfl) (lnC_stab _ _) ?_ ?_
          · intro w0 hb0
            simp only [List.take_succ_cons, List.take_zero]
            refine ⟨?_, ?_, ?_, ?_, ?_, ?_, ?_, ?_, ?_, ?_, ?_, ?_, ?_, ?_, ?_, ?_, ?_, ?_, ?_, trivial⟩
            all_goals intro listed a1 w' hk1 hd1
            · have f2_ : a1.eval (.tmp 2) = .pointer (some ⟨gd, 0, none⟩) := hk1.ev_old 2 (by kernel_rfl)
              have g2_ : a1.tmps[2]?.getD undef = .pointer (some ⟨gd, 0, none⟩) := by simpa [Act.eval] using f2_
              exact stepOk_value rfl (run_load_agg (.tmp 2) 32 rfl (hk1.ev_old 2 (by kernel_rfl)) (cb d) 32 HDL.out (by kernel_rfl) ((fd.below hb0).below hk1.below).sees) rfl
            · have f3_ : a1.eval (.tmp 3) = .int .i64 (k : Int) := hk1.ev_old 3 (by kernel_rfl)
              have g3_ : a1.tmps[3]?.getD undef = .int .i64 (k : Int) := by simpa [Act.eval] using f3_
              exact stepOk_value rfl (v := .int .i64 (k : Int)) (by go_simp) rfl
            · obtain ⟨y0, e0, q0, rfl⟩ := hk1.ev_new hd1 0 12 (by kernel_rfl) rfl
              obtain ⟨y1, e1, q1, rfl⟩ := hk1.ev_new hd1 1 13 (by kernel_rfl) rfl
              refine stepOk_enter rfl (f := 52) (args := #[.agg (cb d).toArray, .int .i64 (k : Int)]) (by go_simp) ?_
              have ho := HB.out w'
              refine ho.mono ?_
              rintro e w5 ⟨rfl, hB5⟩
              exact ⟨_, rfl, rfl, hB5⟩
            · have f2_ : a1.eval (.tmp 2) = .pointer (some ⟨gd, 0, none⟩) := hk1.ev_old 2 (by kernel_rfl)
              have g2_ : a1.tmps[2]?.getD undef = .pointer (some ⟨gd, 0, none⟩) := by simpa [Act.eval] using f2_
              exact stepOk_value rfl (run_load_agg (.tmp 2) 32 rfl (hk1.ev_old 2 (by kernel_rfl)) (cb d) 32 HDL.out (by kernel_rfl) ((fd.below hb0).below hk1.below).sees) rfl
            · have f3_ : a1.eval (.tmp 3) = .int .i64 (k : Int) := hk1.ev_old 3 (by kernel_rfl)
              have g3_ : a1.tmps[3]?.getD undef = .int .i64 (k : Int) := by simpa [Act.eval] using f3_
              exact stepOk_value rfl (v := .int .i64 (k : Int)) (by go_simp) rfl
            · obtain ⟨y3, e3, q3, rfl⟩ := hk1.ev_new hd1 3 15 (by kernel_rfl) rfl
              obtain ⟨y4, e4, q4, rfl⟩ := hk1.ev_new hd1 4 16 (by kernel_rfl) rfl
              refine stepOk_enter rfl (f := 53) (args := #[.agg (cb d).toArray, .int .i64 (k : Int)]) (by go_simp) ?_
              have ho := HR.out w'
              refine ho.mono ?_
              rintro e w5 ⟨rfl, hB5⟩
              exact ⟨_, rfl, rfl, hB5⟩
            · obtain ⟨y2, e2, q2, rfl⟩ := hk1.ev_new hd1 2 14 (by kernel_rfl) rfl
              obtain ⟨y5, e5, q5, rfl⟩ := hk1.ev_new hd1 5 17 (by kernel_rfl) rfl
              exact stepOk_value rfl (v := .bool false) (by go_simp) rfl
            · obtain ⟨y6, e6, q6, rfl⟩ := hk1.ev_new hd1 6 18 (by kernel_rfl) rfl
              exact stepOk_value rfl (v := .bool false) (by go_simp) rfl
            · obtain ⟨y7, e7, q7, rfl⟩ := hk1.ev_new hd1 7 19 (by kernel_rfl) rfl
              have f2_ : a1.eval (.tmp 2) = .pointer (some ⟨gd, 0, none⟩) := hk1.ev_old 2 (by kernel_rfl)
              have g2_ : a1.tmps[2]?.getD undef = .pointer (some ⟨gd, 0, none⟩) := by simpa [Act.eval] using f2_
              exact stepOk_valG (wanted_at (t := 19) rfl rfl q7) (run_load_agg (.tmp 2) 32 rfl (hk1.ev_old 2 (by kernel_rfl)) (cb d) 32 HDL.out (by kernel_rfl) ((fd.below hb0).below hk1.below).sees) rfl
            · obtain ⟨y7, e7, q7, rfl⟩ := hk1.ev_new hd1 7 19 (by kernel_rfl) rfl
              have f3_ : a1.eval (.tmp 3) = .int .i64 (k : Int) := hk1.ev_old 3 (by kernel_rfl)
              have g3_ : a1.tmps[3]?.getD undef = .int .i64 (k : Int) := by simpa [Act.eval] using f3_
              exact stepOk_valG (wanted_at (t := 19) rfl rfl q7) (v := .int .i64 (k : Int)) (by go_simp) rfl
            · obtain ⟨y7, e7, q7, rfl⟩ := hk1.ev_new hd1 7 19 (by kernel_rfl) rfl
              obtain ⟨y8, e8, q8, rfl⟩ := hk1.ev_new hd1 8 20 (by kernel_rfl) rfl
              obtain ⟨y9, e9, q9, rfl⟩ := hk1.ev_new hd1 9 21 (by kernel_rfl) rfl
              refine stepOk_enter (wanted_at (t := 19) rfl rfl q7) (f := 52) (args := #[.agg (cb d).toArray, .int .i64 (k : Int)]) (by go_simp) ?_
              have ho := HB.out w'
              refine ho.mono ?_
              rintro e w5 ⟨rfl, hB5⟩
              exact ⟨_, rfl, rfl, hB5⟩
            · obtain ⟨y7, e7, q7, rfl⟩ := hk1.ev_new hd1 7 19 (by kernel_rfl) rfl
              obtain ⟨y10, e10, q10, rfl⟩ := hk1.ev_new hd1 10 22 (by kernel_rfl) rfl
              exact stepOk_valG (wanted_at (t := 19) rfl rfl q7) (v := .bool false) (by go_simp) rfl
            · obtain ⟨y7, e7, q7, rfl⟩ := hk1.ev_new hd1 7 19 (by kernel_rfl) rfl
              have f3_ : a1.eval (.tmp 3) = .int .i64 (k : Int) := hk1.ev_old 3 (by kernel_rfl)
              have g3_ : a1.tmps[3]?.getD undef = .int .i64 (k : Int) := by simpa [Act.eval] using f3_
              exact stepOk_valG (wanted_at (t := 19) rfl rfl q7) (v := .int .i64 (k : Int)) (by go_simp) rfl
            · obtain ⟨y7, e7, q7, rfl⟩ := hk1.ev_new hd1 7 19 (by kernel_rfl) rfl
              obtain ⟨y12, e12, q12, rfl⟩ := hk1.ev_new hd1 12 24 (by kernel_rfl) rfl
              exact stepOk_valG (wanted_at (t := 19) rfl rfl q7) (run_eqI (.tmp 24) (.const (.int .i64 7)) 3 rfl (k : Int) 7 e12 rfl) (by rw [decide_eq_false (by omega)]; rfl)
            · obtain ⟨y7, e7, q7, rfl⟩ := hk1.ev_new hd1 7 19 (by kernel_rfl) rfl
              obtain ⟨y13, e13, q13, rfl⟩ := hk1.ev_new hd1 13 25 (by kernel_rfl) rfl
              exact stepOk_valG (wanted_at (t := 19) rfl rfl q7) (v := .bool false) (by go_simp) rfl
            · obtain ⟨y14, e14, q14, rfl⟩ := hk1.ev_new hd1 14 26 (by kernel_rfl) rfl
              have f3_ : a1.eval (.tmp 3) = .int .i64 (k : Int) := hk1.ev_old 3 (by kernel_rfl)
              have g3_ : a1.tmps[3]?.getD undef = .int .i64 (k : Int) := by simpa [Act.eval] using f3_
              exact stepOk_valG (wanted_at (t := 26) rfl rfl q14) (v := .int .i64 (k : Int)) (by go_simp) rfl
            · obtain ⟨y14, e14, q14, rfl⟩ := hk1.ev_new hd1 14 26 (by kernel_rfl) rfl
              obtain ⟨y15, e15, q15, rfl⟩ := hk1.ev_new hd1 15 27 (by kernel_rfl) rfl
              exact stepOk_valG (wanted_at (t := 26) rfl rfl q14) (run_eqI (.tmp 27) (.const (.int .i64 255)) 3 rfl (k : Int) 255 e15 rfl) (by rw [decide_eq_false (by omega)]; rfl)
            · obtain ⟨y7, e7, q7, rfl⟩ := hk1.ev_new hd1 7 19 (by kernel_rfl) rfl
              obtain ⟨y14, e14, q14, rfl⟩ := hk1.ev_new hd1 14 26 (by kernel_rfl) rfl
              obtain ⟨y16, e16, q16, rfl⟩ := hk1.ev_new hd1 16 28 (by kernel_rfl) rfl
              exact stepOk_valG (wanted_at (t := 19) rfl rfl q7) (v := .bool false) (by go_simp) rfl
            · obtain ⟨y7, e7, q7, rfl⟩ := hk1.ev_new hd1 7 19 (by kernel_rfl) rfl
              obtain ⟨y11, e11, q11, rfl⟩ := hk1.ev_new hd1 11 23 (by kernel_rfl) rfl
              obtain ⟨y17, e17, q17, rfl⟩ := hk1.ev_new hd1 17 29 (by kernel_rfl) rfl
              exact stepOk_valG (wanted_at (t := 19) rfl rfl q7) (v := .bool false) (by go_simp) rfl
          · intro a1 w9 hb9 hp
            obtain ⟨x0, p0, x1, p1, x2, p2, x3, p3, x4, p4, x5, p5, x6, p6, x7, p7, x8, p8, x9, p9, x10, p10, x11, p11, x12, p12, x13, p13, x14, p14, x15, p15, x16, p16, x17, p17, x18, p18, rfl⟩ := hp
            simp only [lnC] at p0 p1 p2 p3 p4 p5 p6 p7 p8 p9 p10 p11 p12 p13 p14 p15 p16 p17 p18
            subst p0 p1 p2 p3 p4 p5 p6 p7 p8 p9 p10 p11 p12 p13 p14 p15 p16 p17 p18
            simp only [List.drop_succ_cons, List.drop_zero, Act.put, List.setIfInBounds_toArray, List.set_cons_succ, List.set_cons_zero]
            go_wp2_with fail
            go_roundw
            case rel => exact ⟨k + 1, by omega, by go_num, ft.below hb9, fd.below hb9, Below.then_ hB hb9⟩
            case measure => simp [intOf]; omega
    · obtain rfl : k = 256 := by omega
      clear HBO HB7 HB255
      go_wp2_with (first
        | (with_reducible refine wpList_is (o := ⟨some 32, _, _, _, _, _⟩) rfl (run_bS9 rfl RS.out) ?_)
        | (with_reducible refine wpList_alloc (o := ⟨some 4, _, _, _, _, _⟩) rfl 31 rfl (cb (List.replicate 32 0)) (by kernel_rfl) 32 (len_zb 32) (by decide) ?_; intro gs w6 hgs hFs hBs; have z6 := hBs.size; have hBw6 := Below.then_ hB hBs)
        | (with_reducible refine wpList_store rfl rfl (.tmp 4) (.tmp 32) 31 rfl gs 0 wr.heap.size 31 32 (cb (List.replicate 32 0)) (cb sd) rfl rfl 32 HSL.out (by kernel_rfl) hFs (by omega) (cb_one _) w hBw6 (by have := hB.size; omega) ?_; intro w7 f7 hB7 ho7 hz7))
      rw [splice_zb 32 sd HS.out] at f7
      have ft7 := (ft.below hBs).other (g' := gs) (by have := ft.lt_size; omega) ho7
      have fd7 := (fd.below hBs).other (g' := gs) (by have := fd.lt_size; omega) ho7
      have fs7 := f7.lower (base' := w.heap.size) (by have := hB.size; omega)
      clear ft fd hB hFs hBs hBw6 f7 ho7 hz7 z6
      have ft := ft7
      have fd := fd7
      have fs := fs7
      clear ft7 fd7 fs7
      refine region_all_tail 22 (lnN d sd X K) (by kernel_rfl) (by kernel_rfl) (by kernel_rfl) (lnN_stab _ _ _ _) ?_ ?_
      · intro w0 hb0
        simp only [List.take_succ_cons, List.take_zero]
        refine ⟨?_, ?_, ?_, ?_, ?_, ?_, ?_, ?_, ?_, ?_, ?_, ?_, ?_, ?_, ?_, ?_, ?_, ?_, ?_, ?_, ?_, ?_, trivial⟩
        all_goals intro listed a1 w' hk1 hd1
        · have f2_ : a1.eval (.tmp 2) = .pointer (some ⟨gd, 0, none⟩) := hk1.ev_old 2 (by kernel_rfl)
          have g2_ : a1.tmps[2]?.getD undef = .pointer (some ⟨gd, 0, none⟩) := by simpa [Act.eval] using f2_
          exact stepOk_value rfl (run_load_agg (.tmp 2) 32 rfl (hk1.ev_old 2 (by kernel_rfl)) (cb d) 32 HDL.out (by kernel_rfl) ((fd.below hb0).below hk1.below).sees) rfl
        · obtain ⟨y0, e0, q0, rfl⟩ := hk1.ev_new hd1 0 33 (by kernel_rfl) rfl
          refine stepOk_enter rfl (f := 52) (args := #[.agg (cb d).toArray, .int .i64 (-1)]) (by go_simp) ?_
          have ho := HM.out w'
          refine ho.mono ?_
          rintro e w5 ⟨rfl, hB5⟩
          exact ⟨_, rfl, rfl, hB5⟩
        · obtain ⟨y1, e1, q1, rfl⟩ := hk1.ev_new hd1 1 34 (by kernel_rfl) rfl
          exact stepOk_value rfl (v := .bool true) (by go_simp) rfl
        · obtain ⟨y2, e2, q2, rfl⟩ := hk1.ev_new hd1 2 35 (by kernel_rfl) rfl
          exact stepOk_value rfl (v := .bool true) (by go_simp) rfl
        · obtain ⟨y3, e3, q3, rfl⟩ := hk1.ev_new hd1 3 36 (by kernel_rfl) rfl
          have f2_ : a1.eval (.tmp 2) = .pointer (some ⟨gd, 0, none⟩) := hk1.ev_old 2 (by kernel_rfl)
          have g2_ : a1.tmps[2]?.getD undef = .pointer (some ⟨gd, 0, none⟩) := by simpa [Act.eval] using f2_
          exact stepOk_valG (wanted_at (t := 36) rfl rfl q3) (run_load_agg (.tmp 2) 32 rfl (hk1.ev_old 2 (by kernel_rfl)) (cb d) 32 HDL.out (by kernel_rfl) ((fd.below hb0).below hk1.below).sees) rfl
        · obtain ⟨y3, e3, q3, rfl⟩ := hk1.ev_new hd1 3 36 (by kernel_rfl) rfl
          obtain ⟨y4, e4, q4, rfl⟩ := hk1.ev_new hd1 4 37 (by kernel_rfl) rfl
          refine stepOk_enter (wanted_at (t := 36) rfl rfl q3) (f := 52) (args := #[.agg (cb d).toArray, .int .i64 (256)]) (by go_simp) ?_
          have ho := HO.out w'
          refine ho.mono ?_
          rintro e w5 ⟨rfl, hB5⟩
          exact ⟨_, rfl, rfl, hB5⟩
        · obtain ⟨y3, e3, q3, rfl⟩ := hk1.ev_new hd1 3 36 (by kernel_rfl) rfl
          obtain ⟨y5, e5, q5, rfl⟩ := hk1.ev_new hd1 5 38 (by kernel_rfl) rfl
          exact stepOk_valG (wanted_at (t := 36) rfl rfl q3) (v := .bool true) (by go_simp) rfl
        · obtain ⟨y3, e3, q3, rfl⟩ := hk1.ev_new hd1 3 36 (by kernel_rfl) rfl
          obtain ⟨y6, e6, q6, rfl⟩ := hk1.ev_new hd1 6 39 (by kernel_rfl) rfl
          exact stepOk_value rfl (v := .bool true) (by go_simp) rfl
        · obtain ⟨y7, e7, q7, rfl⟩ := hk1.ev_new hd1 7 40 (by kernel_rfl) rfl
          exact stepOk_value rfl (v := .bool true) (by go_simp) rfl
        · obtain ⟨y8, e8, q8, rfl⟩ := hk1.ev_new hd1 8 41 (by kernel_rfl) rfl
          have f4_ : a1.eval (.tmp 4) = .pointer (some ⟨gs, 0, none⟩) := hk1.ev_old 4 (by kernel_rfl)
          have g4_ : a1.tmps[4]?.getD undef = .pointer (some ⟨gs, 0, none⟩) := by simpa [Act.eval] using f4_
          exact stepOk_valG (wanted_at (t := 41) rfl rfl q8) (run_load_agg (.tmp 4) 31 rfl (hk1.ev_old 4 (by kernel_rfl)) (cb sd) 32 HSL.out (by kernel_rfl) ((fs.below hb0).below hk1.below).sees) rfl
        · obtain ⟨y8, e8, q8, rfl⟩ := hk1.ev_new hd1 8 41 (by kernel_rfl) rfl
          have f1_ : a1.eval (.tmp 1) = .pointer (some ⟨gt, 0, none⟩) := hk1.ev_old 1 (by kernel_rfl)
          have g1_ : a1.tmps[1]?.getD undef = .pointer (some ⟨gt, 0, none⟩) := by simpa [Act.eval] using f1_
          obtain ⟨y9, e9, q9, rfl⟩ := hk1.ev_new hd1 9 42 (by kernel_rfl) rfl
          refine stepOk_enter (wanted_at (t := 41) rfl rfl q8) (f := 54) (args := #[.pointer (some ⟨gt, 0, none⟩), .agg (cb sd).toArray, .int .i64 (-5), .int .i64 (-1), .int .i64 (-9)]) (by go_simp) ?_
          have ho := HX1.out w' gt ((ft.below hb0).below hk1.below)
          refine ho.mono ?_
          rintro e w5 ⟨rfl, hB5⟩
          exact ⟨_, rfl, rfl, hB5⟩
        · obtain ⟨y8, e8, q8, rfl⟩ := hk1.ev_new hd1 8 41 (by kernel_rfl) rfl
          have f4_ : a1.eval (.tmp 4) = .pointer (some ⟨gs, 0, none⟩) := hk1.ev_old 4 (by kernel_rfl)
          have g4_ : a1.tmps[4]?.getD undef = .pointer (some ⟨gs, 0, none⟩) := by simpa [Act.eval] using f4_
          exact stepOk_valG (wanted_at (t := 41) rfl rfl q8) (run_load_agg (.tmp 4) 31 rfl (hk1.ev_old 4 (by kernel_rfl)) (cb sd) 32 HSL.out (by kernel_rfl) ((fs.below hb0).below hk1.below).sees) rfl
        · obtain ⟨y8, e8, q8, rfl⟩ := hk1.ev_new hd1 8 41 (by kernel_rfl) rfl
          have f1_ : a1.eval (.tmp 1) = .pointer (some ⟨gt, 0, none⟩) := hk1.ev_old 1 (by kernel_rfl)
          have g1_ : a1.tmps[1]?.getD undef = .pointer (some ⟨gt, 0, none⟩) := by simpa [Act.eval] using f1_
          obtain ⟨y11, e11, q11, rfl⟩ := hk1.ev_new hd1 11 44 (by kernel_rfl) rfl
          refine stepOk_enter (wanted_at (t := 41) rfl rfl q8) (f := 54) (args := #[.pointer (some ⟨gt, 0, none⟩), .agg (cb sd).toArray, .int .i64 (0), .int .i64 (0), .int .i64 (0)]) (by go_simp) ?_
          have ho := HX2.out w' gt ((ft.below hb0).below hk1.below)
          refine ho.mono ?_
          rintro e w5 ⟨rfl, hB5⟩
          exact ⟨_, rfl, rfl, hB5⟩
        · obtain ⟨y8, e8, q8, rfl⟩ := hk1.ev_new hd1 8 41 (by kernel_rfl) rfl
          obtain ⟨y10, e10, q10, rfl⟩ := hk1.ev_new hd1 10 43 (by kernel_rfl) rfl
          obtain ⟨y12, e12, q12, rfl⟩ := hk1.ev_new hd1 12 45 (by kernel_rfl) rfl
          exact stepOk_valG (wanted_at (t := 41) rfl rfl q8) (run_eq31b (.tmp 43) (.tmp 45) 31 rfl X X e10 e12 HXL.out HXL.out) (by show Value.bool (X == X) = _; simp)
        · obtain ⟨y8, e8, q8, rfl⟩ := hk1.ev_new hd1 8 41 (by kernel_rfl) rfl
          obtain ⟨y13, e13, q13, rfl⟩ := hk1.ev_new hd1 13 46 (by kernel_rfl) rfl
          exact stepOk_value rfl (v := .bool true) (by go_simp) rfl
        · obtain ⟨y14, e14, q14, rfl⟩ := hk1.ev_new hd1 14 47 (by kernel_rfl) rfl
          exact stepOk_value rfl (v := .bool true) (by go_simp) rfl
        · obtain ⟨y15, e15, q15, rfl⟩ := hk1.ev_new hd1 15 48 (by kernel_rfl) rfl
          have f4_ : a1.eval (.tmp 4) = .pointer (some ⟨gs, 0, none⟩) := hk1.ev_old 4 (by kernel_rfl)
          have g4_ : a1.tmps[4]?.getD undef = .pointer (some ⟨gs, 0, none⟩) := by simpa [Act.eval] using f4_
          exact stepOk_valG (wanted_at (t := 48) rfl rfl q15) (run_load_agg (.tmp 4) 31 rfl (hk1.ev_old 4 (by kernel_rfl)) (cb sd) 32 HSL.out (by kernel_rfl) ((fs.below hb0).below hk1.below).sees) rfl
        · obtain ⟨y15, e15, q15, rfl⟩ := hk1.ev_new hd1 15 48 (by kernel_rfl) rfl
          have f1_ : a1.eval (.tmp 1) = .pointer (some ⟨gt, 0, none⟩) := hk1.ev_old 1 (by kernel_rfl)
          have g1_ : a1.tmps[1]?.getD undef = .pointer (some ⟨gt, 0, none⟩) := by simpa [Act.eval] using f1_
          obtain ⟨y16, e16, q16, rfl⟩ := hk1.ev_new hd1 16 49 (by kernel_rfl) rfl
          refine stepOk_enter (wanted_at (t := 48) rfl rfl q15) (f := 55) (args := #[.pointer (some ⟨gt, 0, none⟩), .agg (cb sd).toArray, .int .i64 (-1)]) (by go_simp) ?_
          have ho := HK1.out w' gt ((ft.below hb0).below hk1.below)
          refine ho.mono ?_
          rintro e w5 ⟨rfl, hB5⟩
          exact ⟨_, rfl, rfl, hB5⟩
        · obtain ⟨y15, e15, q15, rfl⟩ := hk1.ev_new hd1 15 48 (by kernel_rfl) rfl
          have f4_ : a1.eval (.tmp 4) = .pointer (some ⟨gs, 0, none⟩) := hk1.ev_old 4 (by kernel_rfl)
          have g4_ : a1.tmps[4]?.getD undef = .pointer (some ⟨gs, 0, none⟩) := by simpa [Act.eval] using f4_
          exact stepOk_valG (wanted_at (t := 48) rfl rfl q15) (run_load_agg (.tmp 4) 31 rfl (hk1.ev_old 4 (by kernel_rfl)) (cb sd) 32 HSL.out (by kernel_rfl) ((fs.below hb0).below hk1.below).sees) rfl
        · obtain ⟨y15, e15, q15, rfl⟩ := hk1.ev_new hd1 15 48 (by kernel_rfl) rfl
          have f1_ : a1.eval (.tmp 1) = .pointer (some ⟨gt, 0, none⟩) := hk1.ev_old 1 (by kernel_rfl)
          have g1_ : a1.tmps[1]?.getD undef = .pointer (some ⟨gt, 0, none⟩) := by simpa [Act.eval] using f1_
          obtain ⟨y18, e18, q18, rfl⟩ := hk1.ev_new hd1 18 51 (by kernel_rfl) rfl
          refine stepOk_enter (wanted_at (t := 48) rfl rfl q15) (f := 55) (args := #[.pointer (some ⟨gt, 0, none⟩), .agg (cb sd).toArray, .int .i64 (0)]) (by go_simp) ?_
          have ho := HK2.out w' gt ((ft.below hb0).below hk1.below)
          refine ho.mono ?_
          rintro e w5 ⟨rfl, hB5⟩
          exact ⟨_, rfl, rfl, hB5⟩
        · obtain ⟨y15, e15, q15, rfl⟩ := hk1.ev_new hd1 15 48 (by kernel_rfl) rfl
          obtain ⟨y17, e17, q17, rfl⟩ := hk1.ev_new hd1 17 50 (by kernel_rfl) rfl
          obtain ⟨y19, e19, q19, rfl⟩ := hk1.ev_new hd1 19 52 (by kernel_rfl) rfl
          exact stepOk_valG (wanted_at (t := 48) rfl rfl q15) (run_eq32b (.tmp 50) (.tmp 52) 32 rfl K K e17 e19 HKL.out HKL.out) (by show Value.bool (K == K) = _; simp)
        · obtain ⟨y15, e15, q15, rfl⟩ := hk1.ev_new hd1 15 48 (by kernel_rfl) rfl
          obtain ⟨y20, e20, q20, rfl⟩ := hk1.ev_new hd1 20 53 (by kernel_rfl) rfl
          exact stepOk_value rfl (v := .bool true) (by go_simp) rfl
      · intro a1 w9 hb9 hp
        obtain ⟨x0, p0, x1, p1, x2, p2, x3, p3, x4, p4, x5, p5, x6, p6, x7, p7, x8, p8, x9, p9, x10, p10, x11, p11, x12, p12, x13, p13, x14, p14, x15, p15, x16, p16, x17, p17, x18, p18, x19, p19, x20, p20, x21, p21, rfl⟩ := hp
        simp only [lnN] at p0 p1 p2 p3 p4 p5 p6 p7 p8 p9 p10 p11 p12 p13 p14 p15 p16 p17 p18 p19 p20 p21
        subst p0 p1 p2 p3 p4 p5 p6 p7 p8 p9 p10 p11 p12 p13 p14 p15 p16 p17 p18 p19 p20 p21
        simp only [List.drop_succ_cons, List.drop_zero, Act.put, List.setIfInBounds_toArray, List.set_cons_succ, List.set_cons_zero]
        have gs9 := fs.below hb9
        have gd9 := fd.below hb9
        have hBw9 := Below.then_ hB7 hb9
        clear ft fd fs hb9 hB7 HX1 HX2 HK1 HK2 HM HO
        go_wp2_with (first
          | (with_reducible refine wpList_load_g (o := ⟨some 57, _, _, _, _, _⟩) (.tmp 4) 31 rfl gs 0 _ rfl (cb sd) 32 HSL.out (by kernel_rfl) gs9.sees (by kernel_rfl) ?_)
          | (go_at_call 54; with_reducible refine (NS.out _).mono ?_; rintro e w11 ⟨rfl, hB11⟩; have g11 := gs9.below hB11; have k11 := gd9.below hB11; have hBw11 := Below.then_ hBw9 hB11)
          | (with_reducible refine wpList_gis (o := ⟨some 59, _, _, _, _, _⟩) rfl (run_bd 31 rfl RE.out) ?_)
          | (with_reducible refine wpList_gis (o := ⟨some 60, _, _, _, _, _⟩) rfl (run_eq31b (.tmp 58) (.tmp 59) 31 rfl Z Z rfl rfl HZL.out HZL.out) ?_; rw [beq_self_eq_true])
          | (with_reducible refine wpList_load_g (o := ⟨some 63, _, _, _, _, _⟩) (.tmp 4) 31 rfl gs 0 _ rfl (cb sd) 32 HSL.out (by kernel_rfl) g11.sees (by kernel_rfl) ?_)
          | (go_at_call 56; with_reducible refine (NH.out _).mono ?_; rintro e w12 ⟨rfl, hB12⟩; have g12 := g11.below hB12; have k12 := k11.below hB12; have hBw12 := Below.then_ hBw11 hB12)
          | (with_reducible refine wpList_gis (o := ⟨some 65, _, _, _, _, _⟩) rfl (run_bd 32 rfl RG.out) ?_)
          | (with_reducible refine wpList_gis (o := ⟨some 66, _, _, _, _, _⟩) rfl (run_eq32b (.tmp 64) (.tmp 65) 32 rfl Z Z rfl rfl HZL.out HZL.out) ?_; rw [beq_self_eq_true])
          | (with_reducible refine wpList_load_g (o := ⟨some 69, _, _, _, _, _⟩) (.tmp 4) 31 rfl gs 0 _ rfl (cb sd) 32 HSL.out (by kernel_rfl) g12.sees (by kernel_rfl) ?_)
          | (go_at_call 55; with_reducible refine (NK.out _).mono ?_; rintro e w13 ⟨rfl, hB13⟩; have g13 := g12.below hB13; have k13 := k12.below hB13; have hBw13 := Below.then_ hBw12 hB13)
          | (with_reducible refine wpList_gis (o := ⟨some 71, _, _, _, _, _⟩) rfl (run_bd 32 rfl RG.out) ?_)
          | (with_reducible refine wpList_gis (o := ⟨some 72, _, _, _, _, _⟩) rfl (run_eq32b (.tmp 70) (.tmp 71) 32 rfl Z Z rfl rfl HZL.out HZL.out) ?_; rw [beq_self_eq_true])
          | (with_reducible refine wpList_load_g (o := ⟨some 75, _, _, _, _, _⟩) (.tmp 4) 31 rfl gs 0 _ rfl (cb sd) 32 HSL.out (by kernel_rfl) g13.sees (by kernel_rfl) ?_)
          | (with_reducible refine wpList_load_g (o := ⟨some 76, _, _, _, _, _⟩) (.tmp 2) 32 rfl gd 0 _ rfl (cb d) 32 HDL.out (by kernel_rfl) k13.sees (by kernel_rfl) ?_)
          | (go_at_call 57; with_reducible refine (NG.out _).mono ?_; rintro e w14 ⟨rfl, hB14⟩; have k14 := k13.below hB14; have hBw14 := Below.then_ hBw13 hB14)
          | (with_reducible refine wpList_gis (o := ⟨some 78, _, _, _, _, _⟩) rfl (run_bd 100 rfl RL.out) ?_)
          | (with_reducible refine wpList_gis (o := ⟨some 79, _, _, _, _, _⟩) rfl (run_eq_lam (.tmp 77) (.tmp 78) 100 rfl Y rfl rfl HYL.out) ?_)
          | (with_reducible refine wpList_load_g (o := ⟨some 82, _, _, _, _, _⟩) (.tmp 2) 32 rfl gd 0 _ rfl (cb d) 32 HDL.out (by kernel_rfl) k14.sees (by kernel_rfl) ?_)
          | (with_reducible refine wpList_gis (o := ⟨some 83, _, _, _, _, _⟩) rfl (run_bd 100 rfl RL.out) ?_)
          | (go_at_call 58; with_reducible refine (NO.out _).mono ?_; rintro e w15 ⟨rfl, hB15⟩; have hBw15 := Below.then_ hBw14 hB15)
          | (with_reducible refine wpList_gis (o := ⟨some 85, _, _, _, _, _⟩) rfl (run_bd 32 rfl RG.out) ?_)
          | (with_reducible refine wpList_gis (o := ⟨some 86, _, _, _, _, _⟩) rfl (run_eq32b (.tmp 84) (.tmp 85) 32 rfl Z Z rfl rfl HZL.out HZL.out) ?_; rw [beq_self_eq_true])
          | (go_at_call 59; refine awake9_any.mono ?_; rintro e w17 ⟨rfl, hB17⟩))
        go_ret
        exact ⟨rfl, Below.then_ hBw15 hB17⟩
set_option maxRecDepth 100000 in
theorem lamnums_walk (W : World) : Calls Try.prog 6 #[] W fun e w' => e = .returned (.bool true) ∧ Below W.heap.size W w' := by
  have h8 : firstL.length = 8 := by decide
  have h64 : keysL.length = 64 := by decide
  have hs : s9s.length = 32 := by decide
  have hd : d1s.length = 32 := by decide
  have hat : ∀ w' (g : Nat), Fresh W.heap.size 26 w' (some ⟨g, 0, none⟩) 72 72 (cw (firstL ++ keysL)) → DgAt w' (some ⟨g, 0, none⟩) (Dg.tab firstL keysL h8) := fun w' g hF => DgAt.of_tab (w := w') (tb := g) (tf := 0) (first := firstL) (keys := keysL) ⟨h8, h64, hF.sees⟩
  refine lnums_walk (cw (firstL ++ keysL)) (by rw [List.length_map, List.length_append, h8, h64]) (Lib.hid (cw_one _)) d1s s9s (secF (Dg.tab firstL keysL h8) s9s 0 0 0) (keyF9 (Dg.tab firstL keysL h8) s9s 0) (List.replicate 32 0) (List.replicate 16384 0)
    (Lib.hid fun w' => Table_any w') bdD1 bdS9 (Lib.hid bd31) (Lib.hid bd32) (Lib.hid bdLA) (Lib.hid hd) (Lib.hid hs) (Lib.hid (len_secF _ _ _ _ _)) (Lib.hid ((Dg.tab firstL keysL h8).lof _)) (Lib.hid List.length_replicate) (Lib.hid List.length_replicate)
    (Lib.hid (by decide)) (Lib.hid (by decide)) (Lib.hid bits1) (Lib.hid (by decide)) (Lib.hid (by decide)) ?_ ?_ ?_ ?_ ?_ ?_ ?_ ?_ ?_
  · exact Lib.hid fun w' g hF => Secret_any (hat w' g hF) s9s hs (-5) (-1) (-9) (by omega) (by omega) (by omega)
  · exact Lib.hid fun w' g hF => Secret_any (hat w' g hF) s9s hs 0 0 0 (by omega) (by omega) (by omega)
  · exact Lib.hid fun w' g hF => Key_any (hat w' g hF) s9s hs (-1) (by omega)
  · exact Lib.hid fun w' g hF => Key_any (hat w' g hF) s9s hs 0 (by omega)
  · exact Lib.hid fun w' => Secret_any (DgAt.nil w') s9s hs 1 2 1 (by omega) (by omega) (by omega)
  · exact Lib.hid fun w' => Half_any (DgAt.nil w') s9s hs
  · exact Lib.hid fun w' => Key_any (DgAt.nil w') s9s hs 1 (by omega)
  · have e : signS Dg.nil s9s 1 d1s ++ signO Dg.nil s9s 1 d1s = List.replicate 16384 0 := by
      unfold signS signO
      rw [chunks_nil (signSF Dg.nil s9s 1 d1s) (fun _ => rfl), chunks_nil (signOF Dg.nil s9s 1 d1s) (fun _ => rfl), List.replicate_append_replicate]
    refine Lib.hid fun w' => ?_
    have ho := Sign_any (DgAt.nil w') s9s hs 1 (by omega) d1s hd
    rw [show (1 : Int).toNat = 1 from rfl, e] at ho
    exact ho
  · refine Lib.hid fun w' => ?_
    have ho := Open_any (DgAt.nil w') d1s zA zA hd zA_len zA_len
    rw [show zA ++ zA = List.replicate 16384 0 from by unfold zA; rw [List.replicate_append_replicate]] at ho
    exact ho
end
end Go.Proofs.Ytehokoeajinboaa
