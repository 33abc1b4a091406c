/-
  LamportKeys returns true for every input, and writes nothing that was there: the walk.
-/
import Derived.Test.YtehokoeajinboaaLamRefK
import Derived.Test.YtehokoeajinboaaRoundsSame
import Derived.ProofKit
import Derived.OpenShut
namespace Go.Proofs.Ytehokoeajinboaa
open Go.RowKit
set_option linter.unusedVariables false

def lkF (TB : List Value) (leaf : Int) (seed d K Z : List UInt8) (j : Nat) (x : Value) (w : World) : Prop :=
  match j with
  | 0 => x = .agg (cb seed).toArray
  | 1 => x = .int .i64 leaf
  | 2 => x = .agg (cb K).toArray
  | 3 => x = .agg TB.toArray
  | 4 => x = .agg (cb seed).toArray
  | 5 => x = .int .i64 leaf
  | 6 => x = .agg (cb K).toArray
  | 7 => x = .bool true
  | 8 => x = .bool true
  | 9 => x = .agg (cb seed).toArray
  | 10 => x = .int .i64 leaf
  | 11 => x = .agg (cb d).toArray
  | 12 => x = .agg (cb Z).toArray
  | 13 => x = .agg TB.toArray
  | 14 => x = .agg (cb seed).toArray
  | 15 => x = .int .i64 leaf
  | 16 => x = .agg (cb d).toArray
  | 17 => x = .agg (cb Z).toArray
  | 18 => x = .bool true
  | 19 => x = .bool true
  | _ => True
theorem lkF_stab (TB : List Value) (leaf : Int) (seed d K Z : List UInt8) : ∀ j x w w', Below w.heap.size w w' → lkF TB leaf seed d K Z j x w → lkF TB leaf seed d K Z j x w' := fun _ _ _ _ _ h => h

theorem eqElems_same {P : Program} (d : Nat) (e : TypeId) (n : Nat) (xs : Array Value) : ∀ l : List Nat, (∀ i ∈ l, ∃ a, (∀ w, (part e xs (i * n)).run P w = .ok a w) ∧ ∀ w, (Op.equalIn d e a a).run P w = .ok true w) → ∀ w, (eqElems d e n xs xs l).run P w = .ok true w
  | [], _, w => rfl
  | i :: l, h, w => by
    obtain ⟨a, h1, h2⟩ := h i (by simp)
    have ih := eqElems_same d e n xs l (fun j hj => h j (by simp [hj]))
    simp only [eqElems, Sem.run_bind, h1, h2, Result.andThen_ok, Bool.not_true, Bool.false_eq_true, if_false]
    exact ih w
theorem part_bytes (t : TypeId) (n off : Nat) (xs : List UInt8) (h1 : ∀ w, (isAgg t).run Try.prog w = .ok true w) (h2 : ∀ w, (sizeOf t).run Try.prog w = .ok n w) (w : World) : (part t (cb xs).toArray off).run Try.prog w = .ok (.agg (cb ((xs.drop off).take n)).toArray) w := by
  simp [part, h1, h2, cb, List.map_take, List.map_drop]
theorem same_bytes9 (d : Nat) (t : TypeId) (ht : Try.prog.underlying t = some (.array 32 5)) (xs : List UInt8) (hx : xs.length = 32) (w : World) : (Op.equalIn (d + 1 + 1) t (.agg (cb xs).toArray) (.agg (cb xs).toArray)).run Try.prog w = .ok true w := by
  have h := run_equalIn_ints (P := Try.prog) d t 5 .u8 32 ht Try.underlying5 (fun w => by kernel_rfl) (xs.map fun c => (c.toNat : Int)) (xs.map fun c => (c.toNat : Int)) (by simpa using hx) (by simpa using hx) w
  rw [show (xs.map fun c => (c.toNat : Int)).map (Value.int .u8) = cb xs from by simp [cb]] at h
  rw [h]
  simp
theorem same_many (d : Nat) (t e : TypeId) (ht : Try.prog.underlying t = some (.array 256 e)) (he : Try.prog.underlying e = some (.array 32 5)) (ha : ∀ w, (isAgg e).run Try.prog w = .ok true w) (hs : ∀ w, (sizeOf e).run Try.prog w = .ok 32 w) (xs : List UInt8) (hx : xs.length = 8192) (w : World) : (Op.equalIn (d + 1 + 1 + 1) t (.agg (cb xs).toArray) (.agg (cb xs).toArray)).run Try.prog w = .ok true w := by
  rw [run_equalIn_array w _ t e 256 32 _ _ ht hs]
  refine eqElems_same _ e 32 _ _ (fun i hi => ?_) w
  have hi2 : i < 256 := by
    have := List.mem_range'.1 hi
    obtain ⟨j, h1, h2⟩ := this
    omega
  exact ⟨_, fun w => part_bytes e 32 (i * 32) xs ha hs w, fun w => same_bytes9 d e he _ (by rw [List.length_take, List.length_drop]; omega) w⟩
theorem lam_same (Z : List UInt8) (h : Z.length = 16384) (w : World) : (Op.equalIn 10000 100 (.agg (cb Z).toArray) (.agg (cb Z).toArray)).run Try.prog w = .ok true w := by
  rw [show (10000 : Nat) = 9999 + 1 from rfl, run_equalIn_struct w 9999 100 _ _ (by kernel_rfl) (by kernel_rfl)]
  refine eqFields_same _ _ _ ?_ w
  intro f hf
  have e1 : ((Try.prog.fieldsOf 100).toList.map fun f => (f.type, f.offset)) = [(97, 0), (98, 8192)] := by kernel_rfl
  have e2 : (f.type, f.offset) ∈ [((97 : TypeId), (0 : Nat)), (98, 8192)] := by rw [← e1]; exact List.mem_map_of_mem hf
  simp only [List.mem_cons, List.mem_nil_iff, or_false, Prod.mk.injEq] at e2
  rcases e2 with ⟨e3, e4⟩ | ⟨e3, e4⟩
  · rw [e3, e4]
    refine ⟨_, fun w => part_bytes 97 8192 0 Z (fun w => by kernel_rfl) (fun w => by kernel_rfl) w, fun w => ?_⟩
    exact same_many 9996 97 31 arrSA arrSE (fun w => by kernel_rfl) (fun w => by kernel_rfl) _ (by rw [List.length_take, List.length_drop]; omega) w
  · rw [e3, e4]
    refine ⟨_, fun w => part_bytes 98 8192 8192 Z (fun w => by kernel_rfl) (fun w => by kernel_rfl) w, fun w => ?_⟩
    exact same_many 9996 98 32 arrZD Try.underlying32 (fun w => by kernel_rfl) (fun w => by kernel_rfl) _ (by rw [List.length_take, List.length_drop]; omega) w
theorem run_eq_lam {o : Oper} {a : Act} {w : World} (x y : Operand) (t' : TypeId) (hop : o.op = .binOp .eql 100 x y t') (Z : List UInt8) (hx : a.eval x = .agg (cb Z).toArray) (hy : a.eval y = .agg (cb Z).toArray) (h : Z.length = 16384) : (execOp a.eval o).run Try.prog w = .ok (.value (.bool true)) w := by
  have hg : Try.prog.eqGuardType Try.prog.depth 100 = false := by kernel_rfl
  have h1 : (binOp .eql 100 (.agg (cb Z).toArray) (.agg (cb Z).toArray)).run Try.prog w = .ok (.bool true) w := by
    rw [run_eql_struct, lam_same Z h w]
    rfl
  unfold execOp
  simp [hop, hx, hy, eqGuard, hg, h1]
section
variable {w : World}
set_option maxHeartbeats 8000000 in
set_option maxRecDepth 100000 in
theorem keys_walk (first keys : List UInt32) (h8 : first.length = 8) (h64 : keys.length = 64) (seed : List UInt8) (hs : seed.length = 32) (leaf : Int) (hl : leaf ≤ 9223372036854775807) (d : List UInt8) (hd : d.length = 32) :
    Calls Try.prog 8 #[.agg (cw (first ++ keys)).toArray, .agg (cb seed).toArray, .int .i64 leaf, .agg (cb d).toArray] w fun e w' => e = .returned (.bool true) ∧ Below w.heap.size w w' := by
  have HC : Hid ((cw (first ++ keys)).length = 72) := Lib.hid (by simp [h8, h64])
  have H8 := Lib.hid h8
  have H64 := Lib.hid h64
  have HS := Lib.hid hs
  have HSL := Lib.hid (show (cb seed).length = 32 by rw [List.length_map]; exact hs)
  have HD := Lib.hid hd
  have HDL := Lib.hid (show (cb d).length = 32 by rw [List.length_map]; exact hd)
  obtain ⟨K, hK⟩ : ∃ K, keyF9 (Dg.tab first keys h8) seed leaf.toNat = K := ⟨_, rfl⟩
  obtain ⟨Z, hZ⟩ : ∃ Z, signS (Dg.tab first keys h8) seed leaf.toNat d ++ signO (Dg.tab first keys h8) seed leaf.toNat d = Z := ⟨_, rfl⟩
  have HK32 : Hid (K.length = 32) := Lib.hid (by rw [← hK]; exact (Dg.tab first keys h8).lof _)
  have HZ16 : Hid (Z.length = 16384) := Lib.hid (by rw [← hZ, List.length_append, len_signS, len_signO])
  have HK := Lib.hid hK
  have HZ := Lib.hid hZ
  obtain ⟨TB, hTB⟩ : ∃ TB, cw (first ++ keys) = TB := ⟨_, rfl⟩
  have HTB := Lib.hid hTB
  rw [hTB] at HC ⊢
  clear hs hd hK hZ hTB
  go_enter Try.func8, Try.ntmps8
  go_upto_region 1 with (first
    | (with_reducible refine wpList_box (o := ⟨some 4, _, _, _, _, _⟩) rfl (.tmp 0) 26 rfl TB rfl 72 HC.out (by decide) ?_; intro gt w1 hgt hFt hBt)
    | (with_reducible refine wpList_box (o := ⟨some 5, _, _, _, _, _⟩) rfl (.tmp 1) 31 rfl (cb seed) rfl 32 HSL.out (by decide) ?_; intro gs w2 hgs hFs hBs)
    | (with_reducible refine wpList_box (o := ⟨some 7, _, _, _, _, _⟩) rfl (.tmp 3) 32 rfl (cb d) rfl 32 HDL.out (by decide) ?_; intro gd w3 hgd hFd hBd))
  have hB := Below.then_ (Below.then_ hBt hBs) hBd
  have ft := (hFt.below hBs).below hBd
  have fs := hFs.below hBd
  have fd := hFd
  clear hFt hFs hFd hBt hBs hBd hgt hgs hgd
  refine region_all_tail 20 (lkF TB leaf seed d K Z) (by kernel_rfl) (by kernel_rfl) (by kernel_rfl) (lkF_stab _ _ _ _ _ _) ?_ ?_
  · intro w0 hb0
    simp only [List.take_succ_cons, List.take_zero]
    refine ⟨?_, ?_, ?_, ?_, ?_, ?_, ?_, ?_, ?_, ?_, ?_, ?_, ?_, ?_, ?_, ?_, ?_, ?_, ?_, ?_, trivial⟩
    all_goals intro listed a1 w' hk1 hd1
    · have f5_ : a1.eval (.tmp 5) = .pointer (some ⟨gs, 0, none⟩) := hk1.ev_old 5 (by kernel_rfl)
      have g5_ : a1.tmps[5]?.getD undef = .pointer (some ⟨gs, 0, none⟩) := by simpa [Act.eval] using f5_
      exact stepOk_value rfl (run_load_agg (.tmp 5) 31 rfl (hk1.ev_old 5 (by kernel_rfl)) (cb seed) 32 HSL.out (by kernel_rfl) ((fs.below hb0).below hk1.below).sees) rfl
    · have f2_ : a1.eval (.tmp 2) = .int .i64 leaf := hk1.ev_old 2 (by kernel_rfl)
      have g2_ : a1.tmps[2]?.getD undef = .int .i64 leaf := by simpa [Act.eval] using f2_
      exact stepOk_value rfl (v := .int .i64 leaf) (by go_simp) rfl
    · have f4_ : a1.eval (.tmp 4) = .pointer (some ⟨gt, 0, none⟩) := hk1.ev_old 4 (by kernel_rfl)
      have g4_ : a1.tmps[4]?.getD undef = .pointer (some ⟨gt, 0, none⟩) := by simpa [Act.eval] using f4_
      obtain ⟨y0, e0, q0, rfl⟩ := hk1.ev_new hd1 0 9 (by kernel_rfl) rfl
      obtain ⟨y1, e1, q1, rfl⟩ := hk1.ev_new hd1 1 10 (by kernel_rfl) rfl
      refine stepOk_enter rfl (f := 55) (args := #[.pointer (some ⟨gt, 0, none⟩), .agg (cb seed).toArray, .int .i64 leaf]) (by go_simp) ?_
      have ho := Key_any (DgAt.of_tab (w := w') (tb := gt) (tf := 0) (first := first) (keys := keys) ⟨H8.out, H64.out, by rw [HTB.out]; exact ((ft.below hb0).below hk1.below).sees⟩) seed HS.out leaf hl
      rw [HK.out] at ho
      refine ho.mono ?_
      rintro e w5 ⟨rfl, hB5⟩
      exact ⟨_, rfl, rfl, hB5⟩
    · have f4_ : a1.eval (.tmp 4) = .pointer (some ⟨gt, 0, none⟩) := hk1.ev_old 4 (by kernel_rfl)
      have g4_ : a1.tmps[4]?.getD undef = .pointer (some ⟨gt, 0, none⟩) := by simpa [Act.eval] using f4_
      exact stepOk_value rfl (run_load_agg (.tmp 4) 26 rfl (hk1.ev_old 4 (by kernel_rfl)) TB 72 HC.out (by kernel_rfl) ((ft.below hb0).below hk1.below).sees) rfl
    · have f5_ : a1.eval (.tmp 5) = .pointer (some ⟨gs, 0, none⟩) := hk1.ev_old 5 (by kernel_rfl)
      have g5_ : a1.tmps[5]?.getD undef = .pointer (some ⟨gs, 0, none⟩) := by simpa [Act.eval] using f5_
      exact stepOk_value rfl (run_load_agg (.tmp 5) 31 rfl (hk1.ev_old 5 (by kernel_rfl)) (cb seed) 32 HSL.out (by kernel_rfl) ((fs.below hb0).below hk1.below).sees) rfl
    · have f2_ : a1.eval (.tmp 2) = .int .i64 leaf := hk1.ev_old 2 (by kernel_rfl)
      have g2_ : a1.tmps[2]?.getD undef = .int .i64 leaf := by simpa [Act.eval] using f2_
      exact stepOk_value rfl (v := .int .i64 leaf) (by go_simp) rfl
    · obtain ⟨y3, e3, q3, rfl⟩ := hk1.ev_new hd1 3 12 (by kernel_rfl) rfl
      obtain ⟨y4, e4, q4, rfl⟩ := hk1.ev_new hd1 4 13 (by kernel_rfl) rfl
      obtain ⟨y5, e5, q5, rfl⟩ := hk1.ev_new hd1 5 14 (by kernel_rfl) rfl
      refine stepOk_enter rfl (f := 65) (args := #[.agg TB.toArray, .agg (cb seed).toArray, .int .i64 leaf]) (by go_simp) ?_
      have ho := rKey_any (w := w') first keys H8.out H64.out seed HS.out leaf hl
      rw [HK.out, HTB.out] at ho
      refine ho.mono ?_
      rintro e w5 ⟨rfl, hB5⟩
      exact ⟨_, rfl, rfl, hB5⟩
    · obtain ⟨y2, e2, q2, rfl⟩ := hk1.ev_new hd1 2 11 (by kernel_rfl) rfl
      obtain ⟨y6, e6, q6, rfl⟩ := hk1.ev_new hd1 6 15 (by kernel_rfl) rfl
      exact stepOk_value rfl (run_eq32b (.tmp 11) (.tmp 15) 32 rfl K K e2 e6 HK32.out HK32.out) (by show Value.bool (K == K) = _; simp)
    · obtain ⟨y7, e7, q7, rfl⟩ := hk1.ev_new hd1 7 16 (by kernel_rfl) rfl
      exact stepOk_value rfl (v := .bool true) (by go_simp) rfl
    · obtain ⟨y8, e8, q8, rfl⟩ := hk1.ev_new hd1 8 17 (by kernel_rfl) rfl
      have f5_ : a1.eval (.tmp 5) = .pointer (some ⟨gs, 0, none⟩) := hk1.ev_old 5 (by kernel_rfl)
      have g5_ : a1.tmps[5]?.getD undef = .pointer (some ⟨gs, 0, none⟩) := by simpa [Act.eval] using f5_
      exact stepOk_valG (wanted_at (t := 17) rfl rfl q8) (run_load_agg (.tmp 5) 31 rfl (hk1.ev_old 5 (by kernel_rfl)) (cb seed) 32 HSL.out (by kernel_rfl) ((fs.below hb0).below hk1.below).sees) rfl
    · obtain ⟨y8, e8, q8, rfl⟩ := hk1.ev_new hd1 8 17 (by kernel_rfl) rfl
      have f2_ : a1.eval (.tmp 2) = .int .i64 leaf := hk1.ev_old 2 (by kernel_rfl)
      have g2_ : a1.tmps[2]?.getD undef = .int .i64 leaf := by simpa [Act.eval] using f2_
      exact stepOk_valG (wanted_at (t := 17) rfl rfl q8) (v := .int .i64 leaf) (by go_simp) rfl
    · obtain ⟨y8, e8, q8, rfl⟩ := hk1.ev_new hd1 8 17 (by kernel_rfl) rfl
      have f7_ : a1.eval (.tmp 7) = .pointer (some ⟨gd, 0, none⟩) := hk1.ev_old 7 (by kernel_rfl)
      have g7_ : a1.tmps[7]?.getD undef = .pointer (some ⟨gd, 0, none⟩) := by simpa [Act.eval] using f7_
      exact stepOk_valG (wanted_at (t := 17) rfl rfl q8) (run_load_agg (.tmp 7) 32 rfl (hk1.ev_old 7 (by kernel_rfl)) (cb d) 32 HDL.out (by kernel_rfl) ((fd.below hb0).below hk1.below).sees) rfl
    · obtain ⟨y8, e8, q8, rfl⟩ := hk1.ev_new hd1 8 17 (by kernel_rfl) rfl
      have f4_ : a1.eval (.tmp 4) = .pointer (some ⟨gt, 0, none⟩) := hk1.ev_old 4 (by kernel_rfl)
      have g4_ : a1.tmps[4]?.getD undef = .pointer (some ⟨gt, 0, none⟩) := by simpa [Act.eval] using f4_
      obtain ⟨y9, e9, q9, rfl⟩ := hk1.ev_new hd1 9 18 (by kernel_rfl) rfl
      obtain ⟨y10, e10, q10, rfl⟩ := hk1.ev_new hd1 10 19 (by kernel_rfl) rfl
      obtain ⟨y11, e11, q11, rfl⟩ := hk1.ev_new hd1 11 20 (by kernel_rfl) rfl
      refine stepOk_enter (wanted_at (t := 17) rfl rfl q8) (f := 57) (args := #[.pointer (some ⟨gt, 0, none⟩), .agg (cb seed).toArray, .int .i64 leaf, .agg (cb d).toArray]) (by go_simp) ?_
      have ho := Sign_any (DgAt.of_tab (w := w') (tb := gt) (tf := 0) (first := first) (keys := keys) ⟨H8.out, H64.out, by rw [HTB.out]; exact ((ft.below hb0).below hk1.below).sees⟩) seed HS.out leaf hl d HD.out
      rw [HZ.out] at ho
      refine ho.mono ?_
      rintro e w5 ⟨rfl, hB5⟩
      exact ⟨_, rfl, rfl, hB5⟩
    · obtain ⟨y8, e8, q8, rfl⟩ := hk1.ev_new hd1 8 17 (by kernel_rfl) rfl
      have f4_ : a1.eval (.tmp 4) = .pointer (some ⟨gt, 0, none⟩) := hk1.ev_old 4 (by kernel_rfl)
      have g4_ : a1.tmps[4]?.getD undef = .pointer (some ⟨gt, 0, none⟩) := by simpa [Act.eval] using f4_
      exact stepOk_valG (wanted_at (t := 17) rfl rfl q8) (run_load_agg (.tmp 4) 26 rfl (hk1.ev_old 4 (by kernel_rfl)) TB 72 HC.out (by kernel_rfl) ((ft.below hb0).below hk1.below).sees) rfl
    · obtain ⟨y8, e8, q8, rfl⟩ := hk1.ev_new hd1 8 17 (by kernel_rfl) rfl
      have f5_ : a1.eval (.tmp 5) = .pointer (some ⟨gs, 0, none⟩) := hk1.ev_old 5 (by kernel_rfl)
      have g5_ : a1.tmps[5]?.getD undef = .pointer (some ⟨gs, 0, none⟩) := by simpa [Act.eval] using f5_
      exact stepOk_valG (wanted_at (t := 17) rfl rfl q8) (run_load_agg (.tmp 5) 31 rfl (hk1.ev_old 5 (by kernel_rfl)) (cb seed) 32 HSL.out (by kernel_rfl) ((fs.below hb0).below hk1.below).sees) rfl
    · obtain ⟨y8, e8, q8, rfl⟩ := hk1.ev_new hd1 8 17 (by kernel_rfl) rfl
      have f2_ : a1.eval (.tmp 2) = .int .i64 leaf := hk1.ev_old 2 (by kernel_rfl)
      have g2_ : a1.tmps[2]?.getD undef = .int .i64 leaf := by simpa [Act.eval] using f2_
      exact stepOk_valG (wanted_at (t := 17) rfl rfl q8) (v := .int .i64 leaf) (by go_simp) rfl
    · obtain ⟨y8, e8, q8, rfl⟩ := hk1.ev_new hd1 8 17 (by kernel_rfl) rfl
      have f7_ : a1.eval (.tmp 7) = .pointer (some ⟨gd, 0, none⟩) := hk1.ev_old 7 (by kernel_rfl)
      have g7_ : a1.tmps[7]?.getD undef = .pointer (some ⟨gd, 0, none⟩) := by simpa [Act.eval] using f7_
      exact stepOk_valG (wanted_at (t := 17) rfl rfl q8) (run_load_agg (.tmp 7) 32 rfl (hk1.ev_old 7 (by kernel_rfl)) (cb d) 32 HDL.out (by kernel_rfl) ((fd.below hb0).below hk1.below).sees) rfl
    · obtain ⟨y8, e8, q8, rfl⟩ := hk1.ev_new hd1 8 17 (by kernel_rfl) rfl
      obtain ⟨y13, e13, q13, rfl⟩ := hk1.ev_new hd1 13 22 (by kernel_rfl) rfl
      obtain ⟨y14, e14, q14, rfl⟩ := hk1.ev_new hd1 14 23 (by kernel_rfl) rfl
      obtain ⟨y15, e15, q15, rfl⟩ := hk1.ev_new hd1 15 24 (by kernel_rfl) rfl
      obtain ⟨y16, e16, q16, rfl⟩ := hk1.ev_new hd1 16 25 (by kernel_rfl) rfl
      refine stepOk_enter (wanted_at (t := 17) rfl rfl q8) (f := 66) (args := #[.agg TB.toArray, .agg (cb seed).toArray, .int .i64 leaf, .agg (cb d).toArray]) (by go_simp) ?_
      have ho := rSign_any (w := w') first keys H8.out H64.out seed HS.out leaf hl d HD.out
      rw [HZ.out, HTB.out] at ho
      refine ho.mono ?_
      rintro e w5 ⟨rfl, hB5⟩
      exact ⟨_, rfl, rfl, hB5⟩
    · obtain ⟨y8, e8, q8, rfl⟩ := hk1.ev_new hd1 8 17 (by kernel_rfl) rfl
      obtain ⟨y12, e12, q12, rfl⟩ := hk1.ev_new hd1 12 21 (by kernel_rfl) rfl
      obtain ⟨y17, e17, q17, rfl⟩ := hk1.ev_new hd1 17 26 (by kernel_rfl) rfl
      exact stepOk_valG (wanted_at (t := 17) rfl rfl q8) (run_eq_lam (.tmp 21) (.tmp 26) 100 rfl Z e12 e17 HZ16.out) rfl
    · obtain ⟨y8, e8, q8, rfl⟩ := hk1.ev_new hd1 8 17 (by kernel_rfl) rfl
      obtain ⟨y18, e18, q18, rfl⟩ := hk1.ev_new hd1 18 27 (by kernel_rfl) rfl
      exact stepOk_value rfl (v := .bool true) (by go_simp) rfl
  · intro a1 w7 hb7 hp
    obtain ⟨x0, p0, x1, p1, x2, p2, x3, p3, x4, p4, x5, p5, x6, p6, x7, p7, x8, p8, x9, p9, x10, p10, x11, p11, x12, p12, x13, p13, x14, p14, x15, p15, x16, p16, x17, p17, x18, p18, x19, p19, rfl⟩ := hp
    simp only [lkF] at p0 p1 p2 p3 p4 p5 p6 p7 p8 p9 p10 p11 p12 p13 p14 p15 p16 p17 p18 p19
    subst p0 p1 p2 p3 p4 p5 p6 p7 p8 p9 p10 p11 p12 p13 p14 p15 p16 p17 p18 p19
    simp only [List.drop_succ_cons, List.drop_zero, Act.put, List.setIfInBounds_toArray, List.set_cons_succ, List.set_cons_zero]
    have hBw7 := Below.then_ hB hb7
    go_wp2_with (go_at_call 59; refine awake9_any.mono ?_; rintro e w17 ⟨rfl, hB17⟩)
    go_ret
    exact ⟨rfl, Below.then_ hBw7 hB17⟩
theorem keys_law (W : World) (first keys : List UInt32) (h8 : first.length = 8) (h64 : keys.length = 64) (seed : List UInt8) (hs : seed.length = 32) (leaf : Int) (wl : (Lit.int .i64 leaf).wf = true) (d : List UInt8) (hd : d.length = 32) :
    Calls Try.prog 8 #[.agg (cw (first ++ keys)).toArray, .agg (cb seed).toArray, .int .i64 leaf, .agg (cb d).toArray] W fun e w' => e = .returned (.bool true) ∧ Below W.heap.size W w' :=
  keys_walk first keys h8 h64 seed hs leaf (bounds_i64 wl).2 d hd
end
end Go.Proofs.Ytehokoeajinboaa
