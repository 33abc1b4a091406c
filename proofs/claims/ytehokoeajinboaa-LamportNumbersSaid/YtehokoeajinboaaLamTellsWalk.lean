/-
  LamportTells returns true for every input, and writes nothing that was there: the walk.
-/
import Derived.Test.YtehokoeajinboaaLamRefO
import Derived.Test.YtehokoeajinboaaShaSame
import Derived.ProofKit
import Derived.OpenShut
namespace Go.Proofs.Ytehokoeajinboaa
open Go.RowKit
set_option linter.unusedVariables false

def ltT (TB : List Value) (gz bi : Nat) (leaf bit val : Int) (seed d X Y Z S O R TX : List UInt8) (j : Nat) (x : Value) (w : World) : Prop :=
  match j with
  | 0 => x = .agg (cb X).toArray
  | 1 => x = .agg TB.toArray
  | 2 => x = .agg (cb seed).toArray
  | 3 => x = .int .i64 leaf
  | 4 => x = .int .i64 bit
  | 5 => x = .int .i64 val
  | 6 => x = .agg (cb X).toArray
  | 7 => x = .bool true
  | 8 => x = .bool true
  | 9 => x = .agg (cb X).toArray
  | 10 => x = .agg (cb Y).toArray
  | 11 => x = .agg TB.toArray
  | 12 => x = .agg (cb X).toArray
  | 13 => x = .agg (cb Y).toArray
  | 14 => x = .bool true
  | 15 => x = .bool true
  | 16 => x = .bool true
  | 17 => x = .agg (cb d).toArray
  | 18 => x = .int .i64 bit
  | 19 => x = .int .i64 (bi : Int)
  | 20 => x = .agg (cb d).toArray
  | 21 => x = .int .i64 bit
  | 22 => x = .int .i64 (bi : Int)
  | 23 => x = .bool true
  | 24 => x = .bool true
  | 25 => x = .bool true
  | 26 => x = .agg (cb d).toArray
  | 27 => x = .agg (cb Z).toArray
  | 28 => x = .agg (cb R).toArray
  | 29 => x = .agg TB.toArray
  | 30 => x = .agg (cb d).toArray
  | 31 => x = .agg (cb Z).toArray
  | 32 => x = .agg (cb R).toArray
  | 33 => x = .bool true
  | 34 => x = .bool true
  | 35 => x = .bool true
  | 36 => x = .agg (cb d).toArray
  | 37 => x = .agg (cb S).toArray
  | 38 => x = .pointer (some ⟨gz, 8192, none⟩)
  | 39 => x = .agg (cb O).toArray
  | 40 => ∃ A c, x = .slice A 16900 c ∧ Sees w w.heap.size A (cb TX)
  | 41 => x = .agg (cb d).toArray
  | 42 => x = .agg (cb S).toArray
  | 43 => x = .pointer (some ⟨gz, 8192, none⟩)
  | 44 => x = .agg (cb O).toArray
  | 45 => ∃ A c, x = .slice A 16900 c ∧ Sees w w.heap.size A (cb TX)
  | 46 => x = .bool true
  | 47 => x = .bool true
  | _ => True
theorem ltT_stab (TB : List Value) (gz bi : Nat) (leaf bit val : Int) (seed d X Y Z S O R TX : List UInt8) : ∀ j x w w', Below w.heap.size w w' → ltT TB gz bi leaf bit val seed d X Y Z S O R TX j x w → ltT TB gz bi leaf bit val seed d X Y Z S O R TX j x w' := by
  intro j x w w' hb h
  unfold ltT at *
  split at h <;> first | exact h | (obtain ⟨A, c, e, hS⟩ := h; exact ⟨A, c, e, hS.step hb⟩) | trivial

theorem run_eq31b {o : Oper} {a : Act} {w : World} (x y : Operand) (t' : TypeId) (hop : o.op = .binOp .eql 31 x y t') (s t : List UInt8) (hx : a.eval x = .agg (cb s).toArray) (hy : a.eval y = .agg (cb t).toArray) (ls : s.length = 32) (lt : t.length = 32) : (execOp a.eval o).run Try.prog w = .ok (.value (.bool (s == t))) w := by
  rw [← map_beq8]
  exact run_eql_ints w x y 31 t' 5 .u8 32 hop Try.underlying31 Try.underlying5 (fun w => by kernel_rfl) (by kernel_rfl) _ _ (by rw [hx]; simp [cb]) (by rw [hy]; simp [cb]) (by simpa using ls) (by simpa using lt)
section
variable {w : World}
set_option maxHeartbeats 8000000 in
set_option maxRecDepth 100000 in
theorem ltells_walk (first keys : List UInt32) (h8 : first.length = 8) (h64 : keys.length = 64) (seed : List UInt8) (hs : seed.length = 32) (leaf bit val : Int) (hl : leaf ≤ 9223372036854775807) (hb : bit ≤ 9223372036854775807) (hv : val ≤ 9223372036854775807) (d S O : List UInt8) (hd : d.length = 32) (h1 : S.length = 8192) (h2 : O.length = 8192) :
    Calls Try.prog 7 #[.agg (cw (first ++ keys)).toArray, .agg (cb seed).toArray, .int .i64 leaf, .int .i64 bit, .int .i64 val, .agg (cb d).toArray, .agg (cb (S ++ O)).toArray] w fun e w' => e = .returned (.bool true) ∧ Below w.heap.size w w' := by
  have HC : Hid ((cw (first ++ keys)).length = 72) := Lib.hid (by simp [h8, h64])
  have H8 := Lib.hid h8
  have H64 := Lib.hid h64
  have HS := Lib.hid hs
  have HSL := Lib.hid (show (cb seed).length = 32 by rw [List.length_map]; exact hs)
  have HD := Lib.hid hd
  have HDL := Lib.hid (show (cb d).length = 32 by rw [List.length_map]; exact hd)
  have H1 := Lib.hid h1
  have H2 := Lib.hid h2
  have HSC := Lib.hid (show (cb S).length = 8192 by rw [List.length_map]; exact h1)
  have HOL := Lib.hid (show (cb O).length = 8192 by rw [List.length_map]; exact h2)
  have HZC : Hid ((cb (S ++ O)).length = 16384) := Lib.hid (by rw [List.length_map, List.length_append, h1, h2])
  have HCH : Hid (∀ k, k < 256 → chunk (S ++ O) k = chunk S k) := Lib.hid (fun k hk => chunk_lft S O h1 k hk)
  obtain ⟨Z, hZ⟩ : ∃ Z, S ++ O = Z := ⟨_, rfl⟩
  have HSRF : Hid (∀ (w' : World) (B g : Nat), Sees w' B (some ⟨g, 0, none⟩) (cb Z) → Sees w' B (some ⟨g, 8192, none⟩) (cb O)) := Lib.hid (fun w' B g h => seesO_right (S := S) (O := O) (by rw [hZ]; exact h) h1)
  rw [hZ] at HZC HCH ⊢
  have HZ := Lib.hid hZ
  obtain ⟨X, hX⟩ : ∃ X, secF (Dg.tab first keys h8) seed leaf.toNat bit.toNat val.toNat = X := ⟨_, rfl⟩
  obtain ⟨Y, hY⟩ : ∃ Y, halfF (Dg.tab first keys h8) X = Y := ⟨_, rfl⟩
  obtain ⟨R, hR⟩ : ∃ R, openF (Dg.tab first keys h8) d S O = R := ⟨_, rfl⟩
  obtain ⟨TX, hTX⟩ : ∃ TX, textP d S O = TX := ⟨_, rfl⟩
  obtain ⟨bi, hbi⟩ : ∃ bi, bitI d bit = bi := ⟨_, rfl⟩
  have HXL : Hid (X.length = 32) := Lib.hid (by rw [← hX]; exact len_secF _ _ _ _ _)
  have HXC : Hid ((cb X).length = 32) := Lib.hid (by rw [List.length_map]; exact HXL.out)
  have HYL : Hid (Y.length = 32) := Lib.hid (by rw [← hY]; exact len_halfF _ _)
  have HRL : Hid (R.length = 32) := Lib.hid (by rw [← hR]; exact (Dg.tab first keys h8).lof _)
  have HTL : Hid (TX.length = 16900) := Lib.hid (by rw [← hTX]; exact len_textP d S O h1 h2)
  have HX := Lib.hid hX
  have HY := Lib.hid hY
  have HR := Lib.hid hR
  have HTX := Lib.hid hTX
  have HBI := Lib.hid hbi
  have HKY : Hid (∀ w' (g : Nat), Fresh w.heap.size 26 w' (some ⟨g, 0, none⟩) 72 72 (cw (first ++ keys)) → Calls Try.prog 54 #[.pointer (some ⟨g, 0, none⟩), .agg (cb seed).toArray, .int .i64 leaf, .int .i64 bit, .int .i64 val] w' fun e w'' => e = .returned (.agg (cb X).toArray) ∧ Below w'.heap.size w' w'') := Lib.hid (fun w' g hF => by
    have ho := Secret_any (DgAt.of_tab (w := w') (tb := g) (tf := 0) (first := first) (keys := keys) ⟨h8, h64, hF.sees⟩) seed hs leaf bit val hl hb hv
    rw [hX] at ho
    exact ho)
  obtain ⟨TB, hTB⟩ : ∃ TB, cw (first ++ keys) = TB := ⟨_, rfl⟩
  have HTB := Lib.hid hTB
  rw [hTB] at HC HKY ⊢
  clear hs hd h1 h2 hZ hX hY hR hTX hbi hTB
  go_enter Try.func7, Try.ntmps7
  go_upto_region 3 with (first
    | (with_reducible refine wpList_box (o := ⟨some 7, _, _, _, _, _⟩) rfl (.tmp 0) 26 rfl TB rfl 72 HC.out (by decide) ?_; intro gt w1 hgt hFt hBt)
    | (with_reducible refine wpList_box (o := ⟨some 8, _, _, _, _, _⟩) rfl (.tmp 1) 31 rfl (cb seed) rfl 32 HSL.out (by decide) ?_; intro gs w2 hgs hFs hBs)
    | (with_reducible refine wpList_box (o := ⟨some 12, _, _, _, _, _⟩) rfl (.tmp 5) 32 rfl (cb d) rfl 32 HDL.out (by decide) ?_; intro gd w3 hgd hFd hBd)
    | (with_reducible refine wpList_box (o := ⟨some 13, _, _, _, _, _⟩) rfl (.tmp 6) 100 rfl (cb Z) rfl 16384 HZC.out (by decide) ?_; intro gz w4 hgz hFz hBz; have z1 := hBt.size; have z2 := hBs.size; have z3 := hBd.size; have z4 := hBz.size; have hB4 := Below.then_ (Below.then_ (Below.then_ hBt hBs) hBd) hBz; have ft4 := ((hFt.below hBs).below hBd).below hBz; have fs4 := ((hFs.below hBd).below hBz).lower (base' := w.heap.size) (by omega); have fd4 := (hFd.below hBz).lower (base' := w.heap.size) (by omega); have fz4 := hFz.lower (base' := w.heap.size) (by omega))
    | (with_reducible refine wpList_load (o := ⟨some 18, _, _, _, _, _⟩) rfl (.tmp 8) 31 rfl gs 0 _ rfl (cb seed) 32 HSL.out (by kernel_rfl) fs4.sees ?_)
    | (go_at_call 54; refine (HKY.out _ _ ft4).mono ?_; rintro e w5 ⟨rfl, hB5⟩; have hBw5 := Below.then_ hB4 hB5; have z5 := hB5.size; have ft5 := ft4.below hB5; have fs5 := fs4.below hB5; have fd5 := fd4.below hB5; have fz5 := fz4.below hB5)
    | (with_reducible refine wpList_alloc (o := ⟨some 15, _, _, _, _, _⟩) rfl 31 rfl (cb (List.replicate 32 0)) (by kernel_rfl) 32 (len_zb 32) (by decide) ?_; intro gx w6 hgx hFx hBx; have hBw6 := Below.then_ hBw5 hBx)
    | (with_reducible refine wpList_store rfl rfl (.tmp 15) (.tmp 22) 31 rfl gx 0 w5.heap.size 31 32 (cb (List.replicate 32 0)) (cb X) rfl rfl 32 HXC.out (by kernel_rfl) hFx (by omega) (cb_one _) w hBw6 (by omega) ?_; intro w7 f7 hB7 ho7 hz7; rw [splice_zb 32 X HXL.out] at f7; have ft7 := (ft5.below hBx).other (g' := gx) (by have := ft5.lt_size; omega) ho7; have fs7 := (fs5.below hBx).other (g' := gx) (by have := fs5.lt_size; omega) ho7; have fd7 := (fd5.below hBx).other (g' := gx) (by have := fd5.lt_size; omega) ho7; have fz7 := (fz5.below hBx).other (g' := gx) (by have := fz5.lt_size; omega) ho7)
    | (with_reducible refine wpList_alloc (o := ⟨some 16, _, _, _, _, _⟩) rfl 98 rfl (cb (List.replicate 8192 0)) (by kernel_rfl) 8192 (len_zb 8192) (by decide) ?_; intro gh w8 hgh hFh hBh))
  have zz := hB7.size
  have ft := ft7.below hBh
  have fs := fs7.below hBh
  have fd := fd7.below hBh
  have fz := fz7.below hBh
  have fx := (f7.below hBh).lower (base' := w.heap.size) (by omega)
  have fh := hFh.lower (base' := w.heap.size) (by omega)
  have hB := Below.then_ hB7 hBh
  have n1 : gt ≠ gh := by have := ft7.lt_size; omega
  have n2 : gs ≠ gh := by have := fs7.lt_size; omega
  have n3 : gd ≠ gh := by have := fd7.lt_size; omega
  have n4 : gz ≠ gh := by have := fz7.lt_size; omega
  have n5 : gx ≠ gh := by have := f7.lt_size; omega
  have n7 : w.heap.size ≤ gh := by omega
  clear hFt hFs hFd hFz hBt hBs hBd hBz z1 z2 z3 z4 hB4 ft4 fs4 fd4 fz4 hB5 hBw5 z5 ft5 fs5 fd5 fz5 hFx hBx hBw6 f7 hB7 ho7 hz7 ft7 fs7 fd7 fz7 hFh hBh zz hgt hgs hgd hgz hgx hgh HKY
  try simp only [Act.put, List.setIfInBounds_toArray, List.set_cons_succ, List.set_cons_zero]
  go_wp2_with fail
  go_loopw [23] (fun i wr => ∃ (k : Nat) (L : List UInt8), k ≤ 256 ∧ i = .int .i64 (k : Int) ∧ Hid (L.length = 8192) ∧ Hid (∀ j, j < k → chunk L j = chunk S j) ∧ Fresh w.heap.size 26 wr (some ⟨gt, 0, none⟩) 72 72 TB ∧ Fresh w.heap.size 31 wr (some ⟨gs, 0, none⟩) 32 32 (cb seed) ∧ Fresh w.heap.size 32 wr (some ⟨gd, 0, none⟩) 32 32 (cb d) ∧ Fresh w.heap.size 100 wr (some ⟨gz, 0, none⟩) 16384 16384 (cb Z) ∧ Fresh w.heap.size 31 wr (some ⟨gx, 0, none⟩) 32 32 (cb X) ∧ Fresh w.heap.size 98 wr (some ⟨gh, 0, none⟩) 8192 8192 (cb L) ∧ Below w.heap.size w wr) (fun i _ => 256 - (intOf i).toNat)
  case atStart => exact ⟨0, _, by omega, rfl, Lib.hid List.length_replicate, Lib.hid (fun j hj => by omega), ft, fs, fd, fz, fx, fh, hB⟩
  case round =>
    clear ft fs fd fz fx fh hB
    obtain ⟨k, L, hk, rfl, HL, HCk, ft, fs, fd, fz, fx, fh, hB⟩ := hrel
    by_cases hlt : k < 256
    · obtain ⟨C, hC⟩ : ∃ C, chunk S k = C := ⟨_, rfl⟩
      have HCC := Lib.hid hC
      have HCL : Hid (C.length = 32) := Lib.hid (by rw [← hC]; exact len_chunk S k (by rw [H1.out]; omega))
      have HCD : Hid ((cb C).length = 32) := Lib.hid (by rw [List.length_map]; exact HCL.out)
      have hse := sees_chunk (off := k * 32) fz.sees k (by omega)
      rw [HCH.out k hlt, hC] at hse
      clear hC
      go_wp2_with (first
        | (with_reducible refine wpList_load (o := ⟨some 30, _, _, _, _, _⟩) rfl (.tmp 29) 31 rfl gz (k * 32) _ rfl (cb C) 32 HCD.out (by kernel_rfl) hse ?_)
        | (with_reducible refine wpList_store rfl rfl (.tmp 31) (.tmp 30) 32 rfl gh (k * 32) w.heap.size 98 8192 (cb L) (cb C) rfl rfl 32 HCD.out (by kernel_rfl) fh (by omega) (cb_one _) w hB n7 ?_; intro w8 f8 hB8 ho8 hz8))
      rw [cb_splice, Nat.mul_comm k 32] at f8
      go_roundw
      case rel =>
        refine ⟨k + 1, _, by omega, by go_num, Lib.hid ?_, Lib.hid ?_, ft.other n1 ho8, fs.other n2 ho8, fd.other n3 ho8, fz.other n4 ho8, fx.other n5 ho8, f8, hB8⟩
        · rw [len_splice8 _ _ _ (by rw [HCL.out, HL.out]; omega), HL.out]
        · intro j hj
          rw [chunk_splice _ _ _ _ HCL.out (by rw [HL.out]; omega)]
          by_cases e : j = k
          · rw [if_pos e, e, HCC.out]
          · rw [if_neg e]
            exact HCk.out j (by omega)
      case measure => simp [intOf]; omega
    · obtain rfl : k = 256 := by omega
      have e0 : L = S := chunks_ext L S 256 HL.out H1.out HCk.out
      rw [e0] at fh
      clear e0 HCk HL
      go_wp2_with fail
      refine region_all_tail 48 (ltT TB gz bi leaf bit val seed d X Y Z S O R TX) (by kernel_rfl) (by kernel_rfl) (by kernel_rfl) (ltT_stab _ _ _ _ _ _ _ _ _ _ _ _ _ _ _) ?_ ?_
      · intro w0 hb0
        simp only [List.take_succ_cons, List.take_zero]
        refine ⟨?_, ?_, ?_, ?_, ?_, ?_, ?_, ?_, ?_, ?_, ?_, ?_, ?_, ?_, ?_, ?_, ?_, ?_, ?_, ?_, ?_, ?_, ?_, ?_, ?_, ?_, ?_, ?_, ?_, ?_, ?_, ?_, ?_, ?_, ?_, ?_, ?_, ?_, ?_, ?_, ?_, ?_, ?_, ?_, ?_, ?_, ?_, ?_, trivial⟩
        all_goals intro listed a1 w' hk1 hd1
        · have f15_ : a1.eval (.tmp 15) = .pointer (some ⟨gx, 0, none⟩) := hk1.ev_old 15 (by kernel_rfl)
          have g15_ : a1.tmps[15]?.getD undef = .pointer (some ⟨gx, 0, none⟩) := by simpa [Act.eval] using f15_
          exact stepOk_value rfl (run_load_agg (.tmp 15) 31 rfl (hk1.ev_old 15 (by kernel_rfl)) (cb X) 32 HXC.out (by kernel_rfl) ((fx.below hb0).below hk1.below).sees) rfl
        · have f7_ : a1.eval (.tmp 7) = .pointer (some ⟨gt, 0, none⟩) := hk1.ev_old 7 (by kernel_rfl)
          have g7_ : a1.tmps[7]?.getD undef = .pointer (some ⟨gt, 0, none⟩) := by simpa [Act.eval] using f7_
          exact stepOk_value rfl (run_load_agg (.tmp 7) 26 rfl (hk1.ev_old 7 (by kernel_rfl)) TB 72 HC.out (by kernel_rfl) ((ft.below hb0).below hk1.below).sees) rfl
        · have f8_ : a1.eval (.tmp 8) = .pointer (some ⟨gs, 0, none⟩) := hk1.ev_old 8 (by kernel_rfl)
          have g8_ : a1.tmps[8]?.getD undef = .pointer (some ⟨gs, 0, none⟩) := by simpa [Act.eval] using f8_
          exact stepOk_value rfl (run_load_agg (.tmp 8) 31 rfl (hk1.ev_old 8 (by kernel_rfl)) (cb seed) 32 HSL.out (by kernel_rfl) ((fs.below hb0).below hk1.below).sees) rfl
        · have f2_ : a1.eval (.tmp 2) = .int .i64 leaf := hk1.ev_old 2 (by kernel_rfl)
          have g2_ : a1.tmps[2]?.getD undef = .int .i64 leaf := by simpa [Act.eval] using f2_
          exact stepOk_value rfl (v := .int .i64 leaf) (by go_simp) rfl
        · have f3_ : a1.eval (.tmp 3) = .int .i64 bit := hk1.ev_old 3 (by kernel_rfl)
          have g3_ : a1.tmps[3]?.getD undef = .int .i64 bit := by simpa [Act.eval] using f3_
          exact stepOk_value rfl (v := .int .i64 bit) (by go_simp) rfl
        · have f4_ : a1.eval (.tmp 4) = .int .i64 val := hk1.ev_old 4 (by kernel_rfl)
          have g4_ : a1.tmps[4]?.getD undef = .int .i64 val := by simpa [Act.eval] using f4_
          exact stepOk_value rfl (v := .int .i64 val) (by go_simp) rfl
        · obtain ⟨y1, e1, q1, rfl⟩ := hk1.ev_new hd1 1 34 (by kernel_rfl) rfl
          obtain ⟨y2, e2, q2, rfl⟩ := hk1.ev_new hd1 2 35 (by kernel_rfl) rfl
          obtain ⟨y3, e3, q3, rfl⟩ := hk1.ev_new hd1 3 36 (by kernel_rfl) rfl
          obtain ⟨y4, e4, q4, rfl⟩ := hk1.ev_new hd1 4 37 (by kernel_rfl) rfl
          obtain ⟨y5, e5, q5, rfl⟩ := hk1.ev_new hd1 5 38 (by kernel_rfl) rfl
          refine stepOk_enter rfl (f := 60) (args := #[.agg TB.toArray, .agg (cb seed).toArray, .int .i64 leaf, .int .i64 bit, .int .i64 val]) (by go_simp) ?_
          have ho := rSecret_any (w := w') first keys H8.out H64.out seed HS.out leaf bit val hl hb hv
          rw [HX.out, HTB.out] at ho
          refine ho.mono ?_
          rintro e w5 ⟨rfl, hB5⟩
          exact ⟨_, rfl, rfl, hB5⟩
        · obtain ⟨y0, e0, q0, rfl⟩ := hk1.ev_new hd1 0 33 (by kernel_rfl) rfl
          obtain ⟨y6, e6, q6, rfl⟩ := hk1.ev_new hd1 6 39 (by kernel_rfl) rfl
          exact stepOk_value rfl (run_eq31b (.tmp 33) (.tmp 39) 31 rfl X X e0 e6 HXL.out HXL.out) (by show Value.bool (X == X) = _; simp)
        · obtain ⟨y7, e7, q7, rfl⟩ := hk1.ev_new hd1 7 40 (by kernel_rfl) rfl
          exact stepOk_value rfl (v := .bool true) (by go_simp) rfl
        · obtain ⟨y8, e8, q8, rfl⟩ := hk1.ev_new hd1 8 41 (by kernel_rfl) rfl
          have f15_ : a1.eval (.tmp 15) = .pointer (some ⟨gx, 0, none⟩) := hk1.ev_old 15 (by kernel_rfl)
          have g15_ : a1.tmps[15]?.getD undef = .pointer (some ⟨gx, 0, none⟩) := by simpa [Act.eval] using f15_
          exact stepOk_valG (wanted_at (t := 41) rfl rfl q8) (run_load_agg (.tmp 15) 31 rfl (hk1.ev_old 15 (by kernel_rfl)) (cb X) 32 HXC.out (by kernel_rfl) ((fx.below hb0).below hk1.below).sees) rfl
        · obtain ⟨y8, e8, q8, rfl⟩ := hk1.ev_new hd1 8 41 (by kernel_rfl) rfl
          have f7_ : a1.eval (.tmp 7) = .pointer (some ⟨gt, 0, none⟩) := hk1.ev_old 7 (by kernel_rfl)
          have g7_ : a1.tmps[7]?.getD undef = .pointer (some ⟨gt, 0, none⟩) := by simpa [Act.eval] using f7_
          obtain ⟨y9, e9, q9, rfl⟩ := hk1.ev_new hd1 9 42 (by kernel_rfl) rfl
          refine stepOk_enter (wanted_at (t := 41) rfl rfl q8) (f := 56) (args := #[.pointer (some ⟨gt, 0, none⟩), .agg (cb X).toArray]) (by go_simp) ?_
          have ho := Half_any (DgAt.of_tab (w := w') (tb := gt) (tf := 0) (first := first) (keys := keys) ⟨H8.out, H64.out, by rw [HTB.out]; exact ((ft.below hb0).below hk1.below).sees⟩) X HXL.out
          rw [HY.out] at ho
          refine ho.mono ?_
          rintro e w5 ⟨rfl, hB5⟩
          exact ⟨_, rfl, rfl, hB5⟩
        · obtain ⟨y8, e8, q8, rfl⟩ := hk1.ev_new hd1 8 41 (by kernel_rfl) rfl
          have f7_ : a1.eval (.tmp 7) = .pointer (some ⟨gt, 0, none⟩) := hk1.ev_old 7 (by kernel_rfl)
          have g7_ : a1.tmps[7]?.getD undef = .pointer (some ⟨gt, 0, none⟩) := by simpa [Act.eval] using f7_
          exact stepOk_valG (wanted_at (t := 41) rfl rfl q8) (run_load_agg (.tmp 7) 26 rfl (hk1.ev_old 7 (by kernel_rfl)) TB 72 HC.out (by kernel_rfl) ((ft.below hb0).below hk1.below).sees) rfl
        · obtain ⟨y8, e8, q8, rfl⟩ := hk1.ev_new hd1 8 41 (by kernel_rfl) rfl
          have f15_ : a1.eval (.tmp 15) = .pointer (some ⟨gx, 0, none⟩) := hk1.ev_old 15 (by kernel_rfl)
          have g15_ : a1.tmps[15]?.getD undef = .pointer (some ⟨gx, 0, none⟩) := by simpa [Act.eval] using f15_
          exact stepOk_valG (wanted_at (t := 41) rfl rfl q8) (run_load_agg (.tmp 15) 31 rfl (hk1.ev_old 15 (by kernel_rfl)) (cb X) 32 HXC.out (by kernel_rfl) ((fx.below hb0).below hk1.below).sees) rfl
        · obtain ⟨y8, e8, q8, rfl⟩ := hk1.ev_new hd1 8 41 (by kernel_rfl) rfl
          obtain ⟨y11, e11, q11, rfl⟩ := hk1.ev_new hd1 11 44 (by kernel_rfl) rfl
          obtain ⟨y12, e12, q12, rfl⟩ := hk1.ev_new hd1 12 45 (by kernel_rfl) rfl
          refine stepOk_enter (wanted_at (t := 41) rfl rfl q8) (f := 61) (args := #[.agg TB.toArray, .agg (cb X).toArray]) (by go_simp) ?_
          have ho := rHalf_any (w := w') first keys H8.out H64.out X HXL.out
          rw [HY.out, HTB.out] at ho
          refine ho.mono ?_
          rintro e w5 ⟨rfl, hB5⟩
          exact ⟨_, rfl, rfl, hB5⟩
        · obtain ⟨y8, e8, q8, rfl⟩ := hk1.ev_new hd1 8 41 (by kernel_rfl) rfl
          obtain ⟨y10, e10, q10, rfl⟩ := hk1.ev_new hd1 10 43 (by kernel_rfl) rfl
          obtain ⟨y13, e13, q13, rfl⟩ := hk1.ev_new hd1 13 46 (by kernel_rfl) rfl
          exact stepOk_valG (wanted_at (t := 41) rfl rfl q8) (run_eq32b (.tmp 43) (.tmp 46) 32 rfl Y Y e10 e13 HYL.out HYL.out) (by show Value.bool (Y == Y) = _; simp)
        · obtain ⟨y8, e8, q8, rfl⟩ := hk1.ev_new hd1 8 41 (by kernel_rfl) rfl
          obtain ⟨y14, e14, q14, rfl⟩ := hk1.ev_new hd1 14 47 (by kernel_rfl) rfl
          exact stepOk_value rfl (v := .bool true) (by go_simp) rfl
        · obtain ⟨y15, e15, q15, rfl⟩ := hk1.ev_new hd1 15 48 (by kernel_rfl) rfl
          exact stepOk_value rfl (v := .bool true) (by go_simp) rfl
        · obtain ⟨y16, e16, q16, rfl⟩ := hk1.ev_new hd1 16 49 (by kernel_rfl) rfl
          have f12_ : a1.eval (.tmp 12) = .pointer (some ⟨gd, 0, none⟩) := hk1.ev_old 12 (by kernel_rfl)
          have g12_ : a1.tmps[12]?.getD undef = .pointer (some ⟨gd, 0, none⟩) := by simpa [Act.eval] using f12_
          exact stepOk_valG (wanted_at (t := 49) rfl rfl q16) (run_load_agg (.tmp 12) 32 rfl (hk1.ev_old 12 (by kernel_rfl)) (cb d) 32 HDL.out (by kernel_rfl) ((fd.below hb0).below hk1.below).sees) rfl
        · obtain ⟨y16, e16, q16, rfl⟩ := hk1.ev_new hd1 16 49 (by kernel_rfl) rfl
          have f3_ : a1.eval (.tmp 3) = .int .i64 bit := hk1.ev_old 3 (by kernel_rfl)
          have g3_ : a1.tmps[3]?.getD undef = .int .i64 bit := by simpa [Act.eval] using f3_
          exact stepOk_valG (wanted_at (t := 49) rfl rfl q16) (v := .int .i64 bit) (by go_simp) rfl
        · obtain ⟨y16, e16, q16, rfl⟩ := hk1.ev_new hd1 16 49 (by kernel_rfl) rfl
          obtain ⟨y17, e17, q17, rfl⟩ := hk1.ev_new hd1 17 50 (by kernel_rfl) rfl
          obtain ⟨y18, e18, q18, rfl⟩ := hk1.ev_new hd1 18 51 (by kernel_rfl) rfl
          refine stepOk_enter (wanted_at (t := 49) rfl rfl q16) (f := 52) (args := #[.agg (cb d).toArray, .int .i64 bit]) (by go_simp) ?_
          have ho := Bit_any (w := w') d bit HD.out
          rw [HBI.out] at ho
          refine ho.mono ?_
          rintro e w5 ⟨rfl, hB5⟩
          exact ⟨_, rfl, rfl, hB5⟩
        · obtain ⟨y16, e16, q16, rfl⟩ := hk1.ev_new hd1 16 49 (by kernel_rfl) rfl
          have f12_ : a1.eval (.tmp 12) = .pointer (some ⟨gd, 0, none⟩) := hk1.ev_old 12 (by kernel_rfl)
          have g12_ : a1.tmps[12]?.getD undef = .pointer (some ⟨gd, 0, none⟩) := by simpa [Act.eval] using f12_
          exact stepOk_valG (wanted_at (t := 49) rfl rfl q16) (run_load_agg (.tmp 12) 32 rfl (hk1.ev_old 12 (by kernel_rfl)) (cb d) 32 HDL.out (by kernel_rfl) ((fd.below hb0).below hk1.below).sees) rfl
        · obtain ⟨y16, e16, q16, rfl⟩ := hk1.ev_new hd1 16 49 (by kernel_rfl) rfl
          have f3_ : a1.eval (.tmp 3) = .int .i64 bit := hk1.ev_old 3 (by kernel_rfl)
          have g3_ : a1.tmps[3]?.getD undef = .int .i64 bit := by simpa [Act.eval] using f3_
          exact stepOk_valG (wanted_at (t := 49) rfl rfl q16) (v := .int .i64 bit) (by go_simp) rfl
        · obtain ⟨y16, e16, q16, rfl⟩ := hk1.ev_new hd1 16 49 (by kernel_rfl) rfl
          obtain ⟨y20, e20, q20, rfl⟩ := hk1.ev_new hd1 20 53 (by kernel_rfl) rfl
          obtain ⟨y21, e21, q21, rfl⟩ := hk1.ev_new hd1 21 54 (by kernel_rfl) rfl
          refine stepOk_enter (wanted_at (t := 49) rfl rfl q16) (f := 53) (args := #[.agg (cb d).toArray, .int .i64 bit]) (by go_simp) ?_
          have ho := rBit_any (w := w') d bit HD.out
          rw [HBI.out] at ho
          refine ho.mono ?_
          rintro e w5 ⟨rfl, hB5⟩
          exact ⟨_, rfl, rfl, hB5⟩
        · obtain ⟨y16, e16, q16, rfl⟩ := hk1.ev_new hd1 16 49 (by kernel_rfl) rfl
          obtain ⟨y19, e19, q19, rfl⟩ := hk1.ev_new hd1 19 52 (by kernel_rfl) rfl
          obtain ⟨y22, e22, q22, rfl⟩ := hk1.ev_new hd1 22 55 (by kernel_rfl) rfl
          exact stepOk_valG (wanted_at (t := 49) rfl rfl q16) (v := .bool true) (by go_simp) rfl
        · obtain ⟨y16, e16, q16, rfl⟩ := hk1.ev_new hd1 16 49 (by kernel_rfl) rfl
          obtain ⟨y23, e23, q23, rfl⟩ := hk1.ev_new hd1 23 56 (by kernel_rfl) rfl
          exact stepOk_value rfl (v := .bool true) (by go_simp) rfl
        · obtain ⟨y24, e24, q24, rfl⟩ := hk1.ev_new hd1 24 57 (by kernel_rfl) rfl
          exact stepOk_value rfl (v := .bool true) (by go_simp) rfl
        · obtain ⟨y25, e25, q25, rfl⟩ := hk1.ev_new hd1 25 58 (by kernel_rfl) rfl
          have f12_ : a1.eval (.tmp 12) = .pointer (some ⟨gd, 0, none⟩) := hk1.ev_old 12 (by kernel_rfl)
          have g12_ : a1.tmps[12]?.getD undef = .pointer (some ⟨gd, 0, none⟩) := by simpa [Act.eval] using f12_
          exact stepOk_valG (wanted_at (t := 58) rfl rfl q25) (run_load_agg (.tmp 12) 32 rfl (hk1.ev_old 12 (by kernel_rfl)) (cb d) 32 HDL.out (by kernel_rfl) ((fd.below hb0).below hk1.below).sees) rfl
        · obtain ⟨y25, e25, q25, rfl⟩ := hk1.ev_new hd1 25 58 (by kernel_rfl) rfl
          have f13_ : a1.eval (.tmp 13) = .pointer (some ⟨gz, 0, none⟩) := hk1.ev_old 13 (by kernel_rfl)
          have g13_ : a1.tmps[13]?.getD undef = .pointer (some ⟨gz, 0, none⟩) := by simpa [Act.eval] using f13_
          exact stepOk_valG (wanted_at (t := 58) rfl rfl q25) (run_load_agg (.tmp 13) 100 rfl (hk1.ev_old 13 (by kernel_rfl)) (cb Z) 16384 HZC.out (by kernel_rfl) ((fz.below hb0).below hk1.below).sees) rfl
        · obtain ⟨y25, e25, q25, rfl⟩ := hk1.ev_new hd1 25 58 (by kernel_rfl) rfl
          have f7_ : a1.eval (.tmp 7) = .pointer (some ⟨gt, 0, none⟩) := hk1.ev_old 7 (by kernel_rfl)
          have g7_ : a1.tmps[7]?.getD undef = .pointer (some ⟨gt, 0, none⟩) := by simpa [Act.eval] using f7_
          obtain ⟨y26, e26, q26, rfl⟩ := hk1.ev_new hd1 26 59 (by kernel_rfl) rfl
          obtain ⟨y27, e27, q27, rfl⟩ := hk1.ev_new hd1 27 60 (by kernel_rfl) rfl
          refine stepOk_enter (wanted_at (t := 58) rfl rfl q25) (f := 58) (args := #[.pointer (some ⟨gt, 0, none⟩), .agg (cb d).toArray, .agg (cb Z).toArray]) (by go_simp) ?_
          have ho := Open_any (DgAt.of_tab (w := w') (tb := gt) (tf := 0) (first := first) (keys := keys) ⟨H8.out, H64.out, by rw [HTB.out]; exact ((ft.below hb0).below hk1.below).sees⟩) d S O HD.out H1.out H2.out
          rw [HZ.out, HR.out] at ho
          refine ho.mono ?_
          rintro e w5 ⟨rfl, hB5⟩
          exact ⟨_, rfl, rfl, hB5⟩
        · obtain ⟨y25, e25, q25, rfl⟩ := hk1.ev_new hd1 25 58 (by kernel_rfl) rfl
          have f7_ : a1.eval (.tmp 7) = .pointer (some ⟨gt, 0, none⟩) := hk1.ev_old 7 (by kernel_rfl)
          have g7_ : a1.tmps[7]?.getD undef = .pointer (some ⟨gt, 0, none⟩) := by simpa [Act.eval] using f7_
          exact stepOk_valG (wanted_at (t := 58) rfl rfl q25) (run_load_agg (.tmp 7) 26 rfl (hk1.ev_old 7 (by kernel_rfl)) TB 72 HC.out (by kernel_rfl) ((ft.below hb0).below hk1.below).sees) rfl
        · obtain ⟨y25, e25, q25, rfl⟩ := hk1.ev_new hd1 25 58 (by kernel_rfl) rfl
          have f12_ : a1.eval (.tmp 12) = .pointer (some ⟨gd, 0, none⟩) := hk1.ev_old 12 (by kernel_rfl)
          have g12_ : a1.tmps[12]?.getD undef = .pointer (some ⟨gd, 0, none⟩) := by simpa [Act.eval] using f12_
          exact stepOk_valG (wanted_at (t := 58) rfl rfl q25) (run_load_agg (.tmp 12) 32 rfl (hk1.ev_old 12 (by kernel_rfl)) (cb d) 32 HDL.out (by kernel_rfl) ((fd.below hb0).below hk1.below).sees) rfl
        · obtain ⟨y25, e25, q25, rfl⟩ := hk1.ev_new hd1 25 58 (by kernel_rfl) rfl
          have f13_ : a1.eval (.tmp 13) = .pointer (some ⟨gz, 0, none⟩) := hk1.ev_old 13 (by kernel_rfl)
          have g13_ : a1.tmps[13]?.getD undef = .pointer (some ⟨gz, 0, none⟩) := by simpa [Act.eval] using f13_
          exact stepOk_valG (wanted_at (t := 58) rfl rfl q25) (run_load_agg (.tmp 13) 100 rfl (hk1.ev_old 13 (by kernel_rfl)) (cb Z) 16384 HZC.out (by kernel_rfl) ((fz.below hb0).below hk1.below).sees) rfl
        · obtain ⟨y25, e25, q25, rfl⟩ := hk1.ev_new hd1 25 58 (by kernel_rfl) rfl
          obtain ⟨y29, e29, q29, rfl⟩ := hk1.ev_new hd1 29 62 (by kernel_rfl) rfl
          obtain ⟨y30, e30, q30, rfl⟩ := hk1.ev_new hd1 30 63 (by kernel_rfl) rfl
          obtain ⟨y31, e31, q31, rfl⟩ := hk1.ev_new hd1 31 64 (by kernel_rfl) rfl
          refine stepOk_enter (wanted_at (t := 58) rfl rfl q25) (f := 62) (args := #[.agg TB.toArray, .agg (cb d).toArray, .agg (cb Z).toArray]) (by go_simp) ?_
          have ho := rOpen_any (w := w') first keys H8.out H64.out d S O HD.out H1.out H2.out
          rw [HZ.out, HR.out, HTB.out] at ho
          refine ho.mono ?_
          rintro e w5 ⟨rfl, hB5⟩
          exact ⟨_, rfl, rfl, hB5⟩
        · obtain ⟨y25, e25, q25, rfl⟩ := hk1.ev_new hd1 25 58 (by kernel_rfl) rfl
          obtain ⟨y28, e28, q28, rfl⟩ := hk1.ev_new hd1 28 61 (by kernel_rfl) rfl
          obtain ⟨y32, e32, q32, rfl⟩ := hk1.ev_new hd1 32 65 (by kernel_rfl) rfl
          exact stepOk_valG (wanted_at (t := 58) rfl rfl q25) (run_eq32b (.tmp 61) (.tmp 65) 32 rfl R R e28 e32 HRL.out HRL.out) (by show Value.bool (R == R) = _; simp)
        · obtain ⟨y25, e25, q25, rfl⟩ := hk1.ev_new hd1 25 58 (by kernel_rfl) rfl
          obtain ⟨y33, e33, q33, rfl⟩ := hk1.ev_new hd1 33 66 (by kernel_rfl) rfl
          exact stepOk_value rfl (v := .bool true) (by go_simp) rfl
        · obtain ⟨y34, e34, q34, rfl⟩ := hk1.ev_new hd1 34 67 (by kernel_rfl) rfl
          exact stepOk_value rfl (v := .bool true) (by go_simp) rfl
        · obtain ⟨y35, e35, q35, rfl⟩ := hk1.ev_new hd1 35 68 (by kernel_rfl) rfl
          have f12_ : a1.eval (.tmp 12) = .pointer (some ⟨gd, 0, none⟩) := hk1.ev_old 12 (by kernel_rfl)
          have g12_ : a1.tmps[12]?.getD undef = .pointer (some ⟨gd, 0, none⟩) := by simpa [Act.eval] using f12_
          exact stepOk_valG (wanted_at (t := 68) rfl rfl q35) (run_load_agg (.tmp 12) 32 rfl (hk1.ev_old 12 (by kernel_rfl)) (cb d) 32 HDL.out (by kernel_rfl) ((fd.below hb0).below hk1.below).sees) rfl
        · obtain ⟨y35, e35, q35, rfl⟩ := hk1.ev_new hd1 35 68 (by kernel_rfl) rfl
          have f16_ : a1.eval (.tmp 16) = .pointer (some ⟨gh, 0, none⟩) := hk1.ev_old 16 (by kernel_rfl)
          have g16_ : a1.tmps[16]?.getD undef = .pointer (some ⟨gh, 0, none⟩) := by simpa [Act.eval] using f16_
          exact stepOk_valG (wanted_at (t := 68) rfl rfl q35) (run_load_agg (.tmp 16) 98 rfl (hk1.ev_old 16 (by kernel_rfl)) (cb S) 8192 HSC.out (by kernel_rfl) ((fh.below hb0).below hk1.below).sees) rfl
        · obtain ⟨y35, e35, q35, rfl⟩ := hk1.ev_new hd1 35 68 (by kernel_rfl) rfl
          have f13_ : a1.eval (.tmp 13) = .pointer (some ⟨gz, 0, none⟩) := hk1.ev_old 13 (by kernel_rfl)
          have g13_ : a1.tmps[13]?.getD undef = .pointer (some ⟨gz, 0, none⟩) := by simpa [Act.eval] using f13_
          exact stepOk_valG (wanted_at (t := 68) rfl rfl q35) (v := .pointer (some ⟨gz, 8192, none⟩)) (by go_simp) rfl
        · obtain ⟨y35, e35, q35, rfl⟩ := hk1.ev_new hd1 35 68 (by kernel_rfl) rfl
          obtain ⟨y38, e38, q38, rfl⟩ := hk1.ev_new hd1 38 71 (by kernel_rfl) rfl
          exact stepOk_valG (wanted_at (t := 68) rfl rfl q35) (run_load_agg (.tmp 71) 98 rfl e38 (cb O) 8192 HOL.out (by kernel_rfl) (HSRF.out _ _ _ ((fz.below hb0).below hk1.below).sees)) rfl
        · obtain ⟨y35, e35, q35, rfl⟩ := hk1.ev_new hd1 35 68 (by kernel_rfl) rfl
          obtain ⟨y36, e36, q36, rfl⟩ := hk1.ev_new hd1 36 69 (by kernel_rfl) rfl
          obtain ⟨y37, e37, q37, rfl⟩ := hk1.ev_new hd1 37 70 (by kernel_rfl) rfl
          obtain ⟨y39, e39, q39, rfl⟩ := hk1.ev_new hd1 39 72 (by kernel_rfl) rfl
          refine stepOk_enter (wanted_at (t := 68) rfl rfl q35) (f := 63) (args := #[.agg (cb d).toArray, .agg (cb S).toArray, .agg (cb O).toArray]) (by go_simp) ?_
          refine (LText_any d S O HD.out H1.out H2.out).mono ?_
          rintro e w5 ⟨A5, c5, rfl, hF5, hB5⟩
          rw [HTX.out] at hF5
          exact ⟨_, rfl, ⟨A5, c5, rfl, hF5.sees⟩, hB5⟩
        · obtain ⟨y35, e35, q35, rfl⟩ := hk1.ev_new hd1 35 68 (by kernel_rfl) rfl
          have f12_ : a1.eval (.tmp 12) = .pointer (some ⟨gd, 0, none⟩) := hk1.ev_old 12 (by kernel_rfl)
          have g12_ : a1.tmps[12]?.getD undef = .pointer (some ⟨gd, 0, none⟩) := by simpa [Act.eval] using f12_
          exact stepOk_valG (wanted_at (t := 68) rfl rfl q35) (run_load_agg (.tmp 12) 32 rfl (hk1.ev_old 12 (by kernel_rfl)) (cb d) 32 HDL.out (by kernel_rfl) ((fd.below hb0).below hk1.below).sees) rfl
        · obtain ⟨y35, e35, q35, rfl⟩ := hk1.ev_new hd1 35 68 (by kernel_rfl) rfl
          have f16_ : a1.eval (.tmp 16) = .pointer (some ⟨gh, 0, none⟩) := hk1.ev_old 16 (by kernel_rfl)
          have g16_ : a1.tmps[16]?.getD undef = .pointer (some ⟨gh, 0, none⟩) := by simpa [Act.eval] using f16_
          exact stepOk_valG (wanted_at (t := 68) rfl rfl q35) (run_load_agg (.tmp 16) 98 rfl (hk1.ev_old 16 (by kernel_rfl)) (cb S) 8192 HSC.out (by kernel_rfl) ((fh.below hb0).below hk1.below).sees) rfl
        · obtain ⟨y35, e35, q35, rfl⟩ := hk1.ev_new hd1 35 68 (by kernel_rfl) rfl
          have f13_ : a1.eval (.tmp 13) = .pointer (some ⟨gz, 0, none⟩) := hk1.ev_old 13 (by kernel_rfl)
          have g13_ : a1.tmps[13]?.getD undef = .pointer (some ⟨gz, 0, none⟩) := by simpa [Act.eval] using f13_
          exact stepOk_valG (wanted_at (t := 68) rfl rfl q35) (v := .pointer (some ⟨gz, 8192, none⟩)) (by go_simp) rfl
        · obtain ⟨y35, e35, q35, rfl⟩ := hk1.ev_new hd1 35 68 (by kernel_rfl) rfl
          obtain ⟨y43, e43, q43, rfl⟩ := hk1.ev_new hd1 43 76 (by kernel_rfl) rfl
          exact stepOk_valG (wanted_at (t := 68) rfl rfl q35) (run_load_agg (.tmp 76) 98 rfl e43 (cb O) 8192 HOL.out (by kernel_rfl) (HSRF.out _ _ _ ((fz.below hb0).below hk1.below).sees)) rfl
        · obtain ⟨y35, e35, q35, rfl⟩ := hk1.ev_new hd1 35 68 (by kernel_rfl) rfl
          obtain ⟨y41, e41, q41, rfl⟩ := hk1.ev_new hd1 41 74 (by kernel_rfl) rfl
          obtain ⟨y42, e42, q42, rfl⟩ := hk1.ev_new hd1 42 75 (by kernel_rfl) rfl
          obtain ⟨y44, e44, q44, rfl⟩ := hk1.ev_new hd1 44 77 (by kernel_rfl) rfl
          refine stepOk_enter (wanted_at (t := 68) rfl rfl q35) (f := 64) (args := #[.agg (cb d).toArray, .agg (cb S).toArray, .agg (cb O).toArray]) (by go_simp) ?_
          refine (rText9_any d S O HD.out H1.out H2.out).mono ?_
          rintro e w5 ⟨A5, c5, rfl, hF5, hB5⟩
          rw [HTX.out] at hF5
          exact ⟨_, rfl, ⟨A5, c5, rfl, hF5.sees⟩, hB5⟩
        · obtain ⟨y35, e35, q35, rfl⟩ := hk1.ev_new hd1 35 68 (by kernel_rfl) rfl
          obtain ⟨y40, e40, _, q40⟩ := hk1.ev_new hd1 40 73 (by kernel_rfl) rfl
          obtain ⟨y45, e45, _, q45⟩ := hk1.ev_new hd1 45 78 (by kernel_rfl) rfl
          obtain ⟨A5, c5, rfl, hS5⟩ := q40
          obtain ⟨A6, c6, rfl, hS6⟩ := q45
          refine stepOk_enter (wanted_at (t := 68) rfl rfl q35) (f := 17) (args := #[.slice A5 16900 c5, .slice A6 16900 c6]) (by go_simp) ?_
          refine (SameBytes_any A5 A6 c5 c6 16900 16900 TX TX w' hS5 hS6 HTL.out HTL.out).mono ?_
          rintro e w5 ⟨rfl, rfl⟩
          exact ⟨_, rfl, by show Value.bool (TX == TX) = _; simp, Below.refl _ _⟩
        · obtain ⟨y35, e35, q35, rfl⟩ := hk1.ev_new hd1 35 68 (by kernel_rfl) rfl
          obtain ⟨y46, e46, q46, rfl⟩ := hk1.ev_new hd1 46 79 (by kernel_rfl) rfl
          exact stepOk_value rfl (v := .bool true) (by go_simp) rfl
      · intro a1 w9 hb9 hp
        obtain ⟨x0, p0, x1, p1, x2, p2, x3, p3, x4, p4, x5, p5, x6, p6, x7, p7, x8, p8, x9, p9, x10, p10, x11, p11, x12, p12, x13, p13, x14, p14, x15, p15, x16, p16, x17, p17, x18, p18, x19, p19, x20, p20, x21, p21, x22, p22, x23, p23, x24, p24, x25, p25, x26, p26, x27, p27, x28, p28, x29, p29, x30, p30, x31, p31, x32, p32, x33, p33, x34, p34, x35, p35, x36, p36, x37, p37, x38, p38, x39, p39, x40, p40, x41, p41, x42, p42, x43, p43, x44, p44, x45, p45, x46, p46, x47, p47, rfl⟩ := hp
        simp only [ltT] at p0 p1 p2 p3 p4 p5 p6 p7 p8 p9 p10 p11 p12 p13 p14 p15 p16 p17 p18 p19 p20 p21 p22 p23 p24 p25 p26 p27 p28 p29 p30 p31 p32 p33 p34 p35 p36 p37 p38 p39 p41 p42 p43 p44 p46 p47
        subst p0 p1 p2 p3 p4 p5 p6 p7 p8 p9 p10 p11 p12 p13 p14 p15 p16 p17 p18 p19 p20 p21 p22 p23 p24 p25 p26 p27 p28 p29 p30 p31 p32 p33 p34 p35 p36 p37 p38 p39 p41 p42 p43 p44 p46 p47
        simp only [List.drop_succ_cons, List.drop_zero, Act.put, List.setIfInBounds_toArray, List.set_cons_succ, List.set_cons_zero]
        have hBw9 := Below.then_ hB hb9
        go_wp2_with (go_at_call 59; refine awake9_any.mono ?_; rintro e w17 ⟨rfl, hB17⟩)
        go_ret
        exact ⟨rfl, Below.then_ hBw9 hB17⟩
theorem ltells_law (W : World) (first keys : List UInt32) (h8 : first.length = 8) (h64 : keys.length = 64) (seed : List UInt8) (hs : seed.length = 32) (leaf : Int) (wl : (Lit.int .i64 leaf).wf = true) (bit : Int) (wb : (Lit.int .i64 bit).wf = true) (val : Int) (wv : (Lit.int .i64 val).wf = true) (d : List UInt8) (hd : d.length = 32) (S O : List UInt8) (h1 : S.length = 8192) (h2 : O.length = 8192) :
    Calls Try.prog 7 #[.agg (cw (first ++ keys)).toArray, .agg (cb seed).toArray, .int .i64 leaf, .int .i64 bit, .int .i64 val, .agg (cb d).toArray, .agg (cb (S ++ O)).toArray] W fun e w' => e = .returned (.bool true) ∧ Below W.heap.size W w' :=
  ltells_walk first keys h8 h64 seed hs leaf bit val (bounds_i64 wl).2 (bounds_i64 wb).2 (bounds_i64 wv).2 d S O hd h1 h2
end
end Go.Proofs.Ytehokoeajinboaa
