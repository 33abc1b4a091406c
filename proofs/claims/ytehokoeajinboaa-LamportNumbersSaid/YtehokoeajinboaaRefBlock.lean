/-
  What the document's own Block of layer 2 answers: the state by a block, for every table, state and block.
-/
import Derived.Test.YtehokoeajinboaaRefSched
import Derived.Test.YtehokoeajinboaaBlock
namespace Go.Proofs.Ytehokoeajinboaa
open Go.RowKit
set_option linter.unusedVariables false
theorem t_nat2 (e f g h k w : UInt32) : ((h.toNat : Int) + bits BinOp.xor IntKind.u32 (bits BinOp.xor IntKind.u32 ((rr e 6).toNat : Int) ((rr e 11).toNat : Int)) ((rr e 25).toNat : Int) +
    bits BinOp.xor IntKind.u32 (bits BinOp.and IntKind.u32 (e.toNat : Int) (f.toNat : Int)) (bits BinOp.and IntKind.u32 ((4294967295 - (e.toNat : Int)) % 4294967296) (g.toNat : Int)) +
    (k.toNat : Int) + (w.toNat : Int)) % 4294967296 = ((tOf e f g h k w).toNat : Int) := by
  have h0 : (4294967295 - (e.toNat : Int)) % 4294967296 = ((~~~e).toNat : Int) := by
    rw [← u32_not]
    have := e.toNat_lt
    omega
  rw [h0, u32_xor, u32_xor, u32_and, u32_and, u32_xor, u32_sum5]
  rfl
def RBlkRel (keys ws s tab : List UInt32) (gt gs gr : Nat) (B : Option Addr) (d : Nat) (W : World) (a b c e f g h i k : Value) (wr : World) : Prop :=
  ∃ (n : Nat) (x0 x1 x2 x3 x4 x5 x6 x7 : UInt32), n ≤ 64 ∧ k = .int .i64 n ∧ a = .int .u32 (x0.toNat : Int) ∧ b = .int .u32 (x1.toNat : Int) ∧ c = .int .u32 (x2.toNat : Int) ∧ e = .int .u32 (x3.toNat : Int) ∧
    f = .int .u32 (x4.toNat : Int) ∧ g = .int .u32 (x5.toNat : Int) ∧ h = .int .u32 (x6.toNat : Int) ∧ i = .int .u32 (x7.toNat : Int) ∧ Hid (((keys.zip ws).take n).foldl rnd s = [x0, x1, x2, x3, x4, x5, x6, x7]) ∧
    Fresh W.heap.size 22 wr B 64 d (cw ws) ∧ Fresh W.heap.size 26 wr (some ⟨gt, 0, none⟩) 72 72 (cw tab) ∧ Fresh W.heap.size 23 wr (some ⟨gs, 0, none⟩) 8 8 (cw s) ∧ Fresh W.heap.size 23 wr (some ⟨gr, 0, none⟩) 8 8 (cw (List.replicate 8 0)) ∧ Below W.heap.size W wr
set_option maxHeartbeats 2000000 in
set_option maxRecDepth 100000 in
theorem rBlock_eight (first keys : List UInt32) (s0 s1 s2 s3 s4 s5 s6 s7 : UInt32) (A : Option Addr) (c : Nat) (b : List UInt8) (w : World) (hfl : first.length = 8) (hkl : keys.length = 64) (hb : b.length = 64) (hsee : Sees w w.heap.size A (cb b)) :
    Calls Try.prog 161 #[.agg (cw (first ++ keys)).toArray, .agg (cw [s0, s1, s2, s3, s4, s5, s6, s7]).toArray, .slice A 64 c] w fun e w' => e = .returned (.agg (cw (blockF keys [s0, s1, s2, s3, s4, s5, s6, s7] b)).toArray) ∧ Below w.heap.size w w' := by
  have hTL : (first ++ keys).length = 72 := by simp [hfl, hkl]
  have HT := Lib.hid hTL
  have HF := Lib.hid hfl
  have HK := Lib.hid hkl
  have HB := Lib.hid hb
  have hcut : ∀ k, k < 64 → (first ++ keys)[8 + k]? = keys[k]? := fun k hk => by
    rw [List.getElem?_append_right (by omega), hfl]
    congr 1
    omega
  have HC := Lib.hid hcut
  clear hTL hfl hkl hb hcut
  generalize htab : first ++ keys = tab at *
  clear htab
  go_enter Try.func161, Try.ntmps161
  go_wp2_with (first
    | (with_reducible refine wpList_box (o := ⟨some 3, _, _, _, _, _⟩) rfl (.tmp 0) 26 rfl (cw tab) rfl 72 (by simp [HT.out]) (by decide) ?_; intro gt w1 hgt hFt hBt)
    | (with_reducible refine wpList_box (o := ⟨some 4, _, _, _, _, _⟩) rfl (.tmp 1) 23 rfl (cw [s0, s1, s2, s3, s4, s5, s6, s7]) rfl 8 (by simp) (by decide) ?_; intro gs w2 hgs hFs hBs)
    | (with_reducible refine wpList_alloc (o := ⟨some 6, _, _, _, _, _⟩) rfl 23 rfl (cw (List.replicate 8 0)) (by kernel_rfl) 8 (by simp) (by decide) ?_; intro gr w3 hgr hFr hBr))
  have d1 := hFt.lt_size
  have d2 := hFs.lt_size
  have d3 := hFr.lt_size
  have hz1 := hBt.size
  have hz2 := hBs.size
  have hB3 := Below.then_ (Below.then_ hBt hBs) hBr
  have hFt3 := (hFt.below hBs).below hBr
  have hFs3 := (hFs.below hBr).lower hz1
  have hFr3 := hFr.lower (Nat.le_trans hz1 hz2)
  have hS3 := hsee.step hB3
  clear hFt hFs hFr hBt hBs hBr hsee
  go_wp2_with (go_at_call 177; refine (rwords2_any A c b _ hS3 HB.out).mono ?_; rintro e w4 ⟨B, d, rfl, hW4, hB4⟩)
  have hFt4 := hFt3.below hB4
  have hFs4 := hFs3.below hB4
  have hFr4 := hFr3.below hB4
  have hBel4 := Below.then_ hB3 hB4
  have hW4' := hW4.lower hB3.size
  clear hFt3 hFs3 hFr3 hB3 hB4 hW4 hS3
  have c0 := hFs4.cell32 (k := 0) rfl
  have c1 := hFs4.cell32 (k := 1) rfl
  have c2 := hFs4.cell32 (k := 2) rfl
  have c3 := hFs4.cell32 (k := 3) rfl
  have c4 := hFs4.cell32 (k := 4) rfl
  have c5 := hFs4.cell32 (k := 5) rfl
  have c6 := hFs4.cell32 (k := 6) rfl
  have c7 := hFs4.cell32 (k := 7) rfl
  go_quiet (fail)
  clear c0 c1 c2 c3 c4 c5 c6 c7
  go_wp2
  have hq := below_drewN' (Below.refl w4.heap.size w4) nq
  have hwl := len_sched b
  have HW := Lib.hid hwl
  clear hwl
  have hbf : blockF keys [s0, s1, s2, s3, s4, s5, s6, s7] b = sums (turn keys (sched b) [s0, s1, s2, s3, s4, s5, s6, s7]) [s0, s1, s2, s3, s4, s5, s6, s7] := rfl
  have HBF := Lib.hid hbf
  clear hbf
  obtain ⟨blk, hblk⟩ : ∃ x, x = blockF keys [s0, s1, s2, s3, s4, s5, s6, s7] b := ⟨_, rfl⟩
  rw [← hblk] at HBF
  have HBLK := Lib.hid hblk
  clear hblk
  generalize sched b = ws at *
  go_loopw [8, 9, 10, 11, 12, 13, 14, 15, 16] (RBlkRel keys ws [s0, s1, s2, s3, s4, s5, s6, s7] tab gt gs gr B d w) (fun _ _ _ _ _ _ _ _ i _ => 64 - (intOf i).toNat)
  case atStart => exact ⟨0, s0, s1, s2, s3, s4, s5, s6, s7, by omega, rfl, rfl, rfl, rfl, rfl, rfl, rfl, rfl, rfl, rfl, hW4'.below hq, hFt4.below hq, hFs4.below hq, hFr4.below hq, Below.then_ hBel4 hq⟩
  case round =>
    obtain ⟨k, x0, x1, x2, x3, x4, x5, x6, x7, hk, rfl, rfl, rfl, rfl, rfl, rfl, rfl, rfl, rfl, HR, hW, hT, hS, hR, hBel⟩ := hrel
    clear hFt4 hFs4 hFr4 hBel4 hW4' hq
    by_cases hlt : k < 64
    · obtain ⟨wb, wo, rfl, hwb, wk, H1, l1, r1⟩ := hW.sees.word HW.out hlt
      obtain ⟨kk, H2, l2, r2⟩ := hT.word (k := 8 + k) (by omega)
      have hkk : keys[k]? = some kk := by rw [← HC.out k hlt]; exact H2.out
      have HKK := Lib.hid hkk
      clear hkk
      go_wp2
      go_quiet ((go_at_call 178; exact Calls.quiet_of (rror_any _ _ _ rfl (by decide) _)))
      go_wp2_with (go_at_call 178; refine (rror_any _ _ _ rfl (by decide) _).mono ?_; rintro e w' ⟨rfl, nr, rfl⟩)
      go_roundw
      case rel =>
        have hb9 : ∀ n, Below wr.heap.size wr (wr.drewN n) := fun n => below_drewN' (Below.refl _ _) n
        refine ⟨k + 1, tOf x4 x5 x6 x7 kk wk + uOf x0 x1 x2, x0, x1, x2, x3 + tOf x4 x5 x6 x7 kk wk, x4, x5, x6, by omega, by go_num, ?_, rfl, rfl, rfl, ?_, rfl, rfl, rfl, ?_, hW.below (hb9 _), hT.below (hb9 _), hS.below (hb9 _), hR.below (hb9 _), Below.then_ hBel (hb9 _)⟩
        · rw [t_nat2, u_nat, u32_add]
        · rw [t_nat2, u32_add]
        · exact Lib.hid (by rw [foldl_take_succ _ _ _ _ (zip_get keys ws k kk wk HKK.out H1.out), HR.out]; rfl)
      case measure => simp [intOf]; omega
    · obtain rfl : k = 64 := by omega
      have hfin : turn keys ws [s0, s1, s2, s3, s4, s5, s6, s7] = [x0, x1, x2, x3, x4, x5, x6, x7] := by
        have h := HR.out
        rwa [List.take_of_length_le (by rw [List.length_zip, HK.out, HW.out]; decide)] at h
      have HT' := Lib.hid hfin
      clear hfin
      have c0 := hS.cell32 (k := 0) rfl
      have c1 := hS.cell32 (k := 1) rfl
      have c2 := hS.cell32 (k := 2) rfl
      have c3 := hS.cell32 (k := 3) rfl
      have c4 := hS.cell32 (k := 4) rfl
      have c5 := hS.cell32 (k := 5) rfl
      have c6 := hS.cell32 (k := 6) rfl
      have c7 := hS.cell32 (k := 7) rfl
      have hraw : [Value.int .u32 (((x0.toNat : Int) + (s0.toNat : Int)) % 4294967296), .int .u32 (((x1.toNat : Int) + (s1.toNat : Int)) % 4294967296), .int .u32 (((x2.toNat : Int) + (s2.toNat : Int)) % 4294967296), .int .u32 (((x3.toNat : Int) + (s3.toNat : Int)) % 4294967296), .int .u32 (((x4.toNat : Int) + (s4.toNat : Int)) % 4294967296), .int .u32 (((x5.toNat : Int) + (s5.toNat : Int)) % 4294967296), .int .u32 (((x6.toNat : Int) + (s6.toNat : Int)) % 4294967296), .int .u32 (((x7.toNat : Int) + (s7.toNat : Int)) % 4294967296)] = cw [x0 + s0, x1 + s1, x2 + s2, x3 + s3, x4 + s4, x5 + s5, x6 + s6, x7 + s7] := by
        simp only [u32_add]
        rfl
      have HRAW := Lib.hid hraw
      clear hraw
      have hone : ∀ u ∈ [Value.int .u32 (((x0.toNat : Int) + (s0.toNat : Int)) % 4294967296), .int .u32 (((x1.toNat : Int) + (s1.toNat : Int)) % 4294967296), .int .u32 (((x2.toNat : Int) + (s2.toNat : Int)) % 4294967296), .int .u32 (((x3.toNat : Int) + (s3.toNat : Int)) % 4294967296), .int .u32 (((x4.toNat : Int) + (s4.toNat : Int)) % 4294967296), .int .u32 (((x5.toNat : Int) + (s5.toNat : Int)) % 4294967296), .int .u32 (((x6.toNat : Int) + (s6.toNat : Int)) % 4294967296), .int .u32 (((x7.toNat : Int) + (s7.toNat : Int)) % 4294967296)], u.oneCell' = true := by
        rw [HRAW.out]
        exact cw_one _
      have HO := Lib.hid hone
      clear hone
      go_wp2_with (with_reducible refine wpList_store rfl rfl (.tmp 6) (.tmp 134) 23 rfl gr 0 w.heap.size 23 8 (cw (List.replicate 8 0)) [Value.int .u32 (((x0.toNat : Int) + (s0.toNat : Int)) % 4294967296), .int .u32 (((x1.toNat : Int) + (s1.toNat : Int)) % 4294967296), .int .u32 (((x2.toNat : Int) + (s2.toNat : Int)) % 4294967296), .int .u32 (((x3.toNat : Int) + (s3.toNat : Int)) % 4294967296), .int .u32 (((x4.toNat : Int) + (s4.toNat : Int)) % 4294967296), .int .u32 (((x5.toNat : Int) + (s5.toNat : Int)) % 4294967296), .int .u32 (((x6.toNat : Int) + (s6.toNat : Int)) % 4294967296), .int .u32 (((x7.toNat : Int) + (s7.toNat : Int)) % 4294967296)] rfl rfl 8 (by simp) (by kernel_rfl) hR (by omega) HO.out w hBel (by omega) ?_; intro w9 hF9 hB9 _ _)
      have e : splice (cw (List.replicate 8 0)) 0 [Value.int .u32 (((x0.toNat : Int) + (s0.toNat : Int)) % 4294967296), .int .u32 (((x1.toNat : Int) + (s1.toNat : Int)) % 4294967296), .int .u32 (((x2.toNat : Int) + (s2.toNat : Int)) % 4294967296), .int .u32 (((x3.toNat : Int) + (s3.toNat : Int)) % 4294967296), .int .u32 (((x4.toNat : Int) + (s4.toNat : Int)) % 4294967296), .int .u32 (((x5.toNat : Int) + (s5.toNat : Int)) % 4294967296), .int .u32 (((x6.toNat : Int) + (s6.toNat : Int)) % 4294967296), .int .u32 (((x7.toNat : Int) + (s7.toNat : Int)) % 4294967296)] = cw blk := by
        rw [HRAW.out, HBF.out, HT'.out]
        simp [splice, sums]
      rw [e] at hF9
      have hl : blk.length = 8 := by rw [HBF.out, HT'.out]; simp [sums]
      exact bodyPost_cell rfl rfl (cw blk) 8 (by simp [hl]) (by kernel_rfl) hF9.sees rfl ⟨by rw [HBLK.out], hB9⟩
theorem rBlock_any (first keys s : List UInt32) (A : Option Addr) (c : Nat) (b : List UInt8) (w : World) (hfl : first.length = 8) (hkl : keys.length = 64) (hs : s.length = 8) (hb : b.length = 64) (hsee : Sees w w.heap.size A (cb b)) :
    Calls Try.prog 161 #[.agg (cw (first ++ keys)).toArray, .agg (cw s).toArray, .slice A 64 c] w fun e w' => e = .returned (.agg (cw (blockF keys s b)).toArray) ∧ Below w.heap.size w w' := by
  obtain ⟨s0, s1, s2, s3, s4, s5, s6, s7, rfl⟩ := eight s hs
  exact rBlock_eight first keys s0 s1 s2 s3 s4 s5 s6 s7 A c b w hfl hkl hb hsee
end Go.Proofs.Ytehokoeajinboaa
