/-
  LamportSigns returns true for every input, and writes nothing that was there: the walk.
-/
import Derived.Test.YtpdfalgjmeagjaaLamOpen
import Derived.Test.YtpdfalgjmeagjaaShaSame
import Derived.ProofKit
import Derived.OpenShut
namespace Go.Proofs.Ytpdfalgjmeagjaa
open Go.RowKit
set_option linter.unusedVariables false

def sgF (gz : Nat) (leaf : Int) (seed d e Z Z2 K HV O TX : List UInt8) (j : Nat) (x : Value) (w : World) : Prop :=
  match j with
  | 0 => x = .agg (cb (d)).toArray
  | 1 => x = .agg (cb (Z)).toArray
  | 2 => x = .agg (cb (K)).toArray
  | 3 => x = .agg (cb (K)).toArray
  | 4 => x = .bool true
  | 5 => x = .bool true
  | 6 => x = .agg (cb (e)).toArray
  | 7 => x = .agg (cb (seed)).toArray
  | 8 => x = .int .i64 leaf
  | 9 => x = .agg (cb (e)).toArray
  | 10 => x = .agg (cb (Z2)).toArray
  | 11 => x = .agg (cb (K)).toArray
  | 12 => x = .agg (cb (K)).toArray
  | 13 => x = .bool true
  | 14 => x = .bool true
  | 15 => x = .bool true
  | 16 => x = .agg (cb (d)).toArray
  | 17 => x = .agg (cb (HV)).toArray
  | 18 => x = .pointer (some ⟨gz, 8192, none⟩)
  | 19 => x = .agg (cb (O)).toArray
  | 20 => ∃ A c, x = .slice A 16900 c ∧ 16900 ≤ c ∧ Sees w w.heap.size A (cb TX)
  | 21 => x = .agg (cb (K)).toArray
  | 22 => x = .agg (cb (K)).toArray
  | 23 => x = .bool true
  | 24 => x = .bool true
  | _ => True
theorem sgF_stab (gz : Nat) (leaf : Int) (seed d e Z Z2 K HV O TX : List UInt8) : ∀ j x w w', Below w.heap.size w w' → sgF gz leaf seed d e Z Z2 K HV O TX j x w → sgF gz leaf seed d e Z Z2 K HV O TX j x w' := by
  intro j x w w' hb h
  unfold sgF at *
  split at h <;> first | exact h | (obtain ⟨A, c, e, hc, hS⟩ := h; exact ⟨A, c, e, hc, hS.step hb⟩) | trivial

section
variable {w : World}
set_option maxHeartbeats 8000000 in
set_option maxRecDepth 100000 in
theorem signs_walk (first keys : List UInt32) (h8 : first.length = 8) (h64 : keys.length = 64) (seed : List UInt8) (hs : seed.length = 32) (leaf : Int) (hl : leaf ≤ 9223372036854775807) (d : List UInt8) (hd : d.length = 32) (e : List UInt8) (he : e.length = 32) :
    Calls Try.prog 13 #[.agg (cw (first ++ keys)).toArray, .agg (cb seed).toArray, .int .i64 leaf, .agg (cb d).toArray, .agg (cb e).toArray] w fun e w' => e = .returned (.bool true) ∧ Below w.heap.size w w' := by
  have HC : Hid ((cw (first ++ keys)).length = 72) := Lib.hid (by simp [h8, h64])
  have H8 := Lib.hid h8
  have H64 := Lib.hid h64
  have HS := Lib.hid hs
  have HSL := Lib.hid (show (cb seed).length = 32 by rw [List.length_map]; exact hs)
  have HD := Lib.hid hd
  have HDL := Lib.hid (show (cb d).length = 32 by rw [List.length_map]; exact hd)
  have HE := Lib.hid he
  have HEL := Lib.hid (show (cb e).length = 32 by rw [List.length_map]; exact he)
  obtain ⟨G, hGe⟩ : ∃ G, Dg.tab first keys h8 = G := ⟨_, rfl⟩
  have HG : Hid (∀ w' (g : Nat), Fresh w.heap.size 26 w' (some ⟨g, 0, none⟩) 72 72 (cw (first ++ keys)) → DgAt w' (some ⟨g, 0, none⟩) G) := Lib.hid (fun w' g hF => by rw [← hGe]; exact DgAt.of_tab ⟨h8, h64, hF.sees⟩)
  have hk1 := open_sign' G seed leaf.toNat d
  have hk2 := open_sign' G seed leaf.toNat e
  have hlS := len_signS G seed leaf.toNat d
  have hlO := len_signO G seed leaf.toNat d
  have hlS2 := len_signS G seed leaf.toNat e
  have hlO2 := len_signO G seed leaf.toNat e
  have hsg1 := fun w' (T : Option Addr) (hG : DgAt w' T G) => Sign_any hG seed hs leaf hl d hd
  have hkey := fun w' (T : Option Addr) (hG : DgAt w' T G) => Key_any hG seed hs leaf hl
  have hkl : (keyF9 G seed leaf.toNat).length = 32 := G.lof _
  obtain ⟨S, hS⟩ : ∃ S, signS G seed leaf.toNat d = S := ⟨_, rfl⟩
  obtain ⟨O, hO⟩ : ∃ O, signO G seed leaf.toNat d = O := ⟨_, rfl⟩
  obtain ⟨S2, hS2⟩ : ∃ S, signS G seed leaf.toNat e = S := ⟨_, rfl⟩
  obtain ⟨O2, hO2⟩ : ∃ O, signO G seed leaf.toNat e = O := ⟨_, rfl⟩
  obtain ⟨K, hK⟩ : ∃ K, keyF9 G seed leaf.toNat = K := ⟨_, rfl⟩
  rw [hS, hO, hK] at hk1
  rw [hS2, hO2, hK] at hk2
  rw [hS] at hlS
  rw [hO] at hlO
  rw [hS2] at hlS2
  rw [hO2] at hlO2
  rw [hS, hO] at hsg1
  rw [hK] at hkl hkey
  obtain ⟨Z, hZ⟩ : ∃ Z, S ++ O = Z := ⟨_, rfl⟩
  obtain ⟨Z2, hZ2⟩ : ∃ Z, S2 ++ O2 = Z := ⟨_, rfl⟩
  have HZ2 : Hid (signS G seed leaf.toNat e ++ signO G seed leaf.toNat e = Z2) := Lib.hid (by rw [hS2, hO2, hZ2])
  rw [hZ] at hsg1
  have hk3 : G.of (textP d (halvesF G S) O) = K := hk1
  have htl := len_textP d (halvesF G S) O (len_halvesF G S) hlO
  have hhv : ∀ L : List UInt8, L.length = 8192 → (∀ j, j < 256 → chunk L j = halfF G (chunk S j)) → L = halvesF G S := fun L hl hc => chunks_eq L _ 256 hl hc
  have HV8 := len_halvesF G S
  obtain ⟨HV, hHV⟩ : ∃ HV, halvesF G S = HV := ⟨_, rfl⟩
  rw [hHV] at hk3 htl hhv HV8
  obtain ⟨TX, hTX⟩ : ∃ TX, textP d HV O = TX := ⟨_, rfl⟩
  rw [hTX] at hk3 htl
  replace HV8 := Lib.hid HV8
  have HVC : Hid ((cb HV).length = 8192) := Lib.hid (by rw [List.length_map]; exact HV8.out)
  have HTX := Lib.hid hTX
  have HTL := Lib.hid htl
  have HHV := Lib.hid hhv
  have HK1 := Lib.hid hk1
  have HK2 := Lib.hid hk2
  have HK3 := Lib.hid hk3
  have HS8 := Lib.hid hlS
  have HO8 := Lib.hid hlO
  have HS82 := Lib.hid hlS2
  have HO82 := Lib.hid hlO2
  have HOL : Hid ((cb O).length = 8192) := Lib.hid (by rw [List.length_map]; exact hlO)
  have HZ := Lib.hid hZ
  have HZ2' := Lib.hid hZ2
  have HZL : Hid ((cb Z).length = 16384) := Lib.hid (by rw [← hZ, List.length_map, List.length_append, hlS, hlO])
  have HZ16 : Hid (Z.length = 16384) := Lib.hid (by rw [← hZ, List.length_append, hlS, hlO])
  have HSG := Lib.hid hsg1
  have HKY := Lib.hid hkey
  have HK32 := Lib.hid hkl
  have HKL : Hid ((cb K).length = 32) := Lib.hid (by rw [List.length_map]; exact hkl)
  have HCH : Hid (∀ k, k < 256 → chunk Z k = chunk S k) := Lib.hid (fun k hk => by rw [← hZ]; exact chunk_lft S O hlS k hk)
  clear h8 h64 hs hd he hGe hk1 hk2 hk3 hlS hlO hlS2 hlO2 hsg1 hkey hkl hS hO hS2 hO2 hK hZ hZ2 htl hhv hHV hTX
  go_enter Try.func13, Try.ntmps13
  go_upto_region 4 with (first
    | (with_reducible refine wpList_box (o := ⟨some 5, _, _, _, _, _⟩) rfl (.tmp 0) 26 rfl (cw (first ++ keys)) rfl 72 HC.out (by decide) ?_; intro gt w1 hgt hFt hBt)
    | (with_reducible refine wpList_box (o := ⟨some 6, _, _, _, _, _⟩) rfl (.tmp 1) 37 rfl (cb seed) rfl 32 HSL.out (by decide) ?_; intro gs w2 hgs hFs hBs)
    | (with_reducible refine wpList_box (o := ⟨some 8, _, _, _, _, _⟩) rfl (.tmp 3) 38 rfl (cb d) rfl 32 HDL.out (by decide) ?_; intro gd w3 hgd hFd hBd)
    | (with_reducible refine wpList_box (o := ⟨some 9, _, _, _, _, _⟩) rfl (.tmp 4) 38 rfl (cb e) rfl 32 HEL.out (by decide) ?_; intro ge w4 hge hFe hBe; have z1 := hBt.size; have z2 := hBs.size; have z3 := hBd.size; have z4 := hBe.size; have hB4 := Below.then_ (Below.then_ (Below.then_ hBt hBs) hBd) hBe; have ft4 := ((hFt.below hBs).below hBd).below hBe; have fs4 := ((hFs.below hBd).below hBe).lower (base' := w.heap.size) (by omega); have fd4 := (hFd.below hBe).lower (base' := w.heap.size) (by omega); have fe4 := hFe.lower (base' := w.heap.size) (by omega))
    | (with_reducible refine wpList_load (o := ⟨some 15, _, _, _, _, _⟩) rfl (.tmp 6) 37 rfl gs 0 _ rfl (cb seed) 32 HSL.out (by kernel_rfl) fs4.sees ?_)
    | (go_at_call 76; refine (HKY.out _ _ (HG.out _ _ ft4)).mono ?_; rintro e w5 ⟨rfl, hB5⟩; have hBw5 := Below.then_ hB4 hB5; have z5 := hB5.size; have ft5 := ft4.below hB5; have fs5 := fs4.below hB5; have fd5 := fd4.below hB5; have fe5 := fe4.below hB5)
    | (with_reducible refine wpList_alloc (o := ⟨some 11, _, _, _, _, _⟩) rfl 38 rfl (cb (List.replicate 32 0)) (by kernel_rfl) 32 (len_zb 32) (by decide) ?_; intro gk w6 hgk hFk hBk; have hBw6 := Below.then_ hBw5 hBk)
    | (with_reducible refine wpList_store rfl rfl (.tmp 11) (.tmp 17) 38 rfl gk 0 w5.heap.size 38 32 (cb (List.replicate 32 0)) (cb K) rfl rfl 32 HKL.out (by kernel_rfl) hFk (by omega) (cb_one _) w hBw6 (by omega) ?_; intro w7 f7 hB7 ho7 hz7; rw [splice_zb 32 K HK32.out] at f7; have ft7 := (ft5.below hBk).other (g' := gk) (by have := ft5.lt_size; omega) ho7; have fs7 := (fs5.below hBk).other (g' := gk) (by have := fs5.lt_size; omega) ho7; have fd7 := (fd5.below hBk).other (g' := gk) (by have := fd5.lt_size; omega) ho7; have fe7 := (fe5.below hBk).other (g' := gk) (by have := fe5.lt_size; omega) ho7; have zb7 := hB7.size)
    | (with_reducible refine wpList_load (o := ⟨some 18, _, _, _, _, _⟩) rfl (.tmp 6) 37 rfl gs 0 _ rfl (cb seed) 32 HSL.out (by kernel_rfl) fs7.sees ?_)
    | (with_reducible refine wpList_load (o := ⟨some 20, _, _, _, _, _⟩) rfl (.tmp 8) 38 rfl gd 0 _ rfl (cb d) 32 HDL.out (by kernel_rfl) fd7.sees ?_)
    | (go_at_call 77; refine (HSG.out _ _ (HG.out _ _ ft7)).mono ?_; rintro e w8 ⟨rfl, hB8⟩; have hBw8 := Below.then_ hB7 hB8; have z8 := hB8.size; have ft8 := ft7.below hB8; have fs8 := fs7.below hB8; have fd8 := fd7.below hB8; have fe8 := fe7.below hB8; have fk8 := f7.below hB8)
    | (with_reducible refine wpList_alloc (o := ⟨some 12, _, _, _, _, _⟩) rfl 138 rfl (cb (List.replicate 16384 0)) (by kernel_rfl) 16384 (len_zb 16384) (by decide) ?_; intro gz w9 hgz hFz hBz; have hBw9 := Below.then_ hBw8 hBz)
    | (with_reducible refine wpList_store rfl rfl (.tmp 12) (.tmp 21) 138 rfl gz 0 w8.heap.size 138 16384 (cb (List.replicate 16384 0)) (cb Z) rfl rfl 16384 HZL.out (by kernel_rfl) hFz (by omega) (cb_one _) w hBw9 (by omega) ?_; intro w10 f10 hB10 ho10 hz10; rw [splice_zb 16384 Z HZ16.out] at f10; have ft10 := (ft8.below hBz).other (g' := gz) (by have := ft8.lt_size; omega) ho10; have fs10 := (fs8.below hBz).other (g' := gz) (by have := fs8.lt_size; omega) ho10; have fd10 := (fd8.below hBz).other (g' := gz) (by have := fd8.lt_size; omega) ho10; have fe10 := (fe8.below hBz).other (g' := gz) (by have := fe8.lt_size; omega) ho10; have fk10 := (fk8.below hBz).other (g' := gz) (by have := fk8.lt_size; omega) ho10)
    | (with_reducible refine wpList_alloc (o := ⟨some 13, _, _, _, _, _⟩) rfl 136 rfl (cb (List.replicate 8192 0)) (by kernel_rfl) 8192 (len_zb 8192) (by decide) ?_; intro gh w11 hgh hFh hBh))
  have zz := hB10.size
  have ft := ft10.below hBh
  have fs := fs10.below hBh
  have fd := fd10.below hBh
  have fe := fe10.below hBh
  have fk := (fk10.below hBh).lower (base' := w.heap.size) (by omega)
  have fz := (f10.below hBh).lower (base' := w.heap.size) (by omega)
  have fh := hFh.lower (base' := w.heap.size) (by omega)
  have hB := Below.then_ hB10 hBh
  have n1 : gt ≠ gh := by have := ft10.lt_size; omega
  have n2 : gs ≠ gh := by have := fs10.lt_size; omega
  have n3 : gd ≠ gh := by have := fd10.lt_size; omega
  have n4 : ge ≠ gh := by have := fe10.lt_size; omega
  have n5 : gk ≠ gh := by have := fk10.lt_size; omega
  have n6 : gz ≠ gh := by have := f10.lt_size; omega
  have n7 : w.heap.size ≤ gh := by omega
  clear hFt hFs hFd hFe hBt hBs hBd hBe z1 z2 z3 z4 hB4 ft4 fs4 fd4 fe4 hB5 hBw5 z5 ft5 fs5 fd5 fe5 hFk hBk hBw6 f7 hB7 ho7 hz7 ft7 fs7 fd7 fe7 zb7 hB8 hBw8 z8 ft8 fs8 fd8 fe8 fk8 hFz hBz hBw9 f10 hB10 ho10 hz10 ft10 fs10 fd10 fe10 fk10 hFh hBh zz hgt hgs hgd hge hgk hgz hgh HSG HKY
  try simp only [Act.put, List.setIfInBounds_toArray, List.set_cons_succ, List.set_cons_zero]
  go_wp2_with fail
  go_loopw [22] (fun i wr => ∃ (k : Nat) (L : List UInt8), k ≤ 256 ∧ i = .int .i64 (k : Int) ∧ Hid (L.length = 8192) ∧ Hid (∀ j, j < k → chunk L j = halfF G (chunk S j)) ∧ Fresh w.heap.size 26 wr (some ⟨gt, 0, none⟩) 72 72 (cw (first ++ keys)) ∧ Fresh w.heap.size 37 wr (some ⟨gs, 0, none⟩) 32 32 (cb seed) ∧ Fresh w.heap.size 38 wr (some ⟨gd, 0, none⟩) 32 32 (cb d) ∧ Fresh w.heap.size 38 wr (some ⟨ge, 0, none⟩) 32 32 (cb e) ∧ Fresh w.heap.size 38 wr (some ⟨gk, 0, none⟩) 32 32 (cb K) ∧ Fresh w.heap.size 138 wr (some ⟨gz, 0, none⟩) 16384 16384 (cb Z) ∧ Fresh w.heap.size 136 wr (some ⟨gh, 0, none⟩) 8192 8192 (cb L) ∧ Below w.heap.size w wr) (fun i _ => 256 - (intOf i).toNat)
  case atStart => exact ⟨0, _, by omega, rfl, Lib.hid List.length_replicate, Lib.hid (fun j hj => by omega), ft, fs, fd, fe, fk, fz, fh, hB⟩
  case round =>
    clear ft fs fd fe fk fz fh hB
    obtain ⟨k, L, hk, rfl, HL, HCk, ft, fs, fd, fe, fk, fz, fh, hB⟩ := hrel
    by_cases hlt : k < 256
    · obtain ⟨X, hX⟩ : ∃ X, chunk S k = X := ⟨_, rfl⟩
      obtain ⟨Y, hY⟩ : ∃ Y, halfF G X = Y := ⟨_, rfl⟩
      have HX := Lib.hid hX
      have HY := Lib.hid hY
      have HXL : Hid (X.length = 32) := Lib.hid (by rw [← hX]; exact len_chunk S k (by rw [HS8.out]; omega))
      have HXC : Hid ((cb X).length = 32) := Lib.hid (by rw [List.length_map]; exact HXL.out)
      have HYL : Hid (Y.length = 32) := Lib.hid (by rw [← hY]; exact len_halfF _ _)
      have HYC : Hid ((cb Y).length = 32) := Lib.hid (by rw [List.length_map]; exact HYL.out)
      have hhalf := Half_any (HG.out _ _ ft) X HXL.out
      rw [hY] at hhalf
      have hse := sees_chunk (off := k * 32) fz.sees k (by omega)
      rw [HCH.out k hlt, hX] at hse
      clear hX hY
      go_wp2_with (first
        | (with_reducible refine wpList_load (o := ⟨some 29, _, _, _, _, _⟩) rfl (.tmp 28) 37 rfl gz (k * 32) _ rfl (cb X) 32 HXC.out (by kernel_rfl) hse ?_)
        | (go_at_call 78; refine hhalf.mono ?_; rintro e w7 ⟨rfl, hB7⟩; have hBw7 := Below.then_ hB hB7)
        | (with_reducible refine wpList_store rfl rfl (.tmp 31) (.tmp 30) 38 rfl gh (k * 32) w.heap.size 136 8192 (cb L) (cb Y) rfl rfl 32 HYC.out (by kernel_rfl) (fh.below hB7) (by omega) (cb_one _) w hBw7 n7 ?_; intro w8 f8 hB8 ho8 hz8))
      rw [cb_splice, Nat.mul_comm k 32] at f8
      go_roundw
      case rel =>
        refine ⟨k + 1, _, by omega, by go_num, Lib.hid ?_, Lib.hid ?_, (ft.below hB7).other n1 ho8, (fs.below hB7).other n2 ho8, (fd.below hB7).other n3 ho8, (fe.below hB7).other n4 ho8, (fk.below hB7).other n5 ho8, (fz.below hB7).other n6 ho8, f8, hB8⟩
        · rw [len_splice8 _ _ _ (by rw [HYL.out, HL.out]; omega), HL.out]
        · intro j hj
          rw [chunk_splice _ _ _ _ HYL.out (by rw [HL.out]; omega)]
          by_cases e : j = k
          · rw [if_pos e, e, HX.out, HY.out]
          · rw [if_neg e]
            exact HCk.out j (by omega)
      case measure => simp [intOf]; omega
    · obtain rfl : k = 256 := by omega
      have e0 := HHV.out L HL.out HCk.out
      rw [e0] at fh
      have hG := HG.out _ _ ft
      clear e0 HCk HL HHV HG
      go_wp2_with fail
      refine region_all_tail 25 (sgF gz leaf seed d e Z Z2 K HV O TX) (by kernel_rfl) (by kernel_rfl) (by kernel_rfl) (sgF_stab _ _ _ _ _ _ _ _ _ _ _) ?_ ?_
      · intro w0 hb0
        have hz0 := hb0.size
        simp only [List.take_succ_cons, List.take_zero]
        refine ⟨?_, ?_, ?_, ?_, ?_, ?_, ?_, ?_, ?_, ?_, ?_, ?_, ?_, ?_, ?_, ?_, ?_, ?_, ?_, ?_, ?_, ?_, ?_, ?_, ?_, trivial⟩
        all_goals intro listed a1 w' hk1 hd1
        · have f8_ : a1.eval (.tmp 8) = .pointer (some ⟨gd, 0, none⟩) := hk1.ev_old 8 (by kernel_rfl)
          have g8_ : a1.tmps[8]?.getD undef = .pointer (some ⟨gd, 0, none⟩) := by simpa [Act.eval] using f8_
          exact stepOk_value rfl (run_load_agg (.tmp 8) 38 rfl (hk1.ev_old 8 (by kernel_rfl)) (cb d) 32 HDL.out (by kernel_rfl) ((fd.below hb0).below hk1.below).sees) rfl
        · have f12_ : a1.eval (.tmp 12) = .pointer (some ⟨gz, 0, none⟩) := hk1.ev_old 12 (by kernel_rfl)
          have g12_ : a1.tmps[12]?.getD undef = .pointer (some ⟨gz, 0, none⟩) := by simpa [Act.eval] using f12_
          exact stepOk_value rfl (run_load_agg (.tmp 12) 138 rfl (hk1.ev_old 12 (by kernel_rfl)) (cb Z) 16384 HZL.out (by kernel_rfl) ((fz.below hb0).below hk1.below).sees) rfl
        · have f5_ : a1.eval (.tmp 5) = .pointer (some ⟨gt, 0, none⟩) := hk1.ev_old 5 (by kernel_rfl)
          have g5_ : a1.tmps[5]?.getD undef = .pointer (some ⟨gt, 0, none⟩) := by simpa [Act.eval] using f5_
          obtain ⟨y0, e0, q0, rfl⟩ := hk1.ev_new hd1 0 33 (by kernel_rfl) rfl
          obtain ⟨y1, e1, q1, rfl⟩ := hk1.ev_new hd1 1 34 (by kernel_rfl) rfl
          refine stepOk_enter rfl (f := 79) (args := #[.pointer (some ⟨gt, 0, none⟩), .agg (cb (d)).toArray, .agg (cb (Z)).toArray]) (by go_simp) ?_
          have ho := Open_any (hG.step (Below.then_ hb0 hk1.below)) d S O HD.out HS8.out HO8.out
          rw [HZ.out, HK1.out] at ho
          refine ho.mono ?_
          rintro e w5 ⟨rfl, hB5⟩
          exact ⟨_, rfl, rfl, hB5⟩
        · have f11_ : a1.eval (.tmp 11) = .pointer (some ⟨gk, 0, none⟩) := hk1.ev_old 11 (by kernel_rfl)
          have g11_ : a1.tmps[11]?.getD undef = .pointer (some ⟨gk, 0, none⟩) := by simpa [Act.eval] using f11_
          exact stepOk_value rfl (run_load_agg (.tmp 11) 38 rfl (hk1.ev_old 11 (by kernel_rfl)) (cb K) 32 HKL.out (by kernel_rfl) ((fk.below hb0).below hk1.below).sees) rfl
        · obtain ⟨y2, e2, q2, rfl⟩ := hk1.ev_new hd1 2 35 (by kernel_rfl) rfl
          obtain ⟨y3, e3, q3, rfl⟩ := hk1.ev_new hd1 3 36 (by kernel_rfl) rfl
          exact stepOk_value rfl (run_eq32b (.tmp 35) (.tmp 36) 38 rfl K K e2 e3 HK32.out HK32.out) (by show Value.bool (K == K) = _; simp)
        · obtain ⟨y4, e4, q4, rfl⟩ := hk1.ev_new hd1 4 37 (by kernel_rfl) rfl
          exact stepOk_value rfl (v := .bool true) (by go_simp) rfl
        · obtain ⟨y5, e5, q5, rfl⟩ := hk1.ev_new hd1 5 38 (by kernel_rfl) rfl
          have f9_ : a1.eval (.tmp 9) = .pointer (some ⟨ge, 0, none⟩) := hk1.ev_old 9 (by kernel_rfl)
          have g9_ : a1.tmps[9]?.getD undef = .pointer (some ⟨ge, 0, none⟩) := by simpa [Act.eval] using f9_
          exact stepOk_valG (wanted_at (t := 38) rfl rfl q5) (run_load_agg (.tmp 9) 38 rfl (hk1.ev_old 9 (by kernel_rfl)) (cb e) 32 HEL.out (by kernel_rfl) ((fe.below hb0).below hk1.below).sees) rfl
        · obtain ⟨y5, e5, q5, rfl⟩ := hk1.ev_new hd1 5 38 (by kernel_rfl) rfl
          have f6_ : a1.eval (.tmp 6) = .pointer (some ⟨gs, 0, none⟩) := hk1.ev_old 6 (by kernel_rfl)
          have g6_ : a1.tmps[6]?.getD undef = .pointer (some ⟨gs, 0, none⟩) := by simpa [Act.eval] using f6_
          exact stepOk_valG (wanted_at (t := 38) rfl rfl q5) (run_load_agg (.tmp 6) 37 rfl (hk1.ev_old 6 (by kernel_rfl)) (cb seed) 32 HSL.out (by kernel_rfl) ((fs.below hb0).below hk1.below).sees) rfl
        · obtain ⟨y5, e5, q5, rfl⟩ := hk1.ev_new hd1 5 38 (by kernel_rfl) rfl
          have f2_ : a1.eval (.tmp 2) = .int .i64 leaf := hk1.ev_old 2 (by kernel_rfl)
          have g2_ : a1.tmps[2]?.getD undef = .int .i64 leaf := by simpa [Act.eval] using f2_
          exact stepOk_valG (wanted_at (t := 38) rfl rfl q5) (v := .int .i64 leaf) (by go_simp) rfl
        · obtain ⟨y5, e5, q5, rfl⟩ := hk1.ev_new hd1 5 38 (by kernel_rfl) rfl
          have f9_ : a1.eval (.tmp 9) = .pointer (some ⟨ge, 0, none⟩) := hk1.ev_old 9 (by kernel_rfl)
          have g9_ : a1.tmps[9]?.getD undef = .pointer (some ⟨ge, 0, none⟩) := by simpa [Act.eval] using f9_
          exact stepOk_valG (wanted_at (t := 38) rfl rfl q5) (run_load_agg (.tmp 9) 38 rfl (hk1.ev_old 9 (by kernel_rfl)) (cb e) 32 HEL.out (by kernel_rfl) ((fe.below hb0).below hk1.below).sees) rfl
        · obtain ⟨y5, e5, q5, rfl⟩ := hk1.ev_new hd1 5 38 (by kernel_rfl) rfl
          have f5_ : a1.eval (.tmp 5) = .pointer (some ⟨gt, 0, none⟩) := hk1.ev_old 5 (by kernel_rfl)
          have g5_ : a1.tmps[5]?.getD undef = .pointer (some ⟨gt, 0, none⟩) := by simpa [Act.eval] using f5_
          obtain ⟨y7, e7, q7, rfl⟩ := hk1.ev_new hd1 7 40 (by kernel_rfl) rfl
          obtain ⟨y8, e8, q8, rfl⟩ := hk1.ev_new hd1 8 41 (by kernel_rfl) rfl
          obtain ⟨y9, e9, q9, rfl⟩ := hk1.ev_new hd1 9 42 (by kernel_rfl) rfl
          refine stepOk_enter (wanted_at (t := 38) rfl rfl q5) (f := 77) (args := #[.pointer (some ⟨gt, 0, none⟩), .agg (cb (seed)).toArray, .int .i64 leaf, .agg (cb (e)).toArray]) (by go_simp) ?_
          have ho := Sign_any (hG.step (Below.then_ hb0 hk1.below)) seed HS.out leaf hl e HE.out
          rw [HZ2.out] at ho
          refine ho.mono ?_
          rintro e w5 ⟨rfl, hB5⟩
          exact ⟨_, rfl, rfl, hB5⟩
        · obtain ⟨y5, e5, q5, rfl⟩ := hk1.ev_new hd1 5 38 (by kernel_rfl) rfl
          have f5_ : a1.eval (.tmp 5) = .pointer (some ⟨gt, 0, none⟩) := hk1.ev_old 5 (by kernel_rfl)
          have g5_ : a1.tmps[5]?.getD undef = .pointer (some ⟨gt, 0, none⟩) := by simpa [Act.eval] using f5_
          obtain ⟨y6, e6, q6, rfl⟩ := hk1.ev_new hd1 6 39 (by kernel_rfl) rfl
          obtain ⟨y10, e10, q10, rfl⟩ := hk1.ev_new hd1 10 43 (by kernel_rfl) rfl
          refine stepOk_enter (wanted_at (t := 38) rfl rfl q5) (f := 79) (args := #[.pointer (some ⟨gt, 0, none⟩), .agg (cb (e)).toArray, .agg (cb (Z2)).toArray]) (by go_simp) ?_
          have ho := Open_any (hG.step (Below.then_ hb0 hk1.below)) e S2 O2 HE.out HS82.out HO82.out
          rw [HZ2'.out, HK2.out] at ho
          refine ho.mono ?_
          rintro e w5 ⟨rfl, hB5⟩
          exact ⟨_, rfl, rfl, hB5⟩
        · obtain ⟨y5, e5, q5, rfl⟩ := hk1.ev_new hd1 5 38 (by kernel_rfl) rfl
          have f11_ : a1.eval (.tmp 11) = .pointer (some ⟨gk, 0, none⟩) := hk1.ev_old 11 (by kernel_rfl)
          have g11_ : a1.tmps[11]?.getD undef = .pointer (some ⟨gk, 0, none⟩) := by simpa [Act.eval] using f11_
          exact stepOk_valG (wanted_at (t := 38) rfl rfl q5) (run_load_agg (.tmp 11) 38 rfl (hk1.ev_old 11 (by kernel_rfl)) (cb K) 32 HKL.out (by kernel_rfl) ((fk.below hb0).below hk1.below).sees) rfl
        · obtain ⟨y5, e5, q5, rfl⟩ := hk1.ev_new hd1 5 38 (by kernel_rfl) rfl
          obtain ⟨y11, e11, q11, rfl⟩ := hk1.ev_new hd1 11 44 (by kernel_rfl) rfl
          obtain ⟨y12, e12, q12, rfl⟩ := hk1.ev_new hd1 12 45 (by kernel_rfl) rfl
          exact stepOk_valG (wanted_at (t := 38) rfl rfl q5) (run_eq32b (.tmp 44) (.tmp 45) 38 rfl K K e11 e12 HK32.out HK32.out) (by show Value.bool (K == K) = _; simp)
        · obtain ⟨y5, e5, q5, rfl⟩ := hk1.ev_new hd1 5 38 (by kernel_rfl) rfl
          obtain ⟨y13, e13, q13, rfl⟩ := hk1.ev_new hd1 13 46 (by kernel_rfl) rfl
          exact stepOk_value rfl (v := .bool true) (by go_simp) rfl
        · obtain ⟨y14, e14, q14, rfl⟩ := hk1.ev_new hd1 14 47 (by kernel_rfl) rfl
          exact stepOk_value rfl (v := .bool true) (by go_simp) rfl
        · obtain ⟨y15, e15, q15, rfl⟩ := hk1.ev_new hd1 15 48 (by kernel_rfl) rfl
          have f8_ : a1.eval (.tmp 8) = .pointer (some ⟨gd, 0, none⟩) := hk1.ev_old 8 (by kernel_rfl)
          have g8_ : a1.tmps[8]?.getD undef = .pointer (some ⟨gd, 0, none⟩) := by simpa [Act.eval] using f8_
          exact stepOk_valG (wanted_at (t := 48) rfl rfl q15) (run_load_agg (.tmp 8) 38 rfl (hk1.ev_old 8 (by kernel_rfl)) (cb d) 32 HDL.out (by kernel_rfl) ((fd.below hb0).below hk1.below).sees) rfl
        · obtain ⟨y15, e15, q15, rfl⟩ := hk1.ev_new hd1 15 48 (by kernel_rfl) rfl
          have f13_ : a1.eval (.tmp 13) = .pointer (some ⟨gh, 0, none⟩) := hk1.ev_old 13 (by kernel_rfl)
          have g13_ : a1.tmps[13]?.getD undef = .pointer (some ⟨gh, 0, none⟩) := by simpa [Act.eval] using f13_
          exact stepOk_valG (wanted_at (t := 48) rfl rfl q15) (run_load_agg (.tmp 13) 136 rfl (hk1.ev_old 13 (by kernel_rfl)) (cb HV) 8192 HVC.out (by kernel_rfl) ((fh.below hb0).below hk1.below).sees) rfl
        · obtain ⟨y15, e15, q15, rfl⟩ := hk1.ev_new hd1 15 48 (by kernel_rfl) rfl
          have f12_ : a1.eval (.tmp 12) = .pointer (some ⟨gz, 0, none⟩) := hk1.ev_old 12 (by kernel_rfl)
          have g12_ : a1.tmps[12]?.getD undef = .pointer (some ⟨gz, 0, none⟩) := by simpa [Act.eval] using f12_
          exact stepOk_valG (wanted_at (t := 48) rfl rfl q15) (v := .pointer (some ⟨gz, 8192, none⟩)) (by go_simp) rfl
        · obtain ⟨y15, e15, q15, rfl⟩ := hk1.ev_new hd1 15 48 (by kernel_rfl) rfl
          obtain ⟨y18, e18, q18, rfl⟩ := hk1.ev_new hd1 18 51 (by kernel_rfl) rfl
          exact stepOk_valG (wanted_at (t := 48) rfl rfl q15) (run_load_agg (.tmp 51) 136 rfl e18 (cb O) 8192 HOL.out (by kernel_rfl) (seesO_right (S := S) (O := O) (by rw [HZ.out]; exact ((fz.below hb0).below hk1.below).sees) HS8.out)) rfl
        · obtain ⟨y15, e15, q15, rfl⟩ := hk1.ev_new hd1 15 48 (by kernel_rfl) rfl
          obtain ⟨y16, e16, q16, rfl⟩ := hk1.ev_new hd1 16 49 (by kernel_rfl) rfl
          obtain ⟨y17, e17, q17, rfl⟩ := hk1.ev_new hd1 17 50 (by kernel_rfl) rfl
          obtain ⟨y19, e19, q19, rfl⟩ := hk1.ev_new hd1 19 52 (by kernel_rfl) rfl
          refine stepOk_enter (wanted_at (t := 48) rfl rfl q15) (f := 80) (args := #[.agg (cb (d)).toArray, .agg (cb (HV)).toArray, .agg (cb (O)).toArray]) (by go_simp) ?_
          refine (LText_any d HV O HD.out HV8.out HO8.out).mono ?_
          rintro e w5 ⟨A5, c5, rfl, hF5, hB5⟩
          rw [HTX.out] at hF5
          exact ⟨_, rfl, ⟨A5, c5, rfl, hF5.cap.1, hF5.sees⟩, hB5⟩
        · obtain ⟨y15, e15, q15, rfl⟩ := hk1.ev_new hd1 15 48 (by kernel_rfl) rfl
          have f5_ : a1.eval (.tmp 5) = .pointer (some ⟨gt, 0, none⟩) := hk1.ev_old 5 (by kernel_rfl)
          have g5_ : a1.tmps[5]?.getD undef = .pointer (some ⟨gt, 0, none⟩) := by simpa [Act.eval] using f5_
          obtain ⟨y20, e20, _, q20⟩ := hk1.ev_new hd1 20 53 (by kernel_rfl) rfl
          obtain ⟨A5, c5, rfl, hc5, hS5⟩ := q20
          refine stepOk_enter (wanted_at (t := 48) rfl rfl q15) (f := 20) (args := #[.pointer (some ⟨gt, 0, none⟩), .slice A5 16900 c5]) (by go_simp) ?_
          have ho := hG.of w' (Below.then_ hb0 hk1.below) A5 16900 c5 TX hS5 HTL.out hc5 (by omega)
          rw [HK3.out] at ho
          refine ho.mono ?_
          rintro e w5 ⟨rfl, hB5⟩
          exact ⟨_, rfl, rfl, hB5⟩
        · obtain ⟨y15, e15, q15, rfl⟩ := hk1.ev_new hd1 15 48 (by kernel_rfl) rfl
          have f11_ : a1.eval (.tmp 11) = .pointer (some ⟨gk, 0, none⟩) := hk1.ev_old 11 (by kernel_rfl)
          have g11_ : a1.tmps[11]?.getD undef = .pointer (some ⟨gk, 0, none⟩) := by simpa [Act.eval] using f11_
          exact stepOk_valG (wanted_at (t := 48) rfl rfl q15) (run_load_agg (.tmp 11) 38 rfl (hk1.ev_old 11 (by kernel_rfl)) (cb K) 32 HKL.out (by kernel_rfl) ((fk.below hb0).below hk1.below).sees) rfl
        · obtain ⟨y15, e15, q15, rfl⟩ := hk1.ev_new hd1 15 48 (by kernel_rfl) rfl
          obtain ⟨y21, e21, q21, rfl⟩ := hk1.ev_new hd1 21 54 (by kernel_rfl) rfl
          obtain ⟨y22, e22, q22, rfl⟩ := hk1.ev_new hd1 22 55 (by kernel_rfl) rfl
          exact stepOk_valG (wanted_at (t := 48) rfl rfl q15) (run_eq32b (.tmp 54) (.tmp 55) 38 rfl K K e21 e22 HK32.out HK32.out) (by show Value.bool (K == K) = _; simp)
        · obtain ⟨y15, e15, q15, rfl⟩ := hk1.ev_new hd1 15 48 (by kernel_rfl) rfl
          obtain ⟨y23, e23, q23, rfl⟩ := hk1.ev_new hd1 23 56 (by kernel_rfl) rfl
          exact stepOk_value rfl (v := .bool true) (by go_simp) rfl
      · intro a1 w16 hb16 hp
        obtain ⟨x0, p0, x1, p1, x2, p2, x3, p3, x4, p4, x5, p5, x6, p6, x7, p7, x8, p8, x9, p9, x10, p10, x11, p11, x12, p12, x13, p13, x14, p14, x15, p15, x16, p16, x17, p17, x18, p18, x19, p19, x20, p20, x21, p21, x22, p22, x23, p23, x24, p24, rfl⟩ := hp
        simp only [sgF] at p0 p1 p2 p3 p4 p5 p6 p7 p8 p9 p10 p11 p12 p13 p14 p15 p16 p17 p18 p19 p21 p22 p23 p24
        subst p0 p1 p2 p3 p4 p5 p6 p7 p8 p9 p10 p11 p12 p13 p14 p15 p16 p17 p18 p19 p21 p22 p23 p24
        simp only [List.drop_succ_cons, List.drop_zero, Act.put, List.setIfInBounds_toArray, List.set_cons_succ, List.set_cons_zero]
        have hBw16 := Below.then_ hB hb16
        go_wp2_with (go_at_call 81; refine awake9_any.mono ?_; rintro e w17 ⟨rfl, hB17⟩)
        go_ret
        exact ⟨rfl, Below.then_ hBw16 hB17⟩
theorem signs_law (W : World) (first keys : List UInt32) (h8 : first.length = 8) (h64 : keys.length = 64) (seed : List UInt8) (hs : seed.length = 32) (leaf : Int) (wl : (Lit.int .i64 leaf).wf = true) (d : List UInt8) (hd : d.length = 32) (e : List UInt8) (he : e.length = 32) :
    Calls Try.prog 13 #[.agg (cw (first ++ keys)).toArray, .agg (cb seed).toArray, .int .i64 leaf, .agg (cb d).toArray, .agg (cb e).toArray] W fun e w' => e = .returned (.bool true) ∧ Below W.heap.size W w' :=
  signs_walk first keys h8 h64 seed hs leaf (bounds_i64 wl).2 d hd e he
end
end Go.Proofs.Ytpdfalgjmeagjaa
