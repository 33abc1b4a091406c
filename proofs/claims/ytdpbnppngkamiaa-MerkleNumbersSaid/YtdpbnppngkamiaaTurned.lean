/-
  What sha.turned answers: the state behind all rounds.
-/
import Derived.Test.YtdpbnppngkamiaaSched
namespace Go.Proofs.Ytdpbnppngkamiaa
open Go.RowKit
set_option linter.unusedVariables false
theorem Fresh.cell32 {base : Nat} {e : TypeId} {w : World} {g n k : Nat} {l : List UInt32} (h : Fresh base e w (some ⟨g, 0, none⟩) n n (cw l)) {c : UInt32} (hk : l[k]? = some c) : w.cell? ⟨g, k, none⟩ = some (.int .u32 (c.toNat : Int)) := by
  have hl : l.length = n := by simpa using h.len
  obtain ⟨hlt, _⟩ := List.getElem?_eq_some_iff.1 hk
  obtain ⟨d, h1, _, h3⟩ := h.word (k := k) (by omega)
  have h1' := h1.out
  rw [hk] at h1'
  injection h1' with h1'
  rw [h1']
  exact h3
theorem u32_flip (x : UInt32) : bits BinOp.xor IntKind.u32 (if IntKind.u32.signed = true then -1 else IntKind.u32.max) (x.toNat : Int) = ((~~~x).toNat : Int) := by
  have e : (if IntKind.u32.signed = true then (-1 : Int) else IntKind.u32.max) = (((4294967295 : UInt32)).toNat : Int) := by decide
  rw [e, u32_xor]
  have : (4294967295 : UInt32) ^^^ x = ~~~x := UInt32.neg_one_xor
  rw [this]
theorem u32_sum5 (a b c d e : UInt32) : ((a.toNat : Int) + b.toNat + c.toNat + d.toNat + e.toNat) % 4294967296 = ((a + b + c + d + e).toNat : Int) := by
  rw [UInt32.toNat_add, UInt32.toNat_add, UInt32.toNat_add, UInt32.toNat_add]
  omega
theorem t_nat (e f g h k w : UInt32) : ((h.toNat : Int) + bits BinOp.xor IntKind.u32 (bits BinOp.xor IntKind.u32 ((rr e 6).toNat : Int) ((rr e 11).toNat : Int)) ((rr e 25).toNat : Int) +
    bits BinOp.xor IntKind.u32 (bits BinOp.and IntKind.u32 (e.toNat : Int) (f.toNat : Int)) (bits BinOp.and IntKind.u32 (bits BinOp.xor IntKind.u32 (if IntKind.u32.signed = true then -1 else IntKind.u32.max) (e.toNat : Int)) (g.toNat : Int)) +
    (k.toNat : Int) + (w.toNat : Int)) % 4294967296 = ((tOf e f g h k w).toNat : Int) := by
  rw [u32_flip, u32_xor, u32_xor, u32_and, u32_and, u32_xor, u32_sum5]
  rfl
theorem u_nat (a b c : UInt32) : (bits BinOp.xor IntKind.u32 (bits BinOp.xor IntKind.u32 ((rr a 2).toNat : Int) ((rr a 13).toNat : Int)) ((rr a 22).toNat : Int) +
    bits BinOp.xor IntKind.u32 (bits BinOp.xor IntKind.u32 (bits BinOp.and IntKind.u32 (a.toNat : Int) (b.toNat : Int)) (bits BinOp.and IntKind.u32 (a.toNat : Int) (c.toNat : Int))) (bits BinOp.and IntKind.u32 (b.toNat : Int) (c.toNat : Int))) % 4294967296 = ((uOf a b c).toNat : Int) := by
  rw [u32_and, u32_and, u32_and, u32_xor, u32_xor, u32_xor, u32_xor, u32_add]
  rfl
theorem zip_get (keys ws : List UInt32) (k : Nat) (x y : UInt32) (hx : keys[k]? = some x) (hy : ws[k]? = some y) : (keys.zip ws)[k]? = some (x, y) := by
  rw [List.getElem?_zip_eq_some]
  exact ⟨hx, hy⟩
def RoundRel (keys ws s : List UInt32) (gs gw gr kb ko : Nat) (W : World) (a b c d e f g h i : Value) (wr : World) : Prop :=
  ∃ (k : Nat) (x0 x1 x2 x3 x4 x5 x6 x7 : UInt32), k ≤ 64 ∧ i = .int .i64 k ∧ a = .int .u32 (x0.toNat : Int) ∧ b = .int .u32 (x1.toNat : Int) ∧ c = .int .u32 (x2.toNat : Int) ∧ d = .int .u32 (x3.toNat : Int) ∧
    e = .int .u32 (x4.toNat : Int) ∧ f = .int .u32 (x5.toNat : Int) ∧ g = .int .u32 (x6.toNat : Int) ∧ h = .int .u32 (x7.toNat : Int) ∧ Hid (((keys.zip ws).take k).foldl rnd s = [x0, x1, x2, x3, x4, x5, x6, x7]) ∧
    Fresh W.heap.size 77 wr (some ⟨gw, 0, none⟩) 64 64 (cw ws) ∧ Fresh W.heap.size 76 wr (some ⟨gr, 0, none⟩) 8 8 (cw (List.replicate 8 0)) ∧ Sees wr wr.heap.size (some ⟨kb, ko, none⟩) (cw keys) ∧ Below W.heap.size W wr
set_option maxHeartbeats 2000000 in
set_option maxRecDepth 100000 in
theorem turned_any (kb ko : Nat) (keys ws : List UInt32) (s0 s1 s2 s3 s4 s5 s6 s7 : UInt32) (w : World) (hk : Sees w w.heap.size (some ⟨kb, ko, none⟩) (cw keys)) (hkl : keys.length = 64) (hwl : ws.length = 64) :
    Calls Try.prog 168 #[.pointer (some ⟨kb, ko, none⟩), .agg (cw [s0, s1, s2, s3, s4, s5, s6, s7]).toArray, .agg (cw ws).toArray] w fun e w' => e = .returned (.agg (cw (turn keys ws [s0, s1, s2, s3, s4, s5, s6, s7])).toArray) ∧ Below w.heap.size w w' := by
  have HK := Lib.hid hkl
  have HW := Lib.hid hwl
  clear hkl hwl
  go_enter Try.func168, Try.ntmps168
  go_wp2_with (first
    | (with_reducible refine wpList_box (o := ⟨some 4, _, _, _, _, _⟩) rfl (.tmp 1) 76 rfl (cw [s0, s1, s2, s3, s4, s5, s6, s7]) rfl 8 (by simp) (by decide) ?_; intro gs w1 hgs hFs hBs)
    | (with_reducible refine wpList_box (o := ⟨some 5, _, _, _, _, _⟩) rfl (.tmp 2) 77 rfl (cw ws) rfl 64 (by simp [HW.out]) (by decide) ?_; intro gw w2 hgw hFw hBw)
    | (with_reducible refine wpList_alloc (o := ⟨some 6, _, _, _, _, _⟩) rfl 76 rfl (cw (List.replicate 8 0)) (by kernel_rfl) 8 (by simp) (by decide) ?_; intro gr w3 hgr hFr hBr))
  have d1 := hFs.lt_size
  have d2 := hFw.lt_size
  have hz1 := hBs.size
  have hz2 := hBw.size
  have hB3 := Below.then_ (Below.then_ hBs hBw) hBr
  have hFs3 := (hFs.below hBw).below hBr
  have hFw3 := (hFw.below hBr).lower hz1
  have hFr3 := hFr.lower (Nat.le_trans hz1 hz2)
  have hK3 := hk.step hB3
  clear hFs hFw hFr hBs hBw hBr hk
  have c0 := hFs3.cell32 (k := 0) rfl
  have c1 := hFs3.cell32 (k := 1) rfl
  have c2 := hFs3.cell32 (k := 2) rfl
  have c3 := hFs3.cell32 (k := 3) rfl
  have c4 := hFs3.cell32 (k := 4) rfl
  have c5 := hFs3.cell32 (k := 5) rfl
  have c6 := hFs3.cell32 (k := 6) rfl
  have c7 := hFs3.cell32 (k := 7) rfl
  go_quiet (fail)
  clear c0 c1 c2 c3 c4 c5 c6 c7 hFs3
  go_wp2
  go_loopw [7, 8, 9, 10, 11, 12, 13, 14, 34] (RoundRel keys ws [s0, s1, s2, s3, s4, s5, s6, s7] gs gw gr kb ko w) (fun _ _ _ _ _ _ _ _ i _ => 64 - (intOf i).toNat)
  case atStart => exact ⟨0, s0, s1, s2, s3, s4, s5, s6, s7, by omega, rfl, rfl, rfl, rfl, rfl, rfl, rfl, rfl, rfl, rfl, hFw3.below (below_drewN' (Below.refl _ _) nq), hFr3.below (below_drewN' (Below.refl _ _) nq), hK3.step (below_drewN' (Below.refl _ _) nq), below_drewN' hB3 nq⟩
  case round =>
    obtain ⟨k, x0, x1, x2, x3, x4, x5, x6, x7, hk, rfl, rfl, rfl, rfl, rfl, rfl, rfl, rfl, rfl, HF, hW, hR, hKs, hBel⟩ := hrel
    clear hFw3 hFr3 hK3 hB3
    by_cases hlt : k < 64
    · obtain ⟨wk, H1, l1, r1⟩ := hW.word (k := k) (by omega)
      obtain ⟨b', o', he, hb', kk, H2, l2, r2⟩ := hKs.word HK.out hlt
      obtain ⟨rfl, rfl⟩ : kb = b' ∧ ko = o' := by simpa using he
      clear he
      go_wp2
      go_quiet ((go_at_call 172; exact Calls.quiet_of_same (ror_any _ _ _ rfl (by decide) _)))
      go_wp2_with (go_at_call 172; refine (ror_any _ _ _ rfl (by decide) _).mono ?_; rintro e w' ⟨rfl, rfl⟩)
      go_roundw
      case rel =>
        have hb9 : Below wr.heap.size wr (wr.drewN nq) := below_drewN' (Below.refl _ _) nq
        refine ⟨k + 1, tOf x4 x5 x6 x7 kk wk + uOf x0 x1 x2, x0, x1, x2, x3 + tOf x4 x5 x6 x7 kk wk, x4, x5, x6, by omega, by go_num, ?_, rfl, rfl, rfl, ?_, rfl, rfl, rfl, ?_, hW.below hb9, hR.below hb9, hKs.step hb9, Below.then_ hBel hb9⟩
        · rw [t_nat, u_nat, u32_add]
        · rw [t_nat, u32_add]
        · exact Lib.hid (by rw [foldl_take_succ _ _ _ _ (zip_get keys ws k kk wk H2.out H1.out), HF.out]; rfl)
      case measure => simp [intOf]; omega
    · obtain rfl : k = 64 := by omega
      have hfin : turn keys ws [s0, s1, s2, s3, s4, s5, s6, s7] = [x0, x1, x2, x3, x4, x5, x6, x7] := by
        have h := HF.out
        rwa [List.take_of_length_le (by rw [List.length_zip, HK.out, HW.out]; decide)] at h
      have HT := Lib.hid hfin
      clear hfin
      have hone : ∀ u ∈ [Value.int .u32 (x0.toNat : Int), .int .u32 (x1.toNat : Int), .int .u32 (x2.toNat : Int), .int .u32 (x3.toNat : Int), .int .u32 (x4.toNat : Int), .int .u32 (x5.toNat : Int), .int .u32 (x6.toNat : Int), .int .u32 (x7.toNat : Int)], u.oneCell' = true := cw_one [x0, x1, x2, x3, x4, x5, x6, x7]
      have HO := Lib.hid hone
      clear hone
      go_wp2_with (with_reducible refine wpList_store rfl rfl (.tmp 6) (.tmp 107) 76 rfl gr 0 w.heap.size 76 8 (cw (List.replicate 8 0)) [.int .u32 (x0.toNat : Int), .int .u32 (x1.toNat : Int), .int .u32 (x2.toNat : Int), .int .u32 (x3.toNat : Int), .int .u32 (x4.toNat : Int), .int .u32 (x5.toNat : Int), .int .u32 (x6.toNat : Int), .int .u32 (x7.toNat : Int)] rfl rfl 8 (by simp) (by kernel_rfl) hR (by omega) HO.out w hBel (by omega) ?_; intro w9 hF9 hB9 _ _)
      have e : splice (cw (List.replicate 8 0)) 0 [Value.int .u32 (x0.toNat : Int), .int .u32 (x1.toNat : Int), .int .u32 (x2.toNat : Int), .int .u32 (x3.toNat : Int), .int .u32 (x4.toNat : Int), .int .u32 (x5.toNat : Int), .int .u32 (x6.toNat : Int), .int .u32 (x7.toNat : Int)] = cw (turn keys ws [s0, s1, s2, s3, s4, s5, s6, s7]) := by
        rw [HT.out]
        simp [splice]
      rw [e] at hF9
      exact bodyPost_cell rfl rfl (cw (turn keys ws [s0, s1, s2, s3, s4, s5, s6, s7])) 8 (by simp [HT.out]) (by kernel_rfl) hF9.sees rfl ⟨rfl, hB9⟩
end Go.Proofs.Ytdpbnppngkamiaa
