/-
  What tally's read answers: the drive's words as they are now.
-/
import Derived.Test.YtpdfalgjmeagjaaTallyState
import Derived.Test.YtpdfalgjmeagjaaSlice
namespace Go.Proofs.Ytpdfalgjmeagjaa
open Go.RowKit Go.Shelf
set_option linter.unusedVariables false

/-- A sector more is looked at. -/
def stepK (j : Nat) (st : Int × Nat × List UInt32) (l : List UInt32) : Int × Nat × List UInt32 := match cntL l with
  | none => st
  | some n => if st.1 = -1 ∨ st.2.1 < n then ((j : Int), n, l) else st
def lookK (a b : List UInt32) : Nat → Int × Nat × List UInt32
  | 0 => (-1, 0, zeros64)
  | 1 => stepK 0 (-1, 0, zeros64) a
  | _ => stepK 1 (stepK 0 (-1, 0, zeros64) a) b
theorem lookK_two (a b : List UInt32) : lookK a b 2 = lookL a b := by
  unfold lookK stepK lookL
  cases cntL a <;> cases cntL b <;> simp [zeros64]
  all_goals (split <;> simp_all)
theorem cnt_le {l : List UInt32} {n : Nat} (h : cntL l = some n) (hl : l.length = 64) : n ≤ 2147485632 := by
  match l, hl, h with
  | b :: t :: r, hl, h =>
    simp only [cntL] at h
    split at h
    · rename_i hb
      simp only [Option.some.injEq] at h
      have := zers_le r
      simp only [List.length_cons] at hl
      omega
    · cases h
theorem stepK_ok {j : Nat} {st : Int × Nat × List UInt32} {l : List UInt32} (h1 : st.2.1 ≤ 2147485632) (h2 : st.2.2.length = 64) (hl : l.length = 64) : (stepK j st l).2.1 ≤ 2147485632 ∧ (stepK j st l).2.2.length = 64 := by
  unfold stepK
  cases h : cntL l with
  | none => exact ⟨h1, h2⟩
  | some n =>
    simp only
    split
    · exact ⟨cnt_le h hl, hl⟩
    · exact ⟨h1, h2⟩
theorem lookK_ok (a b : List UInt32) (ha : a.length = 64) (hb : b.length = 64) : ∀ j, (lookK a b j).2.1 ≤ 2147485632 ∧ (lookK a b j).2.2.length = 64
  | 0 => ⟨Nat.zero_le _, rfl⟩
  | 1 => stepK_ok (Nat.zero_le _) rfl ha
  | j + 2 => by
    have h := stepK_ok (j := 0) (st := (-1, 0, zeros64)) (Nat.zero_le _) rfl ha
    exact stepK_ok h.1 h.2 hb
theorem below_setBoth {B : Nat} {w w' : World} (h : Below B w w') (a : Addr) (u : Value) : Below B (w.setCell a u) (w'.setCell a u) :=
  ⟨h.os, h.tape, h.output, by simpa [World.setCell] using h.size, fun k hk => by
    simp only [World.setCell, Array.getElem?_modify]
    rw [h.block k hk]⟩
theorem setCell_other (w : World) (a : Addr) (u : Value) : ∀ k, k ≠ a.block → (w.setCell a u).heap[k]? = w.heap[k]? := fun k hk => by
  simp only [World.setCell, Array.getElem?_modify]
  rw [if_neg (Ne.symm hk)]
theorem splice_own {α : Type} {A B : List α} (h : A.length = B.length) : splice A 0 B = B := by
  simp [splice, h]
section
variable {w : World} {base t d p b f last : Nat} {over : Bool} {S : Fl}
set_option maxHeartbeats 2000000 in
set_option maxRecDepth 100000 in
theorem read_any (h : TyAt base w t d p b f S last over) (hd : S.down = false) (hbase : base ≤ w.heap.size) (s : Int) (c : Nat) (l : List UInt32) (hr : S.tlook f = (s, c, l)) :
    Calls Try.prog 125 #[.pointer (some ⟨t, 0, none⟩)] w fun e w' => e = .returned (.tuple #[.agg (stL s c l).toArray, .int .i64 0]) ∧ TyAt base w' t d p b f S c over ∧ But t t w w' := by
  have hTwo : Two S f := ⟨h.dr.fits, h.dr.nor.len⟩
  have hl0 := hTwo.sec_len (σ := 0) (by omega)
  have hl1 := hTwo.sec_len (σ := 1) (by omega)
  have HOK := lookK_ok (S.sec f 0) (S.sec f 1) hl0 hl1
  have HR : Hid (lookK (S.sec f 0) (S.sec f 1) 2 = (s, c, l)) := Lib.hid ((lookK_two _ _).trans hr)
  have HD := Lib.hid hd
  have HOKH := Lib.hid HOK
  clear hr hd HOK
  have hb0 := run_built_none
  go_enter Try.func125, Try.ntmps125
  go_wp2_with (first
    | (with_reducible refine wpList_alloc (o := ⟨some 2, _, _, _, _, _⟩) rfl 199 rfl (stL 0 0 zeros64) (by kernel_rfl) 66 (by simp [stL_len, zeros64]) (by decide) ?_; intro gr w1 hgr hFr hBr)
    | (with_reducible refine wpList_alloc (o := ⟨some 4, _, _, _, _, _⟩) rfl 199 rfl (stL 0 0 zeros64) (by kernel_rfl) 66 (by simp [stL_len, zeros64]) (by decide) ?_; intro gs w2 hgs hFs hBs)
    | (with_reducible refine wpList_store rfl rfl (.tmp 4) (.tmp 11) 199 rfl gs 0 w1.heap.size 199 66 (stL 0 0 zeros64) (stL (-1) 0 zeros64) rfl rfl 66 (by simp [stL_len, zeros64]) (by kernel_rfl) hFs (by omega) (stL_one _ _ _) w1 hBs hgs ?_; intro w3 hF3 hB3 hoth3 hz3))
  rw [splice_own (by simp [stL_len, zeros64])] at hF3
  have zr := hFr.lt_size
  have hne : gr ≠ gs := by omega
  have z1 := hBr.size
  have hB13 := Below.then_ hBr hB3
  have hR3 := hFr.below hB3
  have hS3 : Fresh w.heap.size 199 w3 (some ⟨gs, 0, none⟩) 66 66 (stL (-1) 0 zeros64) := hF3.lower z1
  clear hFs hBs hoth3 hB3 hF3 hFr hBr hb0
  go_loopw [12] (fun i wr => ∃ (j : Nat) (s0 : Int) (c0 : Nat) (l0 : List UInt32), j ≤ 2 ∧ i = .int .i64 (j : Int) ∧ Hid (lookK (S.sec f 0) (S.sec f 1) j = (s0, c0, l0)) ∧ Fresh w.heap.size 199 wr (some ⟨gs, 0, none⟩) 66 66 (stL s0 c0 l0) ∧ Fresh w.heap.size 199 wr (some ⟨gr, 0, none⟩) 66 66 (stL 0 0 zeros64) ∧ Below w.heap.size w wr) (fun i _ => 2 - (intOf i).toNat)
  case atStart => exact ⟨0, -1, 0, zeros64, by omega, rfl, Lib.hid rfl, hS3, hR3, hB13⟩
  case round =>
    obtain ⟨j, s0, c0, l0, hj, rfl, HK, hS, hR, hB⟩ := hrel
    have hT := h.below hB
    obtain ⟨-, ct1, -, -⟩ := hT.c
    by_cases hlt : j < 2
    · have hRd := dRead_at hT.dr HD.out (64 * j) 64 (by omega)
      obtain ⟨L, hL⟩ : ∃ L, S.at_ f (64 * j) 64 = L := ⟨_, rfl⟩
      have hLl : L.length = 64 := by rw [← hL]; exact hT.dr.at_len (by omega)
      rw [hL, show ((64 * j : Nat) : Int) = 64 * (j : Int) from by omega, show ((64 : Nat) : Int) = 64 from rfl] at hRd
      have e1 : IntKind.i64.wrap (64 * (j : Int)) = 64 * (j : Int) := wrapI _ (by omega) (by omega)
      have e1' : wrap64 (64 * (j : Int)) = 64 * (j : Int) := wrap64I _ (by omega) (by omega)
      have HLL := Lib.hid hL
      have HL := Lib.hid hLl
      clear hL hLl
      go_wp2_with fail
      refine hRd.mono ?_
      rintro e w4 ⟨G, rfl, hG, hB4⟩
      have hS4 := hS.below hB4
      have hR4 := hR.below hB4
      have hB04 := Below.then_ hB hB4
      clear hS hR hRd
      go_wp2_with (first
        | (with_reducible refine wpList_alloc (o := ⟨some 8, _, _, _, _, _⟩) rfl 197 rfl (cw zeros64) (by kernel_rfl) 64 (by simp [zeros64]) (by decide) ?_; intro gw w5 hgw hFw hBw; have hsl := sl_words gw; have hG5 := hG.below hBw; have hS5 := hS4.below hBw; have hR5 := hR4.below hBw; have hB05 := Below.then_ hB04 hBw; have z4 := hB04.size)
        | (with_reducible refine wpList_copy64 rfl (.tmp 29) (.tmp 30) rfl _ _ _ gw _ rfl rfl zeros64 L hFw HL.out hG5.sees ?_; intro w6 hF6 hB6))
      have gw0 : w.heap.size ≤ gw := Nat.le_trans z4 hgw
      have sgw : gs ≠ gw := by have := hS4.lt_size; omega
      have rgw : gr ≠ gw := by have := hR4.lt_size; omega
      have hS6 : Fresh w.heap.size 199 w6 (some ⟨gs, 0, none⟩) 66 66 (stL s0 c0 l0) := Fresh.of_block ((hB6.block gs (by have := hS4.lt_size; omega)).trans hS5.block.1) hS5.block.2 hS5.len hS5.cap.2
      have hR6 : Fresh w.heap.size 199 w6 (some ⟨gr, 0, none⟩) 66 66 (stL 0 0 zeros64) := Fresh.of_block ((hB6.block gr (by have := hR4.lt_size; omega)).trans hR5.block.1) hR5.block.2 hR5.len hR5.cap.2
      have hB06 : Below w.heap.size w w6 := hB05.trans (hB6.mono gw0)
      have hnext : lookK (S.sec f 0) (S.sec f 1) (j + 1) = stepK j (lookK (S.sec f 0) (S.sec f 1) j) L := by
        rcases (show j = 0 ∨ j = 1 by omega) with rfl | rfl
        · rw [← HLL.out]; rfl
        · rw [← HLL.out]; rfl
      rw [HK.out] at hnext
      obtain ⟨hc0, hl0'⟩ := HOKH.out j
      rw [HK.out] at hc0 hl0'
      simp only at hc0 hl0'
      cases hcn : cntL L with
      | none =>
        have hnx : lookK (S.sec f 0) (S.sec f 1) (j + 1) = (s0, c0, l0) := by rw [hnext]; simp [stepK, hcn]
        have HNX := Lib.hid hnx
        have hCt := counts_any hF6.sees HL.out none hcn
        clear hnx hnext hcn
        refine hCt.mono ?_
        rintro e w7 ⟨rfl, q, rfl⟩
        have hB7 := below_drewN' (Below.refl w6.heap.size w6) q
        have hS7 := hS6.below hB7
        have hR7 := hR6.below hB7
        have hB07 := Below.then_ hB06 hB7
        simp only [cntV]
        go_wp2_with fail
        go_roundw
        case rel => exact ⟨j + 1, s0, c0, l0, by omega, by go_num, HNX, hS7, hR7, hB07⟩
        case measure => simp [intOf]; omega
      | some n =>
        have hCt := counts_any hF6.sees HL.out (some n) hcn
        have hn := cnt_le hcn HL.out
        have hbl := fun w => run_built_state (j : Int) n L HL.out w
        by_cases hwin : s0 = -1 ∨ c0 < n
        · have hnx : lookK (S.sec f 0) (S.sec f 1) (j + 1) = ((j : Int), n, L) := by rw [hnext]; simp [stepK, hcn, hwin]
          have HNX := Lib.hid hnx
          clear hnx hnext hcn
          refine hCt.mono ?_
          rintro e w7 ⟨rfl, q, rfl⟩
          have hB7 := below_drewN' (Below.refl w6.heap.size w6) q
          have hS7 := hS6.below hB7
          have hR7 := hR6.below hB7
          have hF7 := hF6.below hB7
          have hB07 := Below.then_ hB06 hB7
          have cs0 : (w6.drewN q).cell? ⟨gs, 0, none⟩ = some (.int .i64 s0) := hS7.cell rfl
          have cs1 : (w6.drewN q).cell? ⟨gs, 1, none⟩ = some (.int .i64 (c0 : Int)) := hS7.cell rfl
          revert hB7 hS7 hR7 hF7 hB07 cs0 cs1
          generalize w6.drewN q = w7
          intro hB7 hS7 hR7 hF7 hB07 cs0 cs1
          simp only [cntV]
          by_cases k1 : s0 = -1
          · have q1 : (s0 == -1) = true := by simp; exact k1
            clear hwin
            go_wp2_with (first
              | (with_reducible refine wpList_load (o := ⟨some 50, _, _, _, _, _⟩) rfl (.tmp 8) 197 rfl gw 0 _ rfl (cw L) 64 (by simp [HL.out]) (by kernel_rfl) hF7.sees ?_)
              | (with_reducible refine wpList_bstate (o := ⟨some 51, _, _, _, _, _⟩) rfl (.tmp 48) (.tmp 49) (.tmp 50) rfl (j : Int) n L rfl rfl rfl HL.out ?_)
              | (with_reducible refine wpList_store rfl rfl (.tmp 4) (.tmp 51) 199 rfl gs 0 w.heap.size 199 66 (stL s0 c0 l0) (stL (j : Int) n L) rfl rfl 66 (by simp [stL_len, HL.out]) (by kernel_rfl) hS7 (by omega) (stL_one _ _ _) w hB07 (by omega) ?_; intro w8 hF8 hB8 hoth8 hz8))
            rw [splice_own (by simp [stL_len, HL.out, hl0'])] at hF8
            have hR8 := hR7.other hne hoth8
            go_roundw
            case rel => exact ⟨j + 1, (j : Int), n, L, by omega, by go_num, HNX, hF8, hR8, hB8⟩
            case measure => simp [intOf]; omega
          · have q1 : (s0 == -1) = false := by simp; exact k1
            have q2 : (c0 : Int) < (n : Int) := by omega
            clear hwin
            go_wp2_with (first
              | (with_reducible refine wpList_load (o := ⟨some 50, _, _, _, _, _⟩) rfl (.tmp 8) 197 rfl gw 0 _ rfl (cw L) 64 (by simp [HL.out]) (by kernel_rfl) hF7.sees ?_)
              | (with_reducible refine wpList_bstate (o := ⟨some 51, _, _, _, _, _⟩) rfl (.tmp 48) (.tmp 49) (.tmp 50) rfl (j : Int) n L rfl rfl rfl HL.out ?_)
              | (with_reducible refine wpList_store rfl rfl (.tmp 4) (.tmp 51) 199 rfl gs 0 w.heap.size 199 66 (stL s0 c0 l0) (stL (j : Int) n L) rfl rfl 66 (by simp [stL_len, HL.out]) (by kernel_rfl) hS7 (by omega) (stL_one _ _ _) w hB07 (by omega) ?_; intro w8 hF8 hB8 hoth8 hz8))
            rw [splice_own (by simp [stL_len, HL.out, hl0'])] at hF8
            have hR8 := hR7.other hne hoth8
            go_roundw
            case rel => exact ⟨j + 1, (j : Int), n, L, by omega, by go_num, HNX, hF8, hR8, hB8⟩
            case measure => simp [intOf]; omega
        · have hnx : lookK (S.sec f 0) (S.sec f 1) (j + 1) = (s0, c0, l0) := by rw [hnext]; simp [stepK, hcn, hwin]
          have HNX := Lib.hid hnx
          have w1' : ¬ s0 = -1 := fun e => hwin (.inl e)
          have w2' : n ≤ c0 := by
            rcases Nat.lt_or_ge c0 n with e | e
            · exact absurd (.inr e) hwin
            · exact e
          have q1 : (s0 == -1) = false := by simp; exact w1'
          have q2 : ¬ ((c0 : Int) < (n : Int)) := by omega
          clear hnx hnext hcn hwin
          refine hCt.mono ?_
          rintro e w7 ⟨rfl, q, rfl⟩
          have hB7 := below_drewN' (Below.refl w6.heap.size w6) q
          have hS7 := hS6.below hB7
          have hR7 := hR6.below hB7
          have hB07 := Below.then_ hB06 hB7
          have cs0 : (w6.drewN q).cell? ⟨gs, 0, none⟩ = some (.int .i64 s0) := hS7.cell rfl
          have cs1 : (w6.drewN q).cell? ⟨gs, 1, none⟩ = some (.int .i64 (c0 : Int)) := hS7.cell rfl
          revert hB7 hS7 hR7 hB07 cs0 cs1
          generalize w6.drewN q = w7
          intro hB7 hS7 hR7 hB07 cs0 cs1
          simp only [cntV]
          go_wp2_with fail
          go_roundw
          case rel => exact ⟨j + 1, s0, c0, l0, by omega, by go_num, HNX, hS7, hR7, hB07⟩
          case measure => simp [intOf]; omega
    · obtain rfl : j = 2 := by omega
      have hk := HK.out
      rw [HR.out] at hk
      simp only [Prod.mk.injEq] at hk
      obtain ⟨e1, e2, e3⟩ := hk
      obtain ⟨hcle, hll⟩ := HOKH.out 2
      rw [HR.out] at hcle hll
      simp only at hcle hll
      rw [← e1, ← e2, ← e3] at hS
      have cs1 : wr.cell? ⟨gs, 1, none⟩ = some (.int .i64 (c : Int)) := hS.cell rfl
      have ct2 := hT.c.2.2.1
      have zt := hT.z 2
      have hTX := h.setLast c hcle
      have hBX := below_setBoth hB ⟨t, 2, none⟩ (.int .i64 (c : Int))
      have tlt := h.lt
      have tgs : gs ≠ t := by omega
      have tgr : gr ≠ t := by omega
      have hSX := hS.other (w' := wr.setCell ⟨t, 2, none⟩ (.int .i64 (c : Int))) tgs (setCell_other wr ⟨t, 2, none⟩ (.int .i64 (c : Int)))
      have hRX := hR.other (w' := wr.setCell ⟨t, 2, none⟩ (.int .i64 (c : Int))) tgr (setCell_other wr ⟨t, 2, none⟩ (.int .i64 (c : Int)))
      have HLL := Lib.hid hll
      clear e1 e2 e3 HK hT ct1 hS hR hll
      go_wp2_with (first
        | (with_reducible refine wpList_load (o := ⟨some 58, _, _, _, _, _⟩) rfl (.tmp 4) 199 rfl gs 0 _ rfl (stL s c l) 66 (by simp [stL_len, HLL.out]) (by kernel_rfl) hSX.sees ?_)
        | (with_reducible refine wpList_store rfl rfl (.tmp 2) (.tmp 58) 199 rfl gr 0 w.heap.size 199 66 (stL 0 0 zeros64) (stL s c l) rfl rfl 66 (by simp [stL_len, HLL.out]) (by kernel_rfl) hRX (by omega) (stL_one _ _ _) (w.setCell ⟨t, 2, none⟩ (.int .i64 (c : Int))) (by simpa using hBX) (by simpa using hgr) ?_; intro w9 hF9 hB9 hoth9 hz9))
      rw [splice_own (by simp [stL_len, HLL.out, zeros64])] at hF9
      refine bodyPost_cell_tmp rfl rfl _ rfl (stL s c l) 66 (by simp [stL_len, HLL.out]) (by kernel_rfl) hF9.sees rfl ⟨rfl, hTX.below hB9, (But.set t t t 2 _ (.inl rfl)).then_ (But.of_below hB9)⟩
end
end Go.Proofs.Ytpdfalgjmeagjaa
