/-
  DriveApart: a drive changes words of its own sectors alone.
-/
import Derived.Test.YtmkpopfaaebgfaaApartCalls
import Derived.Test.YtmkpopfaaebgfaaDrAwake
namespace Go.Proofs.Ytmkpopfaaebgfaa
open Go.RowKit
set_option linter.unusedVariables false

theorem offA (w : World) (e : TypeId) (x : UInt32) (p b : Nat) (hp : p < w.heap.size) (hb : b < w.heap.size) : Off p b (w.alloc (.cells #[.int .u32 (x.toNat : Int)] e)) (some ⟨w.heap.size, 0, none⟩) (cw [x]) := fun w' hx hn => by
  have h1 := World.alloc_heap_new w (.cells #[.int .u32 (x.toNat : Int)] e)
  have hl : w.heap.size < (w.alloc (.cells #[.int .u32 (x.toNat : Int)] e)).heap.size := by simp
  have h2 := (hx.keep w.heap.size hl (by omega) (by omega)).trans h1
  refine ⟨w.heap.size, 0, rfl, Nat.lt_of_lt_of_le hl hx.size, fun j u hu => ?_⟩
  rcases j with _ | j
  · simp at hu
    subst hu
    exact cell_of h2
  · simp at hu
set_option maxHeartbeats 4000000 in
set_option maxRecDepth 100000 in
theorem apart_walk (A : Option Addr) (N c : Nat) (o : List Oc) (mark : UInt32) (W : World) (hs : Sees W W.heap.size A (ocs o)) (hl : o.length = N) (hok : ∀ x ∈ o, x.Ok W.heap.size W) :
    Calls Try.prog 16 #[.slice A N c, .int .u32 (mark.toNat : Int)] W fun e w' => e = .returned (.bool true) ∧ Below W.heap.size W w' := by
  have HL := Lib.hid hl
  have HO := Lib.hid hok
  obtain ⟨S1, S2, e1, n1, e2, n2, hM, hup⟩ := marked_start mark
  have HE1 := Lib.hid e1
  have HE2 := Lib.hid e2
  clear hl hok e1 e2
  go_enter Try.func16, Try.ntmps16
  go_wp2_with fail
  refine (New_yes 5 0 (by omega) (by omega) (by omega) (by omega)).mono ?_
  rintro e w1 ⟨p, b, rfl, hN, hB1⟩
  go_wp2_with fail
  refine (Open_yes hN 0 1 (by show 0 + 1 ≤ 5; omega) (by omega) hB1.size).mono ?_
  rintro e w2 ⟨da, rfl, hDa, hB2⟩
  have hW2 := Below.then_ hB1 hB2
  go_wp2_with fail
  refine (Open_yes hDa.nor 1 3 (by show 1 + 3 ≤ 5; omega) (by omega) hW2.size).mono ?_
  rintro e w3 ⟨db, rfl, hDb, hB3⟩
  have hW3 := Below.then_ hW2 hB3
  replace hDa := hDa.below hB3
  go_wp2_with fail
  refine (Open_yes hDb.nor 4 1 (by show 4 + 1 ≤ 5; omega) (by omega) hW3.size).mono ?_
  rintro e w4 ⟨dc, rfl, hDc, hB4⟩
  have hW4 := Below.then_ hW3 hB4
  replace hDa := hDa.below hB4
  replace hDb := hDb.below hB4
  go_wp2_with fail
  refine (Part_yes hDb 1 2 (by omega) (by omega) hW4.size).mono ?_
  rintro e w5 ⟨dp, rfl, hDp, hB5⟩
  have hW5 := Below.then_ hW4 hB5
  replace hDa := hDa.below hB5
  replace hDb := hDb.below hB5
  replace hDc := hDc.below hB5
  clear hN hB1 hB2 hB3 hB4 hB5 hW2 hW3 hW4
  obtain ⟨hp1, hb1, hp2, hb2⟩ := hDa.nor.lt
  go_wp2_with fail
  refine (dWrite_any (hDa.below (below_alloc _ _)) 3 (by omega) 1 1 _ [mark] (offA w5 _ mark p b hp1 hb1) rfl (by omega) S1 0 HE1.out).mono ?_
  rintro e w6 ⟨rfl, hDa6, hT6⟩
  have hT6' := (But.of_below (p := p) (b := b) (below_alloc w5 _)).then_ hT6
  replace hDb := hDb.turn hT6' hDa6.nor n1
  replace hDc := hDc.turn hT6' hDa6.nor n1
  replace hDp := hDp.turn hT6' hDa6.nor n1
  have hW6 := hW5.trans (hT6'.below hp2 hb2 hW5.size)
  have hp6 := hDa6.nor.lt.1
  have hb6 := hDa6.nor.lt.2.1
  clear hDa hT6 hT6' hW5
  go_wp2_with fail
  refine (dWrite_any (hDc.below (below_alloc _ _)) 5 (by omega) 1 1 _ [mark] (offA w6 _ mark p b hp6 hb6) rfl (by omega) S2 0 HE2.out).mono ?_
  rintro e w7 ⟨rfl, hDc7, hT7⟩
  have hT7' := (But.of_below (p := p) (b := b) (below_alloc w6 _)).then_ hT7
  have n12 : S2.n = S1.n := n2.trans n1.symm
  have hDa7 := hDa6.turn hT7' hDc7.nor n12
  have hDb7 := hDb.turn hT7' hDc7.nor n12
  have hDp7 := hDp.turn hT7' hDc7.nor n12
  have hW7 := hW6.trans (hT7'.below hp2 hb2 hW6.size)
  clear hDa6 hDb hDc hDp hT7 hT7' hW6 HE1 HE2 hp6 hb6 hp1 hb1
  go_wp2_with fail
  go_loopw [15] (fun i wr => ∃ (k : Nat) (T : Fl), k ≤ N ∧ k ≤ 40 ∧ i = .int .i64 (k : Int) ∧ Marked mark T ∧ DrAt W.heap.size wr da p b 0 1 T ∧ DrAt W.heap.size wr db p b 1 3 T ∧ DrAt W.heap.size wr dc p b 4 1 T ∧ DrAt W.heap.size wr dp p b (1 + 1) 2 T ∧ Below W.heap.size W wr) (fun i _ => 41 - (intOf i).toNat)
  case atStart => exact ⟨0, S2, by omega, by omega, rfl, hM, hDa7, hDb7, hDc7, hDp7, hW7⟩
  case round =>
    obtain ⟨k, T, hk, hk2, rfl, hMk, hA, hB, hC, hP, hWk⟩ := hrel
    clear hM hDa7 hDb7 hDc7 hDp7 hW7 hup
    by_cases hlt : k < N
    · by_cases hlt2 : k < 40
      · obtain ⟨g, off, rfl, hg, x, HX, hx⟩ := (hs.below hWk).op HL.out hlt
        have hxo := (HO.out x (List.mem_of_getElem? HX.out)).below hWk
        obtain ⟨r3, hr3⟩ : ∃ r3, k % 3 = r3 := ⟨_, rfl⟩
        have hrem : (k : Int).tmod 3 = (r3 : Int) := by rw [Int.tmod_eq_emod_of_nonneg (by omega)]; omega
        have hr3l : r3 < 3 := by omega
        clear hr3
        by_cases h2 : r3 = 2
        · subst h2
          obtain ⟨T2, r2, hr⟩ : ∃ T2 r2, T.does5 (1 + 1) 2 x = (T2, r2) := ⟨_, _, rfl⟩
          have hM2 : Marked mark T2 := by
            have := hMk.does (1 + 1) 2 (by omega) (by omega) x
            rwa [hr] at this
          have HR := Lib.hid hr
          clear hr
          go_wp2_with (with_reducible refine wpList_load (o := ⟨some 86, _, _, _, _, _⟩) rfl (.tmp 85) 132 rfl g (off + k * 5) W.heap.size rfl x.cells 5 rfl (by kernel_rfl) hx ?_)
          refine (does5_any hP hMk.ok x hxo hWk.size T2 r2 HR.out).mono ?_
          rintro e w2 ⟨rfl, hD2, hT2⟩
          have nT : T2.n = T.n := hM2.n.trans hMk.n.symm
          have hA2 := hA.turn hT2 hD2.nor nT
          have hB2 := hB.turn hT2 hD2.nor nT
          have hC2 := hC.turn hT2 hD2.nor nT
          have hP2 := hP.turn hT2 hD2.nor nT
          have hW2 := hWk.trans (hT2.below hp2 hb2 hWk.size)
          have hDown := Down_any hA2.nor
          clear hA hB hC hP hD2 hT2 hx hxo HX HR
          cases hdn : T2.down
          · rw [hdn] at hDown
            obtain ⟨t1, t2, t3, t4, t5, t6⟩ := hM2.tells hdn
            have hsame : T2.at_ 1 64 128 = T2.at_ (1 + 1) 0 128 := rfl
            have hl1 := hB2.at_len (at_ := 64) (many := 128) (by omega)
            have hl2 := hP2.at_len (at_ := 0) (many := 128) (by omega)
            go_wp2_with fail
            refine hDown.mono ?_
            rintro e w3 ⟨rfl, rfl⟩
            go_wp2_with fail
            refine (dRead_at hB2 hdn 64 128 (by omega)).mono ?_
            rintro e w4 ⟨G1, rfl, hF1, hB4⟩
            go_wp2_with fail
            refine (dRead_at (hP2.below hB4) hdn 0 128 (by omega)).mono ?_
            rintro e w5 ⟨G2, rfl, hF2, hB5⟩
            have hB35 := Below.then_ hB4 hB5
            have s1 := hF1.sees.step hB5
            go_wp2_with fail
            refine (SameWords_any (some ⟨G1, 0, none⟩) (some ⟨G2, 0, none⟩) 128 128 128 128 _ _ w5 s1 hF2.sees hl1 hl2 (by omega)).mono ?_
            rintro e w6 ⟨hsw, q6, rfl⟩
            rw [hsame, beq_self_eq_true] at hsw
            subst hsw
            have hB36 := below_drewN' hB35 q6
            revert hB36
            generalize w5.drewN q6 = w6
            intro hB36
            clear s1 hF1 hF2 hB4 hB5 hB35 hl1 hl2 hsame
            have hp6 := (hA2.below hB36).nor.lt.1
            have hb6 := (hA2.below hB36).nor.lt.2.1
            go_wp2_with fail
            refine (reads5_any ((hA2.below hB36).below (below_alloc _ _)) hdn 3 1 1 _ [mark] (offA w6 _ mark p b hp6 hb6).sees rfl (by omega) t1).mono ?_
            rintro e w7 ⟨rfl, hB7⟩
            have hB37 := Below.then_ hB36 (Below.then_ (below_alloc w6 _) hB7)
            have hp7 := (hA2.below hB37).nor.lt.1
            have hb7 := (hA2.below hB37).nor.lt.2.1
            go_wp2_with fail
            refine (reads5_any ((hC2.below hB37).below (below_alloc _ _)) hdn 5 1 1 _ [mark] (offA w7 _ mark p b hp7 hb7).sees rfl (by omega) t2).mono ?_
            rintro e w8 ⟨rfl, hB8⟩
            have hB38 := Below.then_ hB37 (Below.then_ (below_alloc w7 _) hB8)
            go_wp2_with fail
            refine (dBlank_any (hA2.below hB38) 0 3 (by omega) true t3).mono ?_
            rintro e w9 ⟨rfl, hB9⟩
            have hB39 := Below.then_ hB38 hB9
            go_wp2_with fail
            refine (dBlank_any (hA2.below hB39) 4 60 (by omega) true t4).mono ?_
            rintro e w10 ⟨rfl, hB10⟩
            have hB310 := Below.then_ hB39 hB10
            go_wp2_with fail
            refine (dBlank_any (hC2.below hB310) 0 5 (by omega) true t5).mono ?_
            rintro e w11 ⟨rfl, hB11⟩
            have hB311 := Below.then_ hB310 hB11
            go_wp2_with fail
            refine (dBlank_any (hC2.below hB311) 6 58 (by omega) true t6).mono ?_
            rintro e w12 ⟨rfl, hB12⟩
            have hB312 := Below.then_ hB311 hB12
            go_wp2_with fail
            go_roundw
            case rel => exact ⟨k + 1, T2, by omega, by omega, by go_num, hM2, hA2.below hB312, hB2.below hB312, hC2.below hB312, hP2.below hB312, hW2.trans (hB312.mono hW2.size)⟩
            case measure => simp [intOf]; omega
          · rw [hdn] at hDown
            go_wp2_with fail
            refine hDown.mono ?_
            rintro e w3 ⟨rfl, rfl⟩
            go_wp2_with fail
            go_roundw
            case rel => exact ⟨k + 1, T2, by omega, by omega, by go_num, hM2, hA2, hB2, hC2, hP2, hW2⟩
            case measure => simp [intOf]; omega
        · have q1 : ((r3 : Int) == 2) = false := by simp; omega
          have q2 : (wrap64 (r3 : Int) == 2) = false := by rw [wrap64I _ (by omega) (by omega)]; exact q1
          have q3 : (IntKind.i64.wrap (r3 : Int) == 2) = false := by rw [wrapI _ (by omega) (by omega)]; exact q1
          obtain ⟨T2, r2, hr⟩ : ∃ T2 r2, T.does5 1 3 x = (T2, r2) := ⟨_, _, rfl⟩
          have hM2 : Marked mark T2 := by
            have := hMk.does 1 3 (by omega) (by omega) x
            rwa [hr] at this
          have HR := Lib.hid hr
          clear hr
          go_wp2_with (with_reducible refine wpList_load (o := ⟨some 93, _, _, _, _, _⟩) rfl (.tmp 92) 132 rfl g (off + k * 5) W.heap.size rfl x.cells 5 rfl (by kernel_rfl) hx ?_)
          refine (does5_any hB hMk.ok x hxo hWk.size T2 r2 HR.out).mono ?_
          rintro e w2 ⟨rfl, hD2, hT2⟩
          have nT : T2.n = T.n := hM2.n.trans hMk.n.symm
          have hA2 := hA.turn hT2 hD2.nor nT
          have hB2 := hB.turn hT2 hD2.nor nT
          have hC2 := hC.turn hT2 hD2.nor nT
          have hP2 := hP.turn hT2 hD2.nor nT
          have hW2 := hWk.trans (hT2.below hp2 hb2 hWk.size)
          have hDown := Down_any hA2.nor
          clear hA hB hC hP hD2 hT2 hx hxo HX HR
          cases hdn : T2.down
          · rw [hdn] at hDown
            obtain ⟨t1, t2, t3, t4, t5, t6⟩ := hM2.tells hdn
            have hsame : T2.at_ 1 64 128 = T2.at_ (1 + 1) 0 128 := rfl
            have hl1 := hB2.at_len (at_ := 64) (many := 128) (by omega)
            have hl2 := hP2.at_len (at_ := 0) (many := 128) (by omega)
            go_wp2_with fail
            refine hDown.mono ?_
            rintro e w3 ⟨rfl, rfl⟩
            go_wp2_with fail
            refine (dRead_at hB2 hdn 64 128 (by omega)).mono ?_
            rintro e w4 ⟨G1, rfl, hF1, hB4⟩
            go_wp2_with fail
            refine (dRead_at (hP2.below hB4) hdn 0 128 (by omega)).mono ?_
            rintro e w5 ⟨G2, rfl, hF2, hB5⟩
            have hB35 := Below.then_ hB4 hB5
            have s1 := hF1.sees.step hB5
            go_wp2_with fail
            refine (SameWords_any (some ⟨G1, 0, none⟩) (some ⟨G2, 0, none⟩) 128 128 128 128 _ _ w5 s1 hF2.sees hl1 hl2 (by omega)).mono ?_
            rintro e w6 ⟨hsw, q6, rfl⟩
            rw [hsame, beq_self_eq_true] at hsw
            subst hsw
            have hB36 := below_drewN' hB35 q6
            revert hB36
            generalize w5.drewN q6 = w6
            intro hB36
            clear s1 hF1 hF2 hB4 hB5 hB35 hl1 hl2 hsame
            have hp6 := (hA2.below hB36).nor.lt.1
            have hb6 := (hA2.below hB36).nor.lt.2.1
            go_wp2_with fail
            refine (reads5_any ((hA2.below hB36).below (below_alloc _ _)) hdn 3 1 1 _ [mark] (offA w6 _ mark p b hp6 hb6).sees rfl (by omega) t1).mono ?_
            rintro e w7 ⟨rfl, hB7⟩
            have hB37 := Below.then_ hB36 (Below.then_ (below_alloc w6 _) hB7)
            have hp7 := (hA2.below hB37).nor.lt.1
            have hb7 := (hA2.below hB37).nor.lt.2.1
            go_wp2_with fail
            refine (reads5_any ((hC2.below hB37).below (below_alloc _ _)) hdn 5 1 1 _ [mark] (offA w7 _ mark p b hp7 hb7).sees rfl (by omega) t2).mono ?_
            rintro e w8 ⟨rfl, hB8⟩
            have hB38 := Below.then_ hB37 (Below.then_ (below_alloc w7 _) hB8)
            go_wp2_with fail
            refine (dBlank_any (hA2.below hB38) 0 3 (by omega) true t3).mono ?_
            rintro e w9 ⟨rfl, hB9⟩
            have hB39 := Below.then_ hB38 hB9
            go_wp2_with fail
            refine (dBlank_any (hA2.below hB39) 4 60 (by omega) true t4).mono ?_
            rintro e w10 ⟨rfl, hB10⟩
            have hB310 := Below.then_ hB39 hB10
            go_wp2_with fail
            refine (dBlank_any (hC2.below hB310) 0 5 (by omega) true t5).mono ?_
            rintro e w11 ⟨rfl, hB11⟩
            have hB311 := Below.then_ hB310 hB11
            go_wp2_with fail
            refine (dBlank_any (hC2.below hB311) 6 58 (by omega) true t6).mono ?_
            rintro e w12 ⟨rfl, hB12⟩
            have hB312 := Below.then_ hB311 hB12
            go_wp2_with fail
            go_roundw
            case rel => exact ⟨k + 1, T2, by omega, by omega, by go_num, hM2, hA2.below hB312, hB2.below hB312, hC2.below hB312, hP2.below hB312, hW2.trans (hB312.mono hW2.size)⟩
            case measure => simp [intOf]; omega
          · rw [hdn] at hDown
            go_wp2_with fail
            refine hDown.mono ?_
            rintro e w3 ⟨rfl, rfl⟩
            go_wp2_with fail
            go_roundw
            case rel => exact ⟨k + 1, T2, by omega, by omega, by go_num, hM2, hA2, hB2, hC2, hP2, hW2⟩
            case measure => simp [intOf]; omega
      · obtain rfl : 40 = k := by omega
        go_wp2_with fail
        refine (awake5_any wr).mono ?_
        rintro e w9 ⟨rfl, hB9⟩
        go_wp2_with fail
        go_ret
        exact ⟨rfl, hWk.trans (hB9.mono hWk.size)⟩
    · obtain rfl : N = k := by omega
      go_wp2_with fail
      refine (awake5_any wr).mono ?_
      rintro e w9 ⟨rfl, hB9⟩
      go_wp2_with fail
      go_ret
      exact ⟨rfl, hWk.trans (hB9.mono hWk.size)⟩
end Go.Proofs.Ytmkpopfaaebgfaa
