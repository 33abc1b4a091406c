/-
  NorPlays returns true for every input, and writes nothing that was there: the walk.
-/
import Derived.Test.YtjmofjcdcmbecaaRefBeside
import Derived.Test.YtjmofjcdcmbecaaNorAwake
import Derived.Test.YtjmofjcdcmbecaaNorOpen
import Derived.Deep.CutBlock
namespace Go.Proofs.Ytjmofjcdcmbecaa
open Go.RowKit
set_option linter.unusedVariables false

set_option maxHeartbeats 16000000 in
set_option maxRecDepth 100000 in
theorem nplays_walk (W : World) (s G : Int) (hs : -9223372036854775808 ≤ s ∧ s < 9223372036854775808) (hG : -9223372036854775808 ≤ G ∧ G < 9223372036854775808) (A : Option Addr) (N c : Nat) (l : List Oc) (hl : l.length = N) (hS : Sees W W.heap.size A (ocs l)) (hO : ∀ o ∈ l, o.Ok W.heap.size W) :
    Calls Try.prog 6 #[.int .i64 s, .int .i64 G, .slice A N c] W fun e w' => e = .returned (.bool true) ∧ Below W.heap.size W w' := by
  have HL := Lib.hid hl
  have HO := Lib.hid hO
  clear hl hO
  by_cases h6 : 6 < s
  · clear hs hG
    go_enter Try.func6, Try.ntmps6
    go_wp2_with fail
    refine (awake4_any _).mono ?_
    rintro e w1 ⟨rfl, hB1⟩
    go_wp2_with fail
    go_ret
    exact ⟨rfl, hB1⟩
  · cases hm : mayBe s G
    · clear hs hG
      go_enter Try.func6, Try.ntmps6
      go_wp2_with fail
      refine (New_no s G hm).mono ?_
      rintro e w1 ⟨rfl, rfl⟩
      go_wp2_with fail
      refine (rNew_no s G hm).mono ?_
      rintro e w2 ⟨rfl, hB2⟩
      go_wp2_with (first | ((with_reducible refine wpList_alloc (o := ⟨some 9, _, _, _, _, _⟩) rfl 65 rfl (rnL none 0 0 0 0 false 0) (by kernel_rfl) 5 rfl (by decide) ?_); intro g w3 hg hF hB3; have z2 := hB2.size) | ((with_reducible refine wpList_store rfl rfl (.tmp 9) (.tmp 30) 65 rfl g 0 _ 65 5 (rnL none 0 0 0 0 false 0) (rnL none 0 0 0 0 false 0) rfl rfl 5 rfl (by kernel_rfl) hF (by omega) (allOne_out (by kernel_rfl)) w1 (Below.then_ hB2 hB3) (by omega) ?_); intro w4 hF4 hB4 ho4 hz4))
      have z4 := hB4.size
      go_wp2_with fail
      refine (awake4_any _).mono ?_
      rintro e w5 ⟨rfl, hB5⟩
      go_wp2_with fail
      go_ret
      exact ⟨rfl, Below.then_ hB4 hB5⟩
    · simp [mayBe] at hm
      obtain ⟨⟨⟨h1, h2⟩, h3⟩, h4⟩ := hm
      obtain ⟨n, rfl⟩ := Int.eq_ofNat_of_zero_le (show 0 ≤ s by omega)
      clear hs hG
      go_enter Try.func6, Try.ntmps6
      go_wp2_with fail
      refine (New_yes n G (by omega) (by omega) h3 h4).mono ?_
      rintro e w1 ⟨p, b, rfl, hN, hB1⟩
      go_wp2_with fail
      refine (rNew_yes n G (by omega) (by omega) h3 h4).mono ?_
      rintro e w2 ⟨B0, c0, rfl, hRn, hRow, hB2⟩
      obtain ⟨gb0, rfl, q1, q2⟩ := hRow.spot_ (by omega)
      obtain ⟨lp, lb, lp2, lb2⟩ := hN.lt
      have z1 := hB1.size
      have z2 := hB2.size
      go_wp2_with (first | ((with_reducible refine wpList_alloc (o := ⟨some 9, _, _, _, _, _⟩) rfl 65 rfl (rnL none 0 0 0 0 false 0) (by kernel_rfl) 5 rfl (by decide) ?_); intro g w3 hg hF hB3) | ((with_reducible refine wpList_store rfl rfl (.tmp 9) (.tmp 30) 65 rfl g 0 _ 65 5 (rnL none 0 0 0 0 false 0) ((Fl.made n G).rL (some ⟨gb0, 0, none⟩) c0) rfl rfl 5 rfl (by kernel_rfl) hF (by omega) (allOne_out (by kernel_rfl)) W (Below.then_ (Below.then_ hB1 hB2) hB3) (by omega) ?_); intro w4 hF4 hB4 ho4 hz4))
      have z3 := hB3.size
      have hN3 := (hN.below hB2).below hB3
      have hF4' : Fresh w2.heap.size 65 w4 (some ⟨g, 0, none⟩) 5 5 ((Fl.made n G).rL (some ⟨gb0, 0, none⟩) c0) := hF4
      have n1 : gb0 ≠ g := by omega
      have hJ0 : Beside W w4 p b g gb0 c0 (Fl.made n G) := ⟨⟨hN3.obj.other (by omega) ho4, hN3.row.other (by omega) ho4, hN3.ne, hN3.n_le, hN3.left_le⟩, hF4'.lower (by omega), ((hRow.below hB3).lower z1).otherC n1 ho4, hRn.cap, (by show 1 ≤ n; omega), by omega, by omega, n1, by omega, by omega, hB4⟩
      have hok0 : (Fl.made n G).Ok := .inl rfl
      clear hF hF4 hF4' hN hRow hRn ho4 hB1 hB2 hB3 hB4 hN3 h1 h2 h3 h4
      go_wp2_with fail
      go_loopw [11] (fun i wr => ∃ (k gb c2 : Nat) (S : Fl), k ≤ N ∧ k ≤ 60 ∧ i = .int .i64 (k : Int) ∧ Beside W wr p b g gb c2 S ∧ S.Ok) (fun i _ => 61 - (intOf i).toNat)
      case atStart => exact ⟨0, gb0, c0, _, by omega, by omega, rfl, hJ0, hok0⟩
      case round =>
        obtain ⟨k, gb, c2, S, hk, hk2, rfl, hJ, hok⟩ := hrel
        clear hJ0 hok0
        by_cases hlt : k < N
        · by_cases hlt2 : k < 60
          · obtain ⟨u, o, rfl, hu, x, HX, hx⟩ := (hS.below hJ.below).op HL.out hlt
            have hxo := (HO.out x (List.mem_of_getElem? HX.out)).below hJ.below
            have HX1 := hxo.sees
            have HX2 := Lib.hid hxo.len
            have HX3 := hxo.sees2
            have HX4 := Lib.hid hxo.len2
            have HX5 := Lib.hid hxo.hs
            have HX6 := Lib.hid hxo.ha
            obtain ⟨k', s', a', A', m', d', l', B', q', e', ks'⟩ := x
            simp only at HX1 HX2 HX3 HX4 HX5 HX6
            clear HX hxo
            have hW0 := hJ.below.size
            by_cases hm7 : 70 < m'
            · go_wp2_with (first | (with_reducible refine wpList_load (o := ⟨some 62, _, _, _, _, _⟩) rfl (.tmp 61) 70 rfl u (o + k * 5) W.heap.size rfl (Oc.cells ⟨k', s', a', A', m', d', l', B', q', e', ks'⟩) 5 rfl (by kernel_rfl) hx ?_) | ((with_reducible refine wpList_alloc (o := ⟨some 12, _, _, _, _, _⟩) rfl 70 rfl (Oc.cells ⟨0, 0, 0, none, 0, 0, [], none, 0, 0, []⟩) (by kernel_rfl) 5 rfl (by decide) ?_); intro gx w3 hgx hFx hB3) | ((with_reducible refine wpList_store rfl rfl (.tmp 12) (.tmp 62) 70 rfl gx 0 _ 70 5 _ (Oc.cells ⟨k', s', a', A', m', d', l', B', q', e', ks'⟩) rfl rfl 5 rfl (by kernel_rfl) hFx (by omega) (allOne_out (by kernel_rfl)) wr hB3 hgx ?_); intro w4 hF4 hB4 ho4 hz4; have hX4 : Fresh wr.heap.size 70 w4 (some ⟨gx, 0, none⟩) 5 5 (Oc.cells ⟨k', s', a', A', m', d', l', B', q', e', ks'⟩) := hF4; have f0 : w4.cell? ⟨gx, 0, none⟩ = some (.int .i64 k') := hX4.cell (j := 0) rfl; have f1 : w4.cell? ⟨gx, 1, none⟩ = some (.int .i64 s') := hX4.cell (j := 1) rfl; have f2 : w4.cell? ⟨gx, 2, none⟩ = some (.int .i64 a') := hX4.cell (j := 2) rfl; have f3 : w4.cell? ⟨gx, 3, none⟩ = some (.slice A' m' d') := hX4.cell (j := 3) rfl; have f4 : w4.cell? ⟨gx, 4, none⟩ = some (.slice B' q' e') := hX4.cell (j := 4) rfl))
              have hJ4 := hJ.step hB4
              obtain ⟨lp4, lb4, lp5, lb5⟩ := hJ.nor.lt
              have ngp : gx ≠ p := by omega
              have ngb : gx ≠ b := by omega
              have HX14 := HX1.below (hB4.mono hW0)
              have HX34 := HX3.below (hB4.mono hW0)
              have hW4 := hJ4.below.size
              clear hF4 hFx hB3 ho4 hz4
              go_wp2_with fail
              go_roundw
              case rel => exact ⟨k + 1, gb, c2, S, by omega, by omega, by go_num, hJ4, hok⟩
              case measure => simp [intOf]; omega
            by_cases hq1 : 100 < q'
            · go_wp2_with (first | (with_reducible refine wpList_load (o := ⟨some 62, _, _, _, _, _⟩) rfl (.tmp 61) 70 rfl u (o + k * 5) W.heap.size rfl (Oc.cells ⟨k', s', a', A', m', d', l', B', q', e', ks'⟩) 5 rfl (by kernel_rfl) hx ?_) | ((with_reducible refine wpList_alloc (o := ⟨some 12, _, _, _, _, _⟩) rfl 70 rfl (Oc.cells ⟨0, 0, 0, none, 0, 0, [], none, 0, 0, []⟩) (by kernel_rfl) 5 rfl (by decide) ?_); intro gx w3 hgx hFx hB3) | ((with_reducible refine wpList_store rfl rfl (.tmp 12) (.tmp 62) 70 rfl gx 0 _ 70 5 _ (Oc.cells ⟨k', s', a', A', m', d', l', B', q', e', ks'⟩) rfl rfl 5 rfl (by kernel_rfl) hFx (by omega) (allOne_out (by kernel_rfl)) wr hB3 hgx ?_); intro w4 hF4 hB4 ho4 hz4; have hX4 : Fresh wr.heap.size 70 w4 (some ⟨gx, 0, none⟩) 5 5 (Oc.cells ⟨k', s', a', A', m', d', l', B', q', e', ks'⟩) := hF4; have f0 : w4.cell? ⟨gx, 0, none⟩ = some (.int .i64 k') := hX4.cell (j := 0) rfl; have f1 : w4.cell? ⟨gx, 1, none⟩ = some (.int .i64 s') := hX4.cell (j := 1) rfl; have f2 : w4.cell? ⟨gx, 2, none⟩ = some (.int .i64 a') := hX4.cell (j := 2) rfl; have f3 : w4.cell? ⟨gx, 3, none⟩ = some (.slice A' m' d') := hX4.cell (j := 3) rfl; have f4 : w4.cell? ⟨gx, 4, none⟩ = some (.slice B' q' e') := hX4.cell (j := 4) rfl))
              have hJ4 := hJ.step hB4
              obtain ⟨lp4, lb4, lp5, lb5⟩ := hJ.nor.lt
              have ngp : gx ≠ p := by omega
              have ngb : gx ≠ b := by omega
              have HX14 := HX1.below (hB4.mono hW0)
              have HX34 := HX3.below (hB4.mono hW0)
              have hW4 := hJ4.below.size
              clear hF4 hFx hB3 ho4 hz4
              go_wp2_with fail
              go_roundw
              case rel => exact ⟨k + 1, gb, c2, S, by omega, by omega, by go_num, hJ4, hok⟩
              case measure => simp [intOf]; omega
            go_upto_block 2 with (first | (with_reducible refine wpList_load (o := ⟨some 62, _, _, _, _, _⟩) rfl (.tmp 61) 70 rfl u (o + k * 5) W.heap.size rfl (Oc.cells ⟨k', s', a', A', m', d', l', B', q', e', ks'⟩) 5 rfl (by kernel_rfl) hx ?_) | ((with_reducible refine wpList_alloc (o := ⟨some 12, _, _, _, _, _⟩) rfl 70 rfl (Oc.cells ⟨0, 0, 0, none, 0, 0, [], none, 0, 0, []⟩) (by kernel_rfl) 5 rfl (by decide) ?_); intro gx w3 hgx hFx hB3) | ((with_reducible refine wpList_store rfl rfl (.tmp 12) (.tmp 62) 70 rfl gx 0 _ 70 5 _ (Oc.cells ⟨k', s', a', A', m', d', l', B', q', e', ks'⟩) rfl rfl 5 rfl (by kernel_rfl) hFx (by omega) (allOne_out (by kernel_rfl)) wr hB3 hgx ?_); intro w4 hF4 hB4 ho4 hz4; have hX4 : Fresh wr.heap.size 70 w4 (some ⟨gx, 0, none⟩) 5 5 (Oc.cells ⟨k', s', a', A', m', d', l', B', q', e', ks'⟩) := hF4; have f0 : w4.cell? ⟨gx, 0, none⟩ = some (.int .i64 k') := hX4.cell (j := 0) rfl; have f1 : w4.cell? ⟨gx, 1, none⟩ = some (.int .i64 s') := hX4.cell (j := 1) rfl; have f2 : w4.cell? ⟨gx, 2, none⟩ = some (.int .i64 a') := hX4.cell (j := 2) rfl; have f3 : w4.cell? ⟨gx, 3, none⟩ = some (.slice A' m' d') := hX4.cell (j := 3) rfl; have f4 : w4.cell? ⟨gx, 4, none⟩ = some (.slice B' q' e') := hX4.cell (j := 4) rfl))
            have hJ4 := hJ.step hB4
            obtain ⟨lp4, lb4, lp5, lb5⟩ := hJ.nor.lt
            have ngp : gx ≠ p := by omega
            have ngb : gx ≠ b := by omega
            have HX14 := HX1.below (hB4.mono hW0)
            have HX34 := HX3.below (hB4.mono hW0)
            have hW4 := hJ4.below.size
            clear hF4 hFx hB3 ho4 hz4
            go_cut [13, 14, 15, 16] from 49 to 188 (fun x y va vb wx => ∃ (gb3 c3 : Nat) (T : Fl) (r : Nat) (v : UInt32), x = .int .i64 (r : Int) ∧ y = .int .i64 (r : Int) ∧ va = .int .u32 (v.toNat : Int) ∧ vb = .int .u32 (v.toNat : Int) ∧ Beside W wx p b g gb3 c3 T ∧ T.Ok)
            case first =>
              go_wp2_with fail
              · obtain ⟨T, r, hr⟩ : ∃ T r, S.program s' a' l' = (T, r) := ⟨_, _, rfl⟩
                have hTn := Fl.program_ok hok hr
                have HR := Lib.hid hr
                clear hr
                refine (Program_any hJ4.nor s' a' HX6.out m' d' A' l' hW4 HX14 HX2.out T r HR.out).mono ?_
                rintro e w5 ⟨rfl, hN5, hx5⟩
                obtain ⟨hBx5, hRn5, hBel5, lp, lb, lg, hWg⟩ := hJ4.half hx5
                have hX5 := hX4.but hx5 ngp ngb; have y0 : w5.cell? ⟨gx, 0, none⟩ = some (.int .i64 k') := hX5.cell (j := 0) rfl; have y1 : w5.cell? ⟨gx, 1, none⟩ = some (.int .i64 s') := hX5.cell (j := 1) rfl; have y2 : w5.cell? ⟨gx, 2, none⟩ = some (.int .i64 a') := hX5.cell (j := 2) rfl; have y3 : w5.cell? ⟨gx, 3, none⟩ = some (.slice A' m' d') := hX5.cell (j := 3) rfl; have y4 : w5.cell? ⟨gx, 4, none⟩ = some (.slice B' q' e') := hX5.cell (j := 4) rfl
                have HX15 := (HX14.below (hx5.below lp5 lb5 hW4)).more (Nat.le_trans hW4 hx5.size)
                have HX35 := (HX34.below (hx5.below lp5 lb5 hW4)).more (Nat.le_trans hW4 hx5.size)
                clear f0 f1 f2 f3 f4 hX4 hB4
                go_wp2_with (with_reducible refine wpList_load (o := ⟨some 89, _, _, _, _, _⟩) rfl (.tmp 9) 65 rfl g 0 _ rfl (S.rL (some ⟨gb, 0, none⟩) c2) 5 rfl (by kernel_rfl) hBx5.sees ?_)
                refine (rProgram_any hRn5 hJ4.nor.left_le s' a' HX6.out m' d' (by omega) A' l' HX15 HX2.out T r HR.out).mono ?_
                rintro e w6 ⟨B2, c3, rfl, hT6, hB6⟩
                have hF6 := hBx5.below hB6
                have hB06 := Below.then_ hBel5 hB6
                go_wp2_with ((with_reducible refine wpList_store rfl rfl (.tmp 9) (.tmp 97) 65 rfl g 0 W.heap.size 65 5 (S.rL (some ⟨gb, 0, none⟩) c2) (T.rL B2 c3) rfl rfl 5 rfl (by kernel_rfl) hF6 (by omega) (allOne_out (by kernel_rfl)) W hB06 hWg ?_); intro w7 hF7 hB7 ho7 hz7)
                obtain ⟨gb2, rfl, hJ7⟩ := hJ4.then_ hx5 hN5 hTn.1 hT6 hB6 hF7 ho7 hB7
                go_meet
                case rel => exact ⟨gb2, c3, T, r, 0, rfl, rfl, rfl, rfl, hJ7, hTn.2⟩
              · obtain ⟨T, r, hr⟩ : ∃ T r, S.program s' a' l' = (T, r) := ⟨_, _, rfl⟩
                have hTn := Fl.program_ok hok hr
                have HR := Lib.hid hr
                clear hr
                refine (Program_any hJ4.nor s' a' HX6.out m' d' A' l' hW4 HX14 HX2.out T r HR.out).mono ?_
                rintro e w5 ⟨rfl, hN5, hx5⟩
                obtain ⟨hBx5, hRn5, hBel5, lp, lb, lg, hWg⟩ := hJ4.half hx5
                have hX5 := hX4.but hx5 ngp ngb; have y0 : w5.cell? ⟨gx, 0, none⟩ = some (.int .i64 k') := hX5.cell (j := 0) rfl; have y1 : w5.cell? ⟨gx, 1, none⟩ = some (.int .i64 s') := hX5.cell (j := 1) rfl; have y2 : w5.cell? ⟨gx, 2, none⟩ = some (.int .i64 a') := hX5.cell (j := 2) rfl; have y3 : w5.cell? ⟨gx, 3, none⟩ = some (.slice A' m' d') := hX5.cell (j := 3) rfl; have y4 : w5.cell? ⟨gx, 4, none⟩ = some (.slice B' q' e') := hX5.cell (j := 4) rfl
                have HX15 := (HX14.below (hx5.below lp5 lb5 hW4)).more (Nat.le_trans hW4 hx5.size)
                have HX35 := (HX34.below (hx5.below lp5 lb5 hW4)).more (Nat.le_trans hW4 hx5.size)
                clear f0 f1 f2 f3 f4 hX4 hB4
                go_wp2_with (with_reducible refine wpList_load (o := ⟨some 89, _, _, _, _, _⟩) rfl (.tmp 9) 65 rfl g 0 _ rfl (S.rL (some ⟨gb, 0, none⟩) c2) 5 rfl (by kernel_rfl) hBx5.sees ?_)
                refine (rProgram_any hRn5 hJ4.nor.left_le s' a' HX6.out m' d' (by omega) A' l' HX15 HX2.out T r HR.out).mono ?_
                rintro e w6 ⟨B2, c3, rfl, hT6, hB6⟩
                have hF6 := hBx5.below hB6
                have hB06 := Below.then_ hBel5 hB6
                go_wp2_with ((with_reducible refine wpList_store rfl rfl (.tmp 9) (.tmp 97) 65 rfl g 0 W.heap.size 65 5 (S.rL (some ⟨gb, 0, none⟩) c2) (T.rL B2 c3) rfl rfl 5 rfl (by kernel_rfl) hF6 (by omega) (allOne_out (by kernel_rfl)) W hB06 hWg ?_); intro w7 hF7 hB7 ho7 hz7)
                obtain ⟨gb2, rfl, hJ7⟩ := hJ4.then_ hx5 hN5 hTn.1 hT6 hB6 hF7 ho7 hB7
                go_meet
                case rel => exact ⟨gb2, c3, T, r, 0, rfl, rfl, rfl, rfl, hJ7, hTn.2⟩
              · obtain ⟨T, r, hr⟩ : ∃ T r, S.program s' a' l' = (T, r) := ⟨_, _, rfl⟩
                have hTn := Fl.program_ok hok hr
                have HR := Lib.hid hr
                clear hr
                refine (Program_any hJ4.nor s' a' HX6.out m' d' A' l' hW4 HX14 HX2.out T r HR.out).mono ?_
                rintro e w5 ⟨rfl, hN5, hx5⟩
                obtain ⟨hBx5, hRn5, hBel5, lp, lb, lg, hWg⟩ := hJ4.half hx5
                have hX5 := hX4.but hx5 ngp ngb; have y0 : w5.cell? ⟨gx, 0, none⟩ = some (.int .i64 k') := hX5.cell (j := 0) rfl; have y1 : w5.cell? ⟨gx, 1, none⟩ = some (.int .i64 s') := hX5.cell (j := 1) rfl; have y2 : w5.cell? ⟨gx, 2, none⟩ = some (.int .i64 a') := hX5.cell (j := 2) rfl; have y3 : w5.cell? ⟨gx, 3, none⟩ = some (.slice A' m' d') := hX5.cell (j := 3) rfl; have y4 : w5.cell? ⟨gx, 4, none⟩ = some (.slice B' q' e') := hX5.cell (j := 4) rfl
                have HX15 := (HX14.below (hx5.below lp5 lb5 hW4)).more (Nat.le_trans hW4 hx5.size)
                have HX35 := (HX34.below (hx5.below lp5 lb5 hW4)).more (Nat.le_trans hW4 hx5.size)
                clear f0 f1 f2 f3 f4 hX4 hB4
                go_wp2_with (with_reducible refine wpList_load (o := ⟨some 89, _, _, _, _, _⟩) rfl (.tmp 9) 65 rfl g 0 _ rfl (S.rL (some ⟨gb, 0, none⟩) c2) 5 rfl (by kernel_rfl) hBx5.sees ?_)
                refine (rProgram_any hRn5 hJ4.nor.left_le s' a' HX6.out m' d' (by omega) A' l' HX15 HX2.out T r HR.out).mono ?_
                rintro e w6 ⟨B2, c3, rfl, hT6, hB6⟩
                have hF6 := hBx5.below hB6
                have hB06 := Below.then_ hBel5 hB6
                go_wp2_with ((with_reducible refine wpList_store rfl rfl (.tmp 9) (.tmp 97) 65 rfl g 0 W.heap.size 65 5 (S.rL (some ⟨gb, 0, none⟩) c2) (T.rL B2 c3) rfl rfl 5 rfl (by kernel_rfl) hF6 (by omega) (allOne_out (by kernel_rfl)) W hB06 hWg ?_); intro w7 hF7 hB7 ho7 hz7)
                obtain ⟨gb2, rfl, hJ7⟩ := hJ4.then_ hx5 hN5 hTn.1 hT6 hB6 hF7 ho7 hB7
                go_meet
                case rel => exact ⟨gb2, c3, T, r, 0, rfl, rfl, rfl, rfl, hJ7, hTn.2⟩
              · obtain ⟨T, r, hr⟩ : ∃ T r, S.program s' a' l' = (T, r) := ⟨_, _, rfl⟩
                have hTn := Fl.program_ok hok hr
                have HR := Lib.hid hr
                clear hr
                refine (Program_any hJ4.nor s' a' HX6.out m' d' A' l' hW4 HX14 HX2.out T r HR.out).mono ?_
                rintro e w5 ⟨rfl, hN5, hx5⟩
                obtain ⟨hBx5, hRn5, hBel5, lp, lb, lg, hWg⟩ := hJ4.half hx5
                have hX5 := hX4.but hx5 ngp ngb; have y0 : w5.cell? ⟨gx, 0, none⟩ = some (.int .i64 k') := hX5.cell (j := 0) rfl; have y1 : w5.cell? ⟨gx, 1, none⟩ = some (.int .i64 s') := hX5.cell (j := 1) rfl; have y2 : w5.cell? ⟨gx, 2, none⟩ = some (.int .i64 a') := hX5.cell (j := 2) rfl; have y3 : w5.cell? ⟨gx, 3, none⟩ = some (.slice A' m' d') := hX5.cell (j := 3) rfl; have y4 : w5.cell? ⟨gx, 4, none⟩ = some (.slice B' q' e') := hX5.cell (j := 4) rfl
                have HX15 := (HX14.below (hx5.below lp5 lb5 hW4)).more (Nat.le_trans hW4 hx5.size)
                have HX35 := (HX34.below (hx5.below lp5 lb5 hW4)).more (Nat.le_trans hW4 hx5.size)
                clear f0 f1 f2 f3 f4 hX4 hB4
                go_wp2_with (with_reducible refine wpList_load (o := ⟨some 89, _, _, _, _, _⟩) rfl (.tmp 9) 65 rfl g 0 _ rfl (S.rL (some ⟨gb, 0, none⟩) c2) 5 rfl (by kernel_rfl) hBx5.sees ?_)
                refine (rProgram_any hRn5 hJ4.nor.left_le s' a' HX6.out m' d' (by omega) A' l' HX15 HX2.out T r HR.out).mono ?_
                rintro e w6 ⟨B2, c3, rfl, hT6, hB6⟩
                have hF6 := hBx5.below hB6
                have hB06 := Below.then_ hBel5 hB6
                go_wp2_with ((with_reducible refine wpList_store rfl rfl (.tmp 9) (.tmp 97) 65 rfl g 0 W.heap.size 65 5 (S.rL (some ⟨gb, 0, none⟩) c2) (T.rL B2 c3) rfl rfl 5 rfl (by kernel_rfl) hF6 (by omega) (allOne_out (by kernel_rfl)) W hB06 hWg ?_); intro w7 hF7 hB7 ho7 hz7)
                obtain ⟨gb2, rfl, hJ7⟩ := hJ4.then_ hx5 hN5 hTn.1 hT6 hB6 hF7 ho7 hB7
                go_meet
                case rel => exact ⟨gb2, c3, T, r, 0, rfl, rfl, rfl, rfl, hJ7, hTn.2⟩
              · obtain ⟨T, r, hr⟩ : ∃ T r, S.erase s' = (T, r) := ⟨_, _, rfl⟩
                have hTn := Fl.erase_ok hok hr
                have HR := Lib.hid hr
                clear hr
                refine (Erase_any hJ4.nor s' T r HR.out HX5.out).mono ?_
                rintro e w5 ⟨rfl, hN5, hx5⟩
                obtain ⟨hBx5, hRn5, hBel5, lp, lb, lg, hWg⟩ := hJ4.half hx5
                have hX5 := hX4.but hx5 ngp ngb; have y0 : w5.cell? ⟨gx, 0, none⟩ = some (.int .i64 k') := hX5.cell (j := 0) rfl; have y1 : w5.cell? ⟨gx, 1, none⟩ = some (.int .i64 s') := hX5.cell (j := 1) rfl; have y2 : w5.cell? ⟨gx, 2, none⟩ = some (.int .i64 a') := hX5.cell (j := 2) rfl; have y3 : w5.cell? ⟨gx, 3, none⟩ = some (.slice A' m' d') := hX5.cell (j := 3) rfl; have y4 : w5.cell? ⟨gx, 4, none⟩ = some (.slice B' q' e') := hX5.cell (j := 4) rfl
                have HX15 := (HX14.below (hx5.below lp5 lb5 hW4)).more (Nat.le_trans hW4 hx5.size)
                have HX35 := (HX34.below (hx5.below lp5 lb5 hW4)).more (Nat.le_trans hW4 hx5.size)
                clear f0 f1 f2 f3 f4 hX4 hB4
                go_wp2_with (with_reducible refine wpList_load (o := ⟨some 107, _, _, _, _, _⟩) rfl (.tmp 9) 65 rfl g 0 _ rfl (S.rL (some ⟨gb, 0, none⟩) c2) 5 rfl (by kernel_rfl) hBx5.sees ?_)
                refine (rErase_any hRn5 hJ4.nor.left_le s' T r HR.out).mono ?_
                rintro e w6 ⟨B2, c3, rfl, hT6, hB6⟩
                have hF6 := hBx5.below hB6
                have hB06 := Below.then_ hBel5 hB6
                go_wp2_with ((with_reducible refine wpList_store rfl rfl (.tmp 9) (.tmp 111) 65 rfl g 0 W.heap.size 65 5 (S.rL (some ⟨gb, 0, none⟩) c2) (T.rL B2 c3) rfl rfl 5 rfl (by kernel_rfl) hF6 (by omega) (allOne_out (by kernel_rfl)) W hB06 hWg ?_); intro w7 hF7 hB7 ho7 hz7)
                obtain ⟨gb2, rfl, hJ7⟩ := hJ4.then_ hx5 hN5 hTn.1 hT6 hB6 hF7 ho7 hB7
                go_meet
                case rel => exact ⟨gb2, c3, T, r, 0, rfl, rfl, rfl, rfl, hJ7, hTn.2⟩
              · obtain ⟨T, r, hr⟩ : ∃ T r, S.erase s' = (T, r) := ⟨_, _, rfl⟩
                have hTn := Fl.erase_ok hok hr
                have HR := Lib.hid hr
                clear hr
                refine (Erase_any hJ4.nor s' T r HR.out HX5.out).mono ?_
                rintro e w5 ⟨rfl, hN5, hx5⟩
                obtain ⟨hBx5, hRn5, hBel5, lp, lb, lg, hWg⟩ := hJ4.half hx5
                have hX5 := hX4.but hx5 ngp ngb; have y0 : w5.cell? ⟨gx, 0, none⟩ = some (.int .i64 k') := hX5.cell (j := 0) rfl; have y1 : w5.cell? ⟨gx, 1, none⟩ = some (.int .i64 s') := hX5.cell (j := 1) rfl; have y2 : w5.cell? ⟨gx, 2, none⟩ = some (.int .i64 a') := hX5.cell (j := 2) rfl; have y3 : w5.cell? ⟨gx, 3, none⟩ = some (.slice A' m' d') := hX5.cell (j := 3) rfl; have y4 : w5.cell? ⟨gx, 4, none⟩ = some (.slice B' q' e') := hX5.cell (j := 4) rfl
                have HX15 := (HX14.below (hx5.below lp5 lb5 hW4)).more (Nat.le_trans hW4 hx5.size)
                have HX35 := (HX34.below (hx5.below lp5 lb5 hW4)).more (Nat.le_trans hW4 hx5.size)
                clear f0 f1 f2 f3 f4 hX4 hB4
                go_wp2_with (with_reducible refine wpList_load (o := ⟨some 107, _, _, _, _, _⟩) rfl (.tmp 9) 65 rfl g 0 _ rfl (S.rL (some ⟨gb, 0, none⟩) c2) 5 rfl (by kernel_rfl) hBx5.sees ?_)
                refine (rErase_any hRn5 hJ4.nor.left_le s' T r HR.out).mono ?_
                rintro e w6 ⟨B2, c3, rfl, hT6, hB6⟩
                have hF6 := hBx5.below hB6
                have hB06 := Below.then_ hBel5 hB6
                go_wp2_with ((with_reducible refine wpList_store rfl rfl (.tmp 9) (.tmp 111) 65 rfl g 0 W.heap.size 65 5 (S.rL (some ⟨gb, 0, none⟩) c2) (T.rL B2 c3) rfl rfl 5 rfl (by kernel_rfl) hF6 (by omega) (allOne_out (by kernel_rfl)) W hB06 hWg ?_); intro w7 hF7 hB7 ho7 hz7)
                obtain ⟨gb2, rfl, hJ7⟩ := hJ4.then_ hx5 hN5 hTn.1 hT6 hB6 hF7 ho7 hB7
                go_meet
                case rel => exact ⟨gb2, c3, T, r, 0, rfl, rfl, rfl, rfl, hJ7, hTn.2⟩
              · obtain ⟨T, r, hr⟩ : ∃ T r, S.rewrite s' a' l' = (T, r) := ⟨_, _, rfl⟩
                have hTn := Fl.rewrite_ok hok hr
                have HR := Lib.hid hr
                clear hr
                refine (Rewrite_any hJ4.nor s' a' HX6.out m' d' A' l' hW4 HX14 HX2.out T r HR.out).mono ?_
                rintro e w5 ⟨rfl, hN5, hx5⟩
                obtain ⟨hBx5, hRn5, hBel5, lp, lb, lg, hWg⟩ := hJ4.half hx5
                have hX5 := hX4.but hx5 ngp ngb; have y0 : w5.cell? ⟨gx, 0, none⟩ = some (.int .i64 k') := hX5.cell (j := 0) rfl; have y1 : w5.cell? ⟨gx, 1, none⟩ = some (.int .i64 s') := hX5.cell (j := 1) rfl; have y2 : w5.cell? ⟨gx, 2, none⟩ = some (.int .i64 a') := hX5.cell (j := 2) rfl; have y3 : w5.cell? ⟨gx, 3, none⟩ = some (.slice A' m' d') := hX5.cell (j := 3) rfl; have y4 : w5.cell? ⟨gx, 4, none⟩ = some (.slice B' q' e') := hX5.cell (j := 4) rfl
                have HX15 := (HX14.below (hx5.below lp5 lb5 hW4)).more (Nat.le_trans hW4 hx5.size)
                have HX35 := (HX34.below (hx5.below lp5 lb5 hW4)).more (Nat.le_trans hW4 hx5.size)
                clear f0 f1 f2 f3 f4 hX4 hB4
                go_wp2_with (with_reducible refine wpList_load (o := ⟨some 124, _, _, _, _, _⟩) rfl (.tmp 9) 65 rfl g 0 _ rfl (S.rL (some ⟨gb, 0, none⟩) c2) 5 rfl (by kernel_rfl) hBx5.sees ?_)
                refine (rRewrite_any hRn5 s' a' HX6.out m' d' (by omega) A' l' HX15 HX2.out T r HR.out).mono ?_
                rintro e w6 ⟨B2, c3, rfl, hT6, hB6⟩
                have hF6 := hBx5.below hB6
                have hB06 := Below.then_ hBel5 hB6
                go_wp2_with ((with_reducible refine wpList_store rfl rfl (.tmp 9) (.tmp 132) 65 rfl g 0 W.heap.size 65 5 (S.rL (some ⟨gb, 0, none⟩) c2) (T.rL B2 c3) rfl rfl 5 rfl (by kernel_rfl) hF6 (by omega) (allOne_out (by kernel_rfl)) W hB06 hWg ?_); intro w7 hF7 hB7 ho7 hz7)
                obtain ⟨gb2, rfl, hJ7⟩ := hJ4.then_ hx5 hN5 hTn.1 hT6 hB6 hF7 ho7 hB7
                go_meet
                case rel => exact ⟨gb2, c3, T, r, 0, rfl, rfl, rfl, rfl, hJ7, hTn.2⟩
              · obtain ⟨T, hT⟩ : ∃ T, S.arm a' = T := ⟨_, rfl⟩
                have hTn := Fl.arm_ok hok a'
                rw [hT] at hTn
                have hAr := Arm_any hJ4.nor a' (by have := HX6.out; omega)
                rw [hT] at hAr
                refine hAr.mono ?_
                rintro e w5 ⟨rfl, hN5, hx5⟩
                obtain ⟨hBx5, hRn5, hBel5, lp, lb, lg, hWg⟩ := hJ4.half hx5
                have hX5 := hX4.but hx5 ngp ngb; have y0 : w5.cell? ⟨gx, 0, none⟩ = some (.int .i64 k') := hX5.cell (j := 0) rfl; have y1 : w5.cell? ⟨gx, 1, none⟩ = some (.int .i64 s') := hX5.cell (j := 1) rfl; have y2 : w5.cell? ⟨gx, 2, none⟩ = some (.int .i64 a') := hX5.cell (j := 2) rfl; have y3 : w5.cell? ⟨gx, 3, none⟩ = some (.slice A' m' d') := hX5.cell (j := 3) rfl; have y4 : w5.cell? ⟨gx, 4, none⟩ = some (.slice B' q' e') := hX5.cell (j := 4) rfl
                have HX15 := (HX14.below (hx5.below lp5 lb5 hW4)).more (Nat.le_trans hW4 hx5.size)
                have HX35 := (HX34.below (hx5.below lp5 lb5 hW4)).more (Nat.le_trans hW4 hx5.size)
                clear f0 f1 f2 f3 f4 hX4 hB4
                go_wp2_with (with_reducible refine wpList_load (o := ⟨some 140, _, _, _, _, _⟩) rfl (.tmp 9) 65 rfl g 0 _ rfl (S.rL (some ⟨gb, 0, none⟩) c2) 5 rfl (by kernel_rfl) hBx5.sees ?_)
                have hAr2 := rArm_any (A := some ⟨gb, 0, none⟩) (c := c2) a' S w5
                rw [hT] at hAr2
                refine hAr2.mono ?_
                rintro e w6 ⟨rfl, hB6⟩
                have hT6 := arm_to hRn5 hB6 a' hT
                have hF6 := hBx5.below hB6
                have hB06 := Below.then_ hBel5 hB6
                go_wp2_with ((with_reducible refine wpList_store rfl rfl (.tmp 9) (.tmp 143) 65 rfl g 0 W.heap.size 65 5 (S.rL (some ⟨gb, 0, none⟩) c2) (T.rL (some ⟨gb, 0, none⟩) c2) rfl rfl 5 rfl (by kernel_rfl) hF6 (by omega) (allOne_out (by kernel_rfl)) W hB06 hWg ?_); intro w7 hF7 hB7 ho7 hz7)
                obtain ⟨gb2, eB, hJ7⟩ := hJ4.then_ hx5 hN5 hTn.1 hT6 hB6 hF7 ho7 hB7
                go_meet
                case rel => exact ⟨gb2, c2, T, 0, 0, rfl, rfl, rfl, rfl, hJ7, hTn.2⟩
              · obtain ⟨T, hT⟩ : ∃ T, S.crash ks' = T := ⟨_, rfl⟩
                have hTn := Fl.crash_ok S ks'
                rw [hT] at hTn
                have hAr := Crash_any hJ4.nor hok B' q' e' ks' hW4 HX34 HX4.out
                rw [hT] at hAr
                refine hAr.mono ?_
                rintro e w5 ⟨rfl, hN5, hx5⟩
                obtain ⟨hBx5, hRn5, hBel5, lp, lb, lg, hWg⟩ := hJ4.half hx5
                have hX5 := hX4.but hx5 ngp ngb; have y0 : w5.cell? ⟨gx, 0, none⟩ = some (.int .i64 k') := hX5.cell (j := 0) rfl; have y1 : w5.cell? ⟨gx, 1, none⟩ = some (.int .i64 s') := hX5.cell (j := 1) rfl; have y2 : w5.cell? ⟨gx, 2, none⟩ = some (.int .i64 a') := hX5.cell (j := 2) rfl; have y3 : w5.cell? ⟨gx, 3, none⟩ = some (.slice A' m' d') := hX5.cell (j := 3) rfl; have y4 : w5.cell? ⟨gx, 4, none⟩ = some (.slice B' q' e') := hX5.cell (j := 4) rfl
                have HX15 := (HX14.below (hx5.below lp5 lb5 hW4)).more (Nat.le_trans hW4 hx5.size)
                have HX35 := (HX34.below (hx5.below lp5 lb5 hW4)).more (Nat.le_trans hW4 hx5.size)
                clear f0 f1 f2 f3 f4 hX4 hB4
                go_wp2_with (with_reducible refine wpList_load (o := ⟨some 151, _, _, _, _, _⟩) rfl (.tmp 9) 65 rfl g 0 _ rfl (S.rL (some ⟨gb, 0, none⟩) c2) 5 rfl (by kernel_rfl) hBx5.sees ?_)
                have hAr2 := rCrash_any hRn5 hok hJ4.n1 B' q' e' (by omega) ks' HX35 HX4.out
                rw [hT] at hAr2
                refine hAr2.mono ?_
                rintro e w6 ⟨B2, c3, rfl, hT6, hB6⟩
                have hF6 := hBx5.below hB6
                have hB06 := Below.then_ hBel5 hB6
                go_wp2_with ((with_reducible refine wpList_store rfl rfl (.tmp 9) (.tmp 154) 65 rfl g 0 W.heap.size 65 5 (S.rL (some ⟨gb, 0, none⟩) c2) (T.rL B2 c3) rfl rfl 5 rfl (by kernel_rfl) hF6 (by omega) (allOne_out (by kernel_rfl)) W hB06 hWg ?_); intro w7 hF7 hB7 ho7 hz7)
                obtain ⟨gb2, rfl, hJ7⟩ := hJ4.then_ hx5 hN5 hTn.1 hT6 hB6 hF7 ho7 hB7
                go_meet
                case rel => exact ⟨gb2, c3, T, 0, 0, rfl, rfl, rfl, rfl, hJ7, hTn.2⟩
              · obtain ⟨T, hT⟩ : ∃ T, S.crash ks' = T := ⟨_, rfl⟩
                have hTn := Fl.crash_ok S ks'
                rw [hT] at hTn
                have hAr := Crash_any hJ4.nor hok B' q' e' ks' hW4 HX34 HX4.out
                rw [hT] at hAr
                refine hAr.mono ?_
                rintro e w5 ⟨rfl, hN5, hx5⟩
                obtain ⟨hBx5, hRn5, hBel5, lp, lb, lg, hWg⟩ := hJ4.half hx5
                have hX5 := hX4.but hx5 ngp ngb; have y0 : w5.cell? ⟨gx, 0, none⟩ = some (.int .i64 k') := hX5.cell (j := 0) rfl; have y1 : w5.cell? ⟨gx, 1, none⟩ = some (.int .i64 s') := hX5.cell (j := 1) rfl; have y2 : w5.cell? ⟨gx, 2, none⟩ = some (.int .i64 a') := hX5.cell (j := 2) rfl; have y3 : w5.cell? ⟨gx, 3, none⟩ = some (.slice A' m' d') := hX5.cell (j := 3) rfl; have y4 : w5.cell? ⟨gx, 4, none⟩ = some (.slice B' q' e') := hX5.cell (j := 4) rfl
                have HX15 := (HX14.below (hx5.below lp5 lb5 hW4)).more (Nat.le_trans hW4 hx5.size)
                have HX35 := (HX34.below (hx5.below lp5 lb5 hW4)).more (Nat.le_trans hW4 hx5.size)
                clear f0 f1 f2 f3 f4 hX4 hB4
                go_wp2_with (with_reducible refine wpList_load (o := ⟨some 151, _, _, _, _, _⟩) rfl (.tmp 9) 65 rfl g 0 _ rfl (S.rL (some ⟨gb, 0, none⟩) c2) 5 rfl (by kernel_rfl) hBx5.sees ?_)
                have hAr2 := rCrash_any hRn5 hok hJ4.n1 B' q' e' (by omega) ks' HX35 HX4.out
                rw [hT] at hAr2
                refine hAr2.mono ?_
                rintro e w6 ⟨B2, c3, rfl, hT6, hB6⟩
                have hF6 := hBx5.below hB6
                have hB06 := Below.then_ hBel5 hB6
                go_wp2_with ((with_reducible refine wpList_store rfl rfl (.tmp 9) (.tmp 154) 65 rfl g 0 W.heap.size 65 5 (S.rL (some ⟨gb, 0, none⟩) c2) (T.rL B2 c3) rfl rfl 5 rfl (by kernel_rfl) hF6 (by omega) (allOne_out (by kernel_rfl)) W hB06 hWg ?_); intro w7 hF7 hB7 ho7 hz7)
                obtain ⟨gb2, rfl, hJ7⟩ := hJ4.then_ hx5 hN5 hTn.1 hT6 hB6 hF7 ho7 hB7
                go_meet
                case rel => exact ⟨gb2, c3, T, 0, 0, rfl, rfl, rfl, rfl, hJ7, hTn.2⟩
              · obtain ⟨v, r, hr⟩ : ∃ v r, S.read s' a' = (v, r) := ⟨_, _, rfl⟩
                have HR := Lib.hid hr
                clear hr
                refine (Read_any hJ4.nor s' a' HX6.out v r HR.out).mono ?_
                rintro e w5 ⟨rfl, rfl⟩
                go_wp2_with (with_reducible refine wpList_load (o := ⟨some 167, _, _, _, _, _⟩) rfl (.tmp 9) 65 rfl g 0 _ rfl (S.rL (some ⟨gb, 0, none⟩) c2) 5 rfl (by kernel_rfl) hJ4.box.sees ?_)
                refine (rRead_any hJ4.rn s' a' HX6.out v r HR.out).mono ?_
                rintro e w6 ⟨rfl, hB6⟩
                have hJ6 := hJ4.step hB6
                go_wp2_with fail
                go_meet
                case rel => exact ⟨gb, c2, S, r, v, rfl, rfl, rfl, rfl, hJ6, hok⟩
              · go_meet
                case rel => exact ⟨gb, c2, S, 0, 0, rfl, rfl, rfl, rfl, hJ4, hok⟩
            case rest =>
              obtain ⟨gb3, c3, T, r, v, rfl, rfl, rfl, rfl, hJ7, hok7⟩ := hcut
              have hne : (((r : Nat) : Int) != (r : Int)) = false := by simp
              have hne2 : (((v.toNat : Nat) : Int) != (v.toNat : Int)) = false := by simp
              go_wp2_with (refine wpList_load_g (o := ⟨some 185, _, _, _, _, _⟩) (.tmp 9) 65 rfl g 0 _ rfl (T.rL (some ⟨gb3, 0, none⟩) c3) 5 rfl (by kernel_rfl) hJ7.box.sees (by rfl) ?_)
              refine (SameNor_any hJ7.nor hJ7.rn).mono ?_
              rintro e w8 ⟨rfl, hB8⟩
              go_wp2_with fail
              go_roundw
              case rel => exact ⟨k + 1, gb3, c3, T, by omega, by omega, by go_num, hJ7.step hB8, hok7⟩
              case measure => simp [intOf]; omega
          · obtain rfl : k = 60 := by omega
            go_wp2_with fail
            refine (awake4_any _).mono ?_
            rintro e w5 ⟨rfl, hB5⟩
            go_wp2_with fail
            go_ret
            exact ⟨rfl, Below.then_ hJ.below hB5⟩
        · obtain rfl : k = N := by omega
          go_wp2_with fail
          refine (awake4_any _).mono ?_
          rintro e w5 ⟨rfl, hB5⟩
          go_wp2_with fail
          go_ret
          exact ⟨rfl, Below.then_ hJ.below hB5⟩
end Go.Proofs.Ytjmofjcdcmbecaa
