/-
  MacTexts returns true for every input, and writes nothing that was there: the walk, where tags are alike, and the first text is longer.
-/
import Derived.Test.YtpdfalgjmeagjaaMacTextsTools
import Derived.Test.YtpdfalgjmeagjaaTextPure
import Derived.Test.YtpdfalgjmeagjaaRefBlock
namespace Go.Proofs.Ytpdfalgjmeagjaa
open Go.RowKit
set_option linter.unusedVariables false

set_option maxHeartbeats 8000000 in
set_option maxRecDepth 100000 in
theorem texts_SameGt (tag other z : UInt8) (Aa Ab : Option Addr) (na ca nb cb_ : Nat) (pa pb : List Pb) (w : World) (hpa : Parts w Aa na pa) (hpb : Parts w Ab nb pb) (htag : tag = other) (hmn0 : ¬ (textF tag ((fewF pa).map Pb.l)).length ≤ (textF other ((fewF pb).map Pb.l)).length) :
    Calls Try.prog 6 #[.int .u8 (tag.toNat : Int), .int .u8 (other.toNat : Int), .slice Aa na ca, .slice Ab nb cb_, .int .u8 (z.toNat : Int)] w fun e w' => e = .returned (.bool true) ∧ Below w.heap.size w w' := by
  have HTAG := Lib.hid htag
  have HMN0 := Lib.hid hmn0
  clear htag hmn0
  have la : ∀ l ∈ (fewF pa).map Pb.l, l.length ≤ 100 := by
    intro l hl
    obtain ⟨p, hpm, rfl⟩ := List.mem_map.1 hl
    rw [(hpa.ok p (List.mem_of_mem_take (List.mem_filter.1 hpm).1)).len]
    simpa using (List.mem_filter.1 hpm).2
  have lb : ∀ l ∈ (fewF pb).map Pb.l, l.length ≤ 100 := by
    intro l hl
    obtain ⟨p, hpm, rfl⟩ := List.mem_map.1 hl
    rw [(hpb.ok p (List.mem_of_mem_take (List.mem_filter.1 hpm).1)).len]
    simpa using (List.mem_filter.1 hpm).2
  have lena : (fewF pa).length ≤ 6 := Nat.le_trans (List.length_filter_le _ _) (by simp; omega)
  have lenb : (fewF pb).length ≤ 6 := Nat.le_trans (List.length_filter_le _ _) (by simp; omega)
  have HMA : Hid (∀ p ∈ fewF pa, p.m ≤ 100) := Lib.hid fun p hp => by simpa using (List.mem_filter.1 hp).2
  have HMB : Hid (∀ p ∈ fewF pb, p.m ≤ 100) := Lib.hid fun p hp => by simpa using (List.mem_filter.1 hp).2
  have hfa := few_any (w := w) Aa na ca pa hpa
  obtain ⟨X, hX⟩ : ∃ X, X = fewF pa := ⟨_, rfl⟩
  obtain ⟨Y, hY⟩ : ∃ Y, Y = fewF pb := ⟨_, rfl⟩
  obtain ⟨Qx, hQx⟩ : ∃ Q, X.length = Q := ⟨_, rfl⟩
  obtain ⟨Qy, hQy⟩ : ∃ Q, Y.length = Q := ⟨_, rfl⟩
  rw [← hX] at la lena HMA hfa
  rw [← hY] at lb lenb HMB
  rw [hQx] at lena hfa
  rw [hQy] at lenb
  obtain ⟨lx, hlx⟩ : ∃ l, X.map Pb.l = l := ⟨_, rfl⟩
  obtain ⟨ly, hly⟩ : ∃ l, Y.map Pb.l = l := ⟨_, rfl⟩
  rw [hlx] at la
  rw [hly] at lb
  have lnx : lx.length = Qx := by rw [← hlx, List.length_map, hQx]
  have lny : ly.length = Qy := by rw [← hly, List.length_map, hQy]
  obtain ⟨N1, hN1⟩ : ∃ N, (textF tag lx).length = N := ⟨_, rfl⟩
  obtain ⟨N2, hN2⟩ : ∃ N, (textF other ly).length = N := ⟨_, rfl⟩
  obtain ⟨r, hr⟩ : ∃ r, (tag == other && lx == ly) = r := ⟨_, rfl⟩
  have HT := Lib.hid ((text_same tag other lx ly (by omega) (by omega) la lb).trans hr)
  have HB : Hid (∀ k, k = min N1 N2 → ((textF tag lx).take k == (textF other ly).take k) = r) := Lib.hid fun k hk => (text_begin tag other lx ly (by omega) (by omega) la lb k (by rw [hN1, hN2]; exact hk)).trans hr
  have HX := Lib.hid hX
  have HY := Lib.hid hY
  have HQX := Lib.hid hQx
  have HQY := Lib.hid hQy
  have HLX := Lib.hid hlx
  have HLY := Lib.hid hly
  have HN1 := Lib.hid hN1
  have HN2 := Lib.hid hN2
  have HR := Lib.hid hr
  have HLA := Lib.hid la
  have HNX := Lib.hid lnx
  clear hX hY hQx hQy hlx hly hN1 hN2 hr la lb lnx lny
  go_enter Try.func6, Try.ntmps6
  go_wp2_with fail
  refine hfa.mono ?_
  clear hfa
  rintro e w1 ⟨A1, c1, rfl, hP1, hc1, hB1⟩
  have hfb := few_any (w := w1) Ab nb cb_ pb (hpb.step hB1)
  rw [← HY.out, HQY.out] at hfb
  go_wp2_with fail
  refine hfb.mono ?_
  clear hfb
  rintro e w2 ⟨A2, c2, rfl, hP2, hc2, hB2⟩
  have hB02 := Below.then_ hB1 hB2
  have hPx2 := hP1.step hB2
  clear hP1 hB1 hB2
  go_wp2_with fail
  refine (Text_any tag A1 Qx c1 N1 X lx hPx2 HLX.out (by omega) HMA.out HN1.out).mono ?_
  rintro e w3 ⟨A3, c3, rfl, hF3, hB3⟩
  have hB03 := Below.then_ hB02 hB3
  have hPx3 := hPx2.step hB3
  have hPy3 := hP2.step hB3
  clear hPx2 hP2 hB02 hB3
  go_wp2_with fail
  refine (Text_any other A2 Qy c2 N2 Y ly hPy3 HLY.out (by omega) HMB.out HN2.out).mono ?_
  rintro e w4 ⟨A4, c4, rfl, hF4, hB4⟩
  have hB04 := Below.then_ hB03 hB4
  have hPx4 := hPx3.step hB4
  have hPy4 := hPy3.step hB4
  have hF34 := hF3.below hB4
  have cap3 := hF3.cap.1
  have cap4 := hF4.cap.1
  clear hPx3 hPy3 hB03 hB4 hF3
  have htag := HTAG.out
  have et : ((tag.toNat : Int) == (other.toNat : Int)) = true := by simp [htag]
  have hrl : (lx == ly) = r := by have := HR.out; rw [← this]; simp [htag]
  have HTG := Lib.hid htag
  clear htag
  go_wp2_with fail
  refine (SameLists_any A1 A2 Qx Qy c1 c2 X Y lx ly hPx4 hPy4 HLX.out HLY.out r hrl (by omega)).mono ?_
  rintro e w5 ⟨rfl, hB5⟩
  have hBc := Below.then_ hB04 hB5
  have hPc := hPx4.step hB5
  have hF3c := hF34.below hB5
  have hF4c := hF4.below hB5
  clear hPx4 hPy4 hB04 hB5 hF34 hF4 hrl
  have hmn0 := HMN0.out
  have hmn : ¬ (N1 : Int) ≤ (N2 : Int) := by rw [← HX.out, ← HY.out, HLX.out, HLY.out, HN1.out, HN2.out] at hmn0; omega
  clear hmn0
  have s3 := hF3c.sees
  have s4 := hF4c.sees
  have s3k : Sees w5 w5.heap.size A3 (cb ((textF tag lx).take N2)) := by
    have h := s3.take_ N2
    rwa [show (cb (textF tag lx)).take N2 = cb ((textF tag lx).take N2) from by simp only [cb, List.map_take]] at h
  have s4k : Sees w5 w5.heap.size A4 (cb ((textF other ly).take N2)) := by
    have h := s4.take_ N2
    rwa [show (cb (textF other ly)).take N2 = cb ((textF other ly).take N2) from by simp only [cb, List.map_take]] at h
  have l3k := Lib.hid (show ((textF tag lx).take N2).length = N2 by rw [List.length_take, HN1.out]; omega)
  have l4k := Lib.hid (show ((textF other ly).take N2).length = N2 by rw [List.length_take, HN2.out]; omega)
  have hbk := Lib.hid (HB.out N2 (by omega))
  have hcutA := fun W => run_cut (w := W) A3 N1 c3 N2 (by omega)
  have hcutB := fun W => run_cut (w := W) A4 N2 c4 N2 (by omega)
  have hrr : (r != r) = false := by simp
  have hq1 : ∀ nq, Calls Try.prog 18 #[.slice A3 N1 c3, .slice A4 N2 c4] (w5.drewN nq) fun e w' => e = .returned (.bool r) ∧ ∃ k, w' = (w5.drewN nq).drewN k := fun nq =>
    SameBytes_is A3 A4 c3 c4 N1 N2 (textF tag lx) (textF other ly) _ (s3.step (below_drewN' (Below.refl _ _) nq)) (s4.step (below_drewN' (Below.refl _ _) nq)) HN1.out HN2.out r HT.out
  have hq2 : ∀ nq, Calls Try.prog 18 #[.slice A3 N2 c3, .slice A4 N2 c4] (w5.drewN nq) fun e w' => e = .returned (.bool r) ∧ ∃ k, w' = (w5.drewN nq).drewN k := fun nq =>
    SameBytes_is A3 A4 c3 c4 N2 N2 ((textF tag lx).take N2) ((textF other ly).take N2) _ (s3k.step (below_drewN' (Below.refl _ _) nq)) (s4k.step (below_drewN' (Below.refl _ _) nq)) l3k.out l4k.out r hbk.out
  by_cases hq0 : Qx = 0
  · subst hq0
    have hz0 : (((0 : Nat) : Int) == 0) = true := by simp
    go_wp2_with fail
    go_quiet ((go_at_call 18; first | exact Calls.quiet_of (hq1 _) | exact Calls.quiet_of (hq2 _)))
    go_wp2_with fail
    refine (awake3_any _).mono ?_
    rintro e w6 ⟨rfl, hB6⟩
    go_wp2_with fail
    go_ret
    exact ⟨rfl, Below.then_ (below_drewN' hBc _) hB6⟩
  · have hz0 : ((Qx : Int) == 0) = false := by simp; exact hq0
    obtain ⟨g, o, rfl, px, HPX, hpk, hcx⟩ := hPc.at_ (k := 0) (by omega)
    rw [Nat.add_zero] at hcx
    have hpm : px.m ≤ 100 := HMA.out px (List.mem_of_getElem? HPX.out)
    obtain ⟨ec, hec, htm⟩ := cutE z px.m hpm
    have hm1 : decide ((px.m : Int) + 1 = 0) = false := by simp; omega
    have hm2 : (((px.m : Int) + 1) == 0) = false := by simp; omega
    have hwm : IntKind.i64.wrap ((px.m : Int) + 1) = (px.m : Int) + 1 := by rw [IntKind.wrap_i64]; omega
    have hwe : IntKind.i64.wrap (ec : Int) = (ec : Int) := by rw [IntKind.wrap_i64]; omega
    have hglt := World.block_lt_of_cell? _ _ hcx
    have hcell : ∀ w', Below w5.heap.size w5 w' → w'.cell? ⟨g, o, none⟩ = some (.slice px.A px.m px.c) := fun w' h => (h.cell hglt).trans hcx
    have hcutP := fun W => run_cut (w := W) px.A px.m px.c ec (by have := hpk.cap; omega)
    obtain ⟨AR, hAR, hARs⟩ := run_from px.A px.m px.c ec hec hpk.cap
    obtain ⟨XR, hXR0, hXRs⟩ := run_fromL g o Qx c1 1 (by omega) hc1
    have hXR : ∀ w, (Instr.slice 48 (.slice (some ⟨g, o, none⟩) Qx c1) (some (.int .i64 1)) none none).run Try.prog w = .ok (.slice (some XR) (Qx - 1) (c1 - 1)) w := hXR0
    have HQ0 := Lib.hid hq0
    clear hq0
    have hzi0 : 0 ≤ (z.toNat : Int) := by omega
    have hzi1 : (z.toNat : Int) < 256 := by have := z.toNat_lt; omega
    have hqpos : 0 < Qx := Nat.pos_of_ne_zero HQ0.out
    generalize (z.toNat : Int) = zi at *
    go_wp2_with fail
    go_quiet ((go_at_call 18; first | exact Calls.quiet_of (hq1 _) | exact Calls.quiet_of (hq2 _)))
    go_wp2_with fail
    have hdq := fun nq : Nat => below_drewN' (Below.refl w5.heap.size w5) nq
    clear hcutA hcutB s4 s3k s4k hbk hrr hF4c hq1 hq2 hm1 hm2 hwm hwe htm
    refine region_all_tail 15 (txFacts w5.heap.size g o Qx c1 px ec AR XR) (by kernel_rfl) (by kernel_rfl) (by kernel_rfl) (txFacts_stab _ _ _ _ _ _ _ _ _) ?_ ?_
    · intro w0 hb0
      simp only [List.take_succ_cons, List.take_zero]
      refine ⟨?_, ?_, ?_, ?_, ?_, ?_, ?_, ?_, ?_, ?_, ?_, ?_, ?_, ?_, ?_, trivial⟩
      all_goals intro listed a1 w' hk hd
      all_goals have hb5 := Below.then_ (Below.then_ (hdq _) hb0) hk.below
      · have f2 := hk.ev_old2 (P := Try.prog) 18 16 (by kernel_rfl) (by kernel_rfl) (.slice none 0 0) rfl (fun u h => h)
        exact stepOk_value rfl (v := .slice none 0 0) (by simp [execOp]; exact f2) rfl
      · have f2 := hk.ev_old 11 (by kernel_rfl)
        exact stepOk_value rfl (v := .slice (some ⟨g, o, none⟩) Qx c1) (by simp [execOp]; exact f2) rfl
      · obtain ⟨v, e0, _, rfl⟩ := hk.ev_new hd 1 71 (by kernel_rfl) rfl
        exact stepOk_value rfl (v := .pointer (some ⟨g, o + 0, none⟩)) (run_ix1 (.tmp 71) (.const (.int .i64 0)) rfl Try.underlying48 (by kernel_rfl) e0 rfl rfl (by have := HQ0.out; omega)) (by simp [txFacts])
      · obtain ⟨v, e0, _, rfl⟩ := hk.ev_new hd 2 72 (by kernel_rfl) rfl
        have hcw := hcell w' hb5
        exact stepOk_value rfl (v := .slice px.A px.m px.c) (by go_simp) rfl
      · have f2 := hk.ev_old 17 (by kernel_rfl)
        exact stepOk_value rfl (v := .int .i64 (ec : Int)) (by simp [execOp]; exact f2) rfl
      · obtain ⟨v, e0, _, rfl⟩ := hk.ev_new hd 3 73 (by kernel_rfl) rfl
        obtain ⟨v, e1, _, rfl⟩ := hk.ev_new hd 4 74 (by kernel_rfl) rfl
        have hq := hcutP w'
        exact stepOk_value rfl (v := .slice px.A ec px.c) (by go_simp) rfl
      · have f2 := hk.ev_old 11 (by kernel_rfl)
        exact stepOk_value rfl (v := .slice (some ⟨g, o, none⟩) Qx c1) (by simp [execOp]; exact f2) rfl
      · obtain ⟨v, e0, _, rfl⟩ := hk.ev_new hd 6 76 (by kernel_rfl) rfl
        exact stepOk_value rfl (v := .pointer (some ⟨g, o + 0, none⟩)) (run_ix1 (.tmp 76) (.const (.int .i64 0)) rfl Try.underlying48 (by kernel_rfl) e0 rfl rfl (by have := HQ0.out; omega)) (by simp [txFacts])
      · obtain ⟨v, e0, _, rfl⟩ := hk.ev_new hd 7 77 (by kernel_rfl) rfl
        have hcw := hcell w' hb5
        exact stepOk_value rfl (v := .slice px.A px.m px.c) (by go_simp) rfl
      · have f2 := hk.ev_old 17 (by kernel_rfl)
        exact stepOk_value rfl (v := .int .i64 (ec : Int)) (by simp [execOp]; exact f2) rfl
      · obtain ⟨v, e0, _, rfl⟩ := hk.ev_new hd 8 78 (by kernel_rfl) rfl
        obtain ⟨v, e1, _, rfl⟩ := hk.ev_new hd 9 79 (by kernel_rfl) rfl
        have hq := hAR w'
        exact stepOk_value rfl (v := .slice AR (px.m - ec) (px.c - ec)) (by go_simp) rfl
      · obtain ⟨v, e0, _, rfl⟩ := hk.ev_new hd 5 75 (by kernel_rfl) rfl
        obtain ⟨v, e1, _, rfl⟩ := hk.ev_new hd 10 80 (by kernel_rfl) rfl
        refine stepOk_run rfl (v := .slice (some ⟨w'.heap.size, 0, none⟩) 2 2) (w' := w'.alloc (.cells #[.slice px.A ec px.c, .slice AR (px.m - ec) (px.c - ec)] 27)) ?_ ⟨_, rfl, (Fresh.new w' 27 [.slice px.A ec px.c, .slice AR (px.m - ec) (px.c - ec)] 2 rfl (by decide)).sees⟩ (below_alloc _ _)
        go_simp
      · obtain ⟨v, e0, _, rfl⟩ := hk.ev_new hd 0 70 (by kernel_rfl) rfl
        obtain ⟨v, e1, _, g1, rfl, hS1⟩ := hk.ev_new hd 11 81 (by kernel_rfl) rfl
        refine stepOk_append rfl (.tmp 70) (.tmp 81) 48 27 (.slice none 0 0) 24 rfl Try.underlying48 (by kernel_rfl) rfl (by omega) ⟨g1, 0, none⟩ 2 2 w5.heap.size [.slice px.A ec px.c, .slice AR (px.m - ec) (px.c - ec)] e0 e1 ?_ rfl ?_ (by omega) (by omega) hb5.size (fun A c w2 h1 h2 => ⟨A, c, rfl, h1⟩)
        · intro j u hj
          obtain ⟨b', o', e', _, hc'⟩ := hS1 (by simp)
          obtain ⟨rfl, rfl⟩ : g1 = b' ∧ 0 = o' := by simpa using e'
          rw [Addr.add_lit]
          exact hc' j u hj
        · intro u hu
          simp at hu
          rcases hu with rfl | rfl <;> rfl
      · have f2 := hk.ev_old 11 (by kernel_rfl)
        exact stepOk_value rfl (v := .slice (some ⟨g, o, none⟩) Qx c1) (by simp [execOp]; exact f2) rfl
      · obtain ⟨v, e0, _, rfl⟩ := hk.ev_new hd 13 83 (by kernel_rfl) rfl
        have hq := hXR w'
        exact stepOk_value rfl (v := .slice (some XR) (Qx - 1) (c1 - 1)) (by go_simp) rfl
    · intro a1 w' hbw hp
      obtain ⟨v0, p0, v1, p1, v2, p2, v3, p3, v4, p4, v5, p5, v6, p6, v7, p7, v8, p8, v9, p9, v10, p10, v11, p11, v12, p12, v13, p13, v14, p14, rfl⟩ := hp
      simp only [txFacts] at p0 p1 p2 p3 p4 p5 p6 p7 p8 p9 p10 p11 p12 p13 p14
      subst p0 p1 p2 p3 p4 p5 p6 p7 p8 p9 p10 p13 p14
      obtain ⟨g1, rfl, hS1⟩ := p11
      obtain ⟨AZ, cZ, rfl, hFZ⟩ := p12
      simp only [List.drop_succ_cons, List.drop_zero, Act.put, List.setIfInBounds_toArray, List.set_cons_succ, List.set_cons_zero]
      have hbw5 : Below w5.heap.size w5 w' := Below.then_ (hdq _) hbw
      have hPw := hPc.step hbw5
      have hcells := hXRs w' w'.heap.size (X.map Pb.cell) (by rw [List.length_map]; exact hPw.len) hPw.sees
      refine wpList_rows (o := ⟨some 85, _, _, _, _, _⟩) rfl (.tmp 82) (.tmp 84) rfl AZ 2 cZ (Qx - 1) (c1 - 1) XR _ ((X.map Pb.cell).drop 1) w5 rfl rfl hFZ hcells (by rw [List.length_drop, List.length_map, hPw.len]) ?_ (by omega) hbw5 ?_
      · intro u hu
        obtain ⟨p, _, rfl⟩ := List.mem_map.1 (List.mem_of_mem_drop hu)
        rfl
      intro A9 c9 w9 hF9 hB9 hg9
      have hFt := (hF3c.below hbw5).sees
      have hpk9 := hpk.step hB9
      have hPx9 := hPc.step hB9
      have hS3 : Sees w9 w9.heap.size A3 (cb (textF tag lx)) := (hF3c.below hB9).sees
      obtain ⟨Q9, hQ9⟩ : ∃ q, 2 + (Qx - 1) = q := ⟨_, rfl⟩
      rw [hQ9] at hF9 ⊢
      have hQ97 : Q9 ≤ 7 := by omega
      obtain ⟨qs, hqs⟩ : ∃ qs : List Pb, qs = ⟨px.A, ec, px.c, px.l.take ec⟩ :: ⟨AR, px.m - ec, px.c - ec, px.l.drop ec⟩ :: X.drop 1 := ⟨_, rfl⟩
      have hP9 : Parts w9 A9 Q9 qs := by
        subst hqs
        refine ⟨?_, ?_, ?_⟩
        · have h := hF9.sees
          rwa [show [Value.slice px.A ec px.c, Value.slice AR (px.m - ec) (px.c - ec)] ++ (X.map Pb.cell).drop 1 = (⟨px.A, ec, px.c, px.l.take ec⟩ :: ⟨AR, px.m - ec, px.c - ec, px.l.drop ec⟩ :: X.drop 1 : List Pb).map Pb.cell from by simp [Pb.cell]] at h
        · simp only [List.length_cons, List.length_drop, hPc.len]
          omega
        · intro p hp
          rcases List.mem_cons.1 hp with rfl | hp
          · refine ⟨?_, ?_, ?_⟩
            · have h := hpk9.sees.take_ ec
              rwa [show (cb px.l).take ec = cb (px.l.take ec) from by simp only [cb, List.map_take]] at h
            · simp only [List.length_take, hpk.len]
              omega
            · have := hpk.cap
              show ec ≤ px.c
              omega
          · rcases List.mem_cons.1 hp with rfl | hp
            · refine ⟨?_, ?_, ?_⟩
              · have h := hARs w9 w9.heap.size (cb px.l) (by rw [cb, List.length_map]; exact hpk.len) hpk9.sees
                rwa [show (cb px.l).drop ec = cb (px.l.drop ec) from by simp only [cb, List.map_drop]] at h
              · simp only [List.length_drop, hpk.len]
              · have := hpk.cap
                show px.m - ec ≤ px.c - ec
                omega
            · exact hPx9.ok p (List.mem_of_mem_drop hp)
      have hm9 : ∀ p ∈ qs, p.m ≤ 100 := by
        subst hqs
        intro p hp
        rcases List.mem_cons.1 hp with rfl | hp
        · show ec ≤ 100
          omega
        · rcases List.mem_cons.1 hp with rfl | hp
          · show px.m - ec ≤ 100
            omega
          · exact HMA.out p (List.mem_of_mem_drop hp)
      have hX0 : X = px :: X.drop 1 := by
        have h := HPX.out
        cases hc : X with
        | nil => rw [hc] at h; simp at h
        | cons y ys => rw [hc] at h; simp at h; subst h; rfl
      have hcut9 : (textF tag (qs.map Pb.l) == textF tag lx) = false := by
        subst hqs
        have e : lx = px.l :: (X.drop 1).map Pb.l := by rw [← HLX.out]; conv => lhs; rw [hX0]
                                                        rfl
        rw [e]
        refine text_cut tag px.l ((X.drop 1).map Pb.l) ec (by rw [List.length_map, List.length_drop, hPc.len]; omega) ?_
        rw [← e]
        exact HLA.out
      obtain ⟨N9, hN9⟩ : ∃ N, (textF tag (qs.map Pb.l)).length = N := ⟨_, rfl⟩
      have HN9 := Lib.hid hN9
      have HC9 := Lib.hid hcut9
      clear hX0 hcut9 hN9 hqs hcells hFt hPw hF9 hg9 hFZ hS1 hPc hF3c
      go_wp2_with fail
      refine (Text_any tag A9 Q9 c9 N9 qs _ hP9 rfl hQ97 hm9 HN9.out).mono ?_
      rintro e w10 ⟨A10, c10, rfl, hF10, hB10⟩
      have hS3b := hS3.step hB10
      have hB910 := Below.then_ hB9 hB10
      clear hS3 hB10 hB9
      go_wp2_with fail
      refine (SameBytes_any A10 A3 c10 c3 N9 N1 _ _ w10 hF10.sees hS3b HN9.out HN1.out).mono ?_
      rintro e w11 ⟨rfl, rfl⟩
      rw [HC9.out]
      go_wp2_with fail
      refine (awake3_any _).mono ?_
      rintro e w12 ⟨rfl, hB12⟩
      go_wp2_with fail
      go_ret
      exact ⟨rfl, Below.then_ (Below.then_ hBc hB910) hB12⟩
end Go.Proofs.Ytpdfalgjmeagjaa
