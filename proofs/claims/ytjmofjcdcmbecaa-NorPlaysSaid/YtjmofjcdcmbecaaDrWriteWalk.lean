/-
  What a drive's Write does to the flash, and answers.
-/
import Derived.Test.YtjmofjcdcmbecaaDrWrite
namespace Go.Proofs.Ytjmofjcdcmbecaa
open Go.RowKit Go.Shelf
set_option linter.unusedVariables false
attribute [local go_sem] Oper.semAt_some

/-- The slots of a round. -/
def writeA (w : World) (d g1 g2 g3 f at_ n c cr : Nat) (A Ar : Option Addr) (c' gx : Nat) : Act := { tmps := #[.pointer (some ⟨d, 0, none⟩), .int .i64 (at_ : Int), .slice A n c, .pointer (some ⟨w.heap.size, 0, none⟩), undef, .pointer (some ⟨w.heap.size + 1, 0, none⟩), .pointer (some ⟨w.heap.size + 1 + 1, 0, none⟩), .slice Ar n cr, .int .i64 0, .pointer (some ⟨gx, 0, none⟩), undef, .tuple #[.slice Ar n cr, .int .i64 0], .pointer (some ⟨d, 0, none⟩), .int .i64 (at_ : Int), .slice A n c, .int .i64 (n : Int), .tuple #[.slice Ar n cr, .int .i64 0], .slice Ar n cr, .int .i64 0, .int .i64 0, .bool false, undef, .slice Ar n cr, .slice A n c, .bool false, .pointer (some ⟨d, 0, none⟩), .int .i64 (at_ : Int), .slice A n c, .int .i64 (n : Int), .func (.func 133) #[] #[.pointer (some ⟨g1, 0, none⟩), .pointer (some ⟨g2, 0, none⟩), .pointer (some ⟨g3, 0, none⟩)], pieceV f at_ n c', undef, undef, undef, undef, undef, undef, undef, undef, undef, undef, undef, undef, undef, undef, undef, undef, undef, undef, undef, undef, undef, undef, undef, undef, undef, undef, undef, undef, undef, undef, undef, undef, undef], defers := [] }
section
variable {w : World} {base d p b f m : Nat} {S : Fl}
set_option maxHeartbeats 4000000 in
set_option maxRecDepth 100000 in
theorem dWrite_go (h : DrAt base w d p b f m S) (hd : S.down = false) (at_ n c : Nat) (A : Option Addr) (l : List UInt32) (hs : Off p b w A (cw l)) (hl : l.length = n) (hc : n ≤ c) (hok : at_ + n ≤ 64 * m) (hset : sets32 (S.at_ f at_ n) l = false) (S' : Fl) (r : Bool) (hr : S.prog (64 * f + at_) l = (S', r)) :
    Calls Try.prog 57 #[.pointer (some ⟨d, 0, none⟩), .int .i64 (at_ : Int), .slice A n c] w fun e w' =>
      e = .returned (.int .i64 (if r then 0 else 40)) ∧ DrAt base w' d p b f m S' ∧ But p b w w' := by
  have hm := h.small
  have HL := Lib.hid hl
  have HR := Lib.hid hr
  have HS := Lib.hid hset
  have hsm : f ≤ 1024 := by omega
  have hat : at_ + n ≤ 65536 := by omega
  have hlS : (S.at_ f at_ n).length = n := h.at_len hok
  have hnn := h.nor.n_le
  have hfit := h.fits
  have HWL := Lib.hid h.nor.len
  obtain ⟨hpw, hbw, -, -⟩ := h.nor.lt
  have hdw : d < w.heap.size := h.obj.lt_size
  have hdp := h.dp
  have hdb := h.db
  clear hl hr hset
  refine (callsIn_wide (n := 6)).1 ?_
  refine callsIn_of_wp_marks Try.func57 rfl trivial ?_ rfl
  simp only [Try.ntmps57, List.size_toArray, List.length_cons, List.length_nil, Nat.reduceAdd, Nat.reduceSub, Array.replicate_succ, Array.replicate_zero, List.push_toArray, List.append_toArray, List.nil_append, List.cons_append]
  refine wpIn_wide.2 ?_
  obtain ⟨e1, e2, e3, e4, hBa⟩ := alloc3 w (Obj.cells #[Value.pointer (some ⟨d, 0, none⟩)] 85) (Obj.cells #[Value.slice A n c] 63) (Obj.cells #[Value.int .i64 0] 60)
  go_wp2_with fail
  revert e1 e2 e3 e4 hBa
  generalize (((w.alloc (Obj.cells #[Value.pointer (some ⟨d, 0, none⟩)] 85)).alloc (Obj.cells #[Value.slice A n c] 63)).alloc (Obj.cells #[Value.int .i64 0] 60)) = w0
  intro k3 k5 k6 z0 hB0
  have hD0 := h.below hB0
  refine (dRead_ok hD0 hd at_ n hok).mono ?_
  rintro e w1 ⟨Ar, cr, rfl, hFr, hB1⟩
  have hD1 := hD0.below hB1
  replace k3 := (hB1.block _ (by omega)).trans k3
  replace k5 := (hB1.block _ (by omega)).trans k5
  replace k6 := (hB1.block _ (by omega)).trans k6
  have hBw1 : Below w.heap.size w w1 := Below.then_ hB0 hB1
  have z1 := hB1.size
  have c3 := cell_of k3
  have c5 := cell_of k5
  have c6 := cell_of k6
  have hn6 : n ≤ 65536 := by omega
  have hs1 := hs.step (But.of_below hBw1)
  go_wp2_with fail
  refine (wouldSet_any Ar A cr c n (S.at_ f at_ n) l w1 hFr.sees hs1.sees hlS HL.out (by omega) false HS.out).mono ?_
  rintro e w2 ⟨rfl, q, rfl⟩
  go_wp2_with fail
  have hB2 := below_drewN' (Below.refl w1.heap.size w1) q
  revert hB2
  generalize w1.drewN q = w2
  intro hB2
  have hD2 := hD1.below hB2
  have hBw2 := Below.then_ hBw1 hB2
  have z2 := hB2.size
  replace k3 := (hB2.block _ (by omega)).trans k3
  replace k5 := (hB2.block _ (by omega)).trans k5
  replace k6 := (hB2.block _ (by omega)).trans k6
  clear c3 c5 c6 hFr hs1 hB0 hB1 hB2 hD0 hD1 hBw1
  refine (pieces_any hD2 at_ n).mono ?_
  rintro e w3 ⟨g1, g2, g3, rfl, hB3, l1, l1', l2, l2', l3, l3', cg1, cg2, cg3⟩
  have hD3 := hD2.below hB3
  have hBw3 := Below.then_ hBw2 hB3
  replace k3 := (hB3.block _ (by omega)).trans k3
  replace k5 := (hB3.block _ (by omega)).trans k5
  replace k6 := (hB3.block _ (by omega)).trans k6
  have z3 := hB3.size
  clear hD2 hBw2 hB3
  obtain ⟨-, -, cd2, -⟩ := hD3.c
  have hRd : Reads g1 g2 g3 d f at_ n w3 := ⟨cg1, cg2, cg3, cd2⟩
  have hFour : ∀ k, Four_ g1 g2 g3 d k → k < w3.heap.size := by
    rintro k (rfl | rfl | rfl | rfl) <;> omega
  have hFp : ∀ k, Four_ g1 g2 g3 d k → k ≠ p := by
    rintro k (rfl | rfl | rfl | rfl) <;> first | omega | exact hdp
  have hFb : ∀ k, Four_ g1 g2 g3 d k → k ≠ b := by
    rintro k (rfl | rfl | rfl | rfl) <;> first | omega | exact hdb
  have hpr : ∀ k, k = p ∨ k = b → ¬ w3.heap.size ≤ k := by
    rintro k (rfl | rfl) <;> omega
  have hI3 : WInv base w w3 d p b n c A 0 S w3 := ⟨hD3.nor, k3, k5, k6, But.of_below hBw3, Nat.le_refl _⟩
  go_wp2_with fail
  refine (wpIn_wide (n := 6)).1 ?_
  refine wpIn_rangeFunc_ownH (α := Pc n) rfl (by omega) (gf := 133) (lb := #[.pointer (some ⟨g1, 0, none⟩), .pointer (some ⟨g2, 0, none⟩), .pointer (some ⟨g3, 0, none⟩)]) rfl trivial (enters_of Try.func133 (by kernel_rfl) rfl)
    (pieces_stops 5 (by omega) g1 g2 g3 d f at_ n hsm hat w3 hRd hFour) (fun h k => h.trans k) (ButB.put hFour) (Below.refl _ _) (fun _ => rfl)
    (fun pre W => ∃ T, WInv base w w3 d p b n c A 0 T W ∧ ∀ t, upto at_ n pre = some t → t ≤ n ∧ S.prog (64 * f + at_) (l.take t) = (T, true))
    (fun code pre W => code = .ret ∧ ∃ T E, WInv base w w3 d p b n c A E T W ∧ ∀ t, upto at_ n pre = some t → E = 40 ∧ S.prog (64 * f + at_) l = (T, false))
    (fun pre W W' row hs hg hr => by obtain ⟨T, hI, hu⟩ := hs; exact ⟨T, hI.grown hg (by omega) hr, hu⟩) (fun code pre W W' row hs hg hr => by obtain ⟨h1, T, E, hI, hu⟩ := hs; exact ⟨h1, T, E, hI.grown hg (by omega) hr, hu⟩) ?start
    (fun x a' W => ∃ gx, w3.heap.size ≤ gx ∧ a' = writeA w d g1 g2 g3 f at_ n c cr A Ar x.1 gx ∧ Fresh w3.heap.size 173 W (some ⟨gx, 0, none⟩) 4 4 (pieceC f at_ n x.1)) ?own ?assign ?body ?done ?stop
  case start => exact ⟨S, hI3, fun t ht => by simp [upto] at ht; subst ht; exact ⟨Nat.zero_le _, rfl⟩⟩
  case own =>
    rintro x a' _ W W' row ⟨gx, hgx, rfl, hF⟩ hg hr
    exact ⟨gx, hgx, rfl, fresh_grown hF hg hr⟩
  case assign =>
    intro l' pre x W K hI hK
    simp only [zip_one]
    refine plain_in (by kernel_rfl) (fun ⟨_, _, q⟩ => q) ?_
    refine wpList_alloc (o := ⟨some 9, _, _, _, _, _⟩) rfl 173 rfl [.int .i64 0, .int .i64 0, .int .i64 0, .int .i64 0] (by kernel_rfl) 4 rfl (by decide) ?_
    intro gx W1 hgx hFx hBx
    refine wpList_store rfl rfl (.tmp 9) (.tmp 30) 173 rfl gx 0 W.heap.size 173 4 _ (pieceC f at_ n x.1) rfl rfl 4 rfl (by kernel_rfl) hFx (by omega) (by intro u hu; simp [pieceC] at hu; rcases hu with rfl | rfl | rfl | rfl <;> rfl) W hBx hgx ?_
    intro W2 hFx2 hBx2 _ _
    obtain ⟨T, hI, hu⟩ := hI
    have hzz := hI.size
    refine hK _ W2 (keeps_of_below hBx2) (.of_below hBx2 (fun k hk => by have := hFour k hk; omega)) ⟨T, hI.below hBx2, hu⟩ ⟨gx, by omega, rfl, hFx2.lower hzz⟩
  case body =>
    rintro l' pre ⟨c', hc'⟩ a' W hl' ⟨r', hr'⟩ ⟨T, hI, hu⟩ ⟨gx, hgx, rfl, hFx⟩ hlt
    obtain ⟨e, he⟩ : ∃ e, pieceEnd at_ n c' = e := ⟨_, rfl⟩
    have hgt := pieceEnd_gt at_ n c' hc'
    have hle := pieceEnd_le at_ n c'
    obtain ⟨s, hs'⟩ : ∃ s, f + (at_ + c') / 64 = s := ⟨_, rfl⟩
    obtain ⟨α, hα⟩ : ∃ α, (at_ + c') % 64 = α := ⟨_, rfl⟩
    have hea : e ≤ c' + 64 - α := by rw [← he, ← hα]; exact Nat.min_le_left _ _
    have hα64 : α < 64 := by omega
    have hs64 : s * 64 + α = 64 * f + at_ + c' := by omega
    have p0 : W.cell? ⟨gx, 0, none⟩ = some (.int .i64 (s : Int)) := by rw [← hs']; exact hFx.cell rfl
    have p1 : W.cell? ⟨gx, 1, none⟩ = some (.int .i64 (α : Int)) := by rw [← hα]; exact hFx.cell rfl
    have p2 : W.cell? ⟨gx, 2, none⟩ = some (.int .i64 (c' : Int)) := hFx.cell rfl
    have p3 : W.cell? ⟨gx, 3, none⟩ = some (.int .i64 (e : Int)) := by rw [← he]; exact hFx.cell rfl
    rw [he] at hgt hle
    have hsn : s < S.n := by omega
    have HE := Lib.hid he
    clear he hs' hα
    have c3 := cell_of hI.k3
    have c5 := cell_of hI.k5
    have c6 := cell_of hI.k6
    have f6 := frozen_of hI.k6 0
    have cd1 : W.cell? ⟨d, 1, none⟩ = some (.pointer (some ⟨p, 0, none⟩)) := (h.obj.but hI.but hdp hdb).cell rfl
    obtain ⟨A', hrun, hsee⟩ := run_between32 A n c c' e (by omega) hle hc
    have hq := fun nq => hrun (W.drewN nq)
    unfold writeA
    gi_wp2
    refine region_qtail_in 14 (by kernel_rfl) (by kernel_rfl) (fun ⟨_, _, q⟩ => q) (by kernel_rfl) ?_
    simp only [List.take_succ_cons, List.take_zero, List.drop_succ_cons, List.drop_zero]
    repeat (go_big_quiet_step (fail))
    refine wpQuiet_nil ?_
    rintro _ ⟨nq, rfl⟩
    have hIq := hI.below (below_drewN' (Below.refl _ _) nq)
    obtain ⟨T', z, hprog⟩ : ∃ T' z, T.program (s : Int) (α : Int) ((l.drop c').take (e - c')) = (T', z) := ⟨_, _, rfl⟩
    have hOff : Off p b (W.drewN nq) A' (cw ((l.drop c').take (e - c'))) := fun w' x => hsee w' _ l HL.out ((hs.step hIq.but) w' x)
    have hplen : ((l.drop c').take (e - c')).length = e - c' := by
      have := HL.out
      simp
      omega
    have hP := Program_off hIq.nor (s : Int) (α : Int) (by omega) (e - c') (c - c') A' _ hOff hplen T' z hprog
    have hnext : ∀ t, upto at_ n (pre ++ [⟨c', hc'⟩]) = some t → t = e ∧ ((z = 0 ∧ S.prog (64 * f + at_) (l.take e) = (T', true)) ∨ (z = 40 ∧ S.prog (64 * f + at_) l = (T', false))) := fun t ht => by
      obtain ⟨hup, rfl⟩ := upto_back ht
      obtain ⟨-, hT⟩ := hu c' hup
      exact ⟨HE.out, piece_step hT hd (by omega) (by rw [HL.out]; exact hle) (by omega) hsn (by omega) hprog⟩
    clear hu hprog hplen
    have hKF : ∀ W', But p b (W.drewN nq) W' → KeepsFrom w3.heap.size W W' ∧ ButB g1 g2 g3 d W W' := fun W' x => by
      have y := (But.of_below (below_drewN' (Below.refl W.heap.size W) nq)).then_ x
      exact ⟨⟨y.size, fun q o hq ho _ => (y.keep q (Array.getElem?_eq_some_iff.1 ho).1 (fun e => hpr q (.inl e) hq) (fun e => hpr q (.inr e) hq)).trans ho⟩, ⟨y.size, fun q hq => y.keep q (by have := hFour q hq; have := hI.size; omega) (hFp q hq) (hFb q hq)⟩⟩
    go_wp2_with fail
    refine hP.mono ?_
    rintro e' W4 ⟨rfl, hN4, hB4⟩
    obtain ⟨hkf, hbb⟩ := hKF W4 hB4
    have hI4 := hIq.turn hpw hbw hN4 hB4
    have c6' := cell_of hI4.k6
    have f6' := frozen_of hI4.k6 0
    clear hP hOff hKF c3 c5 c6 f6
    rcases z with _ | z
    · go_wp2_with fail
      gi_wp2
      refine ⟨hkf, hbb, T', hI4, fun t ht => ?_⟩
      obtain ⟨rfl, h1 | h1⟩ := hnext t ht
      · exact ⟨hle, h1.2⟩
      · exact absurd h1.1 (by omega)
    · have h0 : ¬ (((z + 1 : Nat) : Int) = 0) := by omega
      go_wp2_with fail
      gi_wp2
      exact ⟨hkf.trans ((KeepsOthers.setCell _ _ _).from _), rfl, T', z + 1, hI4.put hpw hbw (z + 1), fun t ht => by
        obtain ⟨rfl, h1 | h1⟩ := hnext t ht
        · exact absurd h1.1 (by omega)
        · exact h1⟩
  case done =>
    rintro D ys W hD hys ⟨T, hI, hu⟩ hK
    obtain ⟨-, hT⟩ := hu n hys
    rw [List.take_of_length_le (by rw [HL.out]; exact Nat.le_refl _), HR.out] at hT
    simp only [Prod.mk.injEq] at hT
    obtain ⟨rfl, rfl⟩ := hT
    obtain ⟨hTd, hTn, hTw⟩ := Fl.prog_keep _ _ _ _ HR.out
    have hDW : DrAt base W d p b f m S' := h.turn hI.but hI.nor hTn
    have hfin : S'.at_ f at_ n = l := by
      have e1 := Fl.prog_words _ _ _ _ HR.out (by rw [HL.out, HWL.out]; omega) (by rw [HL.out]; exact HS.out)
      unfold Fl.at_
      rw [e1, ← HL.out]
      exact splice_at _ _ _ (by rw [HL.out, HWL.out]; omega)
    have c3 := cell_of hI.k3
    have c5 := cell_of hI.k5
    have HF := Lib.hid hfin
    have hTd2 : S'.down = false := hTd.trans hd
    clear hu hfin hTd
    go_wp2_with fail
    refine (words_any hDW hTd2 at_ n hok).mono ?_
    rintro e1 W5 ⟨Aw, cw', rfl, hF5, hB5⟩
    have hI5 := hI.below hB5
    have c3 := cell_of hI5.k3
    have c5 := cell_of hI5.k5
    have hK5 := (hB5.block D (Array.getElem?_eq_some_iff.1 hK).1).trans hK
    have hF5' : Fresh W.heap.size 22 W5 Aw n cw' (cw l) := by
      have := HF.out
      unfold Fl.at_ at this
      rwa [this] at hF5
    have hs5 := (hs.step hI5.but).sees
    go_wp2_with fail
    refine (EqualW_any Aw A cw' c n n l l W5 hF5'.sees hs5 HL.out HL.out (by omega) (by omega) true (by simp)).mono ?_
    rintro e1 W6 ⟨rfl, q6, rfl⟩
    have hI6 := hI5.below (below_drewN' (Below.refl _ _) q6)
    have hK6 : (W5.drewN q6).heap[D]? = some (.deferred (some [])) := ((below_drewN' (Below.refl W5.heap.size W5) q6).block D (Array.getElem?_eq_some_iff.1 hK5).1).trans hK5
    revert hI6 hK6
    generalize W5.drewN q6 = W6
    intro hI6 hK6
    have c6 := cell_of hI6.k6
    have f6 := frozen_of hI6.k6 0
    go_wp2_with fail
    have hI7 := hI6.put hpw hbw 0
    have hD6 : D < W6.heap.size := (Array.getElem?_eq_some_iff.1 hK6).1
    have hK7 := (setCell_ne W6 (w.heap.size + 1 + 1) 0 D (.int .i64 ((0 : Nat) : Int)) (by omega)).trans hK6
    have hI' := hI7.grown (grownBy_putObj' _ D (.deferred none)) (show w.heap.size ≤ w3.heap.size by omega) (fun r e => by cases e; exact ⟨hD, _, hK7, rfl⟩)
    refine ⟨by simp, .inl ⟨_, _, rfl, run_takeDeferred hK7, ?_⟩⟩
    exact ⟨_, results_cell1 rfl rfl (by kernel_rfl) (cell_of hI'.k6), rfl, h.turn hI'.but hI'.nor hTn, hI'.but⟩
  case stop =>
    rintro D code pre W hD ⟨t, ht⟩ ⟨rfl, T, E, hI, hu⟩ hK
    obtain ⟨rfl, hT⟩ := hu t ht
    rw [HR.out] at hT
    simp only [Prod.mk.injEq] at hT
    obtain ⟨rfl, rfl⟩ := hT
    have hTn : S'.n = S.n := by have := Fl.prog_nn l S (64 * f + at_); rw [HR.out] at this; exact this
    have hDW : DrAt base W d p b f m S' := h.turn hI.but hI.nor hTn
    have hI' := hI.grown (grownBy_putObj' W D (.deferred none)) (show w.heap.size ≤ w3.heap.size by omega) (fun r e => by cases e; exact ⟨hD, _, hK, rfl⟩)
    gi_wp2
    refine ⟨by simp, .inl ⟨_, _, rfl, run_takeDeferred hK, ?_⟩⟩
    exact ⟨_, results_cell1 rfl rfl (by kernel_rfl) (cell_of hI'.k6), rfl, h.turn hI'.but hI'.nor hTn, hI'.but⟩
end
end Go.Proofs.Ytjmofjcdcmbecaa
