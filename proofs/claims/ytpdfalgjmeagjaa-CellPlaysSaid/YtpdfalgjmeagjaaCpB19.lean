/-
  CellPlays returns true for every input, and writes nothing that was there: the walk.
-/
import Derived.Test.YtpdfalgjmeagjaaCpB16
import Derived.Test.YtpdfalgjmeagjaaCpB17
import Derived.Test.YtpdfalgjmeagjaaCpB18
import Derived.Deep.CutBlock
namespace Go.Proofs.Ytpdfalgjmeagjaa
open Go.RowKit
set_option linter.unusedVariables false
theorem Fl.crash_up7 (S : Fl) (ks : List Bool) : (S.crash ks).down = false := by
  unfold Fl.crash
  split <;> rfl
theorem rewrite_down7 {S T : Fl} {s a : Int} {l : List UInt32} {r : Nat} (h : S.rewrite s a l = (T, r)) : T.down = S.down := by
  unfold Fl.rewrite at h
  split at h <;> (simp only [Prod.mk.injEq] at h; rw [← h.1])
theorem derase_three {S T : Fl} {f r : Nat} {s : Int} (h : S.derase f 2 s = (T, r)) : r ≠ 3 := by
  unfold Fl.derase at h
  split at h
  · simp at h; omega
  · unfold Fl.erase at h
    split at h
    · simp at h; omega
    · simp at h; omega
    · split at h <;> (simp at h; omega)
theorem dwrite_three {S T : Fl} {f r : Nat} {a : Int} {l : List UInt32} (h : S.dwrite f 2 a l = (T, r)) : r ≠ 3 := by
  unfold Fl.dwrite at h
  split at h
  · simp at h; omega
  · simp at h; omega
  · split at h
    · simp at h; omega
    · split at h <;> (simp at h; omega)
theorem dwrite_two7 {S T : Fl} {f r : Nat} {a : Int} {l : List UInt32} (hok : S.Ok) (hd : S.down = false) (h : S.dwrite f 2 a l = (T, r)) : T.n = S.n ∧ T.Ok ∧ (r = 0 → T.down = false) ∧ r ≠ 3 ∧ r ≠ 5 := by
  have hw := hok.same (Fl.dwrite_half S f 2 a l).1 (Fl.dwrite_half S f 2 a l).2
  rw [h] at hw
  exact ⟨hw.1, hw.2, fun e => by subst e; exact dwrite_up6 h hd, dwrite_three h, dwrite_five h⟩
theorem cwrite_two {S T : Fl} {f σ t r : Nat} {b : List UInt8} (hok : S.Ok) (hd : S.down = false) (h : S.cwrite f σ t b = (T, r)) : T.n = S.n ∧ T.Ok ∧ (r = 0 → T.down = false) ∧ r ≠ 3 ∧ r ≠ 5 := by
  unfold Fl.cwrite at h
  have he := Fl.derase_ok S f 2 (σ : Int) hok
  split at h
  · rename_i T1 e h1
    rw [h1] at he
    replace he : T1.n = S.n ∧ T1.Ok := he
    simp only [Prod.mk.injEq] at h
    obtain ⟨rfl, rfl⟩ := h
    exact ⟨he.1, he.2, fun e => by omega, derase_three h1, derase_five h1⟩
  · rename_i T1 h1
    rw [h1] at he
    replace he : T1.n = S.n ∧ T1.Ok := he
    have d1 := derase_up h1 hd
    split at h
    · rename_i U e h2
      simp only [Prod.mk.injEq] at h
      obtain ⟨rfl, rfl⟩ := h
      obtain ⟨a1, a2, a3, a4, a5⟩ := dwrite_two7 he.2 d1 h2
      exact ⟨a1.trans he.1, a2, fun e => by omega, a4, a5⟩
    · rename_i U h2
      obtain ⟨a1, a2, a3, a4, a5⟩ := dwrite_two7 he.2 d1 h2
      obtain ⟨c1, c2, c3, c4, c5⟩ := dwrite_two7 a2 (a3 rfl) h
      exact ⟨c1.trans (a1.trans he.1), c2, c3, c4, c5⟩
/-- A Put of both. -/
theorem cput_two {S : Fl} {f : Nat} {x : Co} {b : List UInt8} (hok : S.Ok) (hd : S.down = false) {T : Fl} {r : Nat} {x' : Co} {over' : Bool} (h : S.cput f x false b = (T, r, x', over')) : S.rcput f b = (T, r) ∧ T.n = S.n ∧ T.Ok ∧ (T.down = true → over' = true) ∧ over' = (!decide (r = 0) && !decide (r = 3) && !decide (r = 5)) := by
  unfold Fl.cput at h
  simp only at h
  unfold Fl.rcput
  split at h
  · rename_i hl
    simp only [Prod.mk.injEq] at h
    obtain ⟨rfl, rfl, -, rfl⟩ := h
    exact ⟨by rw [if_pos hl], rfl, hok, fun e => (by rw [hd] at e; cases e), rfl⟩
  · rename_i hl
    rw [if_neg hl]
    rw [hd] at h
    simp only at h
    split at h
    · rename_i hf
      simp only [Prod.mk.injEq] at h
      obtain ⟨rfl, rfl, -, rfl⟩ := h
      exact ⟨by rw [if_pos hf], rfl, hok, fun e => (by rw [hd] at e; cases e), rfl⟩
    · rename_i hf
      rw [if_neg hf]
      split at h
      · rename_i T' hw
        simp only [Prod.mk.injEq] at h
        obtain ⟨rfl, rfl, -, rfl⟩ := h
        obtain ⟨a1, a2, a3, a4, a5⟩ := cwrite_two hok hd hw
        exact ⟨hw, a1, a2, fun e => (by rw [a3 rfl] at e; cases e), rfl⟩
      · rename_i T' e hw
        simp only [Prod.mk.injEq] at h
        obtain ⟨rfl, rfl, -, rfl⟩ := h
        obtain ⟨a1, a2, a3, a4, a5⟩ := cwrite_two hok hd hw
        exact ⟨hw, a1, a2, fun _ => rfl, by simp; omega⟩
/-- A cell beside the document's own flash and drive. -/
structure CB (W w : World) (p b g gb c d gv t : Nat) (x : Co) (over : Bool) (S : Fl) : Prop where
  bd : BesideD W w p b g gb c d gv 1 2 S
  ce : CeAt W.heap.size w t d p b 1 S x over
  tg : t ≠ g
  tb : t ≠ gb
  tv : t ≠ gv
  ok : S.Ok
  dn : S.down = true → over = true
section
variable {W w w1 w2 w3 : World} {p b g gb c c3 d gv t : Nat} {x x2 : Co} {over over2 : Bool} {S T : Fl}
theorem CB.step (h : CB W w p b g gb c d gv t x over S) (y : Below w.heap.size w w1) : CB W w1 p b g gb c d gv t x over S := ⟨h.bd.step y, h.ce.below y, h.tg, h.tb, h.tv, h.ok, h.dn⟩
theorem CB.then3 (h : CB W w p b g gb c d gv t x over S) (z : But3 t p b w w1) (hTy : CeAt W.heap.size w1 t d p b 1 T x2 over2) (hn : T.n = S.n) {B : Option Addr} (hT : RnTo w1 w2 (some ⟨gb, 0, none⟩) B c c3 S T) (y : Below w1.heap.size w1 w2)
    (hF : Fresh W.heap.size 105 w3 (some ⟨g, 0, none⟩) 5 5 (T.rL B c3)) (ho : ∀ k, k ≠ g → w3.heap[k]? = w2.heap[k]?) (hB : Below W.heap.size W w3) (hok : T.Ok) (hdn : T.down = true → over2 = true) : ∃ gb2, B = some ⟨gb2, 0, none⟩ ∧ CB W w3 p b g gb2 c3 d gv t x2 over2 T := by
  obtain ⟨hBx1, -, -, hBel1⟩ := h.bd.half3 z h.tg h.tb h.tv h.ce.lt.2
  obtain ⟨gb2, rfl, h1, h2⟩ := h.bd.then3 z h.tg h.tb h.tv h.ce.lt.2 hTy.dr hn hT y hF ho hB
  have l1 := h.ce.lt.1
  have l2 := hTy.lt.1
  have hz := z.size
  have hBx2 := hBx1.below y
  have hB2 := Below.then_ hBel1 y
  have hsz : w2.heap.size ≤ w3.heap.size := by
    have hg3 := hF.lt_size
    rcases Nat.eq_zero_or_pos w2.heap.size with e | e
    · omega
    · by_cases hk : w2.heap.size - 1 = g
      · omega
      · have := ho (w2.heap.size - 1) hk
        rw [Array.getElem?_eq_getElem (show w2.heap.size - 1 < w2.heap.size by omega)] at this
        have := (Array.getElem?_eq_some_iff.1 this).1
        omega
  have hbt : But g g w2 w3 := ⟨hB.os.trans hB2.os.symm, hB.tape.trans hB2.tape.symm, hB.output.trans hB2.output.symm, hsz, fun k _ hk _ => ho k hk⟩
  refine ⟨gb2, rfl, h1, (hTy.below y).other hbt (Ne.symm h.bd.bs.hp) (Ne.symm h.bd.bs.hb) h.bd.dg h.tg hBx2 (by decide), h.tg, ?_, h.tv, hok, hdn⟩
  rcases h2 with e | e
  · rw [e]
    exact h.tb
  · omega
theorem CB.only3 (h : CB W w p b g gb c d gv t x over S) (z : But3 t p b w w1) (hTy : CeAt W.heap.size w1 t d p b 1 S x2 over2) (ho : over2 = over) : CB W w1 p b g gb c d gv t x2 over2 S := by
  obtain ⟨h1, h2, h3, h4⟩ := h.bd.half3 z h.tg h.tb h.tv h.ce.lt.2
  have hb := h.bd.bs
  obtain ⟨l1, l2, l3, _⟩ := h.bd.lts
  exact ⟨⟨⟨hTy.dr.nor, h1, hb.row.b3 z (Ne.symm h.tb) hb.gp hb.gbb l1, hb.cap, hb.n1, hb.gp, hb.gbb, hb.gg, hb.hp, hb.hb, h4⟩, hTy.dr.obj, h3, h.bd.fits, h.bd.some_, h.bd.dg, h.bd.vg, h.bd.vp, h.bd.vb⟩, hTy, h.tg, h.tb, h.tv, h.ok, by rw [ho]; exact h.dn⟩
theorem CB.fresh {u2 : Nat} (h : CB W w p b g gb c d gv t x over S) (y : Below w.heap.size w w1) (hTy : CeAt W.heap.size w1 u2 d p b 1 S x2 false) (hu : w.heap.size ≤ u2) (hd : S.down = false) : CB W w1 p b g gb c d gv u2 x2 false S := by
  obtain ⟨l1, l2, l3, _⟩ := h.bd.lts
  exact ⟨h.bd.step y, hTy, by omega, by omega, by omega, h.ok, fun e => by rw [hd] at e; cases e⟩
theorem NorAt.left_lt7 {base : Nat} (h : NorAt base w p b S) : S.left < 9223372036854775808 := by
  have := h.left_le
  omega
end
set_option maxHeartbeats 40000000 in
set_option maxRecDepth 100000 in
theorem cplays_walk (W : World) (A : Option Addr) (N c : Nat) (l : List Ob) (hl : l.length = N) (hS : Sees W W.heap.size A (obs l)) (hO : ∀ o ∈ l, o.Ok W.heap.size W) :
    Calls Try.prog 11 #[.slice A N c] W fun e w' => e = .returned (.bool true) ∧ Below W.heap.size W w' := by
  have HL := Lib.hid hl
  have HO := Lib.hid hO
  clear hl hO
  have HNW : ∀ w, Calls Try.prog 56 #[.int .i64 3, .int .i64 0] w fun e w' => ∃ B c2, e = .returned (.tuple #[.agg ((Fl.made 3 0).rL B c2).toArray, .int .i64 0]) ∧ RnAt w' B c2 (Fl.made 3 0) ∧ Fresh w.heap.size 22 w' B (64 * 3) c2 (cw (Fl.made 3 0).ws) ∧ Below w.heap.size w w' := fun w => rNew_yes 3 0 (by decide) (by decide) (by decide) (by decide)
  have hok0 : (Fl.made 3 0).Ok := .inl rfl
  have hdn0 : (Fl.made 3 0).down = false := rfl
  have hn0 : (Fl.made 3 0).n = 3 := rfl
  have w00 : IntKind.i64.wrap 0 = 0 := by decide
  go_enter Try.func11, Try.ntmps11
  go_wp2_with fail
  refine (made7_any W).mono ?_
  rintro e w1 ⟨p, b, d, t, rfl, hT1, hB1⟩
  generalize Fl.made 3 0 = S0 at *
  have z1 := hB1.size
  obtain ⟨lp, lb, lp2, lb2⟩ := hT1.dr.nor.lt
  have ld := hT1.dr.obj.lt_size
  have lt1 := hT1.lt
  have ld2 := hT1.dr.obj.block.2
  go_wp2_with fail
  refine (HNW _).mono ?_
  rintro e w2 ⟨B0, c0, rfl, hRn, hRow, hB2⟩
  obtain ⟨gb0, rfl, q1, q2⟩ := hRow.spot_ (by omega)
  have z2 := hB2.size
  have HOp : ∀ w', Below w2.heap.size w2 w' → Calls Try.prog 57 #[.agg (S0.rL (some ⟨gb0, 0, none⟩) c0).toArray, .int .i64 1, .int .i64 2] w' fun e w'' => e = .returned (.tuple #[.agg (rdL 1 2).toArray, .int .i64 0]) ∧ Below w'.heap.size w' w'' := fun w' x => rdOpen_yes (hRn.step x) 1 2 (by omega) (by decide)
  go_wp2_with (first
    | ((with_reducible refine wpList_alloc (o := ⟨some 7, _, _, _, _, _⟩) rfl 105 rfl (rnL none 0 0 0 0 false 0) (by kernel_rfl) 5 rfl (by decide) ?_); intro g w3 hg hF hB3; have z3 := hB3.size)
    | ((with_reducible refine wpList_store rfl rfl (.tmp 7) (.tmp 31) 105 rfl g 0 _ 105 5 (rnL none 0 0 0 0 false 0) (S0.rL (some ⟨gb0, 0, none⟩) c0) rfl rfl 5 rfl (by kernel_rfl) hF (by omega) (allOne_out (by kernel_rfl)) W (Below.then_ (Below.then_ hB1 hB2) hB3) (by omega) ?_); intro w4 hF4 hB4 ho4 hz4)
    | (with_reducible refine wpList_load (o := ⟨some 34, _, _, _, _, _⟩) rfl (.tmp 7) 105 rfl g 0 _ rfl (S0.rL (some ⟨gb0, 0, none⟩) c0) 5 rfl (by kernel_rfl) hF4.sees ?_))
  have z4 := hB4.size
  have hB24 : Below w2.heap.size w2 w4 := below_of (Below.then_ hB1 hB2) hB4 (by omega) fun k hk => (ho4 k (by omega)).trans (hB3.block k hk)
  have hk14 : ∀ k, k < w1.heap.size → w4.heap[k]? = w1.heap[k]? := fun k hk => (hB24.block k (by omega)).trans (hB2.block k hk)
  have hBx4 : Fresh W.heap.size 105 w4 (some ⟨g, 0, none⟩) 5 5 (S0.rL (some ⟨gb0, 0, none⟩) c0) := Fresh.lower hF4 (by omega)
  have hRow4 : Fresh W.heap.size 22 w4 (some ⟨gb0, 0, none⟩) (64 * S0.n) c0 (cw S0.ws) := by
    rw [hn0]
    exact (hRow.below hB24).lower (by omega)
  have hCe4 := (hT1.below hB2).below hB24
  have hN4 := hCe4.dr.nor
  have hJ4 : Beside W w4 p b g gb0 c0 S0 := ⟨hN4, hBx4, hRow4, by have := hRn.cap; omega, by omega, by omega, by omega, by omega, by omega, by omega, hB4⟩
  have z24 := hB24.size
  have lg4 : g < w4.heap.size := hBx4.lt_size
  refine (HOp _ hB24).mono ?_
  rintro e w6 ⟨rfl, hB6⟩
  have z6 := hB6.size
  have hJ6 := hJ4.step hB6
  have hCe6 := hCe4.below hB6
  clear hF hF4 hRow hRn hB3 hB2 ho4 hz4 hT1 HNW HOp hB24
  go_wp2_with (first
    | ((with_reducible refine wpList_alloc (o := ⟨some 9, _, _, _, _, _⟩) rfl 109 rfl (rdL 0 0) (by kernel_rfl) 2 rfl (by decide) ?_); intro gv w7 hgv hFv hB7; have z7 := hB7.size)
    | ((with_reducible refine wpList_store rfl rfl (.tmp 9) (.tmp 36) 109 rfl gv 0 _ 109 2 (rdL 0 0) (rdL 1 2) rfl rfl 2 rfl (by kernel_rfl) hFv (by omega) (allOne_out (by kernel_rfl)) W (Below.then_ hJ6.below hB7) (by omega) ?_); intro w8 hF8 hB8 ho8 hz8))
  have hF8' : Fresh w6.heap.size 109 w8 (some ⟨gv, 0, none⟩) 2 2 (rdL 1 2) := hF8
  have hB68 : Below w6.heap.size w6 w8 := below_of hJ6.below hB8 (by omega) fun k hk => (ho8 k (by omega)).trans (hB7.block k hk)
  have hJ8 : BesideD W w8 p b g gb0 c0 d gv 1 2 S0 := ⟨hJ6.step hB68, (hCe6.below hB68).dr.obj, hF8'.lower (by omega), by omega, by omega, by omega, by omega, by omega, by omega⟩
  have hT8 : CB W w8 p b g gb0 c0 d gv t ⟨-1, 0, []⟩ false S0 := ⟨hJ8, hCe6.below hB68, by omega, by omega, by omega, hok0, fun e => by rw [hdn0] at e; cases e⟩
  clear hJ4 hJ6 hJ8 hCe4 hCe6 hBx4 hRow4 hN4 hF8 hF8' hFv hB7 hB8 hB68 hB6 ho8 hz8 hB4 hB1 hk14 z1 z2 z3 z4 z24 lg4 z6 z7 q1 q2 hg hgv lp lb lp2 lb2 ld ld2 lt1
  go_wp2_with fail
  go_loopw [5, 11, 12] (fun vt vo iv wr => ∃ (k t gb c2 : Nat) (last : Co) (over : Bool) (S : Fl), k ≤ N ∧ k ≤ 40 ∧ vt = .pointer (some ⟨t, 0, none⟩) ∧ vo = .bool over ∧ iv = .int .i64 (k : Int) ∧ CB W wr p b g gb c2 d gv t last over S) (fun _ _ iv _ => 41 - (intOf iv).toNat)
  case atStart => exact ⟨0, t, gb0, c0, ⟨-1, 0, []⟩, false, S0, by omega, by omega, rfl, rfl, rfl, hT8⟩
  case round =>
    clear hT8 hok0 hdn0 hn0
    obtain ⟨k, t, gb, c2, last, over, S, hk, hk2, rfl, rfl, rfl, hT⟩ := hrel
    by_cases hlt : k < N
    · by_cases hlt2 : k < 40
      · obtain ⟨u, o, rfl, hu, x, HX, hx⟩ := (hS.below hT.bd.bs.below).opb HL.out hlt
        have hxo := (HO.out x (List.mem_of_getElem? HX.out)).below hT.bd.bs.below
        have HX1 := hxo.sees
        have HX2 := Lib.hid hxo.len
        have HX3 := hxo.sees2
        have HX4 := Lib.hid hxo.len2
        have HX5 := Lib.hid hxo.hs
        have HX6 := Lib.hid hxo.ha
        have HX7 := Lib.hid hxo.cap
        have HX8 := hxo.sees3
        have hl8 := hxo.len3
        obtain ⟨k', s', a', E', v', f', bs', A', m', d', l', B', q', e', ks'⟩ := x
        simp only at HX1 HX2 HX3 HX4 HX5 HX6 HX7 HX8 hl8
        subst hl8
        clear HX hxo
        have hW0 := hT.bd.bs.below.size
        by_cases hq1 : 100 < q'
        · as_aux_lemma =>
            go_wp2_with (first | (with_reducible refine wpList_load (o := ⟨some 59, _, _, _, _, _⟩) rfl (.tmp 58) 113 rfl u (o + k * 6) W.heap.size rfl (Ob.cells ⟨k', s', a', E', bs'.length, f', bs', A', m', d', l', B', q', e', ks'⟩) 6 rfl (by kernel_rfl) hx ?_) | ((with_reducible refine wpList_alloc (o := ⟨some 13, _, _, _, _, _⟩) rfl 113 rfl (Ob.cells ⟨0, 0, 0, none, 0, 0, [], none, 0, 0, [], none, 0, 0, []⟩) (by kernel_rfl) 6 rfl (by decide) ?_); intro gx w3 hgx hFx hB3) | ((with_reducible refine wpList_store rfl rfl (.tmp 13) (.tmp 59) 113 rfl gx 0 _ 113 6 _ (Ob.cells ⟨k', s', a', E', bs'.length, f', bs', A', m', d', l', B', q', e', ks'⟩) rfl rfl 6 rfl (by kernel_rfl) hFx (by omega) (allOne_out (by kernel_rfl)) wr hB3 hgx ?_); intro w4 hF4 hB4 ho4 hz4; have hX4 : Fresh wr.heap.size 113 w4 (some ⟨gx, 0, none⟩) 6 6 (Ob.cells ⟨k', s', a', E', bs'.length, f', bs', A', m', d', l', B', q', e', ks'⟩) := hF4; have f0_ : w4.cell? ⟨gx, 0, none⟩ = some (.int .i64 k') := hX4.cell (j := 0) rfl; have f1_ : w4.cell? ⟨gx, 1, none⟩ = some (.int .i64 s') := hX4.cell (j := 1) rfl; have f2_ : w4.cell? ⟨gx, 2, none⟩ = some (.int .i64 a') := hX4.cell (j := 2) rfl; have f3_ : w4.cell? ⟨gx, 3, none⟩ = some (.slice E' bs'.length f') := hX4.cell (j := 3) rfl; have f4_ : w4.cell? ⟨gx, 4, none⟩ = some (.slice A' m' d') := hX4.cell (j := 4) rfl; have f5_ : w4.cell? ⟨gx, 5, none⟩ = some (.slice B' q' e') := hX4.cell (j := 5) rfl))
            have hT4 := hT.step hB4
            have hX4' := hX4.lower (base' := W.heap.size) hW0
            have HX14 := HX1.below (hB4.mono hW0)
            have HX34 := HX3.below (hB4.mono hW0)
            have HX54 := HX8.below (hB4.mono hW0)
            have hW4 := hT4.bd.bs.below.size
            obtain ⟨ngt, ngp, ngb, ngg⟩ : gx ≠ t ∧ gx ≠ p ∧ gx ≠ b ∧ gx ≠ g := by
              obtain ⟨lp4, lb4, lp5, lb5⟩ := hT.bd.bs.nor.lt
              have lg4 := hT.bd.bs.box.lt_size
              have lt4 := hT.ce.lt.1
              refine ⟨by omega, by omega, by omega, by omega⟩
            clear hF4 hFx hB3 ho4 hz4
            go_wp2_with fail
            go_roundw
            case rel => exact ⟨k + 1, t, gb, c2, last, over, S, by omega, by omega, rfl, rfl, by go_num, hT4⟩
            case measure => simp [intOf]; omega

        by_cases hm7 : 70 < m'
        · as_aux_lemma =>
            go_wp2_with (first | (with_reducible refine wpList_load (o := ⟨some 59, _, _, _, _, _⟩) rfl (.tmp 58) 113 rfl u (o + k * 6) W.heap.size rfl (Ob.cells ⟨k', s', a', E', bs'.length, f', bs', A', m', d', l', B', q', e', ks'⟩) 6 rfl (by kernel_rfl) hx ?_) | ((with_reducible refine wpList_alloc (o := ⟨some 13, _, _, _, _, _⟩) rfl 113 rfl (Ob.cells ⟨0, 0, 0, none, 0, 0, [], none, 0, 0, [], none, 0, 0, []⟩) (by kernel_rfl) 6 rfl (by decide) ?_); intro gx w3 hgx hFx hB3) | ((with_reducible refine wpList_store rfl rfl (.tmp 13) (.tmp 59) 113 rfl gx 0 _ 113 6 _ (Ob.cells ⟨k', s', a', E', bs'.length, f', bs', A', m', d', l', B', q', e', ks'⟩) rfl rfl 6 rfl (by kernel_rfl) hFx (by omega) (allOne_out (by kernel_rfl)) wr hB3 hgx ?_); intro w4 hF4 hB4 ho4 hz4; have hX4 : Fresh wr.heap.size 113 w4 (some ⟨gx, 0, none⟩) 6 6 (Ob.cells ⟨k', s', a', E', bs'.length, f', bs', A', m', d', l', B', q', e', ks'⟩) := hF4; have f0_ : w4.cell? ⟨gx, 0, none⟩ = some (.int .i64 k') := hX4.cell (j := 0) rfl; have f1_ : w4.cell? ⟨gx, 1, none⟩ = some (.int .i64 s') := hX4.cell (j := 1) rfl; have f2_ : w4.cell? ⟨gx, 2, none⟩ = some (.int .i64 a') := hX4.cell (j := 2) rfl; have f3_ : w4.cell? ⟨gx, 3, none⟩ = some (.slice E' bs'.length f') := hX4.cell (j := 3) rfl; have f4_ : w4.cell? ⟨gx, 4, none⟩ = some (.slice A' m' d') := hX4.cell (j := 4) rfl; have f5_ : w4.cell? ⟨gx, 5, none⟩ = some (.slice B' q' e') := hX4.cell (j := 5) rfl))
            have hT4 := hT.step hB4
            have hX4' := hX4.lower (base' := W.heap.size) hW0
            have HX14 := HX1.below (hB4.mono hW0)
            have HX34 := HX3.below (hB4.mono hW0)
            have HX54 := HX8.below (hB4.mono hW0)
            have hW4 := hT4.bd.bs.below.size
            obtain ⟨ngt, ngp, ngb, ngg⟩ : gx ≠ t ∧ gx ≠ p ∧ gx ≠ b ∧ gx ≠ g := by
              obtain ⟨lp4, lb4, lp5, lb5⟩ := hT.bd.bs.nor.lt
              have lg4 := hT.bd.bs.box.lt_size
              have lt4 := hT.ce.lt.1
              refine ⟨by omega, by omega, by omega, by omega⟩
            clear hF4 hFx hB3 ho4 hz4
            go_wp2_with fail
            go_roundw
            case rel => exact ⟨k + 1, t, gb, c2, last, over, S, by omega, by omega, rfl, rfl, by go_num, hT4⟩
            case measure => simp [intOf]; omega

        by_cases hv7 : 300 < bs'.length
        · as_aux_lemma =>
            go_wp2_with (first | (with_reducible refine wpList_load (o := ⟨some 59, _, _, _, _, _⟩) rfl (.tmp 58) 113 rfl u (o + k * 6) W.heap.size rfl (Ob.cells ⟨k', s', a', E', bs'.length, f', bs', A', m', d', l', B', q', e', ks'⟩) 6 rfl (by kernel_rfl) hx ?_) | ((with_reducible refine wpList_alloc (o := ⟨some 13, _, _, _, _, _⟩) rfl 113 rfl (Ob.cells ⟨0, 0, 0, none, 0, 0, [], none, 0, 0, [], none, 0, 0, []⟩) (by kernel_rfl) 6 rfl (by decide) ?_); intro gx w3 hgx hFx hB3) | ((with_reducible refine wpList_store rfl rfl (.tmp 13) (.tmp 59) 113 rfl gx 0 _ 113 6 _ (Ob.cells ⟨k', s', a', E', bs'.length, f', bs', A', m', d', l', B', q', e', ks'⟩) rfl rfl 6 rfl (by kernel_rfl) hFx (by omega) (allOne_out (by kernel_rfl)) wr hB3 hgx ?_); intro w4 hF4 hB4 ho4 hz4; have hX4 : Fresh wr.heap.size 113 w4 (some ⟨gx, 0, none⟩) 6 6 (Ob.cells ⟨k', s', a', E', bs'.length, f', bs', A', m', d', l', B', q', e', ks'⟩) := hF4; have f0_ : w4.cell? ⟨gx, 0, none⟩ = some (.int .i64 k') := hX4.cell (j := 0) rfl; have f1_ : w4.cell? ⟨gx, 1, none⟩ = some (.int .i64 s') := hX4.cell (j := 1) rfl; have f2_ : w4.cell? ⟨gx, 2, none⟩ = some (.int .i64 a') := hX4.cell (j := 2) rfl; have f3_ : w4.cell? ⟨gx, 3, none⟩ = some (.slice E' bs'.length f') := hX4.cell (j := 3) rfl; have f4_ : w4.cell? ⟨gx, 4, none⟩ = some (.slice A' m' d') := hX4.cell (j := 4) rfl; have f5_ : w4.cell? ⟨gx, 5, none⟩ = some (.slice B' q' e') := hX4.cell (j := 5) rfl))
            have hT4 := hT.step hB4
            have hX4' := hX4.lower (base' := W.heap.size) hW0
            have HX14 := HX1.below (hB4.mono hW0)
            have HX34 := HX3.below (hB4.mono hW0)
            have HX54 := HX8.below (hB4.mono hW0)
            have hW4 := hT4.bd.bs.below.size
            obtain ⟨ngt, ngp, ngb, ngg⟩ : gx ≠ t ∧ gx ≠ p ∧ gx ≠ b ∧ gx ≠ g := by
              obtain ⟨lp4, lb4, lp5, lb5⟩ := hT.bd.bs.nor.lt
              have lg4 := hT.bd.bs.box.lt_size
              have lt4 := hT.ce.lt.1
              refine ⟨by omega, by omega, by omega, by omega⟩
            clear hF4 hFx hB3 ho4 hz4
            go_wp2_with fail
            go_roundw
            case rel => exact ⟨k + 1, t, gb, c2, last, over, S, by omega, by omega, rfl, rfl, by go_num, hT4⟩
            case measure => simp [intOf]; omega

        go_upto_block 2 with (first | (with_reducible refine wpList_load (o := ⟨some 59, _, _, _, _, _⟩) rfl (.tmp 58) 113 rfl u (o + k * 6) W.heap.size rfl (Ob.cells ⟨k', s', a', E', bs'.length, f', bs', A', m', d', l', B', q', e', ks'⟩) 6 rfl (by kernel_rfl) hx ?_) | ((with_reducible refine wpList_alloc (o := ⟨some 13, _, _, _, _, _⟩) rfl 113 rfl (Ob.cells ⟨0, 0, 0, none, 0, 0, [], none, 0, 0, [], none, 0, 0, []⟩) (by kernel_rfl) 6 rfl (by decide) ?_); intro gx w3 hgx hFx hB3) | ((with_reducible refine wpList_store rfl rfl (.tmp 13) (.tmp 59) 113 rfl gx 0 _ 113 6 _ (Ob.cells ⟨k', s', a', E', bs'.length, f', bs', A', m', d', l', B', q', e', ks'⟩) rfl rfl 6 rfl (by kernel_rfl) hFx (by omega) (allOne_out (by kernel_rfl)) wr hB3 hgx ?_); intro w4 hF4 hB4 ho4 hz4; have hX4 : Fresh wr.heap.size 113 w4 (some ⟨gx, 0, none⟩) 6 6 (Ob.cells ⟨k', s', a', E', bs'.length, f', bs', A', m', d', l', B', q', e', ks'⟩) := hF4; have f0_ : w4.cell? ⟨gx, 0, none⟩ = some (.int .i64 k') := hX4.cell (j := 0) rfl; have f1_ : w4.cell? ⟨gx, 1, none⟩ = some (.int .i64 s') := hX4.cell (j := 1) rfl; have f2_ : w4.cell? ⟨gx, 2, none⟩ = some (.int .i64 a') := hX4.cell (j := 2) rfl; have f3_ : w4.cell? ⟨gx, 3, none⟩ = some (.slice E' bs'.length f') := hX4.cell (j := 3) rfl; have f4_ : w4.cell? ⟨gx, 4, none⟩ = some (.slice A' m' d') := hX4.cell (j := 4) rfl; have f5_ : w4.cell? ⟨gx, 5, none⟩ = some (.slice B' q' e') := hX4.cell (j := 5) rfl))
        have hT4 := hT.step hB4
        have hX4' := hX4.lower (base' := W.heap.size) hW0
        have HX14 := HX1.below (hB4.mono hW0)
        have HX34 := HX3.below (hB4.mono hW0)
        have HX54 := HX8.below (hB4.mono hW0)
        have hW4 := hT4.bd.bs.below.size
        obtain ⟨ngt, ngp, ngb, ngg⟩ : gx ≠ t ∧ gx ≠ p ∧ gx ≠ b ∧ gx ≠ g := by
          obtain ⟨lp4, lb4, lp5, lb5⟩ := hT.bd.bs.nor.lt
          have lg4 := hT.bd.bs.box.lt_size
          have lt4 := hT.ce.lt.1
          refine ⟨by omega, by omega, by omega, by omega⟩
        clear hF4 hFx hB3 ho4 hz4
        go_cut [5, 11, 14, 15, 16, 17] from 76 to 171 (fun vt vo vx vy _ _ wx => ∃ (t7 gb7 c7 : Nat) (last7 : Co) (over7 : Bool) (T : Fl) (z : Int), vt = .pointer (some ⟨t7, 0, none⟩) ∧ vo = .bool over7 ∧ vx = .int .i64 z ∧ vy = .int .i64 z ∧ CB W wx p b g gb7 c7 d gv t7 last7 over7 T)
        case first =>
          rcases (show k' = 1 ∨ k' = 2 ∨ k' = 3 ∨ k' = 4 ∨ k' = 5 ∨ k' = 6 ∨ k' = 7 ∨ k' = 8 ∨ k' = 9 ∨ (k' ≠ 1 ∧ k' ≠ 2 ∧ k' ≠ 3 ∧ k' ≠ 4 ∧ k' ≠ 5 ∧ k' ≠ 6 ∧ k' ≠ 7 ∧ k' ≠ 8 ∧ k' ≠ 9) by omega) with hk | hk | hk | hk | hk | hk | hk | hk | hk | hk
          · as_aux_lemma =>
              obtain rfl : k' = 1 := hk
              have hlE : bs'.length ≤ 300 := by omega
              have hOff : Off t t w4 E' (cb bs') := fun w' y => (HX54.below (y.below hT4.ce.lt.2 hT4.ce.lt.2 hW4)).more (Nat.le_trans hW4 y.size)
              cases over with
              | true =>
                have hst := Put_any hT4.ce hW4 E' f' bs' hOff 60 true rfl
                clear hOff hX4 hB4
                go_wp2_with fail
                refine hst.mono ?_
                rintro e w5 ⟨rfl, hCe5, hx5⟩
                have hT5 := hT4.only3 hx5 hCe5 rfl
                clear hst
                go_wp2_with fail
                go_meet
                case rel => exact ⟨t, gb, c2, last, true, S, 60, rfl, rfl, rfl, rfl, hT5⟩
              | false =>
                have hd : S.down = false := by
                  cases h : S.down
                  · rfl
                  · cases hT4.dn h
                obtain ⟨T, r, x2, o2, hcp⟩ : ∃ T r x2 o2, S.cput 1 last false bs' = (T, r, x2, o2) := ⟨_, _, _, _, rfl⟩
                obtain ⟨hrs, hn2, hok2, hdn2, ho2⟩ := cput_two hT4.ok hd hcp
                have hst := Put_any hT4.ce hW4 E' f' bs' hOff r o2 hcp
                have HRS := Lib.hid hrs
                have HD := Lib.hid hd
                have hcs : (r = 0 ∧ o2 = false) ∨ (r = 3 ∧ o2 = false) ∨ (r = 5 ∧ o2 = false) ∨ ((r : Int) ≠ 0 ∧ (r : Int) ≠ 3 ∧ (r : Int) ≠ 5 ∧ o2 = true) := by
                  by_cases h0 : r = 0
                  · subst h0; exact .inl ⟨rfl, by simpa using ho2⟩
                  · by_cases h3 : r = 3
                    · subst h3; exact .inr (.inl ⟨rfl, by simpa using ho2⟩)
                    · by_cases h5 : r = 5
                      · subst h5; exact .inr (.inr (.inl ⟨rfl, by simpa using ho2⟩))
                      · exact .inr (.inr (.inr ⟨by omega, by omega, by omega, by simpa [h0, h3, h5] using ho2⟩))
                clear hrs ho2 hcp hd hOff
                rcases hcs with ⟨rfl, rfl⟩ | ⟨rfl, rfl⟩ | ⟨rfl, rfl⟩ | ⟨n0, n3, n5, rfl⟩
                · go_wp2_with fail
                  refine hst.mono ?_
                  rintro e w5 ⟨rfl, hCe5, hx5⟩
                  have hW5 := (hT4.ce.base3 hW4 (Below.refl _ _) hx5).1
                  obtain ⟨hBx5, hRn5, hV5, hBel5⟩ := hT4.bd.half3 hx5 hT4.tg hT4.tb hT4.tv hT4.ce.lt.2
                  have hX5 := hX4'.b3 hx5 ngt ngp ngb hX4'.lt_size
                  have y0 : w5.cell? ⟨gx, 0, none⟩ = some (.int .i64 1) := hX5.cell (j := 0) rfl
                  have y1 : w5.cell? ⟨gx, 1, none⟩ = some (.int .i64 s') := hX5.cell (j := 1) rfl
                  have y2 : w5.cell? ⟨gx, 2, none⟩ = some (.int .i64 a') := hX5.cell (j := 2) rfl
                  have y3 : w5.cell? ⟨gx, 3, none⟩ = some (.slice E' bs'.length f') := hX5.cell (j := 3) rfl
                  have y4 : w5.cell? ⟨gx, 4, none⟩ = some (.slice A' m' d') := hX5.cell (j := 4) rfl
                  have y5 : w5.cell? ⟨gx, 5, none⟩ = some (.slice B' q' e') := hX5.cell (j := 5) rfl
                  have hrSt := rCPut_any hRn5 HD.out (hT4.bd.bs.nor.left_lt7) 1 hT4.bd.fits E' bs'.length f' bs' ((HX54.below hW5).more (Nat.le_trans hW4 hx5.size)) rfl hlE T _ HRS.out
                  have hWg := hT4.bd.lts.2.2.2.1
                  clear hst f0_ f1_ f2_ f3_ f4_ f5_ hX4 hB4
                  go_wp2_with (first
                    | (with_reducible refine wpList_load (o := ⟨some 91, _, _, _, _, _⟩) rfl (.tmp 9) 109 rfl gv 0 _ rfl (rdL 1 2) 2 rfl (by kernel_rfl) hV5.sees ?_)
                    | (with_reducible refine wpList_load (o := ⟨some 92, _, _, _, _, _⟩) rfl (.tmp 7) 105 rfl g 0 _ rfl (S.rL (some ⟨gb, 0, none⟩) c2) 5 rfl (by kernel_rfl) hBx5.sees ?_)
                    | (go_at_call 58; refine hrSt.mono ?_; rintro e w6 ⟨B2, c4, rfl, hTo, hB6⟩; have hF6 := hBx5.below hB6; have hB06 := Below.then_ hBel5 hB6)
                    | ((with_reducible refine wpList_store rfl rfl (.tmp 7) (.tmp 96) 105 rfl g 0 W.heap.size 105 5 (S.rL (some ⟨gb, 0, none⟩) c2) (T.rL B2 c4) rfl rfl 5 rfl (by kernel_rfl) hF6 (by omega) (allOne_out (by kernel_rfl)) W hB06 hWg ?_); intro w7 hF7 hB7 ho7 hz7; obtain ⟨gb4, rfl, hT7⟩ := hT4.then3 hx5 hCe5 hn2 hTo hB6 hF7 ho7 hB7 hok2 hdn2; clear hT4 hX4' hX5 hx5 hTo hB6 hF7 hB7 hF6 hB06 hBx5 hRn5 hV5 hBel5 hrSt))
                  go_meet
                  case rel => exact ⟨t, gb4, c4, x2, false, T, ((0 : Nat) : Int), rfl, rfl, rfl, rfl, hT7⟩
                · go_wp2_with fail
                  refine hst.mono ?_
                  rintro e w5 ⟨rfl, hCe5, hx5⟩
                  have hW5 := (hT4.ce.base3 hW4 (Below.refl _ _) hx5).1
                  obtain ⟨hBx5, hRn5, hV5, hBel5⟩ := hT4.bd.half3 hx5 hT4.tg hT4.tb hT4.tv hT4.ce.lt.2
                  have hX5 := hX4'.b3 hx5 ngt ngp ngb hX4'.lt_size
                  have y0 : w5.cell? ⟨gx, 0, none⟩ = some (.int .i64 1) := hX5.cell (j := 0) rfl
                  have y1 : w5.cell? ⟨gx, 1, none⟩ = some (.int .i64 s') := hX5.cell (j := 1) rfl
                  have y2 : w5.cell? ⟨gx, 2, none⟩ = some (.int .i64 a') := hX5.cell (j := 2) rfl
                  have y3 : w5.cell? ⟨gx, 3, none⟩ = some (.slice E' bs'.length f') := hX5.cell (j := 3) rfl
                  have y4 : w5.cell? ⟨gx, 4, none⟩ = some (.slice A' m' d') := hX5.cell (j := 4) rfl
                  have y5 : w5.cell? ⟨gx, 5, none⟩ = some (.slice B' q' e') := hX5.cell (j := 5) rfl
                  have hrSt := rCPut_any hRn5 HD.out (hT4.bd.bs.nor.left_lt7) 1 hT4.bd.fits E' bs'.length f' bs' ((HX54.below hW5).more (Nat.le_trans hW4 hx5.size)) rfl hlE T _ HRS.out
                  have hWg := hT4.bd.lts.2.2.2.1
                  clear hst f0_ f1_ f2_ f3_ f4_ f5_ hX4 hB4
                  go_wp2_with (first
                    | (with_reducible refine wpList_load (o := ⟨some 91, _, _, _, _, _⟩) rfl (.tmp 9) 109 rfl gv 0 _ rfl (rdL 1 2) 2 rfl (by kernel_rfl) hV5.sees ?_)
                    | (with_reducible refine wpList_load (o := ⟨some 92, _, _, _, _, _⟩) rfl (.tmp 7) 105 rfl g 0 _ rfl (S.rL (some ⟨gb, 0, none⟩) c2) 5 rfl (by kernel_rfl) hBx5.sees ?_)
                    | (go_at_call 58; refine hrSt.mono ?_; rintro e w6 ⟨B2, c4, rfl, hTo, hB6⟩; have hF6 := hBx5.below hB6; have hB06 := Below.then_ hBel5 hB6)
                    | ((with_reducible refine wpList_store rfl rfl (.tmp 7) (.tmp 96) 105 rfl g 0 W.heap.size 105 5 (S.rL (some ⟨gb, 0, none⟩) c2) (T.rL B2 c4) rfl rfl 5 rfl (by kernel_rfl) hF6 (by omega) (allOne_out (by kernel_rfl)) W hB06 hWg ?_); intro w7 hF7 hB7 ho7 hz7; obtain ⟨gb4, rfl, hT7⟩ := hT4.then3 hx5 hCe5 hn2 hTo hB6 hF7 ho7 hB7 hok2 hdn2; clear hT4 hX4' hX5 hx5 hTo hB6 hF7 hB7 hF6 hB06 hBx5 hRn5 hV5 hBel5 hrSt))
                  go_meet
                  case rel => exact ⟨t, gb4, c4, x2, false, T, ((3 : Nat) : Int), rfl, rfl, rfl, rfl, hT7⟩
                · go_wp2_with fail
                  refine hst.mono ?_
                  rintro e w5 ⟨rfl, hCe5, hx5⟩
                  have hW5 := (hT4.ce.base3 hW4 (Below.refl _ _) hx5).1
                  obtain ⟨hBx5, hRn5, hV5, hBel5⟩ := hT4.bd.half3 hx5 hT4.tg hT4.tb hT4.tv hT4.ce.lt.2
                  have hX5 := hX4'.b3 hx5 ngt ngp ngb hX4'.lt_size
                  have y0 : w5.cell? ⟨gx, 0, none⟩ = some (.int .i64 1) := hX5.cell (j := 0) rfl
                  have y1 : w5.cell? ⟨gx, 1, none⟩ = some (.int .i64 s') := hX5.cell (j := 1) rfl
                  have y2 : w5.cell? ⟨gx, 2, none⟩ = some (.int .i64 a') := hX5.cell (j := 2) rfl
                  have y3 : w5.cell? ⟨gx, 3, none⟩ = some (.slice E' bs'.length f') := hX5.cell (j := 3) rfl
                  have y4 : w5.cell? ⟨gx, 4, none⟩ = some (.slice A' m' d') := hX5.cell (j := 4) rfl
                  have y5 : w5.cell? ⟨gx, 5, none⟩ = some (.slice B' q' e') := hX5.cell (j := 5) rfl
                  have hrSt := rCPut_any hRn5 HD.out (hT4.bd.bs.nor.left_lt7) 1 hT4.bd.fits E' bs'.length f' bs' ((HX54.below hW5).more (Nat.le_trans hW4 hx5.size)) rfl hlE T _ HRS.out
                  have hWg := hT4.bd.lts.2.2.2.1
                  clear hst f0_ f1_ f2_ f3_ f4_ f5_ hX4 hB4
                  go_wp2_with (first
                    | (with_reducible refine wpList_load (o := ⟨some 91, _, _, _, _, _⟩) rfl (.tmp 9) 109 rfl gv 0 _ rfl (rdL 1 2) 2 rfl (by kernel_rfl) hV5.sees ?_)
                    | (with_reducible refine wpList_load (o := ⟨some 92, _, _, _, _, _⟩) rfl (.tmp 7) 105 rfl g 0 _ rfl (S.rL (some ⟨gb, 0, none⟩) c2) 5 rfl (by kernel_rfl) hBx5.sees ?_)
                    | (go_at_call 58; refine hrSt.mono ?_; rintro e w6 ⟨B2, c4, rfl, hTo, hB6⟩; have hF6 := hBx5.below hB6; have hB06 := Below.then_ hBel5 hB6)
                    | ((with_reducible refine wpList_store rfl rfl (.tmp 7) (.tmp 96) 105 rfl g 0 W.heap.size 105 5 (S.rL (some ⟨gb, 0, none⟩) c2) (T.rL B2 c4) rfl rfl 5 rfl (by kernel_rfl) hF6 (by omega) (allOne_out (by kernel_rfl)) W hB06 hWg ?_); intro w7 hF7 hB7 ho7 hz7; obtain ⟨gb4, rfl, hT7⟩ := hT4.then3 hx5 hCe5 hn2 hTo hB6 hF7 ho7 hB7 hok2 hdn2; clear hT4 hX4' hX5 hx5 hTo hB6 hF7 hB7 hF6 hB06 hBx5 hRn5 hV5 hBel5 hrSt))
                  go_meet
                  case rel => exact ⟨t, gb4, c4, x2, false, T, ((5 : Nat) : Int), rfl, rfl, rfl, rfl, hT7⟩
                · have b0 : (((r : Nat) : Int) != 0) = true := by simp; omega
                  have b3 : (((r : Nat) : Int) != 3) = true := by simp; omega
                  have b5 : (((r : Nat) : Int) != 5) = true := by simp; omega
                  go_wp2_with fail
                  refine hst.mono ?_
                  rintro e w5 ⟨rfl, hCe5, hx5⟩
                  have hW5 := (hT4.ce.base3 hW4 (Below.refl _ _) hx5).1
                  obtain ⟨hBx5, hRn5, hV5, hBel5⟩ := hT4.bd.half3 hx5 hT4.tg hT4.tb hT4.tv hT4.ce.lt.2
                  have hX5 := hX4'.b3 hx5 ngt ngp ngb hX4'.lt_size
                  have y0 : w5.cell? ⟨gx, 0, none⟩ = some (.int .i64 1) := hX5.cell (j := 0) rfl
                  have y1 : w5.cell? ⟨gx, 1, none⟩ = some (.int .i64 s') := hX5.cell (j := 1) rfl
                  have y2 : w5.cell? ⟨gx, 2, none⟩ = some (.int .i64 a') := hX5.cell (j := 2) rfl
                  have y3 : w5.cell? ⟨gx, 3, none⟩ = some (.slice E' bs'.length f') := hX5.cell (j := 3) rfl
                  have y4 : w5.cell? ⟨gx, 4, none⟩ = some (.slice A' m' d') := hX5.cell (j := 4) rfl
                  have y5 : w5.cell? ⟨gx, 5, none⟩ = some (.slice B' q' e') := hX5.cell (j := 5) rfl
                  have hrSt := rCPut_any hRn5 HD.out (hT4.bd.bs.nor.left_lt7) 1 hT4.bd.fits E' bs'.length f' bs' ((HX54.below hW5).more (Nat.le_trans hW4 hx5.size)) rfl hlE T _ HRS.out
                  have hWg := hT4.bd.lts.2.2.2.1
                  clear hst f0_ f1_ f2_ f3_ f4_ f5_ hX4 hB4
                  go_wp2_with (first
                    | (with_reducible refine wpList_load (o := ⟨some 91, _, _, _, _, _⟩) rfl (.tmp 9) 109 rfl gv 0 _ rfl (rdL 1 2) 2 rfl (by kernel_rfl) hV5.sees ?_)
                    | (with_reducible refine wpList_load (o := ⟨some 92, _, _, _, _, _⟩) rfl (.tmp 7) 105 rfl g 0 _ rfl (S.rL (some ⟨gb, 0, none⟩) c2) 5 rfl (by kernel_rfl) hBx5.sees ?_)
                    | (go_at_call 58; refine hrSt.mono ?_; rintro e w6 ⟨B2, c4, rfl, hTo, hB6⟩; have hF6 := hBx5.below hB6; have hB06 := Below.then_ hBel5 hB6)
                    | ((with_reducible refine wpList_store rfl rfl (.tmp 7) (.tmp 96) 105 rfl g 0 W.heap.size 105 5 (S.rL (some ⟨gb, 0, none⟩) c2) (T.rL B2 c4) rfl rfl 5 rfl (by kernel_rfl) hF6 (by omega) (allOne_out (by kernel_rfl)) W hB06 hWg ?_); intro w7 hF7 hB7 ho7 hz7; obtain ⟨gb4, rfl, hT7⟩ := hT4.then3 hx5 hCe5 hn2 hTo hB6 hF7 ho7 hB7 hok2 (fun _ => rfl); clear hT4 hX4' hX5 hx5 hTo hB6 hF7 hB7 hF6 hB06 hBx5 hRn5 hV5 hBel5 hrSt))
                  go_meet
                  case rel => exact ⟨t, gb4, c4, x2, true, T, (r : Int), rfl, rfl, rfl, rfl, hT7⟩
          · as_aux_lemma =>
              obtain rfl : k' = 2 := hk
              have hlE : bs'.length ≤ 300 := by omega
              have hOff : Off t t w4 E' (cb bs') := fun w' y => (HX54.below (y.below hT4.ce.lt.2 hT4.ce.lt.2 hW4)).more (Nat.le_trans hW4 y.size)
              cases over with
              | true =>
                have hst := Put_any hT4.ce hW4 E' f' bs' hOff 60 true rfl
                clear hOff hX4 hB4
                go_wp2_with fail
                refine hst.mono ?_
                rintro e w5 ⟨rfl, hCe5, hx5⟩
                have hT5 := hT4.only3 hx5 hCe5 rfl
                clear hst
                go_wp2_with fail
                go_meet
                case rel => exact ⟨t, gb, c2, last, true, S, 60, rfl, rfl, rfl, rfl, hT5⟩
              | false =>
                have hd : S.down = false := by
                  cases h : S.down
                  · rfl
                  · cases hT4.dn h
                obtain ⟨T, r, x2, o2, hcp⟩ : ∃ T r x2 o2, S.cput 1 last false bs' = (T, r, x2, o2) := ⟨_, _, _, _, rfl⟩
                obtain ⟨hrs, hn2, hok2, hdn2, ho2⟩ := cput_two hT4.ok hd hcp
                have hst := Put_any hT4.ce hW4 E' f' bs' hOff r o2 hcp
                have HRS := Lib.hid hrs
                have HD := Lib.hid hd
                have hcs : (r = 0 ∧ o2 = false) ∨ (r = 3 ∧ o2 = false) ∨ (r = 5 ∧ o2 = false) ∨ ((r : Int) ≠ 0 ∧ (r : Int) ≠ 3 ∧ (r : Int) ≠ 5 ∧ o2 = true) := by
                  by_cases h0 : r = 0
                  · subst h0; exact .inl ⟨rfl, by simpa using ho2⟩
                  · by_cases h3 : r = 3
                    · subst h3; exact .inr (.inl ⟨rfl, by simpa using ho2⟩)
                    · by_cases h5 : r = 5
                      · subst h5; exact .inr (.inr (.inl ⟨rfl, by simpa using ho2⟩))
                      · exact .inr (.inr (.inr ⟨by omega, by omega, by omega, by simpa [h0, h3, h5] using ho2⟩))
                clear hrs ho2 hcp hd hOff
                rcases hcs with ⟨rfl, rfl⟩ | ⟨rfl, rfl⟩ | ⟨rfl, rfl⟩ | ⟨n0, n3, n5, rfl⟩
                · go_wp2_with fail
                  refine hst.mono ?_
                  rintro e w5 ⟨rfl, hCe5, hx5⟩
                  have hW5 := (hT4.ce.base3 hW4 (Below.refl _ _) hx5).1
                  obtain ⟨hBx5, hRn5, hV5, hBel5⟩ := hT4.bd.half3 hx5 hT4.tg hT4.tb hT4.tv hT4.ce.lt.2
                  have hX5 := hX4'.b3 hx5 ngt ngp ngb hX4'.lt_size
                  have y0 : w5.cell? ⟨gx, 0, none⟩ = some (.int .i64 2) := hX5.cell (j := 0) rfl
                  have y1 : w5.cell? ⟨gx, 1, none⟩ = some (.int .i64 s') := hX5.cell (j := 1) rfl
                  have y2 : w5.cell? ⟨gx, 2, none⟩ = some (.int .i64 a') := hX5.cell (j := 2) rfl
                  have y3 : w5.cell? ⟨gx, 3, none⟩ = some (.slice E' bs'.length f') := hX5.cell (j := 3) rfl
                  have y4 : w5.cell? ⟨gx, 4, none⟩ = some (.slice A' m' d') := hX5.cell (j := 4) rfl
                  have y5 : w5.cell? ⟨gx, 5, none⟩ = some (.slice B' q' e') := hX5.cell (j := 5) rfl
                  have hrSt := rCPut_any hRn5 HD.out (hT4.bd.bs.nor.left_lt7) 1 hT4.bd.fits E' bs'.length f' bs' ((HX54.below hW5).more (Nat.le_trans hW4 hx5.size)) rfl hlE T _ HRS.out
                  have hWg := hT4.bd.lts.2.2.2.1
                  clear hst f0_ f1_ f2_ f3_ f4_ f5_ hX4 hB4
                  go_wp2_with (first
                    | (with_reducible refine wpList_load (o := ⟨some 91, _, _, _, _, _⟩) rfl (.tmp 9) 109 rfl gv 0 _ rfl (rdL 1 2) 2 rfl (by kernel_rfl) hV5.sees ?_)
                    | (with_reducible refine wpList_load (o := ⟨some 92, _, _, _, _, _⟩) rfl (.tmp 7) 105 rfl g 0 _ rfl (S.rL (some ⟨gb, 0, none⟩) c2) 5 rfl (by kernel_rfl) hBx5.sees ?_)
                    | (go_at_call 58; refine hrSt.mono ?_; rintro e w6 ⟨B2, c4, rfl, hTo, hB6⟩; have hF6 := hBx5.below hB6; have hB06 := Below.then_ hBel5 hB6)
                    | ((with_reducible refine wpList_store rfl rfl (.tmp 7) (.tmp 96) 105 rfl g 0 W.heap.size 105 5 (S.rL (some ⟨gb, 0, none⟩) c2) (T.rL B2 c4) rfl rfl 5 rfl (by kernel_rfl) hF6 (by omega) (allOne_out (by kernel_rfl)) W hB06 hWg ?_); intro w7 hF7 hB7 ho7 hz7; obtain ⟨gb4, rfl, hT7⟩ := hT4.then3 hx5 hCe5 hn2 hTo hB6 hF7 ho7 hB7 hok2 hdn2; clear hT4 hX4' hX5 hx5 hTo hB6 hF7 hB7 hF6 hB06 hBx5 hRn5 hV5 hBel5 hrSt))
                  go_meet
                  case rel => exact ⟨t, gb4, c4, x2, false, T, ((0 : Nat) : Int), rfl, rfl, rfl, rfl, hT7⟩
                · go_wp2_with fail
                  refine hst.mono ?_
                  rintro e w5 ⟨rfl, hCe5, hx5⟩
                  have hW5 := (hT4.ce.base3 hW4 (Below.refl _ _) hx5).1
                  obtain ⟨hBx5, hRn5, hV5, hBel5⟩ := hT4.bd.half3 hx5 hT4.tg hT4.tb hT4.tv hT4.ce.lt.2
                  have hX5 := hX4'.b3 hx5 ngt ngp ngb hX4'.lt_size
                  have y0 : w5.cell? ⟨gx, 0, none⟩ = some (.int .i64 2) := hX5.cell (j := 0) rfl
                  have y1 : w5.cell? ⟨gx, 1, none⟩ = some (.int .i64 s') := hX5.cell (j := 1) rfl
                  have y2 : w5.cell? ⟨gx, 2, none⟩ = some (.int .i64 a') := hX5.cell (j := 2) rfl
                  have y3 : w5.cell? ⟨gx, 3, none⟩ = some (.slice E' bs'.length f') := hX5.cell (j := 3) rfl
                  have y4 : w5.cell? ⟨gx, 4, none⟩ = some (.slice A' m' d') := hX5.cell (j := 4) rfl
                  have y5 : w5.cell? ⟨gx, 5, none⟩ = some (.slice B' q' e') := hX5.cell (j := 5) rfl
                  have hrSt := rCPut_any hRn5 HD.out (hT4.bd.bs.nor.left_lt7) 1 hT4.bd.fits E' bs'.length f' bs' ((HX54.below hW5).more (Nat.le_trans hW4 hx5.size)) rfl hlE T _ HRS.out
                  have hWg := hT4.bd.lts.2.2.2.1
                  clear hst f0_ f1_ f2_ f3_ f4_ f5_ hX4 hB4
                  go_wp2_with (first
                    | (with_reducible refine wpList_load (o := ⟨some 91, _, _, _, _, _⟩) rfl (.tmp 9) 109 rfl gv 0 _ rfl (rdL 1 2) 2 rfl (by kernel_rfl) hV5.sees ?_)
                    | (with_reducible refine wpList_load (o := ⟨some 92, _, _, _, _, _⟩) rfl (.tmp 7) 105 rfl g 0 _ rfl (S.rL (some ⟨gb, 0, none⟩) c2) 5 rfl (by kernel_rfl) hBx5.sees ?_)
                    | (go_at_call 58; refine hrSt.mono ?_; rintro e w6 ⟨B2, c4, rfl, hTo, hB6⟩; have hF6 := hBx5.below hB6; have hB06 := Below.then_ hBel5 hB6)
                    | ((with_reducible refine wpList_store rfl rfl (.tmp 7) (.tmp 96) 105 rfl g 0 W.heap.size 105 5 (S.rL (some ⟨gb, 0, none⟩) c2) (T.rL B2 c4) rfl rfl 5 rfl (by kernel_rfl) hF6 (by omega) (allOne_out (by kernel_rfl)) W hB06 hWg ?_); intro w7 hF7 hB7 ho7 hz7; obtain ⟨gb4, rfl, hT7⟩ := hT4.then3 hx5 hCe5 hn2 hTo hB6 hF7 ho7 hB7 hok2 hdn2; clear hT4 hX4' hX5 hx5 hTo hB6 hF7 hB7 hF6 hB06 hBx5 hRn5 hV5 hBel5 hrSt))
                  go_meet
                  case rel => exact ⟨t, gb4, c4, x2, false, T, ((3 : Nat) : Int), rfl, rfl, rfl, rfl, hT7⟩
                · go_wp2_with fail
                  refine hst.mono ?_
                  rintro e w5 ⟨rfl, hCe5, hx5⟩
                  have hW5 := (hT4.ce.base3 hW4 (Below.refl _ _) hx5).1
                  obtain ⟨hBx5, hRn5, hV5, hBel5⟩ := hT4.bd.half3 hx5 hT4.tg hT4.tb hT4.tv hT4.ce.lt.2
                  have hX5 := hX4'.b3 hx5 ngt ngp ngb hX4'.lt_size
                  have y0 : w5.cell? ⟨gx, 0, none⟩ = some (.int .i64 2) := hX5.cell (j := 0) rfl
                  have y1 : w5.cell? ⟨gx, 1, none⟩ = some (.int .i64 s') := hX5.cell (j := 1) rfl
                  have y2 : w5.cell? ⟨gx, 2, none⟩ = some (.int .i64 a') := hX5.cell (j := 2) rfl
                  have y3 : w5.cell? ⟨gx, 3, none⟩ = some (.slice E' bs'.length f') := hX5.cell (j := 3) rfl
                  have y4 : w5.cell? ⟨gx, 4, none⟩ = some (.slice A' m' d') := hX5.cell (j := 4) rfl
                  have y5 : w5.cell? ⟨gx, 5, none⟩ = some (.slice B' q' e') := hX5.cell (j := 5) rfl
                  have hrSt := rCPut_any hRn5 HD.out (hT4.bd.bs.nor.left_lt7) 1 hT4.bd.fits E' bs'.length f' bs' ((HX54.below hW5).more (Nat.le_trans hW4 hx5.size)) rfl hlE T _ HRS.out
                  have hWg := hT4.bd.lts.2.2.2.1
                  clear hst f0_ f1_ f2_ f3_ f4_ f5_ hX4 hB4
                  go_wp2_with (first
                    | (with_reducible refine wpList_load (o := ⟨some 91, _, _, _, _, _⟩) rfl (.tmp 9) 109 rfl gv 0 _ rfl (rdL 1 2) 2 rfl (by kernel_rfl) hV5.sees ?_)
                    | (with_reducible refine wpList_load (o := ⟨some 92, _, _, _, _, _⟩) rfl (.tmp 7) 105 rfl g 0 _ rfl (S.rL (some ⟨gb, 0, none⟩) c2) 5 rfl (by kernel_rfl) hBx5.sees ?_)
                    | (go_at_call 58; refine hrSt.mono ?_; rintro e w6 ⟨B2, c4, rfl, hTo, hB6⟩; have hF6 := hBx5.below hB6; have hB06 := Below.then_ hBel5 hB6)
                    | ((with_reducible refine wpList_store rfl rfl (.tmp 7) (.tmp 96) 105 rfl g 0 W.heap.size 105 5 (S.rL (some ⟨gb, 0, none⟩) c2) (T.rL B2 c4) rfl rfl 5 rfl (by kernel_rfl) hF6 (by omega) (allOne_out (by kernel_rfl)) W hB06 hWg ?_); intro w7 hF7 hB7 ho7 hz7; obtain ⟨gb4, rfl, hT7⟩ := hT4.then3 hx5 hCe5 hn2 hTo hB6 hF7 ho7 hB7 hok2 hdn2; clear hT4 hX4' hX5 hx5 hTo hB6 hF7 hB7 hF6 hB06 hBx5 hRn5 hV5 hBel5 hrSt))
                  go_meet
                  case rel => exact ⟨t, gb4, c4, x2, false, T, ((5 : Nat) : Int), rfl, rfl, rfl, rfl, hT7⟩
                · have b0 : (((r : Nat) : Int) != 0) = true := by simp; omega
                  have b3 : (((r : Nat) : Int) != 3) = true := by simp; omega
                  have b5 : (((r : Nat) : Int) != 5) = true := by simp; omega
                  go_wp2_with fail
                  refine hst.mono ?_
                  rintro e w5 ⟨rfl, hCe5, hx5⟩
                  have hW5 := (hT4.ce.base3 hW4 (Below.refl _ _) hx5).1
                  obtain ⟨hBx5, hRn5, hV5, hBel5⟩ := hT4.bd.half3 hx5 hT4.tg hT4.tb hT4.tv hT4.ce.lt.2
                  have hX5 := hX4'.b3 hx5 ngt ngp ngb hX4'.lt_size
                  have y0 : w5.cell? ⟨gx, 0, none⟩ = some (.int .i64 2) := hX5.cell (j := 0) rfl
                  have y1 : w5.cell? ⟨gx, 1, none⟩ = some (.int .i64 s') := hX5.cell (j := 1) rfl
                  have y2 : w5.cell? ⟨gx, 2, none⟩ = some (.int .i64 a') := hX5.cell (j := 2) rfl
                  have y3 : w5.cell? ⟨gx, 3, none⟩ = some (.slice E' bs'.length f') := hX5.cell (j := 3) rfl
                  have y4 : w5.cell? ⟨gx, 4, none⟩ = some (.slice A' m' d') := hX5.cell (j := 4) rfl
                  have y5 : w5.cell? ⟨gx, 5, none⟩ = some (.slice B' q' e') := hX5.cell (j := 5) rfl
                  have hrSt := rCPut_any hRn5 HD.out (hT4.bd.bs.nor.left_lt7) 1 hT4.bd.fits E' bs'.length f' bs' ((HX54.below hW5).more (Nat.le_trans hW4 hx5.size)) rfl hlE T _ HRS.out
                  have hWg := hT4.bd.lts.2.2.2.1
                  clear hst f0_ f1_ f2_ f3_ f4_ f5_ hX4 hB4
                  go_wp2_with (first
                    | (with_reducible refine wpList_load (o := ⟨some 91, _, _, _, _, _⟩) rfl (.tmp 9) 109 rfl gv 0 _ rfl (rdL 1 2) 2 rfl (by kernel_rfl) hV5.sees ?_)
                    | (with_reducible refine wpList_load (o := ⟨some 92, _, _, _, _, _⟩) rfl (.tmp 7) 105 rfl g 0 _ rfl (S.rL (some ⟨gb, 0, none⟩) c2) 5 rfl (by kernel_rfl) hBx5.sees ?_)
                    | (go_at_call 58; refine hrSt.mono ?_; rintro e w6 ⟨B2, c4, rfl, hTo, hB6⟩; have hF6 := hBx5.below hB6; have hB06 := Below.then_ hBel5 hB6)
                    | ((with_reducible refine wpList_store rfl rfl (.tmp 7) (.tmp 96) 105 rfl g 0 W.heap.size 105 5 (S.rL (some ⟨gb, 0, none⟩) c2) (T.rL B2 c4) rfl rfl 5 rfl (by kernel_rfl) hF6 (by omega) (allOne_out (by kernel_rfl)) W hB06 hWg ?_); intro w7 hF7 hB7 ho7 hz7; obtain ⟨gb4, rfl, hT7⟩ := hT4.then3 hx5 hCe5 hn2 hTo hB6 hF7 ho7 hB7 hok2 (fun _ => rfl); clear hT4 hX4' hX5 hx5 hTo hB6 hF7 hB7 hF6 hB06 hBx5 hRn5 hV5 hBel5 hrSt))
                  go_meet
                  case rel => exact ⟨t, gb4, c4, x2, true, T, (r : Int), rfl, rfl, rfl, rfl, hT7⟩
          · as_aux_lemma =>
              obtain rfl : k' = 3 := hk
              have hlE : bs'.length ≤ 300 := by omega
              have hOff : Off t t w4 E' (cb bs') := fun w' y => (HX54.below (y.below hT4.ce.lt.2 hT4.ce.lt.2 hW4)).more (Nat.le_trans hW4 y.size)
              cases over with
              | true =>
                have hst := Put_any hT4.ce hW4 E' f' bs' hOff 60 true rfl
                clear hOff hX4 hB4
                go_wp2_with fail
                refine hst.mono ?_
                rintro e w5 ⟨rfl, hCe5, hx5⟩
                have hT5 := hT4.only3 hx5 hCe5 rfl
                clear hst
                go_wp2_with fail
                go_meet
                case rel => exact ⟨t, gb, c2, last, true, S, 60, rfl, rfl, rfl, rfl, hT5⟩
              | false =>
                have hd : S.down = false := by
                  cases h : S.down
                  · rfl
                  · cases hT4.dn h
                obtain ⟨T, r, x2, o2, hcp⟩ : ∃ T r x2 o2, S.cput 1 last false bs' = (T, r, x2, o2) := ⟨_, _, _, _, rfl⟩
                obtain ⟨hrs, hn2, hok2, hdn2, ho2⟩ := cput_two hT4.ok hd hcp
                have hst := Put_any hT4.ce hW4 E' f' bs' hOff r o2 hcp
                have HRS := Lib.hid hrs
                have HD := Lib.hid hd
                have hcs : (r = 0 ∧ o2 = false) ∨ (r = 3 ∧ o2 = false) ∨ (r = 5 ∧ o2 = false) ∨ ((r : Int) ≠ 0 ∧ (r : Int) ≠ 3 ∧ (r : Int) ≠ 5 ∧ o2 = true) := by
                  by_cases h0 : r = 0
                  · subst h0; exact .inl ⟨rfl, by simpa using ho2⟩
                  · by_cases h3 : r = 3
                    · subst h3; exact .inr (.inl ⟨rfl, by simpa using ho2⟩)
                    · by_cases h5 : r = 5
                      · subst h5; exact .inr (.inr (.inl ⟨rfl, by simpa using ho2⟩))
                      · exact .inr (.inr (.inr ⟨by omega, by omega, by omega, by simpa [h0, h3, h5] using ho2⟩))
                clear hrs ho2 hcp hd hOff
                rcases hcs with ⟨rfl, rfl⟩ | ⟨rfl, rfl⟩ | ⟨rfl, rfl⟩ | ⟨n0, n3, n5, rfl⟩
                · go_wp2_with fail
                  refine hst.mono ?_
                  rintro e w5 ⟨rfl, hCe5, hx5⟩
                  have hW5 := (hT4.ce.base3 hW4 (Below.refl _ _) hx5).1
                  obtain ⟨hBx5, hRn5, hV5, hBel5⟩ := hT4.bd.half3 hx5 hT4.tg hT4.tb hT4.tv hT4.ce.lt.2
                  have hX5 := hX4'.b3 hx5 ngt ngp ngb hX4'.lt_size
                  have y0 : w5.cell? ⟨gx, 0, none⟩ = some (.int .i64 3) := hX5.cell (j := 0) rfl
                  have y1 : w5.cell? ⟨gx, 1, none⟩ = some (.int .i64 s') := hX5.cell (j := 1) rfl
                  have y2 : w5.cell? ⟨gx, 2, none⟩ = some (.int .i64 a') := hX5.cell (j := 2) rfl
                  have y3 : w5.cell? ⟨gx, 3, none⟩ = some (.slice E' bs'.length f') := hX5.cell (j := 3) rfl
                  have y4 : w5.cell? ⟨gx, 4, none⟩ = some (.slice A' m' d') := hX5.cell (j := 4) rfl
                  have y5 : w5.cell? ⟨gx, 5, none⟩ = some (.slice B' q' e') := hX5.cell (j := 5) rfl
                  have hrSt := rCPut_any hRn5 HD.out (hT4.bd.bs.nor.left_lt7) 1 hT4.bd.fits E' bs'.length f' bs' ((HX54.below hW5).more (Nat.le_trans hW4 hx5.size)) rfl hlE T _ HRS.out
                  have hWg := hT4.bd.lts.2.2.2.1
                  clear hst f0_ f1_ f2_ f3_ f4_ f5_ hX4 hB4
                  go_wp2_with (first
                    | (with_reducible refine wpList_load (o := ⟨some 91, _, _, _, _, _⟩) rfl (.tmp 9) 109 rfl gv 0 _ rfl (rdL 1 2) 2 rfl (by kernel_rfl) hV5.sees ?_)
                    | (with_reducible refine wpList_load (o := ⟨some 92, _, _, _, _, _⟩) rfl (.tmp 7) 105 rfl g 0 _ rfl (S.rL (some ⟨gb, 0, none⟩) c2) 5 rfl (by kernel_rfl) hBx5.sees ?_)
                    | (go_at_call 58; refine hrSt.mono ?_; rintro e w6 ⟨B2, c4, rfl, hTo, hB6⟩; have hF6 := hBx5.below hB6; have hB06 := Below.then_ hBel5 hB6)
                    | ((with_reducible refine wpList_store rfl rfl (.tmp 7) (.tmp 96) 105 rfl g 0 W.heap.size 105 5 (S.rL (some ⟨gb, 0, none⟩) c2) (T.rL B2 c4) rfl rfl 5 rfl (by kernel_rfl) hF6 (by omega) (allOne_out (by kernel_rfl)) W hB06 hWg ?_); intro w7 hF7 hB7 ho7 hz7; obtain ⟨gb4, rfl, hT7⟩ := hT4.then3 hx5 hCe5 hn2 hTo hB6 hF7 ho7 hB7 hok2 hdn2; clear hT4 hX4' hX5 hx5 hTo hB6 hF7 hB7 hF6 hB06 hBx5 hRn5 hV5 hBel5 hrSt))
                  go_meet
                  case rel => exact ⟨t, gb4, c4, x2, false, T, ((0 : Nat) : Int), rfl, rfl, rfl, rfl, hT7⟩
                · go_wp2_with fail
                  refine hst.mono ?_
                  rintro e w5 ⟨rfl, hCe5, hx5⟩
                  have hW5 := (hT4.ce.base3 hW4 (Below.refl _ _) hx5).1
                  obtain ⟨hBx5, hRn5, hV5, hBel5⟩ := hT4.bd.half3 hx5 hT4.tg hT4.tb hT4.tv hT4.ce.lt.2
                  have hX5 := hX4'.b3 hx5 ngt ngp ngb hX4'.lt_size
                  have y0 : w5.cell? ⟨gx, 0, none⟩ = some (.int .i64 3) := hX5.cell (j := 0) rfl
                  have y1 : w5.cell? ⟨gx, 1, none⟩ = some (.int .i64 s') := hX5.cell (j := 1) rfl
                  have y2 : w5.cell? ⟨gx, 2, none⟩ = some (.int .i64 a') := hX5.cell (j := 2) rfl
                  have y3 : w5.cell? ⟨gx, 3, none⟩ = some (.slice E' bs'.length f') := hX5.cell (j := 3) rfl
                  have y4 : w5.cell? ⟨gx, 4, none⟩ = some (.slice A' m' d') := hX5.cell (j := 4) rfl
                  have y5 : w5.cell? ⟨gx, 5, none⟩ = some (.slice B' q' e') := hX5.cell (j := 5) rfl
                  have hrSt := rCPut_any hRn5 HD.out (hT4.bd.bs.nor.left_lt7) 1 hT4.bd.fits E' bs'.length f' bs' ((HX54.below hW5).more (Nat.le_trans hW4 hx5.size)) rfl hlE T _ HRS.out
                  have hWg := hT4.bd.lts.2.2.2.1
                  clear hst f0_ f1_ f2_ f3_ f4_ f5_ hX4 hB4
                  go_wp2_with (first
                    | (with_reducible refine wpList_load (o := ⟨some 91, _, _, _, _, _⟩) rfl (.tmp 9) 109 rfl gv 0 _ rfl (rdL 1 2) 2 rfl (by kernel_rfl) hV5.sees ?_)
                    | (with_reducible refine wpList_load (o := ⟨some 92, _, _, _, _, _⟩) rfl (.tmp 7) 105 rfl g 0 _ rfl (S.rL (some ⟨gb, 0, none⟩) c2) 5 rfl (by kernel_rfl) hBx5.sees ?_)
                    | (go_at_call 58; refine hrSt.mono ?_; rintro e w6 ⟨B2, c4, rfl, hTo, hB6⟩; have hF6 := hBx5.below hB6; have hB06 := Below.then_ hBel5 hB6)
                    | ((with_reducible refine wpList_store rfl rfl (.tmp 7) (.tmp 96) 105 rfl g 0 W.heap.size 105 5 (S.rL (some ⟨gb, 0, none⟩) c2) (T.rL B2 c4) rfl rfl 5 rfl (by kernel_rfl) hF6 (by omega) (allOne_out (by kernel_rfl)) W hB06 hWg ?_); intro w7 hF7 hB7 ho7 hz7; obtain ⟨gb4, rfl, hT7⟩ := hT4.then3 hx5 hCe5 hn2 hTo hB6 hF7 ho7 hB7 hok2 hdn2; clear hT4 hX4' hX5 hx5 hTo hB6 hF7 hB7 hF6 hB06 hBx5 hRn5 hV5 hBel5 hrSt))
                  go_meet
                  case rel => exact ⟨t, gb4, c4, x2, false, T, ((3 : Nat) : Int), rfl, rfl, rfl, rfl, hT7⟩
                · go_wp2_with fail
                  refine hst.mono ?_
                  rintro e w5 ⟨rfl, hCe5, hx5⟩
                  have hW5 := (hT4.ce.base3 hW4 (Below.refl _ _) hx5).1
                  obtain ⟨hBx5, hRn5, hV5, hBel5⟩ := hT4.bd.half3 hx5 hT4.tg hT4.tb hT4.tv hT4.ce.lt.2
                  have hX5 := hX4'.b3 hx5 ngt ngp ngb hX4'.lt_size
                  have y0 : w5.cell? ⟨gx, 0, none⟩ = some (.int .i64 3) := hX5.cell (j := 0) rfl
                  have y1 : w5.cell? ⟨gx, 1, none⟩ = some (.int .i64 s') := hX5.cell (j := 1) rfl
                  have y2 : w5.cell? ⟨gx, 2, none⟩ = some (.int .i64 a') := hX5.cell (j := 2) rfl
                  have y3 : w5.cell? ⟨gx, 3, none⟩ = some (.slice E' bs'.length f') := hX5.cell (j := 3) rfl
                  have y4 : w5.cell? ⟨gx, 4, none⟩ = some (.slice A' m' d') := hX5.cell (j := 4) rfl
                  have y5 : w5.cell? ⟨gx, 5, none⟩ = some (.slice B' q' e') := hX5.cell (j := 5) rfl
                  have hrSt := rCPut_any hRn5 HD.out (hT4.bd.bs.nor.left_lt7) 1 hT4.bd.fits E' bs'.length f' bs' ((HX54.below hW5).more (Nat.le_trans hW4 hx5.size)) rfl hlE T _ HRS.out
                  have hWg := hT4.bd.lts.2.2.2.1
                  clear hst f0_ f1_ f2_ f3_ f4_ f5_ hX4 hB4
                  go_wp2_with (first
                    | (with_reducible refine wpList_load (o := ⟨some 91, _, _, _, _, _⟩) rfl (.tmp 9) 109 rfl gv 0 _ rfl (rdL 1 2) 2 rfl (by kernel_rfl) hV5.sees ?_)
                    | (with_reducible refine wpList_load (o := ⟨some 92, _, _, _, _, _⟩) rfl (.tmp 7) 105 rfl g 0 _ rfl (S.rL (some ⟨gb, 0, none⟩) c2) 5 rfl (by kernel_rfl) hBx5.sees ?_)
                    | (go_at_call 58; refine hrSt.mono ?_; rintro e w6 ⟨B2, c4, rfl, hTo, hB6⟩; have hF6 := hBx5.below hB6; have hB06 := Below.then_ hBel5 hB6)
                    | ((with_reducible refine wpList_store rfl rfl (.tmp 7) (.tmp 96) 105 rfl g 0 W.heap.size 105 5 (S.rL (some ⟨gb, 0, none⟩) c2) (T.rL B2 c4) rfl rfl 5 rfl (by kernel_rfl) hF6 (by omega) (allOne_out (by kernel_rfl)) W hB06 hWg ?_); intro w7 hF7 hB7 ho7 hz7; obtain ⟨gb4, rfl, hT7⟩ := hT4.then3 hx5 hCe5 hn2 hTo hB6 hF7 ho7 hB7 hok2 hdn2; clear hT4 hX4' hX5 hx5 hTo hB6 hF7 hB7 hF6 hB06 hBx5 hRn5 hV5 hBel5 hrSt))
                  go_meet
                  case rel => exact ⟨t, gb4, c4, x2, false, T, ((5 : Nat) : Int), rfl, rfl, rfl, rfl, hT7⟩
                · have b0 : (((r : Nat) : Int) != 0) = true := by simp; omega
                  have b3 : (((r : Nat) : Int) != 3) = true := by simp; omega
                  have b5 : (((r : Nat) : Int) != 5) = true := by simp; omega
                  go_wp2_with fail
                  refine hst.mono ?_
                  rintro e w5 ⟨rfl, hCe5, hx5⟩
                  have hW5 := (hT4.ce.base3 hW4 (Below.refl _ _) hx5).1
                  obtain ⟨hBx5, hRn5, hV5, hBel5⟩ := hT4.bd.half3 hx5 hT4.tg hT4.tb hT4.tv hT4.ce.lt.2
                  have hX5 := hX4'.b3 hx5 ngt ngp ngb hX4'.lt_size
                  have y0 : w5.cell? ⟨gx, 0, none⟩ = some (.int .i64 3) := hX5.cell (j := 0) rfl
                  have y1 : w5.cell? ⟨gx, 1, none⟩ = some (.int .i64 s') := hX5.cell (j := 1) rfl
                  have y2 : w5.cell? ⟨gx, 2, none⟩ = some (.int .i64 a') := hX5.cell (j := 2) rfl
                  have y3 : w5.cell? ⟨gx, 3, none⟩ = some (.slice E' bs'.length f') := hX5.cell (j := 3) rfl
                  have y4 : w5.cell? ⟨gx, 4, none⟩ = some (.slice A' m' d') := hX5.cell (j := 4) rfl
                  have y5 : w5.cell? ⟨gx, 5, none⟩ = some (.slice B' q' e') := hX5.cell (j := 5) rfl
                  have hrSt := rCPut_any hRn5 HD.out (hT4.bd.bs.nor.left_lt7) 1 hT4.bd.fits E' bs'.length f' bs' ((HX54.below hW5).more (Nat.le_trans hW4 hx5.size)) rfl hlE T _ HRS.out
                  have hWg := hT4.bd.lts.2.2.2.1
                  clear hst f0_ f1_ f2_ f3_ f4_ f5_ hX4 hB4
                  go_wp2_with (first
                    | (with_reducible refine wpList_load (o := ⟨some 91, _, _, _, _, _⟩) rfl (.tmp 9) 109 rfl gv 0 _ rfl (rdL 1 2) 2 rfl (by kernel_rfl) hV5.sees ?_)
                    | (with_reducible refine wpList_load (o := ⟨some 92, _, _, _, _, _⟩) rfl (.tmp 7) 105 rfl g 0 _ rfl (S.rL (some ⟨gb, 0, none⟩) c2) 5 rfl (by kernel_rfl) hBx5.sees ?_)
                    | (go_at_call 58; refine hrSt.mono ?_; rintro e w6 ⟨B2, c4, rfl, hTo, hB6⟩; have hF6 := hBx5.below hB6; have hB06 := Below.then_ hBel5 hB6)
                    | ((with_reducible refine wpList_store rfl rfl (.tmp 7) (.tmp 96) 105 rfl g 0 W.heap.size 105 5 (S.rL (some ⟨gb, 0, none⟩) c2) (T.rL B2 c4) rfl rfl 5 rfl (by kernel_rfl) hF6 (by omega) (allOne_out (by kernel_rfl)) W hB06 hWg ?_); intro w7 hF7 hB7 ho7 hz7; obtain ⟨gb4, rfl, hT7⟩ := hT4.then3 hx5 hCe5 hn2 hTo hB6 hF7 ho7 hB7 hok2 (fun _ => rfl); clear hT4 hX4' hX5 hx5 hTo hB6 hF7 hB7 hF6 hB06 hBx5 hRn5 hV5 hBel5 hrSt))
                  go_meet
                  case rel => exact ⟨t, gb4, c4, x2, true, T, (r : Int), rfl, rfl, rfl, rfl, hT7⟩
          · as_aux_lemma =>
              obtain rfl : k' = 4 := hk
              have hlE : bs'.length ≤ 300 := by omega
              have hOff : Off t t w4 E' (cb bs') := fun w' y => (HX54.below (y.below hT4.ce.lt.2 hT4.ce.lt.2 hW4)).more (Nat.le_trans hW4 y.size)
              cases over with
              | true =>
                have hst := Put_any hT4.ce hW4 E' f' bs' hOff 60 true rfl
                clear hOff hX4 hB4
                go_wp2_with fail
                refine hst.mono ?_
                rintro e w5 ⟨rfl, hCe5, hx5⟩
                have hT5 := hT4.only3 hx5 hCe5 rfl
                clear hst
                go_wp2_with fail
                go_meet
                case rel => exact ⟨t, gb, c2, last, true, S, 60, rfl, rfl, rfl, rfl, hT5⟩
              | false =>
                have hd : S.down = false := by
                  cases h : S.down
                  · rfl
                  · cases hT4.dn h
                obtain ⟨T, r, x2, o2, hcp⟩ : ∃ T r x2 o2, S.cput 1 last false bs' = (T, r, x2, o2) := ⟨_, _, _, _, rfl⟩
                obtain ⟨hrs, hn2, hok2, hdn2, ho2⟩ := cput_two hT4.ok hd hcp
                have hst := Put_any hT4.ce hW4 E' f' bs' hOff r o2 hcp
                have HRS := Lib.hid hrs
                have HD := Lib.hid hd
                have hcs : (r = 0 ∧ o2 = false) ∨ (r = 3 ∧ o2 = false) ∨ (r = 5 ∧ o2 = false) ∨ ((r : Int) ≠ 0 ∧ (r : Int) ≠ 3 ∧ (r : Int) ≠ 5 ∧ o2 = true) := by
                  by_cases h0 : r = 0
                  · subst h0; exact .inl ⟨rfl, by simpa using ho2⟩
                  · by_cases h3 : r = 3
                    · subst h3; exact .inr (.inl ⟨rfl, by simpa using ho2⟩)
                    · by_cases h5 : r = 5
                      · subst h5; exact .inr (.inr (.inl ⟨rfl, by simpa using ho2⟩))
                      · exact .inr (.inr (.inr ⟨by omega, by omega, by omega, by simpa [h0, h3, h5] using ho2⟩))
                clear hrs ho2 hcp hd hOff
                rcases hcs with ⟨rfl, rfl⟩ | ⟨rfl, rfl⟩ | ⟨rfl, rfl⟩ | ⟨n0, n3, n5, rfl⟩
                · go_wp2_with fail
                  refine hst.mono ?_
                  rintro e w5 ⟨rfl, hCe5, hx5⟩
                  have hW5 := (hT4.ce.base3 hW4 (Below.refl _ _) hx5).1
                  obtain ⟨hBx5, hRn5, hV5, hBel5⟩ := hT4.bd.half3 hx5 hT4.tg hT4.tb hT4.tv hT4.ce.lt.2
                  have hX5 := hX4'.b3 hx5 ngt ngp ngb hX4'.lt_size
                  have y0 : w5.cell? ⟨gx, 0, none⟩ = some (.int .i64 4) := hX5.cell (j := 0) rfl
                  have y1 : w5.cell? ⟨gx, 1, none⟩ = some (.int .i64 s') := hX5.cell (j := 1) rfl
                  have y2 : w5.cell? ⟨gx, 2, none⟩ = some (.int .i64 a') := hX5.cell (j := 2) rfl
                  have y3 : w5.cell? ⟨gx, 3, none⟩ = some (.slice E' bs'.length f') := hX5.cell (j := 3) rfl
                  have y4 : w5.cell? ⟨gx, 4, none⟩ = some (.slice A' m' d') := hX5.cell (j := 4) rfl
                  have y5 : w5.cell? ⟨gx, 5, none⟩ = some (.slice B' q' e') := hX5.cell (j := 5) rfl
                  have hrSt := rCPut_any hRn5 HD.out (hT4.bd.bs.nor.left_lt7) 1 hT4.bd.fits E' bs'.length f' bs' ((HX54.below hW5).more (Nat.le_trans hW4 hx5.size)) rfl hlE T _ HRS.out
                  have hWg := hT4.bd.lts.2.2.2.1
                  clear hst f0_ f1_ f2_ f3_ f4_ f5_ hX4 hB4
                  go_wp2_with (first
                    | (with_reducible refine wpList_load (o := ⟨some 91, _, _, _, _, _⟩) rfl (.tmp 9) 109 rfl gv 0 _ rfl (rdL 1 2) 2 rfl (by kernel_rfl) hV5.sees ?_)
                    | (with_reducible refine wpList_load (o := ⟨some 92, _, _, _, _, _⟩) rfl (.tmp 7) 105 rfl g 0 _ rfl (S.rL (some ⟨gb, 0, none⟩) c2) 5 rfl (by kernel_rfl) hBx5.sees ?_)
                    | (go_at_call 58; refine hrSt.mono ?_; rintro e w6 ⟨B2, c4, rfl, hTo, hB6⟩; have hF6 := hBx5.below hB6; have hB06 := Below.then_ hBel5 hB6)
                    | ((with_reducible refine wpList_store rfl rfl (.tmp 7) (.tmp 96) 105 rfl g 0 W.heap.size 105 5 (S.rL (some ⟨gb, 0, none⟩) c2) (T.rL B2 c4) rfl rfl 5 rfl (by kernel_rfl) hF6 (by omega) (allOne_out (by kernel_rfl)) W hB06 hWg ?_); intro w7 hF7 hB7 ho7 hz7; obtain ⟨gb4, rfl, hT7⟩ := hT4.then3 hx5 hCe5 hn2 hTo hB6 hF7 ho7 hB7 hok2 hdn2; clear hT4 hX4' hX5 hx5 hTo hB6 hF7 hB7 hF6 hB06 hBx5 hRn5 hV5 hBel5 hrSt))
                  go_meet
                  case rel => exact ⟨t, gb4, c4, x2, false, T, ((0 : Nat) : Int), rfl, rfl, rfl, rfl, hT7⟩
                · go_wp2_with fail
                  refine hst.mono ?_
                  rintro e w5 ⟨rfl, hCe5, hx5⟩
                  have hW5 := (hT4.ce.base3 hW4 (Below.refl _ _) hx5).1
                  obtain ⟨hBx5, hRn5, hV5, hBel5⟩ := hT4.bd.half3 hx5 hT4.tg hT4.tb hT4.tv hT4.ce.lt.2
                  have hX5 := hX4'.b3 hx5 ngt ngp ngb hX4'.lt_size
                  have y0 : w5.cell? ⟨gx, 0, none⟩ = some (.int .i64 4) := hX5.cell (j := 0) rfl
                  have y1 : w5.cell? ⟨gx, 1, none⟩ = some (.int .i64 s') := hX5.cell (j := 1) rfl
                  have y2 : w5.cell? ⟨gx, 2, none⟩ = some (.int .i64 a') := hX5.cell (j := 2) rfl
                  have y3 : w5.cell? ⟨gx, 3, none⟩ = some (.slice E' bs'.length f') := hX5.cell (j := 3) rfl
                  have y4 : w5.cell? ⟨gx, 4, none⟩ = some (.slice A' m' d') := hX5.cell (j := 4) rfl
                  have y5 : w5.cell? ⟨gx, 5, none⟩ = some (.slice B' q' e') := hX5.cell (j := 5) rfl
                  have hrSt := rCPut_any hRn5 HD.out (hT4.bd.bs.nor.left_lt7) 1 hT4.bd.fits E' bs'.length f' bs' ((HX54.below hW5).more (Nat.le_trans hW4 hx5.size)) rfl hlE T _ HRS.out
                  have hWg := hT4.bd.lts.2.2.2.1
                  clear hst f0_ f1_ f2_ f3_ f4_ f5_ hX4 hB4
                  go_wp2_with (first
                    | (with_reducible refine wpList_load (o := ⟨some 91, _, _, _, _, _⟩) rfl (.tmp 9) 109 rfl gv 0 _ rfl (rdL 1 2) 2 rfl (by kernel_rfl) hV5.sees ?_)
                    | (with_reducible refine wpList_load (o := ⟨some 92, _, _, _, _, _⟩) rfl (.tmp 7) 105 rfl g 0 _ rfl (S.rL (some ⟨gb, 0, none⟩) c2) 5 rfl (by kernel_rfl) hBx5.sees ?_)
                    | (go_at_call 58; refine hrSt.mono ?_; rintro e w6 ⟨B2, c4, rfl, hTo, hB6⟩; have hF6 := hBx5.below hB6; have hB06 := Below.then_ hBel5 hB6)
                    | ((with_reducible refine wpList_store rfl rfl (.tmp 7) (.tmp 96) 105 rfl g 0 W.heap.size 105 5 (S.rL (some ⟨gb, 0, none⟩) c2) (T.rL B2 c4) rfl rfl 5 rfl (by kernel_rfl) hF6 (by omega) (allOne_out (by kernel_rfl)) W hB06 hWg ?_); intro w7 hF7 hB7 ho7 hz7; obtain ⟨gb4, rfl, hT7⟩ := hT4.then3 hx5 hCe5 hn2 hTo hB6 hF7 ho7 hB7 hok2 hdn2; clear hT4 hX4' hX5 hx5 hTo hB6 hF7 hB7 hF6 hB06 hBx5 hRn5 hV5 hBel5 hrSt))
                  go_meet
                  case rel => exact ⟨t, gb4, c4, x2, false, T, ((3 : Nat) : Int), rfl, rfl, rfl, rfl, hT7⟩
                · go_wp2_with fail
                  refine hst.mono ?_
                  rintro e w5 ⟨rfl, hCe5, hx5⟩
                  have hW5 := (hT4.ce.base3 hW4 (Below.refl _ _) hx5).1
                  obtain ⟨hBx5, hRn5, hV5, hBel5⟩ := hT4.bd.half3 hx5 hT4.tg hT4.tb hT4.tv hT4.ce.lt.2
                  have hX5 := hX4'.b3 hx5 ngt ngp ngb hX4'.lt_size
                  have y0 : w5.cell? ⟨gx, 0, none⟩ = some (.int .i64 4) := hX5.cell (j := 0) rfl
                  have y1 : w5.cell? ⟨gx, 1, none⟩ = some (.int .i64 s') := hX5.cell (j := 1) rfl
                  have y2 : w5.cell? ⟨gx, 2, none⟩ = some (.int .i64 a') := hX5.cell (j := 2) rfl
                  have y3 : w5.cell? ⟨gx, 3, none⟩ = some (.slice E' bs'.length f') := hX5.cell (j := 3) rfl
                  have y4 : w5.cell? ⟨gx, 4, none⟩ = some (.slice A' m' d') := hX5.cell (j := 4) rfl
                  have y5 : w5.cell? ⟨gx, 5, none⟩ = some (.slice B' q' e') := hX5.cell (j := 5) rfl
                  have hrSt := rCPut_any hRn5 HD.out (hT4.bd.bs.nor.left_lt7) 1 hT4.bd.fits E' bs'.length f' bs' ((HX54.below hW5).more (Nat.le_trans hW4 hx5.size)) rfl hlE T _ HRS.out
                  have hWg := hT4.bd.lts.2.2.2.1
                  clear hst f0_ f1_ f2_ f3_ f4_ f5_ hX4 hB4
                  go_wp2_with (first
                    | (with_reducible refine wpList_load (o := ⟨some 91, _, _, _, _, _⟩) rfl (.tmp 9) 109 rfl gv 0 _ rfl (rdL 1 2) 2 rfl (by kernel_rfl) hV5.sees ?_)
                    | (with_reducible refine wpList_load (o := ⟨some 92, _, _, _, _, _⟩) rfl (.tmp 7) 105 rfl g 0 _ rfl (S.rL (some ⟨gb, 0, none⟩) c2) 5 rfl (by kernel_rfl) hBx5.sees ?_)
                    | (go_at_call 58; refine hrSt.mono ?_; rintro e w6 ⟨B2, c4, rfl, hTo, hB6⟩; have hF6 := hBx5.below hB6; have hB06 := Below.then_ hBel5 hB6)
                    | ((with_reducible refine wpList_store rfl rfl (.tmp 7) (.tmp 96) 105 rfl g 0 W.heap.size 105 5 (S.rL (some ⟨gb, 0, none⟩) c2) (T.rL B2 c4) rfl rfl 5 rfl (by kernel_rfl) hF6 (by omega) (allOne_out (by kernel_rfl)) W hB06 hWg ?_); intro w7 hF7 hB7 ho7 hz7; obtain ⟨gb4, rfl, hT7⟩ := hT4.then3 hx5 hCe5 hn2 hTo hB6 hF7 ho7 hB7 hok2 hdn2; clear hT4 hX4' hX5 hx5 hTo hB6 hF7 hB7 hF6 hB06 hBx5 hRn5 hV5 hBel5 hrSt))
                  go_meet
                  case rel => exact ⟨t, gb4, c4, x2, false, T, ((5 : Nat) : Int), rfl, rfl, rfl, rfl, hT7⟩
                · have b0 : (((r : Nat) : Int) != 0) = true := by simp; omega
                  have b3 : (((r : Nat) : Int) != 3) = true := by simp; omega
                  have b5 : (((r : Nat) : Int) != 5) = true := by simp; omega
                  go_wp2_with fail
                  refine hst.mono ?_
                  rintro e w5 ⟨rfl, hCe5, hx5⟩
                  have hW5 := (hT4.ce.base3 hW4 (Below.refl _ _) hx5).1
                  obtain ⟨hBx5, hRn5, hV5, hBel5⟩ := hT4.bd.half3 hx5 hT4.tg hT4.tb hT4.tv hT4.ce.lt.2
                  have hX5 := hX4'.b3 hx5 ngt ngp ngb hX4'.lt_size
                  have y0 : w5.cell? ⟨gx, 0, none⟩ = some (.int .i64 4) := hX5.cell (j := 0) rfl
                  have y1 : w5.cell? ⟨gx, 1, none⟩ = some (.int .i64 s') := hX5.cell (j := 1) rfl
                  have y2 : w5.cell? ⟨gx, 2, none⟩ = some (.int .i64 a') := hX5.cell (j := 2) rfl
                  have y3 : w5.cell? ⟨gx, 3, none⟩ = some (.slice E' bs'.length f') := hX5.cell (j := 3) rfl
                  have y4 : w5.cell? ⟨gx, 4, none⟩ = some (.slice A' m' d') := hX5.cell (j := 4) rfl
                  have y5 : w5.cell? ⟨gx, 5, none⟩ = some (.slice B' q' e') := hX5.cell (j := 5) rfl
                  have hrSt := rCPut_any hRn5 HD.out (hT4.bd.bs.nor.left_lt7) 1 hT4.bd.fits E' bs'.length f' bs' ((HX54.below hW5).more (Nat.le_trans hW4 hx5.size)) rfl hlE T _ HRS.out
                  have hWg := hT4.bd.lts.2.2.2.1
                  clear hst f0_ f1_ f2_ f3_ f4_ f5_ hX4 hB4
                  go_wp2_with (first
                    | (with_reducible refine wpList_load (o := ⟨some 91, _, _, _, _, _⟩) rfl (.tmp 9) 109 rfl gv 0 _ rfl (rdL 1 2) 2 rfl (by kernel_rfl) hV5.sees ?_)
                    | (with_reducible refine wpList_load (o := ⟨some 92, _, _, _, _, _⟩) rfl (.tmp 7) 105 rfl g 0 _ rfl (S.rL (some ⟨gb, 0, none⟩) c2) 5 rfl (by kernel_rfl) hBx5.sees ?_)
                    | (go_at_call 58; refine hrSt.mono ?_; rintro e w6 ⟨B2, c4, rfl, hTo, hB6⟩; have hF6 := hBx5.below hB6; have hB06 := Below.then_ hBel5 hB6)
                    | ((with_reducible refine wpList_store rfl rfl (.tmp 7) (.tmp 96) 105 rfl g 0 W.heap.size 105 5 (S.rL (some ⟨gb, 0, none⟩) c2) (T.rL B2 c4) rfl rfl 5 rfl (by kernel_rfl) hF6 (by omega) (allOne_out (by kernel_rfl)) W hB06 hWg ?_); intro w7 hF7 hB7 ho7 hz7; obtain ⟨gb4, rfl, hT7⟩ := hT4.then3 hx5 hCe5 hn2 hTo hB6 hF7 ho7 hB7 hok2 (fun _ => rfl); clear hT4 hX4' hX5 hx5 hTo hB6 hF7 hB7 hF6 hB06 hBx5 hRn5 hV5 hBel5 hrSt))
                  go_meet
                  case rel => exact ⟨t, gb4, c4, x2, true, T, (r : Int), rfl, rfl, rfl, rfl, hT7⟩
          · as_aux_lemma =>
              obtain rfl : k' = 5 := hk
              have hlE : bs'.length ≤ 300 := by omega
              have hOff : Off t t w4 E' (cb bs') := fun w' y => (HX54.below (y.below hT4.ce.lt.2 hT4.ce.lt.2 hW4)).more (Nat.le_trans hW4 y.size)
              cases over with
              | true =>
                have hst := Put_any hT4.ce hW4 E' f' bs' hOff 60 true rfl
                clear hOff hX4 hB4
                go_wp2_with fail
                refine hst.mono ?_
                rintro e w5 ⟨rfl, hCe5, hx5⟩
                have hT5 := hT4.only3 hx5 hCe5 rfl
                clear hst
                go_wp2_with fail
                go_meet
                case rel => exact ⟨t, gb, c2, last, true, S, 60, rfl, rfl, rfl, rfl, hT5⟩
              | false =>
                have hd : S.down = false := by
                  cases h : S.down
                  · rfl
                  · cases hT4.dn h
                obtain ⟨T, r, x2, o2, hcp⟩ : ∃ T r x2 o2, S.cput 1 last false bs' = (T, r, x2, o2) := ⟨_, _, _, _, rfl⟩
                obtain ⟨hrs, hn2, hok2, hdn2, ho2⟩ := cput_two hT4.ok hd hcp
                have hst := Put_any hT4.ce hW4 E' f' bs' hOff r o2 hcp
                have HRS := Lib.hid hrs
                have HD := Lib.hid hd
                have hcs : (r = 0 ∧ o2 = false) ∨ (r = 3 ∧ o2 = false) ∨ (r = 5 ∧ o2 = false) ∨ ((r : Int) ≠ 0 ∧ (r : Int) ≠ 3 ∧ (r : Int) ≠ 5 ∧ o2 = true) := by
                  by_cases h0 : r = 0
                  · subst h0; exact .inl ⟨rfl, by simpa using ho2⟩
                  · by_cases h3 : r = 3
                    · subst h3; exact .inr (.inl ⟨rfl, by simpa using ho2⟩)
                    · by_cases h5 : r = 5
                      · subst h5; exact .inr (.inr (.inl ⟨rfl, by simpa using ho2⟩))
                      · exact .inr (.inr (.inr ⟨by omega, by omega, by omega, by simpa [h0, h3, h5] using ho2⟩))
                clear hrs ho2 hcp hd hOff
                rcases hcs with ⟨rfl, rfl⟩ | ⟨rfl, rfl⟩ | ⟨rfl, rfl⟩ | ⟨n0, n3, n5, rfl⟩
                · go_wp2_with fail
                  refine hst.mono ?_
                  rintro e w5 ⟨rfl, hCe5, hx5⟩
                  have hW5 := (hT4.ce.base3 hW4 (Below.refl _ _) hx5).1
                  obtain ⟨hBx5, hRn5, hV5, hBel5⟩ := hT4.bd.half3 hx5 hT4.tg hT4.tb hT4.tv hT4.ce.lt.2
                  have hX5 := hX4'.b3 hx5 ngt ngp ngb hX4'.lt_size
                  have y0 : w5.cell? ⟨gx, 0, none⟩ = some (.int .i64 5) := hX5.cell (j := 0) rfl
                  have y1 : w5.cell? ⟨gx, 1, none⟩ = some (.int .i64 s') := hX5.cell (j := 1) rfl
                  have y2 : w5.cell? ⟨gx, 2, none⟩ = some (.int .i64 a') := hX5.cell (j := 2) rfl
                  have y3 : w5.cell? ⟨gx, 3, none⟩ = some (.slice E' bs'.length f') := hX5.cell (j := 3) rfl
                  have y4 : w5.cell? ⟨gx, 4, none⟩ = some (.slice A' m' d') := hX5.cell (j := 4) rfl
                  have y5 : w5.cell? ⟨gx, 5, none⟩ = some (.slice B' q' e') := hX5.cell (j := 5) rfl
                  have hrSt := rCPut_any hRn5 HD.out (hT4.bd.bs.nor.left_lt7) 1 hT4.bd.fits E' bs'.length f' bs' ((HX54.below hW5).more (Nat.le_trans hW4 hx5.size)) rfl hlE T _ HRS.out
                  have hWg := hT4.bd.lts.2.2.2.1
                  clear hst f0_ f1_ f2_ f3_ f4_ f5_ hX4 hB4
                  go_wp2_with (first
                    | (with_reducible refine wpList_load (o := ⟨some 91, _, _, _, _, _⟩) rfl (.tmp 9) 109 rfl gv 0 _ rfl (rdL 1 2) 2 rfl (by kernel_rfl) hV5.sees ?_)
                    | (with_reducible refine wpList_load (o := ⟨some 92, _, _, _, _, _⟩) rfl (.tmp 7) 105 rfl g 0 _ rfl (S.rL (some ⟨gb, 0, none⟩) c2) 5 rfl (by kernel_rfl) hBx5.sees ?_)
                    | (go_at_call 58; refine hrSt.mono ?_; rintro e w6 ⟨B2, c4, rfl, hTo, hB6⟩; have hF6 := hBx5.below hB6; have hB06 := Below.then_ hBel5 hB6)
                    | ((with_reducible refine wpList_store rfl rfl (.tmp 7) (.tmp 96) 105 rfl g 0 W.heap.size 105 5 (S.rL (some ⟨gb, 0, none⟩) c2) (T.rL B2 c4) rfl rfl 5 rfl (by kernel_rfl) hF6 (by omega) (allOne_out (by kernel_rfl)) W hB06 hWg ?_); intro w7 hF7 hB7 ho7 hz7; obtain ⟨gb4, rfl, hT7⟩ := hT4.then3 hx5 hCe5 hn2 hTo hB6 hF7 ho7 hB7 hok2 hdn2; clear hT4 hX4' hX5 hx5 hTo hB6 hF7 hB7 hF6 hB06 hBx5 hRn5 hV5 hBel5 hrSt))
                  go_meet
                  case rel => exact ⟨t, gb4, c4, x2, false, T, ((0 : Nat) : Int), rfl, rfl, rfl, rfl, hT7⟩
                · go_wp2_with fail
                  refine hst.mono ?_
                  rintro e w5 ⟨rfl, hCe5, hx5⟩
                  have hW5 := (hT4.ce.base3 hW4 (Below.refl _ _) hx5).1
                  obtain ⟨hBx5, hRn5, hV5, hBel5⟩ := hT4.bd.half3 hx5 hT4.tg hT4.tb hT4.tv hT4.ce.lt.2
                  have hX5 := hX4'.b3 hx5 ngt ngp ngb hX4'.lt_size
                  have y0 : w5.cell? ⟨gx, 0, none⟩ = some (.int .i64 5) := hX5.cell (j := 0) rfl
                  have y1 : w5.cell? ⟨gx, 1, none⟩ = some (.int .i64 s') := hX5.cell (j := 1) rfl
                  have y2 : w5.cell? ⟨gx, 2, none⟩ = some (.int .i64 a') := hX5.cell (j := 2) rfl
                  have y3 : w5.cell? ⟨gx, 3, none⟩ = some (.slice E' bs'.length f') := hX5.cell (j := 3) rfl
                  have y4 : w5.cell? ⟨gx, 4, none⟩ = some (.slice A' m' d') := hX5.cell (j := 4) rfl
                  have y5 : w5.cell? ⟨gx, 5, none⟩ = some (.slice B' q' e') := hX5.cell (j := 5) rfl
                  have hrSt := rCPut_any hRn5 HD.out (hT4.bd.bs.nor.left_lt7) 1 hT4.bd.fits E' bs'.length f' bs' ((HX54.below hW5).more (Nat.le_trans hW4 hx5.size)) rfl hlE T _ HRS.out
                  have hWg := hT4.bd.lts.2.2.2.1
                  clear hst f0_ f1_ f2_ f3_ f4_ f5_ hX4 hB4
                  go_wp2_with (first
                    | (with_reducible refine wpList_load (o := ⟨some 91, _, _, _, _, _⟩) rfl (.tmp 9) 109 rfl gv 0 _ rfl (rdL 1 2) 2 rfl (by kernel_rfl) hV5.sees ?_)
                    | (with_reducible refine wpList_load (o := ⟨some 92, _, _, _, _, _⟩) rfl (.tmp 7) 105 rfl g 0 _ rfl (S.rL (some ⟨gb, 0, none⟩) c2) 5 rfl (by kernel_rfl) hBx5.sees ?_)
                    | (go_at_call 58; refine hrSt.mono ?_; rintro e w6 ⟨B2, c4, rfl, hTo, hB6⟩; have hF6 := hBx5.below hB6; have hB06 := Below.then_ hBel5 hB6)
                    | ((with_reducible refine wpList_store rfl rfl (.tmp 7) (.tmp 96) 105 rfl g 0 W.heap.size 105 5 (S.rL (some ⟨gb, 0, none⟩) c2) (T.rL B2 c4) rfl rfl 5 rfl (by kernel_rfl) hF6 (by omega) (allOne_out (by kernel_rfl)) W hB06 hWg ?_); intro w7 hF7 hB7 ho7 hz7; obtain ⟨gb4, rfl, hT7⟩ := hT4.then3 hx5 hCe5 hn2 hTo hB6 hF7 ho7 hB7 hok2 hdn2; clear hT4 hX4' hX5 hx5 hTo hB6 hF7 hB7 hF6 hB06 hBx5 hRn5 hV5 hBel5 hrSt))
                  go_meet
                  case rel => exact ⟨t, gb4, c4, x2, false, T, ((3 : Nat) : Int), rfl, rfl, rfl, rfl, hT7⟩
                · go_wp2_with fail
                  refine hst.mono ?_
                  rintro e w5 ⟨rfl, hCe5, hx5⟩
                  have hW5 := (hT4.ce.base3 hW4 (Below.refl _ _) hx5).1
                  obtain ⟨hBx5, hRn5, hV5, hBel5⟩ := hT4.bd.half3 hx5 hT4.tg hT4.tb hT4.tv hT4.ce.lt.2
                  have hX5 := hX4'.b3 hx5 ngt ngp ngb hX4'.lt_size
                  have y0 : w5.cell? ⟨gx, 0, none⟩ = some (.int .i64 5) := hX5.cell (j := 0) rfl
                  have y1 : w5.cell? ⟨gx, 1, none⟩ = some (.int .i64 s') := hX5.cell (j := 1) rfl
                  have y2 : w5.cell? ⟨gx, 2, none⟩ = some (.int .i64 a') := hX5.cell (j := 2) rfl
                  have y3 : w5.cell? ⟨gx, 3, none⟩ = some (.slice E' bs'.length f') := hX5.cell (j := 3) rfl
                  have y4 : w5.cell? ⟨gx, 4, none⟩ = some (.slice A' m' d') := hX5.cell (j := 4) rfl
                  have y5 : w5.cell? ⟨gx, 5, none⟩ = some (.slice B' q' e') := hX5.cell (j := 5) rfl
                  have hrSt := rCPut_any hRn5 HD.out (hT4.bd.bs.nor.left_lt7) 1 hT4.bd.fits E' bs'.length f' bs' ((HX54.below hW5).more (Nat.le_trans hW4 hx5.size)) rfl hlE T _ HRS.out
                  have hWg := hT4.bd.lts.2.2.2.1
                  clear hst f0_ f1_ f2_ f3_ f4_ f5_ hX4 hB4
                  go_wp2_with (first
                    | (with_reducible refine wpList_load (o := ⟨some 91, _, _, _, _, _⟩) rfl (.tmp 9) 109 rfl gv 0 _ rfl (rdL 1 2) 2 rfl (by kernel_rfl) hV5.sees ?_)
                    | (with_reducible refine wpList_load (o := ⟨some 92, _, _, _, _, _⟩) rfl (.tmp 7) 105 rfl g 0 _ rfl (S.rL (some ⟨gb, 0, none⟩) c2) 5 rfl (by kernel_rfl) hBx5.sees ?_)
                    | (go_at_call 58; refine hrSt.mono ?_; rintro e w6 ⟨B2, c4, rfl, hTo, hB6⟩; have hF6 := hBx5.below hB6; have hB06 := Below.then_ hBel5 hB6)
                    | ((with_reducible refine wpList_store rfl rfl (.tmp 7) (.tmp 96) 105 rfl g 0 W.heap.size 105 5 (S.rL (some ⟨gb, 0, none⟩) c2) (T.rL B2 c4) rfl rfl 5 rfl (by kernel_rfl) hF6 (by omega) (allOne_out (by kernel_rfl)) W hB06 hWg ?_); intro w7 hF7 hB7 ho7 hz7; obtain ⟨gb4, rfl, hT7⟩ := hT4.then3 hx5 hCe5 hn2 hTo hB6 hF7 ho7 hB7 hok2 hdn2; clear hT4 hX4' hX5 hx5 hTo hB6 hF7 hB7 hF6 hB06 hBx5 hRn5 hV5 hBel5 hrSt))
                  go_meet
                  case rel => exact ⟨t, gb4, c4, x2, false, T, ((5 : Nat) : Int), rfl, rfl, rfl, rfl, hT7⟩
                · have b0 : (((r : Nat) : Int) != 0) = true := by simp; omega
                  have b3 : (((r : Nat) : Int) != 3) = true := by simp; omega
                  have b5 : (((r : Nat) : Int) != 5) = true := by simp; omega
                  go_wp2_with fail
                  refine hst.mono ?_
                  rintro e w5 ⟨rfl, hCe5, hx5⟩
                  have hW5 := (hT4.ce.base3 hW4 (Below.refl _ _) hx5).1
                  obtain ⟨hBx5, hRn5, hV5, hBel5⟩ := hT4.bd.half3 hx5 hT4.tg hT4.tb hT4.tv hT4.ce.lt.2
                  have hX5 := hX4'.b3 hx5 ngt ngp ngb hX4'.lt_size
                  have y0 : w5.cell? ⟨gx, 0, none⟩ = some (.int .i64 5) := hX5.cell (j := 0) rfl
                  have y1 : w5.cell? ⟨gx, 1, none⟩ = some (.int .i64 s') := hX5.cell (j := 1) rfl
                  have y2 : w5.cell? ⟨gx, 2, none⟩ = some (.int .i64 a') := hX5.cell (j := 2) rfl
                  have y3 : w5.cell? ⟨gx, 3, none⟩ = some (.slice E' bs'.length f') := hX5.cell (j := 3) rfl
                  have y4 : w5.cell? ⟨gx, 4, none⟩ = some (.slice A' m' d') := hX5.cell (j := 4) rfl
                  have y5 : w5.cell? ⟨gx, 5, none⟩ = some (.slice B' q' e') := hX5.cell (j := 5) rfl
                  have hrSt := rCPut_any hRn5 HD.out (hT4.bd.bs.nor.left_lt7) 1 hT4.bd.fits E' bs'.length f' bs' ((HX54.below hW5).more (Nat.le_trans hW4 hx5.size)) rfl hlE T _ HRS.out
                  have hWg := hT4.bd.lts.2.2.2.1
                  clear hst f0_ f1_ f2_ f3_ f4_ f5_ hX4 hB4
                  go_wp2_with (first
                    | (with_reducible refine wpList_load (o := ⟨some 91, _, _, _, _, _⟩) rfl (.tmp 9) 109 rfl gv 0 _ rfl (rdL 1 2) 2 rfl (by kernel_rfl) hV5.sees ?_)
                    | (with_reducible refine wpList_load (o := ⟨some 92, _, _, _, _, _⟩) rfl (.tmp 7) 105 rfl g 0 _ rfl (S.rL (some ⟨gb, 0, none⟩) c2) 5 rfl (by kernel_rfl) hBx5.sees ?_)
                    | (go_at_call 58; refine hrSt.mono ?_; rintro e w6 ⟨B2, c4, rfl, hTo, hB6⟩; have hF6 := hBx5.below hB6; have hB06 := Below.then_ hBel5 hB6)
                    | ((with_reducible refine wpList_store rfl rfl (.tmp 7) (.tmp 96) 105 rfl g 0 W.heap.size 105 5 (S.rL (some ⟨gb, 0, none⟩) c2) (T.rL B2 c4) rfl rfl 5 rfl (by kernel_rfl) hF6 (by omega) (allOne_out (by kernel_rfl)) W hB06 hWg ?_); intro w7 hF7 hB7 ho7 hz7; obtain ⟨gb4, rfl, hT7⟩ := hT4.then3 hx5 hCe5 hn2 hTo hB6 hF7 ho7 hB7 hok2 (fun _ => rfl); clear hT4 hX4' hX5 hx5 hTo hB6 hF7 hB7 hF6 hB06 hBx5 hRn5 hV5 hBel5 hrSt))
                  go_meet
                  case rel => exact ⟨t, gb4, c4, x2, true, T, (r : Int), rfl, rfl, rfl, rfl, hT7⟩
          · as_aux_lemma =>
              obtain rfl : k' = 6 := hk
              obtain ⟨T, hTe⟩ : ∃ T, S.arm s' = T := ⟨_, rfl⟩
              have hTn := Fl.arm_ok hT4.ok s'
              have hdn7 : T.down = true → over = true := fun e => hT4.dn (by rw [← hTe] at e; unfold Fl.arm at e; split at e <;> first | assumption | (rename_i h; rw [h] at e; cases e) | exact e)
              rw [hTe] at hTn
              have hAr := Arm_any hT4.bd.bs.nor s' (by have := HX5.out; omega)
              rw [hTe] at hAr
              go_wp2_with fail
              refine hAr.mono ?_
              rintro e w5 ⟨rfl, hN5, hx5⟩
              have hx53 := But3.of_but hx5 t
              have hD5 := hT4.bd.at_.turn hx5 hN5 hTn.1
              have hTy5 := hT4.ce.turn hx5 hD5
              obtain ⟨hBx5, hRn5, hV5, hBel5⟩ := hT4.bd.half3 hx53 hT4.tg hT4.tb hT4.tv hT4.ce.lt.2
              have hWg := hT4.bd.lts.2.2.2.1
              obtain ⟨lp4, lb4, lp5, lb5⟩ := hT4.bd.bs.nor.lt
              have hX5 := hX4'.b3 hx53 ngt ngp ngb hX4'.lt_size
              have y0 : w5.cell? ⟨gx, 0, none⟩ = some (.int .i64 6) := hX5.cell (j := 0) rfl
              have y1 : w5.cell? ⟨gx, 1, none⟩ = some (.int .i64 s') := hX5.cell (j := 1) rfl
              have y2 : w5.cell? ⟨gx, 2, none⟩ = some (.int .i64 a') := hX5.cell (j := 2) rfl
              have y3 : w5.cell? ⟨gx, 3, none⟩ = some (.slice E' bs'.length f') := hX5.cell (j := 3) rfl
              have y4 : w5.cell? ⟨gx, 4, none⟩ = some (.slice A' m' d') := hX5.cell (j := 4) rfl
              have y5 : w5.cell? ⟨gx, 5, none⟩ = some (.slice B' q' e') := hX5.cell (j := 5) rfl
              have HX15 := (HX14.below (hx5.below lp5 lb5 hW4)).more (Nat.le_trans hW4 hx5.size)
              have HX35 := (HX34.below (hx5.below lp5 lb5 hW4)).more (Nat.le_trans hW4 hx5.size)
              clear f0_ f1_ f2_ f3_ f4_ f5_ hX4 hB4
              go_wp2_with (first
                | (with_reducible refine wpList_load (o := ⟨some 114, _, _, _, _, _⟩) rfl (.tmp 7) 105 rfl g 0 _ rfl (S.rL (some ⟨gb, 0, none⟩) c2) 5 rfl (by kernel_rfl) hBx5.sees ?_))
              have hAr2 := rArm_any (A := some ⟨gb, 0, none⟩) (c := c2) s' S w5
              rw [hTe] at hAr2
              refine hAr2.mono ?_
              rintro e w6 ⟨rfl, hB6⟩
              have hTo := arm_to hRn5 hB6 s' hTe
              have hF6 := hBx5.below hB6
              have hB06 := Below.then_ hBel5 hB6
              have hX6 := hX5.below hB6
              go_wp2_with (first
                | ((with_reducible refine wpList_store rfl rfl (.tmp 7) (.tmp 117) 105 rfl g 0 W.heap.size 105 5 (S.rL (some ⟨gb, 0, none⟩) c2) (T.rL (some ⟨gb, 0, none⟩) c2) rfl rfl 5 rfl (by kernel_rfl) hF6 (by omega) (allOne_out (by kernel_rfl)) W hB06 hWg ?_); intro w7 hF7 hB7 ho7 hz7; obtain ⟨gb2, eB, hT7⟩ := hT4.then3 hx53 hTy5 hTn.1 hTo hB6 hF7 ho7 hB7 hTn.2 hdn7))
              go_meet
              case rel => exact ⟨t, gb2, c2, last, over, T, 0, rfl, rfl, rfl, rfl, hT7⟩
          · as_aux_lemma =>
              obtain rfl : k' = 7 := hk
              obtain ⟨T, hTe⟩ : ∃ T, S.crash ks' = T := ⟨_, rfl⟩
              have hTn := Fl.crash_ok S ks'
              have hup := (S.crash_up7 ks')
              rw [hTe] at hTn hup
              have hdn7 : T.down = true → over = true := fun e => by rw [hup] at e; cases e
              have hAr := Crash_any hT4.bd.bs.nor hT4.ok B' q' e' ks' hW4 HX34 HX4.out
              rw [hTe] at hAr
              go_wp2_with fail
              refine hAr.mono ?_
              rintro e w5 ⟨rfl, hN5, hx5⟩
              have hx53 := But3.of_but hx5 t
              have hD5 := hT4.bd.at_.turn hx5 hN5 hTn.1
              have hTy5 := hT4.ce.turn hx5 hD5
              obtain ⟨hBx5, hRn5, hV5, hBel5⟩ := hT4.bd.half3 hx53 hT4.tg hT4.tb hT4.tv hT4.ce.lt.2
              have hWg := hT4.bd.lts.2.2.2.1
              obtain ⟨lp4, lb4, lp5, lb5⟩ := hT4.bd.bs.nor.lt
              have hX5 := hX4'.b3 hx53 ngt ngp ngb hX4'.lt_size
              have y0 : w5.cell? ⟨gx, 0, none⟩ = some (.int .i64 7) := hX5.cell (j := 0) rfl
              have y1 : w5.cell? ⟨gx, 1, none⟩ = some (.int .i64 s') := hX5.cell (j := 1) rfl
              have y2 : w5.cell? ⟨gx, 2, none⟩ = some (.int .i64 a') := hX5.cell (j := 2) rfl
              have y3 : w5.cell? ⟨gx, 3, none⟩ = some (.slice E' bs'.length f') := hX5.cell (j := 3) rfl
              have y4 : w5.cell? ⟨gx, 4, none⟩ = some (.slice A' m' d') := hX5.cell (j := 4) rfl
              have y5 : w5.cell? ⟨gx, 5, none⟩ = some (.slice B' q' e') := hX5.cell (j := 5) rfl
              have HX15 := (HX14.below (hx5.below lp5 lb5 hW4)).more (Nat.le_trans hW4 hx5.size)
              have HX35 := (HX34.below (hx5.below lp5 lb5 hW4)).more (Nat.le_trans hW4 hx5.size)
              clear f0_ f1_ f2_ f3_ f4_ f5_ hX4 hB4
              go_wp2_with (first
                | (with_reducible refine wpList_load (o := ⟨some 148, _, _, _, _, _⟩) rfl (.tmp 7) 105 rfl g 0 _ rfl (S.rL (some ⟨gb, 0, none⟩) c2) 5 rfl (by kernel_rfl) hBx5.sees ?_))
              have hAr2 := rCrash_any hRn5 hT4.ok hT4.bd.bs.n1 B' q' e' (by omega) ks' HX35 HX4.out
              rw [hTe] at hAr2
              refine hAr2.mono ?_
              rintro e w6 ⟨B2, c3, rfl, hTo, hB6⟩
              have hF6 := hBx5.below hB6
              have hB06 := Below.then_ hBel5 hB6
              have hX6 := hX5.below hB6
              go_wp2_with (first
                | ((with_reducible refine wpList_store rfl rfl (.tmp 7) (.tmp 151) 105 rfl g 0 W.heap.size 105 5 (S.rL (some ⟨gb, 0, none⟩) c2) (T.rL B2 c3) rfl rfl 5 rfl (by kernel_rfl) hF6 (by omega) (allOne_out (by kernel_rfl)) W hB06 hWg ?_); intro w7 hF7 hB7 ho7 hz7; obtain ⟨gb2, rfl, hT7⟩ := hT4.then3 hx53 hTy5 hTn.1 hTo hB6 hF7 ho7 hB7 hTn.2 hdn7; have hX7 := hX6.other ngg ho7; clear hT4 hX4' hX5 hX6 hTy5 hx53 hx5 hTo hB6 hF7 hB7 hF6 hB06 hBx5 hRn5 hV5 hBel5 hN5 hD5))
              have hW7 := hT7.bd.bs.below.size
              cases hdw : T.down with
              | true =>
                obtain rfl : over = true := hdn7 hdw
                have hop := COpen_down hT7.bd.at_ hdw hW7
                have HRO := Lib.hid (fun (w' : World) (x : Below w7.heap.size w7 w') => rCOpen_any (hT7.bd.bs.rn.step x) 1 hT7.bd.fits 40 (by simp [hdw]))
                go_wp2_with fail
                refine hop.mono ?_
                rintro e w8 ⟨rfl, hB8⟩
                have hT8 := hT7.step hB8
                go_wp2_with (first
                  | (with_reducible refine wpList_load (o := ⟨some 158, _, _, _, _, _⟩) rfl (.tmp 9) 109 rfl gv 0 _ rfl (rdL 1 2) 2 rfl (by kernel_rfl) hT8.bd.v.sees ?_)
                  | (with_reducible refine wpList_load (o := ⟨some 159, _, _, _, _, _⟩) rfl (.tmp 7) 105 rfl g 0 _ rfl (T.rL (some ⟨gb2, 0, none⟩) c3) 5 rfl (by kernel_rfl) hT8.bd.bs.box.sees ?_)
                  | (go_at_call 63; refine (HRO.out _ hB8).mono ?_; rintro e w9 ⟨rfl, hB9⟩))
                go_meet
                case rel => exact ⟨t, gb2, c3, last, true, T, 0, rfl, rfl, rfl, rfl, hT8.step hB9⟩
              | false =>
                obtain ⟨cc, hcc⟩ : ∃ cc, T.clook 1 = cc := ⟨_, rfl⟩
                have hop := COpen_yes hT7.bd.at_ hdw hW7 cc hcc
                have HRO := Lib.hid (fun (w' : World) (x : Below w7.heap.size w7 w') => rCOpen_any (hT7.bd.bs.rn.step x) 1 hT7.bd.fits 0 (by simp [hdw]))
                go_wp2_with fail
                refine hop.mono ?_
                rintro e w8 ⟨u2, rfl, hTy8, hB8, hu2⟩
                have hT8 := hT7.fresh hB8 hTy8 hu2 hdw
                go_wp2_with (first
                  | (with_reducible refine wpList_load (o := ⟨some 158, _, _, _, _, _⟩) rfl (.tmp 9) 109 rfl gv 0 _ rfl (rdL 1 2) 2 rfl (by kernel_rfl) hT8.bd.v.sees ?_)
                  | (with_reducible refine wpList_load (o := ⟨some 159, _, _, _, _, _⟩) rfl (.tmp 7) 105 rfl g 0 _ rfl (T.rL (some ⟨gb2, 0, none⟩) c3) 5 rfl (by kernel_rfl) hT8.bd.bs.box.sees ?_)
                  | (go_at_call 63; refine (HRO.out _ hB8).mono ?_; rintro e w9 ⟨rfl, hB9⟩))
                go_meet
                case rel => exact ⟨u2, gb2, c3, cc, false, T, 0, rfl, rfl, rfl, rfl, hT8.step hB9⟩
          · as_aux_lemma =>
              obtain rfl : k' = 8 := hk
              obtain ⟨T, hTe⟩ : ∃ T, S.crash ks' = T := ⟨_, rfl⟩
              have hTn := Fl.crash_ok S ks'
              have hup := (S.crash_up7 ks')
              rw [hTe] at hTn hup
              have hdn7 : T.down = true → over = true := fun e => by rw [hup] at e; cases e
              have hAr := Crash_any hT4.bd.bs.nor hT4.ok B' q' e' ks' hW4 HX34 HX4.out
              rw [hTe] at hAr
              go_wp2_with fail
              refine hAr.mono ?_
              rintro e w5 ⟨rfl, hN5, hx5⟩
              have hx53 := But3.of_but hx5 t
              have hD5 := hT4.bd.at_.turn hx5 hN5 hTn.1
              have hTy5 := hT4.ce.turn hx5 hD5
              obtain ⟨hBx5, hRn5, hV5, hBel5⟩ := hT4.bd.half3 hx53 hT4.tg hT4.tb hT4.tv hT4.ce.lt.2
              have hWg := hT4.bd.lts.2.2.2.1
              obtain ⟨lp4, lb4, lp5, lb5⟩ := hT4.bd.bs.nor.lt
              have hX5 := hX4'.b3 hx53 ngt ngp ngb hX4'.lt_size
              have y0 : w5.cell? ⟨gx, 0, none⟩ = some (.int .i64 8) := hX5.cell (j := 0) rfl
              have y1 : w5.cell? ⟨gx, 1, none⟩ = some (.int .i64 s') := hX5.cell (j := 1) rfl
              have y2 : w5.cell? ⟨gx, 2, none⟩ = some (.int .i64 a') := hX5.cell (j := 2) rfl
              have y3 : w5.cell? ⟨gx, 3, none⟩ = some (.slice E' bs'.length f') := hX5.cell (j := 3) rfl
              have y4 : w5.cell? ⟨gx, 4, none⟩ = some (.slice A' m' d') := hX5.cell (j := 4) rfl
              have y5 : w5.cell? ⟨gx, 5, none⟩ = some (.slice B' q' e') := hX5.cell (j := 5) rfl
              have HX15 := (HX14.below (hx5.below lp5 lb5 hW4)).more (Nat.le_trans hW4 hx5.size)
              have HX35 := (HX34.below (hx5.below lp5 lb5 hW4)).more (Nat.le_trans hW4 hx5.size)
              clear f0_ f1_ f2_ f3_ f4_ f5_ hX4 hB4
              go_wp2_with (first
                | (with_reducible refine wpList_load (o := ⟨some 148, _, _, _, _, _⟩) rfl (.tmp 7) 105 rfl g 0 _ rfl (S.rL (some ⟨gb, 0, none⟩) c2) 5 rfl (by kernel_rfl) hBx5.sees ?_))
              have hAr2 := rCrash_any hRn5 hT4.ok hT4.bd.bs.n1 B' q' e' (by omega) ks' HX35 HX4.out
              rw [hTe] at hAr2
              refine hAr2.mono ?_
              rintro e w6 ⟨B2, c3, rfl, hTo, hB6⟩
              have hF6 := hBx5.below hB6
              have hB06 := Below.then_ hBel5 hB6
              have hX6 := hX5.below hB6
              go_wp2_with (first
                | ((with_reducible refine wpList_store rfl rfl (.tmp 7) (.tmp 151) 105 rfl g 0 W.heap.size 105 5 (S.rL (some ⟨gb, 0, none⟩) c2) (T.rL B2 c3) rfl rfl 5 rfl (by kernel_rfl) hF6 (by omega) (allOne_out (by kernel_rfl)) W hB06 hWg ?_); intro w7 hF7 hB7 ho7 hz7; obtain ⟨gb2, rfl, hT7⟩ := hT4.then3 hx53 hTy5 hTn.1 hTo hB6 hF7 ho7 hB7 hTn.2 hdn7; have hX7 := hX6.other ngg ho7; clear hT4 hX4' hX5 hX6 hTy5 hx53 hx5 hTo hB6 hF7 hB7 hF6 hB06 hBx5 hRn5 hV5 hBel5 hN5 hD5))
              have hW7 := hT7.bd.bs.below.size
              cases hdw : T.down with
              | true =>
                obtain rfl : over = true := hdn7 hdw
                have hop := COpen_down hT7.bd.at_ hdw hW7
                have HRO := Lib.hid (fun (w' : World) (x : Below w7.heap.size w7 w') => rCOpen_any (hT7.bd.bs.rn.step x) 1 hT7.bd.fits 40 (by simp [hdw]))
                go_wp2_with fail
                refine hop.mono ?_
                rintro e w8 ⟨rfl, hB8⟩
                have hT8 := hT7.step hB8
                go_wp2_with (first
                  | (with_reducible refine wpList_load (o := ⟨some 158, _, _, _, _, _⟩) rfl (.tmp 9) 109 rfl gv 0 _ rfl (rdL 1 2) 2 rfl (by kernel_rfl) hT8.bd.v.sees ?_)
                  | (with_reducible refine wpList_load (o := ⟨some 159, _, _, _, _, _⟩) rfl (.tmp 7) 105 rfl g 0 _ rfl (T.rL (some ⟨gb2, 0, none⟩) c3) 5 rfl (by kernel_rfl) hT8.bd.bs.box.sees ?_)
                  | (go_at_call 63; refine (HRO.out _ hB8).mono ?_; rintro e w9 ⟨rfl, hB9⟩))
                go_meet
                case rel => exact ⟨t, gb2, c3, last, true, T, 0, rfl, rfl, rfl, rfl, hT8.step hB9⟩
              | false =>
                obtain ⟨cc, hcc⟩ : ∃ cc, T.clook 1 = cc := ⟨_, rfl⟩
                have hop := COpen_yes hT7.bd.at_ hdw hW7 cc hcc
                have HRO := Lib.hid (fun (w' : World) (x : Below w7.heap.size w7 w') => rCOpen_any (hT7.bd.bs.rn.step x) 1 hT7.bd.fits 0 (by simp [hdw]))
                go_wp2_with fail
                refine hop.mono ?_
                rintro e w8 ⟨u2, rfl, hTy8, hB8, hu2⟩
                have hT8 := hT7.fresh hB8 hTy8 hu2 hdw
                go_wp2_with (first
                  | (with_reducible refine wpList_load (o := ⟨some 158, _, _, _, _, _⟩) rfl (.tmp 9) 109 rfl gv 0 _ rfl (rdL 1 2) 2 rfl (by kernel_rfl) hT8.bd.v.sees ?_)
                  | (with_reducible refine wpList_load (o := ⟨some 159, _, _, _, _, _⟩) rfl (.tmp 7) 105 rfl g 0 _ rfl (T.rL (some ⟨gb2, 0, none⟩) c3) 5 rfl (by kernel_rfl) hT8.bd.bs.box.sees ?_)
                  | (go_at_call 63; refine (HRO.out _ hB8).mono ?_; rintro e w9 ⟨rfl, hB9⟩))
                go_meet
                case rel => exact ⟨u2, gb2, c3, cc, false, T, 0, rfl, rfl, rfl, rfl, hT8.step hB9⟩
          · as_aux_lemma =>
              obtain rfl : k' = 9 := hk
              obtain ⟨T, r, hr⟩ : ∃ T r, S.rewrite s' a' l' = (T, r) := ⟨_, _, rfl⟩
              have hTn := Fl.rewrite_ok hT4.ok hr
              have hdn7 : T.down = true → over = true := fun e => hT4.dn (by rw [← rewrite_down7 hr]; exact e)
              have HR := Lib.hid hr
              clear hr
              have hAr := Rewrite_any hT4.bd.bs.nor s' a' HX6.out m' d' A' l' hW4 HX14 HX2.out T r HR.out
              go_wp2_with fail
              refine hAr.mono ?_
              rintro e w5 ⟨rfl, hN5, hx5⟩
              have hx53 := But3.of_but hx5 t
              have hD5 := hT4.bd.at_.turn hx5 hN5 hTn.1
              have hTy5 := hT4.ce.turn hx5 hD5
              obtain ⟨hBx5, hRn5, hV5, hBel5⟩ := hT4.bd.half3 hx53 hT4.tg hT4.tb hT4.tv hT4.ce.lt.2
              have hWg := hT4.bd.lts.2.2.2.1
              obtain ⟨lp4, lb4, lp5, lb5⟩ := hT4.bd.bs.nor.lt
              have hX5 := hX4'.b3 hx53 ngt ngp ngb hX4'.lt_size
              have y0 : w5.cell? ⟨gx, 0, none⟩ = some (.int .i64 9) := hX5.cell (j := 0) rfl
              have y1 : w5.cell? ⟨gx, 1, none⟩ = some (.int .i64 s') := hX5.cell (j := 1) rfl
              have y2 : w5.cell? ⟨gx, 2, none⟩ = some (.int .i64 a') := hX5.cell (j := 2) rfl
              have y3 : w5.cell? ⟨gx, 3, none⟩ = some (.slice E' bs'.length f') := hX5.cell (j := 3) rfl
              have y4 : w5.cell? ⟨gx, 4, none⟩ = some (.slice A' m' d') := hX5.cell (j := 4) rfl
              have y5 : w5.cell? ⟨gx, 5, none⟩ = some (.slice B' q' e') := hX5.cell (j := 5) rfl
              have HX15 := (HX14.below (hx5.below lp5 lb5 hW4)).more (Nat.le_trans hW4 hx5.size)
              have HX35 := (HX34.below (hx5.below lp5 lb5 hW4)).more (Nat.le_trans hW4 hx5.size)
              clear f0_ f1_ f2_ f3_ f4_ f5_ hX4 hB4
              go_wp2_with (first
                | (with_reducible refine wpList_load (o := ⟨some 134, _, _, _, _, _⟩) rfl (.tmp 7) 105 rfl g 0 _ rfl (S.rL (some ⟨gb, 0, none⟩) c2) 5 rfl (by kernel_rfl) hBx5.sees ?_))
              refine (rRewrite_any hRn5 s' a' HX6.out m' d' (by omega) A' l' HX15 HX2.out T r HR.out).mono ?_
              rintro e w6 ⟨B2, c3, rfl, hTo, hB6⟩
              have hF6 := hBx5.below hB6
              have hB06 := Below.then_ hBel5 hB6
              have hX6 := hX5.below hB6
              go_wp2_with (first
                | ((with_reducible refine wpList_store rfl rfl (.tmp 7) (.tmp 142) 105 rfl g 0 W.heap.size 105 5 (S.rL (some ⟨gb, 0, none⟩) c2) (T.rL B2 c3) rfl rfl 5 rfl (by kernel_rfl) hF6 (by omega) (allOne_out (by kernel_rfl)) W hB06 hWg ?_); intro w7 hF7 hB7 ho7 hz7; obtain ⟨gb2, rfl, hT7⟩ := hT4.then3 hx53 hTy5 hTn.1 hTo hB6 hF7 ho7 hB7 hTn.2 hdn7; have hX7 := hX6.other ngg ho7; clear hT4 hX4' hX5 hX6 hTy5 hx53 hx5 hTo hB6 hF7 hB7 hF6 hB06 hBx5 hRn5 hV5 hBel5 hN5 hD5))
              have hW7 := hT7.bd.bs.below.size
              cases hdw : T.down with
              | true =>
                obtain rfl : over = true := hdn7 hdw
                have hop := COpen_down hT7.bd.at_ hdw hW7
                have HRO := Lib.hid (fun (w' : World) (x : Below w7.heap.size w7 w') => rCOpen_any (hT7.bd.bs.rn.step x) 1 hT7.bd.fits 40 (by simp [hdw]))
                go_wp2_with fail
                refine hop.mono ?_
                rintro e w8 ⟨rfl, hB8⟩
                have hT8 := hT7.step hB8
                go_wp2_with (first
                  | (with_reducible refine wpList_load (o := ⟨some 158, _, _, _, _, _⟩) rfl (.tmp 9) 109 rfl gv 0 _ rfl (rdL 1 2) 2 rfl (by kernel_rfl) hT8.bd.v.sees ?_)
                  | (with_reducible refine wpList_load (o := ⟨some 159, _, _, _, _, _⟩) rfl (.tmp 7) 105 rfl g 0 _ rfl (T.rL (some ⟨gb2, 0, none⟩) c3) 5 rfl (by kernel_rfl) hT8.bd.bs.box.sees ?_)
                  | (go_at_call 63; refine (HRO.out _ hB8).mono ?_; rintro e w9 ⟨rfl, hB9⟩))
                go_meet
                case rel => exact ⟨t, gb2, c3, last, true, T, 0, rfl, rfl, rfl, rfl, hT8.step hB9⟩
              | false =>
                obtain ⟨cc, hcc⟩ : ∃ cc, T.clook 1 = cc := ⟨_, rfl⟩
                have hop := COpen_yes hT7.bd.at_ hdw hW7 cc hcc
                have HRO := Lib.hid (fun (w' : World) (x : Below w7.heap.size w7 w') => rCOpen_any (hT7.bd.bs.rn.step x) 1 hT7.bd.fits 0 (by simp [hdw]))
                go_wp2_with fail
                refine hop.mono ?_
                rintro e w8 ⟨u2, rfl, hTy8, hB8, hu2⟩
                have hT8 := hT7.fresh hB8 hTy8 hu2 hdw
                go_wp2_with (first
                  | (with_reducible refine wpList_load (o := ⟨some 158, _, _, _, _, _⟩) rfl (.tmp 9) 109 rfl gv 0 _ rfl (rdL 1 2) 2 rfl (by kernel_rfl) hT8.bd.v.sees ?_)
                  | (with_reducible refine wpList_load (o := ⟨some 159, _, _, _, _, _⟩) rfl (.tmp 7) 105 rfl g 0 _ rfl (T.rL (some ⟨gb2, 0, none⟩) c3) 5 rfl (by kernel_rfl) hT8.bd.bs.box.sees ?_)
                  | (go_at_call 63; refine (HRO.out _ hB8).mono ?_; rintro e w9 ⟨rfl, hB9⟩))
                go_meet
                case rel => exact ⟨u2, gb2, c3, cc, false, T, 0, rfl, rfl, rfl, rfl, hT8.step hB9⟩
          · as_aux_lemma =>
              have q1 : (k' == 1) = false := by simp; omega
              have q2 : (k' == 2) = false := by simp; omega
              have q3 : (k' == 3) = false := by simp; omega
              have q4 : (k' == 4) = false := by simp; omega
              have q5 : (k' == 5) = false := by simp; omega
              have q6 : (k' == 6) = false := by simp; omega
              have q7 : (k' == 7) = false := by simp; omega
              have q8 : (k' == 8) = false := by simp; omega
              have q9 : (k' == 9) = false := by simp; omega
              go_wp2_with fail
              go_meet
              case rel => exact ⟨t, gb, c2, last, over, S, 0, rfl, rfl, rfl, rfl, hT4⟩
        case rest =>
          as_aux_lemma =>
            obtain ⟨t7, gb7, c7, last7, over7, T, z, rfl, rfl, rfl, rfl, hT7⟩ := hcut
            clear hT hT4 hX4 hX4' HX1 HX3 HX8 HX14 HX34 HX54 hB4 f0_ f1_ f2_ f3_ f4_ f5_
            have hne : (z != z) = false := by simp
            cases over7 with
            | true =>
              obtain ⟨X, hX⟩ : ∃ X, T.rclook 1 = X := ⟨_, rfl⟩
              have HX := Lib.hid hX
              have HG : Hid (∀ w', CeAt W.heap.size w' t7 d p b 1 T last7 true → W.heap.size ≤ w'.heap.size → Calls Try.prog 52 #[.pointer (some ⟨t7, 0, none⟩)] w' fun e w2 => ∃ A cp, e = .returned (.tuple #[.slice A last7.b.length cp, .bool (last7.s != -1)]) ∧ Fresh w'.heap.size 5 w2 A last7.b.length cp (cb last7.b) ∧ CeAt W.heap.size w2 t7 d p b 1 T last7 true ∧ But t7 t7 w' w2) := Lib.hid fun w' y hb => Get_any y hb last7 (by simp [Fl.ctold])
              clear hX
              go_wp2_with (first
                | (with_reducible refine wpList_load (o := ⟨some 173, _, _, _, _, _⟩) rfl (.tmp 9) 109 rfl gv 0 _ rfl (rdL 1 2) 2 rfl (by kernel_rfl) hT7.bd.v.sees ?_)
                | (with_reducible refine wpList_load (o := ⟨some 174, _, _, _, _, _⟩) rfl (.tmp 7) 105 rfl g 0 _ rfl (T.rL (some ⟨gb7, 0, none⟩) c7) 5 rfl (by kernel_rfl) hT7.bd.bs.box.sees ?_)
                | (go_at_call 64; refine (rCLook_any hT7.bd.bs.rn 1 hT7.bd.fits X HX.out).mono ?_; rintro e w8 ⟨A2, n2, k2, rfl, hF8, hn8, hB8⟩; obtain rfl := hn8; have hT8 := hT7.step hB8; have hz8 := hT8.bd.bs.below.size)
                | (go_at_call 52; refine (HG.out _ hT8.ce hz8).mono ?_; rintro e w9 ⟨A9, k9, rfl, hF9, hCe9, hx9⟩; have hT9 := hT8.only3 (But3.of_own hx9 p b) hCe9 rfl; have lt7 := hT7.ce.lt.1; have lt8 := hT8.ce.lt.1)
                | (go_at_call 65; refine (COver_any hT9.ce).mono ?_; rintro e wo ⟨rfl, rfl⟩)
                | (with_reducible refine wpList_load_g (o := ⟨some 217, _, _, _, _, _⟩) (.tmp 7) 105 rfl g 0 _ rfl (T.rL (some ⟨gb7, 0, none⟩) c7) 5 rfl (by kernel_rfl) hT9.bd.bs.box.sees (wanted_at rfl rfl rfl) ?_)
                | (go_at_call 66; refine (SameNor_any hT9.bd.bs.nor hT9.bd.bs.rn).mono ?_; rintro e wz ⟨rfl, hBz⟩))
              go_roundw
              case rel => exact ⟨k + 1, t7, gb7, c7, last7, true, T, by omega, by omega, rfl, rfl, by go_num, hT9.step hBz⟩
              case measure => simp [intOf]; omega
            | false =>
              have hd : T.down = false := by
                cases h : T.down
                · rfl
                · cases hT7.dn h
              obtain ⟨X, hX⟩ : ∃ X, T.clook 1 = X := ⟨_, rfl⟩
              have HX : Hid (T.rclook 1 = X) := Lib.hid (by simp [Fl.rclook, hd, hX])
              have hXs := (clook_ok T 1).s
              rw [hX] at hXs
              obtain ⟨bo, hbo⟩ : ∃ bo, (X.s != -1) = bo := ⟨_, rfl⟩
              have hge : decide ((0 : Int) ≤ X.s) = bo := by rw [← hbo]; rcases hXs with e | e | e <;> rw [e] <;> rfl
              have hbb : (bo != bo) = false := by cases bo <;> rfl
              have hne2 : (((X.t : Nat) : Int) != (X.t : Int)) = false := by simp
              have HG : Hid (∀ w', CeAt W.heap.size w' t7 d p b 1 T last7 false → W.heap.size ≤ w'.heap.size → Calls Try.prog 52 #[.pointer (some ⟨t7, 0, none⟩)] w' fun e w2 => ∃ A cp, e = .returned (.tuple #[.slice A X.b.length cp, .bool bo]) ∧ Fresh w'.heap.size 5 w2 A X.b.length cp (cb X.b) ∧ CeAt W.heap.size w2 t7 d p b 1 T X false ∧ But t7 t7 w' w2) := Lib.hid fun w' y hb => by
                have := Get_any y hb X (by simp [Fl.ctold, hd, hX])
                rw [hbo] at this
                exact this
              have HT : Hid (T.ctold 1 X false = X) := Lib.hid (by simp [Fl.ctold, hd, hX])
              clear hd hX hXs hbo
              go_wp2_with (first
                | (with_reducible refine wpList_load (o := ⟨some 173, _, _, _, _, _⟩) rfl (.tmp 9) 109 rfl gv 0 _ rfl (rdL 1 2) 2 rfl (by kernel_rfl) hT7.bd.v.sees ?_)
                | (with_reducible refine wpList_load (o := ⟨some 174, _, _, _, _, _⟩) rfl (.tmp 7) 105 rfl g 0 _ rfl (T.rL (some ⟨gb7, 0, none⟩) c7) 5 rfl (by kernel_rfl) hT7.bd.bs.box.sees ?_)
                | (go_at_call 64; refine (rCLook_any hT7.bd.bs.rn 1 hT7.bd.fits X HX.out).mono ?_; rintro e w8 ⟨A2, n2, k2, rfl, hF8, hn8, hB8⟩; obtain rfl := hn8; have hT8 := hT7.step hB8; have hz8 := hT8.bd.bs.below.size)
                | (go_at_call 52; refine (HG.out _ hT8.ce hz8).mono ?_; rintro e w9 ⟨A9, k9, rfl, hF9, hCe9, hx9⟩; have hT9 := hT8.only3 (But3.of_own hx9 p b) hCe9 rfl; have lt7 := hT7.ce.lt.1; have lt8 := hT8.ce.lt.1)
                | (go_at_call 65; refine (COver_any hT9.ce).mono ?_; rintro e wo ⟨rfl, rfl⟩)
                | (go_at_call 53; refine (CTurn_any hT9.ce hT9.bd.bs.below.size X HT.out).mono ?_; rintro e wt ⟨rfl, hCet, hxt⟩; have hTt := hT9.only3 (But3.of_own hxt p b) hCet rfl; have hs2 := ((hF8.butC hx9 lt7 lt7).butC hxt lt7 lt7).sees; have hs9 := (hF9.butC hxt lt8 lt8).sees)
                | (go_at_call 18; refine (SameBytes_any A9 A2 _ _ _ _ X.b X.b _ hs9 hs2 rfl rfl).mono ?_; rintro e wq ⟨rfl, rfl⟩; rw [show (X.b == X.b) = true from by simp])
                | (with_reducible refine wpList_load_g (o := ⟨some 217, _, _, _, _, _⟩) (.tmp 7) 105 rfl g 0 _ rfl (T.rL (some ⟨gb7, 0, none⟩) c7) 5 rfl (by kernel_rfl) hTt.bd.bs.box.sees (wanted_at rfl rfl rfl) ?_)
                | (go_at_call 66; refine (SameNor_any hTt.bd.bs.nor hTt.bd.bs.rn).mono ?_; rintro e wz ⟨rfl, hBz⟩))
              go_roundw
              case rel => exact ⟨k + 1, t7, gb7, c7, X, false, T, by omega, by omega, rfl, rfl, by go_num, hTt.step hBz⟩
              case measure => simp [intOf]; omega
      · obtain rfl : k = 40 := by omega
        go_wp2_with fail
        refine (awake7_any _).mono ?_
        rintro e w5 ⟨rfl, hB5⟩
        go_wp2_with fail
        go_ret
        exact ⟨rfl, Below.then_ hT.bd.bs.below hB5⟩
    · obtain rfl : k = N := by omega
      go_wp2_with fail
      refine (awake7_any _).mono ?_
      rintro e w5 ⟨rfl, hB5⟩
      go_wp2_with fail
      go_ret
      exact ⟨rfl, Below.then_ hT.bd.bs.below hB5⟩
theorem cplays_law (W : World) (a0 : Option Addr) (len0 cap0 : Nat) (o0 : List Ob) (e0 : o0.length = len0) (s0 : Sees W W.heap.size a0 (obs o0)) (w0 : ∀ p ∈ o0, p.Ok W.heap.size W) :
    Calls Try.prog 11 #[.slice a0 len0 cap0] W fun e w' => e = .returned (.bool true) ∧ Below W.heap.size W w' := cplays_walk W a0 len0 cap0 o0 e0 s0 w0
end Go.Proofs.Ytpdfalgjmeagjaa
