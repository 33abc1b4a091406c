/-
  TallyPlays returns true for every input, and writes nothing that was there: the walk.
-/
import Derived.Test.YtcfjbllmaejiaaaTallyBeside
import Derived.Test.YtcfjbllmaejiaaaOpen6
import Derived.Deep.CutBlock
namespace Go.Proofs.Ytcfjbllmaejiaaa
open Go.RowKit
set_option linter.unusedVariables false
theorem Fl.crash_up6 (S : Fl) (ks : List Bool) : (S.crash ks).down = false := by
  unfold Fl.crash
  split <;> rfl
theorem rewrite_down6 {S T : Fl} {s a : Int} {l : List UInt32} {r : Nat} (h : S.rewrite s a l = (T, r)) : T.down = S.down := by
  unfold Fl.rewrite at h
  split at h <;> (simp only [Prod.mk.injEq] at h; rw [← h.1])
/-- A tally beside the document's own flash and drive. -/
structure TB (W w : World) (p b g gb c d gv t last : Nat) (over : Bool) (S : Fl) : Prop where
  bd : BesideD W w p b g gb c d gv 1 2 S
  ty : TyAt W.heap.size w t d p b 1 S last over
  tg : t ≠ g
  tb : t ≠ gb
  tv : t ≠ gv
  ok : S.Ok
  dn : S.down = true → over = true
section
variable {W w w1 w2 w3 : World} {p b g gb c c3 d gv t last last2 : Nat} {over over2 : Bool} {S T : Fl}
theorem TB.step (h : TB W w p b g gb c d gv t last over S) (x : Below w.heap.size w w1) : TB W w1 p b g gb c d gv t last over S := ⟨h.bd.step x, h.ty.below x, h.tg, h.tb, h.tv, h.ok, h.dn⟩
theorem TB.then3 (h : TB W w p b g gb c d gv t last over S) (x : But3 t p b w w1) (hTy : TyAt W.heap.size w1 t d p b 1 T last2 over2) (hn : T.n = S.n) {B : Option Addr} (hT : RnTo w1 w2 (some ⟨gb, 0, none⟩) B c c3 S T) (y : Below w1.heap.size w1 w2)
    (hF : Fresh W.heap.size 30 w3 (some ⟨g, 0, none⟩) 5 5 (T.rL B c3)) (ho : ∀ k, k ≠ g → w3.heap[k]? = w2.heap[k]?) (hB : Below W.heap.size W w3) (hok : T.Ok) (hdn : T.down = true → over2 = true) : ∃ gb2, B = some ⟨gb2, 0, none⟩ ∧ TB W w3 p b g gb2 c3 d gv t last2 over2 T := by
  obtain ⟨gb2, rfl, h1, h2⟩ := h.bd.then3 x h.tg h.tb h.tv h.ty.lt.2 hTy.dr hn hT y hF ho hB
  have l1 := h.ty.lt.1
  have l2 := hTy.lt.1
  have hz := x.size
  refine ⟨gb2, rfl, h1, ⟨h1.at_, hTy.obj.sameB ((ho t h.tg).trans (y.block t l2)), hTy.last_le⟩, h.tg, ?_, h.tv, hok, hdn⟩
  rcases h2 with e | e
  · rw [e]
    exact h.tb
  · omega
theorem TB.only3 (h : TB W w p b g gb c d gv t last over S) (x : But3 t p b w w1) (hTy : TyAt W.heap.size w1 t d p b 1 S last2 over2) (ho : over2 = over) : TB W w1 p b g gb c d gv t last2 over2 S := by
  obtain ⟨h1, h2, h3, h4⟩ := h.bd.half3 x h.tg h.tb h.tv h.ty.lt.2
  have hb := h.bd.bs
  obtain ⟨l1, l2, l3, _⟩ := h.bd.lts
  exact ⟨⟨⟨hTy.dr.nor, h1, hb.row.b3 x (Ne.symm h.tb) hb.gp hb.gbb l1, hb.cap, hb.n1, hb.gp, hb.gbb, hb.gg, hb.hp, hb.hb, h4⟩, hTy.dr.obj, h3, h.bd.fits, h.bd.some_, h.bd.dg, h.bd.vg, h.bd.vp, h.bd.vb⟩, hTy, h.tg, h.tb, h.tv, h.ok, by rw [ho]; exact h.dn⟩
theorem TB.fresh {u2 cc : Nat} (h : TB W w p b g gb c d gv t last over S) (x : Below w.heap.size w w1) (hTy : TyAt W.heap.size w1 u2 d p b 1 S cc false) (hu : w.heap.size ≤ u2) (hd : S.down = false) : TB W w1 p b g gb c d gv u2 cc false S := by
  obtain ⟨l1, l2, l3, _⟩ := h.bd.lts
  exact ⟨h.bd.step x, hTy, by omega, by omega, by omega, h.ok, fun e => by rw [hd] at e; cases e⟩
theorem NorAt.left_lt {base : Nat} (h : NorAt base w p b S) : S.left < 9223372036854775808 := by
  have := h.left_le
  omega
end
set_option maxHeartbeats 40000000 in
set_option maxRecDepth 100000 in
theorem tplays_walk (W : World) (A : Option Addr) (N c : Nat) (l : List Oc) (hl : l.length = N) (hS : Sees W W.heap.size A (ocs l)) (hO : ∀ o ∈ l, o.Ok W.heap.size W) :
    Calls Try.prog 3 #[.slice A N c] W fun e w' => e = .returned (.bool true) ∧ Below W.heap.size W w' := by
  have HL := Lib.hid hl
  have HO := Lib.hid hO
  clear hl hO
  have HNW : ∀ w, Calls Try.prog 7 #[.int .i64 3, .int .i64 0] w fun e w' => ∃ B c2, e = .returned (.tuple #[.agg ((Fl.made 3 0).rL B c2).toArray, .int .i64 0]) ∧ RnAt w' B c2 (Fl.made 3 0) ∧ Fresh w.heap.size 75 w' B (64 * 3) c2 (cw (Fl.made 3 0).ws) ∧ Below w.heap.size w w' := fun w => rNew_yes 3 0 (by decide) (by decide) (by decide) (by decide)
  have hok0 : (Fl.made 3 0).Ok := .inl rfl
  have hdn0 : (Fl.made 3 0).down = false := rfl
  have hn0 : (Fl.made 3 0).n = 3 := rfl
  have w00 : IntKind.i64.wrap 0 = 0 := by decide
  go_enter Try.func3, Try.ntmps3
  go_wp2_with fail
  refine (made6_any W).mono ?_
  rintro e w1 ⟨p, b, d, t, rfl, hT1, hB1⟩
  generalize Fl.made 3 0 = S0 at *
  have z1 := hB1.size
  obtain ⟨lp, lb, lp2, lb2⟩ := hT1.dr.nor.lt
  have ld := hT1.dr.obj.lt_size
  have lt1 := hT1.lt
  have ld2 := hT1.dr.obj.block.2
  go_wp2_with fail
  refine (HNW _).mono ?_
  rintro e w2 ⟨B0, c0, rfl, hRn, hRow, hB2⟩
  obtain ⟨gb0, rfl, q1, q2⟩ := hRow.spot_ (by omega)
  have z2 := hB2.size
  have HOp : ∀ w', Below w2.heap.size w2 w' → Calls Try.prog 8 #[.agg (S0.rL (some ⟨gb0, 0, none⟩) c0).toArray, .int .i64 1, .int .i64 2] w' fun e w'' => e = .returned (.tuple #[.agg (rdL 1 2).toArray, .int .i64 0]) ∧ Below w'.heap.size w' w'' := fun w' x => rdOpen_yes (hRn.step x) 1 2 (by omega) (by decide)
  go_wp2_with (first
    | ((with_reducible refine wpList_alloc (o := ⟨some 7, _, _, _, _, _⟩) rfl 30 rfl (rnL none 0 0 0 0 false 0) (by kernel_rfl) 5 rfl (by decide) ?_); intro g w3 hg hF hB3; have z3 := hB3.size)
    | ((with_reducible refine wpList_store rfl rfl (.tmp 7) (.tmp 29) 30 rfl g 0 _ 30 5 (rnL none 0 0 0 0 false 0) (S0.rL (some ⟨gb0, 0, none⟩) c0) rfl rfl 5 rfl (by kernel_rfl) hF (by omega) (allOne_out (by kernel_rfl)) W (Below.then_ (Below.then_ hB1 hB2) hB3) (by omega) ?_); intro w4 hF4 hB4 ho4 hz4)
    | (with_reducible refine wpList_load (o := ⟨some 32, _, _, _, _, _⟩) rfl (.tmp 7) 30 rfl g 0 _ rfl (S0.rL (some ⟨gb0, 0, none⟩) c0) 5 rfl (by kernel_rfl) hF4.sees ?_))
  have z4 := hB4.size
  have hB24 : Below w2.heap.size w2 w4 := below_of (Below.then_ hB1 hB2) hB4 (by omega) fun k hk => (ho4 k (by omega)).trans (hB3.block k hk)
  have hk14 : ∀ k, k < w1.heap.size → w4.heap[k]? = w1.heap[k]? := fun k hk => (hB24.block k (by omega)).trans (hB2.block k hk)
  have hBx4 : Fresh W.heap.size 30 w4 (some ⟨g, 0, none⟩) 5 5 (S0.rL (some ⟨gb0, 0, none⟩) c0) := Fresh.lower hF4 (by omega)
  have hRow4 : Fresh W.heap.size 75 w4 (some ⟨gb0, 0, none⟩) (64 * S0.n) c0 (cw S0.ws) := by
    rw [hn0]
    exact (hRow.below hB24).lower (by omega)
  have hN1 := hT1.dr.nor
  have hN4 : NorAt W.heap.size w4 p b S0 := ⟨hN1.obj.sameB (hk14 p lp), hN1.row.sameB (hk14 b lb), hN1.ne, hN1.n_le, hN1.left_le⟩
  have hJ4 : Beside W w4 p b g gb0 c0 S0 := ⟨hN4, hBx4, hRow4, by have := hRn.cap; omega, by omega, by omega, by omega, by omega, by omega, by omega, hB4⟩
  have hTob4 := hT1.obj.sameB (hk14 t lt1.1)
  have hDob4 := hT1.dr.obj.sameB (hk14 d ld)
  have hlast := hT1.last_le
  have z24 := hB24.size
  have lg4 : g < w4.heap.size := hBx4.lt_size
  refine (HOp _ hB24).mono ?_
  rintro e w6 ⟨rfl, hB6⟩
  have z6 := hB6.size
  have hJ6 := hJ4.step hB6
  have hTob6 := hTob4.below hB6
  have hDob6 := hDob4.below hB6
  clear hF hF4 hRow hRn hB3 hB2 ho4 hz4 hT1 hN1 HNW HOp hB24
  go_wp2_with (first
    | ((with_reducible refine wpList_alloc (o := ⟨some 9, _, _, _, _, _⟩) rfl 35 rfl (rdL 0 0) (by kernel_rfl) 2 rfl (by decide) ?_); intro gv w7 hgv hFv hB7; have z7 := hB7.size)
    | ((with_reducible refine wpList_store rfl rfl (.tmp 9) (.tmp 34) 35 rfl gv 0 _ 35 2 (rdL 0 0) (rdL 1 2) rfl rfl 2 rfl (by kernel_rfl) hFv (by omega) (allOne_out (by kernel_rfl)) W (Below.then_ hJ6.below hB7) (by omega) ?_); intro w8 hF8 hB8 ho8 hz8))
  have hF8' : Fresh w6.heap.size 35 w8 (some ⟨gv, 0, none⟩) 2 2 (rdL 1 2) := hF8
  have hB68 : Below w6.heap.size w6 w8 := below_of hJ6.below hB8 (by omega) fun k hk => (ho8 k (by omega)).trans (hB7.block k hk)
  have hJ8 : BesideD W w8 p b g gb0 c0 d gv 1 2 S0 := ⟨hJ6.step hB68, (hDob6.below hB68).lower (by omega), hF8'.lower (by omega), by omega, by omega, by omega, by omega, by omega, by omega⟩
  have hT8 : TB W w8 p b g gb0 c0 d gv t 0 false S0 := ⟨hJ8, ⟨hJ8.at_, hTob6.below hB68, hlast⟩, by omega, by omega, by omega, hok0, fun e => by rw [hdn0] at e; cases e⟩
  clear hJ4 hJ6 hJ8 hTob4 hTob6 hDob4 hDob6 hBx4 hRow4 hN4 hF8 hF8' hFv hB7 hB8 hB68 hB6 ho8 hz8 hB4 hB1 hk14 z1 z2 z3 z4 z24 lg4 z6 z7 q1 q2 hg hgv lp lb lp2 lb2 ld ld2 lt1
  go_wp2_with fail
  go_loopw [5, 11, 12] (fun vt vo iv wr => ∃ (k t gb c2 last : Nat) (over : Bool) (S : Fl), k ≤ N ∧ k ≤ 25 ∧ vt = .pointer (some ⟨t, 0, none⟩) ∧ vo = .bool over ∧ iv = .int .i64 (k : Int) ∧ TB W wr p b g gb c2 d gv t last over S) (fun _ _ iv _ => 26 - (intOf iv).toNat)
  case atStart => exact ⟨0, t, gb0, c0, 0, false, S0, by omega, by omega, rfl, rfl, rfl, hT8⟩
  case round =>
    clear hT8 hok0 hdn0 hn0 hlast
    obtain ⟨k, t, gb, c2, last, over, S, hk, hk2, rfl, rfl, rfl, hT⟩ := hrel
    by_cases hlt : k < N
    · by_cases hlt2 : k < 25
      · obtain ⟨u, o, rfl, hu, x, HX, hx⟩ := (hS.below hT.bd.bs.below).op HL.out hlt
        have hxo := (HO.out x (List.mem_of_getElem? HX.out)).below hT.bd.bs.below
        have HX1 := hxo.sees
        have HX2 := Lib.hid hxo.len
        have HX3 := hxo.sees2
        have HX4 := Lib.hid hxo.len2
        have HX5 := Lib.hid hxo.hs
        have HX6 := Lib.hid hxo.ha
        have HX7 := Lib.hid hxo.cap
        obtain ⟨k', s', a', A', m', d', l', B', q', e', ks'⟩ := x
        simp only at HX1 HX2 HX3 HX4 HX5 HX6 HX7
        clear HX hxo
        have hW0 := hT.bd.bs.below.size
        by_cases hq1 : 100 < q'
        · as_aux_lemma =>
            go_wp2_with (first | (with_reducible refine wpList_load (o := ⟨some 57, _, _, _, _, _⟩) rfl (.tmp 56) 40 rfl u (o + k * 5) W.heap.size rfl (Oc.cells ⟨k', s', a', A', m', d', l', B', q', e', ks'⟩) 5 rfl (by kernel_rfl) hx ?_) | ((with_reducible refine wpList_alloc (o := ⟨some 13, _, _, _, _, _⟩) rfl 40 rfl (Oc.cells ⟨0, 0, 0, none, 0, 0, [], none, 0, 0, []⟩) (by kernel_rfl) 5 rfl (by decide) ?_); intro gx w3 hgx hFx hB3) | ((with_reducible refine wpList_store rfl rfl (.tmp 13) (.tmp 57) 40 rfl gx 0 _ 40 5 _ (Oc.cells ⟨k', s', a', A', m', d', l', B', q', e', ks'⟩) rfl rfl 5 rfl (by kernel_rfl) hFx (by omega) (allOne_out (by kernel_rfl)) wr hB3 hgx ?_); intro w4 hF4 hB4 ho4 hz4; have hX4 : Fresh wr.heap.size 40 w4 (some ⟨gx, 0, none⟩) 5 5 (Oc.cells ⟨k', s', a', A', m', d', l', B', q', e', ks'⟩) := hF4; have f0_ : w4.cell? ⟨gx, 0, none⟩ = some (.int .i64 k') := hX4.cell (j := 0) rfl; have f1_ : w4.cell? ⟨gx, 1, none⟩ = some (.int .i64 s') := hX4.cell (j := 1) rfl; have f2_ : w4.cell? ⟨gx, 2, none⟩ = some (.int .i64 a') := hX4.cell (j := 2) rfl; have f3_ : w4.cell? ⟨gx, 3, none⟩ = some (.slice A' m' d') := hX4.cell (j := 3) rfl; have f4_ : w4.cell? ⟨gx, 4, none⟩ = some (.slice B' q' e') := hX4.cell (j := 4) rfl))
            have hT4 := hT.step hB4
            have hX4' := hX4.lower (base' := W.heap.size) hW0
            have HX14 := HX1.below (hB4.mono hW0)
            have HX34 := HX3.below (hB4.mono hW0)
            have hW4 := hT4.bd.bs.below.size
            obtain ⟨ngt, ngp, ngb, ngg⟩ : gx ≠ t ∧ gx ≠ p ∧ gx ≠ b ∧ gx ≠ g := by
              obtain ⟨lp4, lb4, lp5, lb5⟩ := hT.bd.bs.nor.lt
              have lg4 := hT.bd.bs.box.lt_size
              have lt4 := hT.ty.lt.1
              refine ⟨by omega, by omega, by omega, by omega⟩
            clear hF4 hFx hB3 ho4 hz4
            go_wp2_with fail
            go_roundw
            case rel => exact ⟨k + 1, t, gb, c2, last, over, S, by omega, by omega, rfl, rfl, by go_num, hT4⟩
            case measure => simp [intOf]; omega

        by_cases hm7 : 70 < m'
        · as_aux_lemma =>
            go_wp2_with (first | (with_reducible refine wpList_load (o := ⟨some 57, _, _, _, _, _⟩) rfl (.tmp 56) 40 rfl u (o + k * 5) W.heap.size rfl (Oc.cells ⟨k', s', a', A', m', d', l', B', q', e', ks'⟩) 5 rfl (by kernel_rfl) hx ?_) | ((with_reducible refine wpList_alloc (o := ⟨some 13, _, _, _, _, _⟩) rfl 40 rfl (Oc.cells ⟨0, 0, 0, none, 0, 0, [], none, 0, 0, []⟩) (by kernel_rfl) 5 rfl (by decide) ?_); intro gx w3 hgx hFx hB3) | ((with_reducible refine wpList_store rfl rfl (.tmp 13) (.tmp 57) 40 rfl gx 0 _ 40 5 _ (Oc.cells ⟨k', s', a', A', m', d', l', B', q', e', ks'⟩) rfl rfl 5 rfl (by kernel_rfl) hFx (by omega) (allOne_out (by kernel_rfl)) wr hB3 hgx ?_); intro w4 hF4 hB4 ho4 hz4; have hX4 : Fresh wr.heap.size 40 w4 (some ⟨gx, 0, none⟩) 5 5 (Oc.cells ⟨k', s', a', A', m', d', l', B', q', e', ks'⟩) := hF4; have f0_ : w4.cell? ⟨gx, 0, none⟩ = some (.int .i64 k') := hX4.cell (j := 0) rfl; have f1_ : w4.cell? ⟨gx, 1, none⟩ = some (.int .i64 s') := hX4.cell (j := 1) rfl; have f2_ : w4.cell? ⟨gx, 2, none⟩ = some (.int .i64 a') := hX4.cell (j := 2) rfl; have f3_ : w4.cell? ⟨gx, 3, none⟩ = some (.slice A' m' d') := hX4.cell (j := 3) rfl; have f4_ : w4.cell? ⟨gx, 4, none⟩ = some (.slice B' q' e') := hX4.cell (j := 4) rfl))
            have hT4 := hT.step hB4
            have hX4' := hX4.lower (base' := W.heap.size) hW0
            have HX14 := HX1.below (hB4.mono hW0)
            have HX34 := HX3.below (hB4.mono hW0)
            have hW4 := hT4.bd.bs.below.size
            obtain ⟨ngt, ngp, ngb, ngg⟩ : gx ≠ t ∧ gx ≠ p ∧ gx ≠ b ∧ gx ≠ g := by
              obtain ⟨lp4, lb4, lp5, lb5⟩ := hT.bd.bs.nor.lt
              have lg4 := hT.bd.bs.box.lt_size
              have lt4 := hT.ty.lt.1
              refine ⟨by omega, by omega, by omega, by omega⟩
            clear hF4 hFx hB3 ho4 hz4
            go_wp2_with fail
            go_roundw
            case rel => exact ⟨k + 1, t, gb, c2, last, over, S, by omega, by omega, rfl, rfl, by go_num, hT4⟩
            case measure => simp [intOf]; omega

        go_upto_block 2 with (first | (with_reducible refine wpList_load (o := ⟨some 57, _, _, _, _, _⟩) rfl (.tmp 56) 40 rfl u (o + k * 5) W.heap.size rfl (Oc.cells ⟨k', s', a', A', m', d', l', B', q', e', ks'⟩) 5 rfl (by kernel_rfl) hx ?_) | ((with_reducible refine wpList_alloc (o := ⟨some 13, _, _, _, _, _⟩) rfl 40 rfl (Oc.cells ⟨0, 0, 0, none, 0, 0, [], none, 0, 0, []⟩) (by kernel_rfl) 5 rfl (by decide) ?_); intro gx w3 hgx hFx hB3) | ((with_reducible refine wpList_store rfl rfl (.tmp 13) (.tmp 57) 40 rfl gx 0 _ 40 5 _ (Oc.cells ⟨k', s', a', A', m', d', l', B', q', e', ks'⟩) rfl rfl 5 rfl (by kernel_rfl) hFx (by omega) (allOne_out (by kernel_rfl)) wr hB3 hgx ?_); intro w4 hF4 hB4 ho4 hz4; have hX4 : Fresh wr.heap.size 40 w4 (some ⟨gx, 0, none⟩) 5 5 (Oc.cells ⟨k', s', a', A', m', d', l', B', q', e', ks'⟩) := hF4; have f0_ : w4.cell? ⟨gx, 0, none⟩ = some (.int .i64 k') := hX4.cell (j := 0) rfl; have f1_ : w4.cell? ⟨gx, 1, none⟩ = some (.int .i64 s') := hX4.cell (j := 1) rfl; have f2_ : w4.cell? ⟨gx, 2, none⟩ = some (.int .i64 a') := hX4.cell (j := 2) rfl; have f3_ : w4.cell? ⟨gx, 3, none⟩ = some (.slice A' m' d') := hX4.cell (j := 3) rfl; have f4_ : w4.cell? ⟨gx, 4, none⟩ = some (.slice B' q' e') := hX4.cell (j := 4) rfl))
        have hT4 := hT.step hB4
        have hX4' := hX4.lower (base' := W.heap.size) hW0
        have HX14 := HX1.below (hB4.mono hW0)
        have HX34 := HX3.below (hB4.mono hW0)
        have hW4 := hT4.bd.bs.below.size
        obtain ⟨ngt, ngp, ngb, ngg⟩ : gx ≠ t ∧ gx ≠ p ∧ gx ≠ b ∧ gx ≠ g := by
          obtain ⟨lp4, lb4, lp5, lb5⟩ := hT.bd.bs.nor.lt
          have lg4 := hT.bd.bs.box.lt_size
          have lt4 := hT.ty.lt.1
          refine ⟨by omega, by omega, by omega, by omega⟩
        clear hF4 hFx hB3 ho4 hz4
        go_cut [5, 11, 14, 15, 16, 17, 18] from 68 to 168 (fun vt vo vx vy _ _ _ wx => ∃ (t7 gb7 c7 last7 : Nat) (over7 : Bool) (T : Fl) (z : Int), vt = .pointer (some ⟨t7, 0, none⟩) ∧ vo = .bool over7 ∧ vx = .int .i64 z ∧ vy = .int .i64 z ∧ TB W wx p b g gb7 c7 d gv t7 last7 over7 T)
        case first =>
          rcases (show k' = 1 ∨ k' = 2 ∨ k' = 3 ∨ k' = 4 ∨ k' = 5 ∨ k' = 6 ∨ k' = 7 ∨ k' = 8 ∨ k' = 9 ∨ k' = 10 ∨ (k' ≠ 1 ∧ k' ≠ 2 ∧ k' ≠ 3 ∧ k' ≠ 4 ∧ k' ≠ 5 ∧ k' ≠ 6 ∧ k' ≠ 7 ∧ k' ≠ 8 ∧ k' ≠ 9 ∧ k' ≠ 10) by omega) with hk | hk | hk | hk | hk | hk | hk | hk | hk | hk | hk
          · as_aux_lemma =>
              obtain rfl : k' = 1 := hk
              go_wp2_with fail
              go_loopw [11, 14, 15, 16] (fun vo vx vy vk wi => ∃ (j gb3 c3 last3 : Nat) (over3 : Bool) (T : Fl) (z : Int), j ≤ 600 ∧ vk = .int .i64 (j : Int) ∧ vx = .int .i64 z ∧ vy = .int .i64 z ∧ vo = .bool over3 ∧ TB W wi p b g gb3 c3 d gv t last3 over3 T ∧ Fresh W.heap.size 40 wi (some ⟨gx, 0, none⟩) 5 5 (Oc.cells ⟨1, s', a', A', m', d', l', B', q', e', ks'⟩)) (fun _ _ _ vk _ => 601 - (intOf vk).toNat)
              case atStart => exact ⟨0, gb, c2, last, over, S, 0, by omega, rfl, rfl, rfl, rfl, hT4, hX4'⟩
              case round =>
                clear hT4 hX4' f0_ f1_ f2_ f3_ f4_ hX4 hB4
                obtain ⟨j, gb3, c3, last3, over3, T, z, hj, rfl, rfl, rfl, rfl, hT, hX⟩ := hrel
                have y1 : wr.cell? ⟨gx, 1, none⟩ = some (.int .i64 s') := hX.cell (j := 1) rfl
                have hWr := hT.bd.bs.below.size
                obtain ⟨mn, hcase, hm6⟩ : ∃ mn : Int, ((s' ≤ 600 ∧ s' = mn) ∨ (¬ s' ≤ 600 ∧ 600 = mn)) ∧ mn ≤ 600 := by
                  by_cases h : s' ≤ 600
                  · exact ⟨s', .inl ⟨h, rfl⟩, h⟩
                  · exact ⟨600, .inr ⟨h, rfl⟩, by omega⟩
                have hzz : (z == z) = true := by simp
                have hlt6 : ((s' ≤ 600 ∧ (j : Int) < s') ∨ (¬ s' ≤ 600 ∧ (j : Int) < 600)) ∨ ((s' ≤ 600 ∧ ¬ (j : Int) < s') ∨ (¬ s' ≤ 600 ∧ ¬ (j : Int) < 600)) := by omega
                clear hcase hm6
                rcases hlt6 with hlt6 | hlt6
                · have hj6 : j < 600 := by omega
                  rcases hlt6 with ⟨hs6, hlt⟩ | ⟨hs6, hlt⟩
                  all_goals have dlt := decide_eq_true hlt
                  all_goals
                  cases over3 with
                  | true =>
                    have hst := Step_any hT.ty hWr T 60 last3 true rfl
                    go_wp2_with fail
                    refine hst.mono ?_
                    rintro e w5 ⟨rfl, hTy5, hx5⟩
                    have hT5 := hT.only3 hx5 hTy5 rfl
                    have hX5 := hX.b3 hx5 ngt ngp ngb hX.lt_size
                    clear hst
                    go_wp2_with fail
                    go_roundw
                    case rel => exact ⟨j + 1, gb3, c3, last3, true, T, 60, by omega, by go_num, rfl, rfl, rfl, hT5, hX5⟩
                    case measure => simp [intOf]; omega
                  | false =>
                    have hd : T.down = false := by
                      cases h : T.down
                      · rfl
                      · cases hT.dn h
                    obtain ⟨T2, r, l2, o2, hts⟩ : ∃ T2 r l2 o2, T.tstep 1 last3 false = (T2, r, l2, o2) := ⟨_, _, _, _, rfl⟩
                    obtain ⟨hrs, hn2, hok2, hdn2, ho2⟩ := tstep_two hT.ok hd hts
                    have hst := Step_any hT.ty hWr T2 r l2 o2 hts
                    have HRS := Lib.hid hrs
                    have HO2 := Lib.hid ho2
                    have HD := Lib.hid hd
                    clear hrs ho2 hts hd
                    go_wp2_with fail
                    refine hst.mono ?_
                    rintro e w5 ⟨rfl, hTy5, hx5⟩
                    obtain ⟨hBx5, hRn5, hV5, hBel5⟩ := hT.bd.half3 hx5 hT.tg hT.tb hT.tv hT.ty.lt.2
                    have hX5 := hX.b3 hx5 ngt ngp ngb hX.lt_size
                    have hrSt := rStep_any hRn5 HD.out (hT.bd.bs.nor.left_lt) 1 hT.bd.fits T2 r HRS.out
                    have hWg := hT.bd.lts.2.2.2.1
                    clear hst
                    have hcs : (r = 0 ∧ o2 = false) ∨ (r = 5 ∧ o2 = false) ∨ ((r : Int) ≠ 0 ∧ (r : Int) ≠ 5 ∧ o2 = true) := by
                      have := HO2.out
                      by_cases h0 : r = 0
                      · subst h0; exact .inl ⟨rfl, by simpa using this⟩
                      · by_cases h5 : r = 5
                        · subst h5; exact .inr (.inl ⟨rfl, by simpa using this⟩)
                        · exact .inr (.inr ⟨by omega, by omega, by simpa [h0, h5] using this⟩)
                    rcases hcs with ⟨rfl, rfl⟩ | ⟨rfl, rfl⟩ | ⟨n0, n5, rfl⟩
                    · go_wp2_with (first
                        | (with_reducible refine wpList_load (o := ⟨some 94, _, _, _, _, _⟩) rfl (.tmp 9) 35 rfl gv 0 _ rfl (rdL 1 2) 2 rfl (by kernel_rfl) hV5.sees ?_)
                        | (with_reducible refine wpList_load (o := ⟨some 95, _, _, _, _, _⟩) rfl (.tmp 7) 30 rfl g 0 _ rfl (T.rL (some ⟨gb3, 0, none⟩) c3) 5 rfl (by kernel_rfl) hBx5.sees ?_)
                        | (go_at_call 10; refine hrSt.mono ?_; rintro e w6 ⟨B2, c4, rfl, hTo, hB6⟩; have hF6 := hBx5.below hB6; have hB06 := Below.then_ hBel5 hB6; have hX6 := hX5.below hB6)
                        | ((with_reducible refine wpList_store rfl rfl (.tmp 7) (.tmp 97) 30 rfl g 0 W.heap.size 30 5 (T.rL (some ⟨gb3, 0, none⟩) c3) (T2.rL B2 c4) rfl rfl 5 rfl (by kernel_rfl) hF6 (by omega) (allOne_out (by kernel_rfl)) W hB06 hWg ?_); intro w7 hF7 hB7 ho7 hz7; obtain ⟨gb4, rfl, hT7⟩ := hT.then3 hx5 hTy5 hn2 hTo hB6 hF7 ho7 hB7 hok2 hdn2; have hX7 := hX6.other ngg ho7; clear hT hX hX5 hX6 hTy5 hx5 hTo hB6 hF7 hB7 hF6 hB06 hBx5 hRn5 hV5 hBel5 hrSt))
                      go_roundw
                      case rel => exact ⟨j + 1, gb4, c4, l2, false, T2, ((0 : Nat) : Int), by omega, by go_num, rfl, rfl, rfl, hT7, hX7⟩
                      case measure => simp [intOf]; omega
                    · go_wp2_with (first
                        | (with_reducible refine wpList_load (o := ⟨some 94, _, _, _, _, _⟩) rfl (.tmp 9) 35 rfl gv 0 _ rfl (rdL 1 2) 2 rfl (by kernel_rfl) hV5.sees ?_)
                        | (with_reducible refine wpList_load (o := ⟨some 95, _, _, _, _, _⟩) rfl (.tmp 7) 30 rfl g 0 _ rfl (T.rL (some ⟨gb3, 0, none⟩) c3) 5 rfl (by kernel_rfl) hBx5.sees ?_)
                        | (go_at_call 10; refine hrSt.mono ?_; rintro e w6 ⟨B2, c4, rfl, hTo, hB6⟩; have hF6 := hBx5.below hB6; have hB06 := Below.then_ hBel5 hB6; have hX6 := hX5.below hB6)
                        | ((with_reducible refine wpList_store rfl rfl (.tmp 7) (.tmp 97) 30 rfl g 0 W.heap.size 30 5 (T.rL (some ⟨gb3, 0, none⟩) c3) (T2.rL B2 c4) rfl rfl 5 rfl (by kernel_rfl) hF6 (by omega) (allOne_out (by kernel_rfl)) W hB06 hWg ?_); intro w7 hF7 hB7 ho7 hz7; obtain ⟨gb4, rfl, hT7⟩ := hT.then3 hx5 hTy5 hn2 hTo hB6 hF7 ho7 hB7 hok2 hdn2; have hX7 := hX6.other ngg ho7; clear hT hX hX5 hX6 hTy5 hx5 hTo hB6 hF7 hB7 hF6 hB06 hBx5 hRn5 hV5 hBel5 hrSt))
                      go_roundw
                      case rel => exact ⟨j + 1, gb4, c4, l2, false, T2, ((5 : Nat) : Int), by omega, by go_num, rfl, rfl, rfl, hT7, hX7⟩
                      case measure => simp [intOf]; omega
                    · have b0 : (((r : Nat) : Int) != 0) = true := by simp; omega
                      have b5 : (((r : Nat) : Int) != 5) = true := by simp; omega
                      go_wp2_with (first
                        | (with_reducible refine wpList_load (o := ⟨some 94, _, _, _, _, _⟩) rfl (.tmp 9) 35 rfl gv 0 _ rfl (rdL 1 2) 2 rfl (by kernel_rfl) hV5.sees ?_)
                        | (with_reducible refine wpList_load (o := ⟨some 95, _, _, _, _, _⟩) rfl (.tmp 7) 30 rfl g 0 _ rfl (T.rL (some ⟨gb3, 0, none⟩) c3) 5 rfl (by kernel_rfl) hBx5.sees ?_)
                        | (go_at_call 10; refine hrSt.mono ?_; rintro e w6 ⟨B2, c4, rfl, hTo, hB6⟩; have hF6 := hBx5.below hB6; have hB06 := Below.then_ hBel5 hB6; have hX6 := hX5.below hB6)
                        | ((with_reducible refine wpList_store rfl rfl (.tmp 7) (.tmp 97) 30 rfl g 0 W.heap.size 30 5 (T.rL (some ⟨gb3, 0, none⟩) c3) (T2.rL B2 c4) rfl rfl 5 rfl (by kernel_rfl) hF6 (by omega) (allOne_out (by kernel_rfl)) W hB06 hWg ?_); intro w7 hF7 hB7 ho7 hz7; obtain ⟨gb4, rfl, hT7⟩ := hT.then3 hx5 hTy5 hn2 hTo hB6 hF7 ho7 hB7 hok2 (fun _ => rfl); have hX7 := hX6.other ngg ho7; clear hT hX hX5 hX6 hTy5 hx5 hTo hB6 hF7 hB7 hF6 hB06 hBx5 hRn5 hV5 hBel5 hrSt))
                      go_roundw
                      case rel => exact ⟨j + 1, gb4, c4, l2, true, T2, (r : Int), by omega, by go_num, rfl, rfl, rfl, hT7, hX7⟩
                      case measure => simp [intOf]; omega
                · rcases hlt6 with ⟨hs6, hlt⟩ | ⟨hs6, hlt⟩
                  all_goals have dlt := decide_eq_false hlt
                  all_goals
                  go_wp2_with fail
                  go_meet
                  case rel => exact ⟨t, gb3, c3, last3, over3, T, z, rfl, rfl, rfl, rfl, hT⟩
          · as_aux_lemma =>
              obtain rfl : k' = 2 := hk
              go_wp2_with fail
              go_loopw [11, 14, 15, 16] (fun vo vx vy vk wi => ∃ (j gb3 c3 last3 : Nat) (over3 : Bool) (T : Fl) (z : Int), j ≤ 600 ∧ vk = .int .i64 (j : Int) ∧ vx = .int .i64 z ∧ vy = .int .i64 z ∧ vo = .bool over3 ∧ TB W wi p b g gb3 c3 d gv t last3 over3 T ∧ Fresh W.heap.size 40 wi (some ⟨gx, 0, none⟩) 5 5 (Oc.cells ⟨2, s', a', A', m', d', l', B', q', e', ks'⟩)) (fun _ _ _ vk _ => 601 - (intOf vk).toNat)
              case atStart => exact ⟨0, gb, c2, last, over, S, 0, by omega, rfl, rfl, rfl, rfl, hT4, hX4'⟩
              case round =>
                clear hT4 hX4' f0_ f1_ f2_ f3_ f4_ hX4 hB4
                obtain ⟨j, gb3, c3, last3, over3, T, z, hj, rfl, rfl, rfl, rfl, hT, hX⟩ := hrel
                have y1 : wr.cell? ⟨gx, 1, none⟩ = some (.int .i64 s') := hX.cell (j := 1) rfl
                have hWr := hT.bd.bs.below.size
                obtain ⟨mn, hcase, hm6⟩ : ∃ mn : Int, ((s' ≤ 600 ∧ s' = mn) ∨ (¬ s' ≤ 600 ∧ 600 = mn)) ∧ mn ≤ 600 := by
                  by_cases h : s' ≤ 600
                  · exact ⟨s', .inl ⟨h, rfl⟩, h⟩
                  · exact ⟨600, .inr ⟨h, rfl⟩, by omega⟩
                have hzz : (z == z) = true := by simp
                have hlt6 : ((s' ≤ 600 ∧ (j : Int) < s') ∨ (¬ s' ≤ 600 ∧ (j : Int) < 600)) ∨ ((s' ≤ 600 ∧ ¬ (j : Int) < s') ∨ (¬ s' ≤ 600 ∧ ¬ (j : Int) < 600)) := by omega
                clear hcase hm6
                rcases hlt6 with hlt6 | hlt6
                · have hj6 : j < 600 := by omega
                  rcases hlt6 with ⟨hs6, hlt⟩ | ⟨hs6, hlt⟩
                  all_goals have dlt := decide_eq_true hlt
                  all_goals
                  cases over3 with
                  | true =>
                    have hst := Step_any hT.ty hWr T 60 last3 true rfl
                    go_wp2_with fail
                    refine hst.mono ?_
                    rintro e w5 ⟨rfl, hTy5, hx5⟩
                    have hT5 := hT.only3 hx5 hTy5 rfl
                    have hX5 := hX.b3 hx5 ngt ngp ngb hX.lt_size
                    clear hst
                    go_wp2_with fail
                    go_roundw
                    case rel => exact ⟨j + 1, gb3, c3, last3, true, T, 60, by omega, by go_num, rfl, rfl, rfl, hT5, hX5⟩
                    case measure => simp [intOf]; omega
                  | false =>
                    have hd : T.down = false := by
                      cases h : T.down
                      · rfl
                      · cases hT.dn h
                    obtain ⟨T2, r, l2, o2, hts⟩ : ∃ T2 r l2 o2, T.tstep 1 last3 false = (T2, r, l2, o2) := ⟨_, _, _, _, rfl⟩
                    obtain ⟨hrs, hn2, hok2, hdn2, ho2⟩ := tstep_two hT.ok hd hts
                    have hst := Step_any hT.ty hWr T2 r l2 o2 hts
                    have HRS := Lib.hid hrs
                    have HO2 := Lib.hid ho2
                    have HD := Lib.hid hd
                    clear hrs ho2 hts hd
                    go_wp2_with fail
                    refine hst.mono ?_
                    rintro e w5 ⟨rfl, hTy5, hx5⟩
                    obtain ⟨hBx5, hRn5, hV5, hBel5⟩ := hT.bd.half3 hx5 hT.tg hT.tb hT.tv hT.ty.lt.2
                    have hX5 := hX.b3 hx5 ngt ngp ngb hX.lt_size
                    have hrSt := rStep_any hRn5 HD.out (hT.bd.bs.nor.left_lt) 1 hT.bd.fits T2 r HRS.out
                    have hWg := hT.bd.lts.2.2.2.1
                    clear hst
                    have hcs : (r = 0 ∧ o2 = false) ∨ (r = 5 ∧ o2 = false) ∨ ((r : Int) ≠ 0 ∧ (r : Int) ≠ 5 ∧ o2 = true) := by
                      have := HO2.out
                      by_cases h0 : r = 0
                      · subst h0; exact .inl ⟨rfl, by simpa using this⟩
                      · by_cases h5 : r = 5
                        · subst h5; exact .inr (.inl ⟨rfl, by simpa using this⟩)
                        · exact .inr (.inr ⟨by omega, by omega, by simpa [h0, h5] using this⟩)
                    rcases hcs with ⟨rfl, rfl⟩ | ⟨rfl, rfl⟩ | ⟨n0, n5, rfl⟩
                    · go_wp2_with (first
                        | (with_reducible refine wpList_load (o := ⟨some 94, _, _, _, _, _⟩) rfl (.tmp 9) 35 rfl gv 0 _ rfl (rdL 1 2) 2 rfl (by kernel_rfl) hV5.sees ?_)
                        | (with_reducible refine wpList_load (o := ⟨some 95, _, _, _, _, _⟩) rfl (.tmp 7) 30 rfl g 0 _ rfl (T.rL (some ⟨gb3, 0, none⟩) c3) 5 rfl (by kernel_rfl) hBx5.sees ?_)
                        | (go_at_call 10; refine hrSt.mono ?_; rintro e w6 ⟨B2, c4, rfl, hTo, hB6⟩; have hF6 := hBx5.below hB6; have hB06 := Below.then_ hBel5 hB6; have hX6 := hX5.below hB6)
                        | ((with_reducible refine wpList_store rfl rfl (.tmp 7) (.tmp 97) 30 rfl g 0 W.heap.size 30 5 (T.rL (some ⟨gb3, 0, none⟩) c3) (T2.rL B2 c4) rfl rfl 5 rfl (by kernel_rfl) hF6 (by omega) (allOne_out (by kernel_rfl)) W hB06 hWg ?_); intro w7 hF7 hB7 ho7 hz7; obtain ⟨gb4, rfl, hT7⟩ := hT.then3 hx5 hTy5 hn2 hTo hB6 hF7 ho7 hB7 hok2 hdn2; have hX7 := hX6.other ngg ho7; clear hT hX hX5 hX6 hTy5 hx5 hTo hB6 hF7 hB7 hF6 hB06 hBx5 hRn5 hV5 hBel5 hrSt))
                      go_roundw
                      case rel => exact ⟨j + 1, gb4, c4, l2, false, T2, ((0 : Nat) : Int), by omega, by go_num, rfl, rfl, rfl, hT7, hX7⟩
                      case measure => simp [intOf]; omega
                    · go_wp2_with (first
                        | (with_reducible refine wpList_load (o := ⟨some 94, _, _, _, _, _⟩) rfl (.tmp 9) 35 rfl gv 0 _ rfl (rdL 1 2) 2 rfl (by kernel_rfl) hV5.sees ?_)
                        | (with_reducible refine wpList_load (o := ⟨some 95, _, _, _, _, _⟩) rfl (.tmp 7) 30 rfl g 0 _ rfl (T.rL (some ⟨gb3, 0, none⟩) c3) 5 rfl (by kernel_rfl) hBx5.sees ?_)
                        | (go_at_call 10; refine hrSt.mono ?_; rintro e w6 ⟨B2, c4, rfl, hTo, hB6⟩; have hF6 := hBx5.below hB6; have hB06 := Below.then_ hBel5 hB6; have hX6 := hX5.below hB6)
                        | ((with_reducible refine wpList_store rfl rfl (.tmp 7) (.tmp 97) 30 rfl g 0 W.heap.size 30 5 (T.rL (some ⟨gb3, 0, none⟩) c3) (T2.rL B2 c4) rfl rfl 5 rfl (by kernel_rfl) hF6 (by omega) (allOne_out (by kernel_rfl)) W hB06 hWg ?_); intro w7 hF7 hB7 ho7 hz7; obtain ⟨gb4, rfl, hT7⟩ := hT.then3 hx5 hTy5 hn2 hTo hB6 hF7 ho7 hB7 hok2 hdn2; have hX7 := hX6.other ngg ho7; clear hT hX hX5 hX6 hTy5 hx5 hTo hB6 hF7 hB7 hF6 hB06 hBx5 hRn5 hV5 hBel5 hrSt))
                      go_roundw
                      case rel => exact ⟨j + 1, gb4, c4, l2, false, T2, ((5 : Nat) : Int), by omega, by go_num, rfl, rfl, rfl, hT7, hX7⟩
                      case measure => simp [intOf]; omega
                    · have b0 : (((r : Nat) : Int) != 0) = true := by simp; omega
                      have b5 : (((r : Nat) : Int) != 5) = true := by simp; omega
                      go_wp2_with (first
                        | (with_reducible refine wpList_load (o := ⟨some 94, _, _, _, _, _⟩) rfl (.tmp 9) 35 rfl gv 0 _ rfl (rdL 1 2) 2 rfl (by kernel_rfl) hV5.sees ?_)
                        | (with_reducible refine wpList_load (o := ⟨some 95, _, _, _, _, _⟩) rfl (.tmp 7) 30 rfl g 0 _ rfl (T.rL (some ⟨gb3, 0, none⟩) c3) 5 rfl (by kernel_rfl) hBx5.sees ?_)
                        | (go_at_call 10; refine hrSt.mono ?_; rintro e w6 ⟨B2, c4, rfl, hTo, hB6⟩; have hF6 := hBx5.below hB6; have hB06 := Below.then_ hBel5 hB6; have hX6 := hX5.below hB6)
                        | ((with_reducible refine wpList_store rfl rfl (.tmp 7) (.tmp 97) 30 rfl g 0 W.heap.size 30 5 (T.rL (some ⟨gb3, 0, none⟩) c3) (T2.rL B2 c4) rfl rfl 5 rfl (by kernel_rfl) hF6 (by omega) (allOne_out (by kernel_rfl)) W hB06 hWg ?_); intro w7 hF7 hB7 ho7 hz7; obtain ⟨gb4, rfl, hT7⟩ := hT.then3 hx5 hTy5 hn2 hTo hB6 hF7 ho7 hB7 hok2 (fun _ => rfl); have hX7 := hX6.other ngg ho7; clear hT hX hX5 hX6 hTy5 hx5 hTo hB6 hF7 hB7 hF6 hB06 hBx5 hRn5 hV5 hBel5 hrSt))
                      go_roundw
                      case rel => exact ⟨j + 1, gb4, c4, l2, true, T2, (r : Int), by omega, by go_num, rfl, rfl, rfl, hT7, hX7⟩
                      case measure => simp [intOf]; omega
                · rcases hlt6 with ⟨hs6, hlt⟩ | ⟨hs6, hlt⟩
                  all_goals have dlt := decide_eq_false hlt
                  all_goals
                  go_wp2_with fail
                  go_meet
                  case rel => exact ⟨t, gb3, c3, last3, over3, T, z, rfl, rfl, rfl, rfl, hT⟩
          · as_aux_lemma =>
              obtain rfl : k' = 3 := hk
              go_wp2_with fail
              go_loopw [11, 14, 15, 16] (fun vo vx vy vk wi => ∃ (j gb3 c3 last3 : Nat) (over3 : Bool) (T : Fl) (z : Int), j ≤ 600 ∧ vk = .int .i64 (j : Int) ∧ vx = .int .i64 z ∧ vy = .int .i64 z ∧ vo = .bool over3 ∧ TB W wi p b g gb3 c3 d gv t last3 over3 T ∧ Fresh W.heap.size 40 wi (some ⟨gx, 0, none⟩) 5 5 (Oc.cells ⟨3, s', a', A', m', d', l', B', q', e', ks'⟩)) (fun _ _ _ vk _ => 601 - (intOf vk).toNat)
              case atStart => exact ⟨0, gb, c2, last, over, S, 0, by omega, rfl, rfl, rfl, rfl, hT4, hX4'⟩
              case round =>
                clear hT4 hX4' f0_ f1_ f2_ f3_ f4_ hX4 hB4
                obtain ⟨j, gb3, c3, last3, over3, T, z, hj, rfl, rfl, rfl, rfl, hT, hX⟩ := hrel
                have y1 : wr.cell? ⟨gx, 1, none⟩ = some (.int .i64 s') := hX.cell (j := 1) rfl
                have hWr := hT.bd.bs.below.size
                obtain ⟨mn, hcase, hm6⟩ : ∃ mn : Int, ((s' ≤ 600 ∧ s' = mn) ∨ (¬ s' ≤ 600 ∧ 600 = mn)) ∧ mn ≤ 600 := by
                  by_cases h : s' ≤ 600
                  · exact ⟨s', .inl ⟨h, rfl⟩, h⟩
                  · exact ⟨600, .inr ⟨h, rfl⟩, by omega⟩
                have hzz : (z == z) = true := by simp
                have hlt6 : ((s' ≤ 600 ∧ (j : Int) < s') ∨ (¬ s' ≤ 600 ∧ (j : Int) < 600)) ∨ ((s' ≤ 600 ∧ ¬ (j : Int) < s') ∨ (¬ s' ≤ 600 ∧ ¬ (j : Int) < 600)) := by omega
                clear hcase hm6
                rcases hlt6 with hlt6 | hlt6
                · have hj6 : j < 600 := by omega
                  rcases hlt6 with ⟨hs6, hlt⟩ | ⟨hs6, hlt⟩
                  all_goals have dlt := decide_eq_true hlt
                  all_goals
                  cases over3 with
                  | true =>
                    have hst := Step_any hT.ty hWr T 60 last3 true rfl
                    go_wp2_with fail
                    refine hst.mono ?_
                    rintro e w5 ⟨rfl, hTy5, hx5⟩
                    have hT5 := hT.only3 hx5 hTy5 rfl
                    have hX5 := hX.b3 hx5 ngt ngp ngb hX.lt_size
                    clear hst
                    go_wp2_with fail
                    go_roundw
                    case rel => exact ⟨j + 1, gb3, c3, last3, true, T, 60, by omega, by go_num, rfl, rfl, rfl, hT5, hX5⟩
                    case measure => simp [intOf]; omega
                  | false =>
                    have hd : T.down = false := by
                      cases h : T.down
                      · rfl
                      · cases hT.dn h
                    obtain ⟨T2, r, l2, o2, hts⟩ : ∃ T2 r l2 o2, T.tstep 1 last3 false = (T2, r, l2, o2) := ⟨_, _, _, _, rfl⟩
                    obtain ⟨hrs, hn2, hok2, hdn2, ho2⟩ := tstep_two hT.ok hd hts
                    have hst := Step_any hT.ty hWr T2 r l2 o2 hts
                    have HRS := Lib.hid hrs
                    have HO2 := Lib.hid ho2
                    have HD := Lib.hid hd
                    clear hrs ho2 hts hd
                    go_wp2_with fail
                    refine hst.mono ?_
                    rintro e w5 ⟨rfl, hTy5, hx5⟩
                    obtain ⟨hBx5, hRn5, hV5, hBel5⟩ := hT.bd.half3 hx5 hT.tg hT.tb hT.tv hT.ty.lt.2
                    have hX5 := hX.b3 hx5 ngt ngp ngb hX.lt_size
                    have hrSt := rStep_any hRn5 HD.out (hT.bd.bs.nor.left_lt) 1 hT.bd.fits T2 r HRS.out
                    have hWg := hT.bd.lts.2.2.2.1
                    clear hst
                    have hcs : (r = 0 ∧ o2 = false) ∨ (r = 5 ∧ o2 = false) ∨ ((r : Int) ≠ 0 ∧ (r : Int) ≠ 5 ∧ o2 = true) := by
                      have := HO2.out
                      by_cases h0 : r = 0
                      · subst h0; exact .inl ⟨rfl, by simpa using this⟩
                      · by_cases h5 : r = 5
                        · subst h5; exact .inr (.inl ⟨rfl, by simpa using this⟩)
                        · exact .inr (.inr ⟨by omega, by omega, by simpa [h0, h5] using this⟩)
                    rcases hcs with ⟨rfl, rfl⟩ | ⟨rfl, rfl⟩ | ⟨n0, n5, rfl⟩
                    · go_wp2_with (first
                        | (with_reducible refine wpList_load (o := ⟨some 94, _, _, _, _, _⟩) rfl (.tmp 9) 35 rfl gv 0 _ rfl (rdL 1 2) 2 rfl (by kernel_rfl) hV5.sees ?_)
                        | (with_reducible refine wpList_load (o := ⟨some 95, _, _, _, _, _⟩) rfl (.tmp 7) 30 rfl g 0 _ rfl (T.rL (some ⟨gb3, 0, none⟩) c3) 5 rfl (by kernel_rfl) hBx5.sees ?_)
                        | (go_at_call 10; refine hrSt.mono ?_; rintro e w6 ⟨B2, c4, rfl, hTo, hB6⟩; have hF6 := hBx5.below hB6; have hB06 := Below.then_ hBel5 hB6; have hX6 := hX5.below hB6)
                        | ((with_reducible refine wpList_store rfl rfl (.tmp 7) (.tmp 97) 30 rfl g 0 W.heap.size 30 5 (T.rL (some ⟨gb3, 0, none⟩) c3) (T2.rL B2 c4) rfl rfl 5 rfl (by kernel_rfl) hF6 (by omega) (allOne_out (by kernel_rfl)) W hB06 hWg ?_); intro w7 hF7 hB7 ho7 hz7; obtain ⟨gb4, rfl, hT7⟩ := hT.then3 hx5 hTy5 hn2 hTo hB6 hF7 ho7 hB7 hok2 hdn2; have hX7 := hX6.other ngg ho7; clear hT hX hX5 hX6 hTy5 hx5 hTo hB6 hF7 hB7 hF6 hB06 hBx5 hRn5 hV5 hBel5 hrSt))
                      go_roundw
                      case rel => exact ⟨j + 1, gb4, c4, l2, false, T2, ((0 : Nat) : Int), by omega, by go_num, rfl, rfl, rfl, hT7, hX7⟩
                      case measure => simp [intOf]; omega
                    · go_wp2_with (first
                        | (with_reducible refine wpList_load (o := ⟨some 94, _, _, _, _, _⟩) rfl (.tmp 9) 35 rfl gv 0 _ rfl (rdL 1 2) 2 rfl (by kernel_rfl) hV5.sees ?_)
                        | (with_reducible refine wpList_load (o := ⟨some 95, _, _, _, _, _⟩) rfl (.tmp 7) 30 rfl g 0 _ rfl (T.rL (some ⟨gb3, 0, none⟩) c3) 5 rfl (by kernel_rfl) hBx5.sees ?_)
                        | (go_at_call 10; refine hrSt.mono ?_; rintro e w6 ⟨B2, c4, rfl, hTo, hB6⟩; have hF6 := hBx5.below hB6; have hB06 := Below.then_ hBel5 hB6; have hX6 := hX5.below hB6)
                        | ((with_reducible refine wpList_store rfl rfl (.tmp 7) (.tmp 97) 30 rfl g 0 W.heap.size 30 5 (T.rL (some ⟨gb3, 0, none⟩) c3) (T2.rL B2 c4) rfl rfl 5 rfl (by kernel_rfl) hF6 (by omega) (allOne_out (by kernel_rfl)) W hB06 hWg ?_); intro w7 hF7 hB7 ho7 hz7; obtain ⟨gb4, rfl, hT7⟩ := hT.then3 hx5 hTy5 hn2 hTo hB6 hF7 ho7 hB7 hok2 hdn2; have hX7 := hX6.other ngg ho7; clear hT hX hX5 hX6 hTy5 hx5 hTo hB6 hF7 hB7 hF6 hB06 hBx5 hRn5 hV5 hBel5 hrSt))
                      go_roundw
                      case rel => exact ⟨j + 1, gb4, c4, l2, false, T2, ((5 : Nat) : Int), by omega, by go_num, rfl, rfl, rfl, hT7, hX7⟩
                      case measure => simp [intOf]; omega
                    · have b0 : (((r : Nat) : Int) != 0) = true := by simp; omega
                      have b5 : (((r : Nat) : Int) != 5) = true := by simp; omega
                      go_wp2_with (first
                        | (with_reducible refine wpList_load (o := ⟨some 94, _, _, _, _, _⟩) rfl (.tmp 9) 35 rfl gv 0 _ rfl (rdL 1 2) 2 rfl (by kernel_rfl) hV5.sees ?_)
                        | (with_reducible refine wpList_load (o := ⟨some 95, _, _, _, _, _⟩) rfl (.tmp 7) 30 rfl g 0 _ rfl (T.rL (some ⟨gb3, 0, none⟩) c3) 5 rfl (by kernel_rfl) hBx5.sees ?_)
                        | (go_at_call 10; refine hrSt.mono ?_; rintro e w6 ⟨B2, c4, rfl, hTo, hB6⟩; have hF6 := hBx5.below hB6; have hB06 := Below.then_ hBel5 hB6; have hX6 := hX5.below hB6)
                        | ((with_reducible refine wpList_store rfl rfl (.tmp 7) (.tmp 97) 30 rfl g 0 W.heap.size 30 5 (T.rL (some ⟨gb3, 0, none⟩) c3) (T2.rL B2 c4) rfl rfl 5 rfl (by kernel_rfl) hF6 (by omega) (allOne_out (by kernel_rfl)) W hB06 hWg ?_); intro w7 hF7 hB7 ho7 hz7; obtain ⟨gb4, rfl, hT7⟩ := hT.then3 hx5 hTy5 hn2 hTo hB6 hF7 ho7 hB7 hok2 (fun _ => rfl); have hX7 := hX6.other ngg ho7; clear hT hX hX5 hX6 hTy5 hx5 hTo hB6 hF7 hB7 hF6 hB06 hBx5 hRn5 hV5 hBel5 hrSt))
                      go_roundw
                      case rel => exact ⟨j + 1, gb4, c4, l2, true, T2, (r : Int), by omega, by go_num, rfl, rfl, rfl, hT7, hX7⟩
                      case measure => simp [intOf]; omega
                · rcases hlt6 with ⟨hs6, hlt⟩ | ⟨hs6, hlt⟩
                  all_goals have dlt := decide_eq_false hlt
                  all_goals
                  go_wp2_with fail
                  go_meet
                  case rel => exact ⟨t, gb3, c3, last3, over3, T, z, rfl, rfl, rfl, rfl, hT⟩
          · as_aux_lemma =>
              obtain rfl : k' = 4 := hk
              go_wp2_with fail
              go_loopw [11, 14, 15, 16] (fun vo vx vy vk wi => ∃ (j gb3 c3 last3 : Nat) (over3 : Bool) (T : Fl) (z : Int), j ≤ 600 ∧ vk = .int .i64 (j : Int) ∧ vx = .int .i64 z ∧ vy = .int .i64 z ∧ vo = .bool over3 ∧ TB W wi p b g gb3 c3 d gv t last3 over3 T ∧ Fresh W.heap.size 40 wi (some ⟨gx, 0, none⟩) 5 5 (Oc.cells ⟨4, s', a', A', m', d', l', B', q', e', ks'⟩)) (fun _ _ _ vk _ => 601 - (intOf vk).toNat)
              case atStart => exact ⟨0, gb, c2, last, over, S, 0, by omega, rfl, rfl, rfl, rfl, hT4, hX4'⟩
              case round =>
                clear hT4 hX4' f0_ f1_ f2_ f3_ f4_ hX4 hB4
                obtain ⟨j, gb3, c3, last3, over3, T, z, hj, rfl, rfl, rfl, rfl, hT, hX⟩ := hrel
                have y1 : wr.cell? ⟨gx, 1, none⟩ = some (.int .i64 s') := hX.cell (j := 1) rfl
                have hWr := hT.bd.bs.below.size
                obtain ⟨mn, hcase, hm6⟩ : ∃ mn : Int, ((s' ≤ 600 ∧ s' = mn) ∨ (¬ s' ≤ 600 ∧ 600 = mn)) ∧ mn ≤ 600 := by
                  by_cases h : s' ≤ 600
                  · exact ⟨s', .inl ⟨h, rfl⟩, h⟩
                  · exact ⟨600, .inr ⟨h, rfl⟩, by omega⟩
                have hzz : (z == z) = true := by simp
                have hlt6 : ((s' ≤ 600 ∧ (j : Int) < s') ∨ (¬ s' ≤ 600 ∧ (j : Int) < 600)) ∨ ((s' ≤ 600 ∧ ¬ (j : Int) < s') ∨ (¬ s' ≤ 600 ∧ ¬ (j : Int) < 600)) := by omega
                clear hcase hm6
                rcases hlt6 with hlt6 | hlt6
                · have hj6 : j < 600 := by omega
                  rcases hlt6 with ⟨hs6, hlt⟩ | ⟨hs6, hlt⟩
                  all_goals have dlt := decide_eq_true hlt
                  all_goals
                  cases over3 with
                  | true =>
                    have hst := Step_any hT.ty hWr T 60 last3 true rfl
                    go_wp2_with fail
                    refine hst.mono ?_
                    rintro e w5 ⟨rfl, hTy5, hx5⟩
                    have hT5 := hT.only3 hx5 hTy5 rfl
                    have hX5 := hX.b3 hx5 ngt ngp ngb hX.lt_size
                    clear hst
                    go_wp2_with fail
                    go_roundw
                    case rel => exact ⟨j + 1, gb3, c3, last3, true, T, 60, by omega, by go_num, rfl, rfl, rfl, hT5, hX5⟩
                    case measure => simp [intOf]; omega
                  | false =>
                    have hd : T.down = false := by
                      cases h : T.down
                      · rfl
                      · cases hT.dn h
                    obtain ⟨T2, r, l2, o2, hts⟩ : ∃ T2 r l2 o2, T.tstep 1 last3 false = (T2, r, l2, o2) := ⟨_, _, _, _, rfl⟩
                    obtain ⟨hrs, hn2, hok2, hdn2, ho2⟩ := tstep_two hT.ok hd hts
                    have hst := Step_any hT.ty hWr T2 r l2 o2 hts
                    have HRS := Lib.hid hrs
                    have HO2 := Lib.hid ho2
                    have HD := Lib.hid hd
                    clear hrs ho2 hts hd
                    go_wp2_with fail
                    refine hst.mono ?_
                    rintro e w5 ⟨rfl, hTy5, hx5⟩
                    obtain ⟨hBx5, hRn5, hV5, hBel5⟩ := hT.bd.half3 hx5 hT.tg hT.tb hT.tv hT.ty.lt.2
                    have hX5 := hX.b3 hx5 ngt ngp ngb hX.lt_size
                    have hrSt := rStep_any hRn5 HD.out (hT.bd.bs.nor.left_lt) 1 hT.bd.fits T2 r HRS.out
                    have hWg := hT.bd.lts.2.2.2.1
                    clear hst
                    have hcs : (r = 0 ∧ o2 = false) ∨ (r = 5 ∧ o2 = false) ∨ ((r : Int) ≠ 0 ∧ (r : Int) ≠ 5 ∧ o2 = true) := by
                      have := HO2.out
                      by_cases h0 : r = 0
                      · subst h0; exact .inl ⟨rfl, by simpa using this⟩
                      · by_cases h5 : r = 5
                        · subst h5; exact .inr (.inl ⟨rfl, by simpa using this⟩)
                        · exact .inr (.inr ⟨by omega, by omega, by simpa [h0, h5] using this⟩)
                    rcases hcs with ⟨rfl, rfl⟩ | ⟨rfl, rfl⟩ | ⟨n0, n5, rfl⟩
                    · go_wp2_with (first
                        | (with_reducible refine wpList_load (o := ⟨some 94, _, _, _, _, _⟩) rfl (.tmp 9) 35 rfl gv 0 _ rfl (rdL 1 2) 2 rfl (by kernel_rfl) hV5.sees ?_)
                        | (with_reducible refine wpList_load (o := ⟨some 95, _, _, _, _, _⟩) rfl (.tmp 7) 30 rfl g 0 _ rfl (T.rL (some ⟨gb3, 0, none⟩) c3) 5 rfl (by kernel_rfl) hBx5.sees ?_)
                        | (go_at_call 10; refine hrSt.mono ?_; rintro e w6 ⟨B2, c4, rfl, hTo, hB6⟩; have hF6 := hBx5.below hB6; have hB06 := Below.then_ hBel5 hB6; have hX6 := hX5.below hB6)
                        | ((with_reducible refine wpList_store rfl rfl (.tmp 7) (.tmp 97) 30 rfl g 0 W.heap.size 30 5 (T.rL (some ⟨gb3, 0, none⟩) c3) (T2.rL B2 c4) rfl rfl 5 rfl (by kernel_rfl) hF6 (by omega) (allOne_out (by kernel_rfl)) W hB06 hWg ?_); intro w7 hF7 hB7 ho7 hz7; obtain ⟨gb4, rfl, hT7⟩ := hT.then3 hx5 hTy5 hn2 hTo hB6 hF7 ho7 hB7 hok2 hdn2; have hX7 := hX6.other ngg ho7; clear hT hX hX5 hX6 hTy5 hx5 hTo hB6 hF7 hB7 hF6 hB06 hBx5 hRn5 hV5 hBel5 hrSt))
                      go_roundw
                      case rel => exact ⟨j + 1, gb4, c4, l2, false, T2, ((0 : Nat) : Int), by omega, by go_num, rfl, rfl, rfl, hT7, hX7⟩
                      case measure => simp [intOf]; omega
                    · go_wp2_with (first
                        | (with_reducible refine wpList_load (o := ⟨some 94, _, _, _, _, _⟩) rfl (.tmp 9) 35 rfl gv 0 _ rfl (rdL 1 2) 2 rfl (by kernel_rfl) hV5.sees ?_)
                        | (with_reducible refine wpList_load (o := ⟨some 95, _, _, _, _, _⟩) rfl (.tmp 7) 30 rfl g 0 _ rfl (T.rL (some ⟨gb3, 0, none⟩) c3) 5 rfl (by kernel_rfl) hBx5.sees ?_)
                        | (go_at_call 10; refine hrSt.mono ?_; rintro e w6 ⟨B2, c4, rfl, hTo, hB6⟩; have hF6 := hBx5.below hB6; have hB06 := Below.then_ hBel5 hB6; have hX6 := hX5.below hB6)
                        | ((with_reducible refine wpList_store rfl rfl (.tmp 7) (.tmp 97) 30 rfl g 0 W.heap.size 30 5 (T.rL (some ⟨gb3, 0, none⟩) c3) (T2.rL B2 c4) rfl rfl 5 rfl (by kernel_rfl) hF6 (by omega) (allOne_out (by kernel_rfl)) W hB06 hWg ?_); intro w7 hF7 hB7 ho7 hz7; obtain ⟨gb4, rfl, hT7⟩ := hT.then3 hx5 hTy5 hn2 hTo hB6 hF7 ho7 hB7 hok2 hdn2; have hX7 := hX6.other ngg ho7; clear hT hX hX5 hX6 hTy5 hx5 hTo hB6 hF7 hB7 hF6 hB06 hBx5 hRn5 hV5 hBel5 hrSt))
                      go_roundw
                      case rel => exact ⟨j + 1, gb4, c4, l2, false, T2, ((5 : Nat) : Int), by omega, by go_num, rfl, rfl, rfl, hT7, hX7⟩
                      case measure => simp [intOf]; omega
                    · have b0 : (((r : Nat) : Int) != 0) = true := by simp; omega
                      have b5 : (((r : Nat) : Int) != 5) = true := by simp; omega
                      go_wp2_with (first
                        | (with_reducible refine wpList_load (o := ⟨some 94, _, _, _, _, _⟩) rfl (.tmp 9) 35 rfl gv 0 _ rfl (rdL 1 2) 2 rfl (by kernel_rfl) hV5.sees ?_)
                        | (with_reducible refine wpList_load (o := ⟨some 95, _, _, _, _, _⟩) rfl (.tmp 7) 30 rfl g 0 _ rfl (T.rL (some ⟨gb3, 0, none⟩) c3) 5 rfl (by kernel_rfl) hBx5.sees ?_)
                        | (go_at_call 10; refine hrSt.mono ?_; rintro e w6 ⟨B2, c4, rfl, hTo, hB6⟩; have hF6 := hBx5.below hB6; have hB06 := Below.then_ hBel5 hB6; have hX6 := hX5.below hB6)
                        | ((with_reducible refine wpList_store rfl rfl (.tmp 7) (.tmp 97) 30 rfl g 0 W.heap.size 30 5 (T.rL (some ⟨gb3, 0, none⟩) c3) (T2.rL B2 c4) rfl rfl 5 rfl (by kernel_rfl) hF6 (by omega) (allOne_out (by kernel_rfl)) W hB06 hWg ?_); intro w7 hF7 hB7 ho7 hz7; obtain ⟨gb4, rfl, hT7⟩ := hT.then3 hx5 hTy5 hn2 hTo hB6 hF7 ho7 hB7 hok2 (fun _ => rfl); have hX7 := hX6.other ngg ho7; clear hT hX hX5 hX6 hTy5 hx5 hTo hB6 hF7 hB7 hF6 hB06 hBx5 hRn5 hV5 hBel5 hrSt))
                      go_roundw
                      case rel => exact ⟨j + 1, gb4, c4, l2, true, T2, (r : Int), by omega, by go_num, rfl, rfl, rfl, hT7, hX7⟩
                      case measure => simp [intOf]; omega
                · rcases hlt6 with ⟨hs6, hlt⟩ | ⟨hs6, hlt⟩
                  all_goals have dlt := decide_eq_false hlt
                  all_goals
                  go_wp2_with fail
                  go_meet
                  case rel => exact ⟨t, gb3, c3, last3, over3, T, z, rfl, rfl, rfl, rfl, hT⟩
          · as_aux_lemma =>
              obtain rfl : k' = 5 := hk
              go_wp2_with fail
              go_loopw [11, 14, 15, 16] (fun vo vx vy vk wi => ∃ (j gb3 c3 last3 : Nat) (over3 : Bool) (T : Fl) (z : Int), j ≤ 600 ∧ vk = .int .i64 (j : Int) ∧ vx = .int .i64 z ∧ vy = .int .i64 z ∧ vo = .bool over3 ∧ TB W wi p b g gb3 c3 d gv t last3 over3 T ∧ Fresh W.heap.size 40 wi (some ⟨gx, 0, none⟩) 5 5 (Oc.cells ⟨5, s', a', A', m', d', l', B', q', e', ks'⟩)) (fun _ _ _ vk _ => 601 - (intOf vk).toNat)
              case atStart => exact ⟨0, gb, c2, last, over, S, 0, by omega, rfl, rfl, rfl, rfl, hT4, hX4'⟩
              case round =>
                clear hT4 hX4' f0_ f1_ f2_ f3_ f4_ hX4 hB4
                obtain ⟨j, gb3, c3, last3, over3, T, z, hj, rfl, rfl, rfl, rfl, hT, hX⟩ := hrel
                have y1 : wr.cell? ⟨gx, 1, none⟩ = some (.int .i64 s') := hX.cell (j := 1) rfl
                have hWr := hT.bd.bs.below.size
                obtain ⟨mn, hcase, hm6⟩ : ∃ mn : Int, ((s' ≤ 600 ∧ s' = mn) ∨ (¬ s' ≤ 600 ∧ 600 = mn)) ∧ mn ≤ 600 := by
                  by_cases h : s' ≤ 600
                  · exact ⟨s', .inl ⟨h, rfl⟩, h⟩
                  · exact ⟨600, .inr ⟨h, rfl⟩, by omega⟩
                have hzz : (z == z) = true := by simp
                have hlt6 : ((s' ≤ 600 ∧ (j : Int) < s') ∨ (¬ s' ≤ 600 ∧ (j : Int) < 600)) ∨ ((s' ≤ 600 ∧ ¬ (j : Int) < s') ∨ (¬ s' ≤ 600 ∧ ¬ (j : Int) < 600)) := by omega
                clear hcase hm6
                rcases hlt6 with hlt6 | hlt6
                · have hj6 : j < 600 := by omega
                  rcases hlt6 with ⟨hs6, hlt⟩ | ⟨hs6, hlt⟩
                  all_goals have dlt := decide_eq_true hlt
                  all_goals
                  cases over3 with
                  | true =>
                    have hst := Step_any hT.ty hWr T 60 last3 true rfl
                    go_wp2_with fail
                    refine hst.mono ?_
                    rintro e w5 ⟨rfl, hTy5, hx5⟩
                    have hT5 := hT.only3 hx5 hTy5 rfl
                    have hX5 := hX.b3 hx5 ngt ngp ngb hX.lt_size
                    clear hst
                    go_wp2_with fail
                    go_roundw
                    case rel => exact ⟨j + 1, gb3, c3, last3, true, T, 60, by omega, by go_num, rfl, rfl, rfl, hT5, hX5⟩
                    case measure => simp [intOf]; omega
                  | false =>
                    have hd : T.down = false := by
                      cases h : T.down
                      · rfl
                      · cases hT.dn h
                    obtain ⟨T2, r, l2, o2, hts⟩ : ∃ T2 r l2 o2, T.tstep 1 last3 false = (T2, r, l2, o2) := ⟨_, _, _, _, rfl⟩
                    obtain ⟨hrs, hn2, hok2, hdn2, ho2⟩ := tstep_two hT.ok hd hts
                    have hst := Step_any hT.ty hWr T2 r l2 o2 hts
                    have HRS := Lib.hid hrs
                    have HO2 := Lib.hid ho2
                    have HD := Lib.hid hd
                    clear hrs ho2 hts hd
                    go_wp2_with fail
                    refine hst.mono ?_
                    rintro e w5 ⟨rfl, hTy5, hx5⟩
                    obtain ⟨hBx5, hRn5, hV5, hBel5⟩ := hT.bd.half3 hx5 hT.tg hT.tb hT.tv hT.ty.lt.2
                    have hX5 := hX.b3 hx5 ngt ngp ngb hX.lt_size
                    have hrSt := rStep_any hRn5 HD.out (hT.bd.bs.nor.left_lt) 1 hT.bd.fits T2 r HRS.out
                    have hWg := hT.bd.lts.2.2.2.1
                    clear hst
                    have hcs : (r = 0 ∧ o2 = false) ∨ (r = 5 ∧ o2 = false) ∨ ((r : Int) ≠ 0 ∧ (r : Int) ≠ 5 ∧ o2 = true) := by
                      have := HO2.out
                      by_cases h0 : r = 0
                      · subst h0; exact .inl ⟨rfl, by simpa using this⟩
                      · by_cases h5 : r = 5
                        · subst h5; exact .inr (.inl ⟨rfl, by simpa using this⟩)
                        · exact .inr (.inr ⟨by omega, by omega, by simpa [h0, h5] using this⟩)
                    rcases hcs with ⟨rfl, rfl⟩ | ⟨rfl, rfl⟩ | ⟨n0, n5, rfl⟩
                    · go_wp2_with (first
                        | (with_reducible refine wpList_load (o := ⟨some 94, _, _, _, _, _⟩) rfl (.tmp 9) 35 rfl gv 0 _ rfl (rdL 1 2) 2 rfl (by kernel_rfl) hV5.sees ?_)
                        | (with_reducible refine wpList_load (o := ⟨some 95, _, _, _, _, _⟩) rfl (.tmp 7) 30 rfl g 0 _ rfl (T.rL (some ⟨gb3, 0, none⟩) c3) 5 rfl (by kernel_rfl) hBx5.sees ?_)
                        | (go_at_call 10; refine hrSt.mono ?_; rintro e w6 ⟨B2, c4, rfl, hTo, hB6⟩; have hF6 := hBx5.below hB6; have hB06 := Below.then_ hBel5 hB6; have hX6 := hX5.below hB6)
                        | ((with_reducible refine wpList_store rfl rfl (.tmp 7) (.tmp 97) 30 rfl g 0 W.heap.size 30 5 (T.rL (some ⟨gb3, 0, none⟩) c3) (T2.rL B2 c4) rfl rfl 5 rfl (by kernel_rfl) hF6 (by omega) (allOne_out (by kernel_rfl)) W hB06 hWg ?_); intro w7 hF7 hB7 ho7 hz7; obtain ⟨gb4, rfl, hT7⟩ := hT.then3 hx5 hTy5 hn2 hTo hB6 hF7 ho7 hB7 hok2 hdn2; have hX7 := hX6.other ngg ho7; clear hT hX hX5 hX6 hTy5 hx5 hTo hB6 hF7 hB7 hF6 hB06 hBx5 hRn5 hV5 hBel5 hrSt))
                      go_roundw
                      case rel => exact ⟨j + 1, gb4, c4, l2, false, T2, ((0 : Nat) : Int), by omega, by go_num, rfl, rfl, rfl, hT7, hX7⟩
                      case measure => simp [intOf]; omega
                    · go_wp2_with (first
                        | (with_reducible refine wpList_load (o := ⟨some 94, _, _, _, _, _⟩) rfl (.tmp 9) 35 rfl gv 0 _ rfl (rdL 1 2) 2 rfl (by kernel_rfl) hV5.sees ?_)
                        | (with_reducible refine wpList_load (o := ⟨some 95, _, _, _, _, _⟩) rfl (.tmp 7) 30 rfl g 0 _ rfl (T.rL (some ⟨gb3, 0, none⟩) c3) 5 rfl (by kernel_rfl) hBx5.sees ?_)
                        | (go_at_call 10; refine hrSt.mono ?_; rintro e w6 ⟨B2, c4, rfl, hTo, hB6⟩; have hF6 := hBx5.below hB6; have hB06 := Below.then_ hBel5 hB6; have hX6 := hX5.below hB6)
                        | ((with_reducible refine wpList_store rfl rfl (.tmp 7) (.tmp 97) 30 rfl g 0 W.heap.size 30 5 (T.rL (some ⟨gb3, 0, none⟩) c3) (T2.rL B2 c4) rfl rfl 5 rfl (by kernel_rfl) hF6 (by omega) (allOne_out (by kernel_rfl)) W hB06 hWg ?_); intro w7 hF7 hB7 ho7 hz7; obtain ⟨gb4, rfl, hT7⟩ := hT.then3 hx5 hTy5 hn2 hTo hB6 hF7 ho7 hB7 hok2 hdn2; have hX7 := hX6.other ngg ho7; clear hT hX hX5 hX6 hTy5 hx5 hTo hB6 hF7 hB7 hF6 hB06 hBx5 hRn5 hV5 hBel5 hrSt))
                      go_roundw
                      case rel => exact ⟨j + 1, gb4, c4, l2, false, T2, ((5 : Nat) : Int), by omega, by go_num, rfl, rfl, rfl, hT7, hX7⟩
                      case measure => simp [intOf]; omega
                    · have b0 : (((r : Nat) : Int) != 0) = true := by simp; omega
                      have b5 : (((r : Nat) : Int) != 5) = true := by simp; omega
                      go_wp2_with (first
                        | (with_reducible refine wpList_load (o := ⟨some 94, _, _, _, _, _⟩) rfl (.tmp 9) 35 rfl gv 0 _ rfl (rdL 1 2) 2 rfl (by kernel_rfl) hV5.sees ?_)
                        | (with_reducible refine wpList_load (o := ⟨some 95, _, _, _, _, _⟩) rfl (.tmp 7) 30 rfl g 0 _ rfl (T.rL (some ⟨gb3, 0, none⟩) c3) 5 rfl (by kernel_rfl) hBx5.sees ?_)
                        | (go_at_call 10; refine hrSt.mono ?_; rintro e w6 ⟨B2, c4, rfl, hTo, hB6⟩; have hF6 := hBx5.below hB6; have hB06 := Below.then_ hBel5 hB6; have hX6 := hX5.below hB6)
                        | ((with_reducible refine wpList_store rfl rfl (.tmp 7) (.tmp 97) 30 rfl g 0 W.heap.size 30 5 (T.rL (some ⟨gb3, 0, none⟩) c3) (T2.rL B2 c4) rfl rfl 5 rfl (by kernel_rfl) hF6 (by omega) (allOne_out (by kernel_rfl)) W hB06 hWg ?_); intro w7 hF7 hB7 ho7 hz7; obtain ⟨gb4, rfl, hT7⟩ := hT.then3 hx5 hTy5 hn2 hTo hB6 hF7 ho7 hB7 hok2 (fun _ => rfl); have hX7 := hX6.other ngg ho7; clear hT hX hX5 hX6 hTy5 hx5 hTo hB6 hF7 hB7 hF6 hB06 hBx5 hRn5 hV5 hBel5 hrSt))
                      go_roundw
                      case rel => exact ⟨j + 1, gb4, c4, l2, true, T2, (r : Int), by omega, by go_num, rfl, rfl, rfl, hT7, hX7⟩
                      case measure => simp [intOf]; omega
                · rcases hlt6 with ⟨hs6, hlt⟩ | ⟨hs6, hlt⟩
                  all_goals have dlt := decide_eq_false hlt
                  all_goals
                  go_wp2_with fail
                  go_meet
                  case rel => exact ⟨t, gb3, c3, last3, over3, T, z, rfl, rfl, rfl, rfl, hT⟩
          · as_aux_lemma =>
              obtain rfl : k' = 6 := hk
              go_wp2_with fail
              go_loopw [11, 14, 15, 16] (fun vo vx vy vk wi => ∃ (j gb3 c3 last3 : Nat) (over3 : Bool) (T : Fl) (z : Int), j ≤ 600 ∧ vk = .int .i64 (j : Int) ∧ vx = .int .i64 z ∧ vy = .int .i64 z ∧ vo = .bool over3 ∧ TB W wi p b g gb3 c3 d gv t last3 over3 T ∧ Fresh W.heap.size 40 wi (some ⟨gx, 0, none⟩) 5 5 (Oc.cells ⟨6, s', a', A', m', d', l', B', q', e', ks'⟩)) (fun _ _ _ vk _ => 601 - (intOf vk).toNat)
              case atStart => exact ⟨0, gb, c2, last, over, S, 0, by omega, rfl, rfl, rfl, rfl, hT4, hX4'⟩
              case round =>
                clear hT4 hX4' f0_ f1_ f2_ f3_ f4_ hX4 hB4
                obtain ⟨j, gb3, c3, last3, over3, T, z, hj, rfl, rfl, rfl, rfl, hT, hX⟩ := hrel
                have y1 : wr.cell? ⟨gx, 1, none⟩ = some (.int .i64 s') := hX.cell (j := 1) rfl
                have hWr := hT.bd.bs.below.size
                obtain ⟨mn, hcase, hm6⟩ : ∃ mn : Int, ((s' ≤ 600 ∧ s' = mn) ∨ (¬ s' ≤ 600 ∧ 600 = mn)) ∧ mn ≤ 600 := by
                  by_cases h : s' ≤ 600
                  · exact ⟨s', .inl ⟨h, rfl⟩, h⟩
                  · exact ⟨600, .inr ⟨h, rfl⟩, by omega⟩
                have hzz : (z == z) = true := by simp
                have hlt6 : ((s' ≤ 600 ∧ (j : Int) < s') ∨ (¬ s' ≤ 600 ∧ (j : Int) < 600)) ∨ ((s' ≤ 600 ∧ ¬ (j : Int) < s') ∨ (¬ s' ≤ 600 ∧ ¬ (j : Int) < 600)) := by omega
                clear hcase hm6
                rcases hlt6 with hlt6 | hlt6
                · have hj6 : j < 600 := by omega
                  rcases hlt6 with ⟨hs6, hlt⟩ | ⟨hs6, hlt⟩
                  all_goals have dlt := decide_eq_true hlt
                  all_goals
                  cases over3 with
                  | true =>
                    have hst := Step_any hT.ty hWr T 60 last3 true rfl
                    go_wp2_with fail
                    refine hst.mono ?_
                    rintro e w5 ⟨rfl, hTy5, hx5⟩
                    have hT5 := hT.only3 hx5 hTy5 rfl
                    have hX5 := hX.b3 hx5 ngt ngp ngb hX.lt_size
                    clear hst
                    go_wp2_with fail
                    go_roundw
                    case rel => exact ⟨j + 1, gb3, c3, last3, true, T, 60, by omega, by go_num, rfl, rfl, rfl, hT5, hX5⟩
                    case measure => simp [intOf]; omega
                  | false =>
                    have hd : T.down = false := by
                      cases h : T.down
                      · rfl
                      · cases hT.dn h
                    obtain ⟨T2, r, l2, o2, hts⟩ : ∃ T2 r l2 o2, T.tstep 1 last3 false = (T2, r, l2, o2) := ⟨_, _, _, _, rfl⟩
                    obtain ⟨hrs, hn2, hok2, hdn2, ho2⟩ := tstep_two hT.ok hd hts
                    have hst := Step_any hT.ty hWr T2 r l2 o2 hts
                    have HRS := Lib.hid hrs
                    have HO2 := Lib.hid ho2
                    have HD := Lib.hid hd
                    clear hrs ho2 hts hd
                    go_wp2_with fail
                    refine hst.mono ?_
                    rintro e w5 ⟨rfl, hTy5, hx5⟩
                    obtain ⟨hBx5, hRn5, hV5, hBel5⟩ := hT.bd.half3 hx5 hT.tg hT.tb hT.tv hT.ty.lt.2
                    have hX5 := hX.b3 hx5 ngt ngp ngb hX.lt_size
                    have hrSt := rStep_any hRn5 HD.out (hT.bd.bs.nor.left_lt) 1 hT.bd.fits T2 r HRS.out
                    have hWg := hT.bd.lts.2.2.2.1
                    clear hst
                    have hcs : (r = 0 ∧ o2 = false) ∨ (r = 5 ∧ o2 = false) ∨ ((r : Int) ≠ 0 ∧ (r : Int) ≠ 5 ∧ o2 = true) := by
                      have := HO2.out
                      by_cases h0 : r = 0
                      · subst h0; exact .inl ⟨rfl, by simpa using this⟩
                      · by_cases h5 : r = 5
                        · subst h5; exact .inr (.inl ⟨rfl, by simpa using this⟩)
                        · exact .inr (.inr ⟨by omega, by omega, by simpa [h0, h5] using this⟩)
                    rcases hcs with ⟨rfl, rfl⟩ | ⟨rfl, rfl⟩ | ⟨n0, n5, rfl⟩
                    · go_wp2_with (first
                        | (with_reducible refine wpList_load (o := ⟨some 94, _, _, _, _, _⟩) rfl (.tmp 9) 35 rfl gv 0 _ rfl (rdL 1 2) 2 rfl (by kernel_rfl) hV5.sees ?_)
                        | (with_reducible refine wpList_load (o := ⟨some 95, _, _, _, _, _⟩) rfl (.tmp 7) 30 rfl g 0 _ rfl (T.rL (some ⟨gb3, 0, none⟩) c3) 5 rfl (by kernel_rfl) hBx5.sees ?_)
                        | (go_at_call 10; refine hrSt.mono ?_; rintro e w6 ⟨B2, c4, rfl, hTo, hB6⟩; have hF6 := hBx5.below hB6; have hB06 := Below.then_ hBel5 hB6; have hX6 := hX5.below hB6)
                        | ((with_reducible refine wpList_store rfl rfl (.tmp 7) (.tmp 97) 30 rfl g 0 W.heap.size 30 5 (T.rL (some ⟨gb3, 0, none⟩) c3) (T2.rL B2 c4) rfl rfl 5 rfl (by kernel_rfl) hF6 (by omega) (allOne_out (by kernel_rfl)) W hB06 hWg ?_); intro w7 hF7 hB7 ho7 hz7; obtain ⟨gb4, rfl, hT7⟩ := hT.then3 hx5 hTy5 hn2 hTo hB6 hF7 ho7 hB7 hok2 hdn2; have hX7 := hX6.other ngg ho7; clear hT hX hX5 hX6 hTy5 hx5 hTo hB6 hF7 hB7 hF6 hB06 hBx5 hRn5 hV5 hBel5 hrSt))
                      go_roundw
                      case rel => exact ⟨j + 1, gb4, c4, l2, false, T2, ((0 : Nat) : Int), by omega, by go_num, rfl, rfl, rfl, hT7, hX7⟩
                      case measure => simp [intOf]; omega
                    · go_wp2_with (first
                        | (with_reducible refine wpList_load (o := ⟨some 94, _, _, _, _, _⟩) rfl (.tmp 9) 35 rfl gv 0 _ rfl (rdL 1 2) 2 rfl (by kernel_rfl) hV5.sees ?_)
                        | (with_reducible refine wpList_load (o := ⟨some 95, _, _, _, _, _⟩) rfl (.tmp 7) 30 rfl g 0 _ rfl (T.rL (some ⟨gb3, 0, none⟩) c3) 5 rfl (by kernel_rfl) hBx5.sees ?_)
                        | (go_at_call 10; refine hrSt.mono ?_; rintro e w6 ⟨B2, c4, rfl, hTo, hB6⟩; have hF6 := hBx5.below hB6; have hB06 := Below.then_ hBel5 hB6; have hX6 := hX5.below hB6)
                        | ((with_reducible refine wpList_store rfl rfl (.tmp 7) (.tmp 97) 30 rfl g 0 W.heap.size 30 5 (T.rL (some ⟨gb3, 0, none⟩) c3) (T2.rL B2 c4) rfl rfl 5 rfl (by kernel_rfl) hF6 (by omega) (allOne_out (by kernel_rfl)) W hB06 hWg ?_); intro w7 hF7 hB7 ho7 hz7; obtain ⟨gb4, rfl, hT7⟩ := hT.then3 hx5 hTy5 hn2 hTo hB6 hF7 ho7 hB7 hok2 hdn2; have hX7 := hX6.other ngg ho7; clear hT hX hX5 hX6 hTy5 hx5 hTo hB6 hF7 hB7 hF6 hB06 hBx5 hRn5 hV5 hBel5 hrSt))
                      go_roundw
                      case rel => exact ⟨j + 1, gb4, c4, l2, false, T2, ((5 : Nat) : Int), by omega, by go_num, rfl, rfl, rfl, hT7, hX7⟩
                      case measure => simp [intOf]; omega
                    · have b0 : (((r : Nat) : Int) != 0) = true := by simp; omega
                      have b5 : (((r : Nat) : Int) != 5) = true := by simp; omega
                      go_wp2_with (first
                        | (with_reducible refine wpList_load (o := ⟨some 94, _, _, _, _, _⟩) rfl (.tmp 9) 35 rfl gv 0 _ rfl (rdL 1 2) 2 rfl (by kernel_rfl) hV5.sees ?_)
                        | (with_reducible refine wpList_load (o := ⟨some 95, _, _, _, _, _⟩) rfl (.tmp 7) 30 rfl g 0 _ rfl (T.rL (some ⟨gb3, 0, none⟩) c3) 5 rfl (by kernel_rfl) hBx5.sees ?_)
                        | (go_at_call 10; refine hrSt.mono ?_; rintro e w6 ⟨B2, c4, rfl, hTo, hB6⟩; have hF6 := hBx5.below hB6; have hB06 := Below.then_ hBel5 hB6; have hX6 := hX5.below hB6)
                        | ((with_reducible refine wpList_store rfl rfl (.tmp 7) (.tmp 97) 30 rfl g 0 W.heap.size 30 5 (T.rL (some ⟨gb3, 0, none⟩) c3) (T2.rL B2 c4) rfl rfl 5 rfl (by kernel_rfl) hF6 (by omega) (allOne_out (by kernel_rfl)) W hB06 hWg ?_); intro w7 hF7 hB7 ho7 hz7; obtain ⟨gb4, rfl, hT7⟩ := hT.then3 hx5 hTy5 hn2 hTo hB6 hF7 ho7 hB7 hok2 (fun _ => rfl); have hX7 := hX6.other ngg ho7; clear hT hX hX5 hX6 hTy5 hx5 hTo hB6 hF7 hB7 hF6 hB06 hBx5 hRn5 hV5 hBel5 hrSt))
                      go_roundw
                      case rel => exact ⟨j + 1, gb4, c4, l2, true, T2, (r : Int), by omega, by go_num, rfl, rfl, rfl, hT7, hX7⟩
                      case measure => simp [intOf]; omega
                · rcases hlt6 with ⟨hs6, hlt⟩ | ⟨hs6, hlt⟩
                  all_goals have dlt := decide_eq_false hlt
                  all_goals
                  go_wp2_with fail
                  go_meet
                  case rel => exact ⟨t, gb3, c3, last3, over3, T, z, rfl, rfl, rfl, rfl, hT⟩
          · as_aux_lemma =>
              obtain rfl : k' = 7 := hk
              obtain ⟨T, hTe⟩ : ∃ T, S.arm s' = T := ⟨_, rfl⟩
              have hTn := Fl.arm_ok hT4.ok s'
              have hdn7 : T.down = true → over = true := fun e => hT4.dn (by rw [← hTe] at e; unfold Fl.arm at e; split at e <;> first | assumption | (rename_i h; rw [h] at e; cases e) | exact e)
              rw [hTe] at hTn
              have hAr := Arm_any hT4.bd.bs.nor s' (by have := HX5.out; omega)
              rw [hTe] at hAr
              go_wp2_with fail
              refine hAr.mono ?_
              rintro e w5 ⟨rfl, hN5, hx5⟩
              have hx53 := But3.of_but hx5 t
              have hD5 := hT4.bd.at_.turn hx5 hN5 hTn.1
              have hTy5 := hT4.ty.turn hx5 hD5
              obtain ⟨hBx5, hRn5, hV5, hBel5⟩ := hT4.bd.half3 hx53 hT4.tg hT4.tb hT4.tv hT4.ty.lt.2
              have hWg := hT4.bd.lts.2.2.2.1
              obtain ⟨lp4, lb4, lp5, lb5⟩ := hT4.bd.bs.nor.lt
              have hX5 := hX4'.b3 hx53 ngt ngp ngb hX4'.lt_size
              have y0 : w5.cell? ⟨gx, 0, none⟩ = some (.int .i64 7) := hX5.cell (j := 0) rfl
              have y1 : w5.cell? ⟨gx, 1, none⟩ = some (.int .i64 s') := hX5.cell (j := 1) rfl
              have y2 : w5.cell? ⟨gx, 2, none⟩ = some (.int .i64 a') := hX5.cell (j := 2) rfl
              have y3 : w5.cell? ⟨gx, 3, none⟩ = some (.slice A' m' d') := hX5.cell (j := 3) rfl
              have y4 : w5.cell? ⟨gx, 4, none⟩ = some (.slice B' q' e') := hX5.cell (j := 4) rfl
              have HX15 := (HX14.below (hx5.below lp5 lb5 hW4)).more (Nat.le_trans hW4 hx5.size)
              have HX35 := (HX34.below (hx5.below lp5 lb5 hW4)).more (Nat.le_trans hW4 hx5.size)
              clear f0_ f1_ f2_ f3_ f4_ hX4 hB4
              go_wp2_with (first
                | (with_reducible refine wpList_load (o := ⟨some 111, _, _, _, _, _⟩) rfl (.tmp 7) 30 rfl g 0 _ rfl (S.rL (some ⟨gb, 0, none⟩) c2) 5 rfl (by kernel_rfl) hBx5.sees ?_))
              have hAr2 := rArm_any (A := some ⟨gb, 0, none⟩) (c := c2) s' S w5
              rw [hTe] at hAr2
              refine hAr2.mono ?_
              rintro e w6 ⟨rfl, hB6⟩
              have hTo := arm_to hRn5 hB6 s' hTe
              have hF6 := hBx5.below hB6
              have hB06 := Below.then_ hBel5 hB6
              have hX6 := hX5.below hB6
              go_wp2_with (first
                | ((with_reducible refine wpList_store rfl rfl (.tmp 7) (.tmp 114) 30 rfl g 0 W.heap.size 30 5 (S.rL (some ⟨gb, 0, none⟩) c2) (T.rL (some ⟨gb, 0, none⟩) c2) rfl rfl 5 rfl (by kernel_rfl) hF6 (by omega) (allOne_out (by kernel_rfl)) W hB06 hWg ?_); intro w7 hF7 hB7 ho7 hz7; obtain ⟨gb2, eB, hT7⟩ := hT4.then3 hx53 hTy5 hTn.1 hTo hB6 hF7 ho7 hB7 hTn.2 hdn7))
              go_meet
              case rel => exact ⟨t, gb2, c2, last, over, T, 0, rfl, rfl, rfl, rfl, hT7⟩
          · as_aux_lemma =>
              obtain rfl : k' = 8 := hk
              obtain ⟨T, hTe⟩ : ∃ T, S.crash ks' = T := ⟨_, rfl⟩
              have hTn := Fl.crash_ok S ks'
              have hup := (S.crash_up6 ks')
              rw [hTe] at hTn hup
              have hdn7 : T.down = true → over = true := fun e => by rw [hup] at e; cases e
              have hAr := Crash_any hT4.bd.bs.nor hT4.ok B' q' e' ks' hW4 HX34 HX4.out
              rw [hTe] at hAr
              go_wp2_with fail
              refine hAr.mono ?_
              rintro e w5 ⟨rfl, hN5, hx5⟩
              have hx53 := But3.of_but hx5 t
              have hD5 := hT4.bd.at_.turn hx5 hN5 hTn.1
              have hTy5 := hT4.ty.turn hx5 hD5
              obtain ⟨hBx5, hRn5, hV5, hBel5⟩ := hT4.bd.half3 hx53 hT4.tg hT4.tb hT4.tv hT4.ty.lt.2
              have hWg := hT4.bd.lts.2.2.2.1
              obtain ⟨lp4, lb4, lp5, lb5⟩ := hT4.bd.bs.nor.lt
              have hX5 := hX4'.b3 hx53 ngt ngp ngb hX4'.lt_size
              have y0 : w5.cell? ⟨gx, 0, none⟩ = some (.int .i64 8) := hX5.cell (j := 0) rfl
              have y1 : w5.cell? ⟨gx, 1, none⟩ = some (.int .i64 s') := hX5.cell (j := 1) rfl
              have y2 : w5.cell? ⟨gx, 2, none⟩ = some (.int .i64 a') := hX5.cell (j := 2) rfl
              have y3 : w5.cell? ⟨gx, 3, none⟩ = some (.slice A' m' d') := hX5.cell (j := 3) rfl
              have y4 : w5.cell? ⟨gx, 4, none⟩ = some (.slice B' q' e') := hX5.cell (j := 4) rfl
              have HX15 := (HX14.below (hx5.below lp5 lb5 hW4)).more (Nat.le_trans hW4 hx5.size)
              have HX35 := (HX34.below (hx5.below lp5 lb5 hW4)).more (Nat.le_trans hW4 hx5.size)
              clear f0_ f1_ f2_ f3_ f4_ hX4 hB4
              go_wp2_with (first
                | (with_reducible refine wpList_load (o := ⟨some 145, _, _, _, _, _⟩) rfl (.tmp 7) 30 rfl g 0 _ rfl (S.rL (some ⟨gb, 0, none⟩) c2) 5 rfl (by kernel_rfl) hBx5.sees ?_))
              have hAr2 := rCrash_any hRn5 hT4.ok hT4.bd.bs.n1 B' q' e' (by omega) ks' HX35 HX4.out
              rw [hTe] at hAr2
              refine hAr2.mono ?_
              rintro e w6 ⟨B2, c3, rfl, hTo, hB6⟩
              have hF6 := hBx5.below hB6
              have hB06 := Below.then_ hBel5 hB6
              have hX6 := hX5.below hB6
              go_wp2_with (first
                | ((with_reducible refine wpList_store rfl rfl (.tmp 7) (.tmp 148) 30 rfl g 0 W.heap.size 30 5 (S.rL (some ⟨gb, 0, none⟩) c2) (T.rL B2 c3) rfl rfl 5 rfl (by kernel_rfl) hF6 (by omega) (allOne_out (by kernel_rfl)) W hB06 hWg ?_); intro w7 hF7 hB7 ho7 hz7; obtain ⟨gb2, rfl, hT7⟩ := hT4.then3 hx53 hTy5 hTn.1 hTo hB6 hF7 ho7 hB7 hTn.2 hdn7; have hX7 := hX6.other ngg ho7; clear hT4 hX4' hX5 hX6 hTy5 hx53 hx5 hTo hB6 hF7 hB7 hF6 hB06 hBx5 hRn5 hV5 hBel5 hN5 hD5))
              have hW7 := hT7.bd.bs.below.size
              cases hdw : T.down with
              | true =>
                obtain rfl : over = true := hdn7 hdw
                have hop := TOpen_no hT7.bd.at_ hdw hW7
                have HRO := Lib.hid (fun (w' : World) (x : Below w7.heap.size w7 w') => rOpen6_any (hT7.bd.bs.rn.step x) 1 hT7.bd.fits 40 (by simp [hdw]))
                go_wp2_with fail
                refine hop.mono ?_
                rintro e w8 ⟨rfl, hB8⟩
                have hT8 := hT7.step hB8
                go_wp2_with (first
                  | (with_reducible refine wpList_load (o := ⟨some 155, _, _, _, _, _⟩) rfl (.tmp 9) 35 rfl gv 0 _ rfl (rdL 1 2) 2 rfl (by kernel_rfl) hT8.bd.v.sees ?_)
                  | (with_reducible refine wpList_load (o := ⟨some 156, _, _, _, _, _⟩) rfl (.tmp 7) 30 rfl g 0 _ rfl (T.rL (some ⟨gb2, 0, none⟩) c3) 5 rfl (by kernel_rfl) hT8.bd.bs.box.sees ?_)
                  | (go_at_call 18; refine (HRO.out _ hB8).mono ?_; rintro e w9 ⟨rfl, hB9⟩))
                go_meet
                case rel => exact ⟨t, gb2, c3, last, true, T, 0, rfl, rfl, rfl, rfl, hT8.step hB9⟩
              | false =>
                obtain ⟨cc, hcc⟩ : ∃ cc, (T.tlook 1).2.1 = cc := ⟨_, rfl⟩
                have hop := TOpen_yes hT7.bd.at_ hdw hW7 cc hcc
                have HRO := Lib.hid (fun (w' : World) (x : Below w7.heap.size w7 w') => rOpen6_any (hT7.bd.bs.rn.step x) 1 hT7.bd.fits 0 (by simp [hdw]))
                go_wp2_with fail
                refine hop.mono ?_
                rintro e w8 ⟨u2, rfl, hTy8, hB8, hu2⟩
                have hT8 := hT7.fresh hB8 hTy8 hu2 hdw
                go_wp2_with (first
                  | (with_reducible refine wpList_load (o := ⟨some 155, _, _, _, _, _⟩) rfl (.tmp 9) 35 rfl gv 0 _ rfl (rdL 1 2) 2 rfl (by kernel_rfl) hT8.bd.v.sees ?_)
                  | (with_reducible refine wpList_load (o := ⟨some 156, _, _, _, _, _⟩) rfl (.tmp 7) 30 rfl g 0 _ rfl (T.rL (some ⟨gb2, 0, none⟩) c3) 5 rfl (by kernel_rfl) hT8.bd.bs.box.sees ?_)
                  | (go_at_call 18; refine (HRO.out _ hB8).mono ?_; rintro e w9 ⟨rfl, hB9⟩))
                go_meet
                case rel => exact ⟨u2, gb2, c3, cc, false, T, 0, rfl, rfl, rfl, rfl, hT8.step hB9⟩
          · as_aux_lemma =>
              obtain rfl : k' = 9 := hk
              obtain ⟨T, hTe⟩ : ∃ T, S.crash ks' = T := ⟨_, rfl⟩
              have hTn := Fl.crash_ok S ks'
              have hup := (S.crash_up6 ks')
              rw [hTe] at hTn hup
              have hdn7 : T.down = true → over = true := fun e => by rw [hup] at e; cases e
              have hAr := Crash_any hT4.bd.bs.nor hT4.ok B' q' e' ks' hW4 HX34 HX4.out
              rw [hTe] at hAr
              go_wp2_with fail
              refine hAr.mono ?_
              rintro e w5 ⟨rfl, hN5, hx5⟩
              have hx53 := But3.of_but hx5 t
              have hD5 := hT4.bd.at_.turn hx5 hN5 hTn.1
              have hTy5 := hT4.ty.turn hx5 hD5
              obtain ⟨hBx5, hRn5, hV5, hBel5⟩ := hT4.bd.half3 hx53 hT4.tg hT4.tb hT4.tv hT4.ty.lt.2
              have hWg := hT4.bd.lts.2.2.2.1
              obtain ⟨lp4, lb4, lp5, lb5⟩ := hT4.bd.bs.nor.lt
              have hX5 := hX4'.b3 hx53 ngt ngp ngb hX4'.lt_size
              have y0 : w5.cell? ⟨gx, 0, none⟩ = some (.int .i64 9) := hX5.cell (j := 0) rfl
              have y1 : w5.cell? ⟨gx, 1, none⟩ = some (.int .i64 s') := hX5.cell (j := 1) rfl
              have y2 : w5.cell? ⟨gx, 2, none⟩ = some (.int .i64 a') := hX5.cell (j := 2) rfl
              have y3 : w5.cell? ⟨gx, 3, none⟩ = some (.slice A' m' d') := hX5.cell (j := 3) rfl
              have y4 : w5.cell? ⟨gx, 4, none⟩ = some (.slice B' q' e') := hX5.cell (j := 4) rfl
              have HX15 := (HX14.below (hx5.below lp5 lb5 hW4)).more (Nat.le_trans hW4 hx5.size)
              have HX35 := (HX34.below (hx5.below lp5 lb5 hW4)).more (Nat.le_trans hW4 hx5.size)
              clear f0_ f1_ f2_ f3_ f4_ hX4 hB4
              go_wp2_with (first
                | (with_reducible refine wpList_load (o := ⟨some 145, _, _, _, _, _⟩) rfl (.tmp 7) 30 rfl g 0 _ rfl (S.rL (some ⟨gb, 0, none⟩) c2) 5 rfl (by kernel_rfl) hBx5.sees ?_))
              have hAr2 := rCrash_any hRn5 hT4.ok hT4.bd.bs.n1 B' q' e' (by omega) ks' HX35 HX4.out
              rw [hTe] at hAr2
              refine hAr2.mono ?_
              rintro e w6 ⟨B2, c3, rfl, hTo, hB6⟩
              have hF6 := hBx5.below hB6
              have hB06 := Below.then_ hBel5 hB6
              have hX6 := hX5.below hB6
              go_wp2_with (first
                | ((with_reducible refine wpList_store rfl rfl (.tmp 7) (.tmp 148) 30 rfl g 0 W.heap.size 30 5 (S.rL (some ⟨gb, 0, none⟩) c2) (T.rL B2 c3) rfl rfl 5 rfl (by kernel_rfl) hF6 (by omega) (allOne_out (by kernel_rfl)) W hB06 hWg ?_); intro w7 hF7 hB7 ho7 hz7; obtain ⟨gb2, rfl, hT7⟩ := hT4.then3 hx53 hTy5 hTn.1 hTo hB6 hF7 ho7 hB7 hTn.2 hdn7; have hX7 := hX6.other ngg ho7; clear hT4 hX4' hX5 hX6 hTy5 hx53 hx5 hTo hB6 hF7 hB7 hF6 hB06 hBx5 hRn5 hV5 hBel5 hN5 hD5))
              have hW7 := hT7.bd.bs.below.size
              cases hdw : T.down with
              | true =>
                obtain rfl : over = true := hdn7 hdw
                have hop := TOpen_no hT7.bd.at_ hdw hW7
                have HRO := Lib.hid (fun (w' : World) (x : Below w7.heap.size w7 w') => rOpen6_any (hT7.bd.bs.rn.step x) 1 hT7.bd.fits 40 (by simp [hdw]))
                go_wp2_with fail
                refine hop.mono ?_
                rintro e w8 ⟨rfl, hB8⟩
                have hT8 := hT7.step hB8
                go_wp2_with (first
                  | (with_reducible refine wpList_load (o := ⟨some 155, _, _, _, _, _⟩) rfl (.tmp 9) 35 rfl gv 0 _ rfl (rdL 1 2) 2 rfl (by kernel_rfl) hT8.bd.v.sees ?_)
                  | (with_reducible refine wpList_load (o := ⟨some 156, _, _, _, _, _⟩) rfl (.tmp 7) 30 rfl g 0 _ rfl (T.rL (some ⟨gb2, 0, none⟩) c3) 5 rfl (by kernel_rfl) hT8.bd.bs.box.sees ?_)
                  | (go_at_call 18; refine (HRO.out _ hB8).mono ?_; rintro e w9 ⟨rfl, hB9⟩))
                go_meet
                case rel => exact ⟨t, gb2, c3, last, true, T, 0, rfl, rfl, rfl, rfl, hT8.step hB9⟩
              | false =>
                obtain ⟨cc, hcc⟩ : ∃ cc, (T.tlook 1).2.1 = cc := ⟨_, rfl⟩
                have hop := TOpen_yes hT7.bd.at_ hdw hW7 cc hcc
                have HRO := Lib.hid (fun (w' : World) (x : Below w7.heap.size w7 w') => rOpen6_any (hT7.bd.bs.rn.step x) 1 hT7.bd.fits 0 (by simp [hdw]))
                go_wp2_with fail
                refine hop.mono ?_
                rintro e w8 ⟨u2, rfl, hTy8, hB8, hu2⟩
                have hT8 := hT7.fresh hB8 hTy8 hu2 hdw
                go_wp2_with (first
                  | (with_reducible refine wpList_load (o := ⟨some 155, _, _, _, _, _⟩) rfl (.tmp 9) 35 rfl gv 0 _ rfl (rdL 1 2) 2 rfl (by kernel_rfl) hT8.bd.v.sees ?_)
                  | (with_reducible refine wpList_load (o := ⟨some 156, _, _, _, _, _⟩) rfl (.tmp 7) 30 rfl g 0 _ rfl (T.rL (some ⟨gb2, 0, none⟩) c3) 5 rfl (by kernel_rfl) hT8.bd.bs.box.sees ?_)
                  | (go_at_call 18; refine (HRO.out _ hB8).mono ?_; rintro e w9 ⟨rfl, hB9⟩))
                go_meet
                case rel => exact ⟨u2, gb2, c3, cc, false, T, 0, rfl, rfl, rfl, rfl, hT8.step hB9⟩
          · as_aux_lemma =>
              obtain rfl : k' = 10 := hk
              obtain ⟨T, r, hr⟩ : ∃ T r, S.rewrite s' a' l' = (T, r) := ⟨_, _, rfl⟩
              have hTn := Fl.rewrite_ok hT4.ok hr
              have hdn7 : T.down = true → over = true := fun e => hT4.dn (by rw [← rewrite_down6 hr]; exact e)
              have HR := Lib.hid hr
              clear hr
              have hAr := Rewrite_any hT4.bd.bs.nor s' a' HX6.out m' d' A' l' hW4 HX14 HX2.out T r HR.out
              go_wp2_with fail
              refine hAr.mono ?_
              rintro e w5 ⟨rfl, hN5, hx5⟩
              have hx53 := But3.of_but hx5 t
              have hD5 := hT4.bd.at_.turn hx5 hN5 hTn.1
              have hTy5 := hT4.ty.turn hx5 hD5
              obtain ⟨hBx5, hRn5, hV5, hBel5⟩ := hT4.bd.half3 hx53 hT4.tg hT4.tb hT4.tv hT4.ty.lt.2
              have hWg := hT4.bd.lts.2.2.2.1
              obtain ⟨lp4, lb4, lp5, lb5⟩ := hT4.bd.bs.nor.lt
              have hX5 := hX4'.b3 hx53 ngt ngp ngb hX4'.lt_size
              have y0 : w5.cell? ⟨gx, 0, none⟩ = some (.int .i64 10) := hX5.cell (j := 0) rfl
              have y1 : w5.cell? ⟨gx, 1, none⟩ = some (.int .i64 s') := hX5.cell (j := 1) rfl
              have y2 : w5.cell? ⟨gx, 2, none⟩ = some (.int .i64 a') := hX5.cell (j := 2) rfl
              have y3 : w5.cell? ⟨gx, 3, none⟩ = some (.slice A' m' d') := hX5.cell (j := 3) rfl
              have y4 : w5.cell? ⟨gx, 4, none⟩ = some (.slice B' q' e') := hX5.cell (j := 4) rfl
              have HX15 := (HX14.below (hx5.below lp5 lb5 hW4)).more (Nat.le_trans hW4 hx5.size)
              have HX35 := (HX34.below (hx5.below lp5 lb5 hW4)).more (Nat.le_trans hW4 hx5.size)
              clear f0_ f1_ f2_ f3_ f4_ hX4 hB4
              go_wp2_with (first
                | (with_reducible refine wpList_load (o := ⟨some 131, _, _, _, _, _⟩) rfl (.tmp 7) 30 rfl g 0 _ rfl (S.rL (some ⟨gb, 0, none⟩) c2) 5 rfl (by kernel_rfl) hBx5.sees ?_))
              refine (rRewrite_any hRn5 s' a' HX6.out m' d' (by omega) A' l' HX15 HX2.out T r HR.out).mono ?_
              rintro e w6 ⟨B2, c3, rfl, hTo, hB6⟩
              have hF6 := hBx5.below hB6
              have hB06 := Below.then_ hBel5 hB6
              have hX6 := hX5.below hB6
              go_wp2_with (first
                | ((with_reducible refine wpList_store rfl rfl (.tmp 7) (.tmp 139) 30 rfl g 0 W.heap.size 30 5 (S.rL (some ⟨gb, 0, none⟩) c2) (T.rL B2 c3) rfl rfl 5 rfl (by kernel_rfl) hF6 (by omega) (allOne_out (by kernel_rfl)) W hB06 hWg ?_); intro w7 hF7 hB7 ho7 hz7; obtain ⟨gb2, rfl, hT7⟩ := hT4.then3 hx53 hTy5 hTn.1 hTo hB6 hF7 ho7 hB7 hTn.2 hdn7; have hX7 := hX6.other ngg ho7; clear hT4 hX4' hX5 hX6 hTy5 hx53 hx5 hTo hB6 hF7 hB7 hF6 hB06 hBx5 hRn5 hV5 hBel5 hN5 hD5))
              have hW7 := hT7.bd.bs.below.size
              cases hdw : T.down with
              | true =>
                obtain rfl : over = true := hdn7 hdw
                have hop := TOpen_no hT7.bd.at_ hdw hW7
                have HRO := Lib.hid (fun (w' : World) (x : Below w7.heap.size w7 w') => rOpen6_any (hT7.bd.bs.rn.step x) 1 hT7.bd.fits 40 (by simp [hdw]))
                go_wp2_with fail
                refine hop.mono ?_
                rintro e w8 ⟨rfl, hB8⟩
                have hT8 := hT7.step hB8
                go_wp2_with (first
                  | (with_reducible refine wpList_load (o := ⟨some 155, _, _, _, _, _⟩) rfl (.tmp 9) 35 rfl gv 0 _ rfl (rdL 1 2) 2 rfl (by kernel_rfl) hT8.bd.v.sees ?_)
                  | (with_reducible refine wpList_load (o := ⟨some 156, _, _, _, _, _⟩) rfl (.tmp 7) 30 rfl g 0 _ rfl (T.rL (some ⟨gb2, 0, none⟩) c3) 5 rfl (by kernel_rfl) hT8.bd.bs.box.sees ?_)
                  | (go_at_call 18; refine (HRO.out _ hB8).mono ?_; rintro e w9 ⟨rfl, hB9⟩))
                go_meet
                case rel => exact ⟨t, gb2, c3, last, true, T, 0, rfl, rfl, rfl, rfl, hT8.step hB9⟩
              | false =>
                obtain ⟨cc, hcc⟩ : ∃ cc, (T.tlook 1).2.1 = cc := ⟨_, rfl⟩
                have hop := TOpen_yes hT7.bd.at_ hdw hW7 cc hcc
                have HRO := Lib.hid (fun (w' : World) (x : Below w7.heap.size w7 w') => rOpen6_any (hT7.bd.bs.rn.step x) 1 hT7.bd.fits 0 (by simp [hdw]))
                go_wp2_with fail
                refine hop.mono ?_
                rintro e w8 ⟨u2, rfl, hTy8, hB8, hu2⟩
                have hT8 := hT7.fresh hB8 hTy8 hu2 hdw
                go_wp2_with (first
                  | (with_reducible refine wpList_load (o := ⟨some 155, _, _, _, _, _⟩) rfl (.tmp 9) 35 rfl gv 0 _ rfl (rdL 1 2) 2 rfl (by kernel_rfl) hT8.bd.v.sees ?_)
                  | (with_reducible refine wpList_load (o := ⟨some 156, _, _, _, _, _⟩) rfl (.tmp 7) 30 rfl g 0 _ rfl (T.rL (some ⟨gb2, 0, none⟩) c3) 5 rfl (by kernel_rfl) hT8.bd.bs.box.sees ?_)
                  | (go_at_call 18; refine (HRO.out _ hB8).mono ?_; rintro e w9 ⟨rfl, hB9⟩))
                go_meet
                case rel => exact ⟨u2, gb2, c3, cc, false, T, 0, rfl, rfl, rfl, rfl, hT8.step hB9⟩
          · as_aux_lemma =>
              have q1 : (k' == 1) = false := by simp; omega
              have q2 : (k' == 2) = false := by simp; omega
              have q3 : (k' == 3) = false := by simp; omega
              have q4 : (k' == 4) = false := by simp; omega
              have q5 : (k' == 5) = false := by simp; omega
              have q6 : (k' == 6) = false := by simp; omega
              have q7 : (k' == 7) = false := by simp; omega
              have q8 : (k' == 8) = false := by simp; omega
              have q9 : (k' == 9) = false := by simp; omega
              have q10 : (k' == 10) = false := by simp; omega
              go_wp2_with fail
              go_meet
              case rel => exact ⟨t, gb, c2, last, over, S, 0, rfl, rfl, rfl, rfl, hT4⟩
        case rest =>
          as_aux_lemma =>
            obtain ⟨t7, gb7, c7, last7, over7, T, z, rfl, rfl, rfl, rfl, hT7⟩ := hcut
            clear hT hT4 hX4 hX4' HX1 HX3 HX14 HX34 hB4 f0_ f1_ f2_ f3_ f4_
            have hne : (z != z) = false := by simp
            obtain ⟨sI, kI, hlk⟩ : ∃ sI kI, T.rlook 1 = (sI, kI) := ⟨_, _, rfl⟩
            cases over7 with
            | true =>
              go_wp2_with (first
                | (with_reducible refine wpList_load (o := ⟨some 170, _, _, _, _, _⟩) rfl (.tmp 9) 35 rfl gv 0 _ rfl (rdL 1 2) 2 rfl (by kernel_rfl) hT7.bd.v.sees ?_)
                | (with_reducible refine wpList_load (o := ⟨some 171, _, _, _, _, _⟩) rfl (.tmp 7) 30 rfl g 0 _ rfl (T.rL (some ⟨gb7, 0, none⟩) c7) 5 rfl (by kernel_rfl) hT7.bd.bs.box.sees ?_)
                | (go_at_call 19; refine (rLook_any hT7.bd.bs.rn 1 hT7.bd.fits _ _ hlk).mono ?_; rintro e w8 ⟨rfl, hB8⟩; have hT8 := hT7.step hB8)
                | (go_at_call 20; refine (Over_any hT8.ty).mono ?_; rintro e w9 ⟨rfl, rfl⟩)
                | (with_reducible refine wpList_load_g (o := ⟨some 201, _, _, _, _, _⟩) (.tmp 7) 30 rfl g 0 _ rfl (T.rL (some ⟨gb7, 0, none⟩) c7) 5 rfl (by kernel_rfl) hT8.bd.bs.box.sees (wanted_at rfl rfl rfl) ?_)
                | (go_at_call 22; refine (SameNor_any hT8.bd.bs.nor hT8.bd.bs.rn).mono ?_; rintro e wz ⟨rfl, hBz⟩))
              go_roundw
              case rel => exact ⟨k + 1, t7, gb7, c7, last7, true, T, by omega, by omega, rfl, rfl, by go_num, hT8.step hBz⟩
              case measure => simp [intOf]; omega
            | false =>
              have hd : T.down = false := by
                cases h : T.down
                · rfl
                · cases hT7.dn h
              obtain ⟨cc, hcc⟩ : ∃ cc, (T.tlook 1).2.1 = cc := ⟨_, rfl⟩
              obtain rfl : (cc : Int) = kI := by
                have := hlk
                unfold Fl.rlook at this
                rw [hd, hcc] at this
                simp at this
                exact this.2
              have hne2 : (((cc : Nat) : Int) != (cc : Int)) = false := by simp
              have HD := Lib.hid hd
              have HCC := Lib.hid hcc
              clear hd hcc
              go_wp2_with (first
                | (with_reducible refine wpList_load (o := ⟨some 170, _, _, _, _, _⟩) rfl (.tmp 9) 35 rfl gv 0 _ rfl (rdL 1 2) 2 rfl (by kernel_rfl) hT7.bd.v.sees ?_)
                | (with_reducible refine wpList_load (o := ⟨some 171, _, _, _, _, _⟩) rfl (.tmp 7) 30 rfl g 0 _ rfl (T.rL (some ⟨gb7, 0, none⟩) c7) 5 rfl (by kernel_rfl) hT7.bd.bs.box.sees ?_)
                | (go_at_call 19; refine (rLook_any hT7.bd.bs.rn 1 hT7.bd.fits _ _ hlk).mono ?_; rintro e w8 ⟨rfl, hB8⟩; have hT8 := hT7.step hB8; have kc3 : w8.cell? ⟨g, 3, none⟩ = some (.bool false) := by rw [← HD.out]; exact hT8.bd.bs.box.cell (j := 3) rfl)
                | (go_at_call 20; refine (Over_any hT8.ty).mono ?_; rintro e w9 ⟨rfl, rfl⟩)
                | (go_at_call 21; refine (Count_any hT8.ty HD.out hT8.bd.bs.below.size cc HCC.out).mono ?_; rintro e w9 ⟨rfl, hTy9, hx9⟩; have hT9 := hT8.only3 (But3.of_own hx9 p b) hTy9 rfl)
                | (with_reducible refine wpList_load_g (o := ⟨some 201, _, _, _, _, _⟩) (.tmp 7) 30 rfl g 0 _ rfl (T.rL (some ⟨gb7, 0, none⟩) c7) 5 rfl (by kernel_rfl) hT9.bd.bs.box.sees (wanted_at rfl rfl rfl) ?_)
                | (go_at_call 22; refine (SameNor_any hT9.bd.bs.nor hT9.bd.bs.rn).mono ?_; rintro e wz ⟨rfl, hBz⟩))
              go_roundw
              case rel => exact ⟨k + 1, t7, gb7, c7, cc, false, T, by omega, by omega, rfl, rfl, by go_num, hT9.step hBz⟩
              case measure => simp [intOf]; omega
      · obtain rfl : k = 25 := by omega
        go_wp2_with fail
        refine (awake6_any _).mono ?_
        rintro e w5 ⟨rfl, hB5⟩
        go_wp2_with fail
        go_ret
        exact ⟨rfl, Below.then_ hT.bd.bs.below hB5⟩
    · obtain rfl : k = N := by omega
      go_wp2_with fail
      refine (awake6_any _).mono ?_
      rintro e w5 ⟨rfl, hB5⟩
      go_wp2_with fail
      go_ret
      exact ⟨rfl, Below.then_ hT.bd.bs.below hB5⟩
theorem tplays_law (W : World) (a0 : Option Addr) (len0 cap0 : Nat) (o0 : List Oc) (e0 : o0.length = len0) (s0 : Sees W W.heap.size a0 (ocs o0)) (w0 : ∀ p ∈ o0, p.Ok W.heap.size W) :
    Calls Try.prog 3 #[.slice a0 len0 cap0] W fun e w' => e = .returned (.bool true) ∧ Below W.heap.size W w' := tplays_walk W a0 len0 cap0 o0 e0 s0 w0
end Go.Proofs.Ytcfjbllmaejiaaa
