/-
  The document's own flash, by value: Program, word by word.
-/
import Derived.Test.YtjmofjcdcmbecaaRefNor2
import Derived.Test.YtjmofjcdcmbecaaDrPure
namespace Go.Proofs.Ytjmofjcdcmbecaa
open Go.RowKit
set_option linter.unusedVariables false

def rcode : Bool → Int
  | true => 0
  | false => 40
/-- The call's own blocks within a round: the flash by value, the result, the words. -/
structure RP (w0 : World) (g gr gb c2 : Nat) (T : Fl) (wr : World) : Prop where
  box : Fresh w0.heap.size 65 wr (some ⟨g, 0, none⟩) 5 5 (T.rL (some ⟨gb, 0, none⟩) c2)
  res : Fresh w0.heap.size 65 wr (some ⟨gr, 0, none⟩) 5 5 (rnL none 0 0 0 0 false 0)
  row : Fresh w0.heap.size 22 wr (some ⟨gb, 0, none⟩) (64 * T.n) c2 (cw T.ws)
  below : Below w0.heap.size w0 wr
theorem Fresh.otherC {w w' : World} {base : Nat} {e : TypeId} {gb g n c : Nat} {xs : List Value} (h : Fresh base e w (some ⟨gb, 0, none⟩) n c xs) (hne : gb ≠ g) (hk : ∀ k, k ≠ g → w'.heap[k]? = w.heap[k]?) : Fresh base e w' (some ⟨gb, 0, none⟩) n c xs := by
  refine ⟨h.1, ?_⟩
  rcases h.2 with h1 | ⟨g', cap, cur, hv, hg, hh, hr⟩
  · exact .inl h1
  · have e : gb = g' := by
      simp only [Value.slice.injEq, Option.some.injEq, Addr.mk.injEq] at hv
      exact hv.1.1
    subst e
    exact .inr ⟨gb, cap, cur, hv, hg, by rw [hk gb hne]; exact hh, hr⟩
theorem Fl.prog_len : ∀ (l : List UInt32) (S : Fl) (j : Nat), (S.prog j l).1.ws.length = S.ws.length
  | [], S, j => rfl
  | x :: l, S, j => by
    have h1 := S.step_ws
    simp only [Fl.prog]
    revert h1
    rcases S.step with ⟨T, _ | _⟩
    · intro h1; exact congrArg List.length h1
    · intro h1
      have h2 := Fl.prog_len l (T.put1 j x) (j + 1)
      refine h2.trans ?_
      simp only [Fl.put1, List.length_set]
      exact congrArg List.length h1
theorem step_ok {S T : Fl} {b : Bool} (h : S.step = (T, b)) (hl : S.left < 9223372036854775808) : T.n = S.n ∧ T.ws = S.ws ∧ T.left < 9223372036854775808 := by
  obtain ⟨n, ws, G, ar, left, D, H⟩ := S
  cases ar
  · simp only [Fl.step, Prod.mk.injEq] at h
    rw [← h.1]
    exact ⟨rfl, rfl, hl⟩
  · rcases left with _ | left
    · simp only [Fl.step, Prod.mk.injEq] at h
      rw [← h.1]
      exact ⟨rfl, rfl, hl⟩
    · simp only [Fl.step, Prod.mk.injEq] at h
      rw [← h.1]
      refine ⟨rfl, rfl, ?_⟩
      simp only at hl ⊢
      omega
theorem rstep_at {A : Option Addr} {c : Nat} (S T : Fl) (b : Bool) (h : S.step = (T, b)) (hl : S.left < 9223372036854775808) (w : World) :
    Calls Try.prog 105 #[.agg (S.rL A c).toArray] w fun e w' => e = .returned (.tuple #[.agg (T.rL A c).toArray, .bool b]) ∧ Below w.heap.size w w' :=
  rstep_any S.n S.ws S.guard S.armed S.left S.down S.half hl T b h w
section
variable {w : World} {A : Option Addr} {c : Nat} {S : Fl}
set_option maxHeartbeats 2000000 in
set_option maxRecDepth 100000 in
theorem rprog_ok (h : RnAt w A c S) (hd : S.down = false) (hl2 : S.left < 9223372036854775808) (σ α m d : Nat) (C : Option Addr) (l : List UInt32) (hs : Sees w w.heap.size C (cw l)) (hl : l.length = m) (hσ : σ < S.n) (hα : α + m ≤ 64) (T : Fl) (r : Bool) (hr : S.prog (σ * 64 + α) l = (T, r)) :
    Calls Try.prog 40 #[.agg (S.rL A c).toArray, .int .i64 (σ : Int), .int .i64 (α : Int), .slice C m d] w fun e w' => ∃ gb c2, e = .returned (.tuple #[.agg (T.rL (some ⟨gb, 0, none⟩) c2).toArray, .int .i64 (rcode r)]) ∧ Fresh w.heap.size 22 w' (some ⟨gb, 0, none⟩) (64 * S.n) c2 (cw T.ws) ∧ Below w.heap.size w w' := by
  have hpl : S.place (σ : Int) (α : Int) m = true := by simp [Fl.place, Fl.sector]; omega
  have hRt := fun (w' : World) => rright_any (A := A) (c := c) S h.n_le (σ : Int) (α : Int) (by omega) C m d (by omega) true hpl w'
  have hOw := fun (w' : World) (x : Below w.heap.size w w') => rown_any (h.step x)
  have hc3 : S.rL A c = rnL A (64 * S.n) c S.guard S.leftR false S.half := by unfold Fl.rL; rw [hd]
  have hn := h.n_le
  have HL := Lib.hid hl
  have HR := Lib.hid hr
  have HL2 := Lib.hid hl2
  have HX3 : Hid ((S.rL A c)[3]? = some (.bool false)) := Lib.hid (by rw [hc3]; rfl)
  have hαI : decide ((64 : Int) < (α : Int)) = false := by simp; omega
  clear hl hr hl2 hd hpl hc3
  go_enter Try.func40, Try.ntmps40
  go_wp2_with (first
    | (with_reducible refine wpList_box (o := ⟨some 4, _, _, _, _, _⟩) rfl (.tmp 0) 65 rfl (S.rL A c) rfl 5 rfl (by decide) ?_; intro g w1 hg hF hB; have z1 := hB.size; have lg := hF.lt_size)
    | (with_reducible refine wpList_alloc (o := ⟨some 8, _, _, _, _, _⟩) rfl 65 rfl (rnL none 0 0 0 0 false 0) (by kernel_rfl) 5 rfl (by decide) ?_; intro gr w2 hgr hFr hBr; have z2 := hBr.size; have gne : gr ≠ g := (by omega); have hF2 := hF.below hBr; have hB2 := Below.then_ hB hBr; have c3 : w2.cell? ⟨g, 3, none⟩ = some (.bool false) := hF2.cell (j := 3) HX3.out)
    | (refine wpList_load_g (o := ⟨some 18, _, _, _, _, _⟩) (.tmp 4) 65 rfl g 0 _ rfl (S.rL A c) 5 rfl (by kernel_rfl) hF2.sees (by rfl) ?_))
  refine (hRt w2).mono ?_
  rintro e w3 ⟨rfl, hB3⟩
  have hF3 := hF2.below hB3
  have hR3 := hFr.below hB3
  have hB03 := Below.then_ hB2 hB3
  have lgr := hFr.lt_size
  have z3 := hB3.size
  have hOw3 := hOw w3 hB03
  clear hRt hOw hF2 hFr hB2 hB3 c3 HX3
  go_wp2_with (with_reducible refine wpList_load (o := ⟨some 26, _, _, _, _, _⟩) rfl (.tmp 4) 65 rfl g 0 _ rfl (S.rL A c) 5 rfl (by kernel_rfl) hF3.sees ?_)
  refine hOw3.mono ?_
  rintro e w4 ⟨B, c2, rfl, hW4, hB4⟩
  obtain ⟨gb, rfl, hgb, hgb2⟩ := hW4.spot_ (by omega)
  have hF4 := hF3.below hB4
  have hR4 := hR3.below hB4
  have hB04 := Below.then_ hB03 hB4
  have z4 := hB4.size
  have gg : g < w3.heap.size := by omega
  have ggr : gr < w3.heap.size := by omega
  clear hOw3 hF3 hR3
  go_wp2_with (with_reducible refine wpList_store rfl rfl (.tmp 4) (.tmp 27) 65 rfl g 0 w.heap.size 65 5 (S.rL A c) (S.rL (some ⟨gb, 0, none⟩) c2) rfl rfl 5 rfl (by kernel_rfl) hF4 (by omega) (allOne_out (by kernel_rfl)) w hB04 hg ?_; intro w5 hF5 hB5 ho5 hz5)
  have hF5' : Fresh w.heap.size 65 w5 (some ⟨g, 0, none⟩) 5 5 (S.rL (some ⟨gb, 0, none⟩) c2) := hF5
  have hRP : RP w g gr gb c2 S w5 := ⟨hF5', (hR4.lower (by omega)).other gne ho5, (hW4.apart fun k hk => ho5 k (by omega)).lower (by omega), hB5⟩
  have n1 : gb ≠ g := by omega
  have n2 : gb ≠ gr := by omega
  clear hF5 hF5' hR4 hW4 hF4 hB04 ho5
  go_loopw [10] (fun i wr => ∃ (k : Nat) (T2 : Fl), k ≤ m ∧ i = .int .i64 (k : Int) ∧ RP w g gr gb c2 T2 wr ∧ T2.n = S.n ∧ Hid (T2.left < 9223372036854775808) ∧ Hid (T2.prog (σ * 64 + α + k) (l.drop k) = (T, r))) (fun i _ => m - (intOf i).toNat)
  case atStart => exact ⟨0, S, by omega, rfl, hRP, rfl, HL2, Lib.hid (by simpa using HR.out)⟩
  case round =>
    obtain ⟨k, T2, hk, rfl, hQ, hTn, HLe, HP⟩ := hrel
    by_cases hlt : k < m
    · obtain ⟨x, hx⟩ : ∃ x, l[k]? = some x := ⟨_, List.getElem?_eq_getElem (by rw [HL.out]; exact hlt)⟩
      have hdr := drop_at32 hx
      obtain ⟨T1, r1, hst⟩ : ∃ T1 r1, T2.step = (T1, r1) := ⟨_, _, rfl⟩
      obtain ⟨s1, s2, s3⟩ := step_ok hst HLe.out
      have hSt := fun (w' : World) => rstep_at (A := some ⟨gb, 0, none⟩) (c := c2) T2 T1 r1 hst HLe.out w'
      have hpr := HP.out
      rw [hdr, Fl.prog, hst] at hpr
      have HPR := Lib.hid hpr
      have HX := Lib.hid hx
      have HS := Lib.hid (And.intro s1 (And.intro s2 s3))
      clear hpr hst hdr hx s1 s2 s3 HP hRP
      cases r1
      · go_wp2_with (with_reducible refine wpList_load (o := ⟨some 35, _, _, _, _, _⟩) rfl (.tmp 4) 65 rfl g 0 _ rfl (T2.rL (some ⟨gb, 0, none⟩) c2) 5 rfl (by kernel_rfl) hQ.box.sees ?_)
        refine (hSt wr).mono ?_
        rintro e w6 ⟨rfl, hB6⟩
        go_wp2_with (first
          | (with_reducible refine wpList_store rfl rfl (.tmp 4) (.tmp 37) 65 rfl g 0 w.heap.size 65 5 (T2.rL (some ⟨gb, 0, none⟩) c2) (T1.rL (some ⟨gb, 0, none⟩) c2) rfl rfl 5 rfl (by kernel_rfl) (hQ.box.below hB6) (by omega) (allOne_out (by kernel_rfl)) w (Below.then_ hQ.below hB6) hg ?_; intro w7 hF7 hB7 ho7 hz7; have hR7 := (hQ.res.below hB6).other gne ho7; have hW7 := (hQ.row.below hB6).otherC n1 ho7)
          | (with_reducible refine wpList_load (o := ⟨some 41, _, _, _, _, _⟩) rfl (.tmp 4) 65 rfl g 0 _ rfl (T1.rL (some ⟨gb, 0, none⟩) c2) 5 rfl (by kernel_rfl) hF7.sees ?_)
          | (with_reducible refine wpList_store rfl rfl (.tmp 8) (.tmp 41) 65 rfl gr 0 w.heap.size 65 5 (rnL none 0 0 0 0 false 0) (T1.rL (some ⟨gb, 0, none⟩) c2) rfl rfl 5 rfl (by kernel_rfl) hR7 (by omega) (allOne_out (by kernel_rfl)) w hB7 (by omega) ?_; intro w8 hF8 hB8 ho8 hz8))
        have hpr := HPR.out
        simp only [Prod.mk.injEq] at hpr
        obtain ⟨rfl, rfl⟩ := hpr
        (try simp only [Exit.inBlock, Exit.then])
        refine bodyPost_cellt rfl rfl (.int .i64 40) rfl (T1.rL (some ⟨gb, 0, none⟩) c2) 5 rfl (by kernel_rfl) hF8.sees rfl ⟨gb, c2, rfl, ?_, hB8⟩
        have := hW7.otherC n2 ho8
        rw [HS.out.2.1, ← hTn]
        exact this
      · have hpr := HPR.out
        simp only at hpr
        have HPR2 := Lib.hid hpr
        have hsr := hs.step hQ.below
        have em : IntKind.i64.wrap ((σ : Int) * 64) = (σ : Int) * 64 := wrapI _ (by omega) (by omega)
        have ea : IntKind.i64.wrap ((σ : Int) * 64 + (α : Int)) = (σ : Int) * 64 + (α : Int) := wrapI _ (by omega) (by omega)
        have eb : IntKind.i64.wrap ((σ : Int) * 64 + (α : Int) + (k : Int)) = (σ : Int) * 64 + (α : Int) + (k : Int) := wrapI _ (by omega) (by omega)
        clear hpr HPR
        go_wp2_with (with_reducible refine wpList_load (o := ⟨some 35, _, _, _, _, _⟩) rfl (.tmp 4) 65 rfl g 0 _ rfl (T2.rL (some ⟨gb, 0, none⟩) c2) 5 rfl (by kernel_rfl) hQ.box.sees ?_)
        refine (hSt wr).mono ?_
        rintro e w6 ⟨rfl, hB6⟩
        go_wp2_with (with_reducible refine wpList_store rfl rfl (.tmp 4) (.tmp 37) 65 rfl g 0 w.heap.size 65 5 (T2.rL (some ⟨gb, 0, none⟩) c2) (T1.rL (some ⟨gb, 0, none⟩) c2) rfl rfl 5 rfl (by kernel_rfl) (hQ.box.below hB6) (by omega) (allOne_out (by kernel_rfl)) w (Below.then_ hQ.below hB6) hg ?_; intro w7 hF7 hB7 ho7 hz7)
        have hF7' : Fresh w.heap.size 65 w7 (some ⟨g, 0, none⟩) 5 5 (T1.rL (some ⟨gb, 0, none⟩) c2) := hF7
        have hR7 := (hQ.res.below hB6).other gne ho7
        have hW7 := (hQ.row.below hB6).otherC n1 ho7
        have hT1n : T1.n = S.n := HS.out.1.trans hTn
        rw [← HS.out.2.1, ← HS.out.1] at hW7
        have hs7 := (hs.below hB7).more hB7.size
        obtain ⟨gx, ox, rfl, hgx, x', HX2, hx', hcx⟩ := hs7.word HL.out hlt
        obtain rfl : x' = x := by have := HX2.out; rw [HX.out] at this; exact (Option.some.inj this).symm
        have hwl : T1.ws.length = 64 * T1.n := by simpa using hW7.len
        obtain ⟨gy, oy, ey, hgy, y, HY, hy', hcy⟩ := hW7.sees.word (k := σ * 64 + α + k) hwl (by rw [hT1n]; omega)
        obtain ⟨rfl, rfl⟩ : gb = gy ∧ 0 = oy := by simpa using ey
        rw [Nat.zero_add] at hcy
        have hzy : w7.frozen? ⟨gb, σ * 64 + α + k, none⟩ = false := World.ownsRow.frozenAt hW7 _
        have c0 : w7.cell? ⟨g, 0, none⟩ = some (.slice (some ⟨gb, 0, none⟩) (64 * S.n) c2) := by
          have := hF7'.cell (j := 0) (u := .slice (some ⟨gb, 0, none⟩) (64 * T1.n) c2) rfl
          rw [← hT1n]
          exact this
        have hraw := and32 y x'
        clear hF7 hQ hSt ey hsr hwl
        refine region_qtail 24 (by kernel_rfl) (by kernel_rfl) ?_
        simp only [List.take_succ_cons, List.take_zero, List.drop_succ_cons, List.drop_zero]
        repeat (go_big_quiet_step (fail))
        refine wpQuiet_nil ?_
        rintro _ ⟨nq, rfl⟩
        go_wp2_with fail
        go_roundw
        case rel =>
          rw [← UInt32.toNat_and]
          have hDr := below_drewN' (Below.refl w7.heap.size w7) nq
          have e1 : (T1.put1 (σ * 64 + α + k) x').ws = T1.ws.set (σ * 64 + α + k) (y &&& x') := by
            unfold Fl.put1
            simp only [List.getD_eq_getElem?_getD, HY.out, Option.getD_some]
          have hW8 := (World.ownsRow.stored (hW7.below hDr) (σ * 64 + α + k) (.int .u32 ((y &&& x').toNat : Int))).1
          rw [show (cw T1.ws).set (σ * 64 + α + k) (.int .u32 ((y &&& x').toNat : Int)) = cw (T1.put1 (σ * 64 + α + k) x').ws from by rw [e1]; simp [cw, List.map_set]] at hW8
          refine ⟨k + 1, T1.put1 (σ * 64 + α + k) x', by omega, by go_num, ⟨?_, ?_, hW8, ?_⟩, hT1n, Lib.hid HS.out.2.2, Lib.hid ?_⟩
          · exact (hF7'.below hDr).other (Ne.symm n1) (rn_other _ ⟨gb, _, none⟩ _)
          · exact (hR7.below hDr).other (Ne.symm n2) (rn_other _ ⟨gb, _, none⟩ _)
          · exact (below_drewN' hB7 nq).setCell (p := ⟨gb, σ * 64 + α + k, none⟩) (by show _ ≤ gb; omega) _
          · have := HPR2.out
            rwa [Nat.add_assoc (σ * 64 + α) k 1] at this
        case measure => simp [intOf]; omega
    · obtain rfl : k = m := by omega
      have hpr := HP.out
      rw [List.drop_of_length_le (by rw [HL.out]; exact Nat.le_refl _), Fl.prog] at hpr
      simp only [Prod.mk.injEq] at hpr
      obtain ⟨rfl, rfl⟩ := hpr
      have hW7 := hQ.row
      rw [hTn] at hW7
      clear hRP
      go_wp2_with (first
        | (with_reducible refine wpList_load (o := ⟨some 66, _, _, _, _, _⟩) rfl (.tmp 4) 65 rfl g 0 _ rfl (T2.rL (some ⟨gb, 0, none⟩) c2) 5 rfl (by kernel_rfl) hQ.box.sees ?_)
        | (with_reducible refine wpList_store rfl rfl (.tmp 8) (.tmp 66) 65 rfl gr 0 w.heap.size 65 5 (rnL none 0 0 0 0 false 0) (T2.rL (some ⟨gb, 0, none⟩) c2) rfl rfl 5 rfl (by kernel_rfl) hQ.res (by omega) (allOne_out (by kernel_rfl)) w hQ.below (by omega) ?_; intro w8 hF8 hB8 ho8 hz8))
      refine bodyPost_cellt rfl rfl (.int .i64 0) rfl (T2.rL (some ⟨gb, 0, none⟩) c2) 5 rfl (by kernel_rfl) hF8.sees rfl ⟨gb, c2, rfl, hW7.otherC n2 ho8, hB8⟩
set_option maxHeartbeats 2000000 in
set_option maxRecDepth 100000 in
theorem rProgram_any (h : RnAt w A c S) (hl2 : S.left < 9223372036854775808) (s a : Int) (ha : -9223372036854775808 ≤ a ∧ a < 9223372036854775808) (m d : Nat) (hm : m ≤ 1099511627776) (C : Option Addr) (l : List UInt32) (hs : Sees w w.heap.size C (cw l)) (hl : l.length = m) (T : Fl) (r : Nat) (hr : S.program s a l = (T, r)) :
    Calls Try.prog 40 #[.agg (S.rL A c).toArray, .int .i64 s, .int .i64 a, .slice C m d] w fun e w' => ∃ B c2, e = .returned (.tuple #[.agg (T.rL B c2).toArray, .int .i64 (r : Int)]) ∧ RnTo w w' A B c c2 S T ∧ Below w.heap.size w w' := by
  unfold Fl.program at hr
  rw [hl] at hr
  cases hd : S.down
  · cases hp : S.place s a m
    · obtain ⟨rfl, rfl⟩ : S = T ∧ 2 = r := by rw [hd, hp] at hr; simpa using hr
      have HX3 : Hid ((S.rL A c)[3]? = some (.bool false)) := Lib.hid (by unfold Fl.rL; rw [hd]; rfl)
      have HP := Lib.hid hp
      by_cases h64 : 64 < a
      · clear hr hd hl hp hs hl2
        go_enter Try.func40, Try.ntmps40
        go_wp2_with (first
            | (with_reducible refine wpList_box (o := ⟨some 4, _, _, _, _, _⟩) rfl (.tmp 0) 65 rfl (S.rL A c) rfl 5 rfl (by decide) ?_; intro g w1 hg hF hB; have z1 := hB.size; have lg := hF.lt_size)
            | (with_reducible refine wpList_alloc (o := ⟨some 8, _, _, _, _, _⟩) rfl 65 rfl (rnL none 0 0 0 0 false 0) (by kernel_rfl) 5 rfl (by decide) ?_; intro gr w2 hgr hFr hBr; have z2 := hBr.size; have gne : gr ≠ g := (by omega); have hF2 := hF.below hBr; have hB2 := Below.then_ hB hBr; have c3 : w2.cell? ⟨g, 3, none⟩ = some (.bool false) := hF2.cell (j := 3) HX3.out)
            | (with_reducible refine wpList_load (o := ⟨some 25, _, _, _, _, _⟩) rfl (.tmp 4) 65 rfl g 0 _ rfl (S.rL A c) 5 rfl (by kernel_rfl) hF2.sees ?_)
            | (with_reducible refine wpList_store rfl rfl (.tmp 8) (.tmp 25) 65 rfl gr 0 w1.heap.size 65 5 (rnL none 0 0 0 0 false 0) (S.rL A c) rfl rfl 5 rfl (by kernel_rfl) hFr (by omega) (allOne_out (by kernel_rfl)) w hB2 (by omega) ?_; intro w9 hF9 hB9 ho9 hz9))
        refine bodyPost_cellt rfl rfl (.int .i64 2) rfl (S.rL A c) 5 rfl (by kernel_rfl) hF9.sees rfl ⟨A, c, rfl, ⟨h.step hB9, .inl ⟨rfl, rfl, rfl, rfl⟩⟩, hB9⟩
      · have hRt := fun (w' : World) => rright_any (A := A) (c := c) S h.n_le s a (by omega) C m d hm false hp w'
        have hD : decide ((64 : Int) < a) = false := by simp; omega
        clear hr hd hl hp hs hl2
        go_enter Try.func40, Try.ntmps40
        go_wp2_with (first
            | (with_reducible refine wpList_box (o := ⟨some 4, _, _, _, _, _⟩) rfl (.tmp 0) 65 rfl (S.rL A c) rfl 5 rfl (by decide) ?_; intro g w1 hg hF hB; have z1 := hB.size; have lg := hF.lt_size)
            | (with_reducible refine wpList_alloc (o := ⟨some 8, _, _, _, _, _⟩) rfl 65 rfl (rnL none 0 0 0 0 false 0) (by kernel_rfl) 5 rfl (by decide) ?_; intro gr w2 hgr hFr hBr; have z2 := hBr.size; have gne : gr ≠ g := (by omega); have hF2 := hF.below hBr; have hB2 := Below.then_ hB hBr; have c3 : w2.cell? ⟨g, 3, none⟩ = some (.bool false) := hF2.cell (j := 3) HX3.out)
            | (refine wpList_load_g (o := ⟨some 18, _, _, _, _, _⟩) (.tmp 4) 65 rfl g 0 _ rfl (S.rL A c) 5 rfl (by kernel_rfl) hF2.sees (by rfl) ?_))
        refine (hRt w2).mono ?_
        rintro e w3 ⟨rfl, hB3⟩
        have hF3 := hF2.below hB3
        have hR3 := hFr.below hB3
        have hB03 := Below.then_ hB2 hB3
        go_wp2_with (first
            | (with_reducible refine wpList_load (o := ⟨some 25, _, _, _, _, _⟩) rfl (.tmp 4) 65 rfl g 0 _ rfl (S.rL A c) 5 rfl (by kernel_rfl) hF3.sees ?_)
            | (with_reducible refine wpList_store rfl rfl (.tmp 8) (.tmp 25) 65 rfl gr 0 w1.heap.size 65 5 (rnL none 0 0 0 0 false 0) (S.rL A c) rfl rfl 5 rfl (by kernel_rfl) hR3 (by omega) (allOne_out (by kernel_rfl)) w hB03 (by omega) ?_; intro w9 hF9 hB9 ho9 hz9))
        refine bodyPost_cellt rfl rfl (.int .i64 2) rfl (S.rL A c) 5 rfl (by kernel_rfl) hF9.sees rfl ⟨A, c, rfl, ⟨h.step hB9, .inl ⟨rfl, rfl, rfl, rfl⟩⟩, hB9⟩
    · obtain ⟨σ, α, rfl, rfl, hσ, hα⟩ := Fl.place_out hp
      obtain ⟨T', b, hb⟩ : ∃ T' b, S.prog (σ * 64 + α) l = (T', b) := ⟨_, _, rfl⟩
      have hT : T' = T ∧ (r : Int) = rcode b := by
        rw [hd, hp] at hr
        simp only [Int.toNat_natCast] at hr
        rw [hb] at hr
        cases b
        · simp only [Prod.mk.injEq] at hr
          exact ⟨hr.1, by rw [← hr.2]; rfl⟩
        · simp only [Prod.mk.injEq] at hr
          exact ⟨hr.1, by rw [← hr.2]; rfl⟩
      obtain ⟨rfl, hrc⟩ := hT
      rw [hrc]
      have hk := Fl.prog_half l S (σ * 64 + α)
      rw [hb] at hk
      have hTl : T'.ws.length = 64 * S.n := by
        have := Fl.prog_len l S (σ * 64 + α)
        rw [hb] at this
        rw [this]
        exact h.len
      refine (rprog_ok h hd hl2 σ α m d C l hs hl hσ hα T' b hb).mono ?_
      rintro e w' ⟨gb, c2, rfl, hF, hB⟩
      have hn : T'.n = S.n := hk.1
      rw [← hn] at hF
      exact ⟨some ⟨gb, 0, none⟩, c2, rfl, ⟨RnAt.fresh hF (by rw [hTl, hn]) (by rw [hn]; exact h.n_le), .inr hF⟩, hB⟩
  · obtain ⟨rfl, rfl⟩ : S = T ∧ 40 = r := by rw [hd] at hr; simpa using hr
    have HX3 : Hid ((S.rL A c)[3]? = some (.bool true)) := Lib.hid (by unfold Fl.rL; rw [hd]; rfl)
    clear hr hd hl hs hl2 ha
    go_enter Try.func40, Try.ntmps40
    go_wp2_with (first
        | (with_reducible refine wpList_box (o := ⟨some 4, _, _, _, _, _⟩) rfl (.tmp 0) 65 rfl (S.rL A c) rfl 5 rfl (by decide) ?_; intro g w1 hg hF hB; have z1 := hB.size; have lg := hF.lt_size)
        | (with_reducible refine wpList_alloc (o := ⟨some 8, _, _, _, _, _⟩) rfl 65 rfl (rnL none 0 0 0 0 false 0) (by kernel_rfl) 5 rfl (by decide) ?_; intro gr w2 hgr hFr hBr; have z2 := hBr.size; have gne : gr ≠ g := (by omega); have hF2 := hF.below hBr; have hB2 := Below.then_ hB hBr; have c3 : w2.cell? ⟨g, 3, none⟩ = some (.bool true) := hF2.cell (j := 3) HX3.out)
        | (with_reducible refine wpList_load (o := ⟨some 14, _, _, _, _, _⟩) rfl (.tmp 4) 65 rfl g 0 _ rfl (S.rL A c) 5 rfl (by kernel_rfl) hF2.sees ?_)
        | (with_reducible refine wpList_store rfl rfl (.tmp 8) (.tmp 14) 65 rfl gr 0 w1.heap.size 65 5 (rnL none 0 0 0 0 false 0) (S.rL A c) rfl rfl 5 rfl (by kernel_rfl) hFr (by omega) (allOne_out (by kernel_rfl)) w hB2 (by omega) ?_; intro w9 hF9 hB9 ho9 hz9))
    refine bodyPost_cellt rfl rfl (.int .i64 40) rfl (S.rL A c) 5 rfl (by kernel_rfl) hF9.sees rfl ⟨A, c, rfl, ⟨h.step hB9, .inl ⟨rfl, rfl, rfl, rfl⟩⟩, hB9⟩
end
end Go.Proofs.Ytjmofjcdcmbecaa
