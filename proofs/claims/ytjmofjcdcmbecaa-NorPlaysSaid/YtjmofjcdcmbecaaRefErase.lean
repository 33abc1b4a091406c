/-
  The document's own flash, by value: Erase.
-/
import Derived.Test.YtjmofjcdcmbecaaRefRewrite
import Derived.Test.YtjmofjcdcmbecaaNorMake
namespace Go.Proofs.Ytjmofjcdcmbecaa
open Go.RowKit
set_option linter.unusedVariables false

section
variable {w : World} {A : Option Addr} {c : Nat} {S : Fl}
theorem ones_len : ones64.length = 64 := rfl
set_option maxHeartbeats 2000000 in
set_option maxRecDepth 100000 in
theorem rErase_any (h : RnAt w A c S) (hl2 : S.left < 9223372036854775808) (s : Int) (T : Fl) (r : Nat) (hr : S.erase s = (T, r)) :
    Calls Try.prog 42 #[.agg (S.rL A c).toArray, .int .i64 s] w fun e w' => ∃ B c2, e = .returned (.tuple #[.agg (T.rL B c2).toArray, .int .i64 (r : Int)]) ∧ RnTo w w' A B c c2 S T ∧ Below w.heap.size w w' := by
  have hSe := fun (w' : World) => rSectors_any (A := A) (c := c) S.n h.n_le S.guard S.leftR S.down S.half w'
  replace hSe : ∀ w', Calls Try.prog 107 #[.agg (S.rL A c).toArray] w' fun e w2 => e = .returned (.int .i64 (S.n : Int)) ∧ Below w'.heap.size w' w2 := hSe
  unfold Fl.erase at hr
  cases hd : S.down
  · have HX3 : Hid ((S.rL A c)[3]? = some (.bool false)) := Lib.hid (by unfold Fl.rL; rw [hd]; rfl)
    by_cases h0 : s < 0
    · have hp : S.sector s = false := by simp [Fl.sector]; omega
      obtain ⟨rfl, rfl⟩ : S = T ∧ 2 = r := by rw [hd, hp] at hr; simpa using hr
      clear hr hd hp hl2 hSe
      go_enter Try.func42, Try.ntmps42
      go_wp2_with (first
          | (with_reducible refine wpList_box (o := ⟨some 2, _, _, _, _, _⟩) rfl (.tmp 0) 65 rfl (S.rL A c) rfl 5 rfl (by decide) ?_; intro g w1 hg hF hB; have z1 := hB.size; have lg := hF.lt_size)
          | (with_reducible refine wpList_alloc (o := ⟨some 4, _, _, _, _, _⟩) rfl 65 rfl (rnL none 0 0 0 0 false 0) (by kernel_rfl) 5 rfl (by decide) ?_; intro gr w2 hgr hFr hBr; have z2 := hBr.size; have gne : gr ≠ g := (by omega); have hF2 := hF.below hBr; have hB2 := Below.then_ hB hBr; have c3 : w2.cell? ⟨g, 3, none⟩ = some (.bool false) := hF2.cell (j := 3) HX3.out)
          | (with_reducible refine wpList_load (o := ⟨some 19, _, _, _, _, _⟩) rfl (.tmp 2) 65 rfl g 0 _ rfl (S.rL A c) 5 rfl (by kernel_rfl) hF2.sees ?_)
          | (with_reducible refine wpList_store rfl rfl (.tmp 4) (.tmp 19) 65 rfl gr 0 w1.heap.size 65 5 (rnL none 0 0 0 0 false 0) (S.rL A c) rfl rfl 5 rfl (by kernel_rfl) hFr (by omega) (allOne_out (by kernel_rfl)) w hB2 (by omega) ?_; intro w9 hF9 hB9 ho9 hz9))
      refine bodyPost_cellt rfl rfl (.int .i64 2) rfl (S.rL A c) 5 rfl (by kernel_rfl) hF9.sees rfl ⟨A, c, rfl, ⟨h.step hB9, .inl ⟨rfl, rfl, rfl, rfl⟩⟩, hB9⟩
    · have hD0 : decide (s < 0) = false := by simp; omega
      by_cases h1 : (S.n : Int) ≤ s
      · have hp : S.sector s = false := by simp [Fl.sector]; omega
        obtain ⟨rfl, rfl⟩ : S = T ∧ 2 = r := by rw [hd, hp] at hr; simpa using hr
        clear hr hd hp hl2
        go_enter Try.func42, Try.ntmps42
        go_wp2_with (first
            | (with_reducible refine wpList_box (o := ⟨some 2, _, _, _, _, _⟩) rfl (.tmp 0) 65 rfl (S.rL A c) rfl 5 rfl (by decide) ?_; intro g w1 hg hF hB; have z1 := hB.size; have lg := hF.lt_size)
            | (with_reducible refine wpList_alloc (o := ⟨some 4, _, _, _, _, _⟩) rfl 65 rfl (rnL none 0 0 0 0 false 0) (by kernel_rfl) 5 rfl (by decide) ?_; intro gr w2 hgr hFr hBr; have z2 := hBr.size; have gne : gr ≠ g := (by omega); have hF2 := hF.below hBr; have hB2 := Below.then_ hB hBr; have c3 : w2.cell? ⟨g, 3, none⟩ = some (.bool false) := hF2.cell (j := 3) HX3.out)
            | (refine wpList_load_g (o := ⟨some 15, _, _, _, _, _⟩) (.tmp 2) 65 rfl g 0 _ rfl (S.rL A c) 5 rfl (by kernel_rfl) hF2.sees (by rfl) ?_))
        refine (hSe w2).mono ?_
        rintro e w3 ⟨rfl, hB3⟩
        have hF3 := hF2.below hB3
        have hR3 := hFr.below hB3
        have hB03 := Below.then_ hB2 hB3
        have lgr := hFr.lt_size
        have z3 := hB3.size
        go_wp2_with (first
            | (with_reducible refine wpList_load (o := ⟨some 19, _, _, _, _, _⟩) rfl (.tmp 2) 65 rfl g 0 _ rfl (S.rL A c) 5 rfl (by kernel_rfl) hF3.sees ?_)
            | (with_reducible refine wpList_store rfl rfl (.tmp 4) (.tmp 19) 65 rfl gr 0 w1.heap.size 65 5 (rnL none 0 0 0 0 false 0) (S.rL A c) rfl rfl 5 rfl (by kernel_rfl) hR3 (by omega) (allOne_out (by kernel_rfl)) w hB03 (by omega) ?_; intro w9 hF9 hB9 ho9 hz9))
        refine bodyPost_cellt rfl rfl (.int .i64 2) rfl (S.rL A c) 5 rfl (by kernel_rfl) hF9.sees rfl ⟨A, c, rfl, ⟨h.step hB9, .inl ⟨rfl, rfl, rfl, rfl⟩⟩, hB9⟩
      · obtain ⟨σ, rfl⟩ := Int.eq_ofNat_of_zero_le (show 0 ≤ s by omega)
        have hσ : σ < S.n := by omega
        have hp : S.sector (σ : Int) = true := by simp [Fl.sector]; omega
        obtain ⟨T1, b, hst⟩ : ∃ T1 b, S.step = (T1, b) := ⟨_, _, rfl⟩
        obtain ⟨s1, s2, s3⟩ := step_ok hst hl2
        have hSt := fun (w' : World) => rstep_at (A := A) (c := c) S T1 b hst hl2 w'
        have hn := h.n_le
        have hRn1 : ∀ w', Below w.heap.size w w' → RnAt w' A c T1 := fun w' x => by
          have := h.step x
          exact ⟨by rw [s2]; exact this.sees, by rw [s2, s1]; exact this.len, by rw [s1]; exact hn, by rw [s1]; exact this.cap⟩
        have HS := Lib.hid (And.intro s1 s2)
        have hlen := h.len
        rw [hd, hp, hst] at hr
        simp only [Int.toNat_natCast] at hr
        clear hd hp hst s1 s2 s3 hl2 h0
        cases b
        · obtain ⟨rfl, rfl⟩ : { T1 with half := (σ : Int) } = T ∧ 40 = r := by simpa using hr
          clear hr hlen
          go_enter Try.func42, Try.ntmps42
          go_wp2_with (first
              | (with_reducible refine wpList_box (o := ⟨some 2, _, _, _, _, _⟩) rfl (.tmp 0) 65 rfl (S.rL A c) rfl 5 rfl (by decide) ?_; intro g w1 hg hF hB; have z1 := hB.size; have lg := hF.lt_size)
              | (with_reducible refine wpList_alloc (o := ⟨some 4, _, _, _, _, _⟩) rfl 65 rfl (rnL none 0 0 0 0 false 0) (by kernel_rfl) 5 rfl (by decide) ?_; intro gr w2 hgr hFr hBr; have z2 := hBr.size; have gne : gr ≠ g := (by omega); have hF2 := hF.below hBr; have hB2 := Below.then_ hB hBr; have c3 : w2.cell? ⟨g, 3, none⟩ = some (.bool false) := hF2.cell (j := 3) HX3.out)
              | (refine wpList_load_g (o := ⟨some 15, _, _, _, _, _⟩) (.tmp 2) 65 rfl g 0 _ rfl (S.rL A c) 5 rfl (by kernel_rfl) hF2.sees (by rfl) ?_))
          refine (hSe w2).mono ?_
          rintro e w3 ⟨rfl, hB3⟩
          have hF3 := hF2.below hB3
          have hR3 := hFr.below hB3
          have hB03 := Below.then_ hB2 hB3
          have lgr := hFr.lt_size
          have z3 := hB3.size
          clear hSe hF2 hFr hB2 hB3
          go_wp2_with (with_reducible refine wpList_load (o := ⟨some 21, _, _, _, _, _⟩) rfl (.tmp 2) 65 rfl g 0 _ rfl (S.rL A c) 5 rfl (by kernel_rfl) hF3.sees ?_)
          refine (hSt w3).mono ?_
          rintro e w4 ⟨rfl, hB4⟩
          have hF4 := hF3.below hB4
          have hR4 := hR3.below hB4
          have hB04 := Below.then_ hB03 hB4
          have z4 := hB4.size
          go_wp2_with (first | (with_reducible refine wpList_store rfl rfl (.tmp 2) (.tmp 23) 65 rfl g 0 w.heap.size 65 5 (S.rL A c) (T1.rL A c) rfl rfl 5 rfl (by kernel_rfl) hF4 (by omega) (allOne_out (by kernel_rfl)) w hB04 hg ?_; intro w5 hF5 hB5 ho5 hz5; have hF5' : Fresh w.heap.size 65 w5 (some ⟨g, 0, none⟩) 5 5 (T1.rL A c) := (by with_unfolding_all exact hF5); have hR4l : Fresh w.heap.size 65 w4 (some ⟨gr, 0, none⟩) 5 5 (rnL none 0 0 0 0 false 0) := hR4.lower z1; have hR5 := hR4l.other gne ho5; have c4 : w5.cell? ⟨g, 4, none⟩ = some (.int .i64 T1.half) := (by with_unfolding_all exact hF5'.cell (j := 4) rfl); have f4 : w5.frozen? ⟨g, 4, none⟩ = false := hF5'.frozenAt; have hF6 : Fresh w.heap.size 65 (w5.setCell ⟨g, 4, none⟩ (.int .i64 (σ : Int))) (some ⟨g, 0, none⟩) 5 5 (Fl.rL { T1 with half := (σ : Int) } A c) := (by with_unfolding_all exact hF5'.store 4 (.int .i64 (σ : Int))); have hR6 := hR5.other gne (rn_other w5 ⟨g, 4, none⟩ (.int .i64 (σ : Int))); have hB6 := hB5.setCell (p := ⟨g, 4, none⟩) hg (.int .i64 (σ : Int))) | (with_reducible refine wpList_load (o := ⟨some 29, _, _, _, _, _⟩) rfl (.tmp 2) 65 rfl g 0 _ rfl (Fl.rL { T1 with half := (σ : Int) } A c) 5 rfl (by kernel_rfl) hF6.sees ?_) | (with_reducible refine wpList_store rfl rfl (.tmp 4) (.tmp 29) 65 rfl gr 0 w.heap.size 65 5 (rnL none 0 0 0 0 false 0) (Fl.rL { T1 with half := (σ : Int) } A c) rfl rfl 5 rfl (by kernel_rfl) hR6 (by omega) (allOne_out (by kernel_rfl)) w hB6 (by omega) ?_; intro w9 hF9 hB9 ho9 hz9))
          have hq := hRn1 w9 hB9
          refine bodyPost_cellt rfl rfl (.int .i64 40) rfl (Fl.rL { T1 with half := (σ : Int) } A c) 5 rfl (by kernel_rfl) hF9.sees rfl ⟨A, c, rfl, ⟨⟨hq.sees, hq.len, hq.n_le, hq.cap⟩, .inl ⟨rfl, rfl, HS.out.2, HS.out.1⟩⟩, hB9⟩
        · obtain ⟨rfl, rfl⟩ : T1.with_ (splice T1.ws (σ * 64) ones64) = T ∧ 0 = r := by simpa [Fl.with_] using hr
          have hOw := fun (w' : World) (x : Below w.heap.size w w') => rown_any (hRn1 w' x)
          have hn1 : T1.n = S.n := HS.out.1
          have HN : Hid (T1.ws.length = 64 * T1.n) := Lib.hid (by rw [HS.out.2, hn1]; exact hlen)
          clear hr hlen hRn1
          go_enter Try.func42, Try.ntmps42
          go_wp2_with (first
              | (with_reducible refine wpList_box (o := ⟨some 2, _, _, _, _, _⟩) rfl (.tmp 0) 65 rfl (S.rL A c) rfl 5 rfl (by decide) ?_; intro g w1 hg hF hB; have z1 := hB.size; have lg := hF.lt_size)
              | (with_reducible refine wpList_alloc (o := ⟨some 4, _, _, _, _, _⟩) rfl 65 rfl (rnL none 0 0 0 0 false 0) (by kernel_rfl) 5 rfl (by decide) ?_; intro gr w2 hgr hFr hBr; have z2 := hBr.size; have gne : gr ≠ g := (by omega); have hF2 := hF.below hBr; have hB2 := Below.then_ hB hBr; have c3 : w2.cell? ⟨g, 3, none⟩ = some (.bool false) := hF2.cell (j := 3) HX3.out)
              | (refine wpList_load_g (o := ⟨some 15, _, _, _, _, _⟩) (.tmp 2) 65 rfl g 0 _ rfl (S.rL A c) 5 rfl (by kernel_rfl) hF2.sees (by rfl) ?_))
          refine (hSe w2).mono ?_
          rintro e w3 ⟨rfl, hB3⟩
          have hF3 := hF2.below hB3
          have hR3 := hFr.below hB3
          have hB03 := Below.then_ hB2 hB3
          have lgr := hFr.lt_size
          have z3 := hB3.size
          clear hSe hF2 hFr hB2 hB3
          go_wp2_with (with_reducible refine wpList_load (o := ⟨some 21, _, _, _, _, _⟩) rfl (.tmp 2) 65 rfl g 0 _ rfl (S.rL A c) 5 rfl (by kernel_rfl) hF3.sees ?_)
          refine (hSt w3).mono ?_
          rintro e w4 ⟨rfl, hB4⟩
          have hF4 := hF3.below hB4
          have hR4 := hR3.below hB4
          have hB04 := Below.then_ hB03 hB4
          have z4 := hB4.size
          go_wp2_with (first | (with_reducible refine wpList_store rfl rfl (.tmp 2) (.tmp 23) 65 rfl g 0 w.heap.size 65 5 (S.rL A c) (T1.rL A c) rfl rfl 5 rfl (by kernel_rfl) hF4 (by omega) (allOne_out (by kernel_rfl)) w hB04 hg ?_; intro w5 hF5 hB5 ho5 hz5; have hF5' : Fresh w.heap.size 65 w5 (some ⟨g, 0, none⟩) 5 5 (T1.rL A c) := (by with_unfolding_all exact hF5); have hR4l : Fresh w.heap.size 65 w4 (some ⟨gr, 0, none⟩) 5 5 (rnL none 0 0 0 0 false 0) := hR4.lower z1; have hR5 := hR4l.other gne ho5) | (with_reducible refine wpList_load (o := ⟨some 30, _, _, _, _, _⟩) rfl (.tmp 2) 65 rfl g 0 _ rfl (T1.rL A c) 5 rfl (by kernel_rfl) hF5'.sees ?_))
          refine (hOw w5 hB5).mono ?_
          rintro e w6 ⟨B, c2, rfl, hW6, hB6⟩
          obtain ⟨gb, rfl, hgb, hgb2⟩ := hW6.spot_ (by omega)
          have z5 := hB6.size
          have hF6 := hF5'.below hB6
          have hR6 := hR5.below hB6
          have hB06 := Below.then_ hB5 hB6
          have n1 : gb ≠ g := by omega
          have n2 : gb ≠ gr := by omega
          clear hF5 hF5' hR5 hF4 hR4 hF3 hR3 hSt hOw
          go_wp2_with (with_reducible refine wpList_store rfl rfl (.tmp 2) (.tmp 31) 65 rfl g 0 w.heap.size 65 5 (T1.rL A c) (T1.rL (some ⟨gb, 0, none⟩) c2) rfl rfl 5 rfl (by kernel_rfl) hF6 (by omega) (allOne_out (by kernel_rfl)) w hB06 hg ?_; intro w7 hF7 hB7 ho7 hz7)
          have hF7' : Fresh w.heap.size 65 w7 (some ⟨g, 0, none⟩) 5 5 (T1.rL (some ⟨gb, 0, none⟩) c2) := hF7
          have hRP : RP w g gr gb c2 T1 w7 := ⟨hF7', hR6.other gne ho7, (hW6.lower (by omega)).otherC n1 ho7, hB7⟩
          clear hF7 hF7' hR6 hW6 hF6 hB06 ho7
          have em : IntKind.i64.wrap ((σ : Int) * 64) = (σ : Int) * 64 := wrapI _ (by omega) (by omega)
          go_loopw [7] (fun i wr => ∃ k : Nat, k ≤ 64 ∧ i = .int .i64 (k : Int) ∧ RP w g gr gb c2 (T1.with_ (splice T1.ws (σ * 64) (ones64.take k))) wr) (fun i _ => 64 - (intOf i).toNat)
          case atStart => exact ⟨0, by omega, rfl, by rw [List.take_zero, show splice T1.ws (σ * 64) ([] : List UInt32) = T1.ws from by simp [splice]]; exact hRP⟩
          case round =>
            obtain ⟨k, hk, rfl, hQ⟩ := hrel
            by_cases hlt : k < 64
            · have hzy : wr.frozen? ⟨gb, σ * 64 + k, none⟩ = false := World.ownsRow.frozenAt hQ.row _
              have eb : IntKind.i64.wrap ((σ : Int) * 64 + (k : Int)) = (σ : Int) * 64 + (k : Int) := wrapI _ (by omega) (by omega)
              have c0 : wr.cell? ⟨g, 0, none⟩ = some (.slice (some ⟨gb, 0, none⟩) (64 * T1.n) c2) := hQ.box.cell (j := 0) rfl
              have hwl : (splice T1.ws (σ * 64) (ones64.take k)).length = 64 * T1.n := by rw [length_splice _ _ _ (by rw [List.length_take, ones_len, HN.out]; omega), HN.out]
              obtain ⟨gy, oy, ey, hgy, y, HY, hy', hcy⟩ := hQ.row.sees.word (k := σ * 64 + k) hwl (by omega)
              obtain ⟨rfl, rfl⟩ : gb = gy ∧ 0 = oy := by simpa using ey
              rw [Nat.zero_add] at hcy
              clear hRP ey hwl
              go_wp2_with fail
              go_roundw
              case rel =>
                have hkl : k < ones64.length := hlt
                have hx2 : ones64[k] = 4294967295 := List.getElem_replicate _
                have hW8 := (World.ownsRow.stored hQ.row (σ * 64 + k) (.int .u32 4294967295)).1
                rw [show (cw (T1.with_ (splice T1.ws (σ * 64) (ones64.take k))).ws).set (σ * 64 + k) (.int .u32 4294967295) = cw (T1.with_ (splice T1.ws (σ * 64) (ones64.take (k + 1)))).ws from by
                  show (cw (splice T1.ws (σ * 64) (ones64.take k))).set (σ * 64 + k) _ = cw (splice T1.ws (σ * 64) (ones64.take (k + 1)))
                  rw [← splice_step T1.ws ones64 (σ * 64) k hkl (by rw [HN.out, ones_len]; omega), hx2]
                  simp [cw, List.map_set]] at hW8
                refine ⟨k + 1, by omega, by go_num, ⟨?_, ?_, hW8, ?_⟩⟩
                · exact hQ.box.other (Ne.symm n1) (rn_other _ ⟨gb, _, none⟩ _)
                · exact hQ.res.other (Ne.symm n2) (rn_other _ ⟨gb, _, none⟩ _)
                · exact hQ.below.setCell (p := ⟨gb, σ * 64 + k, none⟩) (by show _ ≤ gb; omega) _
              case measure => simp [intOf]; omega
            · obtain rfl : k = 64 := by omega
              rw [List.take_of_length_le (by rw [ones_len]; exact Nat.le_refl _)] at hQ
              clear hRP
              go_wp2_with (first
                  | (with_reducible refine wpList_load (o := ⟨some 43, _, _, _, _, _⟩) rfl (.tmp 2) 65 rfl g 0 _ rfl ((T1.with_ (splice T1.ws (σ * 64) ones64)).rL (some ⟨gb, 0, none⟩) c2) 5 rfl (by kernel_rfl) hQ.box.sees ?_)
                  | (with_reducible refine wpList_store rfl rfl (.tmp 4) (.tmp 43) 65 rfl gr 0 w.heap.size 65 5 (rnL none 0 0 0 0 false 0) ((T1.with_ (splice T1.ws (σ * 64) ones64)).rL (some ⟨gb, 0, none⟩) c2) rfl rfl 5 rfl (by kernel_rfl) hQ.res (by omega) (allOne_out (by kernel_rfl)) w hQ.below (by omega) ?_; intro w8 hF8 hB8 ho8 hz8))
              refine bodyPost_cellt rfl rfl (.int .i64 0) rfl ((T1.with_ (splice T1.ws (σ * 64) ones64)).rL (some ⟨gb, 0, none⟩) c2) 5 rfl (by kernel_rfl) hF8.sees rfl ⟨some ⟨gb, 0, none⟩, c2, rfl, ⟨RnAt.fresh (hQ.row.otherC n2 ho8) (by show (splice T1.ws (σ * 64) ones64).length = 64 * T1.n; rw [length_splice _ _ _ (by rw [HN.out, ones_len]; omega), HN.out]) (by show T1.n ≤ 1024; omega), .inr (hQ.row.otherC n2 ho8)⟩, hB8⟩
  · obtain ⟨rfl, rfl⟩ : S = T ∧ 40 = r := by rw [hd] at hr; simpa using hr
    have HX3 : Hid ((S.rL A c)[3]? = some (.bool true)) := Lib.hid (by unfold Fl.rL; rw [hd]; rfl)
    clear hr hd hl2 hSe
    go_enter Try.func42, Try.ntmps42
    go_wp2_with (first
        | (with_reducible refine wpList_box (o := ⟨some 2, _, _, _, _, _⟩) rfl (.tmp 0) 65 rfl (S.rL A c) rfl 5 rfl (by decide) ?_; intro g w1 hg hF hB; have z1 := hB.size; have lg := hF.lt_size)
        | (with_reducible refine wpList_alloc (o := ⟨some 4, _, _, _, _, _⟩) rfl 65 rfl (rnL none 0 0 0 0 false 0) (by kernel_rfl) 5 rfl (by decide) ?_; intro gr w2 hgr hFr hBr; have z2 := hBr.size; have gne : gr ≠ g := (by omega); have hF2 := hF.below hBr; have hB2 := Below.then_ hB hBr; have c3 : w2.cell? ⟨g, 3, none⟩ = some (.bool true) := hF2.cell (j := 3) HX3.out)
        | (with_reducible refine wpList_load (o := ⟨some 10, _, _, _, _, _⟩) rfl (.tmp 2) 65 rfl g 0 _ rfl (S.rL A c) 5 rfl (by kernel_rfl) hF2.sees ?_)
        | (with_reducible refine wpList_store rfl rfl (.tmp 4) (.tmp 10) 65 rfl gr 0 w1.heap.size 65 5 (rnL none 0 0 0 0 false 0) (S.rL A c) rfl rfl 5 rfl (by kernel_rfl) hFr (by omega) (allOne_out (by kernel_rfl)) w hB2 (by omega) ?_; intro w9 hF9 hB9 ho9 hz9))
    refine bodyPost_cellt rfl rfl (.int .i64 40) rfl (S.rL A c) 5 rfl (by kernel_rfl) hF9.sees rfl ⟨A, c, rfl, ⟨h.step hB9, .inl ⟨rfl, rfl, rfl, rfl⟩⟩, hB9⟩
end
end Go.Proofs.Ytjmofjcdcmbecaa
