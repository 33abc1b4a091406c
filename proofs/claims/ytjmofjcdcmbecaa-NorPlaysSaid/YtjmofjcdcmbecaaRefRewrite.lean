/-
  The document's own flash, by value: Rewrite.
-/
import Derived.Test.YtjmofjcdcmbecaaRefProg
namespace Go.Proofs.Ytjmofjcdcmbecaa
open Go.RowKit
set_option linter.unusedVariables false

section
variable {w : World} {A : Option Addr} {c : Nat} {S : Fl}
/-- Other words. -/
def Fl.with_ (S : Fl) (ws : List UInt32) : Fl := { S with ws := ws }
set_option maxHeartbeats 2000000 in
set_option maxRecDepth 100000 in
theorem rRewrite_any (h : RnAt w A c S) (s a : Int) (ha : -9223372036854775808 ≤ a ∧ a < 9223372036854775808) (m d : Nat) (hm : m ≤ 1099511627776) (C : Option Addr) (l : List UInt32) (hs : Sees w w.heap.size C (cw l)) (hl : l.length = m) (T : Fl) (r : Nat) (hr : S.rewrite s a l = (T, r)) :
    Calls Try.prog 44 #[.agg (S.rL A c).toArray, .int .i64 s, .int .i64 a, .slice C m d] w fun e w' => ∃ B c2, e = .returned (.tuple #[.agg (T.rL B c2).toArray, .int .i64 (r : Int)]) ∧ RnTo w w' A B c c2 S T ∧ Below w.heap.size w w' := by
  unfold Fl.rewrite at hr
  rw [hl] at hr
  cases hp : S.place s a m
  · obtain ⟨rfl, rfl⟩ : S = T ∧ 2 = r := by rw [hp] at hr; simpa using hr
    by_cases h64 : 64 < a
    · clear hr hl hp hs
      go_enter Try.func44, Try.ntmps44
      go_wp2_with (first
          | (with_reducible refine wpList_box (o := ⟨some 4, _, _, _, _, _⟩) rfl (.tmp 0) 65 rfl (S.rL A c) rfl 5 rfl (by decide) ?_; intro g w1 hg hF hB; have z1 := hB.size; have lg := hF.lt_size)
          | (with_reducible refine wpList_alloc (o := ⟨some 8, _, _, _, _, _⟩) rfl 65 rfl (rnL none 0 0 0 0 false 0) (by kernel_rfl) 5 rfl (by decide) ?_; intro gr w2 hgr hFr hBr; have z2 := hBr.size; have gne : gr ≠ g := (by omega); have hF2 := hF.below hBr; have hB2 := Below.then_ hB hBr)
          | (with_reducible refine wpList_load (o := ⟨some 21, _, _, _, _, _⟩) rfl (.tmp 4) 65 rfl g 0 _ rfl (S.rL A c) 5 rfl (by kernel_rfl) hF2.sees ?_)
          | (with_reducible refine wpList_store rfl rfl (.tmp 8) (.tmp 21) 65 rfl gr 0 w1.heap.size 65 5 (rnL none 0 0 0 0 false 0) (S.rL A c) rfl rfl 5 rfl (by kernel_rfl) hFr (by omega) (allOne_out (by kernel_rfl)) w hB2 (by omega) ?_; intro w9 hF9 hB9 ho9 hz9))
      refine bodyPost_cellt rfl rfl (.int .i64 2) rfl (S.rL A c) 5 rfl (by kernel_rfl) hF9.sees rfl ⟨A, c, rfl, ⟨h.step hB9, .inl ⟨rfl, rfl, rfl, rfl⟩⟩, hB9⟩
    · have hRt := fun (w' : World) => rright_any (A := A) (c := c) S h.n_le s a (by omega) C m d hm false hp w'
      have hD : decide ((64 : Int) < a) = false := by simp; omega
      clear hr hl hp hs
      go_enter Try.func44, Try.ntmps44
      go_wp2_with (first
          | (with_reducible refine wpList_box (o := ⟨some 4, _, _, _, _, _⟩) rfl (.tmp 0) 65 rfl (S.rL A c) rfl 5 rfl (by decide) ?_; intro g w1 hg hF hB; have z1 := hB.size; have lg := hF.lt_size)
          | (with_reducible refine wpList_alloc (o := ⟨some 8, _, _, _, _, _⟩) rfl 65 rfl (rnL none 0 0 0 0 false 0) (by kernel_rfl) 5 rfl (by decide) ?_; intro gr w2 hgr hFr hBr; have z2 := hBr.size; have gne : gr ≠ g := (by omega); have hF2 := hF.below hBr; have hB2 := Below.then_ hB hBr)
          | (refine wpList_load_g (o := ⟨some 14, _, _, _, _, _⟩) (.tmp 4) 65 rfl g 0 _ rfl (S.rL A c) 5 rfl (by kernel_rfl) hF2.sees (by rfl) ?_))
      refine (hRt w2).mono ?_
      rintro e w3 ⟨rfl, hB3⟩
      have hF3 := hF2.below hB3
      have hR3 := hFr.below hB3
      have hB03 := Below.then_ hB2 hB3
      go_wp2_with (first
          | (with_reducible refine wpList_load (o := ⟨some 21, _, _, _, _, _⟩) rfl (.tmp 4) 65 rfl g 0 _ rfl (S.rL A c) 5 rfl (by kernel_rfl) hF3.sees ?_)
          | (with_reducible refine wpList_store rfl rfl (.tmp 8) (.tmp 21) 65 rfl gr 0 w1.heap.size 65 5 (rnL none 0 0 0 0 false 0) (S.rL A c) rfl rfl 5 rfl (by kernel_rfl) hR3 (by omega) (allOne_out (by kernel_rfl)) w hB03 (by omega) ?_; intro w9 hF9 hB9 ho9 hz9))
      refine bodyPost_cellt rfl rfl (.int .i64 2) rfl (S.rL A c) 5 rfl (by kernel_rfl) hF9.sees rfl ⟨A, c, rfl, ⟨h.step hB9, .inl ⟨rfl, rfl, rfl, rfl⟩⟩, hB9⟩
  · obtain ⟨σ, α, rfl, rfl, hσ, hα⟩ := Fl.place_out hp
    have hRt := fun (w' : World) => rright_any (A := A) (c := c) S h.n_le (σ : Int) (α : Int) (by omega) C m d hm true hp w'
    have hD : decide ((64 : Int) < (α : Int)) = false := by simp; omega
    have pre := 0
    by_cases hG : (σ : Int) < S.guard
    · obtain ⟨rfl, rfl⟩ : S = T ∧ 41 = r := by rw [hp, decide_eq_true hG] at hr; simpa using hr
      clear hr hl hp hs pre
      go_enter Try.func44, Try.ntmps44
      go_wp2_with (first
          | (with_reducible refine wpList_box (o := ⟨some 4, _, _, _, _, _⟩) rfl (.tmp 0) 65 rfl (S.rL A c) rfl 5 rfl (by decide) ?_; intro g w1 hg hF hB; have z1 := hB.size; have lg := hF.lt_size)
          | (with_reducible refine wpList_alloc (o := ⟨some 8, _, _, _, _, _⟩) rfl 65 rfl (rnL none 0 0 0 0 false 0) (by kernel_rfl) 5 rfl (by decide) ?_; intro gr w2 hgr hFr hBr; have z2 := hBr.size; have gne : gr ≠ g := (by omega); have hF2 := hF.below hBr; have hB2 := Below.then_ hB hBr)
          | (refine wpList_load_g (o := ⟨some 14, _, _, _, _, _⟩) (.tmp 4) 65 rfl g 0 _ rfl (S.rL A c) 5 rfl (by kernel_rfl) hF2.sees (by rfl) ?_))
      refine (hRt w2).mono ?_
      rintro e w3 ⟨rfl, hB3⟩
      have hF3 := hF2.below hB3
      have hR3 := hFr.below hB3
      have hB03 := Below.then_ hB2 hB3
      have c1 : w3.cell? ⟨g, 1, none⟩ = some (.int .i64 S.guard) := hF3.cell (j := 1) rfl
      go_wp2_with (first
          | (with_reducible refine wpList_load (o := ⟨some 26, _, _, _, _, _⟩) rfl (.tmp 4) 65 rfl g 0 _ rfl (S.rL A c) 5 rfl (by kernel_rfl) hF3.sees ?_)
          | (with_reducible refine wpList_store rfl rfl (.tmp 8) (.tmp 26) 65 rfl gr 0 w1.heap.size 65 5 (rnL none 0 0 0 0 false 0) (S.rL A c) rfl rfl 5 rfl (by kernel_rfl) hR3 (by omega) (allOne_out (by kernel_rfl)) w hB03 (by omega) ?_; intro w9 hF9 hB9 ho9 hz9))
      refine bodyPost_cellt rfl rfl (.int .i64 41) rfl (S.rL A c) 5 rfl (by kernel_rfl) hF9.sees rfl ⟨A, c, rfl, ⟨h.step hB9, .inl ⟨rfl, rfl, rfl, rfl⟩⟩, hB9⟩
    · have hn := h.n_le
      have hlen := h.len
      obtain ⟨rfl, rfl⟩ : S.with_ (splice S.ws (σ * 64 + α) l) = T ∧ 0 = r := by
        rw [hp, decide_eq_false hG] at hr
        simpa [Fl.with_] using hr
      have hOw := fun (w' : World) (x : Below w.heap.size w w') => rown_any (h.step x)
      have HL := Lib.hid hl
      have HN := Lib.hid hlen
      have hGI : ¬ (σ : Int) < S.guard := hG
      clear hr hl hp pre hlen hG
      go_enter Try.func44, Try.ntmps44
      go_wp2_with (first
          | (with_reducible refine wpList_box (o := ⟨some 4, _, _, _, _, _⟩) rfl (.tmp 0) 65 rfl (S.rL A c) rfl 5 rfl (by decide) ?_; intro g w1 hg hF hB; have z1 := hB.size; have lg := hF.lt_size)
          | (with_reducible refine wpList_alloc (o := ⟨some 8, _, _, _, _, _⟩) rfl 65 rfl (rnL none 0 0 0 0 false 0) (by kernel_rfl) 5 rfl (by decide) ?_; intro gr w2 hgr hFr hBr; have z2 := hBr.size; have gne : gr ≠ g := (by omega); have hF2 := hF.below hBr; have hB2 := Below.then_ hB hBr)
          | (refine wpList_load_g (o := ⟨some 14, _, _, _, _, _⟩) (.tmp 4) 65 rfl g 0 _ rfl (S.rL A c) 5 rfl (by kernel_rfl) hF2.sees (by rfl) ?_))
      refine (hRt w2).mono ?_
      rintro e w3 ⟨rfl, hB3⟩
      have hF3 := hF2.below hB3
      have hR3 := hFr.below hB3
      have hB03 := Below.then_ hB2 hB3
      have c1 : w3.cell? ⟨g, 1, none⟩ = some (.int .i64 S.guard) := hF3.cell (j := 1) rfl
      have lgr := hFr.lt_size
      have z3 := hB3.size
      have hOw3 := hOw w3 hB03
      clear hRt hOw hF2 hFr hB2 hB3
      go_wp2_with (with_reducible refine wpList_load (o := ⟨some 27, _, _, _, _, _⟩) rfl (.tmp 4) 65 rfl g 0 _ rfl (S.rL A c) 5 rfl (by kernel_rfl) hF3.sees ?_)
      refine hOw3.mono ?_
      rintro e w4 ⟨B, c2, rfl, hW4, hB4⟩
      obtain ⟨gb, rfl, hgb, hgb2⟩ := hW4.spot_ (by omega)
      have hF4 := hF3.below hB4
      have hR4 := hR3.below hB4
      have hB04 := Below.then_ hB03 hB4
      have z4 := hB4.size
      have gg : g < w3.heap.size := by omega
      have ggr : gr < w3.heap.size := by omega
      clear hOw3 hF3 hR3 c1
      go_wp2_with (with_reducible refine wpList_store rfl rfl (.tmp 4) (.tmp 28) 65 rfl g 0 w.heap.size 65 5 (S.rL A c) (S.rL (some ⟨gb, 0, none⟩) c2) rfl rfl 5 rfl (by kernel_rfl) hF4 (by omega) (allOne_out (by kernel_rfl)) w hB04 hg ?_; intro w5 hF5 hB5 ho5 hz5)
      have hF5' : Fresh w.heap.size 65 w5 (some ⟨g, 0, none⟩) 5 5 (S.rL (some ⟨gb, 0, none⟩) c2) := hF5
      have hRP : RP w g gr gb c2 S w5 := ⟨hF5', (hR4.lower (by omega)).other gne ho5, (hW4.apart fun k hk => ho5 k (by omega)).lower (by omega), hB5⟩
      have n1 : gb ≠ g := by omega
      have n2 : gb ≠ gr := by omega
      clear hF5 hF5' hR4 hW4 hF4 hB04 ho5
      have em : IntKind.i64.wrap ((σ : Int) * 64) = (σ : Int) * 64 := wrapI _ (by omega) (by omega)
      have ea : IntKind.i64.wrap ((σ : Int) * 64 + (α : Int)) = (σ : Int) * 64 + (α : Int) := wrapI _ (by omega) (by omega)
      go_loopw [10] (fun i wr => ∃ k : Nat, k ≤ m ∧ i = .int .i64 (k : Int) ∧ RP w g gr gb c2 (S.with_ (splice S.ws (σ * 64 + α) (l.take k))) wr) (fun i _ => m - (intOf i).toNat)
      case atStart => exact ⟨0, by omega, rfl, by rw [List.take_zero, show splice S.ws (σ * 64 + α) ([] : List UInt32) = S.ws from by simp [splice]]; exact hRP⟩
      case round =>
        obtain ⟨k, hk, rfl, hQ⟩ := hrel
        by_cases hlt : k < m
        · have hs7 := (hs.below hQ.below).more hQ.below.size
          obtain ⟨gx, ox, rfl, hgx, x, HX, hx', hcx⟩ := hs7.word HL.out hlt
          have hzy : wr.frozen? ⟨gb, σ * 64 + α + k, none⟩ = false := World.ownsRow.frozenAt hQ.row _
          have eb : IntKind.i64.wrap ((σ : Int) * 64 + (α : Int) + (k : Int)) = (σ : Int) * 64 + (α : Int) + (k : Int) := wrapI _ (by omega) (by omega)
          have c0 : wr.cell? ⟨g, 0, none⟩ = some (.slice (some ⟨gb, 0, none⟩) (64 * S.n) c2) := hQ.box.cell (j := 0) rfl
          have hwl : (splice S.ws (σ * 64 + α) (l.take k)).length = 64 * S.n := by rw [length_splice _ _ _ (by simp [HN.out, HL.out]; omega), HN.out]
          obtain ⟨gy, oy, ey, hgy, y, HY, hy', hcy⟩ := hQ.row.sees.word (k := σ * 64 + α + k) hwl (by omega)
          obtain ⟨rfl, rfl⟩ : gb = gy ∧ 0 = oy := by simpa using ey
          rw [Nat.zero_add] at hcy
          clear hRP ey hwl
          go_wp2_with fail
          refine region_qtail 13 (by kernel_rfl) (by kernel_rfl) ?_
          simp only [List.take_succ_cons, List.take_zero, List.drop_succ_cons, List.drop_zero]
          repeat (go_big_quiet_step (fail))
          refine wpQuiet_nil ?_
          rintro _ ⟨nq, rfl⟩
          go_wp2_with fail
          go_roundw
          case rel =>
            have hDr := below_drewN' (Below.refl wr.heap.size wr) nq
            have hkl : k < l.length := by rw [HL.out]; exact hlt
            have hx2 : l[k] = x := by have := HX.out; rw [List.getElem?_eq_getElem hkl] at this; exact Option.some.inj this
            have hW8 := (World.ownsRow.stored (hQ.row.below hDr) (σ * 64 + α + k) (.int .u32 (x.toNat : Int))).1
            rw [show (cw (S.with_ (splice S.ws (σ * 64 + α) (l.take k))).ws).set (σ * 64 + α + k) (.int .u32 (x.toNat : Int)) = cw (S.with_ (splice S.ws (σ * 64 + α) (l.take (k + 1)))).ws from by
              show (cw (splice S.ws (σ * 64 + α) (l.take k))).set (σ * 64 + α + k) _ = cw (splice S.ws (σ * 64 + α) (l.take (k + 1)))
              rw [← splice_step S.ws l (σ * 64 + α) k hkl (by rw [HN.out, HL.out]; omega), hx2]
              simp [cw, List.map_set]] at hW8
            refine ⟨k + 1, by omega, by go_num, ⟨?_, ?_, hW8, ?_⟩⟩
            · exact (hQ.box.below hDr).other (Ne.symm n1) (rn_other _ ⟨gb, _, none⟩ _)
            · exact (hQ.res.below hDr).other (Ne.symm n2) (rn_other _ ⟨gb, _, none⟩ _)
            · exact (below_drewN' hQ.below nq).setCell (p := ⟨gb, σ * 64 + α + k, none⟩) (by show _ ≤ gb; omega) _
          case measure => simp [intOf]; omega
        · obtain rfl : k = m := by omega
          rw [List.take_of_length_le (by rw [HL.out]; exact Nat.le_refl _)] at hQ
          clear hRP
          go_wp2_with (first
            | (with_reducible refine wpList_load (o := ⟨some 48, _, _, _, _, _⟩) rfl (.tmp 4) 65 rfl g 0 _ rfl ((S.with_ (splice S.ws (σ * 64 + α) l)).rL (some ⟨gb, 0, none⟩) c2) 5 rfl (by kernel_rfl) hQ.box.sees ?_)
            | (with_reducible refine wpList_store rfl rfl (.tmp 8) (.tmp 48) 65 rfl gr 0 w.heap.size 65 5 (rnL none 0 0 0 0 false 0) ((S.with_ (splice S.ws (σ * 64 + α) l)).rL (some ⟨gb, 0, none⟩) c2) rfl rfl 5 rfl (by kernel_rfl) hQ.res (by omega) (allOne_out (by kernel_rfl)) w hQ.below (by omega) ?_; intro w8 hF8 hB8 ho8 hz8))
          refine bodyPost_cellt rfl rfl (.int .i64 0) rfl ((S.with_ (splice S.ws (σ * 64 + α) l)).rL (some ⟨gb, 0, none⟩) c2) 5 rfl (by kernel_rfl) hF8.sees rfl ⟨some ⟨gb, 0, none⟩, c2, rfl, ⟨RnAt.fresh (hQ.row.otherC n2 ho8) (by show (splice S.ws (σ * 64 + α) l).length = 64 * S.n; rw [length_splice _ _ _ (by rw [HN.out, HL.out]; omega), HN.out]) hn, .inr (hQ.row.otherC n2 ho8)⟩, hB8⟩
end
end Go.Proofs.Ytjmofjcdcmbecaa
