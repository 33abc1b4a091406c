/-
  The document's own flash, by value: Crash.
-/
import Derived.Test.YtjmofjcdcmbecaaRefErase
import Derived.Test.YtjmofjcdcmbecaaNorCrash
namespace Go.Proofs.Ytjmofjcdcmbecaa
open Go.RowKit
set_option linter.unusedVariables false

theorem mask_app : ∀ (a b : List Bool) (ws : List UInt32) (j : Nat), mask ws j (a ++ b) = mask (mask ws j a) (j + a.length) b
  | [], b, ws, j => rfl
  | true :: a, b, ws, j => by
    rw [List.cons_append, mask, mask, mask_app a b, List.length_cons, show j + 1 + a.length = j + (a.length + 1) from by omega]
  | false :: a, b, ws, j => by
    rw [List.cons_append, mask, mask, mask_app a b, List.length_cons, show j + 1 + a.length = j + (a.length + 1) from by omega]
theorem mask_on (ws : List UInt32) (j k : Nat) (ks : List Bool) (h : ks[k]? = some true) : mask ws j (ks.take (k + 1)) = (mask ws j (ks.take k)).set (j + k) 4294967295 := by
  have hk := (List.getElem?_eq_some_iff.1 h).1
  rw [List.take_add_one, h, Option.toList_some, mask_app, List.length_take, Nat.min_eq_left (by omega)]
  rfl
theorem mask_off (ws : List UInt32) (j k : Nat) (ks : List Bool) (h : ks[k]? ≠ some true) : mask ws j (ks.take (k + 1)) = mask ws j (ks.take k) := by
  cases e : ks[k]? with
  | none => rw [List.take_add_one, e]; simp
  | some b =>
    cases b
    · rw [List.take_add_one, e, Option.toList_some, mask_app]
      rfl
    · exact absurd e h
theorem mask_len7 : ∀ (l : List Bool) (ws : List UInt32) (j : Nat), (mask ws j l).length = ws.length
  | [], ws, j => rfl
  | true :: l, ws, j => by rw [mask, mask_len7 l, List.length_set]
  | false :: l, ws, j => by rw [mask, mask_len7 l]
section
variable {w : World} {A : Option Addr} {c : Nat} {S : Fl}
set_option maxHeartbeats 2000000 in
set_option maxRecDepth 100000 in
theorem rCrash_any (h : RnAt w A c S) (hok : S.Ok) (h1n : 1 ≤ S.n) (C : Option Addr) (m d : Nat) (hm : m ≤ 1099511627776) (ks : List Bool) (hs : Sees w w.heap.size C (cl ks)) (hl : ks.length = m) :
    Calls Try.prog 48 #[.agg (S.rL A c).toArray, .slice C m d] w fun e w' => ∃ B c2, e = .returned (.agg ((S.crash ks).rL B c2).toArray) ∧ RnTo w w' A B c c2 S (S.crash ks) ∧ Below w.heap.size w w' := by
  have hn := h.n_le
  have hOw := fun (w' : World) (x : Below w.heap.size w w') => rown_any (h.step x)
  have HN := Lib.hid h.len
  have HL := Lib.hid hl
  clear hl
  rcases hok with hh | ⟨σ, hh, hσ⟩
  · have hcr : S.crash ks = { S with half := -1, down := false, armed := false } := by unfold Fl.crash; rw [hh]; rfl
    rw [hcr]
    have hhD : decide ((0 : Int) ≤ S.half) = false := by simp; omega
    have HH := Lib.hid hh
    clear hcr hh
    go_enter Try.func48, Try.ntmps48
    go_wp2_with (first
        | (with_reducible refine wpList_box (o := ⟨some 2, _, _, _, _, _⟩) rfl (.tmp 0) 65 rfl (S.rL A c) rfl 5 rfl (by decide) ?_; intro g w1 hg hF hB; have z1 := hB.size; have lg := hF.lt_size)
        | (with_reducible refine wpList_alloc (o := ⟨some 4, _, _, _, _, _⟩) rfl 65 rfl (rnL none 0 0 0 0 false 0) (by kernel_rfl) 5 rfl (by decide) ?_; intro gr w2 hgr hFr hBr; have z2 := hBr.size; have gne : gr ≠ g := (by omega); have hF2 := hF.below hBr; have hB2 := Below.then_ hB hBr)
        | (with_reducible refine wpList_load (o := ⟨some 6, _, _, _, _, _⟩) rfl (.tmp 2) 65 rfl g 0 _ rfl (S.rL A c) 5 rfl (by kernel_rfl) hF2.sees ?_))
    refine (hOw w2 hB2).mono ?_
    rintro e w3 ⟨B, c2, rfl, hW3, hB3⟩
    have hF3 := hF2.below hB3
    have hR3 : Fresh w.heap.size 65 w3 (some ⟨gr, 0, none⟩) 5 5 (rnL none 0 0 0 0 false 0) := (hFr.below hB3).lower z1
    have hB03 := Below.then_ hB2 hB3
    have lgr := hFr.lt_size
    obtain ⟨gb, rfl, hgb, hgb2⟩ := hW3.spot_ (by omega)
    have n1 : gb ≠ g := by omega
    have n2 : gb ≠ gr := by omega
    clear hF2 hFr hB2 hOw
    go_wp2_with (with_reducible refine wpList_store rfl rfl (.tmp 2) (.tmp 7) 65 rfl g 0 w.heap.size 65 5 (S.rL A c) (S.rL (some ⟨gb, 0, none⟩) c2) rfl rfl 5 rfl (by kernel_rfl) hF3 (by omega) (allOne_out (by kernel_rfl)) w hB03 hg ?_; intro w5 hF5 hB5 ho5 hz5)
    have hF5' : Fresh w.heap.size 65 w5 (some ⟨g, 0, none⟩) 5 5 (S.rL (some ⟨gb, 0, none⟩) c2) := hF5
    have hRP : RP w g gr gb c2 S w5 := ⟨hF5', hR3.other gne ho5, (hW3.lower (by omega)).otherC n1 ho5, hB5⟩
    clear hF5 hF5' hR3 hW3 hF3 hB03 ho5
    go_loopw [5] (fun i wr => i = .int .i64 0 ∧ wr = w5) (fun i _ => 0)
    case atStart => exact ⟨rfl, rfl⟩
    case round =>
      obtain ⟨rfl, rfl⟩ := hrel
      have d4 : wr.cell? ⟨g, 4, none⟩ = some (.int .i64 (S).half) := hRP.box.cell (j := 4) rfl
      have f4 : wr.frozen? ⟨g, 4, none⟩ = false := hRP.box.frozenAt
      have hG1 := hRP.box.store 4 (.int .i64 (-1))
      have d3 : (wr.setCell ⟨g, 4, none⟩ (.int .i64 (-1))).cell? ⟨g, 3, none⟩ = some (.bool (S).down) := hG1.cell (j := 3) rfl
      have f3 : (wr.setCell ⟨g, 4, none⟩ (.int .i64 (-1))).frozen? ⟨g, 3, none⟩ = false := hG1.frozenAt
      have hG2 := hG1.store 3 (.bool false)
      have d2 : ((wr.setCell ⟨g, 4, none⟩ (.int .i64 (-1))).setCell ⟨g, 3, none⟩ (.bool false)).cell? ⟨g, 2, none⟩ = some (.int .i64 (S).leftR) := hG2.cell (j := 2) rfl
      have f2 : ((wr.setCell ⟨g, 4, none⟩ (.int .i64 (-1))).setCell ⟨g, 3, none⟩ (.bool false)).frozen? ⟨g, 2, none⟩ = false := hG2.frozenAt
      have hG3 : Fresh w.heap.size 65 (((wr.setCell ⟨g, 4, none⟩ (.int .i64 (-1))).setCell ⟨g, 3, none⟩ (.bool false)).setCell ⟨g, 2, none⟩ (.int .i64 (-1))) (some ⟨g, 0, none⟩) 5 5 (Fl.rL { S with half := -1, down := false, armed := false } (some ⟨gb, 0, none⟩) c2) := hG2.store 2 (.int .i64 (-1))
      have hR3x := ((hRP.res.other gne (rn_other wr ⟨g, 4, none⟩ (.int .i64 (-1)))).other gne (rn_other _ ⟨g, 3, none⟩ (.bool false))).other gne (rn_other _ ⟨g, 2, none⟩ (.int .i64 (-1)))
      have hW3x := ((hRP.row.otherC n1 (rn_other wr ⟨g, 4, none⟩ (.int .i64 (-1)))).otherC n1 (rn_other _ ⟨g, 3, none⟩ (.bool false))).otherC n1 (rn_other _ ⟨g, 2, none⟩ (.int .i64 (-1)))
      have hB3x := ((hRP.below.setCell (p := ⟨g, 4, none⟩) hg (.int .i64 (-1))).setCell (p := ⟨g, 3, none⟩) hg (.bool false)).setCell (p := ⟨g, 2, none⟩) hg (.int .i64 (-1))
      clear hG1 hG2
      go_wp2_with (first
          | (with_reducible refine wpList_load (o := ⟨some 38, _, _, _, _, _⟩) rfl (.tmp 2) 65 rfl g 0 _ rfl (Fl.rL { S with half := -1, down := false, armed := false } (some ⟨gb, 0, none⟩) c2) 5 rfl (by kernel_rfl) hG3.sees ?_)
          | (with_reducible refine wpList_store rfl rfl (.tmp 4) (.tmp 38) 65 rfl gr 0 w.heap.size 65 5 (rnL none 0 0 0 0 false 0) (Fl.rL { S with half := -1, down := false, armed := false } (some ⟨gb, 0, none⟩) c2) rfl rfl 5 rfl (by kernel_rfl) hR3x (by omega) (allOne_out (by kernel_rfl)) w hB3x (by omega) ?_; intro w9 hF9 hB9 ho9 hz9))
      exact bodyPost_cell rfl rfl (Fl.rL { S with half := -1, down := false, armed := false } (some ⟨gb, 0, none⟩) c2) 5 rfl (by kernel_rfl) hF9.sees rfl ⟨some ⟨gb, 0, none⟩, c2, rfl, ⟨RnAt.fresh (S := { S with half := -1, down := false, armed := false }) (hW3x.otherC n2 ho9) HN.out hn, .inr (hW3x.otherC n2 ho9)⟩, hB9⟩
  · have hcr : S.crash ks = { S.with_ (mask S.ws (σ * 64) (ks.take 64)) with half := -1, down := false, armed := false } := by
      unfold Fl.crash
      rw [decide_eq_false (by omega), hh]
      rfl
    rw [hcr]
    have HH := Lib.hid hh
    clear hcr hh
    go_enter Try.func48, Try.ntmps48
    go_wp2_with (first
        | (with_reducible refine wpList_box (o := ⟨some 2, _, _, _, _, _⟩) rfl (.tmp 0) 65 rfl (S.rL A c) rfl 5 rfl (by decide) ?_; intro g w1 hg hF hB; have z1 := hB.size; have lg := hF.lt_size)
        | (with_reducible refine wpList_alloc (o := ⟨some 4, _, _, _, _, _⟩) rfl 65 rfl (rnL none 0 0 0 0 false 0) (by kernel_rfl) 5 rfl (by decide) ?_; intro gr w2 hgr hFr hBr; have z2 := hBr.size; have gne : gr ≠ g := (by omega); have hF2 := hF.below hBr; have hB2 := Below.then_ hB hBr)
        | (with_reducible refine wpList_load (o := ⟨some 6, _, _, _, _, _⟩) rfl (.tmp 2) 65 rfl g 0 _ rfl (S.rL A c) 5 rfl (by kernel_rfl) hF2.sees ?_))
    refine (hOw w2 hB2).mono ?_
    rintro e w3 ⟨B, c2, rfl, hW3, hB3⟩
    have hF3 := hF2.below hB3
    have hR3 : Fresh w.heap.size 65 w3 (some ⟨gr, 0, none⟩) 5 5 (rnL none 0 0 0 0 false 0) := (hFr.below hB3).lower z1
    have hB03 := Below.then_ hB2 hB3
    have lgr := hFr.lt_size
    obtain ⟨gb, rfl, hgb, hgb2⟩ := hW3.spot_ (by omega)
    have n1 : gb ≠ g := by omega
    have n2 : gb ≠ gr := by omega
    clear hF2 hFr hB2 hOw
    go_wp2_with (with_reducible refine wpList_store rfl rfl (.tmp 2) (.tmp 7) 65 rfl g 0 w.heap.size 65 5 (S.rL A c) (S.rL (some ⟨gb, 0, none⟩) c2) rfl rfl 5 rfl (by kernel_rfl) hF3 (by omega) (allOne_out (by kernel_rfl)) w hB03 hg ?_; intro w5 hF5 hB5 ho5 hz5)
    have hF5' : Fresh w.heap.size 65 w5 (some ⟨g, 0, none⟩) 5 5 (S.rL (some ⟨gb, 0, none⟩) c2) := hF5
    have hRP : RP w g gr gb c2 S w5 := ⟨hF5', hR3.other gne ho5, (hW3.lower (by omega)).otherC n1 ho5, hB5⟩
    clear hF5 hF5' hR3 hW3 hF3 hB03 ho5
    have em : IntKind.i64.wrap ((σ : Int) * 64) = (σ : Int) * 64 := wrapI _ (by omega) (by omega)
    go_loopw [5] (fun i wr => ∃ k : Nat, k ≤ 64 ∧ i = .int .i64 (k : Int) ∧ RP w g gr gb c2 (S.with_ (mask S.ws (σ * 64) (ks.take k))) wr) (fun i _ => 64 - (intOf i).toNat)
    case atStart => exact ⟨0, by omega, rfl, by rw [List.take_zero]; exact hRP⟩
    case round =>
      obtain ⟨k, hk, rfl, hQ⟩ := hrel
      clear hRP
      have c4 : wr.cell? ⟨g, 4, none⟩ = some (.int .i64 (σ : Int)) := by
        have := hQ.box.cell (j := 4) (u := .int .i64 S.half) rfl
        rw [HH.out] at this
        exact this
      have hml : (mask S.ws (σ * 64) (ks.take k)).length = 64 * S.n := by rw [mask_len7]; exact HN.out
      have HML := Lib.hid hml
      clear hml
      by_cases hlt : k < 64
      · have c0 : wr.cell? ⟨g, 0, none⟩ = some (.slice (some ⟨gb, 0, none⟩) (64 * S.n) c2) := hQ.box.cell (j := 0) rfl
        have hzy : wr.frozen? ⟨gb, σ * 64 + k, none⟩ = false := World.ownsRow.frozenAt hQ.row _
        have eb : IntKind.i64.wrap ((σ : Int) * 64 + (k : Int)) = (σ : Int) * 64 + (k : Int) := wrapI _ (by omega) (by omega)
        obtain ⟨gy, oy, ey, hgy, y, HY, hy', hcy⟩ := hQ.row.sees.word (k := σ * 64 + k) HML.out (by omega)
        obtain ⟨rfl, rfl⟩ : gb = gy ∧ 0 = oy := by simpa using ey
        rw [Nat.zero_add] at hcy
        clear ey
        by_cases hkm : k < m
        · have hs7 := (hs.below hQ.below).more hQ.below.size
          obtain ⟨gx, ox, rfl, hgx, b, HX, hcx⟩ := hs7.bool HL.out hkm
          cases b
          · go_wp2_with fail
            go_roundw
            case rel => exact ⟨k + 1, by omega, by go_num, by rw [mask_off _ _ _ _ (by rw [HX.out]; simp)]; exact hQ⟩
            case measure => simp [intOf]; omega
          · go_wp2_with fail
            go_roundw
            case rel =>
              have hW8 := (World.ownsRow.stored hQ.row (σ * 64 + k) (.int .u32 4294967295)).1
              rw [show (cw (S.with_ (mask S.ws (σ * 64) (ks.take k))).ws).set (σ * 64 + k) (.int .u32 4294967295) = cw (S.with_ (mask S.ws (σ * 64) (ks.take (k + 1)))).ws from by
                show (cw (mask S.ws (σ * 64) (ks.take k))).set (σ * 64 + k) _ = cw (mask S.ws (σ * 64) (ks.take (k + 1)))
                rw [mask_on _ _ _ _ HX.out]
                simp [cw, List.map_set]] at hW8
              refine ⟨k + 1, by omega, by go_num, ⟨?_, ?_, hW8, ?_⟩⟩
              · exact hQ.box.other (Ne.symm n1) (rn_other _ ⟨gb, _, none⟩ _)
              · exact hQ.res.other (Ne.symm n2) (rn_other _ ⟨gb, _, none⟩ _)
              · exact hQ.below.setCell (p := ⟨gb, σ * 64 + k, none⟩) (by show _ ≤ gb; omega) _
            case measure => simp [intOf]; omega
        · go_wp2_with fail
          go_roundw
          case rel => exact ⟨k + 1, by omega, by go_num, by rw [mask_off _ _ _ _ (by rw [List.getElem?_eq_none (by rw [HL.out]; omega)]; simp)]; exact hQ⟩
          case measure => simp [intOf]; omega
      · obtain rfl : k = 64 := by omega
        have d4 : wr.cell? ⟨g, 4, none⟩ = some (.int .i64 (S.with_ (mask S.ws (σ * 64) (ks.take 64))).half) := hQ.box.cell (j := 4) rfl
        have f4 : wr.frozen? ⟨g, 4, none⟩ = false := hQ.box.frozenAt
        have hG1 := hQ.box.store 4 (.int .i64 (-1))
        have d3 : (wr.setCell ⟨g, 4, none⟩ (.int .i64 (-1))).cell? ⟨g, 3, none⟩ = some (.bool (S.with_ (mask S.ws (σ * 64) (ks.take 64))).down) := hG1.cell (j := 3) rfl
        have f3 : (wr.setCell ⟨g, 4, none⟩ (.int .i64 (-1))).frozen? ⟨g, 3, none⟩ = false := hG1.frozenAt
        have hG2 := hG1.store 3 (.bool false)
        have d2 : ((wr.setCell ⟨g, 4, none⟩ (.int .i64 (-1))).setCell ⟨g, 3, none⟩ (.bool false)).cell? ⟨g, 2, none⟩ = some (.int .i64 (S.with_ (mask S.ws (σ * 64) (ks.take 64))).leftR) := hG2.cell (j := 2) rfl
        have f2 : ((wr.setCell ⟨g, 4, none⟩ (.int .i64 (-1))).setCell ⟨g, 3, none⟩ (.bool false)).frozen? ⟨g, 2, none⟩ = false := hG2.frozenAt
        have hG3 : Fresh w.heap.size 65 (((wr.setCell ⟨g, 4, none⟩ (.int .i64 (-1))).setCell ⟨g, 3, none⟩ (.bool false)).setCell ⟨g, 2, none⟩ (.int .i64 (-1))) (some ⟨g, 0, none⟩) 5 5 (Fl.rL { S.with_ (mask S.ws (σ * 64) (ks.take 64)) with half := -1, down := false, armed := false } (some ⟨gb, 0, none⟩) c2) := hG2.store 2 (.int .i64 (-1))
        have hR3x := ((hQ.res.other gne (rn_other wr ⟨g, 4, none⟩ (.int .i64 (-1)))).other gne (rn_other _ ⟨g, 3, none⟩ (.bool false))).other gne (rn_other _ ⟨g, 2, none⟩ (.int .i64 (-1)))
        have hW3x := ((hQ.row.otherC n1 (rn_other wr ⟨g, 4, none⟩ (.int .i64 (-1)))).otherC n1 (rn_other _ ⟨g, 3, none⟩ (.bool false))).otherC n1 (rn_other _ ⟨g, 2, none⟩ (.int .i64 (-1)))
        have hB3x := ((hQ.below.setCell (p := ⟨g, 4, none⟩) hg (.int .i64 (-1))).setCell (p := ⟨g, 3, none⟩) hg (.bool false)).setCell (p := ⟨g, 2, none⟩) hg (.int .i64 (-1))
        clear hG1 hG2
        go_wp2_with (first
            | (with_reducible refine wpList_load (o := ⟨some 38, _, _, _, _, _⟩) rfl (.tmp 2) 65 rfl g 0 _ rfl (Fl.rL { S.with_ (mask S.ws (σ * 64) (ks.take 64)) with half := -1, down := false, armed := false } (some ⟨gb, 0, none⟩) c2) 5 rfl (by kernel_rfl) hG3.sees ?_)
            | (with_reducible refine wpList_store rfl rfl (.tmp 4) (.tmp 38) 65 rfl gr 0 w.heap.size 65 5 (rnL none 0 0 0 0 false 0) (Fl.rL { S.with_ (mask S.ws (σ * 64) (ks.take 64)) with half := -1, down := false, armed := false } (some ⟨gb, 0, none⟩) c2) rfl rfl 5 rfl (by kernel_rfl) hR3x (by omega) (allOne_out (by kernel_rfl)) w hB3x (by omega) ?_; intro w9 hF9 hB9 ho9 hz9))
        exact bodyPost_cell rfl rfl (Fl.rL { S.with_ (mask S.ws (σ * 64) (ks.take 64)) with half := -1, down := false, armed := false } (some ⟨gb, 0, none⟩) c2) 5 rfl (by kernel_rfl) hF9.sees rfl ⟨some ⟨gb, 0, none⟩, c2, rfl, ⟨RnAt.fresh (S := { S.with_ (mask S.ws (σ * 64) (ks.take 64)) with half := -1, down := false, armed := false }) (hW3x.otherC n2 ho9) HML.out hn, .inr (hW3x.otherC n2 ho9)⟩, hB9⟩
end
end Go.Proofs.Ytjmofjcdcmbecaa
