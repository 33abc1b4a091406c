/-
  The document's own flash, by value: words of its own, whether words have place, a word read.
-/
import Derived.Test.YtjmofjcdcmbecaaRefNor
namespace Go.Proofs.Ytjmofjcdcmbecaa
open Go.RowKit
set_option linter.unusedVariables false

theorem RnAt.fresh {w : World} {base : Nat} {e : TypeId} {A : Option Addr} {c : Nat} {S : Fl} (h : Fresh base e w A (64 * S.n) c (cw S.ws)) (hl : S.ws.length = 64 * S.n) (hn : S.n ≤ 1024) : RnAt w A c S := ⟨h.sees, hl, hn, h.cap.1⟩
theorem Fresh.apart {w w' : World} {base : Nat} {e : TypeId} {A : Option Addr} {n c : Nat} {xs : List Value} (h : Fresh base e w A n c xs) (hk : ∀ k, base ≤ k → w'.heap[k]? = w.heap[k]?) : Fresh base e w' A n c xs := by
  refine ⟨h.1, ?_⟩
  rcases h.2 with h1 | ⟨g, cap, cur, hv, hg, hh, hr⟩
  · exact .inl h1
  · exact .inr ⟨g, cap, cur, hv, hg, by rw [hk g hg]; exact hh, hr⟩
/-- What a call that tells a flash anew leaves: the words lie where they lay, or in memory that was made in this call. -/
structure RnTo (w w' : World) (A B : Option Addr) (c c2 : Nat) (S T : Fl) : Prop where
  at_ : RnAt w' B c2 T
  from_ : (B = A ∧ c2 = c ∧ T.ws = S.ws ∧ T.n = S.n) ∨ Fresh w.heap.size 22 w' B (64 * T.n) c2 (cw T.ws)
section
variable {w : World} {A : Option Addr} {c : Nat} {S : Fl}
set_option maxHeartbeats 1000000 in
theorem rown_any (h : RnAt w A c S) : Calls Try.prog 104 #[.agg (S.rL A c).toArray] w fun e w' => ∃ B c2, e = .returned (.agg (S.rL B c2).toArray) ∧ Fresh w.heap.size 22 w' B (64 * S.n) c2 (cw S.ws) ∧ Below w.heap.size w w' := by
  obtain ⟨hs, hl, hn, hc⟩ := h
  have HL := Lib.hid hl
  unfold Fl.rL
  revert hs HL
  generalize S.leftR = L
  generalize S.guard = G
  generalize S.down = D
  generalize S.half = H
  generalize S.ws = ws
  obtain ⟨m, hm⟩ : ∃ m, 64 * S.n = m := ⟨_, rfl⟩
  have hm2 : m ≤ 65536 := by omega
  rw [hm]
  clear hl hn hc hm
  intro hs HL
  go_enter Try.func104, Try.ntmps104
  go_wp2_with (first
    | (with_reducible refine wpList_box (o := ⟨some 1, _, _, _, _, _⟩) rfl (.tmp 0) 65 rfl (rnL A m c G L D H) rfl 5 rfl (by decide) ?_; intro g w1 hg hF hB; have z1 := hB.size; have lg := hF.lt_size)
    | (with_reducible refine wpList_alloc (o := ⟨some 2, _, _, _, _, _⟩) rfl 65 rfl (rnL none 0 0 0 0 false 0) (by kernel_rfl) 5 rfl (by decide) ?_; intro gr w2 hgr hFr hBr; have z2 := hBr.size; have gne : gr ≠ g := (by omega); have hF2 := hF.below hBr; have hB2 := Below.then_ hB hBr; have c0 := hF2.cell (j := 0) rfl; have hs2 := hs.step hB2)
    | (at_builtin; refine wpList_app32 rfl (.tmp 4) (.tmp 6) rfl none A 0 0 m c [] ws w2 rfl rfl (fresh_nil _ _ _) hs2 HL.out (by omega) (Below.refl _ _) ?_; intro B c2 w3 hF3 hB3; rw [Nat.zero_add] at hF3; have hG3 := hF2.below hB3; have hR3 := hFr.below hB3; have d0 := hG3.cell (j := 0) rfl; have f0 : w3.frozen? ⟨g, 0, none⟩ = false := hG3.frozenAt; have hB03 := Below.then_ hB2 hB3)
    | (with_reducible refine wpList_load (o := ⟨some 9, _, _, _, _, _⟩) rfl (.tmp 1) 65 rfl g 0 _ rfl (rnL B m c2 G L D H) 5 rfl (by kernel_rfl) (hG3.store 0 (.slice B m c2)).sees ?_)
    | (with_reducible refine wpList_store rfl rfl (.tmp 2) (.tmp 9) 65 rfl gr 0 w1.heap.size 65 5 (rnL none 0 0 0 0 false 0) (rnL B m c2 G L D H) rfl rfl 5 rfl (by kernel_rfl) (hR3.other gne (rn_other w3 ⟨g, 0, none⟩ (.slice B m c2))) (by omega) (allOne_out (by kernel_rfl)) w (hB03.setCell (p := ⟨g, 0, none⟩) hg _) (by omega) ?_; intro w9 hF9 hB9 ho9 _))
  have hF10 : Fresh w2.heap.size 22 w9 B m c2 (cw ws) := hF3.apart fun k hk => by
    have lgr := hFr.lt_size
    rw [ho9 k (by omega), rn_other w3 ⟨g, 0, none⟩ (.slice B m c2) k (by show k ≠ g; omega)]
  exact bodyPost_cell rfl rfl (rnL B m c2 G L D H) 5 rfl (by kernel_rfl) hF9.sees rfl ⟨B, c2, rfl, hF10.lower (by omega), hB9⟩
/-- Have words place? (Their place is not behind the sector's end.) -/
theorem rright_any (S : Fl) (hn : S.n ≤ 1024) (s a : Int) (ha : -9223372036854775808 ≤ a ∧ a ≤ 64) (B : Option Addr) (m d : Nat) (hm : m ≤ 1099511627776) (r : Bool) (hr : S.place s a m = r) (w : World) :
    Calls Try.prog 103 #[.agg (S.rL A c).toArray, .int .i64 s, .int .i64 a, .slice B m d] w fun e w' => e = .returned (.bool r) ∧ Below w.heap.size w w' := by
  have hS := fun (w' : World) => rSectors_any (A := A) (c := c) S.n hn S.guard S.leftR S.down S.half w'
  unfold Fl.place Fl.sector at hr
  unfold Fl.rL
  revert hr hS
  generalize S.leftR = L
  generalize S.guard = G
  generalize S.down = D
  generalize S.half = H
  generalize S.n = n at hn ⊢
  intro hr hS
  have ew : IntKind.i64.wrap (a + (m : Int)) = a + (m : Int) := wrapI _ (by omega) (by omega)
  have ew' : wrap64 (a + (m : Int)) = a + (m : Int) := wrap64I _ (by omega) (by omega)
  have HA := Lib.hid ha
  have HM := Lib.hid hm
  have HN := Lib.hid hn
  clear ha hm hn
  by_cases h0 : 0 ≤ s
  · by_cases h1 : s < (n : Int)
    · by_cases h2 : 0 ≤ a
      · by_cases h3 : (m : Int) ≤ 64
        · by_cases h4 : a + (m : Int) ≤ 64
          · obtain rfl : r = true := by rw [← hr]; simp; omega
            clear hr
            go_enter Try.func103, Try.ntmps103
            go_wp2_with (first | (with_reducible refine wpList_box (o := ⟨some 4, _, _, _, _, _⟩) rfl (.tmp 0) 65 rfl (rnL A (64 * n) c G L D H) rfl 5 rfl (by decide) ?_; intro g w1 hg hF hB) | (refine wpList_load_g (o := ⟨some 13, _, _, _, _, _⟩) (.tmp 4) 65 rfl g 0 _ rfl (rnL A (64 * n) c G L D H) 5 rfl (by kernel_rfl) hF.sees (by rfl) ?_))
            refine (hS _).mono ?_
            rintro e w2 ⟨rfl, hB2⟩
            go_wp2_with fail
            go_ret
            exact ⟨rfl, Below.then_ hB hB2⟩
          · obtain rfl : r = false := by rw [← hr]; simp; omega
            clear hr
            go_enter Try.func103, Try.ntmps103
            go_wp2_with (first | (with_reducible refine wpList_box (o := ⟨some 4, _, _, _, _, _⟩) rfl (.tmp 0) 65 rfl (rnL A (64 * n) c G L D H) rfl 5 rfl (by decide) ?_; intro g w1 hg hF hB) | (refine wpList_load_g (o := ⟨some 13, _, _, _, _, _⟩) (.tmp 4) 65 rfl g 0 _ rfl (rnL A (64 * n) c G L D H) 5 rfl (by kernel_rfl) hF.sees (by rfl) ?_))
            refine (hS _).mono ?_
            rintro e w2 ⟨rfl, hB2⟩
            go_wp2_with fail
            go_ret
            exact ⟨ret_bool (by simp; omega), Below.then_ hB hB2⟩
        · obtain rfl : r = false := by rw [← hr]; simp; omega
          clear hr
          go_enter Try.func103, Try.ntmps103
          go_wp2_with (first | (with_reducible refine wpList_box (o := ⟨some 4, _, _, _, _, _⟩) rfl (.tmp 0) 65 rfl (rnL A (64 * n) c G L D H) rfl 5 rfl (by decide) ?_; intro g w1 hg hF hB) | (refine wpList_load_g (o := ⟨some 13, _, _, _, _, _⟩) (.tmp 4) 65 rfl g 0 _ rfl (rnL A (64 * n) c G L D H) 5 rfl (by kernel_rfl) hF.sees (by rfl) ?_))
          refine (hS _).mono ?_
          rintro e w2 ⟨rfl, hB2⟩
          go_wp2_with fail
          go_ret
          exact ⟨rfl, Below.then_ hB hB2⟩
      · obtain rfl : r = false := by rw [← hr]; simp; omega
        clear hr
        go_enter Try.func103, Try.ntmps103
        go_wp2_with (first | (with_reducible refine wpList_box (o := ⟨some 4, _, _, _, _, _⟩) rfl (.tmp 0) 65 rfl (rnL A (64 * n) c G L D H) rfl 5 rfl (by decide) ?_; intro g w1 hg hF hB) | (refine wpList_load_g (o := ⟨some 13, _, _, _, _, _⟩) (.tmp 4) 65 rfl g 0 _ rfl (rnL A (64 * n) c G L D H) 5 rfl (by kernel_rfl) hF.sees (by rfl) ?_))
        refine (hS _).mono ?_
        rintro e w2 ⟨rfl, hB2⟩
        go_wp2_with fail
        go_ret
        exact ⟨rfl, Below.then_ hB hB2⟩
    · obtain rfl : r = false := by rw [← hr]; simp; omega
      clear hr
      go_enter Try.func103, Try.ntmps103
      go_wp2_with (first | (with_reducible refine wpList_box (o := ⟨some 4, _, _, _, _, _⟩) rfl (.tmp 0) 65 rfl (rnL A (64 * n) c G L D H) rfl 5 rfl (by decide) ?_; intro g w1 hg hF hB) | (refine wpList_load_g (o := ⟨some 13, _, _, _, _, _⟩) (.tmp 4) 65 rfl g 0 _ rfl (rnL A (64 * n) c G L D H) 5 rfl (by kernel_rfl) hF.sees (by rfl) ?_))
      refine (hS _).mono ?_
      rintro e w2 ⟨rfl, hB2⟩
      go_wp2_with fail
      go_ret
      exact ⟨rfl, Below.then_ hB hB2⟩
  · obtain rfl : r = false := by rw [← hr]; simp; omega
    clear hr
    go_enter Try.func103, Try.ntmps103
    go_wp2_with (with_reducible refine wpList_box (o := ⟨some 4, _, _, _, _, _⟩) rfl (.tmp 0) 65 rfl (rnL A (64 * n) c G L D H) rfl 5 rfl (by decide) ?_; intro g w1 hg hF hB)
    go_ret
    exact ⟨rfl, hB⟩
set_option maxHeartbeats 1000000 in
theorem rRead_any (h : RnAt w A c S) (s a : Int) (ha : -9223372036854775808 ≤ a ∧ a < 9223372036854775808) (v : UInt32) (r : Nat) (hr : S.read s a = (v, r)) :
    Calls Try.prog 50 #[.agg (S.rL A c).toArray, .int .i64 s, .int .i64 a] w fun e w' => e = .returned (.tuple #[.int .u32 (v.toNat : Int), .int .i64 (r : Int)]) ∧ Below w.heap.size w w' := by
  obtain ⟨hs, hl, hn, hc⟩ := h
  have hS := fun (w' : World) => rSectors_any (A := A) (c := c) S.n hn S.guard S.leftR false S.half w'
  unfold Fl.read Fl.place Fl.sector at hr
  unfold Fl.rL
  have HL := Lib.hid hl
  revert hr hS hs HL
  generalize S.leftR = L
  generalize S.guard = G
  generalize S.half = H
  generalize S.ws = ws
  generalize S.n = n at hn hc hl ⊢
  cases hd : S.down
  · intro hr hs hS HL
    have HN := Lib.hid hn
    have HA := Lib.hid ha
    clear hd hn hc hl ha
    by_cases h0 : 0 ≤ s
    · have hd0 : decide (s < 0) = false := by simp; omega
      by_cases h1 : s < (n : Int)
      · by_cases h2 : 0 ≤ a
        · by_cases h3 : a < 64
          · obtain ⟨σ, rfl⟩ := Int.eq_ofNat_of_zero_le h0
            obtain ⟨α, rfl⟩ := Int.eq_ofNat_of_zero_le h2
            have hlt : σ * 64 + α < 64 * n := by omega
            obtain ⟨bq, oq, rfl, hbq, x, HX, hx', hcx⟩ := hs.word (k := σ * 64 + α) HL.out hlt
            obtain ⟨rfl, rfl⟩ : x = v ∧ 0 = r := by
              have e1 : (decide ((0 : Int) ≤ (σ : Int)) && decide ((σ : Int) < (n : Int)) && decide ((0 : Int) ≤ (α : Int)) && decide (((1 : Nat) : Int) ≤ 64 - (α : Int))) = true := by simp; omega
              rw [e1] at hr
              simp only [Int.toNat_natCast, Prod.mk.injEq, List.getD_eq_getElem?_getD, HX.out, Option.getD_some] at hr
              exact hr
            have hn1 := HN.out
            have em : IntKind.i64.wrap ((σ : Int) * 64) = (σ : Int) * 64 := wrapI _ (by omega) (by omega)
            have ea : IntKind.i64.wrap ((σ : Int) * 64 + (α : Int)) = (σ : Int) * 64 + (α : Int) := wrapI _ (by omega) (by omega)
            clear hr hn1
            go_enter Try.func50, Try.ntmps50
            go_wp2_with (first | (with_reducible refine wpList_box (o := ⟨some 3, _, _, _, _, _⟩) rfl (.tmp 0) 65 rfl (rnL (some ⟨bq, oq, none⟩) (64 * n) c G L false H) rfl 5 rfl (by decide) ?_; intro g w1 hg hF hB; have c0 := hF.cell (j := 0) rfl; have c3 := hF.cell (j := 3) rfl) | (refine wpList_load_g (o := ⟨some 14, _, _, _, _, _⟩) (.tmp 3) 65 rfl g 0 _ rfl (rnL (some ⟨bq, oq, none⟩) (64 * n) c G L false H) 5 rfl (by kernel_rfl) hF.sees (by rfl) ?_))
            refine (hS _).mono ?_
            rintro e w2 ⟨rfl, hB2⟩
            have hcx2 : w2.cell? ⟨bq, oq + (σ * 64 + α), none⟩ = some (.int .u32 (x.toNat : Int)) := by rw [(Below.then_ hB hB2).cell (p := ⟨bq, oq + (σ * 64 + α), none⟩) hbq]; exact hcx
            have c02 := (hF.below hB2).cell (j := 0) rfl
            go_wp2_with fail
            go_ret2
            exact ⟨rfl, Below.then_ hB hB2⟩
          · obtain ⟨rfl, rfl⟩ : 0 = v ∧ 2 = r := by
              have e1 : (decide (0 ≤ s) && decide (s < (n : Int)) && decide (0 ≤ a) && decide (((1 : Nat) : Int) ≤ 64 - a)) = false := by simp; omega
              rw [e1] at hr
              simp only [Prod.mk.injEq] at hr
              exact hr
            clear hr
            go_enter Try.func50, Try.ntmps50
            go_wp2_with (first | (with_reducible refine wpList_box (o := ⟨some 3, _, _, _, _, _⟩) rfl (.tmp 0) 65 rfl (rnL A (64 * n) c G L false H) rfl 5 rfl (by decide) ?_; intro g w1 hg hF hB; have c0 := hF.cell (j := 0) rfl; have c3 := hF.cell (j := 3) rfl) | (refine wpList_load_g (o := ⟨some 14, _, _, _, _, _⟩) (.tmp 3) 65 rfl g 0 _ rfl (rnL A (64 * n) c G L false H) 5 rfl (by kernel_rfl) hF.sees (by rfl) ?_))
            refine (hS _).mono ?_
            rintro e w2 ⟨rfl, hB2⟩
            go_wp2_with fail
            go_ret2
            exact ⟨rfl, Below.then_ hB hB2⟩
        · obtain ⟨rfl, rfl⟩ : 0 = v ∧ 2 = r := by
            have e1 : (decide (0 ≤ s) && decide (s < (n : Int)) && decide (0 ≤ a) && decide (((1 : Nat) : Int) ≤ 64 - a)) = false := by simp; omega
            rw [e1] at hr
            simp only [Prod.mk.injEq] at hr
            exact hr
          clear hr
          go_enter Try.func50, Try.ntmps50
          go_wp2_with (first | (with_reducible refine wpList_box (o := ⟨some 3, _, _, _, _, _⟩) rfl (.tmp 0) 65 rfl (rnL A (64 * n) c G L false H) rfl 5 rfl (by decide) ?_; intro g w1 hg hF hB; have c0 := hF.cell (j := 0) rfl; have c3 := hF.cell (j := 3) rfl) | (refine wpList_load_g (o := ⟨some 14, _, _, _, _, _⟩) (.tmp 3) 65 rfl g 0 _ rfl (rnL A (64 * n) c G L false H) 5 rfl (by kernel_rfl) hF.sees (by rfl) ?_))
          refine (hS _).mono ?_
          rintro e w2 ⟨rfl, hB2⟩
          go_wp2_with fail
          go_ret2
          exact ⟨rfl, Below.then_ hB hB2⟩
      · obtain ⟨rfl, rfl⟩ : 0 = v ∧ 2 = r := by
          have e1 : (decide (0 ≤ s) && decide (s < (n : Int)) && decide (0 ≤ a) && decide (((1 : Nat) : Int) ≤ 64 - a)) = false := by simp; omega
          rw [e1] at hr
          simp only [Prod.mk.injEq] at hr
          exact hr
        clear hr
        go_enter Try.func50, Try.ntmps50
        go_wp2_with (first | (with_reducible refine wpList_box (o := ⟨some 3, _, _, _, _, _⟩) rfl (.tmp 0) 65 rfl (rnL A (64 * n) c G L false H) rfl 5 rfl (by decide) ?_; intro g w1 hg hF hB; have c0 := hF.cell (j := 0) rfl; have c3 := hF.cell (j := 3) rfl) | (refine wpList_load_g (o := ⟨some 14, _, _, _, _, _⟩) (.tmp 3) 65 rfl g 0 _ rfl (rnL A (64 * n) c G L false H) 5 rfl (by kernel_rfl) hF.sees (by rfl) ?_))
        refine (hS _).mono ?_
        rintro e w2 ⟨rfl, hB2⟩
        go_wp2_with fail
        go_ret2
        exact ⟨rfl, Below.then_ hB hB2⟩
    · obtain ⟨rfl, rfl⟩ : 0 = v ∧ 2 = r := by
        have e1 : (decide (0 ≤ s) && decide (s < (n : Int)) && decide (0 ≤ a) && decide (((1 : Nat) : Int) ≤ 64 - a)) = false := by simp; omega
        rw [e1] at hr
        simp only [Prod.mk.injEq] at hr
        exact hr
      clear hr
      go_enter Try.func50, Try.ntmps50
      go_wp2_with (with_reducible refine wpList_box (o := ⟨some 3, _, _, _, _, _⟩) rfl (.tmp 0) 65 rfl (rnL A (64 * n) c G L false H) rfl 5 rfl (by decide) ?_; intro g w1 hg hF hB; have c0 := hF.cell (j := 0) rfl; have c3 := hF.cell (j := 3) rfl)
      go_ret2
      exact ⟨rfl, hB⟩
  · intro hr hs hS HL
    obtain ⟨rfl, rfl⟩ : 0 = v ∧ 40 = r := by
      simp only [Prod.mk.injEq] at hr
      exact hr
    clear hr hS hs hd
    go_enter Try.func50, Try.ntmps50
    go_wp2_with (with_reducible refine wpList_box (o := ⟨some 3, _, _, _, _, _⟩) rfl (.tmp 0) 65 rfl (rnL A (64 * n) c G L true H) rfl 5 rfl (by decide) ?_; intro g w1 hg hF hB; have c0 := hF.cell (j := 0) rfl; have c3 := hF.cell (j := 3) rfl)
    go_ret2
    exact ⟨rfl, hB⟩
end
end Go.Proofs.Ytjmofjcdcmbecaa
