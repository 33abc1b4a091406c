/-
  What a tally's Count and Step answer, and opening it.
-/
import Derived.Test.YtpdfalgjmeagjaaTallyOps
namespace Go.Proofs.Ytpdfalgjmeagjaa
open Go.RowKit Go.Shelf
set_option linter.unusedVariables false

section
variable {w : World} {base t d p b f last : Nat} {over : Bool} {S : Fl}
set_option maxHeartbeats 1000000 in
set_option maxRecDepth 100000 in
theorem Count_any (h : TyAt base w t d p b f S last over) (hd : S.down = false) (hbase : base ≤ w.heap.size) (c : Nat) (hr : (S.tlook f).2.1 = c) :
    Calls Try.prog 47 #[.pointer (some ⟨t, 0, none⟩)] w fun e w' => e = .returned (.int .i64 (c : Int)) ∧ TyAt base w' t d p b f S c over ∧ But t t w w' := by
  obtain ⟨s, c', l, hl⟩ : ∃ s c' l, S.tlook f = (s, c', l) := ⟨_, _, _, rfl⟩
  obtain rfl : c' = c := by rw [hl] at hr; exact hr
  have hTwo : Two S f := ⟨h.dr.fits, h.dr.nor.len⟩
  have HLL := Lib.hid (look_len hTwo hl).1
  have hR := read_any h hd hbase s c' l hl
  clear hr hd hl
  go_enter Try.func47, Try.ntmps47
  go_wp2_with fail
  refine (isTally_any h).mono ?_
  rintro e w1 ⟨rfl, rfl⟩
  go_wp2_with fail
  refine hR.mono ?_
  rintro e w2 ⟨rfl, hT, hB⟩
  go_wp2_with (first
    | (with_reducible refine wpList_alloc (o := ⟨some 3, _, _, _, _, _⟩) rfl 199 rfl (stL 0 0 zeros64) (by kernel_rfl) 66 (by simp [stL_len, zeros64]) (by decide) ?_; intro gs w3 hgs hFs hBs)
    | (with_reducible refine wpList_store rfl rfl (.tmp 3) (.tmp 11) 199 rfl gs 0 w2.heap.size 199 66 (stL 0 0 zeros64) (stL s c' l) rfl rfl 66 (by simp [stL_len, HLL.out]) (by kernel_rfl) hFs (by omega) (stL_one _ _ _) w2 hBs hgs ?_; intro w4 hF4 hB4 hoth4 hz4; rw [splice_own (by simp [stL_len, HLL.out, zeros64])] at hF4; have cs1 : w4.cell? ⟨gs, 1, none⟩ = some (.int .i64 (c' : Int)) := hF4.cell rfl))
  go_ret
  exact ⟨rfl, hT.below hB4, hB.then_ (But.of_below hB4)⟩
set_option maxHeartbeats 1000000 in
set_option maxRecDepth 100000 in
theorem Step_any (h : TyAt base w t d p b f S last over) (hbase : base ≤ w.heap.size) (S' : Fl) (r last' : Nat) (over' : Bool) (hr : S.tstep f last over = (S', r, last', over')) :
    Calls Try.prog 48 #[.pointer (some ⟨t, 0, none⟩)] w fun e w' => e = .returned (.int .i64 (r : Int)) ∧ TyAt base w' t d p b f S' last' over' ∧ But3 t p b w w' := by
  have hI := isTally_any h
  obtain ⟨-, -, -, c3⟩ := h.c
  cases over
  · cases hd : S.down
    · -- up
      obtain ⟨s, c, l, hl⟩ : ∃ s c l, S.tlook f = (s, c, l) := ⟨_, _, _, rfl⟩
      have hTwo : Two S f := ⟨h.dr.fits, h.dr.nor.len⟩
      have HLL := Lib.hid (look_len hTwo hl).1
      have hR := read_any h hd hbase s c l hl
      unfold Fl.tstep at hr
      rw [hd, hl] at hr
      simp only at hr
      by_cases hc : 2147483648 ≤ c
      · rw [if_pos hc] at hr
        simp only [Prod.mk.injEq] at hr
        obtain ⟨rfl, rfl, rfl, rfl⟩ := hr
        have hcD : decide ((2147483648 : Int) ≤ (c : Int)) = true := by simp; omega
        clear hd hl hc
        go_enter Try.func48, Try.ntmps48
        go_wp2_with fail
        refine hI.mono ?_
        rintro e w1 ⟨rfl, rfl⟩
        go_wp2_with fail
        refine hR.mono ?_
        rintro e w2 ⟨rfl, hT, hB⟩
        go_wp2_with (first
          | (with_reducible refine wpList_alloc (o := ⟨some 3, _, _, _, _, _⟩) rfl 199 rfl (stL 0 0 zeros64) (by kernel_rfl) 66 (by simp [stL_len, zeros64]) (by decide) ?_; intro gs w3 hgs hFs hBs)
          | (with_reducible refine wpList_store rfl rfl (.tmp 3) (.tmp 15) 199 rfl gs 0 w2.heap.size 199 66 (stL 0 0 zeros64) (stL s c l) rfl rfl 66 (by simp [stL_len, HLL.out]) (by kernel_rfl) hFs (by omega) (stL_one _ _ _) w2 hBs hgs ?_; intro w4 hF4 hB4 hoth4 hz4; have ct2 := (hT.below hB4).c.2.2.1))
        go_ret
        exact ⟨rfl, hT.below hB4, But3.of_own (hB.then_ (But.of_below hB4)) p b⟩
      · rw [if_neg hc] at hr
        have hc2 : c < 2147483648 := by omega
        obtain ⟨T, q, hq⟩ : ∃ T q, S.twrite f = (T, q) := ⟨_, _, rfl⟩
        rw [hq] at hr
        have hW := fun (w' : World) (hT : TyAt base w' t d p b f S c false) => twrite_any hT s c l hl hc2 T q hq
        have hcD : decide ((2147483648 : Int) ≤ (c : Int)) = false := by simp; omega
        have HC2 := Lib.hid hc2
        have ew : IntKind.i64.wrap ((c : Int) + 1) = (c : Int) + 1 := wrapI _ (by omega) (by omega)
        clear hd hl hq hc hc2
        cases q with
        | zero =>
          simp only [Prod.mk.injEq] at hr
          obtain ⟨rfl, rfl, rfl, rfl⟩ := hr
          go_enter Try.func48, Try.ntmps48
          go_wp2_with fail
          refine hI.mono ?_
          rintro e w1 ⟨rfl, rfl⟩
          go_wp2_with fail
          refine hR.mono ?_
          rintro e w2 ⟨rfl, hT, hB⟩
          go_wp2_with (first
            | (with_reducible refine wpList_alloc (o := ⟨some 3, _, _, _, _, _⟩) rfl 199 rfl (stL 0 0 zeros64) (by kernel_rfl) 66 (by simp [stL_len, zeros64]) (by decide) ?_; intro gs w3 hgs hFs hBs)
            | (with_reducible refine wpList_store rfl rfl (.tmp 3) (.tmp 15) 199 rfl gs 0 w2.heap.size 199 66 (stL 0 0 zeros64) (stL s c l) rfl rfl 66 (by simp [stL_len, HLL.out]) (by kernel_rfl) hFs (by omega) (stL_one _ _ _) w2 hBs hgs ?_; intro w4 hF4 hB4 hoth4 hz4; rw [splice_own (by simp [stL_len, HLL.out, zeros64])] at hF4; have hT4 := hT.below hB4; have ct2 := hT4.c.2.2.1; have hW4 := hW w4 hT4)
            | (with_reducible refine wpList_load (o := ⟨some 25, _, _, _, _, _⟩) rfl (.tmp 3) 199 rfl gs 0 _ rfl (stL s c l) 66 (by simp [stL_len, HLL.out]) (by kernel_rfl) hF4.sees ?_))
          refine hW4.mono ?_
          rintro e w5 ⟨rfl, hD5, hB5⟩
          have hT5 := hT4.turn hB5 hD5
          have ct5 := hT5.c.2.2.1
          have zt5 := hT5.z 2
          go_wp2_with fail
          go_ret
          exact ⟨rfl, hT5.setLast (c + 1) (by have := HC2.out; omega), (But3.of_own (hB.then_ (But.of_below hB4)) p b).then_ ((But3.of_but hB5 t).then_ (But3.of_own (But.set t t t 2 _ (.inl rfl)) p b))⟩
        | succ z =>
          simp only [Prod.mk.injEq] at hr
          obtain ⟨rfl, rfl, rfl, rfl⟩ := hr
          have h0 : ¬ (((z + 1 : Nat) : Int) = 0) := by omega
          go_enter Try.func48, Try.ntmps48
          go_wp2_with fail
          refine hI.mono ?_
          rintro e w1 ⟨rfl, rfl⟩
          go_wp2_with fail
          refine hR.mono ?_
          rintro e w2 ⟨rfl, hT, hB⟩
          go_wp2_with (first
            | (with_reducible refine wpList_alloc (o := ⟨some 3, _, _, _, _, _⟩) rfl 199 rfl (stL 0 0 zeros64) (by kernel_rfl) 66 (by simp [stL_len, zeros64]) (by decide) ?_; intro gs w3 hgs hFs hBs)
            | (with_reducible refine wpList_store rfl rfl (.tmp 3) (.tmp 15) 199 rfl gs 0 w2.heap.size 199 66 (stL 0 0 zeros64) (stL s c l) rfl rfl 66 (by simp [stL_len, HLL.out]) (by kernel_rfl) hFs (by omega) (stL_one _ _ _) w2 hBs hgs ?_; intro w4 hF4 hB4 hoth4 hz4; rw [splice_own (by simp [stL_len, HLL.out, zeros64])] at hF4; have hT4 := hT.below hB4; have ct2 := hT4.c.2.2.1; have hW4 := hW w4 hT4)
            | (with_reducible refine wpList_load (o := ⟨some 25, _, _, _, _, _⟩) rfl (.tmp 3) 199 rfl gs 0 _ rfl (stL s c l) 66 (by simp [stL_len, HLL.out]) (by kernel_rfl) hF4.sees ?_))
          refine hW4.mono ?_
          rintro e w5 ⟨rfl, hD5, hB5⟩
          have hT5 := hT4.turn hB5 hD5
          have ct5 := hT5.c.2.2.2
          have zt5 := hT5.z 3
          go_wp2_with fail
          go_ret
          exact ⟨rfl, hT5.setOver true, (But3.of_own (hB.then_ (But.of_below hB4)) p b).then_ ((But3.of_but hB5 t).then_ (But3.of_own (But.set t t t 3 _ (.inl rfl)) p b))⟩
    · -- down
      have hR := read_no h hd
      have ct2 := h.c.2.2.1
      unfold Fl.tstep at hr
      rw [hd] at hr
      simp only at hr
      by_cases hc : 2147483648 ≤ last
      · rw [if_pos hc] at hr
        simp only [Prod.mk.injEq] at hr
        obtain ⟨rfl, rfl, rfl, rfl⟩ := hr
        have hcD : decide ((2147483648 : Int) ≤ (last : Int)) = true := by simp; omega
        clear hd hc
        go_enter Try.func48, Try.ntmps48
        go_wp2_with fail
        refine hI.mono ?_
        rintro e w1 ⟨rfl, rfl⟩
        go_wp2_with fail
        refine hR.mono ?_
        rintro e w2 ⟨rfl, hB⟩
        go_wp2_with (first
          | (with_reducible refine wpList_alloc (o := ⟨some 3, _, _, _, _, _⟩) rfl 199 rfl (stL 0 0 zeros64) (by kernel_rfl) 66 (by simp [stL_len, zeros64]) (by decide) ?_; intro gs w3 hgs hFs hBs)
          | (with_reducible refine wpList_store rfl rfl (.tmp 3) (.tmp 15) 199 rfl gs 0 w2.heap.size 199 66 (stL 0 0 zeros64) (stL 0 0 zeros64) rfl rfl 66 (by simp [stL_len, zeros64]) (by kernel_rfl) hFs (by omega) (stL_one _ _ _) w2 hBs hgs ?_; intro w4 hF4 hB4 hoth4 hz4; have hB24 := Below.then_ hB hB4; have hT4 := h.below hB24; have ct4 := hT4.c.2.2.1))
        go_ret
        exact ⟨rfl, hT4, But3.of_below hB24 t p b⟩
      · rw [if_neg hc] at hr
        simp only [Prod.mk.injEq] at hr
        obtain ⟨rfl, rfl, rfl, rfl⟩ := hr
        have hcD : decide ((2147483648 : Int) ≤ (last : Int)) = false := by simp; omega
        clear hd hc
        go_enter Try.func48, Try.ntmps48
        go_wp2_with fail
        refine hI.mono ?_
        rintro e w1 ⟨rfl, rfl⟩
        go_wp2_with fail
        refine hR.mono ?_
        rintro e w2 ⟨rfl, hB⟩
        go_wp2_with (first
          | (with_reducible refine wpList_alloc (o := ⟨some 3, _, _, _, _, _⟩) rfl 199 rfl (stL 0 0 zeros64) (by kernel_rfl) 66 (by simp [stL_len, zeros64]) (by decide) ?_; intro gs w3 hgs hFs hBs)
          | (with_reducible refine wpList_store rfl rfl (.tmp 3) (.tmp 15) 199 rfl gs 0 w2.heap.size 199 66 (stL 0 0 zeros64) (stL 0 0 zeros64) rfl rfl 66 (by simp [stL_len, zeros64]) (by kernel_rfl) hFs (by omega) (stL_one _ _ _) w2 hBs hgs ?_; intro w4 hF4 hB4 hoth4 hz4; have hB24 := Below.then_ hB hB4; have hT4 := h.below hB24; have ct4 := hT4.c.2.2.1; have ct43 := hT4.c.2.2.2; have zt4 := hT4.z 3))
        go_ret
        exact ⟨rfl, hT4.setOver true, (But3.of_below hB24 t p b).then_ (But3.of_own (But.set t t t 3 _ (.inl rfl)) p b)⟩
  · obtain ⟨rfl, rfl, rfl, rfl⟩ : S = S' ∧ 60 = r ∧ last = last' ∧ true = over' := by
      unfold Fl.tstep at hr
      simp only [Prod.mk.injEq] at hr
      exact hr
    clear hr
    go_enter Try.func48, Try.ntmps48
    go_wp2_with fail
    refine hI.mono ?_
    rintro e w1 ⟨rfl, rfl⟩
    go_wp2_with fail
    go_ret
    exact ⟨rfl, h, But3.of_below (Below.refl _ _) t p b⟩
end
end Go.Proofs.Ytpdfalgjmeagjaa
