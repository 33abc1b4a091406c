/-
  Append, and that the bytes of the record that came are memory of this call's own.
-/
import Derived.Test.YthigepkcgijbbaaAreas
namespace Go.Proofs.Ythigepkcgijbbaa
open Go.RowKit
set_option linter.unusedVariables false

/-- Behind the records' growing; its new slice laid down, or not yet. -/
structure GrownN (base a d p b f m : Nat) (w3 : World) (S : Fl) (x : Ar) (A : Option Addr) (c : Nat) (ps : List Pb) (A' : Option Addr) (c' : Nat) (q : Pb) (done : Bool) (w : World) : Prop where
  dr : DrAt base w d p b f m S
  obj : Fresh base 106 w (some ⟨a, 0, none⟩) 6 6 (match done with | true => arObj (some ⟨a, 0, none⟩) d x A' (ps.length + 1) c' false | false => arObj (some ⟨a, 0, none⟩) d x A ps.length c false)
  row : Fresh base 27 w A' (ps.length + 1) c' ((ps ++ [q]).map Pb.cell)
  each : ∀ r ∈ ps ++ [q], Fresh base 5 w r.A r.m r.c (cb r.l)
  but : But4 a p b (Value.slice A ps.length c).ownBlock w3 w
  own : OwnOr w3 (Value.slice A ps.length c).ownBlock (Value.slice A' (ps.length + 1) c').ownBlock
  new : Fresh w3.heap.size 5 w q.A q.m q.c (cb q.l)
def apJN (base a d p b f m : Nat) (w3 : World) (S : Fl) (x : Ar) (A : Option Addr) (c : Nat) (ps : List Pb) (n1 : Nat) (bs : List UInt8) (listed : Array Bool) (act : Act) (w : World) : Prop :=
  w3.heap.size ≤ w.heap.size ∧ (listed.getD 9 false = false → Below w3.heap.size w3 w) ∧
  (listed.getD 9 false = true → ∃ A' c' q cq, act.tmps[59]? = some (.slice A' (ps.length + 1) c') ∧ GrownN base a d p b f m w3 S x A c ps A' c' ⟨q, n1, cq, bs⟩ (listed.getD 13 false) w) ∧
  (listed.getD 9 false = true → listed.getD 5 false = true ∧ listed.getD 7 false = true) ∧ (listed.getD 13 false = true → listed.getD 9 false = true)
section
variable {w w' w3 : World} {base a d p b f m c c' n1 : Nat} {A A' : Option Addr} {S : Fl} {x : Ar} {ps : List Pb} {q : Pb} {done : Bool} {bs : List UInt8} {listed : Array Bool} {act : Act}
theorem GrownN.below (h : GrownN base a d p b f m w3 S x A c ps A' c' q done w) (y : Below w.heap.size w w') : GrownN base a d p b f m w3 S x A c ps A' c' q done w' :=
  ⟨h.dr.below y, h.obj.below y, h.row.below y, fun r hr => (h.each r hr).below y, h.but.then_ (.inl rfl) (.of_below y a p b _), h.own, h.new.below y⟩
theorem apJN.below (h : apJN base a d p b f m w3 S x A c ps n1 bs listed act w) (y : Below w.heap.size w w') : apJN base a d p b f m w3 S x A c ps n1 bs listed act w' := by
  obtain ⟨h1, h2, h3, h4⟩ := h
  refine ⟨Nat.le_trans h1 y.size, fun e => (h2 e).trans (y.mono h1), fun e => ?_, h4⟩
  obtain ⟨A', c', q, cq, e1, e2⟩ := h3 e
  exact ⟨A', c', q, cq, e1, e2.below y⟩
theorem apJN.other (h : apJN base a d p b f m w3 S x A c ps n1 bs listed act w) (i t : Nat) (v : Value) (hi : i ≠ 9) (hi2 : i ≠ 13) (ht : t ≠ 59) : apJN base a d p b f m w3 S x A c ps n1 bs (listed.setIfInBounds i true) (act.put (some t) v) w := by
  obtain ⟨h1, h2, h3, h4, h5⟩ := h
  have up : ∀ j, listed.getD j false = true → (listed.setIfInBounds i true).getD j false = true := fun j hj => by
    by_cases e : i = j
    · subst e
      exact getD_setEq _ _ (by
        rcases Nat.lt_or_ge i listed.size with h1 | h1
        · exact h1
        · simp [Array.getElem?_eq_none h1] at hj)
    · rw [getD_setNe _ _ _ e]; exact hj
  refine ⟨h1, ?_, ?_, ?_, ?_⟩
  · rw [getD_setNe _ _ _ hi]
    exact h2
  · rw [getD_setNe _ _ _ hi, getD_setNe _ _ _ hi2, put_other _ _ _ _ ht]
    exact h3
  · rw [getD_setNe _ _ _ hi]
    exact fun e => ⟨up 5 (h4 e).1, up 7 (h4 e).2⟩
  · rw [getD_setNe _ _ _ hi, getD_setNe _ _ _ hi2]
    exact h5
theorem apJN.not9 (h : apJN base a d p b f m w3 S x A c ps n1 bs listed act w) (hn : listed.getD 5 true = false ∨ listed.getD 7 true = false) : listed.getD 9 false = false := by
  cases e : listed.getD 9 false
  · rfl
  · obtain ⟨k1, k2⟩ := h.2.2.2.1 e
    rcases hn with hn | hn
    · rw [(sizeOf_getD hn).2] at k1; cases k1
    · rw [(sizeOf_getD hn).2] at k2; cases k2
theorem GrownN.lay (h : GrownN base a d p b f m w3 S x A c ps A' c' q false w) (hap : a ≠ p) (hab : a ≠ b) (had : a ≠ d) : GrownN base a d p b f m w3 S x A c ps A' c' q true (w.setCell ⟨a, 2, none⟩ (.slice A' (ps.length + 1) c')) := by
  have y : But a a w (w.setCell ⟨a, 2, none⟩ (.slice A' (ps.length + 1) c')) := But.set a a a 2 _ (.inl rfl)
  exact ⟨h.dr.other6 y (Ne.symm hap) (Ne.symm hab) (Ne.symm had), h.obj.store 2 _, h.row.stay fun k hk hlt => y.keep k hlt (fun e => h.row.far h.obj (by decide) (e ▸ hk)) (fun e => h.row.far h.obj (by decide) (e ▸ hk)),
    fun r hr => (h.each r hr).stay fun k hk hlt => y.keep k hlt (fun e => (h.each r hr).far h.obj (by decide) (e ▸ hk)) (fun e => (h.each r hr).far h.obj (by decide) (e ▸ hk)), h.but.then_ h.own (But4.of_own y p b _), h.own, h.new.stay fun k hk hlt => y.keep k hlt (fun e => h.new.far h.obj (by decide) (e ▸ hk)) (fun e => h.new.far h.obj (by decide) (e ▸ hk))⟩
end
section
variable {w w' : World} {base a d p b f m c : Nat} {mk A : Option Addr} {over : Bool} {S : Fl} {x : Ar} {ps : List Pb}
set_option maxHeartbeats 4000000 in
set_option maxRecDepth 100000 in
theorem AAppend_own (h : ArAt base w (some ⟨a, 0, none⟩) a d p b f m S x over A c ps) (hbase : base ≤ w.heap.size) (A1 : Option Addr) (n1 c1 : Nat) (bs : List UInt8) (hin : Off p b w A1 (cb bs)) (hl : bs.length = n1) (hn63 : n1 ≤ 9223372036854775807) (T : Fl) (r : Nat) (x' : Ar) (over' : Bool) (hr : S.aappend f m x over bs = (T, r, x', over')) :
    Calls Try.prog 55 #[.pointer (some ⟨a, 0, none⟩), .slice A1 n1 c1] w fun e w' => e = .returned (.int .i64 (r : Int)) ∧ ∃ A' c' ps', ArAt base w' (some ⟨a, 0, none⟩) a d p b f m T x' over' A' c' ps' ∧ But4 a p b (Value.slice A ps.length c).ownBlock w w' ∧ OwnOr w (Value.slice A ps.length c).ownBlock (Value.slice A' ps'.length c').ownBlock ∧ (ps' = ps ∨ ∃ q, ps' = ps ++ [q] ∧ Fresh w.heap.size 5 w' q.A q.m q.c (cb q.l)) := by
  have hI := isArea_any h
  obtain ⟨-, k1, k2, -, k4, k5⟩ := h.cel
  unfold Fl.aappend at hr
  rw [hl] at hr
  cases over with
  | true =>
    obtain ⟨rfl, rfl, rfl, rfl⟩ : S = T ∧ 60 = r ∧ x = x' ∧ true = over' := by simpa only [Prod.mk.injEq] using hr
    clear hr hn63
    go_enter Try.func55, Try.ntmps55
    go_wp2_with fail
    refine hI.mono ?_
    rintro e w1 ⟨rfl, rfl⟩
    go_wp2_with fail
    go_ret
    exact ⟨rfl, A, c, ps, h, But4.of_but3 h.fl _, .inl rfl, .inl rfl⟩
  | false =>
    simp only at hr
    by_cases hbig : 4096 < n1
    · rw [if_pos hbig] at hr
      obtain ⟨rfl, rfl, rfl, rfl⟩ : S = T ∧ 3 = r ∧ x = x' ∧ false = over' := by simpa only [Prod.mk.injEq] using hr
      have q1 : decide ((4096 : Int) < (n1 : Int)) = true := by simp; omega
      clear hr hn63 hbig
      go_enter Try.func55, Try.ntmps55
      go_wp2_with fail
      refine hI.mono ?_
      rintro e w1 ⟨rfl, rfl⟩
      go_wp2_with fail
      go_ret
      exact ⟨rfl, A, c, ps, h, But4.of_but3 h.fl _, .inl rfl, .inl rfl⟩
    · have q1 : decide ((4096 : Int) < (n1 : Int)) = false := by simp; omega
      rw [if_neg hbig] at hr
      have hR := recordOf_any (w := w) A1 n1 c1 bs hin.sees hl (by omega)
      obtain ⟨N, hN⟩ : ∃ N, nW n1 = N := ⟨_, rfl⟩
      rw [hN] at hr hR
      have hNb : N ≤ 1026 := by rw [← hN]; unfold nW; omega
      have hrl : (recW bs).length = N := by rw [len_recW, hl, hN]
      have HRL := Lib.hid hrl
      obtain ⟨hxl, -, hpl, hmm⟩ := h.sizes
      by_cases hfull : x.left < N
      · rw [if_pos hfull] at hr
        obtain ⟨rfl, rfl, rfl, rfl⟩ : S = T ∧ 5 = r ∧ x = x' ∧ false = over' := by simpa only [Prod.mk.injEq] using hr
        have q2 : decide ((x.left : Int) < (N : Int)) = true := by simp; omega
        have q2' : decide (x.left < N) = true := by simp; omega
        clear hr hn63 hbig hN hrl
        go_enter Try.func55, Try.ntmps55
        go_wp2_with fail
        refine hI.mono ?_
        rintro e w1 ⟨rfl, rfl⟩
        go_wp2_with fail
        refine hR.mono ?_
        rintro e w2 ⟨A2, c2, rfl, hF2, hB2⟩
        have hA2 := h.below hB2
        have k42 := hA2.cel.2.2.2.2.1
        go_wp2_with fail
        go_ret
        exact ⟨rfl, A, c, ps, hA2, But4.of_below hB2 a p b _, .inl rfl, .inl rfl⟩
      · rw [if_neg hfull] at hr
        have q2 : decide ((x.left : Int) < (N : Int)) = false := by simp; omega
        have q2' : decide (x.left < N) = false := by simp; omega
        obtain ⟨Z, hZ⟩ : ∃ Z, 64 * m = Z := ⟨_, rfl⟩
        obtain ⟨Y, hY⟩ : ∃ Y, 64 * m - x.left = Y := ⟨_, rfl⟩
        rw [hY] at hr
        obtain ⟨V, q, hV⟩ : ∃ V q, S.dwrite f m (Y : Int) (recW bs) = (V, q) := ⟨_, _, rfl⟩
        rw [hV] at hr
        have HR := Lib.hid hr
        have hle : x.left ≤ Z := by have := h.ok.many; omega
        have HY : Hid ((Z : Int) - (x.left : Int) = (Y : Int)) := Lib.hid (by omega)
        have hZb : Z ≤ 65536 := by omega
        have HSZ := Lib.hid (fun (w' : World) (y : DrAt base w' d p b f m S) => dSize_any y Z hZ)
        have HV := Lib.hid hV
        have HB := Lib.hid hl
        have hYb : Y ≤ 65536 := by omega
        clear hr hV hN hrl hZ hY hl hn63
        go_enter Try.func55, Try.ntmps55
        go_wp2_with fail
        refine hI.mono ?_
        rintro e w1 ⟨rfl, rfl⟩
        go_wp2_with fail
        refine hR.mono ?_
        rintro e w2 ⟨A2, c2, rfl, hF2, hB2⟩
        have hA2 := h.below hB2
        have hin2 := hin.step (But.of_below hB2)
        obtain ⟨-, k12, -, -, k42, -⟩ := hA2.cel
        have hq1 := fun nq => HSZ.out (w2.drewN nq) (hA2.dr.below (below_drewN' (Below.refl _ _) nq))
        clear hI hR k1 k2 k4 k5 HSZ
        go_wp2_with fail
        refine region_qtail 16 (by kernel_rfl) (by kernel_rfl) ?_
        simp only [List.take_succ_cons, List.take_zero, List.drop_succ_cons, List.drop_zero]
        repeat (go_big_quiet_step ((go_at_call 121; exact Calls.quiet_of_same (hq1 _))))
        refine wpQuiet_nil ?_
        rintro _ ⟨nq, rfl⟩
        have hBq := below_drewN' (Below.refl w2.heap.size w2) nq
        have hoff : Off p b (w2.drewN nq) A2 (cw (recW bs)) := by
          obtain ⟨hp, hb, -, -⟩ := h.dr.nor.lt
          exact fun w' y => ((hF2.below hBq).butC y hp hb).sees
        have hA3 := hA2.below hBq
        have hWr := dWrite_any hA3.dr (Y : Int) (by omega) N c2 A2 (recW bs) hoff HRL.out hF2.cap.1 V q HV.out
        go_wp2_with fail
        rw [HY.out]
        refine hWr.mono ?_
        rintro e w3 ⟨rfl, hD3, hB3⟩
        have hA4 := hA3.turn hB3 hD3
        have hB13 : But4 a p b (Value.slice A ps.length c).ownBlock w1 w3 := (But4.of_below (Below.then_ hB2 hBq) a p b _).then_ (.inl rfl) (But4.of_but hB3 a _)
        have hin3 := (hin2.step (But.of_below hBq)).step hB3
        have hin4 := hin3.sees
        clear hA3 hA2 hin2 hin3 hoff hF2 k12 k42 hWr hD3 hq1 HV
        cases q with
        | succ q =>
          have hq2 : (((q + 1 : Nat) : Int) != 0) = true := by simp; omega
          have hr := HR.out
          simp only [Prod.mk.injEq] at hr
          obtain ⟨rfl, rfl, rfl, rfl⟩ := hr
          have k5 := hA4.cel.2.2.2.2.2
          have kz := hA4.z 5
          clear HR
          go_wp2_with fail
          go_ret
          exact ⟨rfl, A, c, ps, hA4.setOver true, hB13.then_ (.inl rfl) (But4.of_own (But.set a a a 5 _ (.inl rfl)) p b _), .inl rfl, .inl rfl⟩
        | zero =>
          have hr := HR.out
          simp only [Prod.mk.injEq] at hr
          obtain ⟨rfl, rfl, rfl, rfl⟩ := hr
          obtain ⟨-, -, k2, -, k4, -⟩ := hA4.cel
          clear HR
          go_wp2_with fail
          have hF9 := hA4.recs.row
          refine region_L (apFacts a A A1 ps.length c n1 c1 w3.heap.size bs) (apJN base a d p b f m w3 V x A c ps n1 bs) (by kernel_rfl) (by kernel_rfl) ⟨Nat.le_refl _, fun _ => ⟨rfl, rfl, rfl, Nat.le_refl _, fun _ _ => rfl⟩, fun h => (by rw [getD_replicate_false] at h; cases h), fun h => (by rw [getD_replicate_false] at h; cases h), fun h => (by rw [getD_replicate_false] at h; cases h)⟩ ?_ ?_
          · refine ⟨?_, ?_, ?_, ?_, ?_, ?_, ?_, ?_, ?_, ?_, ?_, ?_, ?_, ?_, trivial⟩
            all_goals intro listed a1 w' hk h1 hd
            · have f0_ : a1.eval (.tmp 0) = .pointer (some ⟨a, 0, none⟩) := hk.ev_old 0 (by kernel_rfl)
              have g0_ : a1.tmps[0]?.getD undef = .pointer (some ⟨a, 0, none⟩) := by simpa [Act.eval] using f0_
              exact stepL_value rfl (v := .pointer (some ⟨a, 0, none⟩)) (by go_simp) rfl (hk.inv.other 0 50 _ (by omega) (by omega) (by omega))
            · have f0_ : a1.eval (.tmp 0) = .pointer (some ⟨a, 0, none⟩) := hk.ev_old 0 (by kernel_rfl)
              have g0_ : a1.tmps[0]?.getD undef = .pointer (some ⟨a, 0, none⟩) := by simpa [Act.eval] using f0_
              exact stepL_value rfl (v := .pointer (some ⟨a, 0, none⟩)) (by go_simp) rfl (hk.inv.other 1 51 _ (by omega) (by omega) (by omega))
            · obtain ⟨v1, e1, q1, rfl, l1⟩ := hk.ev_new hd 1 51 (by kernel_rfl) rfl
              exact stepL_value rfl (v := .pointer (some ⟨a, 0, none⟩)) (by go_simp) rfl (hk.inv.other 2 52 _ (by omega) (by omega) (by omega))
            · obtain ⟨v1, e1, q1, rfl, l1⟩ := hk.ev_new hd 2 52 (by kernel_rfl) rfl
              exact stepL_value rfl (v := .pointer (some ⟨a, 2, none⟩)) (by go_simp) rfl (hk.inv.other 3 53 _ (by omega) (by omega) (by omega))
            · obtain ⟨v1, e1, q1, rfl, l1⟩ := hk.ev_new hd 3 53 (by kernel_rfl) rfl
              exact stepL_value rfl (v := .pointer (some ⟨a, 2, none⟩)) (by go_simp) rfl (hk.inv.other 4 54 _ (by omega) (by omega) (by omega))
            · obtain ⟨v1, e1, q1, rfl, l1⟩ := hk.ev_new hd 4 54 (by kernel_rfl) rfl
              have n9 := hk.inv.not9 (.inl h1)
              have cc : w'.cell? ⟨a, 2, none⟩ = some (.slice A ps.length c) := ((hk.inv.2.1 n9).cell (p := ⟨a, 2, none⟩) hA4.lt.1).trans k2
              exact stepL_value rfl (v := .slice A ps.length c) (by go_simp) rfl (hk.inv.other 5 55 _ (by omega) (by omega) (by omega))
            · have f0_ : a1.eval (.tmp 1) = .slice A1 n1 c1 := hk.ev_old 1 (by kernel_rfl)
              have g0_ : a1.tmps[1]?.getD undef = .slice A1 n1 c1 := by simpa [Act.eval] using f0_
              exact stepL_value rfl (v := .slice A1 n1 c1) (by go_simp) rfl (hk.inv.other 6 56 _ (by omega) (by omega) (by omega))
            · obtain ⟨v1, e1, q1, rfl, l1⟩ := hk.ev_new hd 6 56 (by kernel_rfl) rfl
              have n9 := hk.inv.not9 (.inr h1)
              have hb0 := hk.inv.2.1 n9
              refine stepL_enter rfl (f := 110) (args := #[.slice A1 n1 c1]) (by go_simp) ?_
              refine (CloneB_any A1 c1 n1 bs w' (hin4.step hb0) HB.out (by omega)).mono ?_
              rintro e w5 ⟨q, cq, rfl, hq, hB5⟩
              exact ⟨_, rfl, ⟨q, cq, rfl, hq.lower hb0.size⟩, (hk.inv.below hB5).other 7 57 _ (by omega) (by omega) (by omega), apFacts_keep fun k _ hk2 => hB5.block k hk2⟩
            · obtain ⟨v1, e1, q1, hv1, l1⟩ := hk.ev_new hd 7 57 (by kernel_rfl) rfl
              obtain ⟨q, cq, rfl, hq⟩ := hv1
              have hba := below_alloc w' (.cells #[.slice q n1 cq] 27)
              refine stepL_run rfl (v := .slice (some ⟨w'.heap.size, 0, none⟩) 1 1) (w' := w'.alloc (.cells #[.slice q n1 cq] 27)) (by go_simp) ⟨q, cq, w'.heap.size, rfl, hq.below hba, (Fresh.new w' 27 [.slice q n1 cq] 1 rfl (by omega)).lower hk.inv.1⟩ ((hk.inv.below hba).other 8 58 _ (by omega) (by omega) (by omega)) (apFacts_keep fun k _ hk2 => hba.block k hk2)
            · obtain ⟨v5, e5, q5, rfl, l5⟩ := hk.ev_new hd 5 55 (by kernel_rfl) rfl
              obtain ⟨v8, e8, q8, hv8, l8⟩ := hk.ev_new hd 8 58 (by kernel_rfl) rfl
              obtain ⟨q, cq, g, rfl, hq, hg⟩ := hv8
              obtain ⟨v7, e7, q7, hv7, l7⟩ := hk.ev_new hd 7 57 (by kernel_rfl) rfl
              obtain ⟨s9, n9⟩ := sizeOf_getD h1
              have n13 : listed.getD 13 false = false := by
                cases e : listed.getD 13 false
                · rfl
                · rw [hk.inv.2.2.2.2 e] at n9; cases n9
              have hb0 := hk.inv.2.1 n9
              have hsz := hk.inv.1
              have hsz13 := hB13.size
              have hA5 := hA4.below hb0
              have hown0 := fun k hk => (hF9.own (k := k) hk).2
              obtain ⟨i0, hi, hz0, hz1, hz2⟩ := info_parts (show (Try.prog.info? 27).map (fun i => (i.zero, i.size, i.bytes)) = some (some (.slice none 0 0), 1, 24) from by kernel_rfl)
              obtain ⟨v', w5, hr, hown, hgr, hnil, hat⟩ := run_append_own_at (P := Try.prog) w' base 28 28 27 i0 (.slice none 0 0) 1 24 Try.underlying28 hi hz0 hz1 hz2 rfl (by omega) (.slice A ps.length c) ps.length (ps.map Pb.cell) hA5.recs.row ⟨g, 0, none⟩ 1 1 [.slice q n1 cq] rfl (fun j u hj => by
                rcases j with _ | j
                · simp at hj; subst hj; exact hg.cell rfl
                · simp at hj) (by simp; rfl) (by unfold maxLen; omega) (by omega) (by omega)
              obtain ⟨A', c', rfl⟩ : ∃ A' c', v' = .slice A' (ps.length + 1) c' := by
                rcases hown.2 with ⟨rfl, h0⟩ | ⟨g', cap, cu, rfl, _⟩
                · simp at h0
                · exact ⟨_, _, rfl⟩
              have keep8 : ∀ {e : TypeId} {B : Nat} {R : Option Addr} {n cc : Nat} {ys : List Value}, e ≠ 27 → Fresh B e w' R n cc ys → Fresh B e w5 R n cc ys := fun hne hf => World.ownsRow.kept hf hgr (fresh_unlike hf hA5.recs.row hne)
              have hG : GrownN base a d p b f m w3 V x A c ps A' c' ⟨q, n1, cq, bs⟩ false w5 := ⟨hA5.dr.grows hgr hA5.recs.row rfl, keep8 (by decide) hA5.obj, by rw [List.map_append]; exact hown, fun r hr => by
                rcases List.mem_append.1 hr with h6 | h6
                · exact keep8 (by decide) (hA5.recs.each r h6)
                · simp at h6
                  subst h6
                  exact keep8 (by decide) (hq.lower (Nat.le_trans hbase hB13.size)), (But4.of_below hb0 a p b _).then_ (.inl rfl) (But4.of_grown hgr a p b), by
                rcases hat with h6 | h6
                · exact .inl h6
                · exact .inr fun k e => by rw [h6] at e; simp at e; omega, keep8 (by decide) hq⟩
              refine stepL_run rfl (v := .slice A' (ps.length + 1) c') (w' := w5) ?_ trivial ⟨Nat.le_trans hsz hgr.size, ?_, fun _ => ⟨A', c', q, cq, put_self _ _ _ (by rw [hk.size]; exact (show (59 : Nat) < 74 by decide)), ?_⟩, fun _ => ?_, fun _ => getD_setEq _ _ s9⟩ (apFacts_keep fun k hB hlt => hgr.block k hlt fun e => by have := hown0 k e.symm; omega)
              · unfold execOp
                simp only [resolve, invoke, builtin, Sem.run_bind, Sem.run_pure, Result.andThen_ok, List.map_toArray, List.map_cons, List.map_nil, e5, e8, hr]
              · intro e
                rw [getD_setEq _ _ s9] at e
                cases e
              · rw [getD_setNe _ _ _ (by omega), n13]
                exact hG
              · rw [getD_setNe _ _ _ (by omega), getD_setNe _ _ _ (by omega)]
                exact ⟨l5, l7⟩
            · obtain ⟨v0, e0, q0, rfl, l0⟩ := hk.ev_new hd 0 50 (by kernel_rfl) rfl
              exact stepL_value rfl (v := .pointer (some ⟨a, 0, none⟩)) (by go_simp) rfl (hk.inv.other 10 60 _ (by omega) (by omega) (by omega))
            · obtain ⟨v0, e0, q0, rfl, l0⟩ := hk.ev_new hd 10 60 (by kernel_rfl) rfl
              exact stepL_value rfl (v := .pointer (some ⟨a, 2, none⟩)) (by go_simp) rfl (hk.inv.other 11 61 _ (by omega) (by omega) (by omega))
            · obtain ⟨v0, e0, q0, rfl, l0⟩ := hk.ev_new hd 11 61 (by kernel_rfl) rfl
              exact stepL_value rfl (v := .pointer (some ⟨a, 2, none⟩)) (by go_simp) rfl (hk.inv.other 12 62 _ (by omega) (by omega) (by omega))
            · obtain ⟨v12, e12, q12, rfl, l12⟩ := hk.ev_new hd 12 62 (by kernel_rfl) rfl
              obtain ⟨v9, e9, q9, -, l9⟩ := hk.ev_new hd 9 59 (by kernel_rfl) rfl
              obtain ⟨s13, n13⟩ := sizeOf_getD h1
              obtain ⟨j1, j2, j3, j4, j5⟩ := hk.inv
              obtain ⟨A', c', q, cq, e59, hG⟩ := j3 l9
              rw [n13] at hG
              rw [q9] at e59
              obtain rfl : v9 = .slice A' (ps.length + 1) c' := by simpa using e59
              have kc : w'.cell? ⟨a, 2, none⟩ = some (.slice A ps.length c) := hG.obj.cell rfl
              have kz : w'.frozen? ⟨a, 2, none⟩ = false := hG.obj.frozenAt
              refine stepL_skip rfl rfl (w' := w'.setCell ⟨a, 2, none⟩ (.slice A' (ps.length + 1) c')) (by go_simp) trivial ⟨by simpa [World.setCell] using j1, ?_, fun _ => ⟨A', c', q, cq, q9, ?_⟩, ?_, ?_⟩ (apFacts_keep fun k hB hlt => setCell_ne _ _ _ _ _ (by have := hA4.lt.1; omega))
              · intro e
                rw [getD_setNe _ _ _ (by omega), l9] at e
                cases e
              · rw [getD_setEq _ _ s13]
                exact hG.lay hA4.ap hA4.ab hA4.ad
              · rw [getD_setNe _ _ _ (by omega), getD_setNe _ _ _ (by omega), getD_setNe _ _ _ (by omega)]
                exact j4
              · intro _
                rw [getD_setNe _ _ _ (by omega)]
                exact l9
          · intro listed a1 w6 hJ hall hp
            obtain ⟨A', c', q, cq, -, hG⟩ := hJ.2.2.1 (hall 9 (by decide))
            rw [hall 13 (by decide)] at hG
            obtain ⟨v0, p0, v1, p1, v2, p2, v3, p3, v4, p4, v5, p5, v6, p6, v7, p7, v8, p8, v9, p9, v10, p10, v11, p11, v12, p12, rfl⟩ := hp
            clear p0 p1 p2 p3 p4 p5 p6 p7 p8 p9 p10 p11 p12 hJ hall
            simp only [Act.put, List.setIfInBounds_toArray, List.set_cons_succ, List.set_cons_zero]
            have k46 : w6.cell? ⟨a, 4, none⟩ = some (.int .i64 (x.left : Int)) := hG.obj.cell rfl
            have kz6 : w6.frozen? ⟨a, 4, none⟩ = false := hG.obj.frozenAt
            have HLF : Hid ((x.left : Int) - (N : Int) = ((x.left - N : Nat) : Int)) := Lib.hid (by omega)
            have hlN : N ≤ x.left := by omega
            clear HLF
            have hO := hG.obj.store 4 (.int .i64 ((x.left : Int) - (N : Int)))
            have y : But a a w6 (w6.setCell ⟨a, 4, none⟩ (.int .i64 ((x.left : Int) - (N : Int)))) := But.set a a a 4 _ (.inl rfl)
            have hlN2 : (x.left : Int) - (N : Int) = ((x.left - N : Nat) : Int) := by omega
            have HLN := Lib.hid hlN2
            have hob : Hid ((arObj (some ⟨a, 0, none⟩) d x A' (ps.length + 1) c' false).set 4 (.int .i64 ((x.left : Int) - (N : Int))) = arObj (some ⟨a, 0, none⟩) d ⟨x.L ++ [bs], x.torn, x.left - N⟩ A' (ps.length + 1) c' false) := Lib.hid (by rw [hlN2]; rfl)
            clear hlN2
            go_wp2_with fail
            go_ret
            have hle2 : bs.length ≤ 4096 := by rw [HB.out]; omega
            have hNn : nW bs.length = N := by have := HRL.out; rw [len_recW] at this; exact this
            have hO2 : Fresh base 106 (w6.setCell ⟨a, 4, none⟩ (.int .i64 ((x.left : Int) - (N : Int)))) (some ⟨a, 0, none⟩) 6 6 (arObj (some ⟨a, 0, none⟩) d ⟨x.L ++ [bs], x.torn, x.left - N⟩ A' (ps.length + 1) c' false) := by
              rw [← hob.out]; exact hO
            have hlen : (ps ++ [(⟨q, n1, cq, bs⟩ : Pb)]).length = ps.length + 1 := by simp
            refine ⟨rfl, A', c', ps ++ [⟨q, n1, cq, bs⟩], ⟨hG.dr.other6 y (Ne.symm hA4.ap) (Ne.symm hA4.ab) (Ne.symm hA4.ad), by rw [hlen]; exact hO2, ⟨?_, fun r hr => ?_⟩, by simp [h.is], ?_, h.many⟩, ?_, ?_, .inr ⟨_, rfl, (hG.new.stay fun k hk hlt => y.keep k hlt (fun e => hG.new.far hG.obj (by decide) (e ▸ hk)) (fun e => hG.new.far hG.obj (by decide) (e ▸ hk))).lower hB13.size⟩⟩
            · rw [hlen]
              exact hG.row.stay fun k hk hlt => y.keep k hlt (fun e => hG.row.far hG.obj (by decide) (e ▸ hk)) (fun e => hG.row.far hG.obj (by decide) (e ▸ hk))
            · exact (hG.each r hr).stay fun k hk hlt => y.keep k hlt (fun e => (hG.each r hr).far hG.obj (by decide) (e ▸ hk)) (fun e => (hG.each r hr).far hG.obj (by decide) (e ▸ hk))
            · have := h.ok.put bs hle2 (by rw [hNn]; exact hlN)
              rw [hNn] at this
              exact this
            · exact hB13.then_ (.inl rfl) (hG.but.then_ hG.own (But4.of_own y p b _))
            · rw [hlen]
              exact OwnOr.trans (.inl rfl) hB13.size hG.own
end
end Go.Proofs.Ythigepkcgijbbaa
