/-
  check.Spots, Steps and Check, for every program.
-/
import Derived.Test.YtangblcfdboghaaCheckGo
import Derived.ScopeJumps
import Derived.WalkMore
namespace Go.Proofs.Ytangblcfdboghaa
open Go.RowKit
set_option linter.unusedVariables false

theorem infoS : (Try.prog.info? 64).map (fun i => (i.zero, i.size, i.bytes)) = some (some (.agg (c3 (default, none, 0)).toArray), 3, 40) := by kernel_rfl
theorem results_3 {fn : Func} {p q r : Tmp} (h : fn.results = #[.tmp p, .tmp q, .tmp r]) (tmps : Array Value) (P : Program) (w : World) : (results fn tmps).run P w = .ok (.tuple #[tmps.getD p undef, tmps.getD q undef, tmps.getD r undef]) w := by
  simp [results, h]
theorem wpList_mkS {w : World} {ops : Array Oper} {rest : List Oper} {o : Oper} {a : Act} {Q : Exit → Act → World → Prop} (hg : o.guard = none) (x y : Operand) (hop : o.op = Op.makeSlice 58 x y)
    (n : Nat) (hl : a.eval x = .int .i64 (n : Int)) (hl2 : a.eval y = .int .i64 (n : Int)) (hn : n ≤ 100000)
    (hK : ∀ w', Fresh w.heap.size 64 w' (some ⟨w.heap.size, 0, none⟩) (3 * n) (3 * n) (trips (List.replicate n (default, none, 0))) → Below w.heap.size w w' → wpList Try.prog ops Q rest (a.put o.dst (.slice (some ⟨w.heap.size, 0, none⟩) n n)) w') :
    wpList Try.prog ops Q (o :: rest) a w := by
  obtain ⟨i0, hi, hz0, hz1, hz2⟩ := info_parts infoS
  refine wpList_make_full w hg x y 58 hop w.heap.size 64 i0 (.agg (c3 (default, none, 0)).toArray) 3 Try.underlying58 hi hz0 hz1 .i64 .i64 (n : Int) (n : Int) n hl hl2 rfl rfl (by rw [hz2]; omega) (by unfold maxLen; omega) (Nat.le_refl _) ?_
  intro w' h1 h2
  have e : (madeCells (Value.agg (c3 (default, none, 0)).toArray).cells (n * 3)).toList = trips (List.replicate n (default, none, 0)) := by
    apply List.ext_getElem?
    intro j
    by_cases hj : j < n * 3
    · have h3 := trips_get (List.replicate n (default, none, 0)) (j / 3) (j % 3) (default, none, 0) (by rw [List.getElem?_replicate, if_pos (by omega)]) (Nat.mod_lt _ (by decide))
      rw [show j / 3 * 3 + j % 3 = j from by omega] at h3
      rw [h3]
      have hm := Nat.mod_lt j (show 0 < 3 by decide)
      simp only [madeCells, Value.cells, Array.toList_map, Array.toList_range, List.getElem?_map, List.getElem?_range hj, Option.map_some, List.size_toArray, c3_len]
      rw [List.getElem?_eq_getElem (by rw [c3_len]; exact hm)]
      simp [c3_len, hm]
    · rw [List.getElem?_eq_none (by simp [madeCells]; omega), List.getElem?_eq_none (by rw [len_trips]; simp; omega)]
  rw [e] at h1
  refine hK w' ?_ ((Below.refl _ _).grown h2 (Nat.le_refl _) (by simp))
  rcases h1.2 with ⟨hv, _⟩ | ⟨g, cap, cur, hv, hbg, hh, _, hm, hs, ht⟩
  · simp at hv
  · simp only [Value.slice.injEq, Option.some.injEq, Addr.mk.injEq, and_true, true_and] at hv
    obtain ⟨rfl, rfl⟩ := hv
    have ec : cur.toList = trips (List.replicate n (default, none, 0)) := by
      rw [← ht]
      exact (List.take_of_length_le (by simp [hs])).symm
    exact Fresh.of_block (by rw [hh, ← ec]) hbg (by rw [len_trips, List.length_replicate]) (by unfold maxLen; omega)

/-- What Spots answers. -/
def SpotsOut (p : Pg) (w : World) (e : Ending) (w' : World) : Prop :=
  Below w.heap.size w w' ∧ match spotsF p with
    | .ok l => ∃ g, e = .returned (.tuple #[.slice (some ⟨g, 0, none⟩) l.length l.length, .int .i64 0, .int .i64 0]) ∧ SpAt w.heap.size g w' l
    | .error x => e = .returned (.tuple #[.slice none 0 0, .int .i64 (x.1 : Int), .int .i64 (x.2 : Int)])
theorem SpotsOut.err {p : Pg} {w w' : World} {e : Ending} {k er : Nat} (h : spotsF p = .error (k, er)) (hb : Below w.heap.size w w') (he : e = .returned (.tuple #[.slice none 0 0, .int .i64 (k : Int), .int .i64 (er : Int)])) : SpotsOut p w e w' := by
  refine ⟨hb, ?_⟩
  rw [h]
  exact he
theorem SpotsOut.ok {p : Pg} {w w' : World} {e : Ending} {l : List Sp} {g : Nat} (h : spotsF p = .ok l) (hb : Below w.heap.size w w') (he : e = .returned (.tuple #[.slice (some ⟨g, 0, none⟩) l.length l.length, .int .i64 0, .int .i64 0])) (hs : SpAt w.heap.size g w' l) : SpotsOut p w e w' := by
  refine ⟨hb, ?_⟩
  rw [h]
  exact ⟨g, he, hs⟩
theorem goF_err {p : Pg} {l : List Sp} {k er : Nat} (h : goF p l k = .error er) : er = 140 ∨ er = 141 := by
  unfold goF at h
  split at h
  · cases h
  · split at h
    · split at h
      · cases h
      · injection h with h
        exact .inl h.symm
    · split at h
      · injection h with h
        exact .inr h.symm
      · split at h
        · injection h with h
          exact .inl h.symm
        · split at h
          · injection h with h
            exact .inl h.symm
          · cases h
theorem goF_len {p : Pg} {l l' : List Sp} {k : Nat} (h : goF p l k = .ok l') : l'.length = l.length := by
  unfold goF at h
  split at h
  · injection h with h
    rw [h]
  · split at h
    · split at h
      · injection h with h
        rw [h]
      · cases h
    · split at h
      · cases h
      · split at h
        · cases h
        · split at h
          · cases h
          · rename_i hc
            injection h with h
            rw [← h]
            exact comes_len hc
theorem trips_start (n : Nat) : trips ((⟨true, [], 0⟩, none, 0) :: List.replicate n (default, none, 0)) = (trips (List.replicate (n + 1) (default, none, 0))).set 0 (.bool true) := by
  rw [List.replicate_succ, trips_cons, trips_cons]
  rfl
def SpJ (m : Pm) (gc M : Nat) (w : World) (a' : Act) (w' : World) : Prop := ∃ (g k : Nat) (l : List Sp) (u7 u8 u9 u10 u11 u12 u13 u14 u15 u16 u17 u18 u19 u20 u21 u22 u23 u24 u25 u26 u27 u28 u29 u30 u31 u32 u33 : Value), a' = { tmps := #[.agg m.cells.toArray, .pointer (some ⟨gc, 0, none⟩), .slice none 0 0, .int .i64 0, .int .i64 0, .slice (some ⟨g, 0, none⟩) M M, .int .i64 (k : Int), u7, u8, u9, u10, u11, u12, u13, u14, u15, u16, u17, u18, u19, u20, u21, u22, u23, u24, u25, u26, u27, u28, u29, u30, u31, u32, u33], defers := [] } ∧
  SpAt w.heap.size g w' l ∧ Fresh w.heap.size 26 w' (some ⟨gc, 0, none⟩) 4 4 m.cells ∧ Below w.heap.size w w' ∧ k ≤ m.ni ∧ Low k l ∧ l.length = M ∧ spRun m.p (M - k) k l = spotsF m.p
def spMu (M : Nat) (a : Act) (w : World) : Nat := M - (intOf (a.tmps.getD 6 undef)).toNat
set_option maxHeartbeats 8000000 in
set_option maxRecDepth 1000000 in
theorem Spots_any (m : Pm) (w : World) (hm : PmAt w.heap.size w m) :
    Calls Try.prog 29 #[.agg m.cells.toArray] w (SpotsOut m.p w) := by
  obtain ⟨r, hr⟩ : ∃ r, m.p.right = r := ⟨_, rfl⟩
  have hRI : ∀ w', Below w.heap.size w w' → Calls Try.prog 26 #[.agg m.cells.toArray] w' fun e w2 => e = .returned (.bool r) ∧ Below w'.heap.size w' w2 := fun w' hw => Right_ok m w' (hm.step hw) r hr
  have HRI := Lib.hid hRI
  clear hRI
  cases r with
  | false =>
    have HS : Hid (spotsF m.p = .error (0, 130)) := Lib.hid (by simp [spotsF, hr])
    clear hr
    go_enter Try.func29, Try.ntmps29
    go_wp2_with (first
      | (with_reducible refine wpList_box (o := ⟨some 1, _, _, _, _, _⟩) rfl (.tmp 0) 26 rfl m.cells rfl 4 (pm4 m) (by decide) ?_; intro gc w1 hgc hC hB1))
    go_step3
    go_wp2_with (first
      | (with_reducible refine wpList_load (o := ⟨some 8, _, _, _, _, _⟩) rfl (.tmp 1) 26 rfl gc 0 _ rfl m.cells 4 (pm4 m) aggCode hC.sees ?_)
      | (go_at_call 26; refine (HRI.out _ hB1).mono ?_; rintro e w2 ⟨rfl, hB2⟩; have hB2b := Below.then_ hB1 hB2; have hC2 := hC.below hB2))
    (try simp only [Exit.inBlock, Exit.then])
    (try rw [Exit.noGoto_ret])
    refine bodyPost_ret (results_3 rfl _ _ _) rfl ?_
    exact SpotsOut.err HS.out hB2b rfl
  | true =>
    have hni : m.ni ≤ 2000 := by
      have := hr
      simp only [Pg.right, insOk, Bool.and_eq_true, decide_eq_true_eq] at this
      rw [← hm.ni]
      exact this.2.2.2.1.2
    obtain ⟨M, hM⟩ : ∃ M, m.ni + 1 = M := ⟨_, rfl⟩
    have hM2 : (m.ni : Int) + 1 = (M : Int) := by omega
    have hM3 : M ≤ 2001 := by omega
    have hM4 : IntKind.i64.wrap (M : Int) = (M : Int) := by rw [IntKind.wrap_i64]; omega
    have hM5 : 0 < M := by omega
    have hrun : spRun m.p M 0 (spStart m.ni) = spotsF m.p := by
      unfold spotsF
      rw [if_pos hr, hm.ni, hM]
    have HRUN := Lib.hid hrun
    have HM := Lib.hid hM
    have HR := Lib.hid hr
    clear hrun hM hr
    go_enter Try.func29, Try.ntmps29
    go_wp2_with (first
      | (with_reducible refine wpList_box (o := ⟨some 1, _, _, _, _, _⟩) rfl (.tmp 0) 26 rfl m.cells rfl 4 (pm4 m) (by decide) ?_; intro gc w1 hgc hC hB1))
    refine wp_scope_jumps 0 (SpJ m gc M w) (spMu M) rfl ?_ ?_
    · go_wp2_with (first
        | (with_reducible refine wpList_load (o := ⟨some 8, _, _, _, _, _⟩) rfl (.tmp 1) 26 rfl gc 0 _ rfl m.cells 4 (pm4 m) aggCode hC.sees ?_)
        | (go_at_call 26; refine (HRI.out _ hB1).mono ?_; rintro e w2 ⟨rfl, hB2⟩; have hB2b := Below.then_ hB1 hB2; have hC2 := hC.below hB2; have u3 := hC2.cell_ (k := 3) (u := .slice m.ai m.ni m.ci) rfl)
        | (with_reducible refine wpList_mkS (o := ⟨some 15, _, _, _, _, _⟩) rfl (.tmp 14) (.tmp 14) rfl M rfl rfl (by omega) ?_; intro w3 hFS hB3; have hB03 := Below.then_ hB2b hB3)
        | (
            with_reducible refine wpList_store1 rfl rfl (.tmp 18) (.const (.bool true)) 4 rfl w2.heap.size 0 w.heap.size 64 (3 * M) (trips (List.replicate M (default, none, 0))) (.bool true) ?_ ?_ ?_ ?_ ?_ ?_ ?_ w ?_ ?_ ?_
            · rfl
            · rfl
            · rfl
            · rfl
            · kernel_rfl
            · exact hFS.lower hB2b.size
            · omega
            · exact hB03
            · exact hB2b.size
            intro w4 hF4 hB4 hk4 hs4))

      go_step3
      have hgcl : gc < w2.heap.size := hC2.lt_size
      have hgw : w.heap.size ≤ w2.heap.size := hB2b.size
      obtain ⟨g, hgg⟩ : ∃ g, w2.heap.size = g := ⟨_, rfl⟩
      rw [hgg] at hgw hF4 hgcl ⊢
      have hS : SpAt w.heap.size g w4 (spStart m.ni) := by
        refine ⟨(⟨true, [], 0⟩, none, 0) :: List.replicate m.ni (default, none, 0), ?_, ?_, ?_⟩
        · simp [spStart]
        · rw [start_len, HM.out, trips_start, HM.out]
          exact hF4
        · intro x hx
          rcases List.mem_cons.1 hx with rfl | hx
          · exact fresh_nil _ _ _
          · obtain rfl := (List.mem_replicate.1 hx).2
            exact fresh_nil _ _ _
      have hC4 : Fresh w.heap.size 26 w4 (some ⟨gc, 0, none⟩) 4 4 m.cells := (hC2.below hB3).other (show gc ≠ g by omega) (fun k hk => hk4 k (by rw [hgg]; exact hk))
      have hBw := hB4
      have hlow := start_low m.ni
      have hll : (spStart m.ni).length = m.ni + 1 := start_len m.ni
      have hrn : spRun m.p (M - 0) 0 (spStart m.ni) = spotsF m.p := HRUN.out
      have hk : 0 ≤ m.ni := Nat.zero_le _
      revert hS hlow hll hrn
      generalize spStart m.ni = l
      intro hS hlow hll hrn
      clear hF4 hFS hB3 hB2 hB2b hC hB1 u3 hk4 hs4 hgg hC2 hB4
      have hgo := goOver_any m w w4 g 0 l (hm.below hBw) HR.out hBw hgw hS hll hk hlow
      rw [hll, HM.out] at hgo
      obtain ⟨res, hres⟩ : ∃ res, goF m.p l 0 = res := ⟨_, rfl⟩
      unfold GoOut at hgo
      rw [hres] at hgo
      have HRES := Lib.hid hres
      have hkM : 0 < M := by have := HM.out; omega
      have hsp : spRun m.p (M - 0) 0 l = match goF m.p l 0 with
          | .error e => .error (0, e)
          | .ok l' => spRun m.p (M - 0 - 1) (0 + 1) l' := by
        rw [show M - 0 = (M - 0 - 1) + 1 from by omega]
        rfl
      rw [hres] at hsp
      clear hres
      cases res with
      | error er =>
        simp only at hsp hgo
        have her := goF_err HRES.out
        have hne : ((er : Int) != 0) = true := by simp; omega
        have hne2 : ((er : Int) == 0) = false := by simp; omega
        have HERR := Lib.hid (hrn.symm.trans hsp)
        clear hsp hrn her
        go_wp2_with (first
          | (with_reducible refine wpList_load (o := ⟨some 19, _, _, _, _, _⟩) rfl (.tmp 1) 26 rfl gc 0 _ rfl m.cells 4 (pm4 m) aggCode hC4.sees ?_)
          | (go_at_call 59; refine hgo.mono ?_; rintro e w5 ⟨hbut, rfl⟩))
        simp only [Exit.jump]
        refine bodyPost_ret (results_3 rfl _ _ _) rfl ?_
        exact SpotsOut.err HERR.out (hbut.below hBw hgw) rfl
      | ok l2 =>
        simp only at hsp hgo
        have hrn5 : spRun m.p (M - (0 + 1)) (0 + 1) l2 = spotsF m.p := by
          rw [← hrn, hsp]
          rfl
        have hlow5 := go_low hlow HRES.out
        have hll5 : l2.length = M := ((goF_len HRES.out).trans hll).trans HM.out
        clear hsp hrn
        have hlg : g ≠ gc := by
          intro e
          obtain ⟨ys, hys⟩ := hS.block
          rw [e, hC4.block.1] at hys
          simp at hys
        by_cases hlast : 0 + 1 < M
        · have hd : decide ((0 : Int) + 1 < (M : Int)) = true := by simp; omega
          have hd' : decide ((1 : Int) < (M : Int)) = true := by simp; omega
          go_wp2_with (first
            | (with_reducible refine wpList_load (o := ⟨some 19, _, _, _, _, _⟩) rfl (.tmp 1) 26 rfl gc 0 _ rfl m.cells 4 (pm4 m) aggCode hC4.sees ?_)
            | (go_at_call 59; refine hgo.mono ?_; rintro e w5 ⟨hbut, rfl, hS5⟩; have hC5 := hC4.but1 hbut (Ne.symm hlg); have hBw5 := hbut.below hBw hgw))
          go_step3
          exact ⟨rfl, g, 1, l2, _, _, _, _, _, _, _, _, _, _, _, _, _, _, _, _, _, _, _, _, _, _, _, _, _, _, _, rfl, hS5, hC5, hBw5, by omega, hlow5, hll5, hrn5⟩
        · have hd : decide ((0 : Int) + 1 < (M : Int)) = false := by simp; omega
          have hd' : decide ((1 : Int) < (M : Int)) = false := by simp; omega
          have HOK : Hid (spotsF m.p = .ok l2) := Lib.hid (by
            rw [← hrn5, show M - (0 + 1) = 0 from by omega]
            rfl)
          have HL := Lib.hid hll5
          clear hrn5 hll5
          go_wp2_with (first
            | (with_reducible refine wpList_load (o := ⟨some 19, _, _, _, _, _⟩) rfl (.tmp 1) 26 rfl gc 0 _ rfl m.cells 4 (pm4 m) aggCode hC4.sees ?_)
            | (go_at_call 59; refine hgo.mono ?_; rintro e w5 ⟨hbut, rfl, hS5⟩))
          simp only [Exit.jump]
          refine bodyPost_ret (results_3 rfl _ _ _) rfl ?_
          exact SpotsOut.ok HOK.out (hbut.below hBw hgw) (by rw [HL.out]; rfl) hS5
    · rintro a' w' ⟨g, k, l, u7, u8, u9, u10, u11, u12, u13, u14, u15, u16, u17, u18, u19, u20, u21, u22, u23, u24, u25, u26, u27, u28, u29, u30, u31, u32, u33, rfl, hS, hC4, hBw, hk, hlow, hll0, hrn⟩
      have hgw : w.heap.size ≤ g := hS.lt.1
      have hll : l.length = m.ni + 1 := hll0.trans HM.out.symm
      have hgo := goOver_any m w w' g k l (hm.below hBw) HR.out hBw hgw hS hll hk hlow
      rw [hll, HM.out] at hgo
      obtain ⟨res, hres⟩ : ∃ res, goF m.p l k = res := ⟨_, rfl⟩
      unfold GoOut at hgo
      rw [hres] at hgo
      have HRES := Lib.hid hres
      have hkM : k < M := by have := HM.out; omega
      have hsp : spRun m.p (M - k) k l = match goF m.p l k with
          | .error e => .error (k, e)
          | .ok l' => spRun m.p (M - k - 1) (k + 1) l' := by
        rw [show M - k = (M - k - 1) + 1 from by omega]
        rfl
      rw [hres] at hsp
      clear hres
      cases res with
      | error er =>
        simp only at hsp hgo
        have her := goF_err HRES.out
        have hne : ((er : Int) != 0) = true := by simp; omega
        have hne2 : ((er : Int) == 0) = false := by simp; omega
        have HERR := Lib.hid (hrn.symm.trans hsp)
        clear hsp hrn her
        go_wp2_with (first
          | (with_reducible refine wpList_load (o := ⟨some 19, _, _, _, _, _⟩) rfl (.tmp 1) 26 rfl gc 0 _ rfl m.cells 4 (pm4 m) aggCode hC4.sees ?_)
          | (go_at_call 59; refine hgo.mono ?_; rintro e w5 ⟨hbut, rfl⟩))
        simp only [Exit.jump]
        refine bodyPost_ret (results_3 rfl _ _ _) rfl ?_
        exact SpotsOut.err HERR.out (hbut.below hBw hgw) rfl
      | ok l2 =>
        simp only at hsp hgo
        have hrn5 : spRun m.p (M - (k + 1)) (k + 1) l2 = spotsF m.p := by
          rw [← hrn, hsp]
          rfl
        have hlow5 := go_low hlow HRES.out
        have hll5 : l2.length = M := ((goF_len HRES.out).trans hll).trans HM.out
        clear hsp hrn
        have hlg : g ≠ gc := by
          intro e
          obtain ⟨ys, hys⟩ := hS.block
          rw [e, hC4.block.1] at hys
          simp at hys
        by_cases hlast : k + 1 < M
        · have hd : decide ((k : Int) + 1 < (M : Int)) = true := by simp; omega
          go_wp2_with (first
            | (with_reducible refine wpList_load (o := ⟨some 19, _, _, _, _, _⟩) rfl (.tmp 1) 26 rfl gc 0 _ rfl m.cells 4 (pm4 m) aggCode hC4.sees ?_)
            | (go_at_call 59; refine hgo.mono ?_; rintro e w5 ⟨hbut, rfl, hS5⟩; have hC5 := hC4.but1 hbut (Ne.symm hlg); have hBw5 := hbut.below hBw hgw))
          go_step3
          exact ⟨rfl, ⟨g, k + 1, l2, _, _, _, _, _, _, _, _, _, _, _, _, _, _, _, _, _, _, _, _, _, _, _, _, _, _, _, rfl, hS5, hC5, hBw5, by omega, hlow5, hll5, hrn5⟩, by simp [spMu, intOf]; omega⟩
        · have hd : decide ((k : Int) + 1 < (M : Int)) = false := by simp; omega
          have HOK : Hid (spotsF m.p = .ok l2) := Lib.hid (by
            rw [← hrn5, show M - (k + 1) = 0 from by omega]
            rfl)
          have HL := Lib.hid hll5
          clear hrn5 hll5
          go_wp2_with (first
            | (with_reducible refine wpList_load (o := ⟨some 19, _, _, _, _, _⟩) rfl (.tmp 1) 26 rfl gc 0 _ rfl m.cells 4 (pm4 m) aggCode hC4.sees ?_)
            | (go_at_call 59; refine hgo.mono ?_; rintro e w5 ⟨hbut, rfl, hS5⟩))
          simp only [Exit.jump]
          refine bodyPost_ret (results_3 rfl _ _ _) rfl ?_
          exact SpotsOut.ok HOK.out (hbut.below hBw hgw) (by rw [HL.out]; rfl) hS5
end Go.Proofs.Ytangblcfdboghaa
