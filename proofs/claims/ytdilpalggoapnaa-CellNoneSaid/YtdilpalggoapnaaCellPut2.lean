/-
  What a Put answers, and does.
-/
import Derived.Test.YtdilpalggoapnaaCellPut
namespace Go.Proofs.Ytdilpalggoapnaa
open Go.RowKit
set_option linter.unusedVariables false

/-- What a Put makes of what is there. -/
def nextC (z : Co) (bs : List UInt8) : Co := ⟨(z.other : Int), z.t + 1, bs⟩
theorem coL_next (z : Co) (bs : List UInt8) (q : Option Addr) (c : Nat) : coL (nextC z bs) q c = [.int .i64 (z.other : Int), .int .i64 ((z.t : Int) + 1), .slice q bs.length c] := rfl
theorem nextC_ok {z : Co} (hz : z.Ok) {bs : List UInt8} (ht : z.t < 2147483648) (hb : bs.length ≤ 244) : (nextC z bs).Ok :=
  ⟨.inr (by have := Co.other_lt hz; show ((z.other : Nat) : Int) = 0 ∨ ((z.other : Nat) : Int) = 1; omega), by show z.t + 1 ≤ 2147483648; omega, hb, fun h => by exfalso; have h2 : ((z.other : Nat) : Int) = -1 := h; omega⟩
def putFacts (c base : Nat) (z : Co) (K : Option Addr) (ck : Nat) (bs : List UInt8) (A0 : Option Addr) (c0 : Nat) (k : Nat) (v : Value) (w : World) : Prop :=
  match k with
  | 0 => v = .pointer (some ⟨c, 0, none⟩)
  | 1 => v = .pointer (some ⟨c, 0, none⟩)
  | 2 => v = .pointer (some ⟨c, 2, none⟩)
  | 3 => v = .agg (coL z K ck).toArray
  | 4 => v = .int .i64 (z.other : Int)
  | 5 => v = .pointer (some ⟨c, 0, none⟩)
  | 6 => v = .pointer (some ⟨c, 0, none⟩)
  | 7 => v = .pointer (some ⟨c, 2, none⟩)
  | 8 => v = .pointer (some ⟨c, 3, none⟩)
  | 9 => v = .int .i64 (z.t : Int)
  | 10 => v = .int .i64 ((z.t : Int) + 1)
  | 11 => v = .slice A0 bs.length c0
  | 12 => ∃ q c, v = .slice q bs.length c ∧ Fresh base 5 w q bs.length c (cb bs)
  | 13 => ∃ q c, v = .agg (coL (nextC z bs) q c).toArray ∧ Fresh base 5 w q bs.length c (cb bs)
  | 14 => ∃ q, v = .pointer (some ⟨q, 0, none⟩) ∧ Fresh base 95 w (some ⟨q, 0, none⟩) 3 3 zero3
  | _ => True
theorem putFacts_stab (c base : Nat) (z : Co) (K : Option Addr) (ck : Nat) (bs : List UInt8) (A0 : Option Addr) (c0 : Nat) : ∀ k v w w', Below w.heap.size w w' → putFacts c base z K ck bs A0 c0 k v w → putFacts c base z K ck bs A0 c0 k v w' := by
  intro k v w w' hb h
  unfold putFacts at *
  split at h <;> first | exact h | (obtain ⟨q, h1, h2⟩ := h; exact ⟨q, h1, h2.below hb⟩) | (obtain ⟨q, c, h1, h2⟩ := h; exact ⟨q, c, h1, h2.below hb⟩) | trivial
section
variable {w w' : World} {base c d p b f : Nat} {over : Bool} {S S' : Fl} {k k' : Co}
set_option maxHeartbeats 4000000 in
set_option maxRecDepth 100000 in
theorem Put_any (h : CeAt base w c d p b f S k over) (hbase : base ≤ w.heap.size) (A0 : Option Addr) (c0 : Nat) (bs : List UInt8) (hin : Off c c w A0 (cb bs)) (r : Nat) (over' : Bool) (hr : S.cput f k over bs = (S', r, k', over')) :
    Calls Try.prog 41 #[.pointer (some ⟨c, 0, none⟩), .slice A0 bs.length c0] w fun e w' => e = .returned (.int .i64 (r : Int)) ∧ CeAt base w' c d p b f S' k' over' ∧ But3 c p b w w' := by
  have hI := isCell_any h
  obtain ⟨K0, ck0, hrow0, hk0⟩ := h.row
  have c5 : w.cell? ⟨c, 5, none⟩ = some (.bool over) := hrow0.cell rfl
  cases over with
  | true =>
    obtain ⟨rfl, rfl, rfl, rfl⟩ : S = S' ∧ 60 = r ∧ k = k' ∧ true = over' := by unfold Fl.cput at hr; simpa only [Prod.mk.injEq] using hr
    clear hr
    go_enter Try.func41, Try.ntmps41
    go_wp2_with fail
    refine hI.mono ?_
    rintro e w1 ⟨rfl, rfl⟩
    go_wp2_with fail
    go_ret
    exact ⟨rfl, h, But3.of_below (Below.refl _ _) c p b⟩
  | false =>
    unfold Fl.cput at hr
    simp only at hr
    by_cases hlen : 244 < bs.length
    · rw [if_pos hlen] at hr
      obtain ⟨rfl, rfl, rfl, rfl⟩ : S = S' ∧ 3 = r ∧ k = k' ∧ false = over' := by simpa only [Prod.mk.injEq] using hr
      clear hr
      have hl : decide ((244 : Int) < (bs.length : Int)) = true := by simp; omega
      go_enter Try.func41, Try.ntmps41
      go_wp2_with fail
      refine hI.mono ?_
      rintro e w1 ⟨rfl, rfl⟩
      go_wp2_with fail
      go_ret
      exact ⟨rfl, h, But3.of_below (Below.refl _ _) c p b⟩
    · rw [if_neg hlen] at hr
      have hbl : bs.length ≤ 244 := by omega
      have hl : decide ((244 : Int) < (bs.length : Int)) = false := by simp; omega
      cases hd : S.down with
      | true =>
        rw [hd] at hr
        simp only at hr
        have hLk := look_no h hd
        by_cases hfull : 2147483648 ≤ k.t
        · rw [if_pos hfull] at hr
          obtain ⟨rfl, rfl, rfl, rfl⟩ : S = S' ∧ 5 = r ∧ k = k' ∧ false = over' := by simpa only [Prod.mk.injEq] using hr
          have hf : decide ((2147483648 : Int) ≤ (k.t : Int)) = true := by simp; omega
          clear hr hd hfull
          go_enter Try.func41, Try.ntmps41
          go_wp2_with fail
          refine hI.mono ?_
          rintro e w1 ⟨rfl, rfl⟩
          go_wp2_with fail
          refine hLk.mono ?_
          rintro e w2 ⟨rfl, hB2⟩
          have c3 : w2.cell? ⟨c, 3, none⟩ = some (.int .i64 (k.t : Int)) := (hrow0.below hB2).cell rfl
          go_wp2_with fail
          go_ret
          exact ⟨rfl, h.below hB2, But3.of_below hB2 c p b⟩
        · rw [if_neg hfull] at hr
          obtain ⟨rfl, rfl, rfl, rfl⟩ : S = S' ∧ 40 = r ∧ k = k' ∧ true = over' := by simpa only [Prod.mk.injEq] using hr
          have hf : decide ((2147483648 : Int) ≤ (k.t : Int)) = false := by simp; omega
          have ew : IntKind.i64.wrap ((k.t : Int) + 1) = (k.t : Int) + 1 := wrapI _ (by omega) (by omega)
          clear hr hd
          go_enter Try.func41, Try.ntmps41
          go_wp2_with fail
          refine hI.mono ?_
          rintro e w1 ⟨rfl, rfl⟩
          go_wp2_with fail
          refine hLk.mono ?_
          rintro e w2 ⟨rfl, hB2⟩
          have hT2 := h.below hB2
          obtain ⟨K, ck, hrow2, hk2⟩ := hT2.row
          have hin2 := (hin.step (But.of_below hB2)).sees
          have c3 : w2.cell? ⟨c, 3, none⟩ = some (.int .i64 (k.t : Int)) := hrow2.cell rfl
          obtain ⟨z, rfl⟩ : ∃ z, z = k := ⟨k, rfl⟩
          go_wp2_with fail
          (try simp only [Act.put, List.setIfInBounds_toArray, List.set_cons_succ, List.set_cons_zero])
          refine region_all_tail 15 (putFacts c w2.heap.size z K ck bs A0 c0) (by kernel_rfl) (by kernel_rfl) (by kernel_rfl) (putFacts_stab _ _ _ _ _ _ _ _) ?_ ?_
          · intro w0 hb0
            have hsz0 : w2.heap.size ≤ w0.heap.size := hb0.size
            simp only [List.take_succ_cons, List.take_zero]
            refine ⟨?_, ?_, ?_, ?_, ?_, ?_, ?_, ?_, ?_, ?_, ?_, ?_, ?_, ?_, ?_, trivial⟩
            all_goals intro listed a1 w' hk hd
            · have f0_ : a1.eval (.tmp 0) = .pointer (some ⟨c, 0, none⟩) := hk.ev_old 0 (by kernel_rfl)
              have g0_ : a1.tmps[0]?.getD undef = .pointer (some ⟨c, 0, none⟩) := by simpa [Act.eval] using f0_
              exact stepOk_value rfl (v := .pointer (some ⟨c, 0, none⟩)) (by go_simp) rfl
            · obtain ⟨v0, e0, q0, rfl⟩ := hk.ev_new hd 0 25 (by kernel_rfl) rfl
              exact stepOk_value rfl (v := .pointer (some ⟨c, 0, none⟩)) (by go_simp) rfl
            · obtain ⟨v1, e1, q1, rfl⟩ := hk.ev_new hd 1 26 (by kernel_rfl) rfl
              exact stepOk_value rfl (v := .pointer (some ⟨c, 2, none⟩)) (by go_simp) rfl
            · obtain ⟨v2, e2, q2, rfl⟩ := hk.ev_new hd 2 27 (by kernel_rfl) rfl
              obtain ⟨v2, e2, q2, rfl⟩ := hk.ev_new hd 2 27 (by kernel_rfl) rfl
              have sx : Sees w' w'.heap.size (some ⟨c, 2, none⟩) (coL z K ck) := Sees.of_fresh ((hrow2.below hb0).below hk.below) 2 3
              exact stepOk_value rfl (run_load_agg (.tmp 27) 95 rfl e2 (coL z K ck) 3 rfl (by kernel_rfl) sx) rfl
            · obtain ⟨v3, e3, q3, rfl⟩ := hk.ev_new hd 3 28 (by kernel_rfl) rfl
              refine stepOk_enter rfl (f := 92) (args := #[.agg (coL z K ck).toArray]) (by go_simp) ?_
              refine (other_any (w := w') z hT2.ok K ck).mono ?_
              rintro e w5 ⟨rfl, hB5⟩
              exact ⟨_, rfl, rfl, hB5⟩
            · have f0_ : a1.eval (.tmp 0) = .pointer (some ⟨c, 0, none⟩) := hk.ev_old 0 (by kernel_rfl)
              have g0_ : a1.tmps[0]?.getD undef = .pointer (some ⟨c, 0, none⟩) := by simpa [Act.eval] using f0_
              exact stepOk_value rfl (v := .pointer (some ⟨c, 0, none⟩)) (by go_simp) rfl
            · obtain ⟨v5, e5, q5, rfl⟩ := hk.ev_new hd 5 30 (by kernel_rfl) rfl
              exact stepOk_value rfl (v := .pointer (some ⟨c, 0, none⟩)) (by go_simp) rfl
            · obtain ⟨v6, e6, q6, rfl⟩ := hk.ev_new hd 6 31 (by kernel_rfl) rfl
              exact stepOk_value rfl (v := .pointer (some ⟨c, 2, none⟩)) (by go_simp) rfl
            · obtain ⟨v7, e7, q7, rfl⟩ := hk.ev_new hd 7 32 (by kernel_rfl) rfl
              exact stepOk_value rfl (v := .pointer (some ⟨c, 3, none⟩)) (by go_simp) rfl
            · obtain ⟨v8, e8, q8, rfl⟩ := hk.ev_new hd 8 33 (by kernel_rfl) rfl
              have c1 : w'.cell? ⟨c, 3, none⟩ = some (.int .i64 (z.t : Int)) := ((hrow2.below hb0).below hk.below).cell rfl
              exact stepOk_value rfl (v := .int .i64 (z.t : Int)) (by go_simp) rfl
            · obtain ⟨v9, e9, q9, rfl⟩ := hk.ev_new hd 9 34 (by kernel_rfl) rfl
              exact stepOk_value rfl (v := .int .i64 ((z.t : Int) + 1)) (by go_simp; try exact ew) rfl
            · have f1_ : a1.eval (.tmp 1) = .slice A0 bs.length c0 := hk.ev_old 1 (by kernel_rfl)
              have g1_ : a1.tmps[1]?.getD undef = .slice A0 bs.length c0 := by simpa [Act.eval] using f1_
              exact stepOk_value rfl (v := .slice A0 bs.length c0) (by go_simp) rfl
            · obtain ⟨v11, e11, q11, rfl⟩ := hk.ev_new hd 11 36 (by kernel_rfl) rfl
              refine stepOk_enter rfl (f := 93) (args := #[.slice A0 bs.length c0]) (by go_simp) ?_
              refine (Clone_any A0 c0 bs.length bs w' ((hin2.step hb0).step hk.below) rfl (by omega)).mono ?_
              rintro e w5 ⟨q, cq, rfl, hq, hB5⟩
              exact ⟨_, rfl, ⟨q, cq, rfl, hq.lower (Nat.le_trans hsz0 hk.below.size)⟩, hB5⟩
            · obtain ⟨v4, e4, q4, rfl⟩ := hk.ev_new hd 4 29 (by kernel_rfl) rfl
              obtain ⟨v10, e10, q10, rfl⟩ := hk.ev_new hd 10 35 (by kernel_rfl) rfl
              obtain ⟨v12, e12, q12, hv12⟩ := hk.ev_new hd 12 37 (by kernel_rfl) rfl
              obtain ⟨q, cq, rfl, hq⟩ := hv12
              refine stepOk_value rfl (v := .agg (coL (nextC z bs) q cq).toArray) ?_ ⟨q, cq, rfl, hq⟩
              rw [coL_next]
              go_simp
            · refine stepOk_run rfl (v := .pointer (some ⟨w'.heap.size, 0, none⟩)) (w' := w'.alloc (.cells zero3.toArray 95 (0, 0))) ?_ ⟨_, rfl, (Fresh.new w' 95 zero3 3 rfl (by decide)).lower (Nat.le_trans hsz0 hk.below.size)⟩ (below_alloc _ _)
              · simp only [execOp]
                rw [Sem.run_bind, run_alloc_zero 95 zero3 (by kernel_rfl)]
                rfl
          intro a1 w6 hb6 hp
          obtain ⟨v0, p0, v1, p1, v2, p2, v3, p3, v4, p4, v5, p5, v6, p6, v7, p7, v8, p8, v9, p9, v10, p10, v11, p11, v12, p12, v13, p13, v14, p14, rfl⟩ := hp
          simp only [putFacts] at p0 p1 p2 p3 p4 p5 p6 p7 p8 p9 p10 p11 p12 p13 p14
          subst p0 p1 p2 p3 p4 p5 p6 p7 p8 p9 p10 p11
          obtain ⟨q1, cq1, rfl, -⟩ := p12
          obtain ⟨q, cq, rfl, hq⟩ := p13
          obtain ⟨g, rfl, hg6⟩ := p14
          have hT6 := hT2.below hb6
          have hgs := hg6.block.2
          simp only [List.drop_succ_cons, List.drop_zero, Act.put, List.setIfInBounds_toArray, List.set_cons_succ, List.set_cons_zero]
          go_wp2_with (with_reducible refine wpList_storeN rfl rfl (.tmp 6) (.tmp 38) 95 rfl g 0 w2.heap.size 95 3 zero3 (coL (nextC z bs) q cq) rfl rfl 3 rfl (by kernel_rfl) hg6 (by omega) (coL_one _ _ _) ?_; intro w7 hF7 k1 k2 k3 k4 k5; have hy : But g g w6 w7 := ⟨k1, k2, k3, k4, fun k _ hk _ => k5 k hk⟩; have hT7 := hT6.aside hg6 (by decide) (by decide) (by decide) (by decide) (by decide) hy; obtain ⟨K7, ck7, hrow7, hk7⟩ := hT7.row; have c57 : w7.cell? ⟨c, 5, none⟩ = some (.bool false) := hrow7.cell rfl; have z57 : w7.frozen? ⟨c, 5, none⟩ = false := hrow7.frozenAt)
          go_ret
          obtain ⟨r1, r2⟩ := hT7.setOver true
          have hB26 := Below.then_ hB2 hb6
          have hc7 : But c c w1 w7 := (But.of_below hB26).fresh (Nat.le_trans hB2.size hgs) k1 k2 k3 k4 k5
          exact ⟨rfl, r1, But3.of_own (hc7.then_ r2) p b⟩
      | false =>
        rw [hd] at hr
        simp only at hr
        obtain ⟨z, hz⟩ : ∃ z, S.clook f = z := ⟨_, rfl⟩
        have hzo : z.Ok := by rw [← hz]; exact clook_ok S f
        have hLk := look_yes h hd hbase z hz
        rw [hz] at hr
        by_cases hfull : 2147483648 ≤ z.t
        · rw [if_pos hfull] at hr
          obtain ⟨rfl, rfl, rfl, rfl⟩ : S = S' ∧ 5 = r ∧ z = k' ∧ false = over' := by simpa only [Prod.mk.injEq] using hr
          have hf : decide ((2147483648 : Int) ≤ (z.t : Int)) = true := by simp; omega
          clear hr hd hfull hz
          go_enter Try.func41, Try.ntmps41
          go_wp2_with fail
          refine hI.mono ?_
          rintro e w1 ⟨rfl, rfl⟩
          go_wp2_with fail
          refine hLk.mono ?_
          rintro e w2 ⟨rfl, hT2, hC2⟩
          obtain ⟨K, ck, hrow2, hk2⟩ := hT2.row
          have c3 : w2.cell? ⟨c, 3, none⟩ = some (.int .i64 (z.t : Int)) := hrow2.cell rfl
          go_wp2_with fail
          go_ret
          exact ⟨rfl, hT2, But3.of_own hC2 p b⟩
        · rw [if_neg hfull] at hr
          have hf : decide ((2147483648 : Int) ≤ (z.t : Int)) = false := by simp; omega
          have ew : IntKind.i64.wrap ((z.t : Int) + 1) = (z.t : Int) + 1 := wrapI _ (by omega) (by omega)
          obtain ⟨T, q0, hq0⟩ : ∃ T q, S.cwrite f z.other (z.t + 1) bs = (T, q) := ⟨_, _, rfl⟩
          rw [hq0] at hr
          have hno := nextC_ok hzo (by omega) hbl
          have HNO := Lib.hid hno
          have HWr := Lib.hid (fun (w' : World) (y : CeAt base w' c d p b f S z false) (hb : base ≤ w'.heap.size) (q : Option Addr) (cq : Nat) (hq : Fresh base 5 w' q bs.length cq (cb bs)) => cwrite_any (x := nextC z bs) (σ := z.other) y hb rfl (Co.other_lt hzo) (by show z.t + 1 ≤ 2147483648; omega) hbl hq q0 hq0)
          have HR := Lib.hid hr
          clear hr hd hz hq0 hfull
          go_enter Try.func41, Try.ntmps41
          go_wp2_with fail
          refine hI.mono ?_
          rintro e w1 ⟨rfl, rfl⟩
          go_wp2_with fail
          refine hLk.mono ?_
          rintro e w2 ⟨rfl, hT2, hC2⟩
          have hin2 := (hin.step hC2).sees
          obtain ⟨K, ck, hrow2, hk2⟩ := hT2.row
          have c3 : w2.cell? ⟨c, 3, none⟩ = some (.int .i64 (z.t : Int)) := hrow2.cell rfl
          have hbase2 := Nat.le_trans hbase hC2.size
          clear hLk hI hin
          go_wp2_with fail
          (try simp only [Act.put, List.setIfInBounds_toArray, List.set_cons_succ, List.set_cons_zero])
          refine region_all_tail 15 (putFacts c w2.heap.size z K ck bs A0 c0) (by kernel_rfl) (by kernel_rfl) (by kernel_rfl) (putFacts_stab _ _ _ _ _ _ _ _) ?_ ?_
          · intro w0 hb0
            have hsz0 : w2.heap.size ≤ w0.heap.size := hb0.size
            simp only [List.take_succ_cons, List.take_zero]
            refine ⟨?_, ?_, ?_, ?_, ?_, ?_, ?_, ?_, ?_, ?_, ?_, ?_, ?_, ?_, ?_, trivial⟩
            all_goals intro listed a1 w' hk hd
            · have f0_ : a1.eval (.tmp 0) = .pointer (some ⟨c, 0, none⟩) := hk.ev_old 0 (by kernel_rfl)
              have g0_ : a1.tmps[0]?.getD undef = .pointer (some ⟨c, 0, none⟩) := by simpa [Act.eval] using f0_
              exact stepOk_value rfl (v := .pointer (some ⟨c, 0, none⟩)) (by go_simp) rfl
            · obtain ⟨v0, e0, q0, rfl⟩ := hk.ev_new hd 0 25 (by kernel_rfl) rfl
              exact stepOk_value rfl (v := .pointer (some ⟨c, 0, none⟩)) (by go_simp) rfl
            · obtain ⟨v1, e1, q1, rfl⟩ := hk.ev_new hd 1 26 (by kernel_rfl) rfl
              exact stepOk_value rfl (v := .pointer (some ⟨c, 2, none⟩)) (by go_simp) rfl
            · obtain ⟨v2, e2, q2, rfl⟩ := hk.ev_new hd 2 27 (by kernel_rfl) rfl
              obtain ⟨v2, e2, q2, rfl⟩ := hk.ev_new hd 2 27 (by kernel_rfl) rfl
              have sx : Sees w' w'.heap.size (some ⟨c, 2, none⟩) (coL z K ck) := Sees.of_fresh ((hrow2.below hb0).below hk.below) 2 3
              exact stepOk_value rfl (run_load_agg (.tmp 27) 95 rfl e2 (coL z K ck) 3 rfl (by kernel_rfl) sx) rfl
            · obtain ⟨v3, e3, q3, rfl⟩ := hk.ev_new hd 3 28 (by kernel_rfl) rfl
              refine stepOk_enter rfl (f := 92) (args := #[.agg (coL z K ck).toArray]) (by go_simp) ?_
              refine (other_any (w := w') z hT2.ok K ck).mono ?_
              rintro e w5 ⟨rfl, hB5⟩
              exact ⟨_, rfl, rfl, hB5⟩
            · have f0_ : a1.eval (.tmp 0) = .pointer (some ⟨c, 0, none⟩) := hk.ev_old 0 (by kernel_rfl)
              have g0_ : a1.tmps[0]?.getD undef = .pointer (some ⟨c, 0, none⟩) := by simpa [Act.eval] using f0_
              exact stepOk_value rfl (v := .pointer (some ⟨c, 0, none⟩)) (by go_simp) rfl
            · obtain ⟨v5, e5, q5, rfl⟩ := hk.ev_new hd 5 30 (by kernel_rfl) rfl
              exact stepOk_value rfl (v := .pointer (some ⟨c, 0, none⟩)) (by go_simp) rfl
            · obtain ⟨v6, e6, q6, rfl⟩ := hk.ev_new hd 6 31 (by kernel_rfl) rfl
              exact stepOk_value rfl (v := .pointer (some ⟨c, 2, none⟩)) (by go_simp) rfl
            · obtain ⟨v7, e7, q7, rfl⟩ := hk.ev_new hd 7 32 (by kernel_rfl) rfl
              exact stepOk_value rfl (v := .pointer (some ⟨c, 3, none⟩)) (by go_simp) rfl
            · obtain ⟨v8, e8, q8, rfl⟩ := hk.ev_new hd 8 33 (by kernel_rfl) rfl
              have c1 : w'.cell? ⟨c, 3, none⟩ = some (.int .i64 (z.t : Int)) := ((hrow2.below hb0).below hk.below).cell rfl
              exact stepOk_value rfl (v := .int .i64 (z.t : Int)) (by go_simp) rfl
            · obtain ⟨v9, e9, q9, rfl⟩ := hk.ev_new hd 9 34 (by kernel_rfl) rfl
              exact stepOk_value rfl (v := .int .i64 ((z.t : Int) + 1)) (by go_simp; try exact ew) rfl
            · have f1_ : a1.eval (.tmp 1) = .slice A0 bs.length c0 := hk.ev_old 1 (by kernel_rfl)
              have g1_ : a1.tmps[1]?.getD undef = .slice A0 bs.length c0 := by simpa [Act.eval] using f1_
              exact stepOk_value rfl (v := .slice A0 bs.length c0) (by go_simp) rfl
            · obtain ⟨v11, e11, q11, rfl⟩ := hk.ev_new hd 11 36 (by kernel_rfl) rfl
              refine stepOk_enter rfl (f := 93) (args := #[.slice A0 bs.length c0]) (by go_simp) ?_
              refine (Clone_any A0 c0 bs.length bs w' ((hin2.step hb0).step hk.below) rfl (by omega)).mono ?_
              rintro e w5 ⟨q, cq, rfl, hq, hB5⟩
              exact ⟨_, rfl, ⟨q, cq, rfl, hq.lower (Nat.le_trans hsz0 hk.below.size)⟩, hB5⟩
            · obtain ⟨v4, e4, q4, rfl⟩ := hk.ev_new hd 4 29 (by kernel_rfl) rfl
              obtain ⟨v10, e10, q10, rfl⟩ := hk.ev_new hd 10 35 (by kernel_rfl) rfl
              obtain ⟨v12, e12, q12, hv12⟩ := hk.ev_new hd 12 37 (by kernel_rfl) rfl
              obtain ⟨q, cq, rfl, hq⟩ := hv12
              refine stepOk_value rfl (v := .agg (coL (nextC z bs) q cq).toArray) ?_ ⟨q, cq, rfl, hq⟩
              rw [coL_next]
              go_simp
            · refine stepOk_run rfl (v := .pointer (some ⟨w'.heap.size, 0, none⟩)) (w' := w'.alloc (.cells zero3.toArray 95 (0, 0))) ?_ ⟨_, rfl, (Fresh.new w' 95 zero3 3 rfl (by decide)).lower (Nat.le_trans hsz0 hk.below.size)⟩ (below_alloc _ _)
              · simp only [execOp]
                rw [Sem.run_bind, run_alloc_zero 95 zero3 (by kernel_rfl)]
                rfl
          intro a1 w6 hb6 hp
          obtain ⟨v0, p0, v1, p1, v2, p2, v3, p3, v4, p4, v5, p5, v6, p6, v7, p7, v8, p8, v9, p9, v10, p10, v11, p11, v12, p12, v13, p13, v14, p14, rfl⟩ := hp
          simp only [putFacts] at p0 p1 p2 p3 p4 p5 p6 p7 p8 p9 p10 p11 p12 p13 p14
          subst p0 p1 p2 p3 p4 p5 p6 p7 p8 p9 p10 p11
          obtain ⟨q1, cq1, rfl, -⟩ := p12
          obtain ⟨q, cq, rfl, hq⟩ := p13
          obtain ⟨g, rfl, hg6⟩ := p14
          have hT6 := hT2.below hb6
          have hgs := hg6.block.2
          simp only [List.drop_succ_cons, List.drop_zero, Act.put, List.setIfInBounds_toArray, List.set_cons_succ, List.set_cons_zero]
          have hq6b := hq.lower hbase2
          go_wp2_with (first
            | (with_reducible refine wpList_storeN rfl rfl (.tmp 6) (.tmp 38) 95 rfl g 0 w2.heap.size 95 3 zero3 (coL (nextC z bs) q cq) rfl rfl 3 rfl (by kernel_rfl) hg6 (by omega) (coL_one _ _ _) ?_; intro w7 hF7 k1 k2 k3 k4 k5)
            | (with_reducible refine wpList_load (o := ⟨some 42, _, _, _, _, _⟩) rfl (.tmp 6) 95 rfl g 0 _ rfl (coL (nextC z bs) q cq) 3 rfl (by kernel_rfl) hF7.sees ?_))
          have hy : But g g w6 w7 := ⟨k1, k2, k3, k4, fun k _ hk _ => k5 k hk⟩
          have hT7 := hT6.aside hg6 (by decide) (by decide) (by decide) (by decide) (by decide) hy
          have hq7 := hq6b.unlike hg6 (by decide) k5
          have hc7 : But c c w1 w7 := (hC2.then_ (But.of_below hb6)).fresh (Nat.le_trans hC2.size hgs) k1 k2 k3 k4 k5
          have hb7 := Nat.le_trans hbase hc7.size
          refine (HWr.out w7 hT7 hb7 q cq hq7).mono ?_
          rintro e w8 ⟨rfl, hD8, hB8⟩
          have hT8 := hT7.turn hB8 hD8
          have hq8 := hq7.unlike2 hT7.dr.nor.obj hT7.dr.nor.row (by decide) (by decide) hB8
          have hg8 := hF7.unlike2 hT7.dr.nor.obj hT7.dr.nor.row (by decide) (by decide) hB8
          have h38 : But3 c p b w1 w8 := (But3.of_own hc7 p b).then_ (But3.of_but hB8 c)
          obtain ⟨K8, ck8, hrow8, hk8⟩ := hT8.row
          have c58 : w8.cell? ⟨c, 5, none⟩ = some (.bool false) := hrow8.cell rfl
          have z58 : w8.frozen? ⟨c, 5, none⟩ = false := hrow8.frozenAt
          have hr := HR.out
          cases q0 with
          | succ y =>
            obtain ⟨rfl, rfl, rfl, rfl⟩ : T = S' ∧ y + 1 = r ∧ z = k' ∧ true = over' := by simpa only [Prod.mk.injEq] using hr
            have h0 : ¬ (((y + 1 : Nat) : Int) = 0) := by omega
            clear hr
            go_wp2_with fail
            go_ret
            obtain ⟨r1, r2⟩ := hT8.setOver true
            exact ⟨rfl, r1, h38.then_ (But3.of_own r2 p b)⟩
          | zero =>
            obtain ⟨rfl, rfl, rfl, rfl⟩ : T = S' ∧ 0 = r ∧ nextC z bs = k' ∧ false = over' := by simp only [Prod.mk.injEq] at hr; exact hr
            clear hr
            go_wp2_with (first
              | (with_reducible refine wpList_load (o := ⟨some 51, _, _, _, _, _⟩) rfl (.tmp 6) 95 rfl g 0 _ rfl (coL (nextC z bs) q cq) 3 rfl (by kernel_rfl) hg8.sees ?_)
              | (with_reducible refine wpList_storeN rfl rfl (.tmp 53) (.tmp 51) 95 rfl c 2 base 97 6 (ceObj c d z K8 ck8 false) (coL (nextC z bs) q cq) rfl rfl 3 rfl (by kernel_rfl) hrow8 (by omega) (coL_one _ _ _) ?_; intro w9 hF9 m1 m2 m3 m4 m5))
            go_ret
            obtain ⟨r1, r2⟩ := hT8.setKnown HNO.out hq8 hF9 m1 m2 m3 m4 m5
            exact ⟨rfl, r1, h38.then_ (But3.of_own r2 p b)⟩
end
end Go.Proofs.Ytdilpalggoapnaa
