/-
  What tally's begin, write, Step and Count answer.
-/
import Derived.Test.YtpdfalgjmeagjaaTallyRd
import Derived.Test.YtpdfalgjmeagjaaRegion
namespace Go.Proofs.Ytpdfalgjmeagjaa
open Go.RowKit Go.Shelf
set_option linter.unusedVariables false

section
variable {w : World} {base t d p b f last : Nat} {over : Bool} {S : Fl}
set_option maxHeartbeats 1000000 in
set_option maxRecDepth 100000 in
theorem read_no (h : TyAt base w t d p b f S last over) (hd : S.down = true) :
    Calls Try.prog 125 #[.pointer (some ⟨t, 0, none⟩)] w fun e w' => e = .returned (.tuple #[.agg (stL 0 0 zeros64).toArray, .int .i64 40]) ∧ Below w.heap.size w w' := by
  have HD := Lib.hid hd
  have hb0 := run_built_none
  have hbz := run_built_zero
  clear hd
  go_enter Try.func125, Try.ntmps125
  go_wp2_with (first
    | (with_reducible refine wpList_alloc (o := ⟨some 2, _, _, _, _, _⟩) rfl 199 rfl (stL 0 0 zeros64) (by kernel_rfl) 66 (by simp [stL_len, zeros64]) (by decide) ?_; intro gr w1 hgr hFr hBr)
    | (with_reducible refine wpList_alloc (o := ⟨some 4, _, _, _, _, _⟩) rfl 199 rfl (stL 0 0 zeros64) (by kernel_rfl) 66 (by simp [stL_len, zeros64]) (by decide) ?_; intro gs w2 hgs hFs hBs)
    | (with_reducible refine wpList_store rfl rfl (.tmp 4) (.tmp 11) 199 rfl gs 0 w1.heap.size 199 66 (stL 0 0 zeros64) (stL (-1) 0 zeros64) rfl rfl 66 (by simp [stL_len, zeros64]) (by kernel_rfl) hFs (by omega) (stL_one _ _ _) w1 hBs hgs ?_; intro w3 hF3 hB3 hoth3 hz3))
  have zr := hFr.lt_size
  have z1 := hBr.size
  have hB13 := Below.then_ hBr hB3
  have hR3 := hFr.below hB3
  clear hFs hBs hoth3 hB3 hF3 hFr hBr hb0
  go_loopw [12] (fun i wr => i = .int .i64 0 ∧ wr = w3) (fun i _ => 0)
  case atStart => exact ⟨rfl, rfl⟩
  case round =>
    obtain ⟨rfl, rfl⟩ := hrel
    have hT := h.below hB13
    obtain ⟨-, ct1, -, -⟩ := hT.c
    have hRd := dRead_no hT.dr 0 64 (by omega) (.inr HD.out)
    rw [show readErr S 2 0 64 = 40 from rfl] at hRd
    go_wp2_with fail
    refine hRd.mono ?_
    rintro e w4 ⟨rfl, rfl⟩
    go_wp2_with (with_reducible refine wpList_store rfl rfl (.tmp 2) (.tmp 27) 199 rfl gr 0 w.heap.size 199 66 (stL 0 0 zeros64) (stL 0 0 zeros64) rfl rfl 66 (by simp [stL_len, zeros64]) (by kernel_rfl) hR3 (by omega) (stL_one _ _ _) w hB13 (by omega) ?_; intro w9 hF9 hB9 hoth9 hz9)
    rw [splice_own rfl] at hF9
    (try simp only [Exit.inBlock, Exit.then])
    refine bodyPost_cell_tmp rfl rfl _ rfl (stL 0 0 zeros64) 66 (by simp [stL_len, zeros64]) (by kernel_rfl) hF9.sees rfl ⟨rfl, hB9⟩
set_option maxHeartbeats 1000000 in
set_option maxRecDepth 100000 in
theorem begin_any (h : TyAt base w t d p b f S last over) (σ c : Nat) (hσ : σ < 2) (hc : c ≤ 2147483648) (S' : Fl) (r : Nat) (hr : S.tbegin f σ c = (S', r)) :
    Calls Try.prog 179 #[.pointer (some ⟨t, 0, none⟩), .int .i64 (σ : Int), .int .i64 (c : Int)] w fun e w' => e = .returned (.int .i64 (r : Int)) ∧ DrAt base w' d p b f 2 S' ∧ But p b w w' := by
  obtain ⟨-, c1, -, -⟩ := h.c
  obtain ⟨T, q, hT⟩ : ∃ T q, S.derase f 2 (σ : Int) = (T, q) := ⟨_, _, rfl⟩
  have hTn : T.n = S.n := by
    have h1 := hT
    unfold Fl.derase Fl.erase at h1
    have h2 := S.step_half
    revert h1 h2
    split
    · intro h1 _; simp only [Prod.mk.injEq] at h1; rw [← h1.1]
    · split
      · intro h1 _; simp only [Prod.mk.injEq] at h1; rw [← h1.1]
      · intro h1 _; simp only [Prod.mk.injEq] at h1; rw [← h1.1]
      · split
        · rename_i hs; rw [hs]; intro h1 h2; simp only [Prod.mk.injEq] at h1; rw [← h1.1]; exact h2.1
        · rename_i hs; rw [hs]; intro h1 h2; simp only [Prod.mk.injEq] at h1; rw [← h1.1]; exact h2.1
  have hE := dErase_any h.dr (σ : Int) (by omega) T q hT hTn
  unfold Fl.tbegin at hr
  rw [hT] at hr
  cases q with
  | succ z =>
    simp only [Prod.mk.injEq] at hr
    obtain ⟨rfl, rfl⟩ := hr
    have h0 : ¬ (((z + 1 : Nat) : Int) = 0) := by omega
    clear hT
    go_enter Try.func179, Try.ntmps179
    go_wp2_with fail
    refine hE.mono ?_
    rintro e w1 ⟨rfl, hD, hB⟩
    go_wp2_with fail
    go_ret
    exact ⟨rfl, hD, hB⟩
  | zero =>
    simp only at hr
    clear hT
    have hx : bits .xor .u32 IntKind.u32.max (c : Int) = ((4294967295 - c : Nat) : Int) := by
      have := not32 (UInt32.ofNat c)
      rwa [if_neg (by decide), (base2_nat (c := c) (by omega)).1] at this
    have hcw : cw (base2 c) = [.int .u32 (c : Int), .int .u32 ((4294967295 - c : Nat) : Int)] := by
      simp only [base2, cw, List.map_cons, List.map_nil, (base2_nat (c := c) (by omega)).1, (base2_nat (c := c) (by omega)).2]
    obtain ⟨nc, hnc⟩ : ∃ nc, 4294967295 - c = nc := ⟨_, rfl⟩
    rw [hnc] at hx hcw
    clear hnc
    go_enter Try.func179, Try.ntmps179
    go_wp2_with fail
    refine hE.mono ?_
    rintro e w1 ⟨rfl, hD, hB⟩
    have hT1 := h.turn hB hD
    have ct1 := hT1.c.2.1
    go_wp2_with fail
    have hF := Fresh.new w1 22 [.int .u32 (c : Int), .int .u32 (nc : Int)] 2 rfl (by decide)
    have hB2 := below_alloc w1 (.cells #[.int .u32 (c : Int), .int .u32 (nc : Int)] 22 (0, 0))
    obtain ⟨hp1, hb1, -, -⟩ := hD.nor.lt
    have hF' : Fresh w1.heap.size 22 (w1.alloc (.cells #[.int .u32 (c : Int), .int .u32 (nc : Int)] 22 (0, 0))) (some ⟨w1.heap.size, 0, none⟩) 2 2 (cw (base2 c)) := by
      rw [hcw]
      exact hF
    have hO := Off.fresh hF' (p := p) (b := b) (by omega) (by omega)
    refine (dWrite_any (hD.below hB2) (64 * (σ : Int)) (by omega) 2 2 _ (base2 c) hO rfl (by omega) S' r hr).mono ?_
    rintro e w3 ⟨rfl, hD3, hB3⟩
    go_wp2_with fail
    go_ret
    exact ⟨rfl, hD3, hB.then_ ((But.of_below hB2).then_ hB3)⟩
/-- What the words of a state are. -/
theorem look_len {S : Fl} {f : Nat} (h : Two S f) {s : Int} {c : Nat} {l : List UInt32} (hr : S.tlook f = (s, c, l)) : l.length = 64 ∧ c ≤ 2147485632 ∧ (s = -1 ∨ s = 0 ∨ s = 1) := by
  have h1 := lookK_ok (S.sec f 0) (S.sec f 1) (h.sec_len (by omega)) (h.sec_len (by omega)) 2
  rw [lookK_two] at h1
  unfold Fl.tlook at hr
  rw [hr] at h1
  refine ⟨h1.2, h1.1, ?_⟩
  rcases look_at hr with ⟨e, _⟩ | ⟨e, _⟩ | ⟨e, _⟩
  · exact .inl e
  · exact .inr (.inl e)
  · exact .inr (.inr e)
def bitFacts (t d gs base : Nat) (σ k : Nat) (x : UInt32) (j : Nat) (v : Value) (w : World) : Prop :=
  match j with
  | 0 => v = .pointer (some ⟨t, 0, none⟩)
  | 1 => v = .pointer (some ⟨t, 0, none⟩)
  | 2 => v = .pointer (some ⟨t, 1, none⟩)
  | 3 => v = .pointer (some ⟨d, 0, none⟩)
  | 4 => v = .pointer (some ⟨gs, 0, none⟩)
  | 5 => v = .int .i64 (σ : Int)
  | 6 => v = .int .i64 (64 * (σ : Int))
  | 7 => v = .int .i64 (k : Int)
  | 8 => v = .int .i64 (64 * (σ : Int) + (k : Int))
  | 9 => v = .int .i64 (k : Int)
  | 10 => v = .pointer (some ⟨gs, 2, none⟩)
  | 11 => v = .pointer (some ⟨gs, 2 + k, none⟩)
  | 12 => v = .int .u32 (x.toNat : Int)
  | 13 => v = .int .u32 ((low32 x).toNat : Int)
  | 14 => ∃ g, v = .slice (some ⟨g, 0, none⟩) 1 1 ∧ Fresh base 22 w (some ⟨g, 0, none⟩) 1 1 (cw [low32 x])
  | _ => True
theorem bitFacts_stab (t d gs base : Nat) (σ k : Nat) (x : UInt32) : ∀ j v w w', Below w.heap.size w w' → bitFacts t d gs base σ k x j v w → bitFacts t d gs base σ k x j v w' := by
  intro j v w w' hb h
  unfold bitFacts at *
  split at h <;> first | exact h | (obtain ⟨g, h1, h2⟩ := h; exact ⟨g, h1, h2.below hb⟩) | trivial
theorem sizeWE : (Try.prog.info? 22).map (·.size) = some 1 := by kernel_rfl
theorem run_ixW {o : Oper} {a : Act} {w : World} (x y : Operand) (hop : o.op = .indexAddr 197 x y) {g off k : Nat} (hx : a.eval x = .pointer (some ⟨g, off, none⟩)) (hy : a.eval y = .int .i64 (k : Int)) (hk : k < 64) : (execOp a.eval o).run Try.prog w = .ok (.value (.pointer (some ⟨g, off + k, none⟩))) w := by
  obtain ⟨i, hi, hsz⟩ := Option.map_eq_some_iff.1 sizeWE
  unfold execOp
  simp [hop, hx, hy, Instr.indexAt, Instr.sureAddr, asIntOf, run_underlying arrW, arrW_len, arrW_size, hk, Addr.add_lit, Sem.run_bind]
set_option maxHeartbeats 2000000 in
set_option maxRecDepth 100000 in
theorem twrite_any (h : TyAt base w t d p b f S last over) (s : Int) (c : Nat) (l : List UInt32) (hl : S.tlook f = (s, c, l)) (hc : c < 2147483648) (S' : Fl) (r : Nat) (hr : S.twrite f = (S', r)) :
    Calls Try.prog 127 #[.pointer (some ⟨t, 0, none⟩), .agg (stL s c l).toArray] w fun e w' => e = .returned (.int .i64 (r : Int)) ∧ DrAt base w' d p b f 2 S' ∧ But p b w w' := by
  have hTwo : Two S f := ⟨h.dr.fits, h.dr.nor.len⟩
  obtain ⟨hll, -, hs⟩ := look_len hTwo hl
  unfold Fl.twrite at hr
  rw [hl] at hr
  replace hr : (if s = -1 then S.tbegin f 0 (c + 1) else match restL l with
    | none => S.tbegin f (1 - s).toNat (c + 1)
    | some k => S.dwrite f 2 (64 * s + (k : Int)) [low32 (l.getD k 0)]) = (S', r) := hr
  have ew : IntKind.i64.wrap ((c : Int) + 1) = (c : Int) + 1 := wrapI _ (by omega) (by omega)
  rcases hs with rfl | hs01
  · rw [if_pos rfl] at hr
    have HLL := Lib.hid hll
    have hbg := fun w' (x : Below w.heap.size w w') => begin_any (h.below x) 0 (c + 1) (by omega) (by omega) S' r hr
    rw [show (((c + 1 : Nat)) : Int) = (c : Int) + 1 from by omega, show ((0 : Nat) : Int) = 0 from rfl] at hbg
    clear hll hl hr
    go_enter Try.func127, Try.ntmps127
    go_wp2_with (with_reducible refine wpList_box (o := ⟨some 3, _, _, _, _, _⟩) rfl (.tmp 1) 199 rfl (stL (-1) c l) rfl 66 (by simp [stL_len, HLL.out]) (by decide) ?_; intro gs w1 hgs hFs hBs; have cs0 : w1.cell? ⟨gs, 0, none⟩ = some (.int .i64 (-1)) := hFs.cell rfl; have cs1 : w1.cell? ⟨gs, 1, none⟩ = some (.int .i64 (c : Int)) := hFs.cell rfl)
    refine (hbg w1 hBs).mono ?_
    rintro e w2 ⟨rfl, hD, hB⟩
    go_wp2_with fail
    go_ret
    exact ⟨rfl, hD, (But.of_below hBs).then_ hB⟩
  · obtain ⟨σ, hσ, rfl⟩ : ∃ σ : Nat, σ < 2 ∧ s = (σ : Int) := by
      rcases hs01 with rfl | rfl
      · exact ⟨0, by omega, rfl⟩
      · exact ⟨1, by omega, rfl⟩
    rw [if_neg (by omega)] at hr
    have hsn : ¬ ((σ : Int) = -1) := by omega
    have HLL := Lib.hid hll
    cases hrl : restL l with
    | none =>
      rw [hrl] at hr
      replace hr : S.tbegin f (1 - (σ : Int)).toNat (c + 1) = (S', r) := hr
      rw [show (1 - (σ : Int)).toNat = 1 - σ from by omega] at hr
      have hbg := fun w' (x : Below w.heap.size w w') => begin_any (h.below x) (1 - σ) (c + 1) (by omega) (by omega) S' r hr
      rw [show (((c + 1 : Nat)) : Int) = (c : Int) + 1 from by omega, show ((1 - σ : Nat) : Int) = 1 - (σ : Int) from by omega] at hbg
      have e2 : IntKind.i64.wrap (1 - (σ : Int)) = 1 - (σ : Int) := wrapI _ (by omega) (by omega)
      have hrs := fun (w' : World) (g : Nat) (x : Sees w' w'.heap.size (some ⟨g, 2, none⟩) (cw l)) => rest_any x hll none hrl
      clear hll hl hr hrl hs01
      go_enter Try.func127, Try.ntmps127
      go_wp2_with (with_reducible refine wpList_box (o := ⟨some 3, _, _, _, _, _⟩) rfl (.tmp 1) 199 rfl (stL (σ : Int) c l) rfl 66 (by simp [stL_len, HLL.out]) (by decide) ?_; intro gs w1 hgs hFs hBs; have cs0 : w1.cell? ⟨gs, 0, none⟩ = some (.int .i64 (σ : Int)) := hFs.cell rfl; have cs1 : w1.cell? ⟨gs, 1, none⟩ = some (.int .i64 (c : Int)) := hFs.cell rfl)
      have hls : Sees w1 w1.heap.size (some ⟨gs, 2, none⟩) (cw l) := by
        have := Sees.of_fresh hFs 2 64
        rwa [show ((stL (σ : Int) c l).drop 2).take 64 = cw l from List.take_of_length_le (by simp [stL, HLL.out])] at this
      refine (hrs w1 gs hls).mono ?_
      rintro e w2 ⟨rfl, rfl⟩
      simp only [rstV]
      go_wp2_with fail
      refine (hbg w2 hBs).mono ?_
      rintro e w3 ⟨rfl, hD, hB⟩
      go_wp2_with fail
      go_ret
      exact ⟨rfl, hD, (But.of_below hBs).then_ hB⟩
    | some k =>
      rw [hrl] at hr
      replace hr : S.dwrite f 2 (64 * (σ : Int) + (k : Int)) [low32 (l.getD k 0)] = (S', r) := hr
      obtain ⟨j, hj, rfl⟩ := Option.map_eq_some_iff.1 hrl
      obtain ⟨x, hx, hx0⟩ := firstNz_some _ j hj
      rw [List.getElem?_drop, show 2 + j = j + 2 from by omega] at hx
      have hk : j + 2 < 64 := by
        have := (List.getElem?_eq_some_iff.1 hx).1
        omega
      have hrs := fun (w' : World) (g : Nat) (x : Sees w' w'.heap.size (some ⟨g, 2, none⟩) (cw l)) => rest_any x hll _ hrl
      obtain ⟨k, hkk⟩ : ∃ k, j + 2 = k := ⟨_, rfl⟩
      rw [hkk] at hr hrl hrs hk hx
      rw [List.getD_eq_getElem?_getD, hx, Option.getD_some] at hr
      have HX := Lib.hid hx
      have HR := Lib.hid hr
      have HX0 := Lib.hid hx0
      clear hll hl hr hrl hs01 hj hx hx0 hkk
      go_enter Try.func127, Try.ntmps127
      go_wp2_with (with_reducible refine wpList_box (o := ⟨some 3, _, _, _, _, _⟩) rfl (.tmp 1) 199 rfl (stL (σ : Int) c l) rfl 66 (by simp [stL_len, HLL.out]) (by decide) ?_; intro gs w1 hgs hFs hBs; have cs0 : w1.cell? ⟨gs, 0, none⟩ = some (.int .i64 (σ : Int)) := hFs.cell rfl; have cs1 : w1.cell? ⟨gs, 1, none⟩ = some (.int .i64 (c : Int)) := hFs.cell rfl)
      have hls : Sees w1 w1.heap.size (some ⟨gs, 2, none⟩) (cw l) := by
        have := Sees.of_fresh hFs 2 64
        rwa [show ((stL (σ : Int) c l).drop 2).take 64 = cw l from List.take_of_length_le (by simp [stL, HLL.out])] at this
      refine (hrs w1 gs hls).mono ?_
      rintro e w2 ⟨rfl, rfl⟩
      simp only [rstV]
      go_wp2_with fail
      have lt1 : w2.heap.size = w2.heap.size := rfl
      have hX2 : w2.cell? ⟨gs, 2 + k, none⟩ = some (.int .u32 (x.toNat : Int)) := hFs.cell (j := 2 + k) (by
        rw [show 2 + k = k + 1 + 1 from by omega]
        simp [stL, HX.out])
      have lgs := hFs.lt_size
      have em : IntKind.i64.wrap (64 * (σ : Int)) = 64 * (σ : Int) := wrapI _ (by omega) (by omega)
      have es : IntKind.i64.wrap (64 * (σ : Int) + (k : Int)) = 64 * (σ : Int) + (k : Int) := wrapI _ (by omega) (by omega)
      refine region_all_tail 15 (bitFacts t d gs w2.heap.size σ k x) (by kernel_rfl) (by kernel_rfl) (by kernel_rfl) (bitFacts_stab _ _ _ _ _ _ _) ?_ ?_
      · intro w0 hb0
        have hsz0 := hb0.size
        simp only [List.take_succ_cons, List.take_zero]
        refine ⟨?_, ?_, ?_, ?_, ?_, ?_, ?_, ?_, ?_, ?_, ?_, ?_, ?_, ?_, ?_, trivial⟩
        all_goals intro listed a1 w' hk' hd
        · have f2 := hk'.ev_old 0 (by kernel_rfl)
          exact stepOk_value rfl (v := .pointer (some ⟨t, 0, none⟩)) (by simp [execOp]; exact f2) rfl
        · obtain ⟨v, e0, _, rfl⟩ := hk'.ev_new hd 0 30 (by kernel_rfl) rfl
          exact stepOk_value rfl (v := .pointer (some ⟨t, 0, none⟩)) (by go_simp) rfl
        · obtain ⟨v, e0, _, rfl⟩ := hk'.ev_new hd 1 31 (by kernel_rfl) rfl
          exact stepOk_value rfl (v := .pointer (some ⟨t, 1, none⟩)) (by go_simp) rfl
        · obtain ⟨v, e0, _, rfl⟩ := hk'.ev_new hd 2 32 (by kernel_rfl) rfl
          have c1 := (((h.below hBs).below hb0).below hk'.below).c.2.1
          exact stepOk_value rfl (v := .pointer (some ⟨d, 0, none⟩)) (by go_simp) rfl
        · have f2 : a1.eval (.tmp 3) = .pointer (some ⟨gs, 0, none⟩) := hk'.ev_old 3 (by kernel_rfl)
          have f3 : a1.tmps[3]?.getD undef = .pointer (some ⟨gs, 0, none⟩) := by simpa [Act.eval] using f2
          exact stepOk_value rfl (v := .pointer (some ⟨gs, 0, none⟩)) (by go_simp) rfl
        · obtain ⟨v, e0, _, rfl⟩ := hk'.ev_new hd 4 34 (by kernel_rfl) rfl
          have c1 : w'.cell? ⟨gs, 0, none⟩ = some (.int .i64 (σ : Int)) := ((hFs.below hb0).below hk'.below).cell rfl
          exact stepOk_value rfl (v := .int .i64 (σ : Int)) (by go_simp) rfl
        · obtain ⟨v, e0, _, rfl⟩ := hk'.ev_new hd 5 35 (by kernel_rfl) rfl
          exact stepOk_value rfl (v := .int .i64 (64 * (σ : Int))) (by go_simp; try exact em) rfl
        · have f2 := hk'.ev_old 5 (by kernel_rfl)
          exact stepOk_value rfl (v := .int .i64 (k : Int)) (by simp [execOp]; exact f2) rfl
        · obtain ⟨v, e0, _, rfl⟩ := hk'.ev_new hd 6 36 (by kernel_rfl) rfl
          obtain ⟨v, e1, _, rfl⟩ := hk'.ev_new hd 7 37 (by kernel_rfl) rfl
          exact stepOk_value rfl (v := .int .i64 (64 * (σ : Int) + (k : Int))) (by go_simp; try exact es) rfl
        · have f2 := hk'.ev_old 5 (by kernel_rfl)
          exact stepOk_value rfl (v := .int .i64 (k : Int)) (by simp [execOp]; exact f2) rfl
        · have f2 : a1.eval (.tmp 3) = .pointer (some ⟨gs, 0, none⟩) := hk'.ev_old 3 (by kernel_rfl)
          have f3 : a1.tmps[3]?.getD undef = .pointer (some ⟨gs, 0, none⟩) := by simpa [Act.eval] using f2
          exact stepOk_value rfl (v := .pointer (some ⟨gs, 2, none⟩)) (by go_simp) rfl
        · obtain ⟨v, e0, _, rfl⟩ := hk'.ev_new hd 10 40 (by kernel_rfl) rfl
          obtain ⟨v, e1, _, rfl⟩ := hk'.ev_new hd 9 39 (by kernel_rfl) rfl
          exact stepOk_value rfl (v := .pointer (some ⟨gs, 2 + k, none⟩)) (run_ixW _ _ rfl e0 e1 hk) rfl
        · obtain ⟨v, e0, _, rfl⟩ := hk'.ev_new hd 11 41 (by kernel_rfl) rfl
          have c1 : w'.cell? ⟨gs, 2 + k, none⟩ = some (.int .u32 (x.toNat : Int)) := ((hFs.below hb0).below hk'.below).cell (j := 2 + k) (by
            rw [show 2 + k = k + 1 + 1 from by omega]
            simp [stL, HX.out])
          exact stepOk_value rfl (v := .int .u32 (x.toNat : Int)) (by go_simp) rfl
        · obtain ⟨v, e0, _, rfl⟩ := hk'.ev_new hd 12 42 (by kernel_rfl) rfl
          refine stepOk_enter rfl (f := 181) (args := #[.int .u32 (x.toNat : Int)]) (by go_simp) ?_
          refine (withoutHighest_any x HX0.out _).mono ?_
          rintro e w5 ⟨rfl, rfl⟩
          exact ⟨_, rfl, rfl, Below.refl _ _⟩
        · obtain ⟨v, e0, _, rfl⟩ := hk'.ev_new hd 13 43 (by kernel_rfl) rfl
          refine stepOk_run rfl (v := .slice (some ⟨w'.heap.size, 0, none⟩) 1 1) (w' := w'.alloc (.cells (cw [low32 x]).toArray 22)) ?_ ⟨_, rfl, (Fresh.new w' 22 (cw [low32 x]) 1 rfl (by decide)).lower (Nat.le_trans hsz0 hk'.below.size)⟩ (below_alloc _ _)
          go_simp
      · intro a1 w' hbw hp
        obtain ⟨v0, p0, v1, p1, v2, p2, v3, p3, v4, p4, v5, p5, v6, p6, v7, p7, v8, p8, v9, p9, v10, p10, v11, p11, v12, p12, v13, p13, v14, p14, rfl⟩ := hp
        simp only [bitFacts] at p0 p1 p2 p3 p4 p5 p6 p7 p8 p9 p10 p11 p12 p13 p14
        subst p0 p1 p2 p3 p4 p5 p6 p7 p8 p9 p10 p11 p12 p13
        obtain ⟨g1, rfl, hF1⟩ := p14
        simp only [List.drop_succ_cons, List.drop_zero, Act.put, List.setIfInBounds_toArray, List.set_cons_succ, List.set_cons_zero]
        have hD5 := (h.below hBs).below hbw
        obtain ⟨hp1, hb1, -, -⟩ := (h.below hBs).dr.nor.lt
        have g1b := hF1.block.2
        have hO := Off.fresh hF1 (p := p) (b := b) (by omega) (by omega)
        go_wp2_with fail
        refine (dWrite_any hD5.dr (64 * (σ : Int) + (k : Int)) (by omega) 1 1 _ [low32 x] hO rfl (by omega) S' r HR.out).mono ?_
        rintro e w7 ⟨rfl, hD7, hB7⟩
        go_wp2_with fail
        go_ret
        exact ⟨rfl, hD7, (But.of_below hBs).then_ ((But.of_below hbw).then_ hB7)⟩
end
end Go.Proofs.Ytpdfalgjmeagjaa
