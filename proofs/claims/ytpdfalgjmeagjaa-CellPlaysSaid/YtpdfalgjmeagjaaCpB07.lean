/-
  Plain facts of flashes and drives, and of what their writes leave.
-/
import Derived.Test.YtpdfalgjmeagjaaCpB06
import Derived.Test.YtpdfalgjmeagjaaCpB05
namespace Go.Proofs.Ytpdfalgjmeagjaa
open Go.RowKit
set_option linter.unusedVariables false

/-- The sectors stay as many, and what is half erased is one of them. -/
theorem Fl.step_half (S : Fl) : S.step.1.n = S.n ∧ S.step.1.half = S.half := by
  obtain ⟨n, ws, g, ar, l, d, hf⟩ := S
  cases ar
  · exact ⟨rfl, rfl⟩
  · cases l <;> exact ⟨rfl, rfl⟩
theorem Fl.prog_half : ∀ (l : List UInt32) (S : Fl) (j : Nat), (S.prog j l).1.n = S.n ∧ (S.prog j l).1.half = S.half
  | [], S, j => ⟨rfl, rfl⟩
  | x :: l, S, j => by
    have h1 := S.step_half
    simp only [Fl.prog]
    revert h1
    rcases S.step with ⟨T, _ | _⟩
    · intro h1; exact h1
    · intro h1
      have h2 := Fl.prog_half l (T.put1 j x) (j + 1)
      exact ⟨h2.1.trans h1.1, h2.2.trans h1.2⟩
theorem splice_get2 {α : Type} (L X : List α) (off i : Nat) (h : off + X.length ≤ L.length) : (splice L off X)[i]? = if i < off then L[i]? else if i < off + X.length then X[i - off]? else L[i]? := by
  unfold splice
  have h1 : (L.take off).length = off := by simp; omega
  by_cases a : i < off
  · rw [if_pos a, List.getElem?_append_left (by omega), List.getElem?_take, if_pos a]
  · rw [if_neg a]
    by_cases b : i < off + X.length
    · rw [if_pos b, List.getElem?_append_right (by omega), h1, List.getElem?_append_left (by omega)]
    · rw [if_neg b, List.getElem?_append_right (by omega), h1, List.getElem?_append_right (by omega), List.getElem?_drop, show off + X.length + (i - off - X.length) = i from by omega]
theorem Fresh.spot_ {w : World} {base n c : Nat} {A : Option Addr} {e : TypeId} {xs : List Value} (h : Fresh base e w A n c xs) (hn : 0 < n) : ∃ g, A = some ⟨g, 0, none⟩ ∧ base ≤ g ∧ g < w.heap.size := by
  rcases h.2 with ⟨hv, rfl⟩ | ⟨g, cap, cur, hv, hb, hg, _⟩
  · omega
  · simp only [Value.slice.injEq] at hv
    exact ⟨g, hv.1, hb, (Array.getElem?_eq_some_iff.1 hg).1⟩
theorem Fresh.butC {w w' : World} {base n c p b : Nat} {A : Option Addr} {e : TypeId} {xs : List Value} (h : Fresh base e w A n c xs) (x : But p b w w') (hp : p < base) (hb : b < base) : Fresh base e w' A n c xs := by
  refine ⟨h.1, ?_⟩
  rcases h.2 with h1 | ⟨g, cap, cur, hv, hg, hh, hr⟩
  · exact .inl h1
  · exact .inr ⟨g, cap, cur, hv, hg, by rw [x.keep g (Array.getElem?_eq_some_iff.1 hh).1 (by omega) (by omega)]; exact hh, hr⟩
theorem DrAt.other {base : Nat} {w w' : World} {d p b f m g : Nat} {S : Fl} (h : DrAt base w d p b f m S) (x : But g g w w') (h1 : p ≠ g) (h2 : b ≠ g) (h3 : d ≠ g) : DrAt base w' d p b f m S := ⟨h.nor.but x h1 h1 h2 h2, h.obj.but x h3 h3, h.fits, h.some_⟩
end Go.Proofs.Ytpdfalgjmeagjaa

/-
  What a crash does to a flash.
-/
namespace Go.Proofs.Ytpdfalgjmeagjaa
open Go.RowKit
set_option linter.unusedVariables false

/-- The cells of bools. -/
abbrev cl (l : List Bool) : List Value := l.map Value.bool
/-- Ones, from a place on, where it is told. -/
def mask (ws : List UInt32) (j : Nat) : List Bool → List UInt32
  | [] => ws
  | true :: l => mask (ws.set j 4294967295) (j + 1) l
  | false :: l => mask ws (j + 1) l
def Fl.crash (S : Fl) (ks : List Bool) : Fl := match decide (S.half = -1) with
  | true => { S with half := -1, down := false, armed := false }
  | false => { S with ws := mask S.ws (S.half.toNat * 64) (ks.take 64), half := -1, down := false, armed := false }
/-- What is half erased is a sector. -/
def Fl.Ok (S : Fl) : Prop := S.half = -1 ∨ ∃ σ : Nat, S.half = (σ : Int) ∧ σ < S.n
theorem Sees.bool {w : World} {B : Nat} {A : Option Addr} {l : List Bool} {n k : Nat} (h : Sees w B A (cl l)) (hl : l.length = n) (hk : k < n) :
    ∃ b o, A = some ⟨b, o, none⟩ ∧ b < B ∧ ∃ c : Bool, Hid (l[k]? = some c) ∧ w.cell? ⟨b, o + k, none⟩ = some (.bool c) := by
  obtain ⟨b, o, e, hb, hc⟩ := h.at_ (k := k) (by simp; omega)
  exact ⟨b, o, e, hb, l[k]'(by omega), List.getElem?_eq_getElem (by omega), by simpa using hc⟩

section
variable {w : World} {base p b : Nat} {S : Fl}
theorem NorAt.up (h : NorAt base w p b S) (T : Fl) (e1 : T.n = S.n) (e2 : T.ws = S.ws) (e3 : T.guard = S.guard) (e4 : T.left = S.left) (f3 : T.armed = false) (f5 : T.down = false) (f6 : T.half = -1) :
    NorAt base (((w.setCell ⟨p, 6, none⟩ (.int .i64 (-1))).setCell ⟨p, 5, none⟩ (.bool false)).setCell ⟨p, 3, none⟩ (.bool false)) p b T := by
  obtain ⟨n, ws, g, ar, l, d, hf⟩ := T
  simp only at e1 e2 e3 e4 f3 f5 f6
  subst e1 e2 e3 e4 f3 f5 f6
  have h1 := h.field 6 (.int .i64 (-1)) { S with half := -1 } rfl rfl rfl h.left_le
  have h2 := h1.field 5 (.bool false) { S with half := -1, down := false } rfl rfl rfl h.left_le
  exact h2.field 3 (.bool false) { S with half := -1, down := false, armed := false } rfl rfl rfl h.left_le
theorem But.up (p b : Nat) (w : World) : But p b w (((w.setCell ⟨p, 6, none⟩ (.int .i64 (-1))).setCell ⟨p, 5, none⟩ (.bool false)).setCell ⟨p, 3, none⟩ (.bool false)) :=
  ((But.set p b p 6 _ (.inl rfl)).then_ (But.set p b p 5 _ (.inl rfl))).then_ (But.set p b p 3 _ (.inl rfl))
set_option maxHeartbeats 1000000 in
set_option maxRecDepth 100000 in
theorem Crash_any (h : NorAt base w p b S) (hok : S.Ok) (A : Option Addr) (m c : Nat) (ks : List Bool) (hB : base ≤ w.heap.size) (hs : Sees w base A (cl ks)) (hl : ks.length = m) :
    Calls Try.prog 35 #[.pointer (some ⟨p, 0, none⟩), .slice A m c] w fun e w' => e = .returned (.tuple #[]) ∧ NorAt base w' p b (S.crash ks) ∧ But p b w w' := by
  obtain ⟨hp1, hb1, hp2, hb2⟩ := h.lt
  rcases hok with hh | ⟨σ, hh, hσ⟩
  · rw [show S.crash ks = { S with half := -1, down := false, armed := false } from by simp [Fl.crash, hh]]
    obtain ⟨-, -, -, c3, -, c5, c6⟩ := h.c
    have z3 := h.z 3
    have z5 := h.z 5
    have z6 := h.z 6
    rw [hh] at c6
    clear hl hs hh
    go_enter Try.func35, Try.ntmps35
    go_wp2_with fail
    refine (isFlash_any h).mono ?_
    rintro e w1 ⟨rfl, rfl⟩
    go_wp2_with fail
    go_end0
    exact ⟨rfl, h.up _ rfl rfl rfl rfl rfl rfl rfl, But.up p b w1⟩
  · rw [show S.crash ks = { S with ws := mask S.ws (σ * 64) (ks.take 64), half := -1, down := false, armed := false } from by simp [Fl.crash, hh]]
    obtain ⟨-, c1, -, -, -, -, c6⟩ := h.c
    have HL := Lib.hid hl
    obtain ⟨M, hM⟩ : ∃ M, min m 64 = M := ⟨_, rfl⟩
    have HT := Lib.hid (show (ks.take 64).length = M by rw [List.length_take, hl, Nat.min_comm]; exact hM)
    have hM1 : M ≤ m := by omega
    have hM2 : M ≤ 64 := by omega
    have hd : ((σ : Int) != -1) = true := by simp
    rw [hh] at c6
    have HM := Lib.hid hM
    have HH := Lib.hid hh
    clear hl hh hM
    have hN := h
    clear h
    go_enter Try.func35, Try.ntmps35
    go_wp2_with fail
    refine (isFlash_any hN).mono ?_
    rintro e w1 ⟨rfl, rfl⟩
    by_cases hm : m ≤ 64
    · obtain rfl : M = m := by rw [← HM.out, Nat.min_eq_left hm]
      go_wp2_with fail
      go_loopw [16] (fun i wr => ∃ (k : Nat) (ws : List UInt32), k ≤ M ∧ i = .int .i64 k ∧ NorAt base wr p b { S with ws := ws } ∧ But p b w1 wr ∧ Hid (mask ws (σ * 64 + k) ((ks.take 64).drop k) = mask S.ws (σ * 64) (ks.take 64))) (fun i _ => M - (intOf i).toNat)
      case atStart => exact ⟨0, S.ws, by omega, rfl, hN, But.refl _ _ _, Lib.hid rfl⟩
      case round =>
        obtain ⟨k, ws, hk, rfl, hT, hBw, HP⟩ := hrel
        by_cases hlt : k < M
        · have hs3 := hs.below (hBw.below hp2 hb2 hB)
          obtain ⟨g, o, rfl, hg, x, HX, hcx⟩ := hs3.bool HL.out (Nat.lt_of_lt_of_le hlt hM1)
          have hdr : (ks.take 64).drop k = x :: (ks.take 64).drop (k + 1) := by
            rw [List.drop_eq_getElem_cons (by rw [HT.out]; exact hlt)]
            congr 1
            rw [List.getElem_take]
            exact (List.getElem?_eq_some_iff.1 HX.out).2
          have hpr := HP.out
          rw [hdr] at hpr
          have HPR := Lib.hid hpr
          obtain ⟨-, d1, -, -, -, -, d6⟩ := hT.c
          have d6' : wr.cell? ⟨p, 6, none⟩ = some (.int .i64 (σ : Int)) := by rw [d6]; show some (Value.int .i64 S.half) = _; rw [HH.out]
          obtain ⟨y, hy, hcy⟩ := hT.word_at (j := σ * 64 + k) (by show _ < 64 * S.n; omega)
          have hzy := hT.zr (σ * 64 + k)
          clear hy hs hs3 c1 c6 hpr hdr d6 hm
          cases x
          · go_wp2_with fail
            go_roundw
            case rel =>
              refine ⟨k + 1, ws, by omega, by go_num, hT, hBw, Lib.hid ?_⟩
              exact HPR.out
            case measure => simp [intOf]; omega
          · go_wp2_with fail
            refine region_qtail 11 (by kernel_rfl) (by kernel_rfl) ?_
            simp only [List.take_succ_cons, List.take_zero, List.drop_succ_cons, List.drop_zero]
            repeat (go_big_quiet_step (fail))
            refine wpQuiet_nil ?_
            rintro _ ⟨nq, rfl⟩
            go_wp2_with fail
            go_roundw
            case rel =>
              have hT2 := (hT.below (below_drewN' (Below.refl _ _) nq)).word (σ * 64 + k) 4294967295
              refine ⟨k + 1, ws.set (σ * 64 + k) 4294967295, by omega, by go_num, hT2, (hBw.then_ (But.of_below (below_drewN' (Below.refl _ _) nq))).then_ (But.set p b b _ _ (.inr rfl)), Lib.hid ?_⟩
              exact HPR.out
            case measure => simp [intOf]; omega
        · obtain rfl : k = M := by omega
          have hpr := HP.out
          rw [List.drop_of_length_le (by rw [HT.out]; exact Nat.le_refl _)] at hpr
          obtain rfl : ws = mask S.ws (σ * 64) (ks.take 64) := hpr
          obtain ⟨-, d1, -, d3, -, d5, d6⟩ := hT.c
          have z3 := hT.z 3
          have z5 := hT.z 5
          have z6 := hT.z 6
          clear c1 c6 hm
          go_wp2_with fail
          go_end0
          exact ⟨rfl, hT.up _ rfl rfl rfl rfl rfl rfl rfl, hBw.then_ (But.up p b _)⟩
    · go_wp2_with fail
      rw [show (64 : Int) = (M : Int) from by rw [← HM.out, Nat.min_eq_right (by omega)]; rfl]
      go_loopw [16] (fun i wr => ∃ (k : Nat) (ws : List UInt32), k ≤ M ∧ i = .int .i64 k ∧ NorAt base wr p b { S with ws := ws } ∧ But p b w1 wr ∧ Hid (mask ws (σ * 64 + k) ((ks.take 64).drop k) = mask S.ws (σ * 64) (ks.take 64))) (fun i _ => M - (intOf i).toNat)
      case atStart => exact ⟨0, S.ws, by omega, rfl, hN, But.refl _ _ _, Lib.hid rfl⟩
      case round =>
        obtain ⟨k, ws, hk, rfl, hT, hBw, HP⟩ := hrel
        by_cases hlt : k < M
        · have hs3 := hs.below (hBw.below hp2 hb2 hB)
          obtain ⟨g, o, rfl, hg, x, HX, hcx⟩ := hs3.bool HL.out (Nat.lt_of_lt_of_le hlt hM1)
          have hdr : (ks.take 64).drop k = x :: (ks.take 64).drop (k + 1) := by
            rw [List.drop_eq_getElem_cons (by rw [HT.out]; exact hlt)]
            congr 1
            rw [List.getElem_take]
            exact (List.getElem?_eq_some_iff.1 HX.out).2
          have hpr := HP.out
          rw [hdr] at hpr
          have HPR := Lib.hid hpr
          obtain ⟨-, d1, -, -, -, -, d6⟩ := hT.c
          have d6' : wr.cell? ⟨p, 6, none⟩ = some (.int .i64 (σ : Int)) := by rw [d6]; show some (Value.int .i64 S.half) = _; rw [HH.out]
          obtain ⟨y, hy, hcy⟩ := hT.word_at (j := σ * 64 + k) (by show _ < 64 * S.n; omega)
          have hzy := hT.zr (σ * 64 + k)
          clear hy hs hs3 c1 c6 hpr hdr d6 hm
          cases x
          · go_wp2_with fail
            go_roundw
            case rel =>
              refine ⟨k + 1, ws, by omega, by go_num, hT, hBw, Lib.hid ?_⟩
              exact HPR.out
            case measure => simp [intOf]; omega
          · go_wp2_with fail
            refine region_qtail 11 (by kernel_rfl) (by kernel_rfl) ?_
            simp only [List.take_succ_cons, List.take_zero, List.drop_succ_cons, List.drop_zero]
            repeat (go_big_quiet_step (fail))
            refine wpQuiet_nil ?_
            rintro _ ⟨nq, rfl⟩
            go_wp2_with fail
            go_roundw
            case rel =>
              have hT2 := (hT.below (below_drewN' (Below.refl _ _) nq)).word (σ * 64 + k) 4294967295
              refine ⟨k + 1, ws.set (σ * 64 + k) 4294967295, by omega, by go_num, hT2, (hBw.then_ (But.of_below (below_drewN' (Below.refl _ _) nq))).then_ (But.set p b b _ _ (.inr rfl)), Lib.hid ?_⟩
              exact HPR.out
            case measure => simp [intOf]; omega
        · obtain rfl : k = M := by omega
          have hpr := HP.out
          rw [List.drop_of_length_le (by rw [HT.out]; exact Nat.le_refl _)] at hpr
          obtain rfl : ws = mask S.ws (σ * 64) (ks.take 64) := hpr
          obtain ⟨-, d1, -, d3, -, d5, d6⟩ := hT.c
          have z3 := hT.z 3
          have z5 := hT.z 5
          have z6 := hT.z 6
          clear c1 c6 hm
          go_wp2_with fail
          go_end0
          exact ⟨rfl, hT.up _ rfl rfl rfl rfl rfl rfl rfl, hBw.then_ (But.up p b _)⟩
end
end Go.Proofs.Ytpdfalgjmeagjaa

/-
  What New answers: a flash of ones.
-/
namespace Go.Proofs.Ytpdfalgjmeagjaa
open Go.RowKit
set_option linter.unusedVariables false

def Fl.made (n : Nat) (g : Int) : Fl := ⟨n, List.replicate (64 * n) 4294967295, g, false, 0, false, -1⟩
section
variable {w : World}
theorem wpList_mkW {ops : Array Oper} {rest : List Oper} {o : Oper} {a : Act} {Q : Exit → Act → World → Prop} (hg : o.guard = none) (x : Operand) (hop : o.op = .makeSlice 171 x x) (n : Nat) (hl : a.eval x = .int .i64 (n : Int)) (hn : n ≤ 1024)
    (hK : ∀ w' b ys, w.heap.size ≤ b → ys.length = 64 * n → Fresh w.heap.size 175 w' (some ⟨b, 0, none⟩) (64 * n) (64 * n) ys → Below w.heap.size w w' → wpList Try.prog ops Q rest (a.put o.dst (.slice (some ⟨b, 0, none⟩) n n)) w') :
    wpList Try.prog ops Q (o :: rest) a w := by
  obtain ⟨i, z, hi, hz, hs, hb⟩ : ∃ i z, Try.prog.info? 175 = some i ∧ i.zero = some z ∧ i.size = 64 ∧ i.bytes = 256 := by
    have h1 : ((Try.prog.info? 175).map fun i => (i.zero.isSome, i.size, i.bytes)) = some (true, 64, 256) := by kernel_rfl
    obtain ⟨i, hi, h2⟩ := Option.map_eq_some_iff.1 h1
    simp only [Prod.mk.injEq] at h2
    obtain ⟨z, hz⟩ := Option.isSome_iff_exists.1 h2.1
    exact ⟨i, z, hi, hz, h2.2.1, h2.2.2⟩
  have hr := run_make (P := Try.prog) w 171 175 i z (by kernel_rfl) hi hz .i64 .i64 (n : Int) (n : Int) (by omega) (Int.le_refl _) (by rw [hb]; omega) (by omega)
  rw [Int.toNat_natCast, hs] at hr
  obtain ⟨ys, hy⟩ : ∃ ys : List Value, madeCells z.cells (n * 64) = ys.toArray := ⟨(madeCells z.cells (n * 64)).toList, rfl⟩
  have hyl : ys.length = 64 * n := by
    have h1 := size_madeCells z.cells (n * 64)
    rw [hy] at h1
    simp at h1
    omega
  rw [hy] at hr
  have hF : Fresh w.heap.size 175 (w.alloc (.cells ys.toArray 175)) (some ⟨w.heap.size, 0, none⟩) (64 * n) (64 * n) ys := Fresh.of_block (heap_alloc_new _ _) (Nat.le_refl _) hyl (by unfold maxLen; omega)
  refine wpList_plain hg fun K hK' => ?_
  have hrun : (execOp a.eval o).run Try.prog w = .ok (.value (.slice (some ⟨w.heap.size, 0, none⟩) n n)) (w.alloc (.cells ys.toArray 175)) := by
    simp only [execOp, hop, hl]
    rw [Sem.run_bind, hr]
    rfl
  unfold Oper.wp
  rw [hrun]
  exact hK' _ _ (hK _ w.heap.size ys (Nat.le_refl _) hyl hF (below_alloc _ _))
set_option maxHeartbeats 1000000 in
set_option maxRecDepth 100000 in
theorem New_yes (n : Nat) (g : Int) (h1 : 1 ≤ n) (h2 : n ≤ 1024) (h3 : 0 ≤ g) (h4 : g ≤ n) : Calls Try.prog 44 #[.int .i64 (n : Int), .int .i64 g] w fun e w' => ∃ p b, e = .returned (.tuple #[.pointer (some ⟨p, 0, none⟩), .int .i64 0]) ∧ NorAt w.heap.size w' p b (Fl.made n g) ∧ Below w.heap.size w w' := by
  have dA : decide ((n : Int) < 1) = false := by simp; omega
  have dB : decide (1024 < (n : Int)) = false := by simp; omega
  have dC : decide (g < 0) = false := by simp; omega
  have dD : decide ((n : Int) < g) = false := by simp; omega
  have H4 := Lib.hid h4
  clear h4
  go_enter Try.func44, Try.ntmps44
  go_wp2_with (first
    | (with_reducible refine wpList_mkW (o := ⟨some 24, _, _, _, _, _⟩) rfl (.tmp 23) rfl n rfl h2 ?_; intro w1 b ys hb hyl hFb hB1)
    | (with_reducible refine wpList_box (o := ⟨some 27, _, _, _, _, _⟩) rfl (.tmp 26) 173 rfl [.pointer none, .slice (some ⟨b, 0, none⟩) n n, .int .i64 g, .bool false, .int .i64 0, .bool false, .int .i64 (-1)] rfl 7 rfl (by decide) ?_; intro p w2 hp hFp hB2; have cp := hFp.cell (j := 0) rfl; have zp := hFp.frozenAt (j := 0)))
  have hpb : p ≠ b := by have := hFb.lt_size; omega
  have hF3 := hFp.store 0 (.pointer (some ⟨p, 0, none⟩))
  have hb3 : (w2.setCell ⟨p, 0, none⟩ (.pointer (some ⟨p, 0, none⟩))).heap[b]? = w2.heap[b]? := by
    simp only [World.setCell, Array.getElem?_modify]
    rw [if_neg hpb]
  have hFb3 := (hFb.below hB2).kept hb3
  have hB12 := Below.then_ hB1 hB2
  have hB3 : Below w.heap.size w (w2.setCell ⟨p, 0, none⟩ (.pointer (some ⟨p, 0, none⟩))) := hB12.setCell (Nat.le_trans hB1.size hFp.block.2) _
  have hF3' := hF3.lower hB1.size
  have hbs := hB1.size
  clear hFp hFb hB1 hB2 hB12 hF3 cp zp
  generalize (w2.setCell ⟨p, 0, none⟩ (.pointer (some ⟨p, 0, none⟩))) = w3 at *
  clear hb3
  go_loopw [33] (fun i wr => ∃ (k : Nat) (zs : List Value), k ≤ n ∧ i = .int .i64 k ∧ zs.length + 64 * k = 64 * n ∧ Fresh w.heap.size 173 wr (some ⟨p, 0, none⟩) 7 7 ((Fl.made n g).obj p b) ∧ Fresh w.heap.size 175 wr (some ⟨b, 0, none⟩) (64 * n) (64 * n) (cw (List.replicate (64 * k) 4294967295) ++ zs) ∧ Below w.heap.size w wr) (fun i _ => n - (intOf i).toNat)
  case atStart => exact ⟨0, ys, by omega, rfl, by omega, hF3', by simpa using hFb3, hB3⟩
  case round =>
    obtain ⟨k, zs, hk, rfl, hzl, hO, hR, hBr⟩ := hrel
    by_cases hlt : k < n
    · go_wp2_with fail
      refine region_all_tail 7 (eraFacts p b n (k : Int)) (by kernel_rfl) (by kernel_rfl) (by kernel_rfl) (eraFacts_stab _ _ _ _) ?_ ?_
      · intro w0 hb0
        simp only [List.take_succ_cons, List.take_zero]
        refine ⟨?_, ?_, ?_, ?_, ?_, ?_, ?_, trivial⟩
        all_goals intro listed a1 w' hk hd
        · have f2 := hk.ev_old 6 (by kernel_rfl)
          exact stepOk_value rfl (v := .pointer (some ⟨p, 0, none⟩)) (by simp [execOp]; exact f2) rfl
        · obtain ⟨v, e0, _, rfl⟩ := hk.ev_new hd 0 36 (by kernel_rfl) rfl
          exact stepOk_value rfl (v := .pointer (some ⟨p, 0, none⟩)) (by go_simp) rfl
        · obtain ⟨v, e0, _, rfl⟩ := hk.ev_new hd 1 37 (by kernel_rfl) rfl
          exact stepOk_value rfl (v := .pointer (some ⟨p, 1, none⟩)) (by go_simp) rfl
        · obtain ⟨v, e0, _, rfl⟩ := hk.ev_new hd 2 38 (by kernel_rfl) rfl
          have c1 : w'.cell? ⟨p, 1, none⟩ = some (.slice (some ⟨b, 0, none⟩) n n) := ((hO.below hb0).below hk.below).cell (j := 1) rfl
          exact stepOk_value rfl (v := .slice (some ⟨b, 0, none⟩) n n) (by go_simp) rfl
        · have f2 := hk.ev_old 7 (by kernel_rfl)
          exact stepOk_value rfl (v := .int .i64 (k : Int)) (by simp [execOp]; exact f2) rfl
        · refine stepOk_enter rfl (f := 108) (args := #[]) (by go_simp) ?_
          refine (erased_any _).mono ?_
          rintro e w5 ⟨rfl, hB5⟩
          exact ⟨_, rfl, rfl, hB5⟩
        · obtain ⟨v, e0, _, rfl⟩ := hk.ev_new hd 3 39 (by kernel_rfl) rfl
          obtain ⟨v, e1, _, rfl⟩ := hk.ev_new hd 4 40 (by kernel_rfl) rfl
          exact stepOk_value rfl (v := .pointer (some ⟨b, k * 64, none⟩)) (by go_simp) (by simp [eraFacts])
      · intro a1 w' hbw hp'
        obtain ⟨v0, p0, v1, p1, v2, p2, v3, p3, v4, p4, v5, p5, v6, p6, rfl⟩ := hp'
        simp only [eraFacts] at p0 p1 p2 p3 p4 p5 p6
        subst p0 p1 p2 p3 p4 p5 p6
        simp only [List.drop_succ_cons, List.drop_zero, Act.put, List.setIfInBounds_toArray, List.set_cons_succ, List.set_cons_zero, Int.toNat_natCast]
        refine wpList_storeN rfl rfl (.tmp 42) (.tmp 41) 175 rfl b (k * 64) w.heap.size 175 (64 * n) _ (cw ones64) rfl rfl 64 (by simp) (by kernel_rfl) (hR.below hbw) (by omega) (cw_one _) ?_
        intro w7 hF7 o1 o2 o3 o4 o5
        have e7 : splice (cw (List.replicate (64 * k) 4294967295) ++ zs) (k * 64) (cw ones64) = cw (List.replicate (64 * (k + 1)) 4294967295) ++ zs.drop 64 := by
          have e1 : (cw (List.replicate (64 * k) (4294967295 : UInt32))).length = k * 64 := by simp [Nat.mul_comm]
          unfold splice
          rw [← e1, List.take_left, List.drop_append]
          simp only [e1]
          rw [show k * 64 + (cw ones64).length - k * 64 = 64 from by simp, List.drop_of_length_le (by simp; omega), List.nil_append, ← List.append_assoc]
          congr 1
          simp only [cw, ones64, List.map_replicate, List.replicate_append_replicate]
          congr 1
        rw [e7] at hF7
        have hO7 := (hO.below hbw).kept (o5 p hpb)
        have hB7 : Below w.heap.size w w7 := by
          have h1 := Below.then_ hBr hbw
          exact ⟨o1.trans h1.os, o2.trans h1.tape, o3.trans h1.output, Nat.le_trans h1.size o4, fun q hq => (o5 q (by have := hFb3.block.2; omega)).trans (h1.block q hq)⟩
        go_wp2_with fail
        go_roundw
        case rel => exact ⟨k + 1, zs.drop 64, by omega, by go_num, by simp; omega, hO7, hF7, hB7⟩
        case measure => simp [intOf]; omega
    · obtain rfl : k = n := by omega
      obtain rfl : zs = [] := List.eq_nil_of_length_eq_zero (by omega)
      rw [List.append_nil] at hR
      go_wp2_with fail
      go_ret2
      exact ⟨p, b, rfl, ⟨hO, hR, hpb, h2, by show (0 : Nat) < _; omega⟩, hBr⟩
end
end Go.Proofs.Ytpdfalgjmeagjaa
