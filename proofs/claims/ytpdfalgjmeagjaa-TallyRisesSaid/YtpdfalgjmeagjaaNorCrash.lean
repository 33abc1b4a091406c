/-
  What a crash does to a flash.
-/
import Derived.Test.YtpdfalgjmeagjaaNors
namespace Go.Proofs.Ytpdfalgjmeagjaa
open Go.RowKit
set_option linter.unusedVariables false

/-- The cells of bools. -/
abbrev cl (l : List Bool) : List Value := l.map Value.bool
/-- Ones, from a place on, where it is told. -/
def mask (ws : List UInt32) (j : Nat) : List Bool → List UInt32
  | [] => ws
  | true :: l => mask (ws.set j 4294967295) (j + 1) l
  | false :: l => mask ws (j + 1) l
def Fl.crash (S : Fl) (ks : List Bool) : Fl := match decide (S.half = -1) with
  | true => { S with half := -1, down := false, armed := false }
  | false => { S with ws := mask S.ws (S.half.toNat * 64) (ks.take 64), half := -1, down := false, armed := false }
/-- What is half erased is a sector. -/
def Fl.Ok (S : Fl) : Prop := S.half = -1 ∨ ∃ σ : Nat, S.half = (σ : Int) ∧ σ < S.n
theorem Sees.bool {w : World} {B : Nat} {A : Option Addr} {l : List Bool} {n k : Nat} (h : Sees w B A (cl l)) (hl : l.length = n) (hk : k < n) :
    ∃ b o, A = some ⟨b, o, none⟩ ∧ b < B ∧ ∃ c : Bool, Hid (l[k]? = some c) ∧ w.cell? ⟨b, o + k, none⟩ = some (.bool c) := by
  obtain ⟨b, o, e, hb, hc⟩ := h.at_ (k := k) (by simp; omega)
  exact ⟨b, o, e, hb, l[k]'(by omega), List.getElem?_eq_getElem (by omega), by simpa using hc⟩

section
variable {w : World} {base p b : Nat} {S : Fl}
theorem NorAt.up (h : NorAt base w p b S) (T : Fl) (e1 : T.n = S.n) (e2 : T.ws = S.ws) (e3 : T.guard = S.guard) (e4 : T.left = S.left) (f3 : T.armed = false) (f5 : T.down = false) (f6 : T.half = -1) :
    NorAt base (((w.setCell ⟨p, 6, none⟩ (.int .i64 (-1))).setCell ⟨p, 5, none⟩ (.bool false)).setCell ⟨p, 3, none⟩ (.bool false)) p b T := by
  obtain ⟨n, ws, g, ar, l, d, hf⟩ := T
  simp only at e1 e2 e3 e4 f3 f5 f6
  subst e1 e2 e3 e4 f3 f5 f6
  have h1 := h.field 6 (.int .i64 (-1)) { S with half := -1 } rfl rfl rfl h.left_le
  have h2 := h1.field 5 (.bool false) { S with half := -1, down := false } rfl rfl rfl h.left_le
  exact h2.field 3 (.bool false) { S with half := -1, down := false, armed := false } rfl rfl rfl h.left_le
theorem But.up (p b : Nat) (w : World) : But p b w (((w.setCell ⟨p, 6, none⟩ (.int .i64 (-1))).setCell ⟨p, 5, none⟩ (.bool false)).setCell ⟨p, 3, none⟩ (.bool false)) :=
  ((But.set p b p 6 _ (.inl rfl)).then_ (But.set p b p 5 _ (.inl rfl))).then_ (But.set p b p 3 _ (.inl rfl))
set_option maxHeartbeats 1000000 in
set_option maxRecDepth 100000 in
theorem Crash_any (h : NorAt base w p b S) (hok : S.Ok) (A : Option Addr) (m c : Nat) (ks : List Bool) (hB : base ≤ w.heap.size) (hs : Sees w base A (cl ks)) (hl : ks.length = m) :
    Calls Try.prog 35 #[.pointer (some ⟨p, 0, none⟩), .slice A m c] w fun e w' => e = .returned (.tuple #[]) ∧ NorAt base w' p b (S.crash ks) ∧ But p b w w' := by
  obtain ⟨hp1, hb1, hp2, hb2⟩ := h.lt
  rcases hok with hh | ⟨σ, hh, hσ⟩
  · rw [show S.crash ks = { S with half := -1, down := false, armed := false } from by simp [Fl.crash, hh]]
    obtain ⟨-, -, -, c3, -, c5, c6⟩ := h.c
    have z3 := h.z 3
    have z5 := h.z 5
    have z6 := h.z 6
    rw [hh] at c6
    clear hl hs hh
    go_enter Try.func35, Try.ntmps35
    go_wp2_with fail
    refine (isFlash_any h).mono ?_
    rintro e w1 ⟨rfl, rfl⟩
    go_wp2_with fail
    go_end0
    exact ⟨rfl, h.up _ rfl rfl rfl rfl rfl rfl rfl, But.up p b w1⟩
  · rw [show S.crash ks = { S with ws := mask S.ws (σ * 64) (ks.take 64), half := -1, down := false, armed := false } from by simp [Fl.crash, hh]]
    obtain ⟨-, c1, -, -, -, -, c6⟩ := h.c
    have HL := Lib.hid hl
    obtain ⟨M, hM⟩ : ∃ M, min m 64 = M := ⟨_, rfl⟩
    have HT := Lib.hid (show (ks.take 64).length = M by rw [List.length_take, hl, Nat.min_comm]; exact hM)
    have hM1 : M ≤ m := by omega
    have hM2 : M ≤ 64 := by omega
    have hd : ((σ : Int) != -1) = true := by simp
    rw [hh] at c6
    have HM := Lib.hid hM
    have HH := Lib.hid hh
    clear hl hh hM
    have hN := h
    clear h
    go_enter Try.func35, Try.ntmps35
    go_wp2_with fail
    refine (isFlash_any hN).mono ?_
    rintro e w1 ⟨rfl, rfl⟩
    by_cases hm : m ≤ 64
    · obtain rfl : M = m := by rw [← HM.out, Nat.min_eq_left hm]
      go_wp2_with fail
      go_loopw [16] (fun i wr => ∃ (k : Nat) (ws : List UInt32), k ≤ M ∧ i = .int .i64 k ∧ NorAt base wr p b { S with ws := ws } ∧ But p b w1 wr ∧ Hid (mask ws (σ * 64 + k) ((ks.take 64).drop k) = mask S.ws (σ * 64) (ks.take 64))) (fun i _ => M - (intOf i).toNat)
      case atStart => exact ⟨0, S.ws, by omega, rfl, hN, But.refl _ _ _, Lib.hid rfl⟩
      case round =>
        obtain ⟨k, ws, hk, rfl, hT, hBw, HP⟩ := hrel
        by_cases hlt : k < M
        · have hs3 := hs.below (hBw.below hp2 hb2 hB)
          obtain ⟨g, o, rfl, hg, x, HX, hcx⟩ := hs3.bool HL.out (Nat.lt_of_lt_of_le hlt hM1)
          have hdr : (ks.take 64).drop k = x :: (ks.take 64).drop (k + 1) := by
            rw [List.drop_eq_getElem_cons (by rw [HT.out]; exact hlt)]
            congr 1
            rw [List.getElem_take]
            exact (List.getElem?_eq_some_iff.1 HX.out).2
          have hpr := HP.out
          rw [hdr] at hpr
          have HPR := Lib.hid hpr
          obtain ⟨-, d1, -, -, -, -, d6⟩ := hT.c
          have d6' : wr.cell? ⟨p, 6, none⟩ = some (.int .i64 (σ : Int)) := by rw [d6]; show some (Value.int .i64 S.half) = _; rw [HH.out]
          obtain ⟨y, hy, hcy⟩ := hT.word_at (j := σ * 64 + k) (by show _ < 64 * S.n; omega)
          have hzy := hT.zr (σ * 64 + k)
          clear hy hs hs3 c1 c6 hpr hdr d6 hm
          cases x
          · go_wp2_with fail
            go_roundw
            case rel =>
              refine ⟨k + 1, ws, by omega, by go_num, hT, hBw, Lib.hid ?_⟩
              exact HPR.out
            case measure => simp [intOf]; omega
          · go_wp2_with fail
            refine region_qtail 11 (by kernel_rfl) (by kernel_rfl) ?_
            simp only [List.take_succ_cons, List.take_zero, List.drop_succ_cons, List.drop_zero]
            repeat (go_big_quiet_step (fail))
            refine wpQuiet_nil ?_
            rintro _ ⟨nq, rfl⟩
            go_wp2_with fail
            go_roundw
            case rel =>
              have hT2 := (hT.below (below_drewN' (Below.refl _ _) nq)).word (σ * 64 + k) 4294967295
              refine ⟨k + 1, ws.set (σ * 64 + k) 4294967295, by omega, by go_num, hT2, (hBw.then_ (But.of_below (below_drewN' (Below.refl _ _) nq))).then_ (But.set p b b _ _ (.inr rfl)), Lib.hid ?_⟩
              exact HPR.out
            case measure => simp [intOf]; omega
        · obtain rfl : k = M := by omega
          have hpr := HP.out
          rw [List.drop_of_length_le (by rw [HT.out]; exact Nat.le_refl _)] at hpr
          obtain rfl : ws = mask S.ws (σ * 64) (ks.take 64) := hpr
          obtain ⟨-, d1, -, d3, -, d5, d6⟩ := hT.c
          have z3 := hT.z 3
          have z5 := hT.z 5
          have z6 := hT.z 6
          clear c1 c6 hm
          go_wp2_with fail
          go_end0
          exact ⟨rfl, hT.up _ rfl rfl rfl rfl rfl rfl rfl, hBw.then_ (But.up p b _)⟩
    · go_wp2_with fail
      rw [show (64 : Int) = (M : Int) from by rw [← HM.out, Nat.min_eq_right (by omega)]; rfl]
      go_loopw [16] (fun i wr => ∃ (k : Nat) (ws : List UInt32), k ≤ M ∧ i = .int .i64 k ∧ NorAt base wr p b { S with ws := ws } ∧ But p b w1 wr ∧ Hid (mask ws (σ * 64 + k) ((ks.take 64).drop k) = mask S.ws (σ * 64) (ks.take 64))) (fun i _ => M - (intOf i).toNat)
      case atStart => exact ⟨0, S.ws, by omega, rfl, hN, But.refl _ _ _, Lib.hid rfl⟩
      case round =>
        obtain ⟨k, ws, hk, rfl, hT, hBw, HP⟩ := hrel
        by_cases hlt : k < M
        · have hs3 := hs.below (hBw.below hp2 hb2 hB)
          obtain ⟨g, o, rfl, hg, x, HX, hcx⟩ := hs3.bool HL.out (Nat.lt_of_lt_of_le hlt hM1)
          have hdr : (ks.take 64).drop k = x :: (ks.take 64).drop (k + 1) := by
            rw [List.drop_eq_getElem_cons (by rw [HT.out]; exact hlt)]
            congr 1
            rw [List.getElem_take]
            exact (List.getElem?_eq_some_iff.1 HX.out).2
          have hpr := HP.out
          rw [hdr] at hpr
          have HPR := Lib.hid hpr
          obtain ⟨-, d1, -, -, -, -, d6⟩ := hT.c
          have d6' : wr.cell? ⟨p, 6, none⟩ = some (.int .i64 (σ : Int)) := by rw [d6]; show some (Value.int .i64 S.half) = _; rw [HH.out]
          obtain ⟨y, hy, hcy⟩ := hT.word_at (j := σ * 64 + k) (by show _ < 64 * S.n; omega)
          have hzy := hT.zr (σ * 64 + k)
          clear hy hs hs3 c1 c6 hpr hdr d6 hm
          cases x
          · go_wp2_with fail
            go_roundw
            case rel =>
              refine ⟨k + 1, ws, by omega, by go_num, hT, hBw, Lib.hid ?_⟩
              exact HPR.out
            case measure => simp [intOf]; omega
          · go_wp2_with fail
            refine region_qtail 11 (by kernel_rfl) (by kernel_rfl) ?_
            simp only [List.take_succ_cons, List.take_zero, List.drop_succ_cons, List.drop_zero]
            repeat (go_big_quiet_step (fail))
            refine wpQuiet_nil ?_
            rintro _ ⟨nq, rfl⟩
            go_wp2_with fail
            go_roundw
            case rel =>
              have hT2 := (hT.below (below_drewN' (Below.refl _ _) nq)).word (σ * 64 + k) 4294967295
              refine ⟨k + 1, ws.set (σ * 64 + k) 4294967295, by omega, by go_num, hT2, (hBw.then_ (But.of_below (below_drewN' (Below.refl _ _) nq))).then_ (But.set p b b _ _ (.inr rfl)), Lib.hid ?_⟩
              exact HPR.out
            case measure => simp [intOf]; omega
        · obtain rfl : k = M := by omega
          have hpr := HP.out
          rw [List.drop_of_length_le (by rw [HT.out]; exact Nat.le_refl _)] at hpr
          obtain rfl : ws = mask S.ws (σ * 64) (ks.take 64) := hpr
          obtain ⟨-, d1, -, d3, -, d5, d6⟩ := hT.c
          have z3 := hT.z 3
          have z5 := hT.z 5
          have z6 := hT.z 6
          clear c1 c6 hm
          go_wp2_with fail
          go_end0
          exact ⟨rfl, hT.up _ rfl rfl rfl rfl rfl rfl rfl, hBw.then_ (But.up p b _)⟩
end
end Go.Proofs.Ytpdfalgjmeagjaa
