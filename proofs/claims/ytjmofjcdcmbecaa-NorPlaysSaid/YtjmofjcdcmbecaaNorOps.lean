/-
  What the other calls upon a flash do to it, and what they answer.
-/
import Derived.Test.YtjmofjcdcmbecaaNorProg
import Derived.Test.YtjmofjcdcmbecaaRegion
namespace Go.Proofs.Ytjmofjcdcmbecaa
open Go.RowKit
set_option linter.unusedVariables false

section
variable {w : World} {base p b : Nat} {S : Fl}
theorem Sectors_any (h : NorAt base w p b S) : Calls Try.prog 109 #[.pointer (some ⟨p, 0, none⟩)] w fun e w' => e = .returned (.int .i64 (S.n : Int)) ∧ w' = w := by
  obtain ⟨-, c1, -⟩ := h.c
  go_enter Try.func109, Try.ntmps109
  go_wp2_with fail
  refine (isFlash_any h).mono ?_
  rintro e w1 ⟨rfl, rfl⟩
  go_wp2_with fail
  go_ret
  exact ⟨rfl, rfl⟩
theorem Guard_any (h : NorAt base w p b S) : Calls Try.prog 110 #[.pointer (some ⟨p, 0, none⟩)] w fun e w' => e = .returned (.int .i64 S.guard) ∧ w' = w := by
  obtain ⟨-, -, c2, -⟩ := h.c
  go_enter Try.func110, Try.ntmps110
  go_wp2_with fail
  refine (isFlash_any h).mono ?_
  rintro e w1 ⟨rfl, rfl⟩
  go_wp2_with fail
  go_ret
  exact ⟨rfl, rfl⟩
theorem Down_any (h : NorAt base w p b S) : Calls Try.prog 111 #[.pointer (some ⟨p, 0, none⟩)] w fun e w' => e = .returned (.bool S.down) ∧ w' = w := by
  obtain ⟨-, -, -, -, -, c5, -⟩ := h.c
  go_enter Try.func111, Try.ntmps111
  go_wp2_with fail
  refine (isFlash_any h).mono ?_
  rintro e w1 ⟨rfl, rfl⟩
  go_wp2_with fail
  go_ret
  exact ⟨rfl, rfl⟩
/-- The word at a place; or the error. -/
def Fl.read (S : Fl) (s a : Int) : UInt32 × Nat := match S.down, S.place s a 1 with
  | true, _ => (0, 40)
  | false, false => (0, 2)
  | false, true => (S.ws.getD (s.toNat * 64 + a.toNat) 0, 0)
theorem Read_any (h : NorAt base w p b S) (s a : Int) (ha : -9223372036854775808 ≤ a ∧ a < 9223372036854775808) (v : UInt32) (r : Nat) (hr : S.read s a = (v, r)) :
    Calls Try.prog 49 #[.pointer (some ⟨p, 0, none⟩), .int .i64 s, .int .i64 a] w fun e w' => e = .returned (.tuple #[.int .u32 (v.toNat : Int), .int .i64 (r : Int)]) ∧ w' = w := by
  have hpw := power_any h
  have hpl := hasPlace_any h s a 1 ha
  obtain ⟨-, c1, -⟩ := h.c
  clear ha
  cases hd : S.down
  · rw [show S.power = 0 from by simp [Fl.power, hd]] at hpw
    cases hp : S.place s a 1
    · obtain ⟨rfl, rfl⟩ : 0 = v ∧ 2 = r := by simpa [Fl.read, hd, hp] using hr
      rw [hp] at hpl
      clear hr hd hp
      go_enter Try.func49, Try.ntmps49
      go_wp2_with fail
      refine hpw.mono ?_
      rintro e w1 ⟨rfl, rfl⟩
      go_wp2_with fail
      refine hpl.mono ?_
      rintro e w2 ⟨rfl, rfl⟩
      go_wp2_with fail
      go_ret2
      exact ⟨rfl, rfl⟩
    · obtain ⟨σ, α, rfl, rfl, h1, h2⟩ := Fl.place_out hp
      obtain ⟨y, hy, hcy⟩ := h.word_at (j := σ * 64 + α) (by omega)
      obtain ⟨rfl, rfl⟩ : y = v ∧ 0 = r := by
        simp only [Fl.read, hd, hp, Prod.mk.injEq, Int.toNat_natCast, List.getD_eq_getElem?_getD, hy, Option.getD_some] at hr
        exact hr
      rw [hp] at hpl
      clear hr hd hp hy
      go_enter Try.func49, Try.ntmps49
      go_wp2_with fail
      refine hpw.mono ?_
      rintro e w1 ⟨rfl, rfl⟩
      go_wp2_with fail
      refine hpl.mono ?_
      rintro e w2 ⟨rfl, rfl⟩
      go_wp2_with fail
      go_ret2
      exact ⟨rfl, rfl⟩
  · rw [show S.power = 40 from by simp [Fl.power, hd]] at hpw
    obtain ⟨rfl, rfl⟩ : 0 = v ∧ 40 = r := by simpa [Fl.read, hd] using hr
    clear hr hd
    go_enter Try.func49, Try.ntmps49
    go_wp2_with fail
    refine hpw.mono ?_
    rintro e w1 ⟨rfl, rfl⟩
    go_wp2_with fail
    go_ret2
    exact ⟨rfl, rfl⟩
/-- All of Program. -/
theorem Program_off (h : NorAt base w p b S) (s a : Int) (ha : -9223372036854775808 ≤ a ∧ a < 9223372036854775808) (m c : Nat) (A : Option Addr) (l : List UInt32) (hs : Off p b w A (cw l)) (hl : l.length = m) (S' : Fl) (r : Nat) (hr : S.program s a l = (S', r)) :
    Calls Try.prog 39 #[.pointer (some ⟨p, 0, none⟩), .int .i64 s, .int .i64 a, .slice A m c] w
      fun e w' => e = .returned (.int .i64 (r : Int)) ∧ NorAt base w' p b S' ∧ But p b w w' := by
  have hpw := power_any h
  have hpl := hasPlace_any h s a m ha
  unfold Fl.program at hr
  rw [hl] at hr
  cases hd : S.down
  · rw [show S.power = 0 from by simp [Fl.power, hd]] at hpw
    cases hp : S.place s a m
    · obtain ⟨rfl, rfl⟩ : S = S' ∧ 2 = r := by simpa [hd, hp] using hr
      rw [hp] at hpl
      clear hr hd hp hl hs ha
      go_enter Try.func39, Try.ntmps39
      go_wp2_with fail
      refine hpw.mono ?_
      rintro e w1 ⟨rfl, rfl⟩
      go_wp2_with fail
      refine hpl.mono ?_
      rintro e w2 ⟨rfl, rfl⟩
      go_wp2_with fail
      go_ret
      exact ⟨rfl, h, But.refl _ _ _⟩
    · obtain ⟨σ, α, rfl, rfl, h1, h2⟩ := Fl.place_out hp
      obtain ⟨T, q, hq⟩ : ∃ T q, S.prog (σ * 64 + α) l = (T, q) := ⟨_, _, rfl⟩
      refine (prog_off h σ α m c A l hs hl hd h1 h2 T q hq).mono ?_
      rintro e w' ⟨rfl, hT, hBt⟩
      simp only [hd, hp, Int.toNat_natCast, hq] at hr
      cases q
      · simp only [Prod.mk.injEq] at hr
        obtain ⟨rfl, rfl⟩ := hr
        exact ⟨rfl, hT, hBt⟩
      · simp only [Prod.mk.injEq] at hr
        obtain ⟨rfl, rfl⟩ := hr
        exact ⟨rfl, hT, hBt⟩
  · rw [show S.power = 40 from by simp [Fl.power, hd]] at hpw
    obtain ⟨rfl, rfl⟩ : S = S' ∧ 40 = r := by simpa [hd] using hr
    clear hr hd hl hs ha
    go_enter Try.func39, Try.ntmps39
    go_wp2_with fail
    refine hpw.mono ?_
    rintro e w1 ⟨rfl, rfl⟩
    go_wp2_with fail
    go_ret
    exact ⟨rfl, h, But.refl _ _ _⟩
theorem Program_any (h : NorAt base w p b S) (s a : Int) (ha : -9223372036854775808 ≤ a ∧ a < 9223372036854775808) (m c : Nat) (A : Option Addr) (l : List UInt32) (hB : base ≤ w.heap.size) (hs : Sees w base A (cw l)) (hl : l.length = m) (S' : Fl) (r : Nat) (hr : S.program s a l = (S', r)) :
    Calls Try.prog 39 #[.pointer (some ⟨p, 0, none⟩), .int .i64 s, .int .i64 a, .slice A m c] w
      fun e w' => e = .returned (.int .i64 (r : Int)) ∧ NorAt base w' p b S' ∧ But p b w w' :=
  Program_off h s a ha m c A l (Off.of h hB hs) hl S' r hr
/-- Armed, if it is not down. -/
def Fl.arm (S : Fl) (k : Int) : Fl := match S.down with
  | true => S
  | false => { S with armed := true, left := k.toNat }
theorem Arm_any (h : NorAt base w p b S) (k : Int) (hk : k < 9223372036854775808) :
    Calls Try.prog 45 #[.pointer (some ⟨p, 0, none⟩), .int .i64 k] w fun e w' => e = .returned (.tuple #[]) ∧ NorAt base w' p b (S.arm k) ∧ But p b w w' := by
  have hpw := power_any h
  obtain ⟨-, -, -, c3, c4, -, -⟩ := h.c
  have z3 := h.z 3
  have z4 := h.z 4
  cases hd : S.down
  · rw [show S.power = 0 from by simp [Fl.power, hd]] at hpw
    rw [show S.arm k = { S with armed := true, left := k.toNat } from by simp [Fl.arm, hd]]
    have HK := Lib.hid hk
    clear hk hd
    go_enter Try.func45, Try.ntmps45
    go_wp2_with fail
    refine hpw.mono ?_
    rintro e w1 ⟨rfl, rfl⟩
    have key : ∀ (x : Int), x = (k.toNat : Int) → NorAt base ((w1.setCell ⟨p, 3, none⟩ (.bool true)).setCell ⟨p, 4, none⟩ (.int .i64 x)) p b { S with armed := true, left := k.toNat } ∧ But p b w1 ((w1.setCell ⟨p, 3, none⟩ (.bool true)).setCell ⟨p, 4, none⟩ (.int .i64 x)) := by
      rintro x rfl
      refine ⟨?_, (But.set p b p 3 _ (.inl rfl)).then_ (But.set p b p 4 _ (.inl rfl))⟩
      have h1 := h.field 3 (.bool true) { S with armed := true } rfl rfl rfl h.left_le
      exact h1.field 4 (.int .i64 (k.toNat : Int)) { S with armed := true, left := k.toNat } rfl rfl rfl (by have := HK.out; show k.toNat < _; omega)
    by_cases h0 : 0 ≤ k
    · go_wp2_with fail
      go_end0
      exact ⟨rfl, key k (by omega)⟩
    · go_wp2_with fail
      go_end0
      exact ⟨rfl, key 0 (by omega)⟩
  · rw [show S.power = 40 from by simp [Fl.power, hd]] at hpw
    rw [show S.arm k = S from by simp [Fl.arm, hd]]
    clear hk hd
    go_enter Try.func45, Try.ntmps45
    go_wp2_with fail
    refine hpw.mono ?_
    rintro e w1 ⟨rfl, rfl⟩
    go_wp2_with fail
    (try simp only [Exit.inBlock, Exit.then])
    refine bodyPost_ret (results_none rfl _ _ _) rfl ?_
    exact ⟨rfl, h, But.refl _ _ _⟩
/-- Another hand's words. -/
def Fl.rewrite (S : Fl) (s a : Int) (l : List UInt32) : Fl × Nat := match S.place s a l.length, decide (s < S.guard) with
  | false, _ => (S, 2)
  | true, true => (S, 41)
  | true, false => ({ S with ws := splice S.ws (s.toNat * 64 + a.toNat) l }, 0)
set_option maxHeartbeats 1000000 in
set_option maxRecDepth 100000 in
theorem Rewrite_any (h : NorAt base w p b S) (s a : Int) (ha : -9223372036854775808 ≤ a ∧ a < 9223372036854775808) (m c : Nat) (A : Option Addr) (l : List UInt32) (hB : base ≤ w.heap.size) (hs : Sees w base A (cw l)) (hl : l.length = m) (S' : Fl) (r : Nat) (hr : S.rewrite s a l = (S', r)) :
    Calls Try.prog 43 #[.pointer (some ⟨p, 0, none⟩), .int .i64 s, .int .i64 a, .slice A m c] w
      fun e w' => e = .returned (.int .i64 (r : Int)) ∧ NorAt base w' p b S' ∧ But p b w w' := by
  have hpl := hasPlace_any h s a m ha
  unfold Fl.rewrite at hr
  rw [hl] at hr
  obtain ⟨-, c1, c2, -⟩ := h.c
  cases hp : S.place s a m
  · obtain ⟨rfl, rfl⟩ : S = S' ∧ 2 = r := by simpa [hp] using hr
    rw [hp] at hpl
    clear hr hp hl hs ha
    go_enter Try.func43, Try.ntmps43
    go_wp2_with fail
    refine (isFlash_any h).mono ?_
    rintro e w1 ⟨rfl, rfl⟩
    go_wp2_with fail
    refine hpl.mono ?_
    rintro e w2 ⟨rfl, rfl⟩
    go_wp2_with fail
    go_ret
    exact ⟨rfl, h, But.refl _ _ _⟩
  · obtain ⟨σ, α, rfl, rfl, h1, h2⟩ := Fl.place_out hp
    rw [hp] at hpl
    by_cases hg : (σ : Int) < S.guard
    · obtain ⟨rfl, rfl⟩ : S = S' ∧ 41 = r := by simpa [hp, hg] using hr
      clear hr hp hl hs ha
      go_enter Try.func43, Try.ntmps43
      go_wp2_with fail
      refine (isFlash_any h).mono ?_
      rintro e w1 ⟨rfl, rfl⟩
      go_wp2_with fail
      refine hpl.mono ?_
      rintro e w2 ⟨rfl, rfl⟩
      go_wp2_with fail
      go_ret
      exact ⟨rfl, h, But.refl _ _ _⟩
    · obtain ⟨rfl, rfl⟩ : { S with ws := splice S.ws (σ * 64 + α) l } = S' ∧ 0 = r := by simpa [hp, hg] using hr
      have HL := Lib.hid hl
      have HN := h.n_le
      have HLEN := Lib.hid h.len
      obtain ⟨hp1, hb1, hp2, hb2⟩ := h.lt
      clear hr hp hl ha
      go_enter Try.func43, Try.ntmps43
      go_wp2_with fail
      refine (isFlash_any h).mono ?_
      rintro e w1 ⟨rfl, rfl⟩
      go_wp2_with fail
      refine hpl.mono ?_
      rintro e w2 ⟨rfl, rfl⟩
      clear hpl
      go_wp2_with fail
      go_loopw [28] (fun i wr => ∃ k : Nat, k ≤ m ∧ i = .int .i64 k ∧ NorAt base wr p b { S with ws := splice S.ws (σ * 64 + α) (l.take k) } ∧ But p b w2 wr) (fun i _ => m - (intOf i).toNat)
      case atStart => exact ⟨0, by omega, rfl, by simpa [splice] using h, But.refl _ _ _⟩
      case round =>
        obtain ⟨k, hk, rfl, hT, hBw⟩ := hrel
        by_cases hlt : k < m
        · have hs3 := hs.below (hBw.below hp2 hb2 hB)
          obtain ⟨g, o, rfl, hg, x, HX, hx', hcx⟩ := hs3.word HL.out hlt
          obtain ⟨-, d1, -⟩ := hT.c
          obtain ⟨y, hy, hcy⟩ := hT.word_at (j := σ * 64 + (α + k)) (by show _ < 64 * S.n; omega)
          have hzy := hT.zr (σ * 64 + (α + k))
          have hw1 := wrapI ((α : Int) + (k : Int)) (by omega) (by omega)
          clear hy hs hs3 c1 c2
          go_wp2_with fail
          refine region_qtail 14 (by kernel_rfl) (by kernel_rfl) ?_
          simp only [List.take_succ_cons, List.take_zero, List.drop_succ_cons, List.drop_zero]
          repeat (go_big_quiet_step (fail))
          refine wpQuiet_nil ?_
          rintro _ ⟨nq, rfl⟩
          go_wp2_with fail
          go_roundw
          case rel =>
            have hT2 := (hT.below (below_drewN' (Below.refl _ _) nq)).word (σ * 64 + (α + k)) x
            have hX := HX.out
            have hkl : k < l.length := by rw [HL.out]; exact hlt
            have hxe : l[k] = x := (List.getElem?_eq_some_iff.1 hX).2
            have e1 : (splice S.ws (σ * 64 + α) (l.take k)).set (σ * 64 + (α + k)) x = splice S.ws (σ * 64 + α) (l.take (k + 1)) := by
              rw [← hxe, ← Nat.add_assoc]
              exact splice_step _ _ _ _ hkl (by rw [HL.out, HLEN.out]; omega)
            rw [e1] at hT2
            exact ⟨k + 1, by omega, by go_num, hT2, (hBw.then_ (But.of_below (below_drewN' (Below.refl _ _) nq))).then_ (But.set p b b _ _ (.inr rfl))⟩
          case measure => simp [intOf]; omega
        · obtain rfl : k = m := by omega
          rw [List.take_of_length_le (by rw [HL.out]; exact Nat.le_refl _)] at hT
          clear c1 c2
          go_wp2_with fail
          go_ret
          exact ⟨rfl, hT, hBw⟩
end
end Go.Proofs.Ytjmofjcdcmbecaa
