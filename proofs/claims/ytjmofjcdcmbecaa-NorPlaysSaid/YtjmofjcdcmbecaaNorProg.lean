/-
  What Program does to a flash: word by word, each a step.
-/
import Derived.Test.YtjmofjcdcmbecaaNorLeaf
import Derived.Test.YtjmofjcdcmbecaaLow
import Derived.Laws.BitsAll
import Derived.Test.YtjmofjcdcmbecaaQTail
namespace Go.Proofs.Ytjmofjcdcmbecaa
open Go.RowKit
set_option linter.unusedVariables false

theorem and32 (a b : UInt32) : bits .and .u32 (a.toNat : Int) (b.toNat : Int) = ((a &&& b).toNat : Int) := by
  rw [u32_and_nat _ _ a.toNat_lt b.toNat_lt, UInt32.toNat_and]
def Fl.put1 (S : Fl) (j : Nat) (x : UInt32) : Fl := { S with ws := S.ws.set j (S.ws.getD j 0 &&& x) }
def Fl.prog (S : Fl) (j : Nat) : List UInt32 → Fl × Bool
  | [] => (S, true)
  | x :: l => match S.step with
    | (T, true) => (T.put1 j x).prog (j + 1) l
    | (T, false) => (T, false)
def Fl.program (S : Fl) (s a : Int) (l : List UInt32) : Fl × Nat := match S.down, S.place s a l.length with
  | true, _ => (S, 40)
  | false, false => (S, 2)
  | false, true => match S.prog (s.toNat * 64 + a.toNat) l with
    | (T, true) => (T, 0)
    | (T, false) => (T, 40)
theorem Fl.step_n (S : Fl) : S.step.1.n = S.n := by
  obtain ⟨n, ws, g, ar, l, d, hf⟩ := S
  cases ar
  · rfl
  · cases l <;> rfl
theorem Fl.place_out {S : Fl} {s a : Int} {m : Nat} (h : S.place s a m = true) : ∃ σ α : Nat, s = (σ : Int) ∧ a = (α : Int) ∧ σ < S.n ∧ α + m ≤ 64 := by
  simp [Fl.place, Fl.sector] at h
  obtain ⟨⟨⟨h1, h2⟩, h3⟩, h4⟩ := h
  obtain ⟨σ, rfl⟩ := Int.eq_ofNat_of_zero_le h1
  obtain ⟨α, rfl⟩ := Int.eq_ofNat_of_zero_le h3
  exact ⟨σ, α, rfl, rfl, by omega, by omega⟩
section
variable {w : World} {base p b : Nat} {S : Fl}
set_option maxHeartbeats 1000000 in
set_option maxRecDepth 100000 in
theorem prog_off (h : NorAt base w p b S) (σ α m c : Nat) (A : Option Addr) (l : List UInt32) (hs : Off p b w A (cw l)) (hl : l.length = m) (hd : S.down = false) (hσ : σ < S.n) (hα : α + m ≤ 64) (S' : Fl) (r : Bool) (hr : S.prog (σ * 64 + α) l = (S', r)) :
    Calls Try.prog 39 #[.pointer (some ⟨p, 0, none⟩), .int .i64 (σ : Int), .int .i64 (α : Int), .slice A m c] w
      fun e w' => e = .returned (.int .i64 (if r then 0 else 40)) ∧ NorAt base w' p b S' ∧ But p b w w' := by
  have hpw := power_any h
  rw [show S.power = 0 from by simp [Fl.power, hd]] at hpw
  have hpl := hasPlace_any h (σ : Int) (α : Int) m (by omega)
  rw [show S.place (σ : Int) (α : Int) m = true from by simp [Fl.place, Fl.sector]; omega] at hpl
  have HN := h.n_le
  have HL := Lib.hid hl
  have HR := Lib.hid hr
  have HD := Lib.hid hd
  clear hl hr hd
  go_enter Try.func39, Try.ntmps39
  go_wp2_with fail
  refine hpw.mono ?_
  rintro e w1 ⟨rfl, rfl⟩
  go_wp2_with fail
  refine hpl.mono ?_
  rintro e w2 ⟨rfl, rfl⟩
  clear hpw hpl
  go_wp2_with fail
  go_loopw [25] (fun i wr => ∃ (k : Nat) (T : Fl), k ≤ m ∧ i = .int .i64 k ∧ NorAt base wr p b T ∧ But p b w2 wr ∧ T.n = S.n ∧ Hid (T.prog (σ * 64 + α + k) (l.drop k) = (S', r))) (fun i _ => m - (intOf i).toNat)
  case atStart => exact ⟨0, S, by omega, rfl, h, But.refl _ _ _, rfl, Lib.hid (by simpa using HR.out)⟩
  case round =>
    obtain ⟨k, T, hk, rfl, hT, hBw, hTn, HP⟩ := hrel
    by_cases hlt : k < m
    · obtain ⟨hp1, hb1, hp2, hb2⟩ := h.lt
      have hsr := hs _ hBw
      obtain ⟨x, hx⟩ : ∃ x, l[k]? = some x := ⟨_, List.getElem?_eq_getElem (by rw [HL.out]; exact hlt)⟩
      have hdr : l.drop k = x :: l.drop (k + 1) := by
        rw [List.drop_eq_getElem_cons (by rw [HL.out]; exact hlt)]
        congr 1
        exact (List.getElem?_eq_some_iff.1 hx).2
      obtain ⟨T1, r1, hst⟩ : ∃ T1 r1, T.step = (T1, r1) := ⟨_, _, rfl⟩
      have hn1 : T1.n = S.n := by have := Fl.step_n T; rw [hst] at this; rw [← hTn]; exact this
      have hpr := HP.out
      rw [hdr, Fl.prog, hst] at hpr
      go_wp2_with fail
      refine (step_any hT T1 r1 hst).mono ?_
      rintro e w3 ⟨rfl, hT1, hB1⟩
      have hBn := hBw.then_ hB1
      cases r1
      · simp only [Prod.mk.injEq] at hpr
        obtain ⟨rfl, rfl⟩ := hpr
        go_wp2_with fail
        go_ret
        exact ⟨rfl, hT1, hBn⟩
      · simp only at hpr
        have hs3 := hs _ hBn
        have hw1 := wrapI ((α : Int) + (k : Int)) (by omega) (by omega)
        have HPR := Lib.hid hpr
        have HX1 := Lib.hid hx
        clear hpr hst hdr hx hs hsr
        go_wp2_with fail
        obtain ⟨g, o, rfl, hg, x', HX, hx', hcx⟩ := hs3.word HL.out hlt
        obtain rfl : x' = x := by have := HX.out; rw [HX1.out] at this; injection this with this; exact this.symm
        obtain ⟨-, c1, -⟩ := hT1.c
        obtain ⟨y, hy, hcy⟩ := hT1.word_at (j := σ * 64 + (α + k)) (by rw [hn1]; omega)
        have HY := Lib.hid hy
        have hzy := hT1.zr (σ * 64 + (α + k))
        rw [hn1] at c1
        clear hy
        refine region_qtail 18 (by kernel_rfl) (by kernel_rfl) ?_
        simp only [List.take_succ_cons, List.take_zero, List.drop_succ_cons, List.drop_zero]
        repeat (go_big_quiet_step (fail))
        refine wpQuiet_nil ?_
        rintro _ ⟨nq, rfl⟩
        go_wp2_with fail
        go_roundw
        case rel =>
          rw [and32]
          have hT2 := (hT1.below (below_drewN' (Below.refl _ _) nq)).word (σ * 64 + (α + k)) (y &&& x')
          have e1 : { T1 with ws := T1.ws.set (σ * 64 + (α + k)) (y &&& x') } = T1.put1 (σ * 64 + α + k) x' := by
            unfold Fl.put1
            rw [Nat.add_assoc, List.getD_eq_getElem?_getD, HY.out]
            rfl
          rw [e1] at hT2
          refine ⟨k + 1, _, by omega, by go_num, hT2, ?_, hn1, Lib.hid ?_⟩
          · exact (hBn.then_ (But.of_below (below_drewN' (Below.refl _ _) nq))).then_ (But.set p b b _ _ (.inr rfl))
          · have := HPR.out
            rwa [Nat.add_assoc (σ * 64 + α) k 1] at this
        case measure => simp [intOf]; omega
    · obtain rfl : k = m := by omega
      have hpr := HP.out
      rw [List.drop_of_length_le (by rw [HL.out]; exact Nat.le_refl _), Fl.prog] at hpr
      simp only [Prod.mk.injEq] at hpr
      obtain ⟨rfl, rfl⟩ := hpr
      go_wp2_with fail
      go_ret
      exact ⟨rfl, hT, hBw⟩
theorem prog_main (h : NorAt base w p b S) (σ α m c : Nat) (A : Option Addr) (l : List UInt32) (hB : base ≤ w.heap.size) (hs : Sees w base A (cw l)) (hl : l.length = m) (hd : S.down = false) (hσ : σ < S.n) (hα : α + m ≤ 64) (S' : Fl) (r : Bool) (hr : S.prog (σ * 64 + α) l = (S', r)) :
    Calls Try.prog 39 #[.pointer (some ⟨p, 0, none⟩), .int .i64 (σ : Int), .int .i64 (α : Int), .slice A m c] w
      fun e w' => e = .returned (.int .i64 (if r then 0 else 40)) ∧ NorAt base w' p b S' ∧ But p b w w' :=
  prog_off h σ α m c A l (Off.of h hB hs) hl hd hσ hα S' r hr
end
end Go.Proofs.Ytjmofjcdcmbecaa
