/-
  NorTwice returns true for every input, and writes nothing that was there: the walk.
-/
import Derived.Test.YtmeloffdaninmaaNorSec
import Derived.Test.YtmeloffdaninmaaNorAwake
import Derived.Test.YtmeloffdaninmaaPick
namespace Go.Proofs.Ytmeloffdaninmaa
open Go.RowKit
set_option linter.unusedVariables false

def andL (ws : List UInt32) (j : Nat) : List UInt32 → List UInt32
  | [] => ws
  | x :: l => andL (ws.set j (ws.getD j 0 &&& x)) (j + 1) l
def pickL (l : List UInt32) (j i : Nat) : UInt32 := if j ≤ i then l.getD (i - j) 4294967295 else 4294967295
theorem and_ones (x : UInt32) : x &&& 4294967295 = x := by
  have := UInt32.and_neg_one (a := x)
  exact this
theorem andL_get : ∀ (l ws : List UInt32) (j i : Nat), (andL ws j l)[i]? = (ws[i]?).map (· &&& pickL l j i)
  | [], ws, j, i => by
    have e : pickL [] j i = 4294967295 := by unfold pickL; split <;> simp
    rw [e, andL]
    cases ws[i]? with
    | none => rfl
    | some x => simp [and_ones]
  | x :: l, ws, j, i => by
    rw [andL, andL_get l]
    by_cases hij : i = j
    · subst hij
      have e1 : pickL (x :: l) i i = x := by simp [pickL]
      have e2 : pickL l (i + 1) i = 4294967295 := by
        unfold pickL
        rw [if_neg (by omega)]
      rw [e1, e2, List.getElem?_set, if_pos rfl]
      by_cases hl : i < ws.length
      · rw [if_pos hl, List.getElem?_eq_getElem hl]
        simp [List.getD, List.getElem?_eq_getElem hl, and_ones]
      · rw [if_neg hl, List.getElem?_eq_none (by omega)]
        rfl
    · rw [List.getElem?_set, if_neg (fun e => hij e.symm)]
      have e : pickL l (j + 1) i = pickL (x :: l) j i := by
        unfold pickL
        by_cases h1 : j + 1 ≤ i
        · rw [if_pos h1, if_pos (by omega)]
          rw [show i - j = (i - (j + 1)) + 1 from by omega, List.getD_cons_succ]
        · rw [if_neg h1, if_neg (by omega)]
      rw [e]
theorem andL_twice (ws l m : List UInt32) (j : Nat) : andL (andL (andL ws j l) j m) j l = andL (andL ws j m) j l := by
  apply List.ext_getElem?
  intro i
  simp only [andL_get]
  cases ws[i]? with
  | none => rfl
  | some x =>
    simp only [Option.map_some, Option.some.injEq]
    generalize pickL l j i = a
    generalize pickL m j i = b
    rw [UInt32.and_assoc x a b, UInt32.and_comm a b, ← UInt32.and_assoc x b a, UInt32.and_assoc (x &&& b) a a, UInt32.and_self]
theorem prog_free : ∀ (l : List UInt32) (S : Fl) (j : Nat), S.armed = false → S.prog j l = ({ S with ws := andL S.ws j l }, true)
  | [], S, j, h => rfl
  | x :: l, S, j, h => by
    have hst : S.step = (S, true) := by simp [Fl.step, h]
    rw [Fl.prog, hst]
    show (S.put1 j x).prog (j + 1) l = _
    rw [prog_free l (S.put1 j x) (j + 1) h]
    rfl
theorem program_free (S : Fl) (σ κ : Nat) (l : List UInt32) (h : S.armed = false) (hd : S.down = false) (hσ : σ < S.n) (hκ : κ + l.length ≤ 64) : S.program (σ : Int) (κ : Int) l = ({ S with ws := andL S.ws (σ * 64 + κ) l }, 0) := by
  have hpl : S.place (σ : Int) (κ : Int) l.length = true := by simp [Fl.place, Fl.sector]; omega
  simp only [Fl.program, hd, hpl, Int.toNat_natCast, prog_free l S _ h]
theorem crash_up (S : Fl) (ks : List Bool) (hh : S.half = -1) (ha : S.armed = false) (hd : S.down = false) : S.crash ks = S := by
  obtain ⟨n, ws, g, ar, l, d, hf⟩ := S
  simp only at hh ha hd
  subst hh ha hd
  rfl
theorem made4_up (l : List Oc) : (made4 l).armed = false ∧ (made4 l).down = false ∧ (made4 l).half = -1 ∧ (made4 l).n = 4 := by
  have h := (Fl.run_ok (l.take 40) (Fl.made 4 2) (.inl rfl)).1
  unfold made4 Fl.crash
  split <;> exact ⟨rfl, rfl, rfl, h⟩
theorem Oc.Ok.step {o : Oc} {w w' : World} (h : o.Ok w.heap.size w) (x : Below w.heap.size w w') : o.Ok w'.heap.size w' := ⟨h.sees.step x, h.len, h.cap, h.sees2.step x, h.len2, h.hs, h.ha⟩
/-- Up, not armed, and of these words. -/
def Free4 (T : Fl) (ws : List UInt32) : Prop := T.n = 4 ∧ T.armed = false ∧ T.down = false ∧ T.half = -1 ∧ T.ws = ws
section
variable {w : World} {base p b : Nat} {T : Fl} {ws : List UInt32}
theorem prog_step (h : NorAt base w p b T) (hf : Free4 T ws) (σ κ m c : Nat) (A : Option Addr) (l : List UInt32) (hσ : σ < 4) (hκ : κ < 64) (hl : l.length = m) (hm : κ + m ≤ 64) (hB : base ≤ w.heap.size) (hs : Sees w base A (cw l)) :
    Calls Try.prog 74 #[.pointer (some ⟨p, 0, none⟩), .int .i64 (σ : Int), .int .i64 (κ : Int), .slice A m c] w
      fun e w' => ∃ T', e = .returned (.int .i64 0) ∧ NorAt base w' p b T' ∧ Free4 T' (andL ws (σ * 64 + κ) l) ∧ But p b w w' := by
  obtain ⟨f1, f2, f3, f4, f5⟩ := hf
  refine (Program_any h (σ : Int) (κ : Int) (by omega) m c A l hB hs hl _ _ (program_free T σ κ l f2 f3 (by omega) (by omega))).mono ?_
  rintro e w' ⟨rfl, h1, h2⟩
  exact ⟨_, rfl, h1, ⟨f1, f2, f3, f4, by rw [← f5]⟩, h2⟩
theorem crash_step (h : NorAt base w p b T) (hf : Free4 T ws) (A : Option Addr) (q c : Nat) (ks : List Bool) (hB : base ≤ w.heap.size) (hs : Sees w base A (cl ks)) (hl : ks.length = q) :
    Calls Try.prog 79 #[.pointer (some ⟨p, 0, none⟩), .slice A q c] w fun e w' => e = .returned (.tuple #[]) ∧ NorAt base w' p b T ∧ But p b w w' := by
  obtain ⟨f1, f2, f3, f4, f5⟩ := hf
  have h1 := Crash_any h (.inl f4) A q c ks hB hs hl
  rwa [crash_up T ks f4 f2 f3] at h1
end
set_option maxHeartbeats 4000000 in
set_option maxRecDepth 100000 in
theorem twice_walk (A0 : Option Addr) (N0 c0 : Nat) (l0 : List Oc) (s t : Int) (A1 : Option Addr) (m1 c1 : Nat) (l1 : List UInt32) (A2 : Option Addr) (m2 c2 : Nat) (l2 : List UInt32) (A3 : Option Addr) (q3 c3 : Nat) (ks : List Bool) (w : World)
    (hs0 : Sees w w.heap.size A0 (ocs l0)) (hl0 : l0.length = N0) (hok : ∀ o ∈ l0, o.Ok w.heap.size w) (hs : -9223372036854775808 ≤ s ∧ s ≤ 9223372036854775807) (ht : -9223372036854775808 ≤ t ∧ t ≤ 9223372036854775807)
    (hs1 : Sees w w.heap.size A1 (cw l1)) (hl1 : l1.length = m1) (hc1 : m1 ≤ c1) (hs2 : Sees w w.heap.size A2 (cw l2)) (hl2 : l2.length = m2) (hc2 : m2 ≤ c2) (hs3 : Sees w w.heap.size A3 (cl ks)) (hl3 : ks.length = q3) :
    Calls Try.prog 18 #[.slice A0 N0 c0, .int .i64 s, .int .i64 t, .slice A1 m1 c1, .slice A2 m2 c2, .slice A3 q3 c3] w fun e w' => e = .returned (.bool true) ∧ Below w.heap.size w w' := by
  have H0 := Lib.hid hl0
  have HO := Lib.hid hok
  have H1 := Lib.hid hl1
  have H2 := Lib.hid hl2
  have H3 := Lib.hid hl3
  have HS := Lib.hid hs
  have HT := Lib.hid ht
  clear hl0 hok hl1 hl2 hl3 hs ht
  go_enter Try.func18, Try.ntmps18
  go_wp2_with fail
  refine (Pick_any s 4 _ (by omega) (by omega) HS.out).mono ?_
  rintro e w1 ⟨σ, hσ, rfl, rfl⟩
  go_wp2_with fail
  refine (Pick_any t 64 _ (by omega) (by omega) HT.out).mono ?_
  rintro e w1 ⟨κ, hκ, rfl, rfl⟩
  obtain ⟨M1, hM1⟩ : ∃ M, M = min m1 (64 - κ) := ⟨_, rfl⟩
  obtain ⟨M2, hM2⟩ : ∃ M, M = min m2 (64 - κ) := ⟨_, rfl⟩
  have hcut1 := fun W => run_cut32 (w := W) A1 m1 c1 M1 (by omega)
  have hcut2 := fun W => run_cut32 (w := W) A2 m2 c2 M2 (by omega)
  have hw64 := wrapI (64 - (κ : Int)) (by omega) (by omega)
  have hw64' := wrap64I (64 - (κ : Int)) (by omega) (by omega)
  obtain ⟨L1, hL1⟩ : ∃ L, L = l1.take (64 - κ) := ⟨_, rfl⟩
  obtain ⟨L2, hL2⟩ : ∃ L, L = l2.take (64 - κ) := ⟨_, rfl⟩
  have HL1 := Lib.hid (show L1.length = M1 by rw [hL1, List.length_take, H1.out, hM1, Nat.min_comm])
  have HL2 := Lib.hid (show L2.length = M2 by rw [hL2, List.length_take, H2.out, hM2, Nat.min_comm])
  have hs1 : Sees w1 w1.heap.size A1 (cw L1) := by
    have h := hs1.take_ (64 - κ)
    rwa [show (cw l1).take (64 - κ) = cw L1 from by rw [hL1]; simp only [cw, List.map_take]] at h
  have hs2 : Sees w1 w1.heap.size A2 (cw L2) := by
    have h := hs2.take_ (64 - κ)
    rwa [show (cw l2).take (64 - κ) = cw L2 from by rw [hL2]; simp only [cw, List.map_take]] at h
  have hM1k : κ + M1 ≤ 64 := by omega
  have hM2k : κ + M2 ≤ 64 := by omega
  clear hL1 hL2
  by_cases ha : (m1 : Int) ≤ 64 - (κ : Int)
  · obtain rfl : M1 = m1 := by omega
    by_cases hb : (m2 : Int) ≤ 64 - (κ : Int)
    · obtain rfl : M2 = m2 := by omega
      clear hM1 hM2
      go_wp2_with fail
      go_region
      have hD : Below w1.heap.size w1 w1.drew := ⟨rfl, rfl, rfl, Nat.le_refl _, fun _ _ => rfl⟩
      go_wp2_with fail
      refine (made_any A0 N0 c0 l0 (hs0.step hD) H0.out (fun o ho => (HO.out o ho).step hD)).mono ?_
      rintro e w2 ⟨p, b, rfl, hNa, hB2⟩
      have hB02 := Below.then_ hD hB2
      go_wp2_with fail
      refine (made_any A0 N0 c0 l0 (hs0.step hB02) H0.out (fun o ho => (HO.out o ho).step hB02)).mono ?_
      rintro e w3 ⟨q, d, rfl, hNb, hB3⟩
      have hB03 := Below.then_ hB02 hB3
      have hFa : Free4 (made4 l0) (made4 l0).ws := ⟨(made4_up l0).2.2.2, (made4_up l0).1, (made4_up l0).2.1, (made4_up l0).2.2.1, rfl⟩
      obtain ⟨x1, x2, x3, x4⟩ := hNa.lt
      obtain ⟨y1, y2, y3, y4⟩ := hNb.lt
      have ne1 : p ≠ q := by omega
      have ne2 : p ≠ d := by omega
      have ne3 : b ≠ q := by omega
      have ne4 : b ≠ d := by omega
      have hNa3 := hNa.below hB3
      have z1 : w1.heap.size ≤ w2.heap.size := hB02.size
      have z2 : w2.heap.size ≤ w3.heap.size := hB3.size
      have g1 : w1.heap.size ≤ p := x3
      have g2 : w1.heap.size ≤ b := x4
      have g3 : w1.heap.size ≤ q := Nat.le_trans z1 y3
      have g4 : w1.heap.size ≤ d := Nat.le_trans z1 y4
      clear hB2 hB02 hB3 hNa hD x1 x2 x3 x4 y1 y2 y3 y4
      generalize made4 l0 = T0 at *
      obtain ⟨V, hV⟩ : ∃ V, T0.ws = V := ⟨_, rfl⟩
      rw [hV] at hFa
      go_wp2_with fail
      refine (prog_step hNa3 hFa σ κ M1 c1 A1 L1 hσ hκ HL1.out (by omega) hB03.size (hs1.below hB03)).mono ?_
      rintro e w4 ⟨Ta1, rfl, hNa4, hFa1, hu1⟩
      have hB04 := hB03.trans (hu1.below g1 g2 hB03.size)
      have hNb4 := hNb.but hu1 (Ne.symm ne1) (Ne.symm ne3) (Ne.symm ne2) (Ne.symm ne4)
      go_wp2_with fail
      refine (prog_step hNa4 hFa1 σ κ M2 c2 A2 L2 hσ hκ HL2.out (by omega) hB04.size (hs2.below hB04)).mono ?_
      rintro e w5 ⟨Ta2, rfl, hNa5, hFa2, hu2⟩
      have hB05 := hB04.trans (hu2.below g1 g2 hB04.size)
      have hNb5 := hNb4.but hu2 (Ne.symm ne1) (Ne.symm ne3) (Ne.symm ne2) (Ne.symm ne4)
      go_wp2_with fail
      refine (prog_step hNa5 hFa2 σ κ M1 c1 A1 L1 hσ hκ HL1.out (by omega) hB05.size (hs1.below hB05)).mono ?_
      rintro e w6 ⟨Ta3, rfl, hNa6, hFa3, hu3⟩
      have hB06 := hB05.trans (hu3.below g1 g2 hB05.size)
      have hNb6 := (hNb5.but hu3 (Ne.symm ne1) (Ne.symm ne3) (Ne.symm ne2) (Ne.symm ne4)).lower z1
      rw [andL_twice] at hFa3
      clear hNa3 hNa4 hNa5 hNb hNb4 hNb5 hu1 hu2 hu3 hB03 hB04 hB05 hFa1 hFa2
      go_wp2_with fail
      refine (prog_step hNb6 hFa σ κ M2 c2 A2 L2 hσ hκ HL2.out (by omega) hB06.size (hs2.below hB06)).mono ?_
      rintro e w7 ⟨Tb1, rfl, hNb7, hFb1, hu1⟩
      have hB07 := hB06.trans (hu1.below g3 g4 hB06.size)
      have hNa7 := hNa6.but hu1 ne1 ne2 ne3 ne4
      go_wp2_with fail
      refine (prog_step hNb7 hFb1 σ κ M1 c1 A1 L1 hσ hκ HL1.out (by omega) hB07.size (hs1.below hB07)).mono ?_
      rintro e w8 ⟨Tb2, rfl, hNb8, hFb2, hu2⟩
      have hB08 := hB07.trans (hu2.below g3 g4 hB07.size)
      have hNa8 := hNa7.but hu2 ne1 ne2 ne3 ne4
      obtain ⟨fa1, fa2, fa3, fa4, fa5⟩ := hFa3
      have hFa3 : Free4 Ta3 _ := ⟨fa1, fa2, fa3, fa4, fa5⟩
      obtain ⟨fb1, fb2, fb3, fb4, fb5⟩ := hFb2
      clear hNa6 hNb6 hNb7 hNa7 hu1 hu2 hB06 hB07 hFb1 hFa
      go_wp2_with fail
      refine (SameNors_true hNa8 hNb8 (by rw [fa1, fb1]) (by rw [fa3, fb3]) (by rw [fa5, fb5])).mono ?_
      rintro e w9 ⟨rfl, hB9⟩
      have hB09 := Below.then_ hB08 hB9
      have hNa9 := hNa8.below hB9
      have hNb9 := hNb8.below hB9
      clear hNa8 hNb8 hB9 hB08
      go_wp2_with fail
      refine (crash_step hNa9 hFa3 A3 q3 c3 ks hB09.size (hs3.below hB09) H3.out).mono ?_
      rintro e w10 ⟨rfl, hNa10, hu1⟩
      have hB10 := hB09.trans (hu1.below g1 g2 hB09.size)
      have hNb10 := hNb9.but hu1 (Ne.symm ne1) (Ne.symm ne3) (Ne.symm ne2) (Ne.symm ne4)
      go_wp2_with fail
      refine (crash_step hNa10 hFa3 A3 q3 c3 ks hB10.size (hs3.below hB10) H3.out).mono ?_
      rintro e w11 ⟨rfl, hNa11, hu2⟩
      have hB11 := hB10.trans (hu2.below g1 g2 hB10.size)
      have hNb11 := hNb10.but hu2 (Ne.symm ne1) (Ne.symm ne3) (Ne.symm ne2) (Ne.symm ne4)
      go_wp2_with fail
      refine (SameNors_true hNa11 hNb11 (by rw [fa1, fb1]) (by rw [fa3, fb3]) (by rw [fa5, fb5])).mono ?_
      rintro e w12 ⟨rfl, hB12⟩
      go_wp2_with fail
      refine (awake4_any _).mono ?_
      rintro e w13 ⟨rfl, hB13⟩
      go_wp2_with fail
      go_ret
      exact ⟨rfl, Below.then_ (Below.then_ hB11 hB12) hB13⟩
    · rw [show ((M2 : Nat) : Int) = 64 - (κ : Int) from by omega] at hcut2
      clear hM1 hM2
      go_wp2_with fail
      go_region
      have hD : Below w1.heap.size w1 w1.drew := ⟨rfl, rfl, rfl, Nat.le_refl _, fun _ _ => rfl⟩
      go_wp2_with fail
      refine (made_any A0 N0 c0 l0 (hs0.step hD) H0.out (fun o ho => (HO.out o ho).step hD)).mono ?_
      rintro e w2 ⟨p, b, rfl, hNa, hB2⟩
      have hB02 := Below.then_ hD hB2
      go_wp2_with fail
      refine (made_any A0 N0 c0 l0 (hs0.step hB02) H0.out (fun o ho => (HO.out o ho).step hB02)).mono ?_
      rintro e w3 ⟨q, d, rfl, hNb, hB3⟩
      have hB03 := Below.then_ hB02 hB3
      have hFa : Free4 (made4 l0) (made4 l0).ws := ⟨(made4_up l0).2.2.2, (made4_up l0).1, (made4_up l0).2.1, (made4_up l0).2.2.1, rfl⟩
      obtain ⟨x1, x2, x3, x4⟩ := hNa.lt
      obtain ⟨y1, y2, y3, y4⟩ := hNb.lt
      have ne1 : p ≠ q := by omega
      have ne2 : p ≠ d := by omega
      have ne3 : b ≠ q := by omega
      have ne4 : b ≠ d := by omega
      have hNa3 := hNa.below hB3
      have z1 : w1.heap.size ≤ w2.heap.size := hB02.size
      have z2 : w2.heap.size ≤ w3.heap.size := hB3.size
      have g1 : w1.heap.size ≤ p := x3
      have g2 : w1.heap.size ≤ b := x4
      have g3 : w1.heap.size ≤ q := Nat.le_trans z1 y3
      have g4 : w1.heap.size ≤ d := Nat.le_trans z1 y4
      clear hB2 hB02 hB3 hNa hD x1 x2 x3 x4 y1 y2 y3 y4
      generalize made4 l0 = T0 at *
      obtain ⟨V, hV⟩ : ∃ V, T0.ws = V := ⟨_, rfl⟩
      rw [hV] at hFa
      go_wp2_with fail
      refine (prog_step hNa3 hFa σ κ M1 c1 A1 L1 hσ hκ HL1.out (by omega) hB03.size (hs1.below hB03)).mono ?_
      rintro e w4 ⟨Ta1, rfl, hNa4, hFa1, hu1⟩
      have hB04 := hB03.trans (hu1.below g1 g2 hB03.size)
      have hNb4 := hNb.but hu1 (Ne.symm ne1) (Ne.symm ne3) (Ne.symm ne2) (Ne.symm ne4)
      go_wp2_with fail
      refine (prog_step hNa4 hFa1 σ κ M2 c2 A2 L2 hσ hκ HL2.out (by omega) hB04.size (hs2.below hB04)).mono ?_
      rintro e w5 ⟨Ta2, rfl, hNa5, hFa2, hu2⟩
      have hB05 := hB04.trans (hu2.below g1 g2 hB04.size)
      have hNb5 := hNb4.but hu2 (Ne.symm ne1) (Ne.symm ne3) (Ne.symm ne2) (Ne.symm ne4)
      go_wp2_with fail
      refine (prog_step hNa5 hFa2 σ κ M1 c1 A1 L1 hσ hκ HL1.out (by omega) hB05.size (hs1.below hB05)).mono ?_
      rintro e w6 ⟨Ta3, rfl, hNa6, hFa3, hu3⟩
      have hB06 := hB05.trans (hu3.below g1 g2 hB05.size)
      have hNb6 := (hNb5.but hu3 (Ne.symm ne1) (Ne.symm ne3) (Ne.symm ne2) (Ne.symm ne4)).lower z1
      rw [andL_twice] at hFa3
      clear hNa3 hNa4 hNa5 hNb hNb4 hNb5 hu1 hu2 hu3 hB03 hB04 hB05 hFa1 hFa2
      go_wp2_with fail
      refine (prog_step hNb6 hFa σ κ M2 c2 A2 L2 hσ hκ HL2.out (by omega) hB06.size (hs2.below hB06)).mono ?_
      rintro e w7 ⟨Tb1, rfl, hNb7, hFb1, hu1⟩
      have hB07 := hB06.trans (hu1.below g3 g4 hB06.size)
      have hNa7 := hNa6.but hu1 ne1 ne2 ne3 ne4
      go_wp2_with fail
      refine (prog_step hNb7 hFb1 σ κ M1 c1 A1 L1 hσ hκ HL1.out (by omega) hB07.size (hs1.below hB07)).mono ?_
      rintro e w8 ⟨Tb2, rfl, hNb8, hFb2, hu2⟩
      have hB08 := hB07.trans (hu2.below g3 g4 hB07.size)
      have hNa8 := hNa7.but hu2 ne1 ne2 ne3 ne4
      obtain ⟨fa1, fa2, fa3, fa4, fa5⟩ := hFa3
      have hFa3 : Free4 Ta3 _ := ⟨fa1, fa2, fa3, fa4, fa5⟩
      obtain ⟨fb1, fb2, fb3, fb4, fb5⟩ := hFb2
      clear hNa6 hNb6 hNb7 hNa7 hu1 hu2 hB06 hB07 hFb1 hFa
      go_wp2_with fail
      refine (SameNors_true hNa8 hNb8 (by rw [fa1, fb1]) (by rw [fa3, fb3]) (by rw [fa5, fb5])).mono ?_
      rintro e w9 ⟨rfl, hB9⟩
      have hB09 := Below.then_ hB08 hB9
      have hNa9 := hNa8.below hB9
      have hNb9 := hNb8.below hB9
      clear hNa8 hNb8 hB9 hB08
      go_wp2_with fail
      refine (crash_step hNa9 hFa3 A3 q3 c3 ks hB09.size (hs3.below hB09) H3.out).mono ?_
      rintro e w10 ⟨rfl, hNa10, hu1⟩
      have hB10 := hB09.trans (hu1.below g1 g2 hB09.size)
      have hNb10 := hNb9.but hu1 (Ne.symm ne1) (Ne.symm ne3) (Ne.symm ne2) (Ne.symm ne4)
      go_wp2_with fail
      refine (crash_step hNa10 hFa3 A3 q3 c3 ks hB10.size (hs3.below hB10) H3.out).mono ?_
      rintro e w11 ⟨rfl, hNa11, hu2⟩
      have hB11 := hB10.trans (hu2.below g1 g2 hB10.size)
      have hNb11 := hNb10.but hu2 (Ne.symm ne1) (Ne.symm ne3) (Ne.symm ne2) (Ne.symm ne4)
      go_wp2_with fail
      refine (SameNors_true hNa11 hNb11 (by rw [fa1, fb1]) (by rw [fa3, fb3]) (by rw [fa5, fb5])).mono ?_
      rintro e w12 ⟨rfl, hB12⟩
      go_wp2_with fail
      refine (awake4_any _).mono ?_
      rintro e w13 ⟨rfl, hB13⟩
      go_wp2_with fail
      go_ret
      exact ⟨rfl, Below.then_ (Below.then_ hB11 hB12) hB13⟩
  · rw [show ((M1 : Nat) : Int) = 64 - (κ : Int) from by omega] at hcut1
    by_cases hb : (m2 : Int) ≤ 64 - (κ : Int)
    · obtain rfl : M2 = m2 := by omega
      clear hM1 hM2
      go_wp2_with fail
      go_region
      have hD : Below w1.heap.size w1 w1.drew := ⟨rfl, rfl, rfl, Nat.le_refl _, fun _ _ => rfl⟩
      go_wp2_with fail
      refine (made_any A0 N0 c0 l0 (hs0.step hD) H0.out (fun o ho => (HO.out o ho).step hD)).mono ?_
      rintro e w2 ⟨p, b, rfl, hNa, hB2⟩
      have hB02 := Below.then_ hD hB2
      go_wp2_with fail
      refine (made_any A0 N0 c0 l0 (hs0.step hB02) H0.out (fun o ho => (HO.out o ho).step hB02)).mono ?_
      rintro e w3 ⟨q, d, rfl, hNb, hB3⟩
      have hB03 := Below.then_ hB02 hB3
      have hFa : Free4 (made4 l0) (made4 l0).ws := ⟨(made4_up l0).2.2.2, (made4_up l0).1, (made4_up l0).2.1, (made4_up l0).2.2.1, rfl⟩
      obtain ⟨x1, x2, x3, x4⟩ := hNa.lt
      obtain ⟨y1, y2, y3, y4⟩ := hNb.lt
      have ne1 : p ≠ q := by omega
      have ne2 : p ≠ d := by omega
      have ne3 : b ≠ q := by omega
      have ne4 : b ≠ d := by omega
      have hNa3 := hNa.below hB3
      have z1 : w1.heap.size ≤ w2.heap.size := hB02.size
      have z2 : w2.heap.size ≤ w3.heap.size := hB3.size
      have g1 : w1.heap.size ≤ p := x3
      have g2 : w1.heap.size ≤ b := x4
      have g3 : w1.heap.size ≤ q := Nat.le_trans z1 y3
      have g4 : w1.heap.size ≤ d := Nat.le_trans z1 y4
      clear hB2 hB02 hB3 hNa hD x1 x2 x3 x4 y1 y2 y3 y4
      generalize made4 l0 = T0 at *
      obtain ⟨V, hV⟩ : ∃ V, T0.ws = V := ⟨_, rfl⟩
      rw [hV] at hFa
      go_wp2_with fail
      refine (prog_step hNa3 hFa σ κ M1 c1 A1 L1 hσ hκ HL1.out (by omega) hB03.size (hs1.below hB03)).mono ?_
      rintro e w4 ⟨Ta1, rfl, hNa4, hFa1, hu1⟩
      have hB04 := hB03.trans (hu1.below g1 g2 hB03.size)
      have hNb4 := hNb.but hu1 (Ne.symm ne1) (Ne.symm ne3) (Ne.symm ne2) (Ne.symm ne4)
      go_wp2_with fail
      refine (prog_step hNa4 hFa1 σ κ M2 c2 A2 L2 hσ hκ HL2.out (by omega) hB04.size (hs2.below hB04)).mono ?_
      rintro e w5 ⟨Ta2, rfl, hNa5, hFa2, hu2⟩
      have hB05 := hB04.trans (hu2.below g1 g2 hB04.size)
      have hNb5 := hNb4.but hu2 (Ne.symm ne1) (Ne.symm ne3) (Ne.symm ne2) (Ne.symm ne4)
      go_wp2_with fail
      refine (prog_step hNa5 hFa2 σ κ M1 c1 A1 L1 hσ hκ HL1.out (by omega) hB05.size (hs1.below hB05)).mono ?_
      rintro e w6 ⟨Ta3, rfl, hNa6, hFa3, hu3⟩
      have hB06 := hB05.trans (hu3.below g1 g2 hB05.size)
      have hNb6 := (hNb5.but hu3 (Ne.symm ne1) (Ne.symm ne3) (Ne.symm ne2) (Ne.symm ne4)).lower z1
      rw [andL_twice] at hFa3
      clear hNa3 hNa4 hNa5 hNb hNb4 hNb5 hu1 hu2 hu3 hB03 hB04 hB05 hFa1 hFa2
      go_wp2_with fail
      refine (prog_step hNb6 hFa σ κ M2 c2 A2 L2 hσ hκ HL2.out (by omega) hB06.size (hs2.below hB06)).mono ?_
      rintro e w7 ⟨Tb1, rfl, hNb7, hFb1, hu1⟩
      have hB07 := hB06.trans (hu1.below g3 g4 hB06.size)
      have hNa7 := hNa6.but hu1 ne1 ne2 ne3 ne4
      go_wp2_with fail
      refine (prog_step hNb7 hFb1 σ κ M1 c1 A1 L1 hσ hκ HL1.out (by omega) hB07.size (hs1.below hB07)).mono ?_
      rintro e w8 ⟨Tb2, rfl, hNb8, hFb2, hu2⟩
      have hB08 := hB07.trans (hu2.below g3 g4 hB07.size)
      have hNa8 := hNa7.but hu2 ne1 ne2 ne3 ne4
      obtain ⟨fa1, fa2, fa3, fa4, fa5⟩ := hFa3
      have hFa3 : Free4 Ta3 _ := ⟨fa1, fa2, fa3, fa4, fa5⟩
      obtain ⟨fb1, fb2, fb3, fb4, fb5⟩ := hFb2
      clear hNa6 hNb6 hNb7 hNa7 hu1 hu2 hB06 hB07 hFb1 hFa
      go_wp2_with fail
      refine (SameNors_true hNa8 hNb8 (by rw [fa1, fb1]) (by rw [fa3, fb3]) (by rw [fa5, fb5])).mono ?_
      rintro e w9 ⟨rfl, hB9⟩
      have hB09 := Below.then_ hB08 hB9
      have hNa9 := hNa8.below hB9
      have hNb9 := hNb8.below hB9
      clear hNa8 hNb8 hB9 hB08
      go_wp2_with fail
      refine (crash_step hNa9 hFa3 A3 q3 c3 ks hB09.size (hs3.below hB09) H3.out).mono ?_
      rintro e w10 ⟨rfl, hNa10, hu1⟩
      have hB10 := hB09.trans (hu1.below g1 g2 hB09.size)
      have hNb10 := hNb9.but hu1 (Ne.symm ne1) (Ne.symm ne3) (Ne.symm ne2) (Ne.symm ne4)
      go_wp2_with fail
      refine (crash_step hNa10 hFa3 A3 q3 c3 ks hB10.size (hs3.below hB10) H3.out).mono ?_
      rintro e w11 ⟨rfl, hNa11, hu2⟩
      have hB11 := hB10.trans (hu2.below g1 g2 hB10.size)
      have hNb11 := hNb10.but hu2 (Ne.symm ne1) (Ne.symm ne3) (Ne.symm ne2) (Ne.symm ne4)
      go_wp2_with fail
      refine (SameNors_true hNa11 hNb11 (by rw [fa1, fb1]) (by rw [fa3, fb3]) (by rw [fa5, fb5])).mono ?_
      rintro e w12 ⟨rfl, hB12⟩
      go_wp2_with fail
      refine (awake4_any _).mono ?_
      rintro e w13 ⟨rfl, hB13⟩
      go_wp2_with fail
      go_ret
      exact ⟨rfl, Below.then_ (Below.then_ hB11 hB12) hB13⟩
    · rw [show ((M2 : Nat) : Int) = 64 - (κ : Int) from by omega] at hcut2
      clear hM1 hM2
      go_wp2_with fail
      go_region
      have hD : Below w1.heap.size w1 w1.drew := ⟨rfl, rfl, rfl, Nat.le_refl _, fun _ _ => rfl⟩
      go_wp2_with fail
      refine (made_any A0 N0 c0 l0 (hs0.step hD) H0.out (fun o ho => (HO.out o ho).step hD)).mono ?_
      rintro e w2 ⟨p, b, rfl, hNa, hB2⟩
      have hB02 := Below.then_ hD hB2
      go_wp2_with fail
      refine (made_any A0 N0 c0 l0 (hs0.step hB02) H0.out (fun o ho => (HO.out o ho).step hB02)).mono ?_
      rintro e w3 ⟨q, d, rfl, hNb, hB3⟩
      have hB03 := Below.then_ hB02 hB3
      have hFa : Free4 (made4 l0) (made4 l0).ws := ⟨(made4_up l0).2.2.2, (made4_up l0).1, (made4_up l0).2.1, (made4_up l0).2.2.1, rfl⟩
      obtain ⟨x1, x2, x3, x4⟩ := hNa.lt
      obtain ⟨y1, y2, y3, y4⟩ := hNb.lt
      have ne1 : p ≠ q := by omega
      have ne2 : p ≠ d := by omega
      have ne3 : b ≠ q := by omega
      have ne4 : b ≠ d := by omega
      have hNa3 := hNa.below hB3
      have z1 : w1.heap.size ≤ w2.heap.size := hB02.size
      have z2 : w2.heap.size ≤ w3.heap.size := hB3.size
      have g1 : w1.heap.size ≤ p := x3
      have g2 : w1.heap.size ≤ b := x4
      have g3 : w1.heap.size ≤ q := Nat.le_trans z1 y3
      have g4 : w1.heap.size ≤ d := Nat.le_trans z1 y4
      clear hB2 hB02 hB3 hNa hD x1 x2 x3 x4 y1 y2 y3 y4
      generalize made4 l0 = T0 at *
      obtain ⟨V, hV⟩ : ∃ V, T0.ws = V := ⟨_, rfl⟩
      rw [hV] at hFa
      go_wp2_with fail
      refine (prog_step hNa3 hFa σ κ M1 c1 A1 L1 hσ hκ HL1.out (by omega) hB03.size (hs1.below hB03)).mono ?_
      rintro e w4 ⟨Ta1, rfl, hNa4, hFa1, hu1⟩
      have hB04 := hB03.trans (hu1.below g1 g2 hB03.size)
      have hNb4 := hNb.but hu1 (Ne.symm ne1) (Ne.symm ne3) (Ne.symm ne2) (Ne.symm ne4)
      go_wp2_with fail
      refine (prog_step hNa4 hFa1 σ κ M2 c2 A2 L2 hσ hκ HL2.out (by omega) hB04.size (hs2.below hB04)).mono ?_
      rintro e w5 ⟨Ta2, rfl, hNa5, hFa2, hu2⟩
      have hB05 := hB04.trans (hu2.below g1 g2 hB04.size)
      have hNb5 := hNb4.but hu2 (Ne.symm ne1) (Ne.symm ne3) (Ne.symm ne2) (Ne.symm ne4)
      go_wp2_with fail
      refine (prog_step hNa5 hFa2 σ κ M1 c1 A1 L1 hσ hκ HL1.out (by omega) hB05.size (hs1.below hB05)).mono ?_
      rintro e w6 ⟨Ta3, rfl, hNa6, hFa3, hu3⟩
      have hB06 := hB05.trans (hu3.below g1 g2 hB05.size)
      have hNb6 := (hNb5.but hu3 (Ne.symm ne1) (Ne.symm ne3) (Ne.symm ne2) (Ne.symm ne4)).lower z1
      rw [andL_twice] at hFa3
      clear hNa3 hNa4 hNa5 hNb hNb4 hNb5 hu1 hu2 hu3 hB03 hB04 hB05 hFa1 hFa2
      go_wp2_with fail
      refine (prog_step hNb6 hFa σ κ M2 c2 A2 L2 hσ hκ HL2.out (by omega) hB06.size (hs2.below hB06)).mono ?_
      rintro e w7 ⟨Tb1, rfl, hNb7, hFb1, hu1⟩
      have hB07 := hB06.trans (hu1.below g3 g4 hB06.size)
      have hNa7 := hNa6.but hu1 ne1 ne2 ne3 ne4
      go_wp2_with fail
      refine (prog_step hNb7 hFb1 σ κ M1 c1 A1 L1 hσ hκ HL1.out (by omega) hB07.size (hs1.below hB07)).mono ?_
      rintro e w8 ⟨Tb2, rfl, hNb8, hFb2, hu2⟩
      have hB08 := hB07.trans (hu2.below g3 g4 hB07.size)
      have hNa8 := hNa7.but hu2 ne1 ne2 ne3 ne4
      obtain ⟨fa1, fa2, fa3, fa4, fa5⟩ := hFa3
      have hFa3 : Free4 Ta3 _ := ⟨fa1, fa2, fa3, fa4, fa5⟩
      obtain ⟨fb1, fb2, fb3, fb4, fb5⟩ := hFb2
      clear hNa6 hNb6 hNb7 hNa7 hu1 hu2 hB06 hB07 hFb1 hFa
      go_wp2_with fail
      refine (SameNors_true hNa8 hNb8 (by rw [fa1, fb1]) (by rw [fa3, fb3]) (by rw [fa5, fb5])).mono ?_
      rintro e w9 ⟨rfl, hB9⟩
      have hB09 := Below.then_ hB08 hB9
      have hNa9 := hNa8.below hB9
      have hNb9 := hNb8.below hB9
      clear hNa8 hNb8 hB9 hB08
      go_wp2_with fail
      refine (crash_step hNa9 hFa3 A3 q3 c3 ks hB09.size (hs3.below hB09) H3.out).mono ?_
      rintro e w10 ⟨rfl, hNa10, hu1⟩
      have hB10 := hB09.trans (hu1.below g1 g2 hB09.size)
      have hNb10 := hNb9.but hu1 (Ne.symm ne1) (Ne.symm ne3) (Ne.symm ne2) (Ne.symm ne4)
      go_wp2_with fail
      refine (crash_step hNa10 hFa3 A3 q3 c3 ks hB10.size (hs3.below hB10) H3.out).mono ?_
      rintro e w11 ⟨rfl, hNa11, hu2⟩
      have hB11 := hB10.trans (hu2.below g1 g2 hB10.size)
      have hNb11 := hNb10.but hu2 (Ne.symm ne1) (Ne.symm ne3) (Ne.symm ne2) (Ne.symm ne4)
      go_wp2_with fail
      refine (SameNors_true hNa11 hNb11 (by rw [fa1, fb1]) (by rw [fa3, fb3]) (by rw [fa5, fb5])).mono ?_
      rintro e w12 ⟨rfl, hB12⟩
      go_wp2_with fail
      refine (awake4_any _).mono ?_
      rintro e w13 ⟨rfl, hB13⟩
      go_wp2_with fail
      go_ret
      exact ⟨rfl, Below.then_ (Below.then_ hB11 hB12) hB13⟩
end Go.Proofs.Ytmeloffdaninmaa
