/-
  CellKeeps returns true for every input, and writes nothing that was there: the walk.
-/
import Derived.Test.YtpdfalgjmeagjaaCellFall
import Derived.Test.YtpdfalgjmeagjaaLivesOpen
namespace Go.Proofs.Ytpdfalgjmeagjaa
open Go.RowKit
set_option linter.unusedVariables false

/-- Bytes that the statement's cell leaves as they are: the caller's own, or bytes in a block of their own. -/
def Held (base : Nat) (w : World) (A : Option Addr) (l : List UInt8) : Prop := Sees w base A (cb l) ∨ ∃ m n c, Fresh m 5 w A n c (cb l)
section
variable {w w' : World} {base c d p b f : Nat} {over : Bool} {S S' : Fl} {x z : Co} {A : Option Addr} {l : List UInt8}
theorem Held.sees (h : Held base w A l) (hb : base ≤ w.heap.size) : Sees w w.heap.size A (cb l) := by
  rcases h with h | ⟨m, n, c, h⟩
  · exact h.more hb
  · exact h.sees
theorem Held.below (h : Held base w A l) (hb : base ≤ w.heap.size) (y : Below w.heap.size w w') : Held base w' A l := by
  rcases h with h | ⟨m, n, c, h⟩
  · exact .inl (h.keep fun q hq => y.cell (by omega))
  · exact .inr ⟨m, n, c, h.below y⟩
theorem Held.but3 (h : Held base w A l) (hT : CeAt base w c d p b f S x over) (hb : base ≤ w.heap.size) (y : But3 c p b w w') : Held base w' A l := by
  obtain ⟨-, h1⟩ := hT.lt
  obtain ⟨-, -, h2, h3⟩ := hT.dr.nor.lt
  rcases h with h | ⟨m, n, cp, h⟩
  · exact .inl (h.below (y.below h1 h2 h3 hb))
  · refine .inr ⟨m, n, cp, h.1, ?_⟩
    obtain ⟨_, _, r1, _⟩ := hT.row
    have hall := h
    rcases h.2 with hn | ⟨g, cap, cur, hv, hg0, hg, rest⟩
    · exact .inl hn
    · have hA : A = some ⟨g, 0, none⟩ := by simp at hv; exact hv.1
      have e : ∀ {B T k g2 : Nat} {ys : List Value}, Fresh B T w (some ⟨g2, 0, none⟩) k k ys → 5 ≠ T → g ≠ g2 := fun h2 hT e => by
        have q := h2.block.1
        rw [← e, hg] at q
        simp at q
        exact hT q.2
      exact .inr ⟨g, cap, cur, hv, hg0, (y.keep g (Array.getElem?_eq_some_iff.1 hg).1 (e r1 (by decide)) (e hT.dr.nor.obj (by decide)) (e hT.dr.nor.row (by decide))).trans hg, rest⟩
theorem Held.off (h : Held base w A l) (hT : CeAt base w c d p b f S x over) (hb : base ≤ w.heap.size) : Off c c w A (cb l) := fun w' y =>
  (h.but3 hT hb (But3.of_own y p b)).sees (Nat.le_trans hb y.size)
theorem ctold_up7 (hd : S.down = false) (hz : S.clook f = z) : S.ctold f x false = z := by unfold Fl.ctold; rw [hd]; exact hz
theorem crash_up7 (S : Fl) (ks : List Bool) : (S.crash ks).down = false ∧ (S.crash ks).armed = false ∧ (S.crash ks).half = -1 ∧ (S.crash ks).n = S.n := by
  unfold Fl.crash
  split <;> exact ⟨rfl, rfl, rfl, rfl⟩
/-- A cell between calls: alive, or behind a failure. -/
def Lives (S : Fl) (z : Co) (failed : Bool) : Prop := match failed with
  | false => S.down = false ∧ S.half = -1 ∧ Two S 0 ∧ S.clook 0 = z
  | true => S.down = true ∧ ∀ ks, Up6 (S.crash ks) 0 ∧ (S.crash ks).clook 0 = z
theorem Lives.crash {failed : Bool} (h : Lives S z failed) (ks : List Bool) : Up6 (S.crash ks) 0 ∧ (S.crash ks).clook 0 = z := by
  cases failed with
  | true => exact h.2 ks
  | false =>
    obtain ⟨h1, h2, h3, h4⟩ := h
    obtain ⟨w1, w2, w3, w4, w5⟩ := crash_same 0 h2 ks
    have hsec : ∀ σ, (S.crash ks).sec 0 σ = S.sec 0 σ := fun σ => sec_of_ws w1 0 σ
    refine ⟨⟨h3.of_ws w1 w2, w3, w4, w5⟩, ?_⟩
    rw [← h4]
    unfold Fl.clook
    rw [hsec, hsec]
set_option maxHeartbeats 16000000 in
set_option maxRecDepth 100000 in
theorem ckeeps_walk (A : Option Addr) (N C : Nat) (W : World) (hf : LivesAt W A N) :
    Calls Try.prog 10 #[.slice A N C] W fun e w' => e = .returned (.bool true) ∧ Below W.heap.size W w' := by
  have h0 : Up6 (Fl.made 2 2) 0 := ⟨⟨by decide, by simp [Fl.made]⟩, rfl, rfl, rfl⟩
  have hc0 : (Fl.made 2 2).clook 0 = ⟨-1, 0, []⟩ := by kernel_rfl
  have HF := Lib.hid hf
  clear hf
  go_enter Try.func10, Try.ntmps10
  go_wp2_with fail
  refine (New_yes 2 2 (by omega) (by omega) (by omega) (by omega)).mono ?_
  rintro e w1 ⟨p, b, rfl, hNr, hB1⟩
  have hbs := hB1.size
  go_wp2_with fail
  refine (Open_yes hNr 0 2 (by show 0 + 2 ≤ 2; omega) (by omega) hbs).mono ?_
  rintro e w2 ⟨d, rfl, hD, hB2⟩
  have hB12 := Below.then_ hB1 hB2
  have hbs2 := hB12.size
  go_wp2_with fail
  refine (COpen_yes hD rfl hbs2 _ hc0).mono ?_
  rintro e w3 ⟨c0, rfl, hT3, hB3, -⟩
  have hB13 := Below.then_ hB12 hB3
  have hz3 := hB13.size
  clear hNr hB1 hbs hD hB2 hB12 hbs2 hB3
  go_wp2_with fail
  go_loopw [7, 9, 10, 11] (fun cv av tv iv wr => ∃ (i c : Nat) (S : Fl) (z : Co) (A9 : Option Addr) (c9 : Nat), i ≤ 6 ∧ iv = .int .i64 (i : Int) ∧ cv = .pointer (some ⟨c, 0, none⟩) ∧ av = .slice A9 z.b.length c9 ∧ tv = .int .i64 (z.t : Int) ∧ CeAt W.heap.size wr c d p b 0 S z false ∧ Held W.heap.size wr A9 z.b ∧ Hid (Up6 S 0 ∧ S.clook 0 = z ∧ z.t ≤ 6 * i ∧ (z.s != -1) = decide (0 < z.t) ∧ S.n = 2) ∧ Below W.heap.size W wr ∧ W.heap.size ≤ wr.heap.size) (fun _ _ _ i _ => 6 - (intOf i).toNat)
  case atStart => exact ⟨0, c0, Fl.made 2 2, _, none, 0, by omega, rfl, rfl, rfl, rfl, hT3, .inl Sees.nil, Lib.hid ⟨h0, hc0, Nat.le_refl _, rfl, rfl⟩, hB13, hz3⟩
  case round =>
    obtain ⟨i, c, S, z, A9, c9, hi, rfl, rfl, rfl, rfl, hT, hH, HU, hB, hz⟩ := hrel
    obtain ⟨wo, rfl⟩ : ∃ wo, wo = wr := ⟨wr, rfl⟩
    clear hT3 hB13 hz3 h0 hc0
    have fin : ∀ w2, Below W.heap.size W w2 → W.heap.size ≤ w2.heap.size → Calls Try.prog 54 #[] w2 fun e w' => e = .returned (.bool true) ∧ Below W.heap.size W w' := fun w2 x y => (awake7_any w2).mono fun e w' ⟨h1, h2⟩ => ⟨h1, x.trans (h2.mono y)⟩
    by_cases hlt : i < N
    · by_cases hlt2 : i < 6
      · obtain ⟨g, o, rfl, hgW, B, q, dd, ps, a, K, kq, kd, ks, ha, cW0, cW1, cW2, hps, hkq, hks⟩ := HF.out i hlt
        have hd1 : decide ((i : Int) < 6) = true := by simp; omega
        have HC0 := Lib.hid (fun (w' : World) (x : Below W.heap.size W w') => (x.cell (p := ⟨g, o + i * 3, none⟩) hgW).trans cW0)
        have HC1 := Lib.hid (fun (w' : World) (x : Below W.heap.size W w') => (x.cell (p := ⟨g, o + i * 3 + 1, none⟩) hgW).trans cW1)
        have HC2 := Lib.hid (fun (w' : World) (x : Below W.heap.size W w') => (x.cell (p := ⟨g, o + i * 3 + 2, none⟩) hgW).trans cW2)
        have HPS := Lib.hid hps
        have HKS := Lib.hid (And.intro hkq hks)
        have c0 := HC0.out _ hB
        have c1 := HC1.out _ hB
        clear fin cW0 cW1 cW2 hps hkq hks
        by_cases hA : a ≤ 200
        · have hA1 : decide ((a : Int) ≤ 200) = true := by simp; omega
          go_wp2_with fail
          refine (Arm_any hT.dr.nor (a : Int) (by omega)).mono ?_
          rintro e w4 ⟨rfl, hN4, hx4⟩
          have hU := HU.out
          have hD4 := hT.dr.turn hx4 hN4 (by simp [Fl.arm]; split <;> rfl)
          have hT4 := hT.turn hx4 hD4
          have hH4 := hH.but3 hT hz (But3.of_but hx4 c)
          obtain ⟨hB4, hz4⟩ := hT.base3 hz hB (But3.of_but hx4 c)
          obtain ⟨S4, hS4⟩ : ∃ S4, S4 = S.arm (a : Int) := ⟨_, rfl⟩
          have hRw : S4.ws = S.ws ∧ S4.down = false ∧ S4.n = S.n ∧ S4.half = -1 := by
            rw [hS4]
            simp [Fl.arm, hU.1.down, hU.1.half]
          rw [← hS4] at hT4
          have hsec : ∀ σ, S4.sec 0 σ = S.sec 0 σ := fun σ => sec_of_ws hRw.1 0 σ
          have HX4 := Lib.hid (And.intro (show Lives S4 z false from ⟨hRw.2.1, hRw.2.2.2, hU.1.two.of_ws hRw.1 hRw.2.2.1, by rw [← hU.2.1]; unfold Fl.clook; rw [hsec, hsec]⟩) (And.intro (show S4.Ok from .inl hRw.2.2.2) (And.intro (hRw.2.2.1.trans hU.2.2.2.2) (And.intro (show z.t ≤ 6 * i + 0 by have := hU.2.2.1; omega) hU.2.2.2.1))))
          clear hT hH hB hz hx4 hN4 hD4 hRw hsec hS4 hU HU c0 c1
          go_wp2_with fail
          go_loopw [9, 10, 13, 14] (fun av tv fv kv wr => ∃ (k : Nat) (S1 : Fl) (z : Co) (A9 : Option Addr) (c9 : Nat) (failed : Bool), k ≤ 6 ∧ kv = .int .i64 (k : Int) ∧ fv = .bool failed ∧ av = .slice A9 z.b.length c9 ∧ tv = .int .i64 (z.t : Int) ∧ CeAt W.heap.size wr c d p b 0 S1 z failed ∧ Held W.heap.size wr A9 z.b ∧ Hid (Lives S1 z failed ∧ S1.Ok ∧ S1.n = 2 ∧ z.t ≤ 6 * i + k ∧ (z.s != -1) = decide (0 < z.t)) ∧ Below W.heap.size W wr ∧ W.heap.size ≤ wr.heap.size) (fun _ _ _ k _ => 6 - (intOf k).toNat)
          case atStart => exact ⟨0, S4, z, A9, c9, false, by omega, rfl, rfl, rfl, rfl, hT4, hH4, HX4, hB4, hz4⟩
          case round =>
            obtain ⟨k, S1, z, A9, c9, failed, hk6, rfl, rfl, rfl, rfl, hT, hH, HX, hB, hz⟩ := hrel
            clear hT4 hH4 HX4 hB4 hz4
            have c0 := HC0.out _ hB
            by_cases hkq1 : k < q
            · by_cases hk61 : k < 6
              · cases failed with
                | false =>
                  as_aux_lemma =>
                    obtain ⟨hLv, hok, hn2, hzt, hzs⟩ := HX.out
                    obtain ⟨hLd, hLh, hL2, hLk⟩ : S1.down = false ∧ S1.half = -1 ∧ Two S1 0 ∧ S1.clook 0 = z := id hLv
                    obtain ⟨gk, ok, hBk, pk, HPK, hpk, hck⟩ := (HPS.out.step hB).at_ hkq1
                    have hpkW : Held W.heap.size wr pk.A pk.l := .inl ((HPS.out.ok pk (List.mem_of_getElem? HPK.out)).sees.keep fun q hq => hB.cell hq)
                    have hpl := hpk.len
                    have c0 := HC0.out _ hB
                    rw [hBk] at c0
                    have hd2 : decide ((k : Int) < 6) = true := by simp; omega
                    by_cases hlen : pk.m ≤ 244
                    · have hcmp : decide ((244 : Int) < (pk.m : Int)) = false := by simp; omega
                      obtain ⟨T, r, e1, e2, e3, e4, e5, e6⟩ := cput_gen hL2 hLd hLh z z hLk (by omega) pk.l (by rw [hpl]; exact hlen)
                      have hP := Put_any hT hz pk.A pk.c pk.l (hpkW.off hT hz) r (!(r == 0)) e1
                      rw [hpl] at hP
                      clear e1
                      go_wp2_with fail
                      refine hP.mono ?_
                      rintro e w6 ⟨rfl, hT6, hx6⟩
                      obtain ⟨hB6, hz6⟩ := hT.base3 hz hB hx6
                      by_cases hr : r = 0
                      · subst hr
                        obtain ⟨f1, f2, f3, f4⟩ := e4 rfl
                        have hT6 : CeAt W.heap.size w6 c d p b 0 T (nextC z pk.l) false := by simpa using hT6
                        have hpk6 : Held W.heap.size w6 pk.A pk.l := hpkW.but3 hT hz hx6
                        have hto := ctold_up7 (x := nextC z pk.l) f1 f4
                        have hsb : ((nextC z pk.l).s != -1) = true := by
                          have h9 : (nextC z pk.l).s = (z.other : Int) := rfl
                          rw [h9]
                          simp
                        have hG := Get_any hT6 hz6 (nextC z pk.l) hto
                        rw [show (nextC z pk.l).b = pk.l from rfl, hpl] at hG
                        have ew : IntKind.i64.wrap ((z.t : Int) + 1) = (z.t : Int) + 1 := wrapI _ (by omega) (by omega)
                        have htt : (((nextC z pk.l).t : Nat) : Int) = (z.t : Int) + 1 := rfl
                        clear hP hT hH hB hz hx6 hpkW e4 e5 e6 hLv hLd hLh hL2 hLk hck c0
                        go_wp2_with fail
                        refine hG.mono ?_
                        rintro e w7 ⟨A3, c3, rfl, hF7, hT7, hC7⟩
                        have hpk7 := hpk6.but3 hT6 hz6 (But3.of_own hC7 p b)
                        obtain ⟨hB7, hz7⟩ := hT6.base1 hz6 hB6 hC7
                        have q5 : (pk.l == pk.l) = true := by simp
                        go_wp2_with fail
                        refine (SameBytes_any A3 pk.A c3 pk.c pk.m pk.m pk.l pk.l w7 hF7.sees (hpk7.sees hz7) hpl hpl).mono ?_
                        rintro e w8 ⟨rfl, rfl⟩
                        go_wp2_with fail
                        refine (CTurn_any hT7 hz7 (nextC z pk.l) hto).mono ?_
                        rintro e w8 ⟨rfl, hT8, hC8⟩
                        have hpk8 := hpk7.but3 hT7 hz7 (But3.of_own hC8 p b)
                        obtain ⟨hB8, hz8⟩ := hT7.base1 hz7 hB7 hC8
                        rw [htt]
                        go_wp2_with fail
                        go_roundw
                        case rel => exact ⟨k + 1, T, nextC z pk.l, pk.A, pk.c, false, by omega, by go_num, rfl, by rw [show (nextC z pk.l).b = pk.l from rfl, hpl], by rw [htt], hT8, hpk8, Lib.hid ⟨⟨f1, f2, f3, f4⟩, e3, e2.trans hn2, by show z.t + 1 ≤ _; omega, by rw [hsb]; exact (decide_eq_true (by show 0 < z.t + 1; omega)).symm⟩, hB8, hz8⟩
                        case measure => simp [intOf]; omega
                      · obtain ⟨f1, f2⟩ := e5 hr
                        have hri : ¬ ((r : Int) = 0) := by omega
                        have hrb : (!(r == 0)) = true := by simp [hr]
                        rw [if_neg hr, hrb] at hT6
                        have hH6 := hH.but3 hT hz hx6
                        clear hP hT hH hB hz hx6 hpkW e4 e5 e6 hLv hLd hLh hL2 hLk hck c0
                        go_wp2_with fail
                        go_roundw
                        case rel => exact ⟨k + 1, T, z, A9, c9, true, by omega, by go_num, (by have h9 : ((r : Int) != 0) = true := (by simp; omega); rw [h9]), rfl, rfl, hT6, hH6, Lib.hid ⟨⟨f1, fun ks => ⟨(f2 ks).1, (f2 ks).2.2⟩⟩, e3, e2.trans hn2, by omega, hzs⟩, hB6, hz6⟩
                        case measure => simp [intOf]; omega
                    · have hcmp : decide ((244 : Int) < (pk.m : Int)) = true := by simp; omega
                      go_wp2_with fail
                      go_roundw
                      case rel => exact ⟨k + 1, S1, z, A9, c9, false, by omega, by go_num, rfl, rfl, rfl, hT, hH, Lib.hid ⟨hLv, hok, hn2, by omega, hzs⟩, hB, hz⟩
                      case measure => simp [intOf]; omega
                | true =>
                  have hd2 : decide ((k : Int) < 6) = true := by simp; omega
                  as_aux_lemma =>
                    obtain ⟨hLv, hok, hn2, hzt, hzs⟩ := HX.out
                    have c2 := HC2.out _ hB
                    have hks : Sees wr W.heap.size K (cl ks) := HKS.out.2.keep fun q hq => hB.cell hq
                    obtain ⟨hUp, hlk⟩ := hLv.crash ks
                    go_wp2_with fail
                    refine (Crash_any hT.dr.nor hok K kq kd ks hz hks HKS.out.1).mono ?_
                    rintro e w5 ⟨rfl, hN5, hx5⟩
                    have hD5 := hT.dr.turn hx5 hN5 (crash_up7 S1 ks).2.2.2
                    have hH5 := hH.but3 hT hz (But3.of_but hx5 c)
                    obtain ⟨hB5, hz5⟩ := hT.base3 hz hB (But3.of_but hx5 c)
                    have hT5 := hT.turn hx5 hD5
                    clear hT hH hN5 hx5 hB hz c2 hks
                    go_wp2_with fail
                    refine (COpen_yes hD5 hUp.down hz5 z hlk).mono ?_
                    rintro e w6 ⟨u, rfl, hu6, hx6, hut⟩
                    have hH6 := hH5.below hz5 hx6
                    obtain ⟨hB6, hz6⟩ := hT5.base0 hz5 hB5 hx6
                    have hto := ctold_up7 (x := z) hUp.down hlk
                    clear hT5 hH5 hD5 hx6 hB5 hz5
                    go_wp2_with fail
                    refine (Get_any hu6 hz6 z hto).mono ?_
                    rintro e w7 ⟨A3, c3, rfl, hF7, hu7, hC7⟩
                    have hH7 := hH6.but3 hu6 hz6 (But3.of_own hC7 p b)
                    obtain ⟨hB7, hz7⟩ := hu6.base1 hz6 hB6 hC7
                    clear hu6 hH6 hB6 hz6 hC7
                    have q4 : ((z.s != -1) == decide ((0 : Int) < (z.t : Int))) = true := by rw [hzs]; simp
                    have q5 : (z.b == z.b) = true := by simp
                    have ew : IntKind.i64.wrap ((z.t : Int) + 1) = (z.t : Int) + 1 := wrapI _ (by omega) (by omega)
                    have q6 : ((z.t : Int) == (z.t : Int) + 1) = false := by simp only [beq_eq_false_iff_ne, ne_eq]; omega
                    go_wp2_with fail
                    refine (CTurn_any hu7 hz7 z hto).mono ?_
                    rintro e w8 ⟨rfl, hu8, hC8⟩
                    have hH8 := hH7.but3 hu7 hz7 (But3.of_own hC8 p b)
                    obtain ⟨_, _, ur7⟩ := hu7.row
                    have hF8 := hF7.unlike2 ur7.1 ur7.1 (by decide) (by decide) hC8
                    obtain ⟨hB8, hz8⟩ := hu7.base1 hz7 hB7 hC8
                    clear hu7 hH7 hF7 hB7 hz7 hC8 ur7
                    go_wp2_with fail
                    refine (SameBytes_any A3 A9 c3 c9 z.b.length z.b.length z.b z.b w8 hF8.sees (hH8.sees hz8) rfl rfl).mono ?_
                    rintro e w9 ⟨rfl, rfl⟩
                    by_cases hs1 : (z.s != -1) = true
                    · have hs3 : 0 < z.t := of_decide_eq_true (hzs.symm.trans hs1)
                      go_wp2_with fail
                      refine (CTurn_any hu8 hz8 z hto).mono ?_
                      rintro e w9 ⟨rfl, hu9, hC9⟩
                      obtain ⟨_, _, ur8⟩ := hu8.row
                      have hF9 := hF8.unlike2 ur8.1 ur8.1 (by decide) (by decide) hC9
                      obtain ⟨hB9, hz9⟩ := hu8.base1 hz8 hB8 hC9
                      go_wp2_with fail
                      refine (CTurn_any hu9 hz9 z hto).mono ?_
                      rintro e w10 ⟨rfl, hu10, hC10⟩
                      obtain ⟨_, _, ur9⟩ := hu9.row
                      have hF10 := hF9.unlike2 ur9.1 ur9.1 (by decide) (by decide) hC10
                      obtain ⟨hB10, hz10⟩ := hu9.base1 hz9 hB9 hC10
                      go_wp2_with fail
                      go_roundw
                      case rel => exact ⟨i + 1, u, S1.crash ks, z, A3, c3, by omega, by go_num, rfl, rfl, rfl, hu10, .inr ⟨_, _, _, hF10⟩, Lib.hid ⟨hUp, hlk, by omega, hzs, by rw [(crash_up7 S1 ks).2.2.2]; exact hn2⟩, hB10, hz10⟩
                      case measure => simp [intOf]; omega
                    · have hs1 : (z.s != -1) = false := by simpa using hs1
                      have hs3 : ¬ 0 < z.t := of_decide_eq_false (hzs.symm.trans hs1)
                      go_wp2_with fail
                      refine (CTurn_any hu8 hz8 z hto).mono ?_
                      rintro e w9 ⟨rfl, hu9, hC9⟩
                      obtain ⟨_, _, ur8⟩ := hu8.row
                      have hF9 := hF8.unlike2 ur8.1 ur8.1 (by decide) (by decide) hC9
                      obtain ⟨hB9, hz9⟩ := hu8.base1 hz8 hB8 hC9
                      go_wp2_with fail
                      go_roundw
                      case rel => exact ⟨i + 1, u, S1.crash ks, z, A3, c3, by omega, by go_num, rfl, rfl, rfl, hu9, .inr ⟨_, _, _, hF9⟩, Lib.hid ⟨hUp, hlk, by omega, hzs, by rw [(crash_up7 S1 ks).2.2.2]; exact hn2⟩, hB9, hz9⟩
                      case measure => simp [intOf]; omega
              · have hd2 : decide ((k : Int) < 6) = false := by simp; omega
                as_aux_lemma =>
                  obtain ⟨hLv, hok, hn2, hzt, hzs⟩ := HX.out
                  have c2 := HC2.out _ hB
                  have hks : Sees wr W.heap.size K (cl ks) := HKS.out.2.keep fun q hq => hB.cell hq
                  obtain ⟨hUp, hlk⟩ := hLv.crash ks
                  go_wp2_with fail
                  refine (Crash_any hT.dr.nor hok K kq kd ks hz hks HKS.out.1).mono ?_
                  rintro e w5 ⟨rfl, hN5, hx5⟩
                  have hD5 := hT.dr.turn hx5 hN5 (crash_up7 S1 ks).2.2.2
                  have hH5 := hH.but3 hT hz (But3.of_but hx5 c)
                  obtain ⟨hB5, hz5⟩ := hT.base3 hz hB (But3.of_but hx5 c)
                  have hT5 := hT.turn hx5 hD5
                  clear hT hH hN5 hx5 hB hz c2 hks
                  go_wp2_with fail
                  refine (COpen_yes hD5 hUp.down hz5 z hlk).mono ?_
                  rintro e w6 ⟨u, rfl, hu6, hx6, hut⟩
                  have hH6 := hH5.below hz5 hx6
                  obtain ⟨hB6, hz6⟩ := hT5.base0 hz5 hB5 hx6
                  have hto := ctold_up7 (x := z) hUp.down hlk
                  clear hT5 hH5 hD5 hx6 hB5 hz5
                  go_wp2_with fail
                  refine (Get_any hu6 hz6 z hto).mono ?_
                  rintro e w7 ⟨A3, c3, rfl, hF7, hu7, hC7⟩
                  have hH7 := hH6.but3 hu6 hz6 (But3.of_own hC7 p b)
                  obtain ⟨hB7, hz7⟩ := hu6.base1 hz6 hB6 hC7
                  clear hu6 hH6 hB6 hz6 hC7
                  have q4 : ((z.s != -1) == decide ((0 : Int) < (z.t : Int))) = true := by rw [hzs]; simp
                  have q5 : (z.b == z.b) = true := by simp
                  have ew : IntKind.i64.wrap ((z.t : Int) + 1) = (z.t : Int) + 1 := wrapI _ (by omega) (by omega)
                  have q6 : ((z.t : Int) == (z.t : Int) + 1) = false := by simp only [beq_eq_false_iff_ne, ne_eq]; omega
                  go_wp2_with fail
                  refine (CTurn_any hu7 hz7 z hto).mono ?_
                  rintro e w8 ⟨rfl, hu8, hC8⟩
                  have hH8 := hH7.but3 hu7 hz7 (But3.of_own hC8 p b)
                  obtain ⟨_, _, ur7⟩ := hu7.row
                  have hF8 := hF7.unlike2 ur7.1 ur7.1 (by decide) (by decide) hC8
                  obtain ⟨hB8, hz8⟩ := hu7.base1 hz7 hB7 hC8
                  clear hu7 hH7 hF7 hB7 hz7 hC8 ur7
                  go_wp2_with fail
                  refine (SameBytes_any A3 A9 c3 c9 z.b.length z.b.length z.b z.b w8 hF8.sees (hH8.sees hz8) rfl rfl).mono ?_
                  rintro e w9 ⟨rfl, rfl⟩
                  cases failed with
                  | false =>
                    go_wp2_with fail
                    refine (CTurn_any hu8 hz8 z hto).mono ?_
                    rintro e w9 ⟨rfl, hu9, hC9⟩
                    obtain ⟨_, _, ur8⟩ := hu8.row
                    have hF9 := hF8.unlike2 ur8.1 ur8.1 (by decide) (by decide) hC9
                    obtain ⟨hB9, hz9⟩ := hu8.base1 hz8 hB8 hC9
                    go_wp2_with fail
                    go_roundw
                    case rel => exact ⟨i + 1, u, S1.crash ks, z, A3, c3, by omega, by go_num, rfl, rfl, rfl, hu9, .inr ⟨_, _, _, hF9⟩, Lib.hid ⟨hUp, hlk, by omega, hzs, by rw [(crash_up7 S1 ks).2.2.2]; exact hn2⟩, hB9, hz9⟩
                    case measure => simp [intOf]; omega
                  | true =>
                    by_cases hs1 : (z.s != -1) = true
                    · have hs3 : 0 < z.t := of_decide_eq_true (hzs.symm.trans hs1)
                      go_wp2_with fail
                      refine (CTurn_any hu8 hz8 z hto).mono ?_
                      rintro e w9 ⟨rfl, hu9, hC9⟩
                      obtain ⟨_, _, ur8⟩ := hu8.row
                      have hF9 := hF8.unlike2 ur8.1 ur8.1 (by decide) (by decide) hC9
                      obtain ⟨hB9, hz9⟩ := hu8.base1 hz8 hB8 hC9
                      go_wp2_with fail
                      refine (CTurn_any hu9 hz9 z hto).mono ?_
                      rintro e w10 ⟨rfl, hu10, hC10⟩
                      obtain ⟨_, _, ur9⟩ := hu9.row
                      have hF10 := hF9.unlike2 ur9.1 ur9.1 (by decide) (by decide) hC10
                      obtain ⟨hB10, hz10⟩ := hu9.base1 hz9 hB9 hC10
                      go_wp2_with fail
                      go_roundw
                      case rel => exact ⟨i + 1, u, S1.crash ks, z, A3, c3, by omega, by go_num, rfl, rfl, rfl, hu10, .inr ⟨_, _, _, hF10⟩, Lib.hid ⟨hUp, hlk, by omega, hzs, by rw [(crash_up7 S1 ks).2.2.2]; exact hn2⟩, hB10, hz10⟩
                      case measure => simp [intOf]; omega
                    · have hs1 : (z.s != -1) = false := by simpa using hs1
                      have hs3 : ¬ 0 < z.t := of_decide_eq_false (hzs.symm.trans hs1)
                      go_wp2_with fail
                      refine (CTurn_any hu8 hz8 z hto).mono ?_
                      rintro e w9 ⟨rfl, hu9, hC9⟩
                      obtain ⟨_, _, ur8⟩ := hu8.row
                      have hF9 := hF8.unlike2 ur8.1 ur8.1 (by decide) (by decide) hC9
                      obtain ⟨hB9, hz9⟩ := hu8.base1 hz8 hB8 hC9
                      go_wp2_with fail
                      go_roundw
                      case rel => exact ⟨i + 1, u, S1.crash ks, z, A3, c3, by omega, by go_num, rfl, rfl, rfl, hu9, .inr ⟨_, _, _, hF9⟩, Lib.hid ⟨hUp, hlk, by omega, hzs, by rw [(crash_up7 S1 ks).2.2.2]; exact hn2⟩, hB9, hz9⟩
                      case measure => simp [intOf]; omega
            · have hd3 : True := trivial
              as_aux_lemma =>
                obtain ⟨hLv, hok, hn2, hzt, hzs⟩ := HX.out
                have c2 := HC2.out _ hB
                have hks : Sees wr W.heap.size K (cl ks) := HKS.out.2.keep fun q hq => hB.cell hq
                obtain ⟨hUp, hlk⟩ := hLv.crash ks
                go_wp2_with fail
                refine (Crash_any hT.dr.nor hok K kq kd ks hz hks HKS.out.1).mono ?_
                rintro e w5 ⟨rfl, hN5, hx5⟩
                have hD5 := hT.dr.turn hx5 hN5 (crash_up7 S1 ks).2.2.2
                have hH5 := hH.but3 hT hz (But3.of_but hx5 c)
                obtain ⟨hB5, hz5⟩ := hT.base3 hz hB (But3.of_but hx5 c)
                have hT5 := hT.turn hx5 hD5
                clear hT hH hN5 hx5 hB hz c2 hks
                go_wp2_with fail
                refine (COpen_yes hD5 hUp.down hz5 z hlk).mono ?_
                rintro e w6 ⟨u, rfl, hu6, hx6, hut⟩
                have hH6 := hH5.below hz5 hx6
                obtain ⟨hB6, hz6⟩ := hT5.base0 hz5 hB5 hx6
                have hto := ctold_up7 (x := z) hUp.down hlk
                clear hT5 hH5 hD5 hx6 hB5 hz5
                go_wp2_with fail
                refine (Get_any hu6 hz6 z hto).mono ?_
                rintro e w7 ⟨A3, c3, rfl, hF7, hu7, hC7⟩
                have hH7 := hH6.but3 hu6 hz6 (But3.of_own hC7 p b)
                obtain ⟨hB7, hz7⟩ := hu6.base1 hz6 hB6 hC7
                clear hu6 hH6 hB6 hz6 hC7
                have q4 : ((z.s != -1) == decide ((0 : Int) < (z.t : Int))) = true := by rw [hzs]; simp
                have q5 : (z.b == z.b) = true := by simp
                have ew : IntKind.i64.wrap ((z.t : Int) + 1) = (z.t : Int) + 1 := wrapI _ (by omega) (by omega)
                have q6 : ((z.t : Int) == (z.t : Int) + 1) = false := by simp only [beq_eq_false_iff_ne, ne_eq]; omega
                go_wp2_with fail
                refine (CTurn_any hu7 hz7 z hto).mono ?_
                rintro e w8 ⟨rfl, hu8, hC8⟩
                have hH8 := hH7.but3 hu7 hz7 (But3.of_own hC8 p b)
                obtain ⟨_, _, ur7⟩ := hu7.row
                have hF8 := hF7.unlike2 ur7.1 ur7.1 (by decide) (by decide) hC8
                obtain ⟨hB8, hz8⟩ := hu7.base1 hz7 hB7 hC8
                clear hu7 hH7 hF7 hB7 hz7 hC8 ur7
                go_wp2_with fail
                refine (SameBytes_any A3 A9 c3 c9 z.b.length z.b.length z.b z.b w8 hF8.sees (hH8.sees hz8) rfl rfl).mono ?_
                rintro e w9 ⟨rfl, rfl⟩
                cases failed with
                | false =>
                  go_wp2_with fail
                  refine (CTurn_any hu8 hz8 z hto).mono ?_
                  rintro e w9 ⟨rfl, hu9, hC9⟩
                  obtain ⟨_, _, ur8⟩ := hu8.row
                  have hF9 := hF8.unlike2 ur8.1 ur8.1 (by decide) (by decide) hC9
                  obtain ⟨hB9, hz9⟩ := hu8.base1 hz8 hB8 hC9
                  go_wp2_with fail
                  go_roundw
                  case rel => exact ⟨i + 1, u, S1.crash ks, z, A3, c3, by omega, by go_num, rfl, rfl, rfl, hu9, .inr ⟨_, _, _, hF9⟩, Lib.hid ⟨hUp, hlk, by omega, hzs, by rw [(crash_up7 S1 ks).2.2.2]; exact hn2⟩, hB9, hz9⟩
                  case measure => simp [intOf]; omega
                | true =>
                  by_cases hs1 : (z.s != -1) = true
                  · have hs3 : 0 < z.t := of_decide_eq_true (hzs.symm.trans hs1)
                    go_wp2_with fail
                    refine (CTurn_any hu8 hz8 z hto).mono ?_
                    rintro e w9 ⟨rfl, hu9, hC9⟩
                    obtain ⟨_, _, ur8⟩ := hu8.row
                    have hF9 := hF8.unlike2 ur8.1 ur8.1 (by decide) (by decide) hC9
                    obtain ⟨hB9, hz9⟩ := hu8.base1 hz8 hB8 hC9
                    go_wp2_with fail
                    refine (CTurn_any hu9 hz9 z hto).mono ?_
                    rintro e w10 ⟨rfl, hu10, hC10⟩
                    obtain ⟨_, _, ur9⟩ := hu9.row
                    have hF10 := hF9.unlike2 ur9.1 ur9.1 (by decide) (by decide) hC10
                    obtain ⟨hB10, hz10⟩ := hu9.base1 hz9 hB9 hC10
                    go_wp2_with fail
                    go_roundw
                    case rel => exact ⟨i + 1, u, S1.crash ks, z, A3, c3, by omega, by go_num, rfl, rfl, rfl, hu10, .inr ⟨_, _, _, hF10⟩, Lib.hid ⟨hUp, hlk, by omega, hzs, by rw [(crash_up7 S1 ks).2.2.2]; exact hn2⟩, hB10, hz10⟩
                    case measure => simp [intOf]; omega
                  · have hs1 : (z.s != -1) = false := by simpa using hs1
                    have hs3 : ¬ 0 < z.t := of_decide_eq_false (hzs.symm.trans hs1)
                    go_wp2_with fail
                    refine (CTurn_any hu8 hz8 z hto).mono ?_
                    rintro e w9 ⟨rfl, hu9, hC9⟩
                    obtain ⟨_, _, ur8⟩ := hu8.row
                    have hF9 := hF8.unlike2 ur8.1 ur8.1 (by decide) (by decide) hC9
                    obtain ⟨hB9, hz9⟩ := hu8.base1 hz8 hB8 hC9
                    go_wp2_with fail
                    go_roundw
                    case rel => exact ⟨i + 1, u, S1.crash ks, z, A3, c3, by omega, by go_num, rfl, rfl, rfl, hu9, .inr ⟨_, _, _, hF9⟩, Lib.hid ⟨hUp, hlk, by omega, hzs, by rw [(crash_up7 S1 ks).2.2.2]; exact hn2⟩, hB9, hz9⟩
                    case measure => simp [intOf]; omega
        · have hA1 : decide ((a : Int) ≤ 200) = false := by simp; omega
          have hU := HU.out
          obtain ⟨w4, hw4⟩ : ∃ w4, w4 = wo := ⟨_, rfl⟩
          obtain ⟨S4, hS4⟩ : ∃ S4, S4 = S := ⟨_, rfl⟩
          subst hS4
          have hT4 := hT
          have hH4 := hH
          have hB4 := hB
          have hz4 := hz
          have HX4 := Lib.hid (And.intro (show Lives S4 z false from ⟨hU.1.down, hU.1.half, hU.1.two, hU.2.1⟩) (And.intro (show S4.Ok from .inl hU.1.half) (And.intro hU.2.2.2.2 (And.intro (show z.t ≤ 6 * i + 0 by have := hU.2.2.1; omega) hU.2.2.2.1))))
          clear hT hH hB hz hU HU hw4
          go_wp2_with fail
          go_loopw [9, 10, 13, 14] (fun av tv fv kv wr => ∃ (k : Nat) (S1 : Fl) (z : Co) (A9 : Option Addr) (c9 : Nat) (failed : Bool), k ≤ 6 ∧ kv = .int .i64 (k : Int) ∧ fv = .bool failed ∧ av = .slice A9 z.b.length c9 ∧ tv = .int .i64 (z.t : Int) ∧ CeAt W.heap.size wr c d p b 0 S1 z failed ∧ Held W.heap.size wr A9 z.b ∧ Hid (Lives S1 z failed ∧ S1.Ok ∧ S1.n = 2 ∧ z.t ≤ 6 * i + k ∧ (z.s != -1) = decide (0 < z.t)) ∧ Below W.heap.size W wr ∧ W.heap.size ≤ wr.heap.size) (fun _ _ _ k _ => 6 - (intOf k).toNat)
          case atStart => exact ⟨0, S4, z, A9, c9, false, by omega, rfl, rfl, rfl, rfl, hT4, hH4, HX4, hB4, hz4⟩
          case round =>
            obtain ⟨k, S1, z, A9, c9, failed, hk6, rfl, rfl, rfl, rfl, hT, hH, HX, hB, hz⟩ := hrel
            clear hT4 hH4 HX4 hB4 hz4
            have c0 := HC0.out _ hB
            by_cases hkq1 : k < q
            · by_cases hk61 : k < 6
              · cases failed with
                | false =>
                  as_aux_lemma =>
                    obtain ⟨hLv, hok, hn2, hzt, hzs⟩ := HX.out
                    obtain ⟨hLd, hLh, hL2, hLk⟩ : S1.down = false ∧ S1.half = -1 ∧ Two S1 0 ∧ S1.clook 0 = z := id hLv
                    obtain ⟨gk, ok, hBk, pk, HPK, hpk, hck⟩ := (HPS.out.step hB).at_ hkq1
                    have hpkW : Held W.heap.size wr pk.A pk.l := .inl ((HPS.out.ok pk (List.mem_of_getElem? HPK.out)).sees.keep fun q hq => hB.cell hq)
                    have hpl := hpk.len
                    have c0 := HC0.out _ hB
                    rw [hBk] at c0
                    have hd2 : decide ((k : Int) < 6) = true := by simp; omega
                    by_cases hlen : pk.m ≤ 244
                    · have hcmp : decide ((244 : Int) < (pk.m : Int)) = false := by simp; omega
                      obtain ⟨T, r, e1, e2, e3, e4, e5, e6⟩ := cput_gen hL2 hLd hLh z z hLk (by omega) pk.l (by rw [hpl]; exact hlen)
                      have hP := Put_any hT hz pk.A pk.c pk.l (hpkW.off hT hz) r (!(r == 0)) e1
                      rw [hpl] at hP
                      clear e1
                      go_wp2_with fail
                      refine hP.mono ?_
                      rintro e w6 ⟨rfl, hT6, hx6⟩
                      obtain ⟨hB6, hz6⟩ := hT.base3 hz hB hx6
                      by_cases hr : r = 0
                      · subst hr
                        obtain ⟨f1, f2, f3, f4⟩ := e4 rfl
                        have hT6 : CeAt W.heap.size w6 c d p b 0 T (nextC z pk.l) false := by simpa using hT6
                        have hpk6 : Held W.heap.size w6 pk.A pk.l := hpkW.but3 hT hz hx6
                        have hto := ctold_up7 (x := nextC z pk.l) f1 f4
                        have hsb : ((nextC z pk.l).s != -1) = true := by
                          have h9 : (nextC z pk.l).s = (z.other : Int) := rfl
                          rw [h9]
                          simp
                        have hG := Get_any hT6 hz6 (nextC z pk.l) hto
                        rw [show (nextC z pk.l).b = pk.l from rfl, hpl] at hG
                        have ew : IntKind.i64.wrap ((z.t : Int) + 1) = (z.t : Int) + 1 := wrapI _ (by omega) (by omega)
                        have htt : (((nextC z pk.l).t : Nat) : Int) = (z.t : Int) + 1 := rfl
                        clear hP hT hH hB hz hx6 hpkW e4 e5 e6 hLv hLd hLh hL2 hLk hck c0
                        go_wp2_with fail
                        refine hG.mono ?_
                        rintro e w7 ⟨A3, c3, rfl, hF7, hT7, hC7⟩
                        have hpk7 := hpk6.but3 hT6 hz6 (But3.of_own hC7 p b)
                        obtain ⟨hB7, hz7⟩ := hT6.base1 hz6 hB6 hC7
                        have q5 : (pk.l == pk.l) = true := by simp
                        go_wp2_with fail
                        refine (SameBytes_any A3 pk.A c3 pk.c pk.m pk.m pk.l pk.l w7 hF7.sees (hpk7.sees hz7) hpl hpl).mono ?_
                        rintro e w8 ⟨rfl, rfl⟩
                        go_wp2_with fail
                        refine (CTurn_any hT7 hz7 (nextC z pk.l) hto).mono ?_
                        rintro e w8 ⟨rfl, hT8, hC8⟩
                        have hpk8 := hpk7.but3 hT7 hz7 (But3.of_own hC8 p b)
                        obtain ⟨hB8, hz8⟩ := hT7.base1 hz7 hB7 hC8
                        rw [htt]
                        go_wp2_with fail
                        go_roundw
                        case rel => exact ⟨k + 1, T, nextC z pk.l, pk.A, pk.c, false, by omega, by go_num, rfl, by rw [show (nextC z pk.l).b = pk.l from rfl, hpl], by rw [htt], hT8, hpk8, Lib.hid ⟨⟨f1, f2, f3, f4⟩, e3, e2.trans hn2, by show z.t + 1 ≤ _; omega, by rw [hsb]; exact (decide_eq_true (by show 0 < z.t + 1; omega)).symm⟩, hB8, hz8⟩
                        case measure => simp [intOf]; omega
                      · obtain ⟨f1, f2⟩ := e5 hr
                        have hri : ¬ ((r : Int) = 0) := by omega
                        have hrb : (!(r == 0)) = true := by simp [hr]
                        rw [if_neg hr, hrb] at hT6
                        have hH6 := hH.but3 hT hz hx6
                        clear hP hT hH hB hz hx6 hpkW e4 e5 e6 hLv hLd hLh hL2 hLk hck c0
                        go_wp2_with fail
                        go_roundw
                        case rel => exact ⟨k + 1, T, z, A9, c9, true, by omega, by go_num, (by have h9 : ((r : Int) != 0) = true := (by simp; omega); rw [h9]), rfl, rfl, hT6, hH6, Lib.hid ⟨⟨f1, fun ks => ⟨(f2 ks).1, (f2 ks).2.2⟩⟩, e3, e2.trans hn2, by omega, hzs⟩, hB6, hz6⟩
                        case measure => simp [intOf]; omega
                    · have hcmp : decide ((244 : Int) < (pk.m : Int)) = true := by simp; omega
                      go_wp2_with fail
                      go_roundw
                      case rel => exact ⟨k + 1, S1, z, A9, c9, false, by omega, by go_num, rfl, rfl, rfl, hT, hH, Lib.hid ⟨hLv, hok, hn2, by omega, hzs⟩, hB, hz⟩
                      case measure => simp [intOf]; omega
                | true =>
                  have hd2 : decide ((k : Int) < 6) = true := by simp; omega
                  as_aux_lemma =>
                    obtain ⟨hLv, hok, hn2, hzt, hzs⟩ := HX.out
                    have c2 := HC2.out _ hB
                    have hks : Sees wr W.heap.size K (cl ks) := HKS.out.2.keep fun q hq => hB.cell hq
                    obtain ⟨hUp, hlk⟩ := hLv.crash ks
                    go_wp2_with fail
                    refine (Crash_any hT.dr.nor hok K kq kd ks hz hks HKS.out.1).mono ?_
                    rintro e w5 ⟨rfl, hN5, hx5⟩
                    have hD5 := hT.dr.turn hx5 hN5 (crash_up7 S1 ks).2.2.2
                    have hH5 := hH.but3 hT hz (But3.of_but hx5 c)
                    obtain ⟨hB5, hz5⟩ := hT.base3 hz hB (But3.of_but hx5 c)
                    have hT5 := hT.turn hx5 hD5
                    clear hT hH hN5 hx5 hB hz c2 hks
                    go_wp2_with fail
                    refine (COpen_yes hD5 hUp.down hz5 z hlk).mono ?_
                    rintro e w6 ⟨u, rfl, hu6, hx6, hut⟩
                    have hH6 := hH5.below hz5 hx6
                    obtain ⟨hB6, hz6⟩ := hT5.base0 hz5 hB5 hx6
                    have hto := ctold_up7 (x := z) hUp.down hlk
                    clear hT5 hH5 hD5 hx6 hB5 hz5
                    go_wp2_with fail
                    refine (Get_any hu6 hz6 z hto).mono ?_
                    rintro e w7 ⟨A3, c3, rfl, hF7, hu7, hC7⟩
                    have hH7 := hH6.but3 hu6 hz6 (But3.of_own hC7 p b)
                    obtain ⟨hB7, hz7⟩ := hu6.base1 hz6 hB6 hC7
                    clear hu6 hH6 hB6 hz6 hC7
                    have q4 : ((z.s != -1) == decide ((0 : Int) < (z.t : Int))) = true := by rw [hzs]; simp
                    have q5 : (z.b == z.b) = true := by simp
                    have ew : IntKind.i64.wrap ((z.t : Int) + 1) = (z.t : Int) + 1 := wrapI _ (by omega) (by omega)
                    have q6 : ((z.t : Int) == (z.t : Int) + 1) = false := by simp only [beq_eq_false_iff_ne, ne_eq]; omega
                    go_wp2_with fail
                    refine (CTurn_any hu7 hz7 z hto).mono ?_
                    rintro e w8 ⟨rfl, hu8, hC8⟩
                    have hH8 := hH7.but3 hu7 hz7 (But3.of_own hC8 p b)
                    obtain ⟨_, _, ur7⟩ := hu7.row
                    have hF8 := hF7.unlike2 ur7.1 ur7.1 (by decide) (by decide) hC8
                    obtain ⟨hB8, hz8⟩ := hu7.base1 hz7 hB7 hC8
                    clear hu7 hH7 hF7 hB7 hz7 hC8 ur7
                    go_wp2_with fail
                    refine (SameBytes_any A3 A9 c3 c9 z.b.length z.b.length z.b z.b w8 hF8.sees (hH8.sees hz8) rfl rfl).mono ?_
                    rintro e w9 ⟨rfl, rfl⟩
                    by_cases hs1 : (z.s != -1) = true
                    · have hs3 : 0 < z.t := of_decide_eq_true (hzs.symm.trans hs1)
                      go_wp2_with fail
                      refine (CTurn_any hu8 hz8 z hto).mono ?_
                      rintro e w9 ⟨rfl, hu9, hC9⟩
                      obtain ⟨_, _, ur8⟩ := hu8.row
                      have hF9 := hF8.unlike2 ur8.1 ur8.1 (by decide) (by decide) hC9
                      obtain ⟨hB9, hz9⟩ := hu8.base1 hz8 hB8 hC9
                      go_wp2_with fail
                      refine (CTurn_any hu9 hz9 z hto).mono ?_
                      rintro e w10 ⟨rfl, hu10, hC10⟩
                      obtain ⟨_, _, ur9⟩ := hu9.row
                      have hF10 := hF9.unlike2 ur9.1 ur9.1 (by decide) (by decide) hC10
                      obtain ⟨hB10, hz10⟩ := hu9.base1 hz9 hB9 hC10
                      go_wp2_with fail
                      go_roundw
                      case rel => exact ⟨i + 1, u, S1.crash ks, z, A3, c3, by omega, by go_num, rfl, rfl, rfl, hu10, .inr ⟨_, _, _, hF10⟩, Lib.hid ⟨hUp, hlk, by omega, hzs, by rw [(crash_up7 S1 ks).2.2.2]; exact hn2⟩, hB10, hz10⟩
                      case measure => simp [intOf]; omega
                    · have hs1 : (z.s != -1) = false := by simpa using hs1
                      have hs3 : ¬ 0 < z.t := of_decide_eq_false (hzs.symm.trans hs1)
                      go_wp2_with fail
                      refine (CTurn_any hu8 hz8 z hto).mono ?_
                      rintro e w9 ⟨rfl, hu9, hC9⟩
                      obtain ⟨_, _, ur8⟩ := hu8.row
                      have hF9 := hF8.unlike2 ur8.1 ur8.1 (by decide) (by decide) hC9
                      obtain ⟨hB9, hz9⟩ := hu8.base1 hz8 hB8 hC9
                      go_wp2_with fail
                      go_roundw
                      case rel => exact ⟨i + 1, u, S1.crash ks, z, A3, c3, by omega, by go_num, rfl, rfl, rfl, hu9, .inr ⟨_, _, _, hF9⟩, Lib.hid ⟨hUp, hlk, by omega, hzs, by rw [(crash_up7 S1 ks).2.2.2]; exact hn2⟩, hB9, hz9⟩
                      case measure => simp [intOf]; omega
              · have hd2 : decide ((k : Int) < 6) = false := by simp; omega
                as_aux_lemma =>
                  obtain ⟨hLv, hok, hn2, hzt, hzs⟩ := HX.out
                  have c2 := HC2.out _ hB
                  have hks : Sees wr W.heap.size K (cl ks) := HKS.out.2.keep fun q hq => hB.cell hq
                  obtain ⟨hUp, hlk⟩ := hLv.crash ks
                  go_wp2_with fail
                  refine (Crash_any hT.dr.nor hok K kq kd ks hz hks HKS.out.1).mono ?_
                  rintro e w5 ⟨rfl, hN5, hx5⟩
                  have hD5 := hT.dr.turn hx5 hN5 (crash_up7 S1 ks).2.2.2
                  have hH5 := hH.but3 hT hz (But3.of_but hx5 c)
                  obtain ⟨hB5, hz5⟩ := hT.base3 hz hB (But3.of_but hx5 c)
                  have hT5 := hT.turn hx5 hD5
                  clear hT hH hN5 hx5 hB hz c2 hks
                  go_wp2_with fail
                  refine (COpen_yes hD5 hUp.down hz5 z hlk).mono ?_
                  rintro e w6 ⟨u, rfl, hu6, hx6, hut⟩
                  have hH6 := hH5.below hz5 hx6
                  obtain ⟨hB6, hz6⟩ := hT5.base0 hz5 hB5 hx6
                  have hto := ctold_up7 (x := z) hUp.down hlk
                  clear hT5 hH5 hD5 hx6 hB5 hz5
                  go_wp2_with fail
                  refine (Get_any hu6 hz6 z hto).mono ?_
                  rintro e w7 ⟨A3, c3, rfl, hF7, hu7, hC7⟩
                  have hH7 := hH6.but3 hu6 hz6 (But3.of_own hC7 p b)
                  obtain ⟨hB7, hz7⟩ := hu6.base1 hz6 hB6 hC7
                  clear hu6 hH6 hB6 hz6 hC7
                  have q4 : ((z.s != -1) == decide ((0 : Int) < (z.t : Int))) = true := by rw [hzs]; simp
                  have q5 : (z.b == z.b) = true := by simp
                  have ew : IntKind.i64.wrap ((z.t : Int) + 1) = (z.t : Int) + 1 := wrapI _ (by omega) (by omega)
                  have q6 : ((z.t : Int) == (z.t : Int) + 1) = false := by simp only [beq_eq_false_iff_ne, ne_eq]; omega
                  go_wp2_with fail
                  refine (CTurn_any hu7 hz7 z hto).mono ?_
                  rintro e w8 ⟨rfl, hu8, hC8⟩
                  have hH8 := hH7.but3 hu7 hz7 (But3.of_own hC8 p b)
                  obtain ⟨_, _, ur7⟩ := hu7.row
                  have hF8 := hF7.unlike2 ur7.1 ur7.1 (by decide) (by decide) hC8
                  obtain ⟨hB8, hz8⟩ := hu7.base1 hz7 hB7 hC8
                  clear hu7 hH7 hF7 hB7 hz7 hC8 ur7
                  go_wp2_with fail
                  refine (SameBytes_any A3 A9 c3 c9 z.b.length z.b.length z.b z.b w8 hF8.sees (hH8.sees hz8) rfl rfl).mono ?_
                  rintro e w9 ⟨rfl, rfl⟩
                  cases failed with
                  | false =>
                    go_wp2_with fail
                    refine (CTurn_any hu8 hz8 z hto).mono ?_
                    rintro e w9 ⟨rfl, hu9, hC9⟩
                    obtain ⟨_, _, ur8⟩ := hu8.row
                    have hF9 := hF8.unlike2 ur8.1 ur8.1 (by decide) (by decide) hC9
                    obtain ⟨hB9, hz9⟩ := hu8.base1 hz8 hB8 hC9
                    go_wp2_with fail
                    go_roundw
                    case rel => exact ⟨i + 1, u, S1.crash ks, z, A3, c3, by omega, by go_num, rfl, rfl, rfl, hu9, .inr ⟨_, _, _, hF9⟩, Lib.hid ⟨hUp, hlk, by omega, hzs, by rw [(crash_up7 S1 ks).2.2.2]; exact hn2⟩, hB9, hz9⟩
                    case measure => simp [intOf]; omega
                  | true =>
                    by_cases hs1 : (z.s != -1) = true
                    · have hs3 : 0 < z.t := of_decide_eq_true (hzs.symm.trans hs1)
                      go_wp2_with fail
                      refine (CTurn_any hu8 hz8 z hto).mono ?_
                      rintro e w9 ⟨rfl, hu9, hC9⟩
                      obtain ⟨_, _, ur8⟩ := hu8.row
                      have hF9 := hF8.unlike2 ur8.1 ur8.1 (by decide) (by decide) hC9
                      obtain ⟨hB9, hz9⟩ := hu8.base1 hz8 hB8 hC9
                      go_wp2_with fail
                      refine (CTurn_any hu9 hz9 z hto).mono ?_
                      rintro e w10 ⟨rfl, hu10, hC10⟩
                      obtain ⟨_, _, ur9⟩ := hu9.row
                      have hF10 := hF9.unlike2 ur9.1 ur9.1 (by decide) (by decide) hC10
                      obtain ⟨hB10, hz10⟩ := hu9.base1 hz9 hB9 hC10
                      go_wp2_with fail
                      go_roundw
                      case rel => exact ⟨i + 1, u, S1.crash ks, z, A3, c3, by omega, by go_num, rfl, rfl, rfl, hu10, .inr ⟨_, _, _, hF10⟩, Lib.hid ⟨hUp, hlk, by omega, hzs, by rw [(crash_up7 S1 ks).2.2.2]; exact hn2⟩, hB10, hz10⟩
                      case measure => simp [intOf]; omega
                    · have hs1 : (z.s != -1) = false := by simpa using hs1
                      have hs3 : ¬ 0 < z.t := of_decide_eq_false (hzs.symm.trans hs1)
                      go_wp2_with fail
                      refine (CTurn_any hu8 hz8 z hto).mono ?_
                      rintro e w9 ⟨rfl, hu9, hC9⟩
                      obtain ⟨_, _, ur8⟩ := hu8.row
                      have hF9 := hF8.unlike2 ur8.1 ur8.1 (by decide) (by decide) hC9
                      obtain ⟨hB9, hz9⟩ := hu8.base1 hz8 hB8 hC9
                      go_wp2_with fail
                      go_roundw
                      case rel => exact ⟨i + 1, u, S1.crash ks, z, A3, c3, by omega, by go_num, rfl, rfl, rfl, hu9, .inr ⟨_, _, _, hF9⟩, Lib.hid ⟨hUp, hlk, by omega, hzs, by rw [(crash_up7 S1 ks).2.2.2]; exact hn2⟩, hB9, hz9⟩
                      case measure => simp [intOf]; omega
            · have hd3 : True := trivial
              as_aux_lemma =>
                obtain ⟨hLv, hok, hn2, hzt, hzs⟩ := HX.out
                have c2 := HC2.out _ hB
                have hks : Sees wr W.heap.size K (cl ks) := HKS.out.2.keep fun q hq => hB.cell hq
                obtain ⟨hUp, hlk⟩ := hLv.crash ks
                go_wp2_with fail
                refine (Crash_any hT.dr.nor hok K kq kd ks hz hks HKS.out.1).mono ?_
                rintro e w5 ⟨rfl, hN5, hx5⟩
                have hD5 := hT.dr.turn hx5 hN5 (crash_up7 S1 ks).2.2.2
                have hH5 := hH.but3 hT hz (But3.of_but hx5 c)
                obtain ⟨hB5, hz5⟩ := hT.base3 hz hB (But3.of_but hx5 c)
                have hT5 := hT.turn hx5 hD5
                clear hT hH hN5 hx5 hB hz c2 hks
                go_wp2_with fail
                refine (COpen_yes hD5 hUp.down hz5 z hlk).mono ?_
                rintro e w6 ⟨u, rfl, hu6, hx6, hut⟩
                have hH6 := hH5.below hz5 hx6
                obtain ⟨hB6, hz6⟩ := hT5.base0 hz5 hB5 hx6
                have hto := ctold_up7 (x := z) hUp.down hlk
                clear hT5 hH5 hD5 hx6 hB5 hz5
                go_wp2_with fail
                refine (Get_any hu6 hz6 z hto).mono ?_
                rintro e w7 ⟨A3, c3, rfl, hF7, hu7, hC7⟩
                have hH7 := hH6.but3 hu6 hz6 (But3.of_own hC7 p b)
                obtain ⟨hB7, hz7⟩ := hu6.base1 hz6 hB6 hC7
                clear hu6 hH6 hB6 hz6 hC7
                have q4 : ((z.s != -1) == decide ((0 : Int) < (z.t : Int))) = true := by rw [hzs]; simp
                have q5 : (z.b == z.b) = true := by simp
                have ew : IntKind.i64.wrap ((z.t : Int) + 1) = (z.t : Int) + 1 := wrapI _ (by omega) (by omega)
                have q6 : ((z.t : Int) == (z.t : Int) + 1) = false := by simp only [beq_eq_false_iff_ne, ne_eq]; omega
                go_wp2_with fail
                refine (CTurn_any hu7 hz7 z hto).mono ?_
                rintro e w8 ⟨rfl, hu8, hC8⟩
                have hH8 := hH7.but3 hu7 hz7 (But3.of_own hC8 p b)
                obtain ⟨_, _, ur7⟩ := hu7.row
                have hF8 := hF7.unlike2 ur7.1 ur7.1 (by decide) (by decide) hC8
                obtain ⟨hB8, hz8⟩ := hu7.base1 hz7 hB7 hC8
                clear hu7 hH7 hF7 hB7 hz7 hC8 ur7
                go_wp2_with fail
                refine (SameBytes_any A3 A9 c3 c9 z.b.length z.b.length z.b z.b w8 hF8.sees (hH8.sees hz8) rfl rfl).mono ?_
                rintro e w9 ⟨rfl, rfl⟩
                cases failed with
                | false =>
                  go_wp2_with fail
                  refine (CTurn_any hu8 hz8 z hto).mono ?_
                  rintro e w9 ⟨rfl, hu9, hC9⟩
                  obtain ⟨_, _, ur8⟩ := hu8.row
                  have hF9 := hF8.unlike2 ur8.1 ur8.1 (by decide) (by decide) hC9
                  obtain ⟨hB9, hz9⟩ := hu8.base1 hz8 hB8 hC9
                  go_wp2_with fail
                  go_roundw
                  case rel => exact ⟨i + 1, u, S1.crash ks, z, A3, c3, by omega, by go_num, rfl, rfl, rfl, hu9, .inr ⟨_, _, _, hF9⟩, Lib.hid ⟨hUp, hlk, by omega, hzs, by rw [(crash_up7 S1 ks).2.2.2]; exact hn2⟩, hB9, hz9⟩
                  case measure => simp [intOf]; omega
                | true =>
                  by_cases hs1 : (z.s != -1) = true
                  · have hs3 : 0 < z.t := of_decide_eq_true (hzs.symm.trans hs1)
                    go_wp2_with fail
                    refine (CTurn_any hu8 hz8 z hto).mono ?_
                    rintro e w9 ⟨rfl, hu9, hC9⟩
                    obtain ⟨_, _, ur8⟩ := hu8.row
                    have hF9 := hF8.unlike2 ur8.1 ur8.1 (by decide) (by decide) hC9
                    obtain ⟨hB9, hz9⟩ := hu8.base1 hz8 hB8 hC9
                    go_wp2_with fail
                    refine (CTurn_any hu9 hz9 z hto).mono ?_
                    rintro e w10 ⟨rfl, hu10, hC10⟩
                    obtain ⟨_, _, ur9⟩ := hu9.row
                    have hF10 := hF9.unlike2 ur9.1 ur9.1 (by decide) (by decide) hC10
                    obtain ⟨hB10, hz10⟩ := hu9.base1 hz9 hB9 hC10
                    go_wp2_with fail
                    go_roundw
                    case rel => exact ⟨i + 1, u, S1.crash ks, z, A3, c3, by omega, by go_num, rfl, rfl, rfl, hu10, .inr ⟨_, _, _, hF10⟩, Lib.hid ⟨hUp, hlk, by omega, hzs, by rw [(crash_up7 S1 ks).2.2.2]; exact hn2⟩, hB10, hz10⟩
                    case measure => simp [intOf]; omega
                  · have hs1 : (z.s != -1) = false := by simpa using hs1
                    have hs3 : ¬ 0 < z.t := of_decide_eq_false (hzs.symm.trans hs1)
                    go_wp2_with fail
                    refine (CTurn_any hu8 hz8 z hto).mono ?_
                    rintro e w9 ⟨rfl, hu9, hC9⟩
                    obtain ⟨_, _, ur8⟩ := hu8.row
                    have hF9 := hF8.unlike2 ur8.1 ur8.1 (by decide) (by decide) hC9
                    obtain ⟨hB9, hz9⟩ := hu8.base1 hz8 hB8 hC9
                    go_wp2_with fail
                    go_roundw
                    case rel => exact ⟨i + 1, u, S1.crash ks, z, A3, c3, by omega, by go_num, rfl, rfl, rfl, hu9, .inr ⟨_, _, _, hF9⟩, Lib.hid ⟨hUp, hlk, by omega, hzs, by rw [(crash_up7 S1 ks).2.2.2]; exact hn2⟩, hB9, hz9⟩
                    case measure => simp [intOf]; omega
      · have hd1 : decide ((i : Int) < 6) = false := by simp; omega
        go_wp2_with fail
        refine (fin wo hB hz).mono ?_
        rintro e w2 ⟨rfl, hB2⟩
        go_wp2_with fail
        go_ret
        exact ⟨rfl, hB2⟩
    · go_wp2_with fail
      refine (fin wo hB hz).mono ?_
      rintro e w2 ⟨rfl, hB2⟩
      go_wp2_with fail
      go_ret
      exact ⟨rfl, hB2⟩
theorem ckeeps_law (W : World) (a0 : Option Addr) (len0 cap0 : Nat) (f0 : LivesAt W a0 len0) :
    Calls Try.prog 10 #[.slice a0 len0 cap0] W fun e w' => e = .returned (.bool true) ∧ Below W.heap.size W w' := ckeeps_walk a0 len0 cap0 W f0
end
end Go.Proofs.Ytpdfalgjmeagjaa
