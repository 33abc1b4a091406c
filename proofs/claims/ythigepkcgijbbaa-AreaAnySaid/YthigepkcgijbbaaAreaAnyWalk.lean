/-
  AreaAny returns true for every input, and writes nothing that was there: the walk.
-/
import Derived.Test.YthigepkcgijbbaaAreaAnyPure
import Derived.Test.YthigepkcgijbbaaAreaAwake
import Derived.Test.YthigepkcgijbbaaQCall
import Derived.Deep.CutBlock
namespace Go.Proofs.Ythigepkcgijbbaa
open Go.RowKit
set_option linter.unusedVariables false

theorem elemL8 : Try.prog.underlying 28 = some (.slice (Try.prog.elem 28)) := by kernel_rfl
theorem run_cutL8 (A : Option Addr) (n c k : Nat) (hk : k ≤ c) (w : World) : (Instr.slice 28 (.slice A n c) none (some (.int .i64 (k : Int))) none).run Try.prog w = .ok (.slice A k c) w := by
  have hz : (sizeOf (Try.prog.elem 28)).run Try.prog w = .ok 1 w := by kernel_rfl
  rw [run_slice_h w 28 A n c elemL8 .i64 (k : Int) (by omega) (by omega), hz]
  simp only [Result.andThen, sliced, Int.toNat_natCast, Nat.zero_mul, Nat.sub_zero]
  cases A <;> simp [Addr.add]
section
variable {w w' : World} {base a d p b f m c n : Nat} {mk A : Option Addr} {over : Bool} {S : Fl} {x : Ar} {ps qs : List Pb} {B : Option Addr}
theorem Aside.of_new0 {B2 : Nat} {n2 c2 : Nat} {e : TypeId} {xs : List Value} (hF : Fresh B2 e w B n2 c2 xs) (hlt : a < B2 ∧ p < B2 ∧ b < B2) : Aside a p b none w B xs := fun h0 => by
  obtain ⟨b', o', he, hlb, hc⟩ := hF.sees h0
  have hb2 : B2 ≤ b' := by
    rcases hF.2 with ⟨_, rfl⟩ | ⟨g, cap, cur, hv, hbg, hg, _⟩
    · have := hF.len; omega
    · simp at hv
      rw [he] at hv
      simp at hv
      omega
  exact ⟨b', o', he, hlb, ⟨by omega, by omega, by omega, by simp⟩, hc⟩
theorem Aside.of_low0 {xs : List Value} (hs : Sees w base B xs) (hb : base ≤ w.heap.size) (h1 : base ≤ a) (h2 : base ≤ p) (h3 : base ≤ b) : Aside a p b none w B xs := fun h0 => by
  obtain ⟨b', o', he, hlb, hc⟩ := hs h0
  exact ⟨b', o', he, by omega, ⟨by omega, by omega, by omega, by simp⟩, hc⟩
/-- A row of another list grows; the area stays. -/
theorem ArAt.grows {row : Option Nat} {B2 n2 cc : Nat} {R : Option Addr} {ys : List Value} (h : ArAt base w mk a d p b f m S x over A c ps) (hg : w.grownBy w' row) (hR : Fresh B2 27 w R n2 cc ys) (hrow : row = (Value.slice R n2 cc).ownBlock) (hne : (Value.slice A ps.length c).ownBlock = none ∨ (Value.slice A ps.length c).ownBlock ≠ (Value.slice R n2 cc).ownBlock) : ArAt base w' mk a d p b f m S x over A c ps := by
  subst hrow
  exact ⟨h.dr.grows hg hR rfl, World.ownsRow.kept h.obj hg (fresh_unlike h.obj hR (by decide)), ⟨World.ownsRow.kept h.recs.row hg hne, fun q hq => World.ownsRow.kept (h.recs.each q hq) hg (fresh_unlike (h.recs.each q hq) hR (by decide))⟩, h.is, h.ok, h.many⟩
theorem Lists8.of_recs0 {B2 : Nat} {cc : Nat} (hA : ArAt base w (some ⟨a, 0, none⟩) a d p b f m S x over A c ps) (hR : Recs B2 w B cc qs) (hlt : a < B2 ∧ p < B2 ∧ b < B2) (hq : ∀ k, (Value.slice A ps.length c).ownBlock = some k → k < B2) : Lists8 a p b (Value.slice A ps.length c).ownBlock w B qs.length qs :=
  ⟨Aside.of_new hA hR.row hlt hq, rfl, fun r hr => ⟨Aside.of_type hA (hR.each r hr) (by decide) (by decide) (by decide) (by decide), by simpa using (hR.each r hr).len, (hR.each r hr).cap.1⟩⟩
set_option maxHeartbeats 16000000 in
set_option maxRecDepth 100000 in
theorem aany_walk (s : UInt8) (A0 : Option Addr) (N C : Nat) (ws : List Pw) (Ab : Option Addr) (nb cb_ : Nat) (bs : List UInt8) (W : World) (hf : WParts W A0 N ws) (hbs : Sees W W.heap.size Ab (cb bs)) (hbl : bs.length = nb) (hb63 : nb ≤ 9223372036854775807) (hbc : nb ≤ cb_) :
    Calls Try.prog 11 #[.int .u8 (s.toNat : Int), .slice A0 N C, .slice Ab nb cb_] W fun e w' => e = .returned (.bool true) ∧ Below W.heap.size W w' := by
  have HF := Lib.hid hf
  have HBS := Lib.hid hbs
  have HBL := Lib.hid hbl
  obtain ⟨r, hr⟩ : ∃ r, s.toNat % 3 = r := ⟨_, rfl⟩
  have hr3 : r < 3 := by omega
  have hs := s.toNat_lt
  obtain ⟨m, hm⟩ : ∃ m, 2 + r = m := ⟨_, rfl⟩
  have HMI : Hid (2 + (s.toNat : Int) % 3 = (m : Int)) := Lib.hid (by omega)
  have hm2 : 2 ≤ m := by omega
  have hm4 : m ≤ 4 := by omega
  have HG0 := Lib.hid (made_live m hm2)
  clear hf hr hr3 hs hm hbs hbl
  by_cases hb300 : nb ≤ 300
  · have q1 : decide ((300 : Int) < (nb : Int)) = false := by simp; omega
    clear hb63
    go_enter Try.func11, Try.ntmps11
    go_wp2_with fail
    rw [HMI.out]
    refine (made8_any m hm2 (by omega) W).mono ?_
    rintro e w1 ⟨p, b, d, a1, A1, c1, ps1, rfl, hA1, hB1⟩
    have hz1 := hB1.size
    have hD1 := hA1.dr
    go_wp2_with fail
    go_loopw [12] (fun iv wr => ∃ (i : Nat) (S : Fl), i ≤ m ∧ iv = .int .i64 (i : Int) ∧ DrAt W.heap.size wr d p b 1 m S ∧ Hid (Live S 1 m ∧ S.guard = 0 ∧ S.armed = false ∧ S.n = m + 1) ∧ Below W.heap.size W wr ∧ W.heap.size ≤ wr.heap.size) (fun iv _ => m + 1 - (intOf iv).toNat)
    case atStart => exact ⟨0, Fl.made (m + 1) 0, by omega, rfl, hD1, Lib.hid ⟨HG0.out, rfl, rfl, rfl⟩, hB1, hz1⟩
    case round =>
      obtain ⟨i, S, hi, rfl, hD, HX, hB, hz⟩ := hrel
      clear hA1 hD1 hB1 hz1 HG0
      by_cases hlt : i < N
      · by_cases hlt2 : i < m
        · as_aux_lemma =>
          have hd1 : decide ((i : Int) < (m : Int)) = true := by simp; omega
          obtain ⟨g, o, rfl, pw, hpw, hck0⟩ := HF.out.at_ hlt
          have hgW : g < W.heap.size := World.block_lt_of_cell? _ _ hck0
          have hck : wr.cell? ⟨g, o + i, none⟩ = some (.slice pw.A pw.m pw.c) := (hB.cell (p := ⟨g, o + i, none⟩) hgW).trans hck0
          have hpc := hpw.cap
          have hpl := hpw.len
          have hps : Sees wr W.heap.size pw.A (cw pw.l) := hpw.sees.keep fun q hq => hB.cell hq
          have e1 : IntKind.i64.wrap (1 + (i : Int)) = 1 + (i : Int) := wrapI _ (by omega) (by omega)
          have e1' : wrap64 (1 + (i : Int)) = 1 + (i : Int) := wrap64I _ (by omega) (by omega)
          obtain ⟨hlv, hgd, har, hSn⟩ := HX.out
          have HSN := Lib.hid hSn
          clear hck0
          by_cases h64 : pw.m ≤ 64
          · have hmn : (pw.m : Int) ≤ 64 := by omega
            obtain ⟨T, hT, t1, t2, t3, t4⟩ := rewrite_any hlv hgd har hlt2 pw.l (by omega)
            have HL := Lib.hid (And.intro t1 (And.intro t2 (And.intro t3 (t4.trans hSn))))
            have HT := Lib.hid hT
            have hsee : Sees wr W.heap.size pw.A (cw pw.l) := hps
            have HRW := Lib.hid (fun (w' : World) (y : Below wr.heap.size wr w') => Rewrite_any (hD.nor.below y) (1 + (i : Int)) 0 (by omega) pw.m pw.c pw.A pw.l (Nat.le_trans hz y.size) (hsee.keep fun q hq => y.cell (by omega)) hpl T 0 hT)
            have hcut : ∀ w, (Instr.slice 50 (.slice pw.A pw.m pw.c) none (some (.int .i64 (pw.m : Int))) none).run Try.prog w = .ok (.slice pw.A pw.m pw.c) w := fun w => run_cut32 pw.A pw.m pw.c pw.m (by omega)
            clear hlv hgd har hSn HX t1 t2 t3 t4 hT hsee hpl hps hpw hgW h64 hpc
            go_wp2_with fail
            refine region_qcall 14 (by kernel_rfl) (by kernel_rfl) ?_
            simp only [List.take_succ_cons, List.take_zero, List.drop_succ_cons, List.drop_zero]
            repeat (go_big_quiet_step (fail))
            refine wpQuiet_nil ?_
            rintro _ ⟨nq, rfl⟩
            have hBq := below_drewN' (Below.refl wr.heap.size wr) nq
            go_wp2_with fail
            refine (HRW.out _ hBq).mono ?_
            rintro e w4 ⟨rfl, hN4, hx4⟩
            have hD4 := (hD.below hBq).turn hx4 hN4 (HL.out.2.2.2.trans HSN.out.symm)
            have hxq := (But.of_below hBq).then_ hx4
            obtain ⟨-, -, l3, l4⟩ := hD.nor.lt
            have hB4 := hB.trans (hxq.below l3 l4 hz)
            have hz4 := Nat.le_trans hz hxq.size
            clear hD hB hz hN4 hx4 hxq l3 l4 HRW hBq
            go_wp2_with fail
            simp only [onEnd]
            repeat (go_big_quiet_step (fail))
            refine wpQuiet_nil ?_
            rintro _ ⟨nr, rfl⟩
            have hBr := below_drewN' (Below.refl w4.heap.size w4) nr
            have hD5 := hD4.below hBr
            have hB5 := hB4.trans (hBr.mono hz4)
            have hz5 := Nat.le_trans hz4 hBr.size
            clear hD4 hB4 hz4 hBr
            go_wp2_with fail
            go_roundw
            case rel => exact ⟨i + 1, T, by omega, by go_num, hD5, HL, hB5, hz5⟩
            case measure => simp [intOf]; omega
          · have hmn : (64 : Int) < (pw.m : Int) := by omega
            obtain ⟨T, hT, t1, t2, t3, t4⟩ := rewrite_any hlv hgd har hlt2 (pw.l.take 64) (by rw [List.length_take]; omega)
            have HL := Lib.hid (And.intro t1 (And.intro t2 (And.intro t3 (t4.trans hSn))))
            have HT := Lib.hid hT
            have hsee : Sees wr W.heap.size pw.A (cw (pw.l.take 64)) := (by have := hps.take_ 64; simpa [cw] using this)
            have HRW := Lib.hid (fun (w' : World) (y : Below wr.heap.size wr w') => Rewrite_any (hD.nor.below y) (1 + (i : Int)) 0 (by omega) 64 pw.c pw.A (pw.l.take 64) (Nat.le_trans hz y.size) (hsee.keep fun q hq => y.cell (by omega)) (by rw [List.length_take]; omega) T 0 hT)
            have hcut : ∀ w, (Instr.slice 50 (.slice pw.A pw.m pw.c) none (some (.int .i64 64)) none).run Try.prog w = .ok (.slice pw.A 64 pw.c) w := fun w => run_cut32 pw.A pw.m pw.c 64 (by omega)
            clear hlv hgd har hSn HX t1 t2 t3 t4 hT hsee hpl hps hpw hgW h64 hpc
            go_wp2_with fail
            refine region_qcall 14 (by kernel_rfl) (by kernel_rfl) ?_
            simp only [List.take_succ_cons, List.take_zero, List.drop_succ_cons, List.drop_zero]
            repeat (go_big_quiet_step (fail))
            refine wpQuiet_nil ?_
            rintro _ ⟨nq, rfl⟩
            have hBq := below_drewN' (Below.refl wr.heap.size wr) nq
            go_wp2_with fail
            refine (HRW.out _ hBq).mono ?_
            rintro e w4 ⟨rfl, hN4, hx4⟩
            have hD4 := (hD.below hBq).turn hx4 hN4 (HL.out.2.2.2.trans HSN.out.symm)
            have hxq := (But.of_below hBq).then_ hx4
            obtain ⟨-, -, l3, l4⟩ := hD.nor.lt
            have hB4 := hB.trans (hxq.below l3 l4 hz)
            have hz4 := Nat.le_trans hz hxq.size
            clear hD hB hz hN4 hx4 hxq l3 l4 HRW hBq
            go_wp2_with fail
            simp only [onEnd]
            repeat (go_big_quiet_step (fail))
            refine wpQuiet_nil ?_
            rintro _ ⟨nr, rfl⟩
            have hBr := below_drewN' (Below.refl w4.heap.size w4) nr
            have hD5 := hD4.below hBr
            have hB5 := hB4.trans (hBr.mono hz4)
            have hz5 := Nat.le_trans hz4 hBr.size
            clear hD4 hB4 hz4 hBr
            go_wp2_with fail
            go_roundw
            case rel => exact ⟨i + 1, T, by omega, by go_num, hD5, HL, hB5, hz5⟩
            case measure => simp [intOf]; omega
        · have hd1 : decide ((i : Int) < (m : Int)) = false := by simp; omega
          have hd2 : decide (i < m) = false := by simp; omega
          as_aux_lemma =>
          obtain ⟨hlv, hgd, har, hSn⟩ := HX.out
          obtain ⟨T0, x, o1, o2, o3⟩ := any_open hlv har
          have HO1 := Lib.hid o1
          have HO2 := Lib.hid o2
          have HTN := Lib.hid (o3.trans hSn)
          clear HX hlv hgd har hSn o1 o2 o3
          go_wp2_with fail
          refine (AOpen_any hD hm2 hz T0 0 x HO1.out).mono ?_
          rintro e w4 ⟨hx4, ⟨-, a, A, c, ps, rfl, hA, -, -⟩ | ⟨h0, -⟩⟩
          case inr => exact absurd rfl h0
          obtain ⟨-, -, l3, l4⟩ := hD.nor.lt
          have hB4 := hB.trans (hx4.below l3 l4 hz)
          have hz4 := Nat.le_trans hz hx4.size
          clear hD hB hz hx4 l3 l4
          go_wp2_with fail
          refine (All_any hA).mono ?_
          rintro e w5 ⟨A5, c5, rs, rfl, hR5, hrl, hB5⟩
          obtain ⟨l1, l2, -, -⟩ := hA.dr.nor.lt
          have hA5 := hA.below hB5
          have hlt5 : a < w4.heap.size := hA.lt.1
          have hown5 : ∀ k, (Value.slice A ps.length c).ownBlock = some k → k < w4.heap.size := fun k hk => (hA.recs.row.own hk).2
          have hB45 := hB4.trans (hB5.mono hz4)
          have hz5 := Nat.le_trans hz4 hB5.size
          have hwz := hB5.size
          clear hA hB4 hz4 hB5
          have hok := hA5.ok
          have hfit := hok.fits
          have hxn : rs.length ≤ 100 := by
            have h1 := congrArg List.length hrl
            rw [List.length_map] at h1
            have := hok.many
            omega
          have HRL := Lib.hid hrl
          have hpr := hR5.parts
          clear hrl hok
          go_wp2_with fail
          go_loopw [16, 82] (fun uv jv wr => ∃ (j u : Nat), j ≤ rs.length ∧ jv = .int .i64 (j : Int) ∧ uv = .int .i64 (u : Int) ∧ u ≤ 192 ∧ Hid (usedW (x.L.take j) = u) ∧ wr = w5) (fun _ jv _ => rs.length - (intOf jv).toNat)
          case atStart => exact ⟨0, 0, by omega, rfl, rfl, by omega, Lib.hid rfl, rfl⟩
          case round =>
            obtain ⟨j, u, hj, rfl, rfl, hu, HUU, rfl⟩ := hrel
            by_cases hjl : j < rs.length
            · obtain ⟨g9, o9, rfl, q9, HQ9, hq9, hc9⟩ := hpr.at_ hjl
              have hx9 : x.L[j]? = some q9.l := by rw [← HRL.out, List.getElem?_map, HQ9.out]; rfl
              have hst := usedW_step hx9
              have hul := usedW_take x.L (j + 1)
              rw [HUU.out, hq9.len] at hst
              obtain ⟨u2, hu2⟩ : ∃ u2, u + nW q9.m = u2 := ⟨_, rfl⟩
              rw [hu2] at hst
              have hu3 : u2 ≤ 192 := by omega
              have hqm : q9.m ≤ 800 := by unfold nW at hu2; omega
              have HV : Hid ((u : Int) + (((q9.m : Int) + 3) / 4 + 2) = (u2 : Int)) := Lib.hid (by rw [← hu2]; unfold nW; omega)
              have HST := Lib.hid hst
              clear hst hul hu2 hx9
              go_wp2_with fail
              go_roundw
              case rel => exact ⟨j + 1, u2, by omega, by go_num, by rw [HV.out], hu3, HST, (by first | rfl | trivial)⟩
              case measure => simp [intOf]; omega
            · obtain rfl : j = rs.length := by omega
              have hx9 : x.L.take rs.length = x.L := List.take_of_length_le (by rw [← HRL.out, List.length_map]; exact Nat.le_refl _)
              have huu := HUU.out
              rw [hx9] at huu
              rw [huu] at hfit
              have HUW := Lib.hid huu
              have hxt : x.torn ≤ 192 := by omega
              have hxlf : x.left ≤ 192 := by omega
              have t1 : decide ((64 : Int) * ((m : Int) - 1) < (u : Int) + 2 * (x.torn : Int)) = false := by simp; omega
              obtain ⟨Rm, hRm⟩ : ∃ Rm, roomI x.left = Rm := ⟨_, rfl⟩
              have hRle : Rm ≤ 4 * (64 * ((m : Int) - 1) - (u : Int) - 2) ∨ Rm ≤ -1 := by
                rw [← hRm]
                unfold roomI
                split
                · exact .inr (by omega)
                · split
                  · exact .inl (by omega)
                  · omega
              have hRb : -1 ≤ Rm ∧ Rm ≤ 4096 := by
                rw [← hRm]
                unfold roomI
                split
                · omega
                · split <;> omega
              obtain ⟨hRb1, hRb2⟩ := hRb
              have HRM := Lib.hid hRm
              obtain ⟨T, r, x', over', e1, e2, e4⟩ := any_append HO2.out bs (by rw [HBL.out]; exact hb300)
              have HE1 := Lib.hid e1
              have HE4 := Lib.hid e4
              have HEN := Lib.hid (e2.trans HTN.out)
              have hoff : Off p b wr Ab (cb bs) := (Aside.of_low hA5 hz5 (HBS.out.keep fun q hq => hB45.cell hq)).off
              have HAP := Lib.hid (AAppend_any hA5 hz5 Ab nb cb_ bs hoff HBL.out (by omega) T r x' over' e1)
              clear e1 e2 e4 hx9 huu hRm HUU hoff hjl hj hfit
              have go : ∀ (t2 : True), True := fun _ => trivial
              clear go
              by_cases hmx : 4 * (64 * ((m : Int) - 1) - (u : Int) - 2) ≤ -1
              · as_aux_lemma =>
                  have t3 : decide ((-1 : Int) < Rm) = false := by simp; omega
                  go_wp2_with fail
                  refine (ATorn_any hA5).mono ?_
                  rintro e w6 ⟨rfl, rfl⟩
                  go_wp2_with fail
                  refine (ARoom_any hA5 Rm HRM.out).mono ?_
                  rintro e w6 ⟨rfl, rfl⟩
                  go_wp2_with fail
                  refine HAP.out.mono ?_
                  rintro e w7 ⟨rfl, A7, c7, ps7, hA7, hb7, ho7⟩
                  have hlow7 := But4.low hA5 hz5 hb7
                  have hB7 := hB45.trans hlow7
                  have hz7 := Nat.le_trans hz5 hb7.size
                  have hA5b := hA5
                  clear HAP hA5
                  rcases HE4.out with ⟨rfl, rfl, rfl, rfl⟩ | ⟨rfl, rfl, rfl, rfl⟩ | ⟨rfl, rfl, hxL, hxt2, y, hy, hyM, hyt⟩
                  · -- it has no place
                    obtain ⟨y, hy⟩ : ∃ y, y = x' := ⟨_, rfl⟩
                    have hl7 : Lists8 a p b (Value.slice A7 ps7.length c7).ownBlock w7 A5 rs.length rs := (Lists8.of_recs0 hA5b hR5 ⟨hlt5, l1, l2⟩ hown5).but4 hb7 ho7
                    have HAG : Hid (T.aopen 1 m = (T, 0, y)) := Lib.hid (by rw [hy]; exact any_again HO2.out)
                    have HYN : Hid (rs.length ≤ y.L.length) := Lib.hid (by rw [hy, ← HRL.out, List.length_map]; exact Nat.le_refl _)
                    have HYP : Hid ((y.L.take rs.length == rs.map Pb.l) = true) := Lib.hid (by rw [hy, HRL.out, List.take_of_length_le (by rw [← HRL.out, List.length_map]; exact Nat.le_refl _)]; simp)
                    have HYT : Hid (x'.torn ≤ y.torn) := Lib.hid (by rw [hy]; exact Nat.le_refl _)
                    have HEQ : Hid ((x'.L == rs.map Pb.l) = true) := Lib.hid (by rw [HRL.out]; simp)
                    have HNB : Hid (rs.length ≤ 200) := Lib.hid (by omega)
                    clear HE4 hb7 ho7 hlow7 hB45 hz5 hR5 hpr hy HO2

                    go_wp2_with fail
                    refine (AOpen_any hA7.dr hm2 hz7 _ _ _ HAG.out).mono ?_
                    rintro e w8 ⟨hx8, ⟨-, a8, A8, c8, ps8, rfl, hAc, -, -⟩ | ⟨h0, -⟩⟩
                    case inr => exact absurd rfl h0
                    obtain ⟨-, -, l3, l4⟩ := hA7.dr.nor.lt
                    have hLW := hB7.trans (hx8.below l3 l4 hz7)
                    have hLz := Nat.le_trans hz7 hx8.size
                    have hAa := hA7.turn hx8 hAc.dr
                    have hLL := (hl7.but4 (But4.of_but hx8 a _) (.inl rfl)).parts
                    clear hA7 hB7 hz7 hx8 l3 l4 hl7 HAG

                    go_wp2_with fail
                    refine (All_any hAc).mono ?_
                    rintro e w9 ⟨A9, c9, xs, rfl, hR9, hxl, hB9⟩
                    have hAa9 := hAa.below hB9
                    have hAc9 := hAc.below hB9
                    have hL9 := hLL.step hB9
                    have hLW9 := hLW.trans (hB9.mono hLz)
                    have hLz9 := Nat.le_trans hLz hB9.size
                    have hxp := hR9.parts
                    clear hAa hAc hB9 hLL hLW hLz
                    have hpre : rs.length ≤ xs.length := by
                      have h1 := congrArg List.length hxl
                      rw [List.length_map] at h1
                      rw [h1]
                      exact HYN.out
                    have hcutx := fun w => run_cutL8 A9 xs.length c9 rs.length (Nat.le_trans hpre hR9.row.cap.1) w
                    have hge : decide ((rs.length : Int) ≤ (xs.length : Int)) = true := by simp; omega
                    have hge' : decide (rs.length ≤ xs.length) = true := by simp; omega
                    have hpt : Parts w9 A9 rs.length (xs.take rs.length) := ⟨by have := hxp.sees.take_ rs.length; simpa [List.map_take] using this, by rw [List.length_take]; omega, fun q hq => hxp.ok q (List.mem_of_mem_take hq)⟩
                    have heq2 : ((xs.take rs.length).map Pb.l == rs.map Pb.l) = true := by
                      rw [List.map_take, hxl]
                      exact HYP.out
                    have hto : decide ((x'.torn : Int) ≤ (y.torn : Int)) = true := by simp; exact HYT.out
                    have hto' : decide (x'.torn ≤ y.torn) = true := by simp; exact HYT.out
                    have hnb : rs.length ≤ 200 := HNB.out
                    have HXL := Lib.hid hxl
                    have HHE := Lib.hid heq2
                    have HPT := Lib.hid hpt
                    clear hxl hpre hxp hR9 heq2 hpt
                    go_wp2_with fail
                    refine (same8_any hAa9 (by omega) A5 rs.length c5 rs hL9 true HEQ.out).mono ?_
                    rintro e w10 ⟨rfl, hB10⟩
                    have hAa10 := hAa9.below hB10
                    have hAc10 := hAc9.below hB10
                    have hL10 := hL9.step hB10
                    have hLW10 := hLW9.trans (hB10.mono hLz9)
                    have hLz10 := Nat.le_trans hLz9 hB10.size
                    have hP10 := HPT.out.step hB10
                    clear hAa9 hAc9 hL9 hLW9 hLz9 hB10
                    go_wp2_with fail
                    refine (SameLists_any A9 A5 rs.length rs.length c9 c5 (xs.take rs.length) rs _ _ hP10 hL10 rfl rfl true HHE.out (by omega)).mono ?_
                    rintro e w11 ⟨rfl, hB11⟩
                    have hAa11 := hAa10.below hB11
                    have hAc11 := hAc10.below hB11
                    have hLW11 := hLW10.trans (hB11.mono hLz10)
                    have hLz11 := Nat.le_trans hLz10 hB11.size
                    clear hAa10 hAc10 hL10 hLW10 hLz10 hP10 hB11
                    go_wp2_with fail
                    refine (ATorn_any hAc11).mono ?_
                    rintro e w12 ⟨rfl, rfl⟩
                    go_wp2_with fail
                    refine (ATorn_any hAa11).mono ?_
                    rintro e w12 ⟨rfl, rfl⟩
                    go_wp2_with fail
                    refine (awake8_any _).mono ?_
                    rintro e w13 ⟨rfl, hBa⟩
                    go_wp2_with fail
                    go_ret
                    exact ⟨rfl, hLW11.trans (hBa.mono hLz11)⟩
                  · -- another hand's words stand in the way
                    have HAG := Lib.hid (any_again HO2.out)
                    clear HE4 hb7 ho7 hlow7 hB45 hz5 hR5 hpr
                    go_wp2_with fail
                    refine (AOpen_any hA7.dr hm2 hz7 _ _ _ HAG.out).mono ?_
                    rintro e w8 ⟨hx8, ⟨-, a8, A8, c8, ps8, rfl, hA8, -, -⟩ | ⟨h0, -⟩⟩
                    case inr => exact absurd rfl h0
                    obtain ⟨-, -, l3, l4⟩ := hA7.dr.nor.lt
                    have hB8 := hB7.trans (hx8.below l3 l4 hz7)
                    have hz8 := Nat.le_trans hz7 hx8.size
                    clear hA7 hB7 hz7 hx8 l3 l4
                    go_wp2_with fail
                    refine (awake8_any _).mono ?_
                    rintro e w13 ⟨rfl, hBa⟩
                    go_wp2_with fail
                    go_ret
                    exact ⟨rfl, hB8.trans (hBa.mono hz8)⟩
                  · -- it stands behind all others
                    have hl7 : Lists8 a p b (Value.slice A7 ps7.length c7).ownBlock w7 A5 rs.length rs := (Lists8.of_recs0 hA5b hR5 ⟨hlt5, l1, l2⟩ hown5).but4 hb7 ho7
                    have hrow7 : Fresh w4.heap.size 27 w7 A5 rs.length c5 (rs.map Pb.cell) := hR5.row.stay fun k hk hlt => hb7.keep k hlt (by have := (hR5.row.own hk).1; omega) (by have := (hR5.row.own hk).1; omega) (by have := (hR5.row.own hk).1; omega) (fun e => by have h1 := hown5 k e; have h2 := (hR5.row.own hk).1; omega)
                    have heach7 : ∀ r ∈ rs, Fresh w4.heap.size 5 w7 r.A r.m r.c (cb r.l) := fun r hr => (hR5.each r hr).stay fun k hk hlt => hb7.keep k hlt (by have := ((hR5.each r hr).own hk).1; omega) (by have := ((hR5.each r hr).own hk).1; omega) (by have := ((hR5.each r hr).own hk).1; omega) (fun e => by have h1 := hown5 k e; have h2 := ((hR5.each r hr).own hk).1; omega)
                    have hbs7 : Sees w7 W.heap.size Ab (cb bs) := HBS.out.keep fun q hq => hB7.cell hq
                    have hwz7 : w4.heap.size ≤ w7.heap.size := Nat.le_trans hwz hb7.size
                    have hne7 : (Value.slice A7 ps7.length c7).ownBlock = none ∨ (Value.slice A7 ps7.length c7).ownBlock ≠ (Value.slice A5 rs.length c5).ownBlock := by
                      cases h1 : (Value.slice A7 ps7.length c7).ownBlock with
                      | none => exact .inl rfl
                      | some k7 =>
                        right
                        intro h2
                        have h3 := hR5.row.own h2.symm
                        rcases ho7 with h4 | h4
                        · rw [h1] at h4
                          have := hown5 k7 h4.symm
                          omega
                        · have := h4 k7 h1
                          omega
                    obtain ⟨-, -, l5, l6⟩ := hA7.dr.nor.lt
                    have l7 := hA7.lt.2
                    have hba := below_alloc w7 (.cells #[.slice Ab nb cb_] 27)
                    have hrow8 := hrow7.below hba
                    have hcell : (w7.alloc (.cells #[.slice Ab nb cb_] 27)).cell? ⟨w7.heap.size, 0, none⟩ = some (.slice Ab nb cb_) := by
                      rw [World.cell?_alloc_mark]; rfl
                    have HXL2 := Lib.hid (And.intro hxL hxt2)
                    have HY := Lib.hid (And.intro hy (And.intro hyM hyt))
                    have hrl5 := hR5.row
                    clear HE4 hb7 ho7 hlow7 hB45 hz5 hpr hl7 HO2 hxL hxt2 hy hyM hyt
                    go_wp2_with (at_builtin; refine wpList_one_at rfl (.tmp 123) (.tmp 125) 28 27 (.slice none 0 0) 24 rfl Try.underlying28 (by kernel_rfl) rfl (by omega) w4.heap.size A5 rs.length c5 w7.heap.size (rs.map Pb.cell) (.slice Ab nb cb_) rfl rfl hrow8 hcell rfl (by omega) (Nat.le_trans hwz7 hba.size) ?_; intro A9 c9 w9 hF9 hgr9 hat9)
                    have hA8 := (hA7.below hba).grows hgr9 hrow8 rfl hne7
                    have hB9 : Below W.heap.size W w9 := (hB7.trans (hba.mono hz7)).grown hgr9 (Nat.le_trans hz7 hba.size) (fun k hk => by have := (hrl5.own hk).1; omega)
                    have hz9 : W.heap.size ≤ w9.heap.size := Nat.le_trans hz7 (Nat.le_trans hba.size hgr9.size)
                    have hl9 : Lists8 a p b none w9 A9 (rs.length + 1) (rs ++ [(⟨Ab, nb, cb_, bs⟩ : Pb)]) := by
                      refine ⟨?_, by simp, fun r hr => ?_⟩
                      · rw [List.map_append]
                        exact Aside.of_new0 hF9 ⟨hlt5, l1, l2⟩
                      · rcases List.mem_append.1 hr with h1 | h1
                        · have hfr : Fresh w4.heap.size 5 w9 r.A r.m r.c (cb r.l) := World.ownsRow.kept ((heach7 r h1).below hba) hgr9 (fresh_unlike ((heach7 r h1).below hba) hrow8 (by decide))
                          exact ⟨Aside.of_new0 hfr ⟨hlt5, l1, l2⟩, by simpa using hfr.len, hfr.cap.1⟩
                        · simp at h1
                          subst h1
                          exact ⟨Aside.of_low0 (HBS.out.keep fun q hq => hB9.cell hq) hz9 l7 l5 l6, HBL.out, hbc⟩
                    obtain ⟨n1, hn1⟩ : ∃ n1, rs.length + 1 = n1 := ⟨_, rfl⟩
                    obtain ⟨qs9, hqs9⟩ : ∃ qs9, qs9 = rs ++ [(⟨Ab, nb, cb_, bs⟩ : Pb)] := ⟨_, rfl⟩
                    rw [← hqs9, hn1] at hl9
                    have hqm : qs9.map Pb.l = x.L ++ [bs] := by rw [hqs9, List.map_append, HRL.out]; rfl
                    have hxn1 : x.L.length + 1 = n1 := by rw [← HRL.out, List.length_map]; exact hn1
                    obtain ⟨M, hM⟩ := HY.out.2.1
                    have HAG : Hid (T.aopen 1 m = (T, 0, y)) := Lib.hid (any_again HY.out.1)
                    have HYN : Hid (n1 ≤ y.L.length) := Lib.hid (by rw [hM]; simp; omega)
                    have HYP : Hid ((y.L.take n1 == qs9.map Pb.l) = true) := Lib.hid (by rw [hM, hqm, List.take_left' (by simp; omega)]; simp)
                    have HYT : Hid (x'.torn ≤ y.torn) := Lib.hid (by rw [HXL2.out.2]; exact HY.out.2.2)
                    have HEQ : Hid ((x'.L == qs9.map Pb.l) = true) := Lib.hid (by rw [hqm, HXL2.out.1]; simp)
                    have HNB : Hid (n1 ≤ 200) := Lib.hid (by omega)
                    clear hA7 hB7 hz7 hba hrow8 hcell hF9 hgr9 hat9 hqm hM HY HXL2 hqs9 hxn1 hrow7 heach7 hbs7 hne7 hR5 hrl5
                    rw [hn1]
                    clear hn1

                    go_wp2_with fail
                    refine (AOpen_any hA8.dr hm2 hz9 _ _ _ HAG.out).mono ?_
                    rintro e w8 ⟨hx8, ⟨-, a8, A8, c8, ps8, rfl, hAc, -, -⟩ | ⟨h0, -⟩⟩
                    case inr => exact absurd rfl h0
                    obtain ⟨-, -, l3, l4⟩ := hA8.dr.nor.lt
                    have hLW := hB9.trans (hx8.below l3 l4 hz9)
                    have hLz := Nat.le_trans hz9 hx8.size
                    have hAa := hA8.turn hx8 hAc.dr
                    have hLL := (hl9.but4 (But4.of_but hx8 a _) (.inl rfl)).parts
                    clear hA8 hB9 hz9 hx8 l3 l4 hl9 HAG

                    go_wp2_with fail
                    refine (All_any hAc).mono ?_
                    rintro e w9 ⟨A19, c19, xs, rfl, hR9, hxl, hB9⟩
                    have hAa9 := hAa.below hB9
                    have hAc9 := hAc.below hB9
                    have hL9 := hLL.step hB9
                    have hLW9 := hLW.trans (hB9.mono hLz)
                    have hLz9 := Nat.le_trans hLz hB9.size
                    have hxp := hR9.parts
                    clear hAa hAc hB9 hLL hLW hLz
                    have hpre : n1 ≤ xs.length := by
                      have h1 := congrArg List.length hxl
                      rw [List.length_map] at h1
                      rw [h1]
                      exact HYN.out
                    have hcutx := fun w => run_cutL8 A19 xs.length c19 n1 (Nat.le_trans hpre hR9.row.cap.1) w
                    have hge : decide ((n1 : Int) ≤ (xs.length : Int)) = true := by simp; omega
                    have hge' : decide (n1 ≤ xs.length) = true := by simp; omega
                    have hpt : Parts w9 A19 n1 (xs.take n1) := ⟨by have := hxp.sees.take_ n1; simpa [List.map_take] using this, by rw [List.length_take]; omega, fun q hq => hxp.ok q (List.mem_of_mem_take hq)⟩
                    have heq2 : ((xs.take n1).map Pb.l == qs9.map Pb.l) = true := by
                      rw [List.map_take, hxl]
                      exact HYP.out
                    have hto : decide ((x'.torn : Int) ≤ (y.torn : Int)) = true := by simp; exact HYT.out
                    have hto' : decide (x'.torn ≤ y.torn) = true := by simp; exact HYT.out
                    have hnb : n1 ≤ 200 := HNB.out
                    have HXL := Lib.hid hxl
                    have HHE := Lib.hid heq2
                    have HPT := Lib.hid hpt
                    clear hxl hpre hxp hR9 heq2 hpt
                    go_wp2_with fail
                    refine (same8_any hAa9 (by omega) A9 n1 c9 qs9 hL9 true HEQ.out).mono ?_
                    rintro e w10 ⟨rfl, hB10⟩
                    have hAa10 := hAa9.below hB10
                    have hAc10 := hAc9.below hB10
                    have hL10 := hL9.step hB10
                    have hLW10 := hLW9.trans (hB10.mono hLz9)
                    have hLz10 := Nat.le_trans hLz9 hB10.size
                    have hP10 := HPT.out.step hB10
                    clear hAa9 hAc9 hL9 hLW9 hLz9 hB10
                    go_wp2_with fail
                    refine (SameLists_any A19 A9 n1 n1 c19 c9 (xs.take n1) qs9 _ _ hP10 hL10 rfl rfl true HHE.out (by omega)).mono ?_
                    rintro e w11 ⟨rfl, hB11⟩
                    have hAa11 := hAa10.below hB11
                    have hAc11 := hAc10.below hB11
                    have hLW11 := hLW10.trans (hB11.mono hLz10)
                    have hLz11 := Nat.le_trans hLz10 hB11.size
                    clear hAa10 hAc10 hL10 hLW10 hLz10 hP10 hB11
                    go_wp2_with fail
                    refine (ATorn_any hAc11).mono ?_
                    rintro e w12 ⟨rfl, rfl⟩
                    go_wp2_with fail
                    refine (ATorn_any hAa11).mono ?_
                    rintro e w12 ⟨rfl, rfl⟩
                    go_wp2_with fail
                    refine (awake8_any _).mono ?_
                    rintro e w13 ⟨rfl, hBa⟩
                    go_wp2_with fail
                    go_ret
                    exact ⟨rfl, hLW11.trans (hBa.mono hLz11)⟩
              · as_aux_lemma =>
                  have t3 : decide (4 * (64 * ((m : Int) - 1) - (u : Int) - 2) < Rm) = false := by simp; omega
                  have hmx2 : (-1 : Int) ≤ 4 * (64 * ((m : Int) - 1) - (u : Int) - 2) := by omega
                  go_wp2_with fail
                  refine (ATorn_any hA5).mono ?_
                  rintro e w6 ⟨rfl, rfl⟩
                  go_wp2_with fail
                  refine (ARoom_any hA5 Rm HRM.out).mono ?_
                  rintro e w6 ⟨rfl, rfl⟩
                  go_wp2_with fail
                  refine HAP.out.mono ?_
                  rintro e w7 ⟨rfl, A7, c7, ps7, hA7, hb7, ho7⟩
                  have hlow7 := But4.low hA5 hz5 hb7
                  have hB7 := hB45.trans hlow7
                  have hz7 := Nat.le_trans hz5 hb7.size
                  have hA5b := hA5
                  clear HAP hA5
                  rcases HE4.out with ⟨rfl, rfl, rfl, rfl⟩ | ⟨rfl, rfl, rfl, rfl⟩ | ⟨rfl, rfl, hxL, hxt2, y, hy, hyM, hyt⟩
                  · -- it has no place
                    obtain ⟨y, hy⟩ : ∃ y, y = x' := ⟨_, rfl⟩
                    have hl7 : Lists8 a p b (Value.slice A7 ps7.length c7).ownBlock w7 A5 rs.length rs := (Lists8.of_recs0 hA5b hR5 ⟨hlt5, l1, l2⟩ hown5).but4 hb7 ho7
                    have HAG : Hid (T.aopen 1 m = (T, 0, y)) := Lib.hid (by rw [hy]; exact any_again HO2.out)
                    have HYN : Hid (rs.length ≤ y.L.length) := Lib.hid (by rw [hy, ← HRL.out, List.length_map]; exact Nat.le_refl _)
                    have HYP : Hid ((y.L.take rs.length == rs.map Pb.l) = true) := Lib.hid (by rw [hy, HRL.out, List.take_of_length_le (by rw [← HRL.out, List.length_map]; exact Nat.le_refl _)]; simp)
                    have HYT : Hid (x'.torn ≤ y.torn) := Lib.hid (by rw [hy]; exact Nat.le_refl _)
                    have HEQ : Hid ((x'.L == rs.map Pb.l) = true) := Lib.hid (by rw [HRL.out]; simp)
                    have HNB : Hid (rs.length ≤ 200) := Lib.hid (by omega)
                    clear HE4 hb7 ho7 hlow7 hB45 hz5 hR5 hpr hy HO2

                    go_wp2_with fail
                    refine (AOpen_any hA7.dr hm2 hz7 _ _ _ HAG.out).mono ?_
                    rintro e w8 ⟨hx8, ⟨-, a8, A8, c8, ps8, rfl, hAc, -, -⟩ | ⟨h0, -⟩⟩
                    case inr => exact absurd rfl h0
                    obtain ⟨-, -, l3, l4⟩ := hA7.dr.nor.lt
                    have hLW := hB7.trans (hx8.below l3 l4 hz7)
                    have hLz := Nat.le_trans hz7 hx8.size
                    have hAa := hA7.turn hx8 hAc.dr
                    have hLL := (hl7.but4 (But4.of_but hx8 a _) (.inl rfl)).parts
                    clear hA7 hB7 hz7 hx8 l3 l4 hl7 HAG

                    go_wp2_with fail
                    refine (All_any hAc).mono ?_
                    rintro e w9 ⟨A9, c9, xs, rfl, hR9, hxl, hB9⟩
                    have hAa9 := hAa.below hB9
                    have hAc9 := hAc.below hB9
                    have hL9 := hLL.step hB9
                    have hLW9 := hLW.trans (hB9.mono hLz)
                    have hLz9 := Nat.le_trans hLz hB9.size
                    have hxp := hR9.parts
                    clear hAa hAc hB9 hLL hLW hLz
                    have hpre : rs.length ≤ xs.length := by
                      have h1 := congrArg List.length hxl
                      rw [List.length_map] at h1
                      rw [h1]
                      exact HYN.out
                    have hcutx := fun w => run_cutL8 A9 xs.length c9 rs.length (Nat.le_trans hpre hR9.row.cap.1) w
                    have hge : decide ((rs.length : Int) ≤ (xs.length : Int)) = true := by simp; omega
                    have hge' : decide (rs.length ≤ xs.length) = true := by simp; omega
                    have hpt : Parts w9 A9 rs.length (xs.take rs.length) := ⟨by have := hxp.sees.take_ rs.length; simpa [List.map_take] using this, by rw [List.length_take]; omega, fun q hq => hxp.ok q (List.mem_of_mem_take hq)⟩
                    have heq2 : ((xs.take rs.length).map Pb.l == rs.map Pb.l) = true := by
                      rw [List.map_take, hxl]
                      exact HYP.out
                    have hto : decide ((x'.torn : Int) ≤ (y.torn : Int)) = true := by simp; exact HYT.out
                    have hto' : decide (x'.torn ≤ y.torn) = true := by simp; exact HYT.out
                    have hnb : rs.length ≤ 200 := HNB.out
                    have HXL := Lib.hid hxl
                    have HHE := Lib.hid heq2
                    have HPT := Lib.hid hpt
                    clear hxl hpre hxp hR9 heq2 hpt
                    go_wp2_with fail
                    refine (same8_any hAa9 (by omega) A5 rs.length c5 rs hL9 true HEQ.out).mono ?_
                    rintro e w10 ⟨rfl, hB10⟩
                    have hAa10 := hAa9.below hB10
                    have hAc10 := hAc9.below hB10
                    have hL10 := hL9.step hB10
                    have hLW10 := hLW9.trans (hB10.mono hLz9)
                    have hLz10 := Nat.le_trans hLz9 hB10.size
                    have hP10 := HPT.out.step hB10
                    clear hAa9 hAc9 hL9 hLW9 hLz9 hB10
                    go_wp2_with fail
                    refine (SameLists_any A9 A5 rs.length rs.length c9 c5 (xs.take rs.length) rs _ _ hP10 hL10 rfl rfl true HHE.out (by omega)).mono ?_
                    rintro e w11 ⟨rfl, hB11⟩
                    have hAa11 := hAa10.below hB11
                    have hAc11 := hAc10.below hB11
                    have hLW11 := hLW10.trans (hB11.mono hLz10)
                    have hLz11 := Nat.le_trans hLz10 hB11.size
                    clear hAa10 hAc10 hL10 hLW10 hLz10 hP10 hB11
                    go_wp2_with fail
                    refine (ATorn_any hAc11).mono ?_
                    rintro e w12 ⟨rfl, rfl⟩
                    go_wp2_with fail
                    refine (ATorn_any hAa11).mono ?_
                    rintro e w12 ⟨rfl, rfl⟩
                    go_wp2_with fail
                    refine (awake8_any _).mono ?_
                    rintro e w13 ⟨rfl, hBa⟩
                    go_wp2_with fail
                    go_ret
                    exact ⟨rfl, hLW11.trans (hBa.mono hLz11)⟩
                  · -- another hand's words stand in the way
                    have HAG := Lib.hid (any_again HO2.out)
                    clear HE4 hb7 ho7 hlow7 hB45 hz5 hR5 hpr
                    go_wp2_with fail
                    refine (AOpen_any hA7.dr hm2 hz7 _ _ _ HAG.out).mono ?_
                    rintro e w8 ⟨hx8, ⟨-, a8, A8, c8, ps8, rfl, hA8, -, -⟩ | ⟨h0, -⟩⟩
                    case inr => exact absurd rfl h0
                    obtain ⟨-, -, l3, l4⟩ := hA7.dr.nor.lt
                    have hB8 := hB7.trans (hx8.below l3 l4 hz7)
                    have hz8 := Nat.le_trans hz7 hx8.size
                    clear hA7 hB7 hz7 hx8 l3 l4
                    go_wp2_with fail
                    refine (awake8_any _).mono ?_
                    rintro e w13 ⟨rfl, hBa⟩
                    go_wp2_with fail
                    go_ret
                    exact ⟨rfl, hB8.trans (hBa.mono hz8)⟩
                  · -- it stands behind all others
                    have hl7 : Lists8 a p b (Value.slice A7 ps7.length c7).ownBlock w7 A5 rs.length rs := (Lists8.of_recs0 hA5b hR5 ⟨hlt5, l1, l2⟩ hown5).but4 hb7 ho7
                    have hrow7 : Fresh w4.heap.size 27 w7 A5 rs.length c5 (rs.map Pb.cell) := hR5.row.stay fun k hk hlt => hb7.keep k hlt (by have := (hR5.row.own hk).1; omega) (by have := (hR5.row.own hk).1; omega) (by have := (hR5.row.own hk).1; omega) (fun e => by have h1 := hown5 k e; have h2 := (hR5.row.own hk).1; omega)
                    have heach7 : ∀ r ∈ rs, Fresh w4.heap.size 5 w7 r.A r.m r.c (cb r.l) := fun r hr => (hR5.each r hr).stay fun k hk hlt => hb7.keep k hlt (by have := ((hR5.each r hr).own hk).1; omega) (by have := ((hR5.each r hr).own hk).1; omega) (by have := ((hR5.each r hr).own hk).1; omega) (fun e => by have h1 := hown5 k e; have h2 := ((hR5.each r hr).own hk).1; omega)
                    have hbs7 : Sees w7 W.heap.size Ab (cb bs) := HBS.out.keep fun q hq => hB7.cell hq
                    have hwz7 : w4.heap.size ≤ w7.heap.size := Nat.le_trans hwz hb7.size
                    have hne7 : (Value.slice A7 ps7.length c7).ownBlock = none ∨ (Value.slice A7 ps7.length c7).ownBlock ≠ (Value.slice A5 rs.length c5).ownBlock := by
                      cases h1 : (Value.slice A7 ps7.length c7).ownBlock with
                      | none => exact .inl rfl
                      | some k7 =>
                        right
                        intro h2
                        have h3 := hR5.row.own h2.symm
                        rcases ho7 with h4 | h4
                        · rw [h1] at h4
                          have := hown5 k7 h4.symm
                          omega
                        · have := h4 k7 h1
                          omega
                    obtain ⟨-, -, l5, l6⟩ := hA7.dr.nor.lt
                    have l7 := hA7.lt.2
                    have hba := below_alloc w7 (.cells #[.slice Ab nb cb_] 27)
                    have hrow8 := hrow7.below hba
                    have hcell : (w7.alloc (.cells #[.slice Ab nb cb_] 27)).cell? ⟨w7.heap.size, 0, none⟩ = some (.slice Ab nb cb_) := by
                      rw [World.cell?_alloc_mark]; rfl
                    have HXL2 := Lib.hid (And.intro hxL hxt2)
                    have HY := Lib.hid (And.intro hy (And.intro hyM hyt))
                    have hrl5 := hR5.row
                    clear HE4 hb7 ho7 hlow7 hB45 hz5 hpr hl7 HO2 hxL hxt2 hy hyM hyt
                    go_wp2_with (at_builtin; refine wpList_one_at rfl (.tmp 123) (.tmp 125) 28 27 (.slice none 0 0) 24 rfl Try.underlying28 (by kernel_rfl) rfl (by omega) w4.heap.size A5 rs.length c5 w7.heap.size (rs.map Pb.cell) (.slice Ab nb cb_) rfl rfl hrow8 hcell rfl (by omega) (Nat.le_trans hwz7 hba.size) ?_; intro A9 c9 w9 hF9 hgr9 hat9)
                    have hA8 := (hA7.below hba).grows hgr9 hrow8 rfl hne7
                    have hB9 : Below W.heap.size W w9 := (hB7.trans (hba.mono hz7)).grown hgr9 (Nat.le_trans hz7 hba.size) (fun k hk => by have := (hrl5.own hk).1; omega)
                    have hz9 : W.heap.size ≤ w9.heap.size := Nat.le_trans hz7 (Nat.le_trans hba.size hgr9.size)
                    have hl9 : Lists8 a p b none w9 A9 (rs.length + 1) (rs ++ [(⟨Ab, nb, cb_, bs⟩ : Pb)]) := by
                      refine ⟨?_, by simp, fun r hr => ?_⟩
                      · rw [List.map_append]
                        exact Aside.of_new0 hF9 ⟨hlt5, l1, l2⟩
                      · rcases List.mem_append.1 hr with h1 | h1
                        · have hfr : Fresh w4.heap.size 5 w9 r.A r.m r.c (cb r.l) := World.ownsRow.kept ((heach7 r h1).below hba) hgr9 (fresh_unlike ((heach7 r h1).below hba) hrow8 (by decide))
                          exact ⟨Aside.of_new0 hfr ⟨hlt5, l1, l2⟩, by simpa using hfr.len, hfr.cap.1⟩
                        · simp at h1
                          subst h1
                          exact ⟨Aside.of_low0 (HBS.out.keep fun q hq => hB9.cell hq) hz9 l7 l5 l6, HBL.out, hbc⟩
                    obtain ⟨n1, hn1⟩ : ∃ n1, rs.length + 1 = n1 := ⟨_, rfl⟩
                    obtain ⟨qs9, hqs9⟩ : ∃ qs9, qs9 = rs ++ [(⟨Ab, nb, cb_, bs⟩ : Pb)] := ⟨_, rfl⟩
                    rw [← hqs9, hn1] at hl9
                    have hqm : qs9.map Pb.l = x.L ++ [bs] := by rw [hqs9, List.map_append, HRL.out]; rfl
                    have hxn1 : x.L.length + 1 = n1 := by rw [← HRL.out, List.length_map]; exact hn1
                    obtain ⟨M, hM⟩ := HY.out.2.1
                    have HAG : Hid (T.aopen 1 m = (T, 0, y)) := Lib.hid (any_again HY.out.1)
                    have HYN : Hid (n1 ≤ y.L.length) := Lib.hid (by rw [hM]; simp; omega)
                    have HYP : Hid ((y.L.take n1 == qs9.map Pb.l) = true) := Lib.hid (by rw [hM, hqm, List.take_left' (by simp; omega)]; simp)
                    have HYT : Hid (x'.torn ≤ y.torn) := Lib.hid (by rw [HXL2.out.2]; exact HY.out.2.2)
                    have HEQ : Hid ((x'.L == qs9.map Pb.l) = true) := Lib.hid (by rw [hqm, HXL2.out.1]; simp)
                    have HNB : Hid (n1 ≤ 200) := Lib.hid (by omega)
                    clear hA7 hB7 hz7 hba hrow8 hcell hF9 hgr9 hat9 hqm hM HY HXL2 hqs9 hxn1 hrow7 heach7 hbs7 hne7 hR5 hrl5
                    rw [hn1]
                    clear hn1

                    go_wp2_with fail
                    refine (AOpen_any hA8.dr hm2 hz9 _ _ _ HAG.out).mono ?_
                    rintro e w8 ⟨hx8, ⟨-, a8, A8, c8, ps8, rfl, hAc, -, -⟩ | ⟨h0, -⟩⟩
                    case inr => exact absurd rfl h0
                    obtain ⟨-, -, l3, l4⟩ := hA8.dr.nor.lt
                    have hLW := hB9.trans (hx8.below l3 l4 hz9)
                    have hLz := Nat.le_trans hz9 hx8.size
                    have hAa := hA8.turn hx8 hAc.dr
                    have hLL := (hl9.but4 (But4.of_but hx8 a _) (.inl rfl)).parts
                    clear hA8 hB9 hz9 hx8 l3 l4 hl9 HAG

                    go_wp2_with fail
                    refine (All_any hAc).mono ?_
                    rintro e w9 ⟨A19, c19, xs, rfl, hR9, hxl, hB9⟩
                    have hAa9 := hAa.below hB9
                    have hAc9 := hAc.below hB9
                    have hL9 := hLL.step hB9
                    have hLW9 := hLW.trans (hB9.mono hLz)
                    have hLz9 := Nat.le_trans hLz hB9.size
                    have hxp := hR9.parts
                    clear hAa hAc hB9 hLL hLW hLz
                    have hpre : n1 ≤ xs.length := by
                      have h1 := congrArg List.length hxl
                      rw [List.length_map] at h1
                      rw [h1]
                      exact HYN.out
                    have hcutx := fun w => run_cutL8 A19 xs.length c19 n1 (Nat.le_trans hpre hR9.row.cap.1) w
                    have hge : decide ((n1 : Int) ≤ (xs.length : Int)) = true := by simp; omega
                    have hge' : decide (n1 ≤ xs.length) = true := by simp; omega
                    have hpt : Parts w9 A19 n1 (xs.take n1) := ⟨by have := hxp.sees.take_ n1; simpa [List.map_take] using this, by rw [List.length_take]; omega, fun q hq => hxp.ok q (List.mem_of_mem_take hq)⟩
                    have heq2 : ((xs.take n1).map Pb.l == qs9.map Pb.l) = true := by
                      rw [List.map_take, hxl]
                      exact HYP.out
                    have hto : decide ((x'.torn : Int) ≤ (y.torn : Int)) = true := by simp; exact HYT.out
                    have hto' : decide (x'.torn ≤ y.torn) = true := by simp; exact HYT.out
                    have hnb : n1 ≤ 200 := HNB.out
                    have HXL := Lib.hid hxl
                    have HHE := Lib.hid heq2
                    have HPT := Lib.hid hpt
                    clear hxl hpre hxp hR9 heq2 hpt
                    go_wp2_with fail
                    refine (same8_any hAa9 (by omega) A9 n1 c9 qs9 hL9 true HEQ.out).mono ?_
                    rintro e w10 ⟨rfl, hB10⟩
                    have hAa10 := hAa9.below hB10
                    have hAc10 := hAc9.below hB10
                    have hL10 := hL9.step hB10
                    have hLW10 := hLW9.trans (hB10.mono hLz9)
                    have hLz10 := Nat.le_trans hLz9 hB10.size
                    have hP10 := HPT.out.step hB10
                    clear hAa9 hAc9 hL9 hLW9 hLz9 hB10
                    go_wp2_with fail
                    refine (SameLists_any A19 A9 n1 n1 c19 c9 (xs.take n1) qs9 _ _ hP10 hL10 rfl rfl true HHE.out (by omega)).mono ?_
                    rintro e w11 ⟨rfl, hB11⟩
                    have hAa11 := hAa10.below hB11
                    have hAc11 := hAc10.below hB11
                    have hLW11 := hLW10.trans (hB11.mono hLz10)
                    have hLz11 := Nat.le_trans hLz10 hB11.size
                    clear hAa10 hAc10 hL10 hLW10 hLz10 hP10 hB11
                    go_wp2_with fail
                    refine (ATorn_any hAc11).mono ?_
                    rintro e w12 ⟨rfl, rfl⟩
                    go_wp2_with fail
                    refine (ATorn_any hAa11).mono ?_
                    rintro e w12 ⟨rfl, rfl⟩
                    go_wp2_with fail
                    refine (awake8_any _).mono ?_
                    rintro e w13 ⟨rfl, hBa⟩
                    go_wp2_with fail
                    go_ret
                    exact ⟨rfl, hLW11.trans (hBa.mono hLz11)⟩
      · as_aux_lemma =>
        obtain ⟨hlv, hgd, har, hSn⟩ := HX.out
        obtain ⟨T0, x, o1, o2, o3⟩ := any_open hlv har
        have HO1 := Lib.hid o1
        have HO2 := Lib.hid o2
        have HTN := Lib.hid (o3.trans hSn)
        clear HX hlv hgd har hSn o1 o2 o3
        go_wp2_with fail
        refine (AOpen_any hD hm2 hz T0 0 x HO1.out).mono ?_
        rintro e w4 ⟨hx4, ⟨-, a, A, c, ps, rfl, hA, -, -⟩ | ⟨h0, -⟩⟩
        case inr => exact absurd rfl h0
        obtain ⟨-, -, l3, l4⟩ := hD.nor.lt
        have hB4 := hB.trans (hx4.below l3 l4 hz)
        have hz4 := Nat.le_trans hz hx4.size
        clear hD hB hz hx4 l3 l4
        go_wp2_with fail
        refine (All_any hA).mono ?_
        rintro e w5 ⟨A5, c5, rs, rfl, hR5, hrl, hB5⟩
        obtain ⟨l1, l2, -, -⟩ := hA.dr.nor.lt
        have hA5 := hA.below hB5
        have hlt5 : a < w4.heap.size := hA.lt.1
        have hown5 : ∀ k, (Value.slice A ps.length c).ownBlock = some k → k < w4.heap.size := fun k hk => (hA.recs.row.own hk).2
        have hB45 := hB4.trans (hB5.mono hz4)
        have hz5 := Nat.le_trans hz4 hB5.size
        have hwz := hB5.size
        clear hA hB4 hz4 hB5
        have hok := hA5.ok
        have hfit := hok.fits
        have hxn : rs.length ≤ 100 := by
          have h1 := congrArg List.length hrl
          rw [List.length_map] at h1
          have := hok.many
          omega
        have HRL := Lib.hid hrl
        have hpr := hR5.parts
        clear hrl hok
        go_wp2_with fail
        go_loopw [16, 82] (fun uv jv wr => ∃ (j u : Nat), j ≤ rs.length ∧ jv = .int .i64 (j : Int) ∧ uv = .int .i64 (u : Int) ∧ u ≤ 192 ∧ Hid (usedW (x.L.take j) = u) ∧ wr = w5) (fun _ jv _ => rs.length - (intOf jv).toNat)
        case atStart => exact ⟨0, 0, by omega, rfl, rfl, by omega, Lib.hid rfl, rfl⟩
        case round =>
          obtain ⟨j, u, hj, rfl, rfl, hu, HUU, rfl⟩ := hrel
          by_cases hjl : j < rs.length
          · obtain ⟨g9, o9, rfl, q9, HQ9, hq9, hc9⟩ := hpr.at_ hjl
            have hx9 : x.L[j]? = some q9.l := by rw [← HRL.out, List.getElem?_map, HQ9.out]; rfl
            have hst := usedW_step hx9
            have hul := usedW_take x.L (j + 1)
            rw [HUU.out, hq9.len] at hst
            obtain ⟨u2, hu2⟩ : ∃ u2, u + nW q9.m = u2 := ⟨_, rfl⟩
            rw [hu2] at hst
            have hu3 : u2 ≤ 192 := by omega
            have hqm : q9.m ≤ 800 := by unfold nW at hu2; omega
            have HV : Hid ((u : Int) + (((q9.m : Int) + 3) / 4 + 2) = (u2 : Int)) := Lib.hid (by rw [← hu2]; unfold nW; omega)
            have HST := Lib.hid hst
            clear hst hul hu2 hx9
            go_wp2_with fail
            go_roundw
            case rel => exact ⟨j + 1, u2, by omega, by go_num, by rw [HV.out], hu3, HST, (by first | rfl | trivial)⟩
            case measure => simp [intOf]; omega
          · obtain rfl : j = rs.length := by omega
            have hx9 : x.L.take rs.length = x.L := List.take_of_length_le (by rw [← HRL.out, List.length_map]; exact Nat.le_refl _)
            have huu := HUU.out
            rw [hx9] at huu
            rw [huu] at hfit
            have HUW := Lib.hid huu
            have hxt : x.torn ≤ 192 := by omega
            have hxlf : x.left ≤ 192 := by omega
            have t1 : decide ((64 : Int) * ((m : Int) - 1) < (u : Int) + 2 * (x.torn : Int)) = false := by simp; omega
            obtain ⟨Rm, hRm⟩ : ∃ Rm, roomI x.left = Rm := ⟨_, rfl⟩
            have hRle : Rm ≤ 4 * (64 * ((m : Int) - 1) - (u : Int) - 2) ∨ Rm ≤ -1 := by
              rw [← hRm]
              unfold roomI
              split
              · exact .inr (by omega)
              · split
                · exact .inl (by omega)
                · omega
            have hRb : -1 ≤ Rm ∧ Rm ≤ 4096 := by
              rw [← hRm]
              unfold roomI
              split
              · omega
              · split <;> omega
            obtain ⟨hRb1, hRb2⟩ := hRb
            have HRM := Lib.hid hRm
            obtain ⟨T, r, x', over', e1, e2, e4⟩ := any_append HO2.out bs (by rw [HBL.out]; exact hb300)
            have HE1 := Lib.hid e1
            have HE4 := Lib.hid e4
            have HEN := Lib.hid (e2.trans HTN.out)
            have hoff : Off p b wr Ab (cb bs) := (Aside.of_low hA5 hz5 (HBS.out.keep fun q hq => hB45.cell hq)).off
            have HAP := Lib.hid (AAppend_any hA5 hz5 Ab nb cb_ bs hoff HBL.out (by omega) T r x' over' e1)
            clear e1 e2 e4 hx9 huu hRm HUU hoff hjl hj hfit
            have go : ∀ (t2 : True), True := fun _ => trivial
            clear go
            by_cases hmx : 4 * (64 * ((m : Int) - 1) - (u : Int) - 2) ≤ -1
            · as_aux_lemma =>
                have t3 : decide ((-1 : Int) < Rm) = false := by simp; omega
                go_wp2_with fail
                refine (ATorn_any hA5).mono ?_
                rintro e w6 ⟨rfl, rfl⟩
                go_wp2_with fail
                refine (ARoom_any hA5 Rm HRM.out).mono ?_
                rintro e w6 ⟨rfl, rfl⟩
                go_wp2_with fail
                refine HAP.out.mono ?_
                rintro e w7 ⟨rfl, A7, c7, ps7, hA7, hb7, ho7⟩
                have hlow7 := But4.low hA5 hz5 hb7
                have hB7 := hB45.trans hlow7
                have hz7 := Nat.le_trans hz5 hb7.size
                have hA5b := hA5
                clear HAP hA5
                rcases HE4.out with ⟨rfl, rfl, rfl, rfl⟩ | ⟨rfl, rfl, rfl, rfl⟩ | ⟨rfl, rfl, hxL, hxt2, y, hy, hyM, hyt⟩
                · -- it has no place
                  obtain ⟨y, hy⟩ : ∃ y, y = x' := ⟨_, rfl⟩
                  have hl7 : Lists8 a p b (Value.slice A7 ps7.length c7).ownBlock w7 A5 rs.length rs := (Lists8.of_recs0 hA5b hR5 ⟨hlt5, l1, l2⟩ hown5).but4 hb7 ho7
                  have HAG : Hid (T.aopen 1 m = (T, 0, y)) := Lib.hid (by rw [hy]; exact any_again HO2.out)
                  have HYN : Hid (rs.length ≤ y.L.length) := Lib.hid (by rw [hy, ← HRL.out, List.length_map]; exact Nat.le_refl _)
                  have HYP : Hid ((y.L.take rs.length == rs.map Pb.l) = true) := Lib.hid (by rw [hy, HRL.out, List.take_of_length_le (by rw [← HRL.out, List.length_map]; exact Nat.le_refl _)]; simp)
                  have HYT : Hid (x'.torn ≤ y.torn) := Lib.hid (by rw [hy]; exact Nat.le_refl _)
                  have HEQ : Hid ((x'.L == rs.map Pb.l) = true) := Lib.hid (by rw [HRL.out]; simp)
                  have HNB : Hid (rs.length ≤ 200) := Lib.hid (by omega)
                  clear HE4 hb7 ho7 hlow7 hB45 hz5 hR5 hpr hy HO2

                  go_wp2_with fail
                  refine (AOpen_any hA7.dr hm2 hz7 _ _ _ HAG.out).mono ?_
                  rintro e w8 ⟨hx8, ⟨-, a8, A8, c8, ps8, rfl, hAc, -, -⟩ | ⟨h0, -⟩⟩
                  case inr => exact absurd rfl h0
                  obtain ⟨-, -, l3, l4⟩ := hA7.dr.nor.lt
                  have hLW := hB7.trans (hx8.below l3 l4 hz7)
                  have hLz := Nat.le_trans hz7 hx8.size
                  have hAa := hA7.turn hx8 hAc.dr
                  have hLL := (hl7.but4 (But4.of_but hx8 a _) (.inl rfl)).parts
                  clear hA7 hB7 hz7 hx8 l3 l4 hl7 HAG

                  go_wp2_with fail
                  refine (All_any hAc).mono ?_
                  rintro e w9 ⟨A9, c9, xs, rfl, hR9, hxl, hB9⟩
                  have hAa9 := hAa.below hB9
                  have hAc9 := hAc.below hB9
                  have hL9 := hLL.step hB9
                  have hLW9 := hLW.trans (hB9.mono hLz)
                  have hLz9 := Nat.le_trans hLz hB9.size
                  have hxp := hR9.parts
                  clear hAa hAc hB9 hLL hLW hLz
                  have hpre : rs.length ≤ xs.length := by
                    have h1 := congrArg List.length hxl
                    rw [List.length_map] at h1
                    rw [h1]
                    exact HYN.out
                  have hcutx := fun w => run_cutL8 A9 xs.length c9 rs.length (Nat.le_trans hpre hR9.row.cap.1) w
                  have hge : decide ((rs.length : Int) ≤ (xs.length : Int)) = true := by simp; omega
                  have hge' : decide (rs.length ≤ xs.length) = true := by simp; omega
                  have hpt : Parts w9 A9 rs.length (xs.take rs.length) := ⟨by have := hxp.sees.take_ rs.length; simpa [List.map_take] using this, by rw [List.length_take]; omega, fun q hq => hxp.ok q (List.mem_of_mem_take hq)⟩
                  have heq2 : ((xs.take rs.length).map Pb.l == rs.map Pb.l) = true := by
                    rw [List.map_take, hxl]
                    exact HYP.out
                  have hto : decide ((x'.torn : Int) ≤ (y.torn : Int)) = true := by simp; exact HYT.out
                  have hto' : decide (x'.torn ≤ y.torn) = true := by simp; exact HYT.out
                  have hnb : rs.length ≤ 200 := HNB.out
                  have HXL := Lib.hid hxl
                  have HHE := Lib.hid heq2
                  have HPT := Lib.hid hpt
                  clear hxl hpre hxp hR9 heq2 hpt
                  go_wp2_with fail
                  refine (same8_any hAa9 (by omega) A5 rs.length c5 rs hL9 true HEQ.out).mono ?_
                  rintro e w10 ⟨rfl, hB10⟩
                  have hAa10 := hAa9.below hB10
                  have hAc10 := hAc9.below hB10
                  have hL10 := hL9.step hB10
                  have hLW10 := hLW9.trans (hB10.mono hLz9)
                  have hLz10 := Nat.le_trans hLz9 hB10.size
                  have hP10 := HPT.out.step hB10
                  clear hAa9 hAc9 hL9 hLW9 hLz9 hB10
                  go_wp2_with fail
                  refine (SameLists_any A9 A5 rs.length rs.length c9 c5 (xs.take rs.length) rs _ _ hP10 hL10 rfl rfl true HHE.out (by omega)).mono ?_
                  rintro e w11 ⟨rfl, hB11⟩
                  have hAa11 := hAa10.below hB11
                  have hAc11 := hAc10.below hB11
                  have hLW11 := hLW10.trans (hB11.mono hLz10)
                  have hLz11 := Nat.le_trans hLz10 hB11.size
                  clear hAa10 hAc10 hL10 hLW10 hLz10 hP10 hB11
                  go_wp2_with fail
                  refine (ATorn_any hAc11).mono ?_
                  rintro e w12 ⟨rfl, rfl⟩
                  go_wp2_with fail
                  refine (ATorn_any hAa11).mono ?_
                  rintro e w12 ⟨rfl, rfl⟩
                  go_wp2_with fail
                  refine (awake8_any _).mono ?_
                  rintro e w13 ⟨rfl, hBa⟩
                  go_wp2_with fail
                  go_ret
                  exact ⟨rfl, hLW11.trans (hBa.mono hLz11)⟩
                · -- another hand's words stand in the way
                  have HAG := Lib.hid (any_again HO2.out)
                  clear HE4 hb7 ho7 hlow7 hB45 hz5 hR5 hpr
                  go_wp2_with fail
                  refine (AOpen_any hA7.dr hm2 hz7 _ _ _ HAG.out).mono ?_
                  rintro e w8 ⟨hx8, ⟨-, a8, A8, c8, ps8, rfl, hA8, -, -⟩ | ⟨h0, -⟩⟩
                  case inr => exact absurd rfl h0
                  obtain ⟨-, -, l3, l4⟩ := hA7.dr.nor.lt
                  have hB8 := hB7.trans (hx8.below l3 l4 hz7)
                  have hz8 := Nat.le_trans hz7 hx8.size
                  clear hA7 hB7 hz7 hx8 l3 l4
                  go_wp2_with fail
                  refine (awake8_any _).mono ?_
                  rintro e w13 ⟨rfl, hBa⟩
                  go_wp2_with fail
                  go_ret
                  exact ⟨rfl, hB8.trans (hBa.mono hz8)⟩
                · -- it stands behind all others
                  have hl7 : Lists8 a p b (Value.slice A7 ps7.length c7).ownBlock w7 A5 rs.length rs := (Lists8.of_recs0 hA5b hR5 ⟨hlt5, l1, l2⟩ hown5).but4 hb7 ho7
                  have hrow7 : Fresh w4.heap.size 27 w7 A5 rs.length c5 (rs.map Pb.cell) := hR5.row.stay fun k hk hlt => hb7.keep k hlt (by have := (hR5.row.own hk).1; omega) (by have := (hR5.row.own hk).1; omega) (by have := (hR5.row.own hk).1; omega) (fun e => by have h1 := hown5 k e; have h2 := (hR5.row.own hk).1; omega)
                  have heach7 : ∀ r ∈ rs, Fresh w4.heap.size 5 w7 r.A r.m r.c (cb r.l) := fun r hr => (hR5.each r hr).stay fun k hk hlt => hb7.keep k hlt (by have := ((hR5.each r hr).own hk).1; omega) (by have := ((hR5.each r hr).own hk).1; omega) (by have := ((hR5.each r hr).own hk).1; omega) (fun e => by have h1 := hown5 k e; have h2 := ((hR5.each r hr).own hk).1; omega)
                  have hbs7 : Sees w7 W.heap.size Ab (cb bs) := HBS.out.keep fun q hq => hB7.cell hq
                  have hwz7 : w4.heap.size ≤ w7.heap.size := Nat.le_trans hwz hb7.size
                  have hne7 : (Value.slice A7 ps7.length c7).ownBlock = none ∨ (Value.slice A7 ps7.length c7).ownBlock ≠ (Value.slice A5 rs.length c5).ownBlock := by
                    cases h1 : (Value.slice A7 ps7.length c7).ownBlock with
                    | none => exact .inl rfl
                    | some k7 =>
                      right
                      intro h2
                      have h3 := hR5.row.own h2.symm
                      rcases ho7 with h4 | h4
                      · rw [h1] at h4
                        have := hown5 k7 h4.symm
                        omega
                      · have := h4 k7 h1
                        omega
                  obtain ⟨-, -, l5, l6⟩ := hA7.dr.nor.lt
                  have l7 := hA7.lt.2
                  have hba := below_alloc w7 (.cells #[.slice Ab nb cb_] 27)
                  have hrow8 := hrow7.below hba
                  have hcell : (w7.alloc (.cells #[.slice Ab nb cb_] 27)).cell? ⟨w7.heap.size, 0, none⟩ = some (.slice Ab nb cb_) := by
                    rw [World.cell?_alloc_mark]; rfl
                  have HXL2 := Lib.hid (And.intro hxL hxt2)
                  have HY := Lib.hid (And.intro hy (And.intro hyM hyt))
                  have hrl5 := hR5.row
                  clear HE4 hb7 ho7 hlow7 hB45 hz5 hpr hl7 HO2 hxL hxt2 hy hyM hyt
                  go_wp2_with (at_builtin; refine wpList_one_at rfl (.tmp 123) (.tmp 125) 28 27 (.slice none 0 0) 24 rfl Try.underlying28 (by kernel_rfl) rfl (by omega) w4.heap.size A5 rs.length c5 w7.heap.size (rs.map Pb.cell) (.slice Ab nb cb_) rfl rfl hrow8 hcell rfl (by omega) (Nat.le_trans hwz7 hba.size) ?_; intro A9 c9 w9 hF9 hgr9 hat9)
                  have hA8 := (hA7.below hba).grows hgr9 hrow8 rfl hne7
                  have hB9 : Below W.heap.size W w9 := (hB7.trans (hba.mono hz7)).grown hgr9 (Nat.le_trans hz7 hba.size) (fun k hk => by have := (hrl5.own hk).1; omega)
                  have hz9 : W.heap.size ≤ w9.heap.size := Nat.le_trans hz7 (Nat.le_trans hba.size hgr9.size)
                  have hl9 : Lists8 a p b none w9 A9 (rs.length + 1) (rs ++ [(⟨Ab, nb, cb_, bs⟩ : Pb)]) := by
                    refine ⟨?_, by simp, fun r hr => ?_⟩
                    · rw [List.map_append]
                      exact Aside.of_new0 hF9 ⟨hlt5, l1, l2⟩
                    · rcases List.mem_append.1 hr with h1 | h1
                      · have hfr : Fresh w4.heap.size 5 w9 r.A r.m r.c (cb r.l) := World.ownsRow.kept ((heach7 r h1).below hba) hgr9 (fresh_unlike ((heach7 r h1).below hba) hrow8 (by decide))
                        exact ⟨Aside.of_new0 hfr ⟨hlt5, l1, l2⟩, by simpa using hfr.len, hfr.cap.1⟩
                      · simp at h1
                        subst h1
                        exact ⟨Aside.of_low0 (HBS.out.keep fun q hq => hB9.cell hq) hz9 l7 l5 l6, HBL.out, hbc⟩
                  obtain ⟨n1, hn1⟩ : ∃ n1, rs.length + 1 = n1 := ⟨_, rfl⟩
                  obtain ⟨qs9, hqs9⟩ : ∃ qs9, qs9 = rs ++ [(⟨Ab, nb, cb_, bs⟩ : Pb)] := ⟨_, rfl⟩
                  rw [← hqs9, hn1] at hl9
                  have hqm : qs9.map Pb.l = x.L ++ [bs] := by rw [hqs9, List.map_append, HRL.out]; rfl
                  have hxn1 : x.L.length + 1 = n1 := by rw [← HRL.out, List.length_map]; exact hn1
                  obtain ⟨M, hM⟩ := HY.out.2.1
                  have HAG : Hid (T.aopen 1 m = (T, 0, y)) := Lib.hid (any_again HY.out.1)
                  have HYN : Hid (n1 ≤ y.L.length) := Lib.hid (by rw [hM]; simp; omega)
                  have HYP : Hid ((y.L.take n1 == qs9.map Pb.l) = true) := Lib.hid (by rw [hM, hqm, List.take_left' (by simp; omega)]; simp)
                  have HYT : Hid (x'.torn ≤ y.torn) := Lib.hid (by rw [HXL2.out.2]; exact HY.out.2.2)
                  have HEQ : Hid ((x'.L == qs9.map Pb.l) = true) := Lib.hid (by rw [hqm, HXL2.out.1]; simp)
                  have HNB : Hid (n1 ≤ 200) := Lib.hid (by omega)
                  clear hA7 hB7 hz7 hba hrow8 hcell hF9 hgr9 hat9 hqm hM HY HXL2 hqs9 hxn1 hrow7 heach7 hbs7 hne7 hR5 hrl5
                  rw [hn1]
                  clear hn1

                  go_wp2_with fail
                  refine (AOpen_any hA8.dr hm2 hz9 _ _ _ HAG.out).mono ?_
                  rintro e w8 ⟨hx8, ⟨-, a8, A8, c8, ps8, rfl, hAc, -, -⟩ | ⟨h0, -⟩⟩
                  case inr => exact absurd rfl h0
                  obtain ⟨-, -, l3, l4⟩ := hA8.dr.nor.lt
                  have hLW := hB9.trans (hx8.below l3 l4 hz9)
                  have hLz := Nat.le_trans hz9 hx8.size
                  have hAa := hA8.turn hx8 hAc.dr
                  have hLL := (hl9.but4 (But4.of_but hx8 a _) (.inl rfl)).parts
                  clear hA8 hB9 hz9 hx8 l3 l4 hl9 HAG

                  go_wp2_with fail
                  refine (All_any hAc).mono ?_
                  rintro e w9 ⟨A19, c19, xs, rfl, hR9, hxl, hB9⟩
                  have hAa9 := hAa.below hB9
                  have hAc9 := hAc.below hB9
                  have hL9 := hLL.step hB9
                  have hLW9 := hLW.trans (hB9.mono hLz)
                  have hLz9 := Nat.le_trans hLz hB9.size
                  have hxp := hR9.parts
                  clear hAa hAc hB9 hLL hLW hLz
                  have hpre : n1 ≤ xs.length := by
                    have h1 := congrArg List.length hxl
                    rw [List.length_map] at h1
                    rw [h1]
                    exact HYN.out
                  have hcutx := fun w => run_cutL8 A19 xs.length c19 n1 (Nat.le_trans hpre hR9.row.cap.1) w
                  have hge : decide ((n1 : Int) ≤ (xs.length : Int)) = true := by simp; omega
                  have hge' : decide (n1 ≤ xs.length) = true := by simp; omega
                  have hpt : Parts w9 A19 n1 (xs.take n1) := ⟨by have := hxp.sees.take_ n1; simpa [List.map_take] using this, by rw [List.length_take]; omega, fun q hq => hxp.ok q (List.mem_of_mem_take hq)⟩
                  have heq2 : ((xs.take n1).map Pb.l == qs9.map Pb.l) = true := by
                    rw [List.map_take, hxl]
                    exact HYP.out
                  have hto : decide ((x'.torn : Int) ≤ (y.torn : Int)) = true := by simp; exact HYT.out
                  have hto' : decide (x'.torn ≤ y.torn) = true := by simp; exact HYT.out
                  have hnb : n1 ≤ 200 := HNB.out
                  have HXL := Lib.hid hxl
                  have HHE := Lib.hid heq2
                  have HPT := Lib.hid hpt
                  clear hxl hpre hxp hR9 heq2 hpt
                  go_wp2_with fail
                  refine (same8_any hAa9 (by omega) A9 n1 c9 qs9 hL9 true HEQ.out).mono ?_
                  rintro e w10 ⟨rfl, hB10⟩
                  have hAa10 := hAa9.below hB10
                  have hAc10 := hAc9.below hB10
                  have hL10 := hL9.step hB10
                  have hLW10 := hLW9.trans (hB10.mono hLz9)
                  have hLz10 := Nat.le_trans hLz9 hB10.size
                  have hP10 := HPT.out.step hB10
                  clear hAa9 hAc9 hL9 hLW9 hLz9 hB10
                  go_wp2_with fail
                  refine (SameLists_any A19 A9 n1 n1 c19 c9 (xs.take n1) qs9 _ _ hP10 hL10 rfl rfl true HHE.out (by omega)).mono ?_
                  rintro e w11 ⟨rfl, hB11⟩
                  have hAa11 := hAa10.below hB11
                  have hAc11 := hAc10.below hB11
                  have hLW11 := hLW10.trans (hB11.mono hLz10)
                  have hLz11 := Nat.le_trans hLz10 hB11.size
                  clear hAa10 hAc10 hL10 hLW10 hLz10 hP10 hB11
                  go_wp2_with fail
                  refine (ATorn_any hAc11).mono ?_
                  rintro e w12 ⟨rfl, rfl⟩
                  go_wp2_with fail
                  refine (ATorn_any hAa11).mono ?_
                  rintro e w12 ⟨rfl, rfl⟩
                  go_wp2_with fail
                  refine (awake8_any _).mono ?_
                  rintro e w13 ⟨rfl, hBa⟩
                  go_wp2_with fail
                  go_ret
                  exact ⟨rfl, hLW11.trans (hBa.mono hLz11)⟩
            · as_aux_lemma =>
                have t3 : decide (4 * (64 * ((m : Int) - 1) - (u : Int) - 2) < Rm) = false := by simp; omega
                have hmx2 : (-1 : Int) ≤ 4 * (64 * ((m : Int) - 1) - (u : Int) - 2) := by omega
                go_wp2_with fail
                refine (ATorn_any hA5).mono ?_
                rintro e w6 ⟨rfl, rfl⟩
                go_wp2_with fail
                refine (ARoom_any hA5 Rm HRM.out).mono ?_
                rintro e w6 ⟨rfl, rfl⟩
                go_wp2_with fail
                refine HAP.out.mono ?_
                rintro e w7 ⟨rfl, A7, c7, ps7, hA7, hb7, ho7⟩
                have hlow7 := But4.low hA5 hz5 hb7
                have hB7 := hB45.trans hlow7
                have hz7 := Nat.le_trans hz5 hb7.size
                have hA5b := hA5
                clear HAP hA5
                rcases HE4.out with ⟨rfl, rfl, rfl, rfl⟩ | ⟨rfl, rfl, rfl, rfl⟩ | ⟨rfl, rfl, hxL, hxt2, y, hy, hyM, hyt⟩
                · -- it has no place
                  obtain ⟨y, hy⟩ : ∃ y, y = x' := ⟨_, rfl⟩
                  have hl7 : Lists8 a p b (Value.slice A7 ps7.length c7).ownBlock w7 A5 rs.length rs := (Lists8.of_recs0 hA5b hR5 ⟨hlt5, l1, l2⟩ hown5).but4 hb7 ho7
                  have HAG : Hid (T.aopen 1 m = (T, 0, y)) := Lib.hid (by rw [hy]; exact any_again HO2.out)
                  have HYN : Hid (rs.length ≤ y.L.length) := Lib.hid (by rw [hy, ← HRL.out, List.length_map]; exact Nat.le_refl _)
                  have HYP : Hid ((y.L.take rs.length == rs.map Pb.l) = true) := Lib.hid (by rw [hy, HRL.out, List.take_of_length_le (by rw [← HRL.out, List.length_map]; exact Nat.le_refl _)]; simp)
                  have HYT : Hid (x'.torn ≤ y.torn) := Lib.hid (by rw [hy]; exact Nat.le_refl _)
                  have HEQ : Hid ((x'.L == rs.map Pb.l) = true) := Lib.hid (by rw [HRL.out]; simp)
                  have HNB : Hid (rs.length ≤ 200) := Lib.hid (by omega)
                  clear HE4 hb7 ho7 hlow7 hB45 hz5 hR5 hpr hy HO2

                  go_wp2_with fail
                  refine (AOpen_any hA7.dr hm2 hz7 _ _ _ HAG.out).mono ?_
                  rintro e w8 ⟨hx8, ⟨-, a8, A8, c8, ps8, rfl, hAc, -, -⟩ | ⟨h0, -⟩⟩
                  case inr => exact absurd rfl h0
                  obtain ⟨-, -, l3, l4⟩ := hA7.dr.nor.lt
                  have hLW := hB7.trans (hx8.below l3 l4 hz7)
                  have hLz := Nat.le_trans hz7 hx8.size
                  have hAa := hA7.turn hx8 hAc.dr
                  have hLL := (hl7.but4 (But4.of_but hx8 a _) (.inl rfl)).parts
                  clear hA7 hB7 hz7 hx8 l3 l4 hl7 HAG

                  go_wp2_with fail
                  refine (All_any hAc).mono ?_
                  rintro e w9 ⟨A9, c9, xs, rfl, hR9, hxl, hB9⟩
                  have hAa9 := hAa.below hB9
                  have hAc9 := hAc.below hB9
                  have hL9 := hLL.step hB9
                  have hLW9 := hLW.trans (hB9.mono hLz)
                  have hLz9 := Nat.le_trans hLz hB9.size
                  have hxp := hR9.parts
                  clear hAa hAc hB9 hLL hLW hLz
                  have hpre : rs.length ≤ xs.length := by
                    have h1 := congrArg List.length hxl
                    rw [List.length_map] at h1
                    rw [h1]
                    exact HYN.out
                  have hcutx := fun w => run_cutL8 A9 xs.length c9 rs.length (Nat.le_trans hpre hR9.row.cap.1) w
                  have hge : decide ((rs.length : Int) ≤ (xs.length : Int)) = true := by simp; omega
                  have hge' : decide (rs.length ≤ xs.length) = true := by simp; omega
                  have hpt : Parts w9 A9 rs.length (xs.take rs.length) := ⟨by have := hxp.sees.take_ rs.length; simpa [List.map_take] using this, by rw [List.length_take]; omega, fun q hq => hxp.ok q (List.mem_of_mem_take hq)⟩
                  have heq2 : ((xs.take rs.length).map Pb.l == rs.map Pb.l) = true := by
                    rw [List.map_take, hxl]
                    exact HYP.out
                  have hto : decide ((x'.torn : Int) ≤ (y.torn : Int)) = true := by simp; exact HYT.out
                  have hto' : decide (x'.torn ≤ y.torn) = true := by simp; exact HYT.out
                  have hnb : rs.length ≤ 200 := HNB.out
                  have HXL := Lib.hid hxl
                  have HHE := Lib.hid heq2
                  have HPT := Lib.hid hpt
                  clear hxl hpre hxp hR9 heq2 hpt
                  go_wp2_with fail
                  refine (same8_any hAa9 (by omega) A5 rs.length c5 rs hL9 true HEQ.out).mono ?_
                  rintro e w10 ⟨rfl, hB10⟩
                  have hAa10 := hAa9.below hB10
                  have hAc10 := hAc9.below hB10
                  have hL10 := hL9.step hB10
                  have hLW10 := hLW9.trans (hB10.mono hLz9)
                  have hLz10 := Nat.le_trans hLz9 hB10.size
                  have hP10 := HPT.out.step hB10
                  clear hAa9 hAc9 hL9 hLW9 hLz9 hB10
                  go_wp2_with fail
                  refine (SameLists_any A9 A5 rs.length rs.length c9 c5 (xs.take rs.length) rs _ _ hP10 hL10 rfl rfl true HHE.out (by omega)).mono ?_
                  rintro e w11 ⟨rfl, hB11⟩
                  have hAa11 := hAa10.below hB11
                  have hAc11 := hAc10.below hB11
                  have hLW11 := hLW10.trans (hB11.mono hLz10)
                  have hLz11 := Nat.le_trans hLz10 hB11.size
                  clear hAa10 hAc10 hL10 hLW10 hLz10 hP10 hB11
                  go_wp2_with fail
                  refine (ATorn_any hAc11).mono ?_
                  rintro e w12 ⟨rfl, rfl⟩
                  go_wp2_with fail
                  refine (ATorn_any hAa11).mono ?_
                  rintro e w12 ⟨rfl, rfl⟩
                  go_wp2_with fail
                  refine (awake8_any _).mono ?_
                  rintro e w13 ⟨rfl, hBa⟩
                  go_wp2_with fail
                  go_ret
                  exact ⟨rfl, hLW11.trans (hBa.mono hLz11)⟩
                · -- another hand's words stand in the way
                  have HAG := Lib.hid (any_again HO2.out)
                  clear HE4 hb7 ho7 hlow7 hB45 hz5 hR5 hpr
                  go_wp2_with fail
                  refine (AOpen_any hA7.dr hm2 hz7 _ _ _ HAG.out).mono ?_
                  rintro e w8 ⟨hx8, ⟨-, a8, A8, c8, ps8, rfl, hA8, -, -⟩ | ⟨h0, -⟩⟩
                  case inr => exact absurd rfl h0
                  obtain ⟨-, -, l3, l4⟩ := hA7.dr.nor.lt
                  have hB8 := hB7.trans (hx8.below l3 l4 hz7)
                  have hz8 := Nat.le_trans hz7 hx8.size
                  clear hA7 hB7 hz7 hx8 l3 l4
                  go_wp2_with fail
                  refine (awake8_any _).mono ?_
                  rintro e w13 ⟨rfl, hBa⟩
                  go_wp2_with fail
                  go_ret
                  exact ⟨rfl, hB8.trans (hBa.mono hz8)⟩
                · -- it stands behind all others
                  have hl7 : Lists8 a p b (Value.slice A7 ps7.length c7).ownBlock w7 A5 rs.length rs := (Lists8.of_recs0 hA5b hR5 ⟨hlt5, l1, l2⟩ hown5).but4 hb7 ho7
                  have hrow7 : Fresh w4.heap.size 27 w7 A5 rs.length c5 (rs.map Pb.cell) := hR5.row.stay fun k hk hlt => hb7.keep k hlt (by have := (hR5.row.own hk).1; omega) (by have := (hR5.row.own hk).1; omega) (by have := (hR5.row.own hk).1; omega) (fun e => by have h1 := hown5 k e; have h2 := (hR5.row.own hk).1; omega)
                  have heach7 : ∀ r ∈ rs, Fresh w4.heap.size 5 w7 r.A r.m r.c (cb r.l) := fun r hr => (hR5.each r hr).stay fun k hk hlt => hb7.keep k hlt (by have := ((hR5.each r hr).own hk).1; omega) (by have := ((hR5.each r hr).own hk).1; omega) (by have := ((hR5.each r hr).own hk).1; omega) (fun e => by have h1 := hown5 k e; have h2 := ((hR5.each r hr).own hk).1; omega)
                  have hbs7 : Sees w7 W.heap.size Ab (cb bs) := HBS.out.keep fun q hq => hB7.cell hq
                  have hwz7 : w4.heap.size ≤ w7.heap.size := Nat.le_trans hwz hb7.size
                  have hne7 : (Value.slice A7 ps7.length c7).ownBlock = none ∨ (Value.slice A7 ps7.length c7).ownBlock ≠ (Value.slice A5 rs.length c5).ownBlock := by
                    cases h1 : (Value.slice A7 ps7.length c7).ownBlock with
                    | none => exact .inl rfl
                    | some k7 =>
                      right
                      intro h2
                      have h3 := hR5.row.own h2.symm
                      rcases ho7 with h4 | h4
                      · rw [h1] at h4
                        have := hown5 k7 h4.symm
                        omega
                      · have := h4 k7 h1
                        omega
                  obtain ⟨-, -, l5, l6⟩ := hA7.dr.nor.lt
                  have l7 := hA7.lt.2
                  have hba := below_alloc w7 (.cells #[.slice Ab nb cb_] 27)
                  have hrow8 := hrow7.below hba
                  have hcell : (w7.alloc (.cells #[.slice Ab nb cb_] 27)).cell? ⟨w7.heap.size, 0, none⟩ = some (.slice Ab nb cb_) := by
                    rw [World.cell?_alloc_mark]; rfl
                  have HXL2 := Lib.hid (And.intro hxL hxt2)
                  have HY := Lib.hid (And.intro hy (And.intro hyM hyt))
                  have hrl5 := hR5.row
                  clear HE4 hb7 ho7 hlow7 hB45 hz5 hpr hl7 HO2 hxL hxt2 hy hyM hyt
                  go_wp2_with (at_builtin; refine wpList_one_at rfl (.tmp 123) (.tmp 125) 28 27 (.slice none 0 0) 24 rfl Try.underlying28 (by kernel_rfl) rfl (by omega) w4.heap.size A5 rs.length c5 w7.heap.size (rs.map Pb.cell) (.slice Ab nb cb_) rfl rfl hrow8 hcell rfl (by omega) (Nat.le_trans hwz7 hba.size) ?_; intro A9 c9 w9 hF9 hgr9 hat9)
                  have hA8 := (hA7.below hba).grows hgr9 hrow8 rfl hne7
                  have hB9 : Below W.heap.size W w9 := (hB7.trans (hba.mono hz7)).grown hgr9 (Nat.le_trans hz7 hba.size) (fun k hk => by have := (hrl5.own hk).1; omega)
                  have hz9 : W.heap.size ≤ w9.heap.size := Nat.le_trans hz7 (Nat.le_trans hba.size hgr9.size)
                  have hl9 : Lists8 a p b none w9 A9 (rs.length + 1) (rs ++ [(⟨Ab, nb, cb_, bs⟩ : Pb)]) := by
                    refine ⟨?_, by simp, fun r hr => ?_⟩
                    · rw [List.map_append]
                      exact Aside.of_new0 hF9 ⟨hlt5, l1, l2⟩
                    · rcases List.mem_append.1 hr with h1 | h1
                      · have hfr : Fresh w4.heap.size 5 w9 r.A r.m r.c (cb r.l) := World.ownsRow.kept ((heach7 r h1).below hba) hgr9 (fresh_unlike ((heach7 r h1).below hba) hrow8 (by decide))
                        exact ⟨Aside.of_new0 hfr ⟨hlt5, l1, l2⟩, by simpa using hfr.len, hfr.cap.1⟩
                      · simp at h1
                        subst h1
                        exact ⟨Aside.of_low0 (HBS.out.keep fun q hq => hB9.cell hq) hz9 l7 l5 l6, HBL.out, hbc⟩
                  obtain ⟨n1, hn1⟩ : ∃ n1, rs.length + 1 = n1 := ⟨_, rfl⟩
                  obtain ⟨qs9, hqs9⟩ : ∃ qs9, qs9 = rs ++ [(⟨Ab, nb, cb_, bs⟩ : Pb)] := ⟨_, rfl⟩
                  rw [← hqs9, hn1] at hl9
                  have hqm : qs9.map Pb.l = x.L ++ [bs] := by rw [hqs9, List.map_append, HRL.out]; rfl
                  have hxn1 : x.L.length + 1 = n1 := by rw [← HRL.out, List.length_map]; exact hn1
                  obtain ⟨M, hM⟩ := HY.out.2.1
                  have HAG : Hid (T.aopen 1 m = (T, 0, y)) := Lib.hid (any_again HY.out.1)
                  have HYN : Hid (n1 ≤ y.L.length) := Lib.hid (by rw [hM]; simp; omega)
                  have HYP : Hid ((y.L.take n1 == qs9.map Pb.l) = true) := Lib.hid (by rw [hM, hqm, List.take_left' (by simp; omega)]; simp)
                  have HYT : Hid (x'.torn ≤ y.torn) := Lib.hid (by rw [HXL2.out.2]; exact HY.out.2.2)
                  have HEQ : Hid ((x'.L == qs9.map Pb.l) = true) := Lib.hid (by rw [hqm, HXL2.out.1]; simp)
                  have HNB : Hid (n1 ≤ 200) := Lib.hid (by omega)
                  clear hA7 hB7 hz7 hba hrow8 hcell hF9 hgr9 hat9 hqm hM HY HXL2 hqs9 hxn1 hrow7 heach7 hbs7 hne7 hR5 hrl5
                  rw [hn1]
                  clear hn1

                  go_wp2_with fail
                  refine (AOpen_any hA8.dr hm2 hz9 _ _ _ HAG.out).mono ?_
                  rintro e w8 ⟨hx8, ⟨-, a8, A8, c8, ps8, rfl, hAc, -, -⟩ | ⟨h0, -⟩⟩
                  case inr => exact absurd rfl h0
                  obtain ⟨-, -, l3, l4⟩ := hA8.dr.nor.lt
                  have hLW := hB9.trans (hx8.below l3 l4 hz9)
                  have hLz := Nat.le_trans hz9 hx8.size
                  have hAa := hA8.turn hx8 hAc.dr
                  have hLL := (hl9.but4 (But4.of_but hx8 a _) (.inl rfl)).parts
                  clear hA8 hB9 hz9 hx8 l3 l4 hl9 HAG

                  go_wp2_with fail
                  refine (All_any hAc).mono ?_
                  rintro e w9 ⟨A19, c19, xs, rfl, hR9, hxl, hB9⟩
                  have hAa9 := hAa.below hB9
                  have hAc9 := hAc.below hB9
                  have hL9 := hLL.step hB9
                  have hLW9 := hLW.trans (hB9.mono hLz)
                  have hLz9 := Nat.le_trans hLz hB9.size
                  have hxp := hR9.parts
                  clear hAa hAc hB9 hLL hLW hLz
                  have hpre : n1 ≤ xs.length := by
                    have h1 := congrArg List.length hxl
                    rw [List.length_map] at h1
                    rw [h1]
                    exact HYN.out
                  have hcutx := fun w => run_cutL8 A19 xs.length c19 n1 (Nat.le_trans hpre hR9.row.cap.1) w
                  have hge : decide ((n1 : Int) ≤ (xs.length : Int)) = true := by simp; omega
                  have hge' : decide (n1 ≤ xs.length) = true := by simp; omega
                  have hpt : Parts w9 A19 n1 (xs.take n1) := ⟨by have := hxp.sees.take_ n1; simpa [List.map_take] using this, by rw [List.length_take]; omega, fun q hq => hxp.ok q (List.mem_of_mem_take hq)⟩
                  have heq2 : ((xs.take n1).map Pb.l == qs9.map Pb.l) = true := by
                    rw [List.map_take, hxl]
                    exact HYP.out
                  have hto : decide ((x'.torn : Int) ≤ (y.torn : Int)) = true := by simp; exact HYT.out
                  have hto' : decide (x'.torn ≤ y.torn) = true := by simp; exact HYT.out
                  have hnb : n1 ≤ 200 := HNB.out
                  have HXL := Lib.hid hxl
                  have HHE := Lib.hid heq2
                  have HPT := Lib.hid hpt
                  clear hxl hpre hxp hR9 heq2 hpt
                  go_wp2_with fail
                  refine (same8_any hAa9 (by omega) A9 n1 c9 qs9 hL9 true HEQ.out).mono ?_
                  rintro e w10 ⟨rfl, hB10⟩
                  have hAa10 := hAa9.below hB10
                  have hAc10 := hAc9.below hB10
                  have hL10 := hL9.step hB10
                  have hLW10 := hLW9.trans (hB10.mono hLz9)
                  have hLz10 := Nat.le_trans hLz9 hB10.size
                  have hP10 := HPT.out.step hB10
                  clear hAa9 hAc9 hL9 hLW9 hLz9 hB10
                  go_wp2_with fail
                  refine (SameLists_any A19 A9 n1 n1 c19 c9 (xs.take n1) qs9 _ _ hP10 hL10 rfl rfl true HHE.out (by omega)).mono ?_
                  rintro e w11 ⟨rfl, hB11⟩
                  have hAa11 := hAa10.below hB11
                  have hAc11 := hAc10.below hB11
                  have hLW11 := hLW10.trans (hB11.mono hLz10)
                  have hLz11 := Nat.le_trans hLz10 hB11.size
                  clear hAa10 hAc10 hL10 hLW10 hLz10 hP10 hB11
                  go_wp2_with fail
                  refine (ATorn_any hAc11).mono ?_
                  rintro e w12 ⟨rfl, rfl⟩
                  go_wp2_with fail
                  refine (ATorn_any hAa11).mono ?_
                  rintro e w12 ⟨rfl, rfl⟩
                  go_wp2_with fail
                  refine (awake8_any _).mono ?_
                  rintro e w13 ⟨rfl, hBa⟩
                  go_wp2_with fail
                  go_ret
                  exact ⟨rfl, hLW11.trans (hBa.mono hLz11)⟩
  · have q1 : decide ((300 : Int) < (nb : Int)) = true := by simp; omega
    clear hb63
    go_enter Try.func11, Try.ntmps11
    go_wp2_with fail
    rw [HMI.out]
    refine (made8_any m hm2 (by omega) W).mono ?_
    rintro e w1 ⟨p, b, d, a1, A1, c1, ps1, rfl, hA1, hB1⟩
    go_wp2_with fail
    refine (awake8_any w1).mono ?_
    rintro e w10 ⟨rfl, hBa⟩
    go_wp2_with fail
    go_ret
    exact ⟨rfl, hB1.trans (hBa.mono hB1.size)⟩
end
end Go.Proofs.Ythigepkcgijbbaa
