/-
  The statement's own call opened: a flash that rests is opened, behind a failure in opening, or without.
-/
import Derived.Test.YtpdfalgjmeagjaaAreaLaw
import Derived.Test.YtpdfalgjmeagjaaAreaPlain
import Derived.Test.YtpdfalgjmeagjaaLives8Open
import Derived.Test.YtpdfalgjmeagjaaNorCrash
namespace Go.Proofs.Ytpdfalgjmeagjaa
open Go.RowKit
set_option linter.unusedVariables false

section
variable {w w' : World} {base a d p b f m c : Nat} {mk A : Option Addr} {over : Bool} {S : Fl} {x : Ar} {ps : List Pb}
theorem life8_one (B : Option Addr) (q d em ar ag : Nat) (K : Option Addr) (kq kd : Nat) : ∀ u ∈ life8 B q d em ar ag K kq kd, u.oneCell' = true := by
  intro u hu
  simp only [life8, List.mem_cons, List.not_mem_nil, or_false] at hu
  rcases hu with rfl | rfl | rfl | rfl | rfl <;> rfl
/-- What it tells. -/
def Opened8 (base : Nat) (w : World) (d p b m : Nat) (L : List (List UInt8)) (e : Ending) (w' : World) : Prop :=
  ∃ a A c ps T y, e = .returned (.tuple #[.pointer (some ⟨a, 0, none⟩), .int .i64 0]) ∧ ArAt base w' (some ⟨a, 0, none⟩) a d p b 1 m T y false A c ps ∧ AGood T 1 m y ∧ y.L = L ∧ T.n = m + 1 ∧ T.armed = false ∧ But p b w w' ∧ w.heap.size ≤ a ∧ ∀ k, (Value.slice A ps.length c).ownBlock = some k → w.heap.size ≤ k
set_option maxHeartbeats 4000000 in
set_option maxRecDepth 100000 in
theorem opened8_any (hD : DrAt base w d p b 1 m S) (hn : S.n = m + 1) (hm : 2 ≤ m) (hbase : base ≤ w.heap.size) (L : List (List UInt8)) (hR : Rest S 1 m L) (B : Option Addr) (q dd em ar ag : Nat) (hag : ag < 256) (K : Option Addr) (kq kd : Nat) (ks : List Bool) (hkl : ks.length = kq) (hks : Sees w base K (cl ks)) :
    Calls Try.prog 73 #[.pointer (some ⟨p, 0, none⟩), .pointer (some ⟨d, 0, none⟩), .agg (life8 B q dd em ar ag K kq kd).toArray] w (Opened8 base w d p b m L) := by
  have HM := Lib.hid hm
  have HKL := Lib.hid hkl
  clear hm hkl
  by_cases h3 : ag ≤ 3
  · have q1 : decide ((ag : Int) ≤ 3) = true := by simp; omega
    obtain ⟨k1, k2, k3⟩ := arm_live hR.live (ag : Int)
    obtain ⟨R, hRR⟩ : ∃ R, R = S.arm (ag : Int) := ⟨_, rfl⟩
    rw [← hRR] at k1 k2 k3
    obtain ⟨T, r, y, e1, e2, e3, e4, e5, e6⟩ := rest_open hR k2 k1
    obtain ⟨Z, hZ⟩ : ∃ Z, Z = T.crash ks := ⟨_, rfl⟩
    have hZ6 := e6 ks
    rw [← hZ] at hZ6
    obtain ⟨hZr, hZn⟩ := hZ6
    obtain ⟨T2, r2, y2, g1, g2, g3, g4, g5, g6⟩ := rest_open hZr rfl hZr.live
    have hr2 : r2 = 0 := by
      by_cases h : r2 = 0
      · exact h
      · have := (g5 h).2
        rw [hZr.armed] at this
        cases this
    subst hr2
    have HARM := Lib.hid hRR
    have HF := Lib.hid (And.intro (g4 rfl) (And.intro (g2.trans (hZn.trans (k3.trans hn))) hZr.armed))
    have HE1 := Lib.hid e1
    have HG1 := Lib.hid g1
    have HE3 := Lib.hid e3
    have HZ := Lib.hid hZ
    have HN1 := Lib.hid (e2.trans k3)
    have HN2 := Lib.hid (hZn.trans e2.symm)
    have HRN := Lib.hid k3
    have hr40 : r = 0 ∨ r = 40 := by
      by_cases h : r = 0
      · exact .inl h
      · exact .inr (e5 h).1
    clear e1 e2 e3 e4 e5 e6 g1 g2 g3 g4 g5 g6 hZ hZr hZn k1 k2 k3 hRR hR
    go_enter Try.func73, Try.ntmps73
    go_wp2_with (with_reducible refine wpList_box (o := ⟨some 5, _, _, _, _, _⟩) rfl (.tmp 2) 128 rfl (life8 B q dd em ar ag K kq kd) rfl 5 rfl (by decide) ?_; intro g w1 hg hF1 hB1; have c3 : w1.cell? ⟨g, 3, none⟩ = some (.int .u8 (ag : Int)) := hF1.cell rfl)
    have hD1 := hD.below hB1
    have hbs1 := Nat.le_trans hbase hB1.size
    refine (Arm_any hD1.nor (ag : Int) (by omega)).mono ?_
    rintro e w2 ⟨rfl, hN2, hx2⟩
    rw [← HARM.out] at hN2
    have hD2 := hD1.turn hx2 hN2 HRN.out
    have hbs2 := Nat.le_trans hbs1 hx2.size
    obtain ⟨hplt, hblt, hpb, hbb⟩ := hD.nor.lt
    have hF2 := hF1.but hx2 (by omega) (by omega)
    go_wp2_with fail
    refine (AOpen_any hD2 HM.out hbs2 _ _ _ HE1.out).mono ?_
    rintro e w3 ⟨hx3, hor⟩
    have hbs3 := Nat.le_trans hbs2 hx3.size
    have hF3 := hF2.but hx3 (by omega) (by omega)
    have c4 : w3.cell? ⟨g, 4, none⟩ = some (.slice K kq kd) := hF3.cell rfl
    have hx13 := hx2.then_ hx3
    have hlow13 : Below base w1 w3 := hx13.below hpb hbb hbs1
    have hks3 : Sees w3 base K (cl ks) := (hks.keep fun q hq => hB1.cell (by omega)).keep fun q hq => hlow13.cell hq
    -- behind the first opening, whichever way it ended
    have rest : ∀ (v : Value), DrAt base w3 d p b 1 m T → Calls Try.prog 35 #[.pointer (some ⟨p, 0, none⟩), .slice K kq kd] w3 fun e w' => e = .returned (.tuple #[]) ∧ DrAt base w' d p b 1 m Z ∧ But p b w3 w' := fun v hD3 =>
      (Crash_any hD3.nor HE3.out K kq kd ks hbs3 hks3 HKL.out).mono fun e w' ⟨h1, h2, h3⟩ => ⟨h1, by rw [HZ.out]; exact hD3.turn h3 h2 (by rw [← HZ.out]; exact HN2.out), h3⟩
    have fin : ∀ w4, DrAt base w4 d p b 1 m Z → But p b w3 w4 → Calls Try.prog 149 #[.pointer (some ⟨d, 0, none⟩)] w4 (Opened8 base w d p b m L) := fun w4 hD4 hx4 => by
      have hbs4 := Nat.le_trans hbs3 hx4.size
      refine (AOpen_any hD4 HM.out hbs4 _ _ _ HG1.out).mono ?_
      rintro e w5 ⟨hx5, ⟨-, a, A, c, ps, rfl, hA, ha, hq⟩ | ⟨h0, -⟩⟩
      · obtain ⟨⟨f1, f2, f3⟩, f4, f5⟩ := HF.out
        have hall := ((But.of_below hB1).then_ hx13).then_ (hx4.then_ hx5)
        have hsz : w.heap.size ≤ w4.heap.size := Nat.le_trans hB1.size (Nat.le_trans hx13.size hx4.size)
        exact ⟨a, A, c, ps, T2, y2, rfl, hA, f1, f2, f4, f3.trans f5, hall, Nat.le_trans hsz ha, fun k hk => Nat.le_trans hsz (hq k hk)⟩
      · exact absurd rfl h0
    clear hF1 hF2 c3 hD1 hN2 hx2 hlow13 HE1 HE3 HG1 HF HZ HN1 HN2 HRN HARM hks3 hD hks
    rcases hr40 with rfl | rfl
    · rcases hor with ⟨-, a0, A0, c0, ps0, rfl, hA0, -, -⟩ | ⟨h0, -⟩
      · go_wp2_with fail
        refine (rest (.bool true) hA0.dr).mono ?_
        rintro e w4 ⟨rfl, hD4, hx4⟩
        go_wp2_with fail
        refine (fin w4 hD4 hx4).mono ?_
        rintro e w5 ⟨a, A, c, ps, T9, y, rfl, hrest⟩
        go_wp2_with fail
        go_ret2
        exact ⟨a, A, c, ps, T9, y, rfl, hrest⟩
      · exact absurd rfl h0
    · rcases hor with ⟨h0, -⟩ | ⟨-, rfl, hD3⟩
      · cases h0
      · go_wp2_with fail
        refine (rest (.bool true) hD3).mono ?_
        rintro e w4 ⟨rfl, hD4, hx4⟩
        go_wp2_with fail
        refine (fin w4 hD4 hx4).mono ?_
        rintro e w5 ⟨a, A, c, ps, T9, y, rfl, hrest⟩
        go_wp2_with fail
        go_ret2
        exact ⟨a, A, c, ps, T9, y, rfl, hrest⟩
  · have q1 : decide ((ag : Int) ≤ 3) = false := by simp; omega
    obtain ⟨T2, r2, y2, g1, g2, g3, g4, g5, g6⟩ := rest_open hR rfl hR.live
    have hr2 : r2 = 0 := by
      by_cases h : r2 = 0
      · exact h
      · have := (g5 h).2
        rw [hR.armed] at this
        cases this
    subst hr2
    have HF := Lib.hid (And.intro (g4 rfl) (And.intro (g2.trans hn) hR.armed))
    have HG1 := Lib.hid g1
    clear g1 g2 g3 g4 g5 g6 hR
    go_enter Try.func73, Try.ntmps73
    go_wp2_with (with_reducible refine wpList_box (o := ⟨some 5, _, _, _, _, _⟩) rfl (.tmp 2) 128 rfl (life8 B q dd em ar ag K kq kd) rfl 5 rfl (by decide) ?_; intro g w1 hg hF1 hB1; have c3 : w1.cell? ⟨g, 3, none⟩ = some (.int .u8 (ag : Int)) := hF1.cell rfl)
    have hD1 := hD.below hB1
    have hbs1 := Nat.le_trans hbase hB1.size
    refine (AOpen_any hD1 HM.out hbs1 _ _ _ HG1.out).mono ?_
    rintro e w5 ⟨hx5, ⟨-, a, A, c, ps, rfl, hA, ha, hq⟩ | ⟨h0, -⟩⟩
    · go_wp2_with fail
      go_ret2
      obtain ⟨⟨f1, f2, f3⟩, f4, f5⟩ := HF.out
      exact ⟨a, A, c, ps, T2, y2, rfl, hA, f1, f2, f4, f3.trans f5, (But.of_below hB1).then_ hx5, Nat.le_trans hB1.size ha, fun k hk => Nat.le_trans hB1.size (hq k hk)⟩
    · exact absurd rfl h0
end
end Go.Proofs.Ytpdfalgjmeagjaa
