/-
  Whether a flash is as the document's own one: where both are the same flash, it is.
-/
import Derived.Test.YtjmofjcdcmbecaaRefNew
namespace Go.Proofs.Ytjmofjcdcmbecaa
open Go.RowKit
set_option linter.unusedVariables false

theorem stepOk_val_q {P : Program} {ops : Array Oper} {Q : Exit → Act → World → Prop} {pr : Nat → Value → World → Prop} {i : Nat} {o : Oper} {a : Act} {w : World} {v : Value} (hw : Region.wanted o (yielded ops a.tmps) = true) (hrun : (execOp a.eval o).run P w = .ok (.value v) w) (hp : pr i v w) : StepOk P ops Q pr i o a w := by
  unfold StepOk
  rw [if_pos hw]
  unfold Oper.wp
  rw [hrun]
  exact ⟨v, rfl, hp, Below.refl _ _⟩
def snFacts (p g : Nat) (n : Nat) (G : Int) (D : Bool) (rL : List Value) (j : Nat) (v : Value) (w : World) : Prop :=
  match j with
  | 0 => v = .pointer (some ⟨p, 0, none⟩)
  | 1 => v = .int .i64 (n : Int)
  | 2 => v = .agg (rL).toArray
  | 3 => v = .int .i64 (n : Int)
  | 4 => v = .bool false
  | 5 => v = .bool false
  | 6 => v = .pointer (some ⟨p, 0, none⟩)
  | 7 => v = .int .i64 G
  | 8 => v = .pointer (some ⟨g, 1, none⟩)
  | 9 => v = .int .i64 G
  | 10 => v = .bool false
  | 11 => v = .bool false
  | 12 => v = .bool false
  | 13 => v = .pointer (some ⟨p, 0, none⟩)
  | 14 => v = .bool D
  | 15 => v = .pointer (some ⟨g, 3, none⟩)
  | 16 => v = .bool D
  | 17 => v = .bool false
  | _ => True
theorem snFacts_stab (p g : Nat) (n : Nat) (G : Int) (D : Bool) (rL : List Value) : ∀ j v w w', Below w.heap.size w w' → snFacts p g n G D rL j v w → snFacts p g n G D rL j v w' := by
  intro j v w w' hb h
  exact h
section
variable {w : World} {base p b : Nat} {A : Option Addr} {c : Nat} {S : Fl}
set_option maxHeartbeats 2000000 in
set_option maxRecDepth 100000 in
theorem SameNor_any (h : NorAt base w p b S) (hr : RnAt w A c S) :
    Calls Try.prog 51 #[.pointer (some ⟨p, 0, none⟩), .agg (S.rL A c).toArray] w fun e w' => e = .returned (.bool true) ∧ Below w.heap.size w w' := by
  have hSr : ∀ w', Calls Try.prog 107 #[.agg (S.rL A c).toArray] w' fun e w2 => e = .returned (.int .i64 (S.n : Int)) ∧ Below w'.heap.size w' w2 := fun w' => rSectors_any (A := A) (c := c) S.n hr.n_le S.guard S.leftR S.down S.half w'
  have hn := hr.n_le
  go_enter Try.func51, Try.ntmps51
  go_wp2_with (with_reducible refine wpList_box (o := ⟨some 3, _, _, _, _, _⟩) rfl (.tmp 1) 65 rfl (S.rL A c) rfl 5 rfl (by decide) ?_; intro g w1 hg hF hB)
  have h1 := h.below hB
  have hr1 := hr.step hB
  refine region_all_tail 18 (snFacts p g S.n S.guard S.down (S.rL A c)) (by kernel_rfl) (by kernel_rfl) (by kernel_rfl) (snFacts_stab _ _ _ _ _ _) ?_ ?_
  · intro w0 hb0
    simp only [List.take_succ_cons, List.take_zero]
    refine ⟨?_, ?_, ?_, ?_, ?_, ?_, ?_, ?_, ?_, ?_, ?_, ?_, ?_, ?_, ?_, ?_, ?_, ?_, trivial⟩
    all_goals intro listed a1 w' hk hd
    · have f2 := hk.ev_old 0 (by kernel_rfl)
      exact stepOk_value rfl (v := .pointer (some ⟨p, 0, none⟩)) (by simp [execOp]; exact f2) rfl
    · obtain ⟨v0, e0, q0, rfl⟩ := hk.ev_new hd 0 11 (by kernel_rfl) rfl
      have hN := (h1.below hb0).below hk.below
      refine stepOk_enter (by simp [Region.wanted]) (f := 109) (args := #[.pointer (some ⟨p, 0, none⟩)]) (by go_simp) ?_
      refine (Sectors_any hN).mono ?_
      rintro e w5 ⟨rfl, rfl⟩
      exact ⟨_, rfl, rfl, Below.refl _ _⟩
    · have hX := (hF.below hb0).below hk.below
      have f2 : a1.eval (.tmp 3) = .pointer (some ⟨g, 0, none⟩) := hk.ev_old 3 (by kernel_rfl)
      exact stepOk_value rfl (run_load_agg (.tmp 3) 65 rfl f2 (S.rL A c) 5 rfl (by kernel_rfl) hX.sees) rfl
    · obtain ⟨v2, e2, q2, rfl⟩ := hk.ev_new hd 2 13 (by kernel_rfl) rfl
      refine stepOk_enter (by simp [Region.wanted]) (f := 107) (args := #[.agg (S.rL A c).toArray]) (by go_simp) ?_
      refine (hSr _).mono ?_
      rintro e w5 ⟨rfl, hB5⟩
      exact ⟨_, rfl, rfl, hB5⟩
    · obtain ⟨v1, e1, q1, rfl⟩ := hk.ev_new hd 1 12 (by kernel_rfl) rfl
      obtain ⟨v3, e3, q3, rfl⟩ := hk.ev_new hd 3 14 (by kernel_rfl) rfl
      exact stepOk_value rfl (v := .bool false) (by go_simp) rfl
    · obtain ⟨v4, e4, q4, rfl⟩ := hk.ev_new hd 4 15 (by kernel_rfl) rfl
      exact stepOk_value rfl (v := .bool false) (by go_simp) rfl
    · obtain ⟨v5, e5, q5, rfl⟩ := hk.ev_new hd 5 16 (by kernel_rfl) rfl
      have f2 := hk.ev_old 0 (by kernel_rfl)
      exact stepOk_val_q (wanted_at (t := 16) rfl rfl q5) (v := .pointer (some ⟨p, 0, none⟩)) (by simp [execOp]; exact f2) rfl
    · obtain ⟨v5, e5, q5, rfl⟩ := hk.ev_new hd 5 16 (by kernel_rfl) rfl
      obtain ⟨v6, e6, q6, rfl⟩ := hk.ev_new hd 6 17 (by kernel_rfl) rfl
      have hN := (h1.below hb0).below hk.below
      refine stepOk_enter (wanted_at (t := 16) rfl rfl q5) (f := 110) (args := #[.pointer (some ⟨p, 0, none⟩)]) (by go_simp) ?_
      refine (Guard_any hN).mono ?_
      rintro e w5 ⟨rfl, rfl⟩
      exact ⟨_, rfl, rfl, Below.refl _ _⟩
    · obtain ⟨v5, e5, q5, rfl⟩ := hk.ev_new hd 5 16 (by kernel_rfl) rfl
      have f2 : a1.eval (.tmp 3) = .pointer (some ⟨g, 0, none⟩) := hk.ev_old 3 (by kernel_rfl)
      have f3 : a1.tmps[3]?.getD undef = .pointer (some ⟨g, 0, none⟩) := by simpa [Act.eval] using f2
      exact stepOk_val_q (wanted_at (t := 16) rfl rfl q5) (v := .pointer (some ⟨g, 1, none⟩)) (by go_simp) rfl
    · obtain ⟨v5, e5, q5, rfl⟩ := hk.ev_new hd 5 16 (by kernel_rfl) rfl
      obtain ⟨v8, e8, q8, rfl⟩ := hk.ev_new hd 8 19 (by kernel_rfl) rfl
      have hX := (hF.below hb0).below hk.below
      have c1 : w'.cell? ⟨g, 1, none⟩ = some (.int .i64 S.guard) := hX.cell (j := 1) rfl
      exact stepOk_val_q (wanted_at (t := 16) rfl rfl q5) (v := .int .i64 S.guard) (by go_simp) rfl
    · obtain ⟨v5, e5, q5, rfl⟩ := hk.ev_new hd 5 16 (by kernel_rfl) rfl
      obtain ⟨v7, e7, q7, rfl⟩ := hk.ev_new hd 7 18 (by kernel_rfl) rfl
      obtain ⟨v9, e9, q9, rfl⟩ := hk.ev_new hd 9 20 (by kernel_rfl) rfl
      exact stepOk_val_q (wanted_at (t := 16) rfl rfl q5) (v := .bool false) (by go_simp) rfl
    · obtain ⟨v5, e5, q5, rfl⟩ := hk.ev_new hd 5 16 (by kernel_rfl) rfl
      obtain ⟨v10, e10, q10, rfl⟩ := hk.ev_new hd 10 21 (by kernel_rfl) rfl
      exact stepOk_value rfl (v := .bool false) (by go_simp) rfl
    · obtain ⟨v11, e11, q11, rfl⟩ := hk.ev_new hd 11 22 (by kernel_rfl) rfl
      exact stepOk_value rfl (v := .bool false) (by go_simp) rfl
    · obtain ⟨v12, e12, q12, rfl⟩ := hk.ev_new hd 12 23 (by kernel_rfl) rfl
      have f2 := hk.ev_old 0 (by kernel_rfl)
      exact stepOk_val_q (wanted_at (t := 23) rfl rfl q12) (v := .pointer (some ⟨p, 0, none⟩)) (by simp [execOp]; exact f2) rfl
    · obtain ⟨v12, e12, q12, rfl⟩ := hk.ev_new hd 12 23 (by kernel_rfl) rfl
      obtain ⟨v13, e13, q13, rfl⟩ := hk.ev_new hd 13 24 (by kernel_rfl) rfl
      have hN := (h1.below hb0).below hk.below
      refine stepOk_enter (wanted_at (t := 23) rfl rfl q12) (f := 111) (args := #[.pointer (some ⟨p, 0, none⟩)]) (by go_simp) ?_
      refine (Down_any hN).mono ?_
      rintro e w5 ⟨rfl, rfl⟩
      exact ⟨_, rfl, rfl, Below.refl _ _⟩
    · obtain ⟨v12, e12, q12, rfl⟩ := hk.ev_new hd 12 23 (by kernel_rfl) rfl
      have f2 : a1.eval (.tmp 3) = .pointer (some ⟨g, 0, none⟩) := hk.ev_old 3 (by kernel_rfl)
      have f3 : a1.tmps[3]?.getD undef = .pointer (some ⟨g, 0, none⟩) := by simpa [Act.eval] using f2
      exact stepOk_val_q (wanted_at (t := 23) rfl rfl q12) (v := .pointer (some ⟨g, 3, none⟩)) (by go_simp) rfl
    · obtain ⟨v12, e12, q12, rfl⟩ := hk.ev_new hd 12 23 (by kernel_rfl) rfl
      obtain ⟨v15, e15, q15, rfl⟩ := hk.ev_new hd 15 26 (by kernel_rfl) rfl
      have hX := (hF.below hb0).below hk.below
      have c3 : w'.cell? ⟨g, 3, none⟩ = some (.bool S.down) := hX.cell (j := 3) rfl
      exact stepOk_val_q (wanted_at (t := 23) rfl rfl q12) (v := .bool S.down) (by go_simp) rfl
    · obtain ⟨v12, e12, q12, rfl⟩ := hk.ev_new hd 12 23 (by kernel_rfl) rfl
      obtain ⟨v14, e14, q14, rfl⟩ := hk.ev_new hd 14 25 (by kernel_rfl) rfl
      obtain ⟨v16, e16, q16, rfl⟩ := hk.ev_new hd 16 27 (by kernel_rfl) rfl
      exact stepOk_val_q (wanted_at (t := 23) rfl rfl q12) (v := .bool false) (by go_simp) rfl
  · intro a1 w2 hbw hp
    obtain ⟨v0, p0, v1, p1, v2, p2, v3, p3, v4, p4, v5, p5, v6, p6, v7, p7, v8, p8, v9, p9, v10, p10, v11, p11, v12, p12, v13, p13, v14, p14, v15, p15, v16, p16, v17, p17, rfl⟩ := hp
    simp only [snFacts] at p0 p1 p2 p3 p4 p5 p6 p7 p8 p9 p10 p11 p12 p13 p14 p15 p16 p17
    subst p0 p1 p2 p3 p4 p5 p6 p7 p8 p9 p10 p11 p12 p13 p14 p15 p16 p17
    simp only [List.drop_succ_cons, List.drop_zero, Act.put, List.setIfInBounds_toArray, List.set_cons_succ, List.set_cons_zero]
    have hF2 := hF.below hbw
    have h2 := h1.below hbw
    have hr2 := hr1.step hbw
    have hB2 := Below.then_ hB hbw
    clear hF h1 hr1 hB hbw
    go_wp2_with fail
    go_loopw [5] (fun iv wr => ∃ i : Nat, i ≤ S.n ∧ iv = .int .i64 (i : Int) ∧ Below w2.heap.size w2 wr) (fun iv _ => S.n - (intOf iv).toNat)
    case atStart => exact ⟨0, by omega, rfl, Below.refl _ _⟩
    case round =>
      obtain ⟨i, hi, rfl, hBw⟩ := hrel
      have hFw := hF2.below hBw
      go_wp2_with (with_reducible refine wpList_load (o := ⟨some 31, _, _, _, _, _⟩) rfl (.tmp 3) 65 rfl g 0 _ rfl (S.rL A c) 5 rfl (by kernel_rfl) hFw.sees ?_)
      refine (hSr wr).mono ?_
      rintro e w3 ⟨rfl, hB3⟩
      have hB23 := Below.then_ hBw hB3
      by_cases hlt : i < S.n
      · go_wp2_with fail
        go_loopw [6] (fun jv wr => ∃ j : Nat, j ≤ 64 ∧ jv = .int .i64 (j : Int) ∧ Below w2.heap.size w2 wr) (fun jv _ => 64 - (intOf jv).toNat)
        case atStart => exact ⟨0, by omega, rfl, hB23⟩
        case round =>
          obtain ⟨j, hj, rfl, hBj⟩ := hrel
          by_cases hj2 : j < 64
          · obtain ⟨v, r, hvr⟩ : ∃ v r, S.read (i : Int) (j : Int) = (v, r) := ⟨_, _, rfl⟩
            have hA := Read_any (h2.below hBj) (i : Int) (j : Int) (by omega) v r hvr
            have hFj := hF2.below hBj
            have hBq := fun (w' : World) (x : Below wr.heap.size wr w') => rRead_any ((hr2.step hBj).step x) (i : Int) (j : Int) (by omega) v r hvr
            clear hvr
            go_wp2_with fail
            refine hA.mono ?_
            rintro e w4 ⟨rfl, rfl⟩
            go_wp2_with (with_reducible refine wpList_load (o := ⟨some 48, _, _, _, _, _⟩) rfl (.tmp 3) 65 rfl g 0 _ rfl (S.rL A c) 5 rfl (by kernel_rfl) hFj.sees ?_)
            refine (hBq w4 (Below.refl _ _)).mono ?_
            rintro e w5 ⟨rfl, hB5⟩
            have hB25 := Below.then_ hBj hB5
            go_wp2_with fail
            go_roundw
            case rel => exact ⟨j + 1, by omega, by go_num, hB25⟩
            case measure => simp [intOf]; omega
          · obtain rfl : j = 64 := by omega
            go_wp2_with fail
            go_roundw
            case rel => exact ⟨i + 1, by omega, by go_num, hBj⟩
            case measure => simp [intOf]; omega
      · go_wp2_with fail
        go_ret
        exact ⟨rfl, Below.then_ hB2 hB23⟩
/-- What a call leaves is off the flash's own blocks, as what it was handed was. -/
theorem RnTo.off {w' : World} {B : Option Addr} {c2 : Nat} {T : Fl} (h : RnTo w w' A B c c2 S T) (x : Below w.heap.size w w') (hA : Off p b w A (cw S.ws)) (hp : p < w.heap.size) (hb : b < w.heap.size) : Off p b w' B (cw T.ws) := by
  rcases h.from_ with ⟨rfl, -, hw, -⟩ | hF
  · rw [hw]
    exact hA.step (But.of_below x)
  · intro w'' y
    exact (hF.butC y hp hb).sees
end
end Go.Proofs.Ytjmofjcdcmbecaa
