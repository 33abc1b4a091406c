/-
  A line of pushes and signs: the other signs.
-/
import Derived.Test.YtangblcfdboghaaCheckTypeIn
namespace Go.Proofs.Ytangblcfdboghaa
open Go.RowKit
set_option linter.unusedVariables false
set_option linter.constructorNameAsVariable false

theorem fours (x : Nat) : ∀ u ∈ ([.int .u8 13, .int .u8 (x : Int), .int .i64 0, .int .i64 0] : List Value), u.oneCell' = true := by
  intro u hu
  simp at hu
  rcases hu with rfl | rfl | rfl <;> rfl
section
variable {w : World} {a b c d x y z s o : Nat}
set_option maxHeartbeats 8000000 in
set_option maxRecDepth 100000 in
theorem ty_wconv (h : TyIn a b c d x y z s o) (hoe : o = 15) :
    Calls Try.prog 9 #[.int .u8 (a : Int), .int .u8 (b : Int), .int .u8 (c : Int), .int .u8 (d : Int)] w fun e w' => e = .returned (.bool true) ∧ Below w.heap.size w w' := by
  have quit : ∀ wq, Below w.heap.size w wq → Calls Try.prog 28 #[] wq fun e w' => e = .returned (.bool true) ∧ Below w.heap.size w w' := fun wq hq => (awake14_any wq).mono (fun e w' h => ⟨h.1, Below.then_ hq h.2⟩)
  obtain ⟨x1, y1, z1, ex, ey, ez, es, s1, ho, o1⟩ := h
  obtain ⟨a1, ha1⟩ : ∃ a1, a % 5 = a1 := ⟨_, rfl⟩
  obtain ⟨b1, hb1⟩ : ∃ b1, b % 5 = b1 := ⟨_, rfl⟩
  obtain ⟨c1, hc1⟩ : ∃ c1, c % 5 = c1 := ⟨_, rfl⟩
  rw [ha1] at ex
  rw [hb1] at ey
  rw [hc1] at ez
  have f1 : (a : Int).tmod 5 = (a1 : Int) := by rw [Int.tmod_eq_emod_of_nonneg (by omega)]; omega
  have f2 : (a : Int) % 5 = (a1 : Int) := by omega
  have f3 : (1 : Int) + (a1 : Int) = (x : Int) := by omega
  have f4 : (b : Int).tmod 5 = (b1 : Int) := by rw [Int.tmod_eq_emod_of_nonneg (by omega)]; omega
  have f5 : (b : Int) % 5 = (b1 : Int) := by omega
  have f6 : (1 : Int) + (b1 : Int) = (y : Int) := by omega
  have f7 : (c : Int).tmod 5 = (c1 : Int) := by rw [Int.tmod_eq_emod_of_nonneg (by omega)]; omega
  have f8 : (c : Int) % 5 = (c1 : Int) := by omega
  have f9 : (1 : Int) + (c1 : Int) = (z : Int) := by omega
  have f10 : (d : Int).tmod 11 = (s : Int) := by rw [Int.tmod_eq_emod_of_nonneg (by omega)]; omega
  have f11 : (d : Int) % 11 = (s : Int) := by omega
  have g1 : IntKind.u8.wrap (x : Int) = (x : Int) := by rw [IntKind.wrap_u8]; omega
  have g2 : IntKind.u8.wrap (y : Int) = (y : Int) := by rw [IntKind.wrap_u8]; omega
  have g3 : IntKind.u8.wrap (z : Int) = (z : Int) := by rw [IntKind.wrap_u8]; omega
  have q1 : a1 < 5 := by omega
  have q2 : b1 < 5 := by omega
  have q3 : c1 < 5 := by omega
  have HS := Lib.hid ho
  have HO : Hid (o < 256) := Lib.hid o1
  clear ex ey ez es ho ha1 hb1 hc1
  have hok : ∀ j ∈ tyC x y z, j.Ok := by
    intro j hj
    simp only [tyC, List.mem_cons, List.not_mem_nil, or_false] at hj
    rcases hj with rfl | rfl | rfl | rfl | rfl | rfl
    all_goals exact ⟨by simp, by simp; try omega, by simp; try omega, by simp⟩
  obtain ⟨cv, hcv⟩ : ∃ cv, checkF (tyP (tyC x y z)) 9 = cv := ⟨_, rfl⟩
  have hck : ∀ (g c : Nat) (w' : World), Sees w' w'.heap.size (some ⟨g, 0, none⟩) (jcs (tyC x y z)) → 6 ≤ c ∧ c ≤ maxLen → Calls Try.prog 33 #[.agg #[.string ⟨#[112]⟩, .slice none 0 0, .slice none 0 0, .slice (some ⟨g, 0, none⟩) 6 c], .int .i64 9] w' fun e w2 => e = .returned (.int .i64 (cv : Int)) ∧ Below w'.heap.size w' w2 := fun g c w' hs hc => check_is 9 cv hcv hs rfl hok hc
  have HCK := Lib.hid hck
  have HO15 := Lib.hid hoe
  obtain ⟨p1, hp1⟩ : ∃ p1, ((x : Int) == (z : Int)) = p1 := ⟨_, rfl⟩
  obtain ⟨p2, hp2⟩ : ∃ p2, ((y : Int) == (z : Int)) = p2 := ⟨_, rfl⟩
  obtain ⟨p3, hp3⟩ : ∃ p3, ((y : Int) == (x : Int)) = p3 := ⟨_, rfl⟩
  have hp4 : ((z : Int) == (x : Int)) = p1 := by rw [← hp1, Bool.eq_iff_iff]; simp; omega
  have r1 : (z == x) = p1 := by rw [← hp1, Bool.eq_iff_iff]; simp; omega
  have r3 : (y == x) = p3 := by rw [← hp3, Bool.eq_iff_iff]; simp; omega
  have k15 : ((o : Int) == 15) = true := by simp; omega
  have hall := List.all_eq_true.1 (List.all_eq_true.1 (List.all_eq_true.1 ty_conv x (five_mem x1)) y (five_mem y1)) z (five_mem z1)
  rw [hcv, r1, r3] at hall
  have hxw : IntKind.i64.wrap (x : Int) = (x : Int) := by rw [IntKind.wrap_i64]; omega
  clear hoe hcv hck hok r1 r3
  cases p3
  · have hc : ((cv : Int) == 0) = false := by
      rw [beq_iff_eq, Bool.false_and] at hall
      rw [← hall, Bool.eq_iff_iff]; simp
    clear hall
    cases p1
    · go_enter Try.func9, Try.ntmps9
      go_wp2_with (first
        | (with_reducible refine wpList_alloc (o := ⟨some 12, _, _, _, _, _⟩) rfl 68 rfl (cb (List.replicate 11 0)) zero11 11 rfl (by decide) ?_; intro bo w1 hgw1 hFw1 hBw1)
        | (
            with_reducible refine wpList_store rfl rfl (.tmp 12) (.tmp 25) 68 rfl bo 0 w.heap.size 68 11 (cb (List.replicate 11 0)) (cb opsL) ?_ ?_ 11 ?_ ?_ ?_ ?_ ?_ w ?_ ?_ ?_
            · rfl
            · rfl
            · rfl
            · exact agg11
            · exact hFw1
            · omega
            · exact cb_one _
            · exact hBw1
            · exact hgw1
            intro w2 hFw2 hBw2 hkw2 hsw2
            rw [show splice (cb (List.replicate 11 0)) 0 (cb opsL) = cb opsL from rfl] at hFw2; have co := hFw2.cell_ (k := s) (u := .int .u8 (o : Int)) HS.out)
        | (go_at_call 36; refine (prog_any (some ⟨w2.heap.size, 0, none⟩) 5 5 _).mono ?_; (rintro e w3 ⟨rfl, hBp⟩; have hF3 := (Fresh.new w2 53 [.int .u8 1, .int .u8 (x : Int), .int .i64 0, .int .i64 0, .int .u8 1, .int .u8 (y : Int), .int .i64 0, .int .i64 0, .int .u8 (o : Int), .int .u8 (z : Int), .int .i64 0, .int .i64 0, .int .u8 17, .int .u8 0, .int .i64 0, .int .i64 0, .int .u8 22, .int .u8 0, .int .i64 0, .int .i64 0] 20 rfl (by decide)).below hBp; have hB23 := Below.then_ (below_alloc w2 (.cells [.int .u8 1, .int .u8 (x : Int), .int .i64 0, .int .i64 0, .int .u8 1, .int .u8 (y : Int), .int .i64 0, .int .i64 0, .int .u8 (o : Int), .int .u8 (z : Int), .int .i64 0, .int .i64 0, .int .u8 17, .int .u8 0, .int .i64 0, .int .i64 0, .int .u8 22, .int .u8 0, .int .i64 0, .int .i64 0].toArray 53 (0, 0))) hBp; have hB3 := Below.then_ hBw2 (Below.then_ (below_alloc _ _) hBp); obtain ⟨gj, hgj⟩ : ∃ gj, w2.heap.size = gj := ⟨_, rfl⟩; have hgle := Nat.le_of_eq hgj; rw [hgj] at hF3 ⊢; have hgj3 := hF3.lt_size; have hS3 : Sees w3 w3.heap.size (some ⟨gj, 0, none⟩) (jcs (tyJ o x y z)) := hF3.sees))
        | (with_reducible refine wpList_alloc (o := ⟨some 14, _, _, _, _, _⟩) rfl 26 rfl noC zeroC 4 rfl (by decide) ?_; intro bc w4 hgw4 hFw4 hBw4)
        | (
            with_reducible refine wpList_store rfl rfl (.tmp 14) (.tmp 40) 26 rfl bc 0 w3.heap.size 26 4 noC [.string ⟨#[112]⟩, .slice none 0 0, .slice none 0 0, .slice (some ⟨gj, 0, none⟩) 5 5] ?_ ?_ 4 ?_ ?_ ?_ ?_ ?_ w3 ?_ ?_ ?_
            · rfl
            · rfl
            · rfl
            · exact aggCode
            · exact hFw4
            · omega
            · exact cd1 _ _ _ _ _ _ _ _ _ _
            · exact hBw4
            · exact hgw4
            intro w5 hFw5 hBw5 hkw5 hsw5
            rw [show splice noC 0 [.string ⟨#[112]⟩, .slice none 0 0, .slice none 0 0, .slice (some ⟨gj, 0, none⟩) 5 5] = [.string ⟨#[112]⟩, .slice none 0 0, .slice none 0 0, .slice (some ⟨gj, 0, none⟩) 5 5] from rfl] at hFw5; have hB5 := Below.then_ hB3 hBw5; have hS5 := hS3.step hBw5; have hF5 := hF3.below hBw5; have hB25 := Below.then_ hB23 hBw5; have hbc2 : w2.heap.size ≤ bc := Nat.le_trans hB23.size hgw4; have hne : bc ≠ gj := (fun e => by omega); have u3 := hFw5.cell_ (k := 3) (u := .slice (some ⟨gj, 0, none⟩) 5 5) rfl)
        | (
            with_reducible refine wpList_store1 rfl rfl (.tmp 57) (.tmp 55) 3 rfl gj 10 gj 53 20 [.int .u8 1, .int .u8 (x : Int), .int .i64 0, .int .i64 0, .int .u8 1, .int .u8 (y : Int), .int .i64 0, .int .i64 0, .int .u8 (o : Int), .int .u8 (z : Int), .int .i64 0, .int .i64 0, .int .u8 17, .int .u8 0, .int .i64 0, .int .i64 0, .int .u8 22, .int .u8 0, .int .i64 0, .int .i64 0] (.int .i64 (x : Int)) ?_ ?_ ?_ ?_ ?_ ?_ ?_ w2 ?_ ?_ ?_
            · rfl
            · rfl
            · rfl
            · rfl
            · kernel_rfl
            · exact hF5
            · omega
            · exact hB25
            · exact hgle
            intro w6 hF6 hB26 hk6 hs6
            rw [show ([.int .u8 1, .int .u8 (x : Int), .int .i64 0, .int .i64 0, .int .u8 1, .int .u8 (y : Int), .int .i64 0, .int .i64 0, .int .u8 (o : Int), .int .u8 (z : Int), .int .i64 0, .int .i64 0, .int .u8 17, .int .u8 0, .int .i64 0, .int .i64 0, .int .u8 22, .int .u8 0, .int .i64 0, .int .i64 0] : List Value).set 10 (.int .i64 (x : Int)) = [.int .u8 1, .int .u8 (x : Int), .int .i64 0, .int .i64 0, .int .u8 1, .int .u8 (y : Int), .int .i64 0, .int .i64 0, .int .u8 (o : Int), .int .u8 (z : Int), .int .i64 (x : Int), .int .i64 0, .int .u8 17, .int .u8 0, .int .i64 0, .int .i64 0, .int .u8 22, .int .u8 0, .int .i64 0, .int .i64 0] from rfl] at hF6
            have hC6 := hFw5.other hne hk6
            have u3 := hC6.cell_ (k := 3) (u := .slice (some ⟨gj, 0, none⟩) 5 5) rfl)
        | (
            with_reducible refine wpList_store rfl rfl (.tmp 62) (.tmp 61) 53 rfl gj 12 gj 53 20 [.int .u8 1, .int .u8 (x : Int), .int .i64 0, .int .i64 0, .int .u8 1, .int .u8 (y : Int), .int .i64 0, .int .i64 0, .int .u8 (o : Int), .int .u8 (z : Int), .int .i64 (x : Int), .int .i64 0, .int .u8 17, .int .u8 0, .int .i64 0, .int .i64 0, .int .u8 22, .int .u8 0, .int .i64 0, .int .i64 0] [.int .u8 13, .int .u8 (x : Int), .int .i64 0, .int .i64 0] ?_ ?_ 4 ?_ ?_ ?_ ?_ ?_ w2 ?_ ?_ ?_
            · rfl
            · rfl
            · rfl
            · exact aggIns
            · exact hF6
            · omega
            · exact fours _
            · exact hB26
            · exact hgle
            intro w7 hF7 hB27 hk7 hs7
            rw [show splice ([.int .u8 1, .int .u8 (x : Int), .int .i64 0, .int .i64 0, .int .u8 1, .int .u8 (y : Int), .int .i64 0, .int .i64 0, .int .u8 (o : Int), .int .u8 (z : Int), .int .i64 (x : Int), .int .i64 0, .int .u8 17, .int .u8 0, .int .i64 0, .int .i64 0, .int .u8 22, .int .u8 0, .int .i64 0, .int .i64 0] : List Value) 12 ([.int .u8 13, .int .u8 (x : Int), .int .i64 0, .int .i64 0] : List Value) = ([.int .u8 1, .int .u8 (x : Int), .int .i64 0, .int .i64 0, .int .u8 1, .int .u8 (y : Int), .int .i64 0, .int .i64 0, .int .u8 (o : Int), .int .u8 (z : Int), .int .i64 (x : Int), .int .i64 0, .int .u8 13, .int .u8 (x : Int), .int .i64 0, .int .i64 0, .int .u8 22, .int .u8 0, .int .i64 0, .int .i64 0] : List Value) from rfl] at hF7
            have hC7 := hC6.other hne hk7
            have u3 := hC7.cell_ (k := 3) (u := .slice (some ⟨gj, 0, none⟩) 5 5) rfl
            have hcut := run_cut44 gj)
        | (
            at_builtin
            obtain ⟨g8, c8, w8, hr8, hown8, hB78⟩ := run_app42 (w7.alloc (.cells (jcs [⟨17, 0, 0, 0⟩, ⟨22, 0, 0, 0⟩]).toArray 53 (0, 0))) 24 gj w7.heap.size ([.int .u8 1, .int .u8 (x : Int), .int .i64 0, .int .i64 0, .int .u8 1, .int .u8 (y : Int), .int .i64 0, .int .i64 0, .int .u8 (o : Int), .int .u8 (z : Int), .int .i64 (x : Int), .int .i64 0, .int .u8 13, .int .u8 (x : Int), .int .i64 0, .int .i64 0, .int .u8 22, .int .u8 0, .int .i64 0, .int .i64 0].take 16) (jcs [⟨17, 0, 0, 0⟩, ⟨22, 0, 0, 0⟩]) rfl rfl (fun j u hj => (hF7.below (below_alloc _ _)).cell_ (by rw [List.getElem?_take] at hj; split at hj; exact hj; cases hj)) (fun j u hj => by rw [World.cell?_alloc_mark]; simpa using hj)
            refine Lib.wpList_append_run _ rfl _ _ _ _ rfl _ _ rfl rfl _ _ hr8 ?_
            have hB28 := Below.then_ hB27 (Below.then_ (below_alloc _ _) hB78)
            have hC8 := hC7.below (Below.then_ (below_alloc _ _) hB78))
        | (
            with_reducible refine wpList_store1 rfl rfl (.tmp 70) (.tmp 69) 24 rfl bc 3 w3.heap.size 26 4 [.string ⟨#[112]⟩, .slice none 0 0, .slice none 0 0, .slice (some ⟨gj, 0, none⟩) 5 5] (.slice (some ⟨g8, 0, none⟩) 6 c8) ?_ ?_ ?_ ?_ ?_ ?_ ?_ w2 ?_ ?_ ?_
            · rfl
            · rfl
            · rfl
            · rfl
            · kernel_rfl
            · exact hC8
            · omega
            · exact hB28
            · exact hbc2
            intro w9 hF9 hB29 hk9 hs9
            rw [show ([.string ⟨#[112]⟩, .slice none 0 0, .slice none 0 0, .slice (some ⟨gj, 0, none⟩) 5 5] : List Value).set 3 (.slice (some ⟨g8, 0, none⟩) 6 c8) = [.string ⟨#[112]⟩, .slice none 0 0, .slice none 0 0, .slice (some ⟨g8, 0, none⟩) 6 c8] from rfl] at hF9
            have hS9 : Sees w9 w9.heap.size (some ⟨g8, 0, none⟩) (jcs (tyC x y z)) := by
              have h8 : OwnJ w7.heap.size w8 (some ⟨g8, 0, none⟩) 6 c8 (tyC x y z) := OwnJ.lower (base := (w7.alloc (.cells (jcs [⟨17, 0, 0, 0⟩, ⟨22, 0, 0, 0⟩]).toArray 53 (0, 0))).heap.size) (by rw [HO15.out] at hown8; exact hown8) (by simp)
              exact (h8.other (g := bc) hC7.lt_size hk9).sees
            have hcap8 : 6 ≤ c8 ∧ c8 ≤ maxLen := OwnJ.cap (base := (w7.alloc (.cells (jcs [⟨17, 0, 0, 0⟩, ⟨22, 0, 0, 0⟩]).toArray 53 (0, 0))).heap.size) (w := w8) (A := some ⟨g8, 0, none⟩) (l := tyC x y z) (by rw [HO15.out] at hown8; exact hown8)
            have hck := HCK.out g8 c8 w9 hS9 hcap8
            have hB9 := Below.then_ hBw2 hB29)
        | (with_reducible refine wpList_load (o := ⟨some 94, _, _, _, _, _⟩) rfl (.tmp 14) 26 rfl bc 0 _ rfl [.string ⟨#[112]⟩, .slice none 0 0, .slice none 0 0, .slice (some ⟨g8, 0, none⟩) 6 c8] 4 rfl aggCode hF9.sees ?_)
        | (go_at_call 33; with_reducible refine hck.mono ?_; (rintro e w10 ⟨rfl, hB10⟩; have hB56 := Below.then_ hB9 hB10))
        | (go_at_call 28; refine (quit _ hB56).mono ?_; rintro e wz ⟨rfl, hBz⟩))
      go_ret
      exact ⟨rfl, hBz⟩
    · go_enter Try.func9, Try.ntmps9
      go_wp2_with (first
        | (with_reducible refine wpList_alloc (o := ⟨some 12, _, _, _, _, _⟩) rfl 68 rfl (cb (List.replicate 11 0)) zero11 11 rfl (by decide) ?_; intro bo w1 hgw1 hFw1 hBw1)
        | (
            with_reducible refine wpList_store rfl rfl (.tmp 12) (.tmp 25) 68 rfl bo 0 w.heap.size 68 11 (cb (List.replicate 11 0)) (cb opsL) ?_ ?_ 11 ?_ ?_ ?_ ?_ ?_ w ?_ ?_ ?_
            · rfl
            · rfl
            · rfl
            · exact agg11
            · exact hFw1
            · omega
            · exact cb_one _
            · exact hBw1
            · exact hgw1
            intro w2 hFw2 hBw2 hkw2 hsw2
            rw [show splice (cb (List.replicate 11 0)) 0 (cb opsL) = cb opsL from rfl] at hFw2; have co := hFw2.cell_ (k := s) (u := .int .u8 (o : Int)) HS.out)
        | (go_at_call 36; refine (prog_any (some ⟨w2.heap.size, 0, none⟩) 5 5 _).mono ?_; (rintro e w3 ⟨rfl, hBp⟩; have hF3 := (Fresh.new w2 53 [.int .u8 1, .int .u8 (x : Int), .int .i64 0, .int .i64 0, .int .u8 1, .int .u8 (y : Int), .int .i64 0, .int .i64 0, .int .u8 (o : Int), .int .u8 (z : Int), .int .i64 0, .int .i64 0, .int .u8 17, .int .u8 0, .int .i64 0, .int .i64 0, .int .u8 22, .int .u8 0, .int .i64 0, .int .i64 0] 20 rfl (by decide)).below hBp; have hB23 := Below.then_ (below_alloc w2 (.cells [.int .u8 1, .int .u8 (x : Int), .int .i64 0, .int .i64 0, .int .u8 1, .int .u8 (y : Int), .int .i64 0, .int .i64 0, .int .u8 (o : Int), .int .u8 (z : Int), .int .i64 0, .int .i64 0, .int .u8 17, .int .u8 0, .int .i64 0, .int .i64 0, .int .u8 22, .int .u8 0, .int .i64 0, .int .i64 0].toArray 53 (0, 0))) hBp; have hB3 := Below.then_ hBw2 (Below.then_ (below_alloc _ _) hBp); obtain ⟨gj, hgj⟩ : ∃ gj, w2.heap.size = gj := ⟨_, rfl⟩; have hgle := Nat.le_of_eq hgj; rw [hgj] at hF3 ⊢; have hgj3 := hF3.lt_size; have hS3 : Sees w3 w3.heap.size (some ⟨gj, 0, none⟩) (jcs (tyJ o x y z)) := hF3.sees))
        | (with_reducible refine wpList_alloc (o := ⟨some 14, _, _, _, _, _⟩) rfl 26 rfl noC zeroC 4 rfl (by decide) ?_; intro bc w4 hgw4 hFw4 hBw4)
        | (
            with_reducible refine wpList_store rfl rfl (.tmp 14) (.tmp 40) 26 rfl bc 0 w3.heap.size 26 4 noC [.string ⟨#[112]⟩, .slice none 0 0, .slice none 0 0, .slice (some ⟨gj, 0, none⟩) 5 5] ?_ ?_ 4 ?_ ?_ ?_ ?_ ?_ w3 ?_ ?_ ?_
            · rfl
            · rfl
            · rfl
            · exact aggCode
            · exact hFw4
            · omega
            · exact cd1 _ _ _ _ _ _ _ _ _ _
            · exact hBw4
            · exact hgw4
            intro w5 hFw5 hBw5 hkw5 hsw5
            rw [show splice noC 0 [.string ⟨#[112]⟩, .slice none 0 0, .slice none 0 0, .slice (some ⟨gj, 0, none⟩) 5 5] = [.string ⟨#[112]⟩, .slice none 0 0, .slice none 0 0, .slice (some ⟨gj, 0, none⟩) 5 5] from rfl] at hFw5; have hB5 := Below.then_ hB3 hBw5; have hS5 := hS3.step hBw5; have hF5 := hF3.below hBw5; have hB25 := Below.then_ hB23 hBw5; have hbc2 : w2.heap.size ≤ bc := Nat.le_trans hB23.size hgw4; have hne : bc ≠ gj := (fun e => by omega); have u3 := hFw5.cell_ (k := 3) (u := .slice (some ⟨gj, 0, none⟩) 5 5) rfl)
        | (
            with_reducible refine wpList_store1 rfl rfl (.tmp 57) (.tmp 55) 3 rfl gj 10 gj 53 20 [.int .u8 1, .int .u8 (x : Int), .int .i64 0, .int .i64 0, .int .u8 1, .int .u8 (y : Int), .int .i64 0, .int .i64 0, .int .u8 (o : Int), .int .u8 (z : Int), .int .i64 0, .int .i64 0, .int .u8 17, .int .u8 0, .int .i64 0, .int .i64 0, .int .u8 22, .int .u8 0, .int .i64 0, .int .i64 0] (.int .i64 (x : Int)) ?_ ?_ ?_ ?_ ?_ ?_ ?_ w2 ?_ ?_ ?_
            · rfl
            · rfl
            · rfl
            · rfl
            · kernel_rfl
            · exact hF5
            · omega
            · exact hB25
            · exact hgle
            intro w6 hF6 hB26 hk6 hs6
            rw [show ([.int .u8 1, .int .u8 (x : Int), .int .i64 0, .int .i64 0, .int .u8 1, .int .u8 (y : Int), .int .i64 0, .int .i64 0, .int .u8 (o : Int), .int .u8 (z : Int), .int .i64 0, .int .i64 0, .int .u8 17, .int .u8 0, .int .i64 0, .int .i64 0, .int .u8 22, .int .u8 0, .int .i64 0, .int .i64 0] : List Value).set 10 (.int .i64 (x : Int)) = [.int .u8 1, .int .u8 (x : Int), .int .i64 0, .int .i64 0, .int .u8 1, .int .u8 (y : Int), .int .i64 0, .int .i64 0, .int .u8 (o : Int), .int .u8 (z : Int), .int .i64 (x : Int), .int .i64 0, .int .u8 17, .int .u8 0, .int .i64 0, .int .i64 0, .int .u8 22, .int .u8 0, .int .i64 0, .int .i64 0] from rfl] at hF6
            have hC6 := hFw5.other hne hk6
            have u3 := hC6.cell_ (k := 3) (u := .slice (some ⟨gj, 0, none⟩) 5 5) rfl)
        | (
            with_reducible refine wpList_store rfl rfl (.tmp 62) (.tmp 61) 53 rfl gj 12 gj 53 20 [.int .u8 1, .int .u8 (x : Int), .int .i64 0, .int .i64 0, .int .u8 1, .int .u8 (y : Int), .int .i64 0, .int .i64 0, .int .u8 (o : Int), .int .u8 (z : Int), .int .i64 (x : Int), .int .i64 0, .int .u8 17, .int .u8 0, .int .i64 0, .int .i64 0, .int .u8 22, .int .u8 0, .int .i64 0, .int .i64 0] [.int .u8 13, .int .u8 (x : Int), .int .i64 0, .int .i64 0] ?_ ?_ 4 ?_ ?_ ?_ ?_ ?_ w2 ?_ ?_ ?_
            · rfl
            · rfl
            · rfl
            · exact aggIns
            · exact hF6
            · omega
            · exact fours _
            · exact hB26
            · exact hgle
            intro w7 hF7 hB27 hk7 hs7
            rw [show splice ([.int .u8 1, .int .u8 (x : Int), .int .i64 0, .int .i64 0, .int .u8 1, .int .u8 (y : Int), .int .i64 0, .int .i64 0, .int .u8 (o : Int), .int .u8 (z : Int), .int .i64 (x : Int), .int .i64 0, .int .u8 17, .int .u8 0, .int .i64 0, .int .i64 0, .int .u8 22, .int .u8 0, .int .i64 0, .int .i64 0] : List Value) 12 ([.int .u8 13, .int .u8 (x : Int), .int .i64 0, .int .i64 0] : List Value) = ([.int .u8 1, .int .u8 (x : Int), .int .i64 0, .int .i64 0, .int .u8 1, .int .u8 (y : Int), .int .i64 0, .int .i64 0, .int .u8 (o : Int), .int .u8 (z : Int), .int .i64 (x : Int), .int .i64 0, .int .u8 13, .int .u8 (x : Int), .int .i64 0, .int .i64 0, .int .u8 22, .int .u8 0, .int .i64 0, .int .i64 0] : List Value) from rfl] at hF7
            have hC7 := hC6.other hne hk7
            have u3 := hC7.cell_ (k := 3) (u := .slice (some ⟨gj, 0, none⟩) 5 5) rfl
            have hcut := run_cut44 gj)
        | (
            at_builtin
            obtain ⟨g8, c8, w8, hr8, hown8, hB78⟩ := run_app42 (w7.alloc (.cells (jcs [⟨17, 0, 0, 0⟩, ⟨22, 0, 0, 0⟩]).toArray 53 (0, 0))) 24 gj w7.heap.size ([.int .u8 1, .int .u8 (x : Int), .int .i64 0, .int .i64 0, .int .u8 1, .int .u8 (y : Int), .int .i64 0, .int .i64 0, .int .u8 (o : Int), .int .u8 (z : Int), .int .i64 (x : Int), .int .i64 0, .int .u8 13, .int .u8 (x : Int), .int .i64 0, .int .i64 0, .int .u8 22, .int .u8 0, .int .i64 0, .int .i64 0].take 16) (jcs [⟨17, 0, 0, 0⟩, ⟨22, 0, 0, 0⟩]) rfl rfl (fun j u hj => (hF7.below (below_alloc _ _)).cell_ (by rw [List.getElem?_take] at hj; split at hj; exact hj; cases hj)) (fun j u hj => by rw [World.cell?_alloc_mark]; simpa using hj)
            refine Lib.wpList_append_run _ rfl _ _ _ _ rfl _ _ rfl rfl _ _ hr8 ?_
            have hB28 := Below.then_ hB27 (Below.then_ (below_alloc _ _) hB78)
            have hC8 := hC7.below (Below.then_ (below_alloc _ _) hB78))
        | (
            with_reducible refine wpList_store1 rfl rfl (.tmp 70) (.tmp 69) 24 rfl bc 3 w3.heap.size 26 4 [.string ⟨#[112]⟩, .slice none 0 0, .slice none 0 0, .slice (some ⟨gj, 0, none⟩) 5 5] (.slice (some ⟨g8, 0, none⟩) 6 c8) ?_ ?_ ?_ ?_ ?_ ?_ ?_ w2 ?_ ?_ ?_
            · rfl
            · rfl
            · rfl
            · rfl
            · kernel_rfl
            · exact hC8
            · omega
            · exact hB28
            · exact hbc2
            intro w9 hF9 hB29 hk9 hs9
            rw [show ([.string ⟨#[112]⟩, .slice none 0 0, .slice none 0 0, .slice (some ⟨gj, 0, none⟩) 5 5] : List Value).set 3 (.slice (some ⟨g8, 0, none⟩) 6 c8) = [.string ⟨#[112]⟩, .slice none 0 0, .slice none 0 0, .slice (some ⟨g8, 0, none⟩) 6 c8] from rfl] at hF9
            have hS9 : Sees w9 w9.heap.size (some ⟨g8, 0, none⟩) (jcs (tyC x y z)) := by
              have h8 : OwnJ w7.heap.size w8 (some ⟨g8, 0, none⟩) 6 c8 (tyC x y z) := OwnJ.lower (base := (w7.alloc (.cells (jcs [⟨17, 0, 0, 0⟩, ⟨22, 0, 0, 0⟩]).toArray 53 (0, 0))).heap.size) (by rw [HO15.out] at hown8; exact hown8) (by simp)
              exact (h8.other (g := bc) hC7.lt_size hk9).sees
            have hcap8 : 6 ≤ c8 ∧ c8 ≤ maxLen := OwnJ.cap (base := (w7.alloc (.cells (jcs [⟨17, 0, 0, 0⟩, ⟨22, 0, 0, 0⟩]).toArray 53 (0, 0))).heap.size) (w := w8) (A := some ⟨g8, 0, none⟩) (l := tyC x y z) (by rw [HO15.out] at hown8; exact hown8)
            have hck := HCK.out g8 c8 w9 hS9 hcap8
            have hB9 := Below.then_ hBw2 hB29)
        | (with_reducible refine wpList_load (o := ⟨some 94, _, _, _, _, _⟩) rfl (.tmp 14) 26 rfl bc 0 _ rfl [.string ⟨#[112]⟩, .slice none 0 0, .slice none 0 0, .slice (some ⟨g8, 0, none⟩) 6 c8] 4 rfl aggCode hF9.sees ?_)
        | (go_at_call 33; with_reducible refine hck.mono ?_; (rintro e w10 ⟨rfl, hB10⟩; have hB56 := Below.then_ hB9 hB10))
        | (go_at_call 28; refine (quit _ hB56).mono ?_; rintro e wz ⟨rfl, hBz⟩))
      go_ret
      exact ⟨rfl, hBz⟩
  · have hc : ((cv : Int) == 0) = p1 := by
      rw [beq_iff_eq, Bool.true_and] at hall
      rw [← hall, Bool.eq_iff_iff]; simp
    clear hall
    cases p1
    · go_enter Try.func9, Try.ntmps9
      go_wp2_with (first
        | (with_reducible refine wpList_alloc (o := ⟨some 12, _, _, _, _, _⟩) rfl 68 rfl (cb (List.replicate 11 0)) zero11 11 rfl (by decide) ?_; intro bo w1 hgw1 hFw1 hBw1)
        | (
            with_reducible refine wpList_store rfl rfl (.tmp 12) (.tmp 25) 68 rfl bo 0 w.heap.size 68 11 (cb (List.replicate 11 0)) (cb opsL) ?_ ?_ 11 ?_ ?_ ?_ ?_ ?_ w ?_ ?_ ?_
            · rfl
            · rfl
            · rfl
            · exact agg11
            · exact hFw1
            · omega
            · exact cb_one _
            · exact hBw1
            · exact hgw1
            intro w2 hFw2 hBw2 hkw2 hsw2
            rw [show splice (cb (List.replicate 11 0)) 0 (cb opsL) = cb opsL from rfl] at hFw2; have co := hFw2.cell_ (k := s) (u := .int .u8 (o : Int)) HS.out)
        | (go_at_call 36; refine (prog_any (some ⟨w2.heap.size, 0, none⟩) 5 5 _).mono ?_; (rintro e w3 ⟨rfl, hBp⟩; have hF3 := (Fresh.new w2 53 [.int .u8 1, .int .u8 (x : Int), .int .i64 0, .int .i64 0, .int .u8 1, .int .u8 (y : Int), .int .i64 0, .int .i64 0, .int .u8 (o : Int), .int .u8 (z : Int), .int .i64 0, .int .i64 0, .int .u8 17, .int .u8 0, .int .i64 0, .int .i64 0, .int .u8 22, .int .u8 0, .int .i64 0, .int .i64 0] 20 rfl (by decide)).below hBp; have hB23 := Below.then_ (below_alloc w2 (.cells [.int .u8 1, .int .u8 (x : Int), .int .i64 0, .int .i64 0, .int .u8 1, .int .u8 (y : Int), .int .i64 0, .int .i64 0, .int .u8 (o : Int), .int .u8 (z : Int), .int .i64 0, .int .i64 0, .int .u8 17, .int .u8 0, .int .i64 0, .int .i64 0, .int .u8 22, .int .u8 0, .int .i64 0, .int .i64 0].toArray 53 (0, 0))) hBp; have hB3 := Below.then_ hBw2 (Below.then_ (below_alloc _ _) hBp); obtain ⟨gj, hgj⟩ : ∃ gj, w2.heap.size = gj := ⟨_, rfl⟩; have hgle := Nat.le_of_eq hgj; rw [hgj] at hF3 ⊢; have hgj3 := hF3.lt_size; have hS3 : Sees w3 w3.heap.size (some ⟨gj, 0, none⟩) (jcs (tyJ o x y z)) := hF3.sees))
        | (with_reducible refine wpList_alloc (o := ⟨some 14, _, _, _, _, _⟩) rfl 26 rfl noC zeroC 4 rfl (by decide) ?_; intro bc w4 hgw4 hFw4 hBw4)
        | (
            with_reducible refine wpList_store rfl rfl (.tmp 14) (.tmp 40) 26 rfl bc 0 w3.heap.size 26 4 noC [.string ⟨#[112]⟩, .slice none 0 0, .slice none 0 0, .slice (some ⟨gj, 0, none⟩) 5 5] ?_ ?_ 4 ?_ ?_ ?_ ?_ ?_ w3 ?_ ?_ ?_
            · rfl
            · rfl
            · rfl
            · exact aggCode
            · exact hFw4
            · omega
            · exact cd1 _ _ _ _ _ _ _ _ _ _
            · exact hBw4
            · exact hgw4
            intro w5 hFw5 hBw5 hkw5 hsw5
            rw [show splice noC 0 [.string ⟨#[112]⟩, .slice none 0 0, .slice none 0 0, .slice (some ⟨gj, 0, none⟩) 5 5] = [.string ⟨#[112]⟩, .slice none 0 0, .slice none 0 0, .slice (some ⟨gj, 0, none⟩) 5 5] from rfl] at hFw5; have hB5 := Below.then_ hB3 hBw5; have hS5 := hS3.step hBw5; have hF5 := hF3.below hBw5; have hB25 := Below.then_ hB23 hBw5; have hbc2 : w2.heap.size ≤ bc := Nat.le_trans hB23.size hgw4; have hne : bc ≠ gj := (fun e => by omega); have u3 := hFw5.cell_ (k := 3) (u := .slice (some ⟨gj, 0, none⟩) 5 5) rfl)
        | (
            with_reducible refine wpList_store1 rfl rfl (.tmp 57) (.tmp 55) 3 rfl gj 10 gj 53 20 [.int .u8 1, .int .u8 (x : Int), .int .i64 0, .int .i64 0, .int .u8 1, .int .u8 (y : Int), .int .i64 0, .int .i64 0, .int .u8 (o : Int), .int .u8 (z : Int), .int .i64 0, .int .i64 0, .int .u8 17, .int .u8 0, .int .i64 0, .int .i64 0, .int .u8 22, .int .u8 0, .int .i64 0, .int .i64 0] (.int .i64 (x : Int)) ?_ ?_ ?_ ?_ ?_ ?_ ?_ w2 ?_ ?_ ?_
            · rfl
            · rfl
            · rfl
            · rfl
            · kernel_rfl
            · exact hF5
            · omega
            · exact hB25
            · exact hgle
            intro w6 hF6 hB26 hk6 hs6
            rw [show ([.int .u8 1, .int .u8 (x : Int), .int .i64 0, .int .i64 0, .int .u8 1, .int .u8 (y : Int), .int .i64 0, .int .i64 0, .int .u8 (o : Int), .int .u8 (z : Int), .int .i64 0, .int .i64 0, .int .u8 17, .int .u8 0, .int .i64 0, .int .i64 0, .int .u8 22, .int .u8 0, .int .i64 0, .int .i64 0] : List Value).set 10 (.int .i64 (x : Int)) = [.int .u8 1, .int .u8 (x : Int), .int .i64 0, .int .i64 0, .int .u8 1, .int .u8 (y : Int), .int .i64 0, .int .i64 0, .int .u8 (o : Int), .int .u8 (z : Int), .int .i64 (x : Int), .int .i64 0, .int .u8 17, .int .u8 0, .int .i64 0, .int .i64 0, .int .u8 22, .int .u8 0, .int .i64 0, .int .i64 0] from rfl] at hF6
            have hC6 := hFw5.other hne hk6
            have u3 := hC6.cell_ (k := 3) (u := .slice (some ⟨gj, 0, none⟩) 5 5) rfl)
        | (
            with_reducible refine wpList_store rfl rfl (.tmp 62) (.tmp 61) 53 rfl gj 12 gj 53 20 [.int .u8 1, .int .u8 (x : Int), .int .i64 0, .int .i64 0, .int .u8 1, .int .u8 (y : Int), .int .i64 0, .int .i64 0, .int .u8 (o : Int), .int .u8 (z : Int), .int .i64 (x : Int), .int .i64 0, .int .u8 17, .int .u8 0, .int .i64 0, .int .i64 0, .int .u8 22, .int .u8 0, .int .i64 0, .int .i64 0] [.int .u8 13, .int .u8 (x : Int), .int .i64 0, .int .i64 0] ?_ ?_ 4 ?_ ?_ ?_ ?_ ?_ w2 ?_ ?_ ?_
            · rfl
            · rfl
            · rfl
            · exact aggIns
            · exact hF6
            · omega
            · exact fours _
            · exact hB26
            · exact hgle
            intro w7 hF7 hB27 hk7 hs7
            rw [show splice ([.int .u8 1, .int .u8 (x : Int), .int .i64 0, .int .i64 0, .int .u8 1, .int .u8 (y : Int), .int .i64 0, .int .i64 0, .int .u8 (o : Int), .int .u8 (z : Int), .int .i64 (x : Int), .int .i64 0, .int .u8 17, .int .u8 0, .int .i64 0, .int .i64 0, .int .u8 22, .int .u8 0, .int .i64 0, .int .i64 0] : List Value) 12 ([.int .u8 13, .int .u8 (x : Int), .int .i64 0, .int .i64 0] : List Value) = ([.int .u8 1, .int .u8 (x : Int), .int .i64 0, .int .i64 0, .int .u8 1, .int .u8 (y : Int), .int .i64 0, .int .i64 0, .int .u8 (o : Int), .int .u8 (z : Int), .int .i64 (x : Int), .int .i64 0, .int .u8 13, .int .u8 (x : Int), .int .i64 0, .int .i64 0, .int .u8 22, .int .u8 0, .int .i64 0, .int .i64 0] : List Value) from rfl] at hF7
            have hC7 := hC6.other hne hk7
            have u3 := hC7.cell_ (k := 3) (u := .slice (some ⟨gj, 0, none⟩) 5 5) rfl
            have hcut := run_cut44 gj)
        | (
            at_builtin
            obtain ⟨g8, c8, w8, hr8, hown8, hB78⟩ := run_app42 (w7.alloc (.cells (jcs [⟨17, 0, 0, 0⟩, ⟨22, 0, 0, 0⟩]).toArray 53 (0, 0))) 24 gj w7.heap.size ([.int .u8 1, .int .u8 (x : Int), .int .i64 0, .int .i64 0, .int .u8 1, .int .u8 (y : Int), .int .i64 0, .int .i64 0, .int .u8 (o : Int), .int .u8 (z : Int), .int .i64 (x : Int), .int .i64 0, .int .u8 13, .int .u8 (x : Int), .int .i64 0, .int .i64 0, .int .u8 22, .int .u8 0, .int .i64 0, .int .i64 0].take 16) (jcs [⟨17, 0, 0, 0⟩, ⟨22, 0, 0, 0⟩]) rfl rfl (fun j u hj => (hF7.below (below_alloc _ _)).cell_ (by rw [List.getElem?_take] at hj; split at hj; exact hj; cases hj)) (fun j u hj => by rw [World.cell?_alloc_mark]; simpa using hj)
            refine Lib.wpList_append_run _ rfl _ _ _ _ rfl _ _ rfl rfl _ _ hr8 ?_
            have hB28 := Below.then_ hB27 (Below.then_ (below_alloc _ _) hB78)
            have hC8 := hC7.below (Below.then_ (below_alloc _ _) hB78))
        | (
            with_reducible refine wpList_store1 rfl rfl (.tmp 70) (.tmp 69) 24 rfl bc 3 w3.heap.size 26 4 [.string ⟨#[112]⟩, .slice none 0 0, .slice none 0 0, .slice (some ⟨gj, 0, none⟩) 5 5] (.slice (some ⟨g8, 0, none⟩) 6 c8) ?_ ?_ ?_ ?_ ?_ ?_ ?_ w2 ?_ ?_ ?_
            · rfl
            · rfl
            · rfl
            · rfl
            · kernel_rfl
            · exact hC8
            · omega
            · exact hB28
            · exact hbc2
            intro w9 hF9 hB29 hk9 hs9
            rw [show ([.string ⟨#[112]⟩, .slice none 0 0, .slice none 0 0, .slice (some ⟨gj, 0, none⟩) 5 5] : List Value).set 3 (.slice (some ⟨g8, 0, none⟩) 6 c8) = [.string ⟨#[112]⟩, .slice none 0 0, .slice none 0 0, .slice (some ⟨g8, 0, none⟩) 6 c8] from rfl] at hF9
            have hS9 : Sees w9 w9.heap.size (some ⟨g8, 0, none⟩) (jcs (tyC x y z)) := by
              have h8 : OwnJ w7.heap.size w8 (some ⟨g8, 0, none⟩) 6 c8 (tyC x y z) := OwnJ.lower (base := (w7.alloc (.cells (jcs [⟨17, 0, 0, 0⟩, ⟨22, 0, 0, 0⟩]).toArray 53 (0, 0))).heap.size) (by rw [HO15.out] at hown8; exact hown8) (by simp)
              exact (h8.other (g := bc) hC7.lt_size hk9).sees
            have hcap8 : 6 ≤ c8 ∧ c8 ≤ maxLen := OwnJ.cap (base := (w7.alloc (.cells (jcs [⟨17, 0, 0, 0⟩, ⟨22, 0, 0, 0⟩]).toArray 53 (0, 0))).heap.size) (w := w8) (A := some ⟨g8, 0, none⟩) (l := tyC x y z) (by rw [HO15.out] at hown8; exact hown8)
            have hck := HCK.out g8 c8 w9 hS9 hcap8
            have hB9 := Below.then_ hBw2 hB29)
        | (with_reducible refine wpList_load (o := ⟨some 94, _, _, _, _, _⟩) rfl (.tmp 14) 26 rfl bc 0 _ rfl [.string ⟨#[112]⟩, .slice none 0 0, .slice none 0 0, .slice (some ⟨g8, 0, none⟩) 6 c8] 4 rfl aggCode hF9.sees ?_)
        | (go_at_call 33; with_reducible refine hck.mono ?_; (rintro e w10 ⟨rfl, hB10⟩; have hB56 := Below.then_ hB9 hB10))
        | (go_at_call 28; refine (quit _ hB56).mono ?_; rintro e wz ⟨rfl, hBz⟩))
      go_ret
      exact ⟨rfl, hBz⟩
    · go_enter Try.func9, Try.ntmps9
      go_wp2_with (first
        | (with_reducible refine wpList_alloc (o := ⟨some 12, _, _, _, _, _⟩) rfl 68 rfl (cb (List.replicate 11 0)) zero11 11 rfl (by decide) ?_; intro bo w1 hgw1 hFw1 hBw1)
        | (
            with_reducible refine wpList_store rfl rfl (.tmp 12) (.tmp 25) 68 rfl bo 0 w.heap.size 68 11 (cb (List.replicate 11 0)) (cb opsL) ?_ ?_ 11 ?_ ?_ ?_ ?_ ?_ w ?_ ?_ ?_
            · rfl
            · rfl
            · rfl
            · exact agg11
            · exact hFw1
            · omega
            · exact cb_one _
            · exact hBw1
            · exact hgw1
            intro w2 hFw2 hBw2 hkw2 hsw2
            rw [show splice (cb (List.replicate 11 0)) 0 (cb opsL) = cb opsL from rfl] at hFw2; have co := hFw2.cell_ (k := s) (u := .int .u8 (o : Int)) HS.out)
        | (go_at_call 36; refine (prog_any (some ⟨w2.heap.size, 0, none⟩) 5 5 _).mono ?_; (rintro e w3 ⟨rfl, hBp⟩; have hF3 := (Fresh.new w2 53 [.int .u8 1, .int .u8 (x : Int), .int .i64 0, .int .i64 0, .int .u8 1, .int .u8 (y : Int), .int .i64 0, .int .i64 0, .int .u8 (o : Int), .int .u8 (z : Int), .int .i64 0, .int .i64 0, .int .u8 17, .int .u8 0, .int .i64 0, .int .i64 0, .int .u8 22, .int .u8 0, .int .i64 0, .int .i64 0] 20 rfl (by decide)).below hBp; have hB23 := Below.then_ (below_alloc w2 (.cells [.int .u8 1, .int .u8 (x : Int), .int .i64 0, .int .i64 0, .int .u8 1, .int .u8 (y : Int), .int .i64 0, .int .i64 0, .int .u8 (o : Int), .int .u8 (z : Int), .int .i64 0, .int .i64 0, .int .u8 17, .int .u8 0, .int .i64 0, .int .i64 0, .int .u8 22, .int .u8 0, .int .i64 0, .int .i64 0].toArray 53 (0, 0))) hBp; have hB3 := Below.then_ hBw2 (Below.then_ (below_alloc _ _) hBp); obtain ⟨gj, hgj⟩ : ∃ gj, w2.heap.size = gj := ⟨_, rfl⟩; have hgle := Nat.le_of_eq hgj; rw [hgj] at hF3 ⊢; have hgj3 := hF3.lt_size; have hS3 : Sees w3 w3.heap.size (some ⟨gj, 0, none⟩) (jcs (tyJ o x y z)) := hF3.sees))
        | (with_reducible refine wpList_alloc (o := ⟨some 14, _, _, _, _, _⟩) rfl 26 rfl noC zeroC 4 rfl (by decide) ?_; intro bc w4 hgw4 hFw4 hBw4)
        | (
            with_reducible refine wpList_store rfl rfl (.tmp 14) (.tmp 40) 26 rfl bc 0 w3.heap.size 26 4 noC [.string ⟨#[112]⟩, .slice none 0 0, .slice none 0 0, .slice (some ⟨gj, 0, none⟩) 5 5] ?_ ?_ 4 ?_ ?_ ?_ ?_ ?_ w3 ?_ ?_ ?_
            · rfl
            · rfl
            · rfl
            · exact aggCode
            · exact hFw4
            · omega
            · exact cd1 _ _ _ _ _ _ _ _ _ _
            · exact hBw4
            · exact hgw4
            intro w5 hFw5 hBw5 hkw5 hsw5
            rw [show splice noC 0 [.string ⟨#[112]⟩, .slice none 0 0, .slice none 0 0, .slice (some ⟨gj, 0, none⟩) 5 5] = [.string ⟨#[112]⟩, .slice none 0 0, .slice none 0 0, .slice (some ⟨gj, 0, none⟩) 5 5] from rfl] at hFw5; have hB5 := Below.then_ hB3 hBw5; have hS5 := hS3.step hBw5; have hF5 := hF3.below hBw5; have hB25 := Below.then_ hB23 hBw5; have hbc2 : w2.heap.size ≤ bc := Nat.le_trans hB23.size hgw4; have hne : bc ≠ gj := (fun e => by omega); have u3 := hFw5.cell_ (k := 3) (u := .slice (some ⟨gj, 0, none⟩) 5 5) rfl)
        | (
            with_reducible refine wpList_store1 rfl rfl (.tmp 57) (.tmp 55) 3 rfl gj 10 gj 53 20 [.int .u8 1, .int .u8 (x : Int), .int .i64 0, .int .i64 0, .int .u8 1, .int .u8 (y : Int), .int .i64 0, .int .i64 0, .int .u8 (o : Int), .int .u8 (z : Int), .int .i64 0, .int .i64 0, .int .u8 17, .int .u8 0, .int .i64 0, .int .i64 0, .int .u8 22, .int .u8 0, .int .i64 0, .int .i64 0] (.int .i64 (x : Int)) ?_ ?_ ?_ ?_ ?_ ?_ ?_ w2 ?_ ?_ ?_
            · rfl
            · rfl
            · rfl
            · rfl
            · kernel_rfl
            · exact hF5
            · omega
            · exact hB25
            · exact hgle
            intro w6 hF6 hB26 hk6 hs6
            rw [show ([.int .u8 1, .int .u8 (x : Int), .int .i64 0, .int .i64 0, .int .u8 1, .int .u8 (y : Int), .int .i64 0, .int .i64 0, .int .u8 (o : Int), .int .u8 (z : Int), .int .i64 0, .int .i64 0, .int .u8 17, .int .u8 0, .int .i64 0, .int .i64 0, .int .u8 22, .int .u8 0, .int .i64 0, .int .i64 0] : List Value).set 10 (.int .i64 (x : Int)) = [.int .u8 1, .int .u8 (x : Int), .int .i64 0, .int .i64 0, .int .u8 1, .int .u8 (y : Int), .int .i64 0, .int .i64 0, .int .u8 (o : Int), .int .u8 (z : Int), .int .i64 (x : Int), .int .i64 0, .int .u8 17, .int .u8 0, .int .i64 0, .int .i64 0, .int .u8 22, .int .u8 0, .int .i64 0, .int .i64 0] from rfl] at hF6
            have hC6 := hFw5.other hne hk6
            have u3 := hC6.cell_ (k := 3) (u := .slice (some ⟨gj, 0, none⟩) 5 5) rfl)
        | (
            with_reducible refine wpList_store rfl rfl (.tmp 62) (.tmp 61) 53 rfl gj 12 gj 53 20 [.int .u8 1, .int .u8 (x : Int), .int .i64 0, .int .i64 0, .int .u8 1, .int .u8 (y : Int), .int .i64 0, .int .i64 0, .int .u8 (o : Int), .int .u8 (z : Int), .int .i64 (x : Int), .int .i64 0, .int .u8 17, .int .u8 0, .int .i64 0, .int .i64 0, .int .u8 22, .int .u8 0, .int .i64 0, .int .i64 0] [.int .u8 13, .int .u8 (x : Int), .int .i64 0, .int .i64 0] ?_ ?_ 4 ?_ ?_ ?_ ?_ ?_ w2 ?_ ?_ ?_
            · rfl
            · rfl
            · rfl
            · exact aggIns
            · exact hF6
            · omega
            · exact fours _
            · exact hB26
            · exact hgle
            intro w7 hF7 hB27 hk7 hs7
            rw [show splice ([.int .u8 1, .int .u8 (x : Int), .int .i64 0, .int .i64 0, .int .u8 1, .int .u8 (y : Int), .int .i64 0, .int .i64 0, .int .u8 (o : Int), .int .u8 (z : Int), .int .i64 (x : Int), .int .i64 0, .int .u8 17, .int .u8 0, .int .i64 0, .int .i64 0, .int .u8 22, .int .u8 0, .int .i64 0, .int .i64 0] : List Value) 12 ([.int .u8 13, .int .u8 (x : Int), .int .i64 0, .int .i64 0] : List Value) = ([.int .u8 1, .int .u8 (x : Int), .int .i64 0, .int .i64 0, .int .u8 1, .int .u8 (y : Int), .int .i64 0, .int .i64 0, .int .u8 (o : Int), .int .u8 (z : Int), .int .i64 (x : Int), .int .i64 0, .int .u8 13, .int .u8 (x : Int), .int .i64 0, .int .i64 0, .int .u8 22, .int .u8 0, .int .i64 0, .int .i64 0] : List Value) from rfl] at hF7
            have hC7 := hC6.other hne hk7
            have u3 := hC7.cell_ (k := 3) (u := .slice (some ⟨gj, 0, none⟩) 5 5) rfl
            have hcut := run_cut44 gj)
        | (
            at_builtin
            obtain ⟨g8, c8, w8, hr8, hown8, hB78⟩ := run_app42 (w7.alloc (.cells (jcs [⟨17, 0, 0, 0⟩, ⟨22, 0, 0, 0⟩]).toArray 53 (0, 0))) 24 gj w7.heap.size ([.int .u8 1, .int .u8 (x : Int), .int .i64 0, .int .i64 0, .int .u8 1, .int .u8 (y : Int), .int .i64 0, .int .i64 0, .int .u8 (o : Int), .int .u8 (z : Int), .int .i64 (x : Int), .int .i64 0, .int .u8 13, .int .u8 (x : Int), .int .i64 0, .int .i64 0, .int .u8 22, .int .u8 0, .int .i64 0, .int .i64 0].take 16) (jcs [⟨17, 0, 0, 0⟩, ⟨22, 0, 0, 0⟩]) rfl rfl (fun j u hj => (hF7.below (below_alloc _ _)).cell_ (by rw [List.getElem?_take] at hj; split at hj; exact hj; cases hj)) (fun j u hj => by rw [World.cell?_alloc_mark]; simpa using hj)
            refine Lib.wpList_append_run _ rfl _ _ _ _ rfl _ _ rfl rfl _ _ hr8 ?_
            have hB28 := Below.then_ hB27 (Below.then_ (below_alloc _ _) hB78)
            have hC8 := hC7.below (Below.then_ (below_alloc _ _) hB78))
        | (
            with_reducible refine wpList_store1 rfl rfl (.tmp 70) (.tmp 69) 24 rfl bc 3 w3.heap.size 26 4 [.string ⟨#[112]⟩, .slice none 0 0, .slice none 0 0, .slice (some ⟨gj, 0, none⟩) 5 5] (.slice (some ⟨g8, 0, none⟩) 6 c8) ?_ ?_ ?_ ?_ ?_ ?_ ?_ w2 ?_ ?_ ?_
            · rfl
            · rfl
            · rfl
            · rfl
            · kernel_rfl
            · exact hC8
            · omega
            · exact hB28
            · exact hbc2
            intro w9 hF9 hB29 hk9 hs9
            rw [show ([.string ⟨#[112]⟩, .slice none 0 0, .slice none 0 0, .slice (some ⟨gj, 0, none⟩) 5 5] : List Value).set 3 (.slice (some ⟨g8, 0, none⟩) 6 c8) = [.string ⟨#[112]⟩, .slice none 0 0, .slice none 0 0, .slice (some ⟨g8, 0, none⟩) 6 c8] from rfl] at hF9
            have hS9 : Sees w9 w9.heap.size (some ⟨g8, 0, none⟩) (jcs (tyC x y z)) := by
              have h8 : OwnJ w7.heap.size w8 (some ⟨g8, 0, none⟩) 6 c8 (tyC x y z) := OwnJ.lower (base := (w7.alloc (.cells (jcs [⟨17, 0, 0, 0⟩, ⟨22, 0, 0, 0⟩]).toArray 53 (0, 0))).heap.size) (by rw [HO15.out] at hown8; exact hown8) (by simp)
              exact (h8.other (g := bc) hC7.lt_size hk9).sees
            have hcap8 : 6 ≤ c8 ∧ c8 ≤ maxLen := OwnJ.cap (base := (w7.alloc (.cells (jcs [⟨17, 0, 0, 0⟩, ⟨22, 0, 0, 0⟩]).toArray 53 (0, 0))).heap.size) (w := w8) (A := some ⟨g8, 0, none⟩) (l := tyC x y z) (by rw [HO15.out] at hown8; exact hown8)
            have hck := HCK.out g8 c8 w9 hS9 hcap8
            have hB9 := Below.then_ hBw2 hB29)
        | (with_reducible refine wpList_load (o := ⟨some 94, _, _, _, _, _⟩) rfl (.tmp 14) 26 rfl bc 0 _ rfl [.string ⟨#[112]⟩, .slice none 0 0, .slice none 0 0, .slice (some ⟨g8, 0, none⟩) 6 c8] 4 rfl aggCode hF9.sees ?_)
        | (go_at_call 33; with_reducible refine hck.mono ?_; (rintro e w10 ⟨rfl, hB10⟩; have hB56 := Below.then_ hB9 hB10))
        | (go_at_call 28; refine (quit _ hB56).mono ?_; rintro e wz ⟨rfl, hBz⟩))
      go_ret
      exact ⟨rfl, hBz⟩
set_option maxHeartbeats 8000000 in
set_option maxRecDepth 100000 in
theorem ty_wany (h : TyIn a b c d x y z s o) (hoe : o = 9 ∨ o = 10 ∨ o = 11 ∨ o = 13) :
    Calls Try.prog 9 #[.int .u8 (a : Int), .int .u8 (b : Int), .int .u8 (c : Int), .int .u8 (d : Int)] w fun e w' => e = .returned (.bool true) ∧ Below w.heap.size w w' := by
  have quit : ∀ wq, Below w.heap.size w wq → Calls Try.prog 28 #[] wq fun e w' => e = .returned (.bool true) ∧ Below w.heap.size w w' := fun wq hq => (awake14_any wq).mono (fun e w' h => ⟨h.1, Below.then_ hq h.2⟩)
  obtain ⟨x1, y1, z1, ex, ey, ez, es, s1, ho, o1⟩ := h
  obtain ⟨a1, ha1⟩ : ∃ a1, a % 5 = a1 := ⟨_, rfl⟩
  obtain ⟨b1, hb1⟩ : ∃ b1, b % 5 = b1 := ⟨_, rfl⟩
  obtain ⟨c1, hc1⟩ : ∃ c1, c % 5 = c1 := ⟨_, rfl⟩
  rw [ha1] at ex
  rw [hb1] at ey
  rw [hc1] at ez
  have f1 : (a : Int).tmod 5 = (a1 : Int) := by rw [Int.tmod_eq_emod_of_nonneg (by omega)]; omega
  have f2 : (a : Int) % 5 = (a1 : Int) := by omega
  have f3 : (1 : Int) + (a1 : Int) = (x : Int) := by omega
  have f4 : (b : Int).tmod 5 = (b1 : Int) := by rw [Int.tmod_eq_emod_of_nonneg (by omega)]; omega
  have f5 : (b : Int) % 5 = (b1 : Int) := by omega
  have f6 : (1 : Int) + (b1 : Int) = (y : Int) := by omega
  have f7 : (c : Int).tmod 5 = (c1 : Int) := by rw [Int.tmod_eq_emod_of_nonneg (by omega)]; omega
  have f8 : (c : Int) % 5 = (c1 : Int) := by omega
  have f9 : (1 : Int) + (c1 : Int) = (z : Int) := by omega
  have f10 : (d : Int).tmod 11 = (s : Int) := by rw [Int.tmod_eq_emod_of_nonneg (by omega)]; omega
  have f11 : (d : Int) % 11 = (s : Int) := by omega
  have g1 : IntKind.u8.wrap (x : Int) = (x : Int) := by rw [IntKind.wrap_u8]; omega
  have g2 : IntKind.u8.wrap (y : Int) = (y : Int) := by rw [IntKind.wrap_u8]; omega
  have g3 : IntKind.u8.wrap (z : Int) = (z : Int) := by rw [IntKind.wrap_u8]; omega
  have q1 : a1 < 5 := by omega
  have q2 : b1 < 5 := by omega
  have q3 : c1 < 5 := by omega
  have HS := Lib.hid ho
  have HO : Hid (o < 256) := Lib.hid o1
  clear ex ey ez es ho ha1 hb1 hc1
  have hok : ∀ j ∈ tyJ o x y z, j.Ok := by
    have := HO.out
    intro j hj
    simp only [tyJ, List.mem_cons, List.not_mem_nil, or_false] at hj
    rcases hj with rfl | rfl | rfl | rfl | rfl
    all_goals exact ⟨by simp; try omega, by simp; try omega, by simp, by simp⟩
  obtain ⟨cv, hcv⟩ : ∃ cv, checkF (tyP (tyJ o x y z)) 9 = cv := ⟨_, rfl⟩
  have hck : ∀ (g : Nat) (w' : World), Sees w' w'.heap.size (some ⟨g, 0, none⟩) (jcs (tyJ o x y z)) → Calls Try.prog 33 #[.agg #[.string ⟨#[112]⟩, .slice none 0 0, .slice none 0 0, .slice (some ⟨g, 0, none⟩) 5 5], .int .i64 9] w' fun e w2 => e = .returned (.int .i64 (cv : Int)) ∧ Below w'.heap.size w' w2 := fun g w' hs => check_is 9 cv hcv hs rfl hok (by simp [maxLen])
  have HCK := Lib.hid hck
  obtain ⟨p1, hp1⟩ : ∃ p1, ((x : Int) == (z : Int)) = p1 := ⟨_, rfl⟩
  obtain ⟨p2, hp2⟩ : ∃ p2, ((y : Int) == (z : Int)) = p2 := ⟨_, rfl⟩
  have r1 : (x == z) = p1 := by rw [← hp1, Bool.eq_iff_iff]; simp; omega
  have r2 : (y == z) = p2 := by rw [← hp2, Bool.eq_iff_iff]; simp; omega
  have k15 : ((o : Int) == 15) = false := by simp; omega
  have k4 : ((o : Int) == 4) = false := by simp; omega
  have k5 : ((o : Int) == 5) = false := by simp; omega
  have k6 : ((o : Int) == 6) = false := by simp; omega
  have k7 : ((o : Int) == 7) = false := by simp; omega
  have k8 : ((o : Int) == 8) = false := by simp; omega
  have k14 : ((o : Int) == 14) = false := by simp; omega
  have hall := List.all_eq_true.1 (List.all_eq_true.1 (List.all_eq_true.1 (List.all_eq_true.1 ty_any o (by simp; omega)) x (five_mem x1)) y (five_mem y1)) z (five_mem z1)
  rw [hcv, r1, r2] at hall
  clear hoe hcv hck hok r1 r2
  cases p1
  · have hc : ((cv : Int) == 0) = false := by
      rw [beq_iff_eq, Bool.false_and] at hall
      rw [← hall, Bool.eq_iff_iff]; simp
    clear hall
    go_enter Try.func9, Try.ntmps9
    go_wp2_with (first
      | (with_reducible refine wpList_alloc (o := ⟨some 12, _, _, _, _, _⟩) rfl 68 rfl (cb (List.replicate 11 0)) zero11 11 rfl (by decide) ?_; intro bo w1 hgw1 hFw1 hBw1)
      | (
          with_reducible refine wpList_store rfl rfl (.tmp 12) (.tmp 25) 68 rfl bo 0 w.heap.size 68 11 (cb (List.replicate 11 0)) (cb opsL) ?_ ?_ 11 ?_ ?_ ?_ ?_ ?_ w ?_ ?_ ?_
          · rfl
          · rfl
          · rfl
          · exact agg11
          · exact hFw1
          · omega
          · exact cb_one _
          · exact hBw1
          · exact hgw1
          intro w2 hFw2 hBw2 hkw2 hsw2
          rw [show splice (cb (List.replicate 11 0)) 0 (cb opsL) = cb opsL from rfl] at hFw2; have co := hFw2.cell_ (k := s) (u := .int .u8 (o : Int)) HS.out)
      | (go_at_call 36; refine (prog_any (some ⟨w2.heap.size, 0, none⟩) 5 5 _).mono ?_; (rintro e w3 ⟨rfl, hBp⟩; have hF3 := (Fresh.new w2 53 [.int .u8 1, .int .u8 (x : Int), .int .i64 0, .int .i64 0, .int .u8 1, .int .u8 (y : Int), .int .i64 0, .int .i64 0, .int .u8 (o : Int), .int .u8 (z : Int), .int .i64 0, .int .i64 0, .int .u8 17, .int .u8 0, .int .i64 0, .int .i64 0, .int .u8 22, .int .u8 0, .int .i64 0, .int .i64 0] 20 rfl (by decide)).below hBp; have hB3 := Below.then_ hBw2 (Below.then_ (below_alloc _ _) hBp); obtain ⟨gj, hgj⟩ : ∃ gj, w2.heap.size = gj := ⟨_, rfl⟩; rw [hgj] at hF3 ⊢; have hgj3 := hF3.lt_size; have hS3 : Sees w3 w3.heap.size (some ⟨gj, 0, none⟩) (jcs (tyJ o x y z)) := hF3.sees))
      | (with_reducible refine wpList_alloc (o := ⟨some 14, _, _, _, _, _⟩) rfl 26 rfl noC zeroC 4 rfl (by decide) ?_; intro bc w4 hgw4 hFw4 hBw4)
      | (
          with_reducible refine wpList_store rfl rfl (.tmp 14) (.tmp 40) 26 rfl bc 0 w3.heap.size 26 4 noC [.string ⟨#[112]⟩, .slice none 0 0, .slice none 0 0, .slice (some ⟨gj, 0, none⟩) 5 5] ?_ ?_ 4 ?_ ?_ ?_ ?_ ?_ w3 ?_ ?_ ?_
          · rfl
          · rfl
          · rfl
          · exact aggCode
          · exact hFw4
          · omega
          · exact cd1 _ _ _ _ _ _ _ _ _ _
          · exact hBw4
          · exact hgw4
          intro w5 hFw5 hBw5 hkw5 hsw5
          rw [show splice noC 0 [.string ⟨#[112]⟩, .slice none 0 0, .slice none 0 0, .slice (some ⟨gj, 0, none⟩) 5 5] = [.string ⟨#[112]⟩, .slice none 0 0, .slice none 0 0, .slice (some ⟨gj, 0, none⟩) 5 5] from rfl] at hFw5; have hB5 := Below.then_ hB3 hBw5; have hS5 := hS3.step hBw5; have hF5 := hF3.below hBw5)
      | (with_reducible refine wpList_load (o := ⟨some 88, _, _, _, _, _⟩) rfl (.tmp 14) 26 rfl bc 0 _ rfl [.string ⟨#[112]⟩, .slice none 0 0, .slice none 0 0, .slice (some ⟨gj, 0, none⟩) 5 5] 4 rfl aggCode hFw5.sees ?_)
      | (with_reducible refine wpList_load (o := ⟨some 94, _, _, _, _, _⟩) rfl (.tmp 14) 26 rfl bc 0 _ rfl [.string ⟨#[112]⟩, .slice none 0 0, .slice none 0 0, .slice (some ⟨gj, 0, none⟩) 5 5] 4 rfl aggCode hFw5.sees ?_)
      | (go_at_call 33; with_reducible refine (HCK.out gj _ hS5).mono ?_; (rintro e w6 ⟨rfl, hB6⟩; have hB56 := Below.then_ hB5 hB6))
      | (go_at_call 28; refine (quit _ hB56).mono ?_; rintro e wz ⟨rfl, hBz⟩))
    go_ret
    exact ⟨rfl, hBz⟩
  · have hc : ((cv : Int) == 0) = p2 := by
      rw [beq_iff_eq, Bool.true_and] at hall
      rw [← hall, Bool.eq_iff_iff]; simp
    clear hall
    go_enter Try.func9, Try.ntmps9
    go_wp2_with (first
      | (with_reducible refine wpList_alloc (o := ⟨some 12, _, _, _, _, _⟩) rfl 68 rfl (cb (List.replicate 11 0)) zero11 11 rfl (by decide) ?_; intro bo w1 hgw1 hFw1 hBw1)
      | (
          with_reducible refine wpList_store rfl rfl (.tmp 12) (.tmp 25) 68 rfl bo 0 w.heap.size 68 11 (cb (List.replicate 11 0)) (cb opsL) ?_ ?_ 11 ?_ ?_ ?_ ?_ ?_ w ?_ ?_ ?_
          · rfl
          · rfl
          · rfl
          · exact agg11
          · exact hFw1
          · omega
          · exact cb_one _
          · exact hBw1
          · exact hgw1
          intro w2 hFw2 hBw2 hkw2 hsw2
          rw [show splice (cb (List.replicate 11 0)) 0 (cb opsL) = cb opsL from rfl] at hFw2; have co := hFw2.cell_ (k := s) (u := .int .u8 (o : Int)) HS.out)
      | (go_at_call 36; refine (prog_any (some ⟨w2.heap.size, 0, none⟩) 5 5 _).mono ?_; (rintro e w3 ⟨rfl, hBp⟩; have hF3 := (Fresh.new w2 53 [.int .u8 1, .int .u8 (x : Int), .int .i64 0, .int .i64 0, .int .u8 1, .int .u8 (y : Int), .int .i64 0, .int .i64 0, .int .u8 (o : Int), .int .u8 (z : Int), .int .i64 0, .int .i64 0, .int .u8 17, .int .u8 0, .int .i64 0, .int .i64 0, .int .u8 22, .int .u8 0, .int .i64 0, .int .i64 0] 20 rfl (by decide)).below hBp; have hB3 := Below.then_ hBw2 (Below.then_ (below_alloc _ _) hBp); obtain ⟨gj, hgj⟩ : ∃ gj, w2.heap.size = gj := ⟨_, rfl⟩; rw [hgj] at hF3 ⊢; have hgj3 := hF3.lt_size; have hS3 : Sees w3 w3.heap.size (some ⟨gj, 0, none⟩) (jcs (tyJ o x y z)) := hF3.sees))
      | (with_reducible refine wpList_alloc (o := ⟨some 14, _, _, _, _, _⟩) rfl 26 rfl noC zeroC 4 rfl (by decide) ?_; intro bc w4 hgw4 hFw4 hBw4)
      | (
          with_reducible refine wpList_store rfl rfl (.tmp 14) (.tmp 40) 26 rfl bc 0 w3.heap.size 26 4 noC [.string ⟨#[112]⟩, .slice none 0 0, .slice none 0 0, .slice (some ⟨gj, 0, none⟩) 5 5] ?_ ?_ 4 ?_ ?_ ?_ ?_ ?_ w3 ?_ ?_ ?_
          · rfl
          · rfl
          · rfl
          · exact aggCode
          · exact hFw4
          · omega
          · exact cd1 _ _ _ _ _ _ _ _ _ _
          · exact hBw4
          · exact hgw4
          intro w5 hFw5 hBw5 hkw5 hsw5
          rw [show splice noC 0 [.string ⟨#[112]⟩, .slice none 0 0, .slice none 0 0, .slice (some ⟨gj, 0, none⟩) 5 5] = [.string ⟨#[112]⟩, .slice none 0 0, .slice none 0 0, .slice (some ⟨gj, 0, none⟩) 5 5] from rfl] at hFw5; have hB5 := Below.then_ hB3 hBw5; have hS5 := hS3.step hBw5; have hF5 := hF3.below hBw5)
      | (with_reducible refine wpList_load (o := ⟨some 88, _, _, _, _, _⟩) rfl (.tmp 14) 26 rfl bc 0 _ rfl [.string ⟨#[112]⟩, .slice none 0 0, .slice none 0 0, .slice (some ⟨gj, 0, none⟩) 5 5] 4 rfl aggCode hFw5.sees ?_)
      | (with_reducible refine wpList_load (o := ⟨some 94, _, _, _, _, _⟩) rfl (.tmp 14) 26 rfl bc 0 _ rfl [.string ⟨#[112]⟩, .slice none 0 0, .slice none 0 0, .slice (some ⟨gj, 0, none⟩) 5 5] 4 rfl aggCode hFw5.sees ?_)
      | (go_at_call 33; with_reducible refine (HCK.out gj _ hS5).mono ?_; (rintro e w6 ⟨rfl, hB6⟩; have hB56 := Below.then_ hB5 hB6))
      | (go_at_call 28; refine (quit _ hB56).mono ?_; rintro e wz ⟨rfl, hBz⟩))
    go_ret
    exact ⟨rfl, hBz⟩
end
end Go.Proofs.Ytangblcfdboghaa
