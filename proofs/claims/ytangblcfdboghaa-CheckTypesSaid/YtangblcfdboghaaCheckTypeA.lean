/-
  A line of pushes and signs: signs of whole numbers.
-/
import Derived.Test.YtangblcfdboghaaCheckTypeIn
namespace Go.Proofs.Ytangblcfdboghaa
open Go.RowKit
set_option linter.unusedVariables false
set_option linter.constructorNameAsVariable false

section
variable {w : World} {a b c d x y z s o : Nat}
set_option maxHeartbeats 8000000 in
set_option maxRecDepth 100000 in
theorem ty_w4 (h : TyIn a b c d x y z s o) (hoe : o = 4) :
    Calls Try.prog 9 #[.int .u8 (a : Int), .int .u8 (b : Int), .int .u8 (c : Int), .int .u8 (d : Int)] w fun e w' => e = .returned (.bool true) ∧ Below w.heap.size w w' := by
  have quit : ∀ wq, Below w.heap.size w wq → Calls Try.prog 28 #[] wq fun e w' => e = .returned (.bool true) ∧ Below w.heap.size w w' := fun wq hq => (awake14_any wq).mono (fun e w' h => ⟨h.1, Below.then_ hq h.2⟩)
  obtain ⟨x1, y1, z1, ex, ey, ez, es, s1, ho, o1⟩ := h
  obtain ⟨a1, ha1⟩ : ∃ a1, a % 5 = a1 := ⟨_, rfl⟩
  obtain ⟨b1, hb1⟩ : ∃ b1, b % 5 = b1 := ⟨_, rfl⟩
  obtain ⟨c1, hc1⟩ : ∃ c1, c % 5 = c1 := ⟨_, rfl⟩
  rw [ha1] at ex
  rw [hb1] at ey
  rw [hc1] at ez
  have f1 : (a : Int).tmod 5 = (a1 : Int) := by rw [Int.tmod_eq_emod_of_nonneg (by omega)]; omega
  have f2 : (a : Int) % 5 = (a1 : Int) := by omega
  have f3 : (1 : Int) + (a1 : Int) = (x : Int) := by omega
  have f4 : (b : Int).tmod 5 = (b1 : Int) := by rw [Int.tmod_eq_emod_of_nonneg (by omega)]; omega
  have f5 : (b : Int) % 5 = (b1 : Int) := by omega
  have f6 : (1 : Int) + (b1 : Int) = (y : Int) := by omega
  have f7 : (c : Int).tmod 5 = (c1 : Int) := by rw [Int.tmod_eq_emod_of_nonneg (by omega)]; omega
  have f8 : (c : Int) % 5 = (c1 : Int) := by omega
  have f9 : (1 : Int) + (c1 : Int) = (z : Int) := by omega
  have f10 : (d : Int).tmod 11 = (s : Int) := by rw [Int.tmod_eq_emod_of_nonneg (by omega)]; omega
  have f11 : (d : Int) % 11 = (s : Int) := by omega
  have g1 : IntKind.u8.wrap (x : Int) = (x : Int) := by rw [IntKind.wrap_u8]; omega
  have g2 : IntKind.u8.wrap (y : Int) = (y : Int) := by rw [IntKind.wrap_u8]; omega
  have g3 : IntKind.u8.wrap (z : Int) = (z : Int) := by rw [IntKind.wrap_u8]; omega
  have q1 : a1 < 5 := by omega
  have q2 : b1 < 5 := by omega
  have q3 : c1 < 5 := by omega
  have HS := Lib.hid ho
  have HO : Hid (o < 256) := Lib.hid o1
  clear ex ey ez es ho ha1 hb1 hc1
  have hok : ∀ j ∈ tyJ o x y z, j.Ok := by
    have := HO.out
    intro j hj
    simp only [tyJ, List.mem_cons, List.not_mem_nil, or_false] at hj
    rcases hj with rfl | rfl | rfl | rfl | rfl
    all_goals exact ⟨by simp; try omega, by simp; try omega, by simp, by simp⟩
  obtain ⟨cv, hcv⟩ : ∃ cv, checkF (tyP (tyJ o x y z)) 9 = cv := ⟨_, rfl⟩
  have hck : ∀ (g : Nat) (w' : World), Sees w' w'.heap.size (some ⟨g, 0, none⟩) (jcs (tyJ o x y z)) → Calls Try.prog 33 #[.agg #[.string ⟨#[112]⟩, .slice none 0 0, .slice none 0 0, .slice (some ⟨g, 0, none⟩) 5 5], .int .i64 9] w' fun e w2 => e = .returned (.int .i64 (cv : Int)) ∧ Below w'.heap.size w' w2 := fun g w' hs => check_is 9 cv hcv hs rfl hok (by simp [maxLen])
  have HCK := Lib.hid hck
  obtain ⟨p1, hp1⟩ : ∃ p1, ((x : Int) == (z : Int)) = p1 := ⟨_, rfl⟩
  obtain ⟨p2, hp2⟩ : ∃ p2, ((y : Int) == (z : Int)) = p2 := ⟨_, rfl⟩
  have r1 : (x == z) = p1 := by rw [← hp1, Bool.eq_iff_iff]; simp; omega
  have r2 : (y == z) = p2 := by rw [← hp2, Bool.eq_iff_iff]; simp; omega
  have k15 : ((o : Int) == 15) = false := by simp; omega
  have k4 : ((o : Int) == 4) = true := by simp; omega
  have k5 : ((o : Int) == 5) = false := by simp; omega
  have k6 : ((o : Int) == 6) = false := by simp; omega
  have k7 : ((o : Int) == 7) = false := by simp; omega
  have k8 : ((o : Int) == 8) = false := by simp; omega
  have k14 : ((o : Int) == 14) = false := by simp; omega
  have hall := List.all_eq_true.1 (List.all_eq_true.1 (List.all_eq_true.1 (List.all_eq_true.1 ty_whole o (by rw [hoe]; decide)) x (five_mem x1)) y (five_mem y1)) z (five_mem z1)
  rw [hcv, r1, r2] at hall
  clear hoe hcv hck hok r1 r2
  by_cases hz : z = 1
  · rw [if_pos hz] at hall
    have kz : ((z : Int) == 1) = true := by simp; omega
    have hc : ((cv : Int) == 130) = true := by simp at hall ⊢; omega
    clear hall hz
    cases p1
    · go_enter Try.func9, Try.ntmps9
      go_wp2_with (first
        | (with_reducible refine wpList_alloc (o := ⟨some 12, _, _, _, _, _⟩) rfl 68 rfl (cb (List.replicate 11 0)) zero11 11 rfl (by decide) ?_; intro bo w1 hgw1 hFw1 hBw1)
        | (
            with_reducible refine wpList_store rfl rfl (.tmp 12) (.tmp 25) 68 rfl bo 0 w.heap.size 68 11 (cb (List.replicate 11 0)) (cb opsL) ?_ ?_ 11 ?_ ?_ ?_ ?_ ?_ w ?_ ?_ ?_
            · rfl
            · rfl
            · rfl
            · exact agg11
            · exact hFw1
            · omega
            · exact cb_one _
            · exact hBw1
            · exact hgw1
            intro w2 hFw2 hBw2 hkw2 hsw2
            rw [show splice (cb (List.replicate 11 0)) 0 (cb opsL) = cb opsL from rfl] at hFw2; have co := hFw2.cell_ (k := s) (u := .int .u8 (o : Int)) HS.out)
        | (go_at_call 36; refine (prog_any (some ⟨w2.heap.size, 0, none⟩) 5 5 _).mono ?_; (rintro e w3 ⟨rfl, hBp⟩; have hF3 := (Fresh.new w2 53 [.int .u8 1, .int .u8 (x : Int), .int .i64 0, .int .i64 0, .int .u8 1, .int .u8 (y : Int), .int .i64 0, .int .i64 0, .int .u8 (o : Int), .int .u8 (z : Int), .int .i64 0, .int .i64 0, .int .u8 17, .int .u8 0, .int .i64 0, .int .i64 0, .int .u8 22, .int .u8 0, .int .i64 0, .int .i64 0] 20 rfl (by decide)).below hBp; have hB3 := Below.then_ hBw2 (Below.then_ (below_alloc _ _) hBp); obtain ⟨gj, hgj⟩ : ∃ gj, w2.heap.size = gj := ⟨_, rfl⟩; rw [hgj] at hF3 ⊢; have hgj3 := hF3.lt_size; have hS3 : Sees w3 w3.heap.size (some ⟨gj, 0, none⟩) (jcs (tyJ o x y z)) := hF3.sees))
        | (with_reducible refine wpList_alloc (o := ⟨some 14, _, _, _, _, _⟩) rfl 26 rfl noC zeroC 4 rfl (by decide) ?_; intro bc w4 hgw4 hFw4 hBw4)
        | (
            with_reducible refine wpList_store rfl rfl (.tmp 14) (.tmp 40) 26 rfl bc 0 w3.heap.size 26 4 noC [.string ⟨#[112]⟩, .slice none 0 0, .slice none 0 0, .slice (some ⟨gj, 0, none⟩) 5 5] ?_ ?_ 4 ?_ ?_ ?_ ?_ ?_ w3 ?_ ?_ ?_
            · rfl
            · rfl
            · rfl
            · exact aggCode
            · exact hFw4
            · omega
            · exact cd1 _ _ _ _ _ _ _ _ _ _
            · exact hBw4
            · exact hgw4
            intro w5 hFw5 hBw5 hkw5 hsw5
            rw [show splice noC 0 [.string ⟨#[112]⟩, .slice none 0 0, .slice none 0 0, .slice (some ⟨gj, 0, none⟩) 5 5] = [.string ⟨#[112]⟩, .slice none 0 0, .slice none 0 0, .slice (some ⟨gj, 0, none⟩) 5 5] from rfl] at hFw5; have hB5 := Below.then_ hB3 hBw5; have hS5 := hS3.step hBw5; have hF5 := hF3.below hBw5)
        | (with_reducible refine wpList_load (o := ⟨some 88, _, _, _, _, _⟩) rfl (.tmp 14) 26 rfl bc 0 _ rfl [.string ⟨#[112]⟩, .slice none 0 0, .slice none 0 0, .slice (some ⟨gj, 0, none⟩) 5 5] 4 rfl aggCode hFw5.sees ?_)
        | (with_reducible refine wpList_load (o := ⟨some 94, _, _, _, _, _⟩) rfl (.tmp 14) 26 rfl bc 0 _ rfl [.string ⟨#[112]⟩, .slice none 0 0, .slice none 0 0, .slice (some ⟨gj, 0, none⟩) 5 5] 4 rfl aggCode hFw5.sees ?_)
        | (go_at_call 33; with_reducible refine (HCK.out gj _ hS5).mono ?_; (rintro e w6 ⟨rfl, hB6⟩; have hB56 := Below.then_ hB5 hB6))
        | (go_at_call 28; refine (quit _ hB56).mono ?_; rintro e wz ⟨rfl, hBz⟩))
      go_ret
      exact ⟨rfl, hBz⟩
    · go_enter Try.func9, Try.ntmps9
      go_wp2_with (first
        | (with_reducible refine wpList_alloc (o := ⟨some 12, _, _, _, _, _⟩) rfl 68 rfl (cb (List.replicate 11 0)) zero11 11 rfl (by decide) ?_; intro bo w1 hgw1 hFw1 hBw1)
        | (
            with_reducible refine wpList_store rfl rfl (.tmp 12) (.tmp 25) 68 rfl bo 0 w.heap.size 68 11 (cb (List.replicate 11 0)) (cb opsL) ?_ ?_ 11 ?_ ?_ ?_ ?_ ?_ w ?_ ?_ ?_
            · rfl
            · rfl
            · rfl
            · exact agg11
            · exact hFw1
            · omega
            · exact cb_one _
            · exact hBw1
            · exact hgw1
            intro w2 hFw2 hBw2 hkw2 hsw2
            rw [show splice (cb (List.replicate 11 0)) 0 (cb opsL) = cb opsL from rfl] at hFw2; have co := hFw2.cell_ (k := s) (u := .int .u8 (o : Int)) HS.out)
        | (go_at_call 36; refine (prog_any (some ⟨w2.heap.size, 0, none⟩) 5 5 _).mono ?_; (rintro e w3 ⟨rfl, hBp⟩; have hF3 := (Fresh.new w2 53 [.int .u8 1, .int .u8 (x : Int), .int .i64 0, .int .i64 0, .int .u8 1, .int .u8 (y : Int), .int .i64 0, .int .i64 0, .int .u8 (o : Int), .int .u8 (z : Int), .int .i64 0, .int .i64 0, .int .u8 17, .int .u8 0, .int .i64 0, .int .i64 0, .int .u8 22, .int .u8 0, .int .i64 0, .int .i64 0] 20 rfl (by decide)).below hBp; have hB3 := Below.then_ hBw2 (Below.then_ (below_alloc _ _) hBp); obtain ⟨gj, hgj⟩ : ∃ gj, w2.heap.size = gj := ⟨_, rfl⟩; rw [hgj] at hF3 ⊢; have hgj3 := hF3.lt_size; have hS3 : Sees w3 w3.heap.size (some ⟨gj, 0, none⟩) (jcs (tyJ o x y z)) := hF3.sees))
        | (with_reducible refine wpList_alloc (o := ⟨some 14, _, _, _, _, _⟩) rfl 26 rfl noC zeroC 4 rfl (by decide) ?_; intro bc w4 hgw4 hFw4 hBw4)
        | (
            with_reducible refine wpList_store rfl rfl (.tmp 14) (.tmp 40) 26 rfl bc 0 w3.heap.size 26 4 noC [.string ⟨#[112]⟩, .slice none 0 0, .slice none 0 0, .slice (some ⟨gj, 0, none⟩) 5 5] ?_ ?_ 4 ?_ ?_ ?_ ?_ ?_ w3 ?_ ?_ ?_
            · rfl
            · rfl
            · rfl
            · exact aggCode
            · exact hFw4
            · omega
            · exact cd1 _ _ _ _ _ _ _ _ _ _
            · exact hBw4
            · exact hgw4
            intro w5 hFw5 hBw5 hkw5 hsw5
            rw [show splice noC 0 [.string ⟨#[112]⟩, .slice none 0 0, .slice none 0 0, .slice (some ⟨gj, 0, none⟩) 5 5] = [.string ⟨#[112]⟩, .slice none 0 0, .slice none 0 0, .slice (some ⟨gj, 0, none⟩) 5 5] from rfl] at hFw5; have hB5 := Below.then_ hB3 hBw5; have hS5 := hS3.step hBw5; have hF5 := hF3.below hBw5)
        | (with_reducible refine wpList_load (o := ⟨some 88, _, _, _, _, _⟩) rfl (.tmp 14) 26 rfl bc 0 _ rfl [.string ⟨#[112]⟩, .slice none 0 0, .slice none 0 0, .slice (some ⟨gj, 0, none⟩) 5 5] 4 rfl aggCode hFw5.sees ?_)
        | (with_reducible refine wpList_load (o := ⟨some 94, _, _, _, _, _⟩) rfl (.tmp 14) 26 rfl bc 0 _ rfl [.string ⟨#[112]⟩, .slice none 0 0, .slice none 0 0, .slice (some ⟨gj, 0, none⟩) 5 5] 4 rfl aggCode hFw5.sees ?_)
        | (go_at_call 33; with_reducible refine (HCK.out gj _ hS5).mono ?_; (rintro e w6 ⟨rfl, hB6⟩; have hB56 := Below.then_ hB5 hB6))
        | (go_at_call 28; refine (quit _ hB56).mono ?_; rintro e wz ⟨rfl, hBz⟩))
      go_ret
      exact ⟨rfl, hBz⟩
  · rw [if_neg hz] at hall
    have kz : ((z : Int) == 1) = false := by simp; omega
    clear hz
    cases p1
    · have hc : ((cv : Int) == 0) = false := by
        rw [beq_iff_eq, Bool.false_and] at hall
        rw [← hall, Bool.eq_iff_iff]; simp
      clear hall
      go_enter Try.func9, Try.ntmps9
      go_wp2_with (first
        | (with_reducible refine wpList_alloc (o := ⟨some 12, _, _, _, _, _⟩) rfl 68 rfl (cb (List.replicate 11 0)) zero11 11 rfl (by decide) ?_; intro bo w1 hgw1 hFw1 hBw1)
        | (
            with_reducible refine wpList_store rfl rfl (.tmp 12) (.tmp 25) 68 rfl bo 0 w.heap.size 68 11 (cb (List.replicate 11 0)) (cb opsL) ?_ ?_ 11 ?_ ?_ ?_ ?_ ?_ w ?_ ?_ ?_
            · rfl
            · rfl
            · rfl
            · exact agg11
            · exact hFw1
            · omega
            · exact cb_one _
            · exact hBw1
            · exact hgw1
            intro w2 hFw2 hBw2 hkw2 hsw2
            rw [show splice (cb (List.replicate 11 0)) 0 (cb opsL) = cb opsL from rfl] at hFw2; have co := hFw2.cell_ (k := s) (u := .int .u8 (o : Int)) HS.out)
        | (go_at_call 36; refine (prog_any (some ⟨w2.heap.size, 0, none⟩) 5 5 _).mono ?_; (rintro e w3 ⟨rfl, hBp⟩; have hF3 := (Fresh.new w2 53 [.int .u8 1, .int .u8 (x : Int), .int .i64 0, .int .i64 0, .int .u8 1, .int .u8 (y : Int), .int .i64 0, .int .i64 0, .int .u8 (o : Int), .int .u8 (z : Int), .int .i64 0, .int .i64 0, .int .u8 17, .int .u8 0, .int .i64 0, .int .i64 0, .int .u8 22, .int .u8 0, .int .i64 0, .int .i64 0] 20 rfl (by decide)).below hBp; have hB3 := Below.then_ hBw2 (Below.then_ (below_alloc _ _) hBp); obtain ⟨gj, hgj⟩ : ∃ gj, w2.heap.size = gj := ⟨_, rfl⟩; rw [hgj] at hF3 ⊢; have hgj3 := hF3.lt_size; have hS3 : Sees w3 w3.heap.size (some ⟨gj, 0, none⟩) (jcs (tyJ o x y z)) := hF3.sees))
        | (with_reducible refine wpList_alloc (o := ⟨some 14, _, _, _, _, _⟩) rfl 26 rfl noC zeroC 4 rfl (by decide) ?_; intro bc w4 hgw4 hFw4 hBw4)
        | (
            with_reducible refine wpList_store rfl rfl (.tmp 14) (.tmp 40) 26 rfl bc 0 w3.heap.size 26 4 noC [.string ⟨#[112]⟩, .slice none 0 0, .slice none 0 0, .slice (some ⟨gj, 0, none⟩) 5 5] ?_ ?_ 4 ?_ ?_ ?_ ?_ ?_ w3 ?_ ?_ ?_
            · rfl
            · rfl
            · rfl
            · exact aggCode
            · exact hFw4
            · omega
            · exact cd1 _ _ _ _ _ _ _ _ _ _
            · exact hBw4
            · exact hgw4
            intro w5 hFw5 hBw5 hkw5 hsw5
            rw [show splice noC 0 [.string ⟨#[112]⟩, .slice none 0 0, .slice none 0 0, .slice (some ⟨gj, 0, none⟩) 5 5] = [.string ⟨#[112]⟩, .slice none 0 0, .slice none 0 0, .slice (some ⟨gj, 0, none⟩) 5 5] from rfl] at hFw5; have hB5 := Below.then_ hB3 hBw5; have hS5 := hS3.step hBw5; have hF5 := hF3.below hBw5)
        | (with_reducible refine wpList_load (o := ⟨some 88, _, _, _, _, _⟩) rfl (.tmp 14) 26 rfl bc 0 _ rfl [.string ⟨#[112]⟩, .slice none 0 0, .slice none 0 0, .slice (some ⟨gj, 0, none⟩) 5 5] 4 rfl aggCode hFw5.sees ?_)
        | (with_reducible refine wpList_load (o := ⟨some 94, _, _, _, _, _⟩) rfl (.tmp 14) 26 rfl bc 0 _ rfl [.string ⟨#[112]⟩, .slice none 0 0, .slice none 0 0, .slice (some ⟨gj, 0, none⟩) 5 5] 4 rfl aggCode hFw5.sees ?_)
        | (go_at_call 33; with_reducible refine (HCK.out gj _ hS5).mono ?_; (rintro e w6 ⟨rfl, hB6⟩; have hB56 := Below.then_ hB5 hB6))
        | (go_at_call 28; refine (quit _ hB56).mono ?_; rintro e wz ⟨rfl, hBz⟩))
      go_ret
      exact ⟨rfl, hBz⟩
    · have hc : ((cv : Int) == 0) = p2 := by
        rw [beq_iff_eq, Bool.true_and] at hall
        rw [← hall, Bool.eq_iff_iff]; simp
      clear hall
      go_enter Try.func9, Try.ntmps9
      go_wp2_with (first
        | (with_reducible refine wpList_alloc (o := ⟨some 12, _, _, _, _, _⟩) rfl 68 rfl (cb (List.replicate 11 0)) zero11 11 rfl (by decide) ?_; intro bo w1 hgw1 hFw1 hBw1)
        | (
            with_reducible refine wpList_store rfl rfl (.tmp 12) (.tmp 25) 68 rfl bo 0 w.heap.size 68 11 (cb (List.replicate 11 0)) (cb opsL) ?_ ?_ 11 ?_ ?_ ?_ ?_ ?_ w ?_ ?_ ?_
            · rfl
            · rfl
            · rfl
            · exact agg11
            · exact hFw1
            · omega
            · exact cb_one _
            · exact hBw1
            · exact hgw1
            intro w2 hFw2 hBw2 hkw2 hsw2
            rw [show splice (cb (List.replicate 11 0)) 0 (cb opsL) = cb opsL from rfl] at hFw2; have co := hFw2.cell_ (k := s) (u := .int .u8 (o : Int)) HS.out)
        | (go_at_call 36; refine (prog_any (some ⟨w2.heap.size, 0, none⟩) 5 5 _).mono ?_; (rintro e w3 ⟨rfl, hBp⟩; have hF3 := (Fresh.new w2 53 [.int .u8 1, .int .u8 (x : Int), .int .i64 0, .int .i64 0, .int .u8 1, .int .u8 (y : Int), .int .i64 0, .int .i64 0, .int .u8 (o : Int), .int .u8 (z : Int), .int .i64 0, .int .i64 0, .int .u8 17, .int .u8 0, .int .i64 0, .int .i64 0, .int .u8 22, .int .u8 0, .int .i64 0, .int .i64 0] 20 rfl (by decide)).below hBp; have hB3 := Below.then_ hBw2 (Below.then_ (below_alloc _ _) hBp); obtain ⟨gj, hgj⟩ : ∃ gj, w2.heap.size = gj := ⟨_, rfl⟩; rw [hgj] at hF3 ⊢; have hgj3 := hF3.lt_size; have hS3 : Sees w3 w3.heap.size (some ⟨gj, 0, none⟩) (jcs (tyJ o x y z)) := hF3.sees))
        | (with_reducible refine wpList_alloc (o := ⟨some 14, _, _, _, _, _⟩) rfl 26 rfl noC zeroC 4 rfl (by decide) ?_; intro bc w4 hgw4 hFw4 hBw4)
        | (
            with_reducible refine wpList_store rfl rfl (.tmp 14) (.tmp 40) 26 rfl bc 0 w3.heap.size 26 4 noC [.string ⟨#[112]⟩, .slice none 0 0, .slice none 0 0, .slice (some ⟨gj, 0, none⟩) 5 5] ?_ ?_ 4 ?_ ?_ ?_ ?_ ?_ w3 ?_ ?_ ?_
            · rfl
            · rfl
            · rfl
            · exact aggCode
            · exact hFw4
            · omega
            · exact cd1 _ _ _ _ _ _ _ _ _ _
            · exact hBw4
            · exact hgw4
            intro w5 hFw5 hBw5 hkw5 hsw5
            rw [show splice noC 0 [.string ⟨#[112]⟩, .slice none 0 0, .slice none 0 0, .slice (some ⟨gj, 0, none⟩) 5 5] = [.string ⟨#[112]⟩, .slice none 0 0, .slice none 0 0, .slice (some ⟨gj, 0, none⟩) 5 5] from rfl] at hFw5; have hB5 := Below.then_ hB3 hBw5; have hS5 := hS3.step hBw5; have hF5 := hF3.below hBw5)
        | (with_reducible refine wpList_load (o := ⟨some 88, _, _, _, _, _⟩) rfl (.tmp 14) 26 rfl bc 0 _ rfl [.string ⟨#[112]⟩, .slice none 0 0, .slice none 0 0, .slice (some ⟨gj, 0, none⟩) 5 5] 4 rfl aggCode hFw5.sees ?_)
        | (with_reducible refine wpList_load (o := ⟨some 94, _, _, _, _, _⟩) rfl (.tmp 14) 26 rfl bc 0 _ rfl [.string ⟨#[112]⟩, .slice none 0 0, .slice none 0 0, .slice (some ⟨gj, 0, none⟩) 5 5] 4 rfl aggCode hFw5.sees ?_)
        | (go_at_call 33; with_reducible refine (HCK.out gj _ hS5).mono ?_; (rintro e w6 ⟨rfl, hB6⟩; have hB56 := Below.then_ hB5 hB6))
        | (go_at_call 28; refine (quit _ hB56).mono ?_; rintro e wz ⟨rfl, hBz⟩))
      go_ret
      exact ⟨rfl, hBz⟩
set_option maxHeartbeats 8000000 in
set_option maxRecDepth 100000 in
theorem ty_w5 (h : TyIn a b c d x y z s o) (hoe : o = 5) :
    Calls Try.prog 9 #[.int .u8 (a : Int), .int .u8 (b : Int), .int .u8 (c : Int), .int .u8 (d : Int)] w fun e w' => e = .returned (.bool true) ∧ Below w.heap.size w w' := by
  have quit : ∀ wq, Below w.heap.size w wq → Calls Try.prog 28 #[] wq fun e w' => e = .returned (.bool true) ∧ Below w.heap.size w w' := fun wq hq => (awake14_any wq).mono (fun e w' h => ⟨h.1, Below.then_ hq h.2⟩)
  obtain ⟨x1, y1, z1, ex, ey, ez, es, s1, ho, o1⟩ := h
  obtain ⟨a1, ha1⟩ : ∃ a1, a % 5 = a1 := ⟨_, rfl⟩
  obtain ⟨b1, hb1⟩ : ∃ b1, b % 5 = b1 := ⟨_, rfl⟩
  obtain ⟨c1, hc1⟩ : ∃ c1, c % 5 = c1 := ⟨_, rfl⟩
  rw [ha1] at ex
  rw [hb1] at ey
  rw [hc1] at ez
  have f1 : (a : Int).tmod 5 = (a1 : Int) := by rw [Int.tmod_eq_emod_of_nonneg (by omega)]; omega
  have f2 : (a : Int) % 5 = (a1 : Int) := by omega
  have f3 : (1 : Int) + (a1 : Int) = (x : Int) := by omega
  have f4 : (b : Int).tmod 5 = (b1 : Int) := by rw [Int.tmod_eq_emod_of_nonneg (by omega)]; omega
  have f5 : (b : Int) % 5 = (b1 : Int) := by omega
  have f6 : (1 : Int) + (b1 : Int) = (y : Int) := by omega
  have f7 : (c : Int).tmod 5 = (c1 : Int) := by rw [Int.tmod_eq_emod_of_nonneg (by omega)]; omega
  have f8 : (c : Int) % 5 = (c1 : Int) := by omega
  have f9 : (1 : Int) + (c1 : Int) = (z : Int) := by omega
  have f10 : (d : Int).tmod 11 = (s : Int) := by rw [Int.tmod_eq_emod_of_nonneg (by omega)]; omega
  have f11 : (d : Int) % 11 = (s : Int) := by omega
  have g1 : IntKind.u8.wrap (x : Int) = (x : Int) := by rw [IntKind.wrap_u8]; omega
  have g2 : IntKind.u8.wrap (y : Int) = (y : Int) := by rw [IntKind.wrap_u8]; omega
  have g3 : IntKind.u8.wrap (z : Int) = (z : Int) := by rw [IntKind.wrap_u8]; omega
  have q1 : a1 < 5 := by omega
  have q2 : b1 < 5 := by omega
  have q3 : c1 < 5 := by omega
  have HS := Lib.hid ho
  have HO : Hid (o < 256) := Lib.hid o1
  clear ex ey ez es ho ha1 hb1 hc1
  have hok : ∀ j ∈ tyJ o x y z, j.Ok := by
    have := HO.out
    intro j hj
    simp only [tyJ, List.mem_cons, List.not_mem_nil, or_false] at hj
    rcases hj with rfl | rfl | rfl | rfl | rfl
    all_goals exact ⟨by simp; try omega, by simp; try omega, by simp, by simp⟩
  obtain ⟨cv, hcv⟩ : ∃ cv, checkF (tyP (tyJ o x y z)) 9 = cv := ⟨_, rfl⟩
  have hck : ∀ (g : Nat) (w' : World), Sees w' w'.heap.size (some ⟨g, 0, none⟩) (jcs (tyJ o x y z)) → Calls Try.prog 33 #[.agg #[.string ⟨#[112]⟩, .slice none 0 0, .slice none 0 0, .slice (some ⟨g, 0, none⟩) 5 5], .int .i64 9] w' fun e w2 => e = .returned (.int .i64 (cv : Int)) ∧ Below w'.heap.size w' w2 := fun g w' hs => check_is 9 cv hcv hs rfl hok (by simp [maxLen])
  have HCK := Lib.hid hck
  obtain ⟨p1, hp1⟩ : ∃ p1, ((x : Int) == (z : Int)) = p1 := ⟨_, rfl⟩
  obtain ⟨p2, hp2⟩ : ∃ p2, ((y : Int) == (z : Int)) = p2 := ⟨_, rfl⟩
  have r1 : (x == z) = p1 := by rw [← hp1, Bool.eq_iff_iff]; simp; omega
  have r2 : (y == z) = p2 := by rw [← hp2, Bool.eq_iff_iff]; simp; omega
  have k15 : ((o : Int) == 15) = false := by simp; omega
  have k4 : ((o : Int) == 4) = false := by simp; omega
  have k5 : ((o : Int) == 5) = true := by simp; omega
  have k6 : ((o : Int) == 6) = false := by simp; omega
  have k7 : ((o : Int) == 7) = false := by simp; omega
  have k8 : ((o : Int) == 8) = false := by simp; omega
  have k14 : ((o : Int) == 14) = false := by simp; omega
  have hall := List.all_eq_true.1 (List.all_eq_true.1 (List.all_eq_true.1 (List.all_eq_true.1 ty_whole o (by rw [hoe]; decide)) x (five_mem x1)) y (five_mem y1)) z (five_mem z1)
  rw [hcv, r1, r2] at hall
  clear hoe hcv hck hok r1 r2
  by_cases hz : z = 1
  · rw [if_pos hz] at hall
    have kz : ((z : Int) == 1) = true := by simp; omega
    have hc : ((cv : Int) == 130) = true := by simp at hall ⊢; omega
    clear hall hz
    cases p1
    · go_enter Try.func9, Try.ntmps9
      go_wp2_with (first
        | (with_reducible refine wpList_alloc (o := ⟨some 12, _, _, _, _, _⟩) rfl 68 rfl (cb (List.replicate 11 0)) zero11 11 rfl (by decide) ?_; intro bo w1 hgw1 hFw1 hBw1)
        | (
            with_reducible refine wpList_store rfl rfl (.tmp 12) (.tmp 25) 68 rfl bo 0 w.heap.size 68 11 (cb (List.replicate 11 0)) (cb opsL) ?_ ?_ 11 ?_ ?_ ?_ ?_ ?_ w ?_ ?_ ?_
            · rfl
            · rfl
            · rfl
            · exact agg11
            · exact hFw1
            · omega
            · exact cb_one _
            · exact hBw1
            · exact hgw1
            intro w2 hFw2 hBw2 hkw2 hsw2
            rw [show splice (cb (List.replicate 11 0)) 0 (cb opsL) = cb opsL from rfl] at hFw2; have co := hFw2.cell_ (k := s) (u := .int .u8 (o : Int)) HS.out)
        | (go_at_call 36; refine (prog_any (some ⟨w2.heap.size, 0, none⟩) 5 5 _).mono ?_; (rintro e w3 ⟨rfl, hBp⟩; have hF3 := (Fresh.new w2 53 [.int .u8 1, .int .u8 (x : Int), .int .i64 0, .int .i64 0, .int .u8 1, .int .u8 (y : Int), .int .i64 0, .int .i64 0, .int .u8 (o : Int), .int .u8 (z : Int), .int .i64 0, .int .i64 0, .int .u8 17, .int .u8 0, .int .i64 0, .int .i64 0, .int .u8 22, .int .u8 0, .int .i64 0, .int .i64 0] 20 rfl (by decide)).below hBp; have hB3 := Below.then_ hBw2 (Below.then_ (below_alloc _ _) hBp); obtain ⟨gj, hgj⟩ : ∃ gj, w2.heap.size = gj := ⟨_, rfl⟩; rw [hgj] at hF3 ⊢; have hgj3 := hF3.lt_size; have hS3 : Sees w3 w3.heap.size (some ⟨gj, 0, none⟩) (jcs (tyJ o x y z)) := hF3.sees))
        | (with_reducible refine wpList_alloc (o := ⟨some 14, _, _, _, _, _⟩) rfl 26 rfl noC zeroC 4 rfl (by decide) ?_; intro bc w4 hgw4 hFw4 hBw4)
        | (
            with_reducible refine wpList_store rfl rfl (.tmp 14) (.tmp 40) 26 rfl bc 0 w3.heap.size 26 4 noC [.string ⟨#[112]⟩, .slice none 0 0, .slice none 0 0, .slice (some ⟨gj, 0, none⟩) 5 5] ?_ ?_ 4 ?_ ?_ ?_ ?_ ?_ w3 ?_ ?_ ?_
            · rfl
            · rfl
            · rfl
            · exact aggCode
            · exact hFw4
            · omega
            · exact cd1 _ _ _ _ _ _ _ _ _ _
            · exact hBw4
            · exact hgw4
            intro w5 hFw5 hBw5 hkw5 hsw5
            rw [show splice noC 0 [.string ⟨#[112]⟩, .slice none 0 0, .slice none 0 0, .slice (some ⟨gj, 0, none⟩) 5 5] = [.string ⟨#[112]⟩, .slice none 0 0, .slice none 0 0, .slice (some ⟨gj, 0, none⟩) 5 5] from rfl] at hFw5; have hB5 := Below.then_ hB3 hBw5; have hS5 := hS3.step hBw5; have hF5 := hF3.below hBw5)
        | (with_reducible refine wpList_load (o := ⟨some 88, _, _, _, _, _⟩) rfl (.tmp 14) 26 rfl bc 0 _ rfl [.string ⟨#[112]⟩, .slice none 0 0, .slice none 0 0, .slice (some ⟨gj, 0, none⟩) 5 5] 4 rfl aggCode hFw5.sees ?_)
        | (with_reducible refine wpList_load (o := ⟨some 94, _, _, _, _, _⟩) rfl (.tmp 14) 26 rfl bc 0 _ rfl [.string ⟨#[112]⟩, .slice none 0 0, .slice none 0 0, .slice (some ⟨gj, 0, none⟩) 5 5] 4 rfl aggCode hFw5.sees ?_)
        | (go_at_call 33; with_reducible refine (HCK.out gj _ hS5).mono ?_; (rintro e w6 ⟨rfl, hB6⟩; have hB56 := Below.then_ hB5 hB6))
        | (go_at_call 28; refine (quit _ hB56).mono ?_; rintro e wz ⟨rfl, hBz⟩))
      go_ret
      exact ⟨rfl, hBz⟩
    · go_enter Try.func9, Try.ntmps9
      go_wp2_with (first
        | (with_reducible refine wpList_alloc (o := ⟨some 12, _, _, _, _, _⟩) rfl 68 rfl (cb (List.replicate 11 0)) zero11 11 rfl (by decide) ?_; intro bo w1 hgw1 hFw1 hBw1)
        | (
            with_reducible refine wpList_store rfl rfl (.tmp 12) (.tmp 25) 68 rfl bo 0 w.heap.size 68 11 (cb (List.replicate 11 0)) (cb opsL) ?_ ?_ 11 ?_ ?_ ?_ ?_ ?_ w ?_ ?_ ?_
            · rfl
            · rfl
            · rfl
            · exact agg11
            · exact hFw1
            · omega
            · exact cb_one _
            · exact hBw1
            · exact hgw1
            intro w2 hFw2 hBw2 hkw2 hsw2
            rw [show splice (cb (List.replicate 11 0)) 0 (cb opsL) = cb opsL from rfl] at hFw2; have co := hFw2.cell_ (k := s) (u := .int .u8 (o : Int)) HS.out)
        | (go_at_call 36; refine (prog_any (some ⟨w2.heap.size, 0, none⟩) 5 5 _).mono ?_; (rintro e w3 ⟨rfl, hBp⟩; have hF3 := (Fresh.new w2 53 [.int .u8 1, .int .u8 (x : Int), .int .i64 0, .int .i64 0, .int .u8 1, .int .u8 (y : Int), .int .i64 0, .int .i64 0, .int .u8 (o : Int), .int .u8 (z : Int), .int .i64 0, .int .i64 0, .int .u8 17, .int .u8 0, .int .i64 0, .int .i64 0, .int .u8 22, .int .u8 0, .int .i64 0, .int .i64 0] 20 rfl (by decide)).below hBp; have hB3 := Below.then_ hBw2 (Below.then_ (below_alloc _ _) hBp); obtain ⟨gj, hgj⟩ : ∃ gj, w2.heap.size = gj := ⟨_, rfl⟩; rw [hgj] at hF3 ⊢; have hgj3 := hF3.lt_size; have hS3 : Sees w3 w3.heap.size (some ⟨gj, 0, none⟩) (jcs (tyJ o x y z)) := hF3.sees))
        | (with_reducible refine wpList_alloc (o := ⟨some 14, _, _, _, _, _⟩) rfl 26 rfl noC zeroC 4 rfl (by decide) ?_; intro bc w4 hgw4 hFw4 hBw4)
        | (
            with_reducible refine wpList_store rfl rfl (.tmp 14) (.tmp 40) 26 rfl bc 0 w3.heap.size 26 4 noC [.string ⟨#[112]⟩, .slice none 0 0, .slice none 0 0, .slice (some ⟨gj, 0, none⟩) 5 5] ?_ ?_ 4 ?_ ?_ ?_ ?_ ?_ w3 ?_ ?_ ?_
            · rfl
            · rfl
            · rfl
            · exact aggCode
            · exact hFw4
            · omega
            · exact cd1 _ _ _ _ _ _ _ _ _ _
            · exact hBw4
            · exact hgw4
            intro w5 hFw5 hBw5 hkw5 hsw5
            rw [show splice noC 0 [.string ⟨#[112]⟩, .slice none 0 0, .slice none 0 0, .slice (some ⟨gj, 0, none⟩) 5 5] = [.string ⟨#[112]⟩, .slice none 0 0, .slice none 0 0, .slice (some ⟨gj, 0, none⟩) 5 5] from rfl] at hFw5; have hB5 := Below.then_ hB3 hBw5; have hS5 := hS3.step hBw5; have hF5 := hF3.below hBw5)
        | (with_reducible refine wpList_load (o := ⟨some 88, _, _, _, _, _⟩) rfl (.tmp 14) 26 rfl bc 0 _ rfl [.string ⟨#[112]⟩, .slice none 0 0, .slice none 0 0, .slice (some ⟨gj, 0, none⟩) 5 5] 4 rfl aggCode hFw5.sees ?_)
        | (with_reducible refine wpList_load (o := ⟨some 94, _, _, _, _, _⟩) rfl (.tmp 14) 26 rfl bc 0 _ rfl [.string ⟨#[112]⟩, .slice none 0 0, .slice none 0 0, .slice (some ⟨gj, 0, none⟩) 5 5] 4 rfl aggCode hFw5.sees ?_)
        | (go_at_call 33; with_reducible refine (HCK.out gj _ hS5).mono ?_; (rintro e w6 ⟨rfl, hB6⟩; have hB56 := Below.then_ hB5 hB6))
        | (go_at_call 28; refine (quit _ hB56).mono ?_; rintro e wz ⟨rfl, hBz⟩))
      go_ret
      exact ⟨rfl, hBz⟩
  · rw [if_neg hz] at hall
    have kz : ((z : Int) == 1) = false := by simp; omega
    clear hz
    cases p1
    · have hc : ((cv : Int) == 0) = false := by
        rw [beq_iff_eq, Bool.false_and] at hall
        rw [← hall, Bool.eq_iff_iff]; simp
      clear hall
      go_enter Try.func9, Try.ntmps9
      go_wp2_with (first
        | (with_reducible refine wpList_alloc (o := ⟨some 12, _, _, _, _, _⟩) rfl 68 rfl (cb (List.replicate 11 0)) zero11 11 rfl (by decide) ?_; intro bo w1 hgw1 hFw1 hBw1)
        | (
            with_reducible refine wpList_store rfl rfl (.tmp 12) (.tmp 25) 68 rfl bo 0 w.heap.size 68 11 (cb (List.replicate 11 0)) (cb opsL) ?_ ?_ 11 ?_ ?_ ?_ ?_ ?_ w ?_ ?_ ?_
            · rfl
            · rfl
            · rfl
            · exact agg11
            · exact hFw1
            · omega
            · exact cb_one _
            · exact hBw1
            · exact hgw1
            intro w2 hFw2 hBw2 hkw2 hsw2
            rw [show splice (cb (List.replicate 11 0)) 0 (cb opsL) = cb opsL from rfl] at hFw2; have co := hFw2.cell_ (k := s) (u := .int .u8 (o : Int)) HS.out)
        | (go_at_call 36; refine (prog_any (some ⟨w2.heap.size, 0, none⟩) 5 5 _).mono ?_; (rintro e w3 ⟨rfl, hBp⟩; have hF3 := (Fresh.new w2 53 [.int .u8 1, .int .u8 (x : Int), .int .i64 0, .int .i64 0, .int .u8 1, .int .u8 (y : Int), .int .i64 0, .int .i64 0, .int .u8 (o : Int), .int .u8 (z : Int), .int .i64 0, .int .i64 0, .int .u8 17, .int .u8 0, .int .i64 0, .int .i64 0, .int .u8 22, .int .u8 0, .int .i64 0, .int .i64 0] 20 rfl (by decide)).below hBp; have hB3 := Below.then_ hBw2 (Below.then_ (below_alloc _ _) hBp); obtain ⟨gj, hgj⟩ : ∃ gj, w2.heap.size = gj := ⟨_, rfl⟩; rw [hgj] at hF3 ⊢; have hgj3 := hF3.lt_size; have hS3 : Sees w3 w3.heap.size (some ⟨gj, 0, none⟩) (jcs (tyJ o x y z)) := hF3.sees))
        | (with_reducible refine wpList_alloc (o := ⟨some 14, _, _, _, _, _⟩) rfl 26 rfl noC zeroC 4 rfl (by decide) ?_; intro bc w4 hgw4 hFw4 hBw4)
        | (
            with_reducible refine wpList_store rfl rfl (.tmp 14) (.tmp 40) 26 rfl bc 0 w3.heap.size 26 4 noC [.string ⟨#[112]⟩, .slice none 0 0, .slice none 0 0, .slice (some ⟨gj, 0, none⟩) 5 5] ?_ ?_ 4 ?_ ?_ ?_ ?_ ?_ w3 ?_ ?_ ?_
            · rfl
            · rfl
            · rfl
            · exact aggCode
            · exact hFw4
            · omega
            · exact cd1 _ _ _ _ _ _ _ _ _ _
            · exact hBw4
            · exact hgw4
            intro w5 hFw5 hBw5 hkw5 hsw5
            rw [show splice noC 0 [.string ⟨#[112]⟩, .slice none 0 0, .slice none 0 0, .slice (some ⟨gj, 0, none⟩) 5 5] = [.string ⟨#[112]⟩, .slice none 0 0, .slice none 0 0, .slice (some ⟨gj, 0, none⟩) 5 5] from rfl] at hFw5; have hB5 := Below.then_ hB3 hBw5; have hS5 := hS3.step hBw5; have hF5 := hF3.below hBw5)
        | (with_reducible refine wpList_load (o := ⟨some 88, _, _, _, _, _⟩) rfl (.tmp 14) 26 rfl bc 0 _ rfl [.string ⟨#[112]⟩, .slice none 0 0, .slice none 0 0, .slice (some ⟨gj, 0, none⟩) 5 5] 4 rfl aggCode hFw5.sees ?_)
        | (with_reducible refine wpList_load (o := ⟨some 94, _, _, _, _, _⟩) rfl (.tmp 14) 26 rfl bc 0 _ rfl [.string ⟨#[112]⟩, .slice none 0 0, .slice none 0 0, .slice (some ⟨gj, 0, none⟩) 5 5] 4 rfl aggCode hFw5.sees ?_)
        | (go_at_call 33; with_reducible refine (HCK.out gj _ hS5).mono ?_; (rintro e w6 ⟨rfl, hB6⟩; have hB56 := Below.then_ hB5 hB6))
        | (go_at_call 28; refine (quit _ hB56).mono ?_; rintro e wz ⟨rfl, hBz⟩))
      go_ret
      exact ⟨rfl, hBz⟩
    · have hc : ((cv : Int) == 0) = p2 := by
        rw [beq_iff_eq, Bool.true_and] at hall
        rw [← hall, Bool.eq_iff_iff]; simp
      clear hall
      go_enter Try.func9, Try.ntmps9
      go_wp2_with (first
        | (with_reducible refine wpList_alloc (o := ⟨some 12, _, _, _, _, _⟩) rfl 68 rfl (cb (List.replicate 11 0)) zero11 11 rfl (by decide) ?_; intro bo w1 hgw1 hFw1 hBw1)
        | (
            with_reducible refine wpList_store rfl rfl (.tmp 12) (.tmp 25) 68 rfl bo 0 w.heap.size 68 11 (cb (List.replicate 11 0)) (cb opsL) ?_ ?_ 11 ?_ ?_ ?_ ?_ ?_ w ?_ ?_ ?_
            · rfl
            · rfl
            · rfl
            · exact agg11
            · exact hFw1
            · omega
            · exact cb_one _
            · exact hBw1
            · exact hgw1
            intro w2 hFw2 hBw2 hkw2 hsw2
            rw [show splice (cb (List.replicate 11 0)) 0 (cb opsL) = cb opsL from rfl] at hFw2; have co := hFw2.cell_ (k := s) (u := .int .u8 (o : Int)) HS.out)
        | (go_at_call 36; refine (prog_any (some ⟨w2.heap.size, 0, none⟩) 5 5 _).mono ?_; (rintro e w3 ⟨rfl, hBp⟩; have hF3 := (Fresh.new w2 53 [.int .u8 1, .int .u8 (x : Int), .int .i64 0, .int .i64 0, .int .u8 1, .int .u8 (y : Int), .int .i64 0, .int .i64 0, .int .u8 (o : Int), .int .u8 (z : Int), .int .i64 0, .int .i64 0, .int .u8 17, .int .u8 0, .int .i64 0, .int .i64 0, .int .u8 22, .int .u8 0, .int .i64 0, .int .i64 0] 20 rfl (by decide)).below hBp; have hB3 := Below.then_ hBw2 (Below.then_ (below_alloc _ _) hBp); obtain ⟨gj, hgj⟩ : ∃ gj, w2.heap.size = gj := ⟨_, rfl⟩; rw [hgj] at hF3 ⊢; have hgj3 := hF3.lt_size; have hS3 : Sees w3 w3.heap.size (some ⟨gj, 0, none⟩) (jcs (tyJ o x y z)) := hF3.sees))
        | (with_reducible refine wpList_alloc (o := ⟨some 14, _, _, _, _, _⟩) rfl 26 rfl noC zeroC 4 rfl (by decide) ?_; intro bc w4 hgw4 hFw4 hBw4)
        | (
            with_reducible refine wpList_store rfl rfl (.tmp 14) (.tmp 40) 26 rfl bc 0 w3.heap.size 26 4 noC [.string ⟨#[112]⟩, .slice none 0 0, .slice none 0 0, .slice (some ⟨gj, 0, none⟩) 5 5] ?_ ?_ 4 ?_ ?_ ?_ ?_ ?_ w3 ?_ ?_ ?_
            · rfl
            · rfl
            · rfl
            · exact aggCode
            · exact hFw4
            · omega
            · exact cd1 _ _ _ _ _ _ _ _ _ _
            · exact hBw4
            · exact hgw4
            intro w5 hFw5 hBw5 hkw5 hsw5
            rw [show splice noC 0 [.string ⟨#[112]⟩, .slice none 0 0, .slice none 0 0, .slice (some ⟨gj, 0, none⟩) 5 5] = [.string ⟨#[112]⟩, .slice none 0 0, .slice none 0 0, .slice (some ⟨gj, 0, none⟩) 5 5] from rfl] at hFw5; have hB5 := Below.then_ hB3 hBw5; have hS5 := hS3.step hBw5; have hF5 := hF3.below hBw5)
        | (with_reducible refine wpList_load (o := ⟨some 88, _, _, _, _, _⟩) rfl (.tmp 14) 26 rfl bc 0 _ rfl [.string ⟨#[112]⟩, .slice none 0 0, .slice none 0 0, .slice (some ⟨gj, 0, none⟩) 5 5] 4 rfl aggCode hFw5.sees ?_)
        | (with_reducible refine wpList_load (o := ⟨some 94, _, _, _, _, _⟩) rfl (.tmp 14) 26 rfl bc 0 _ rfl [.string ⟨#[112]⟩, .slice none 0 0, .slice none 0 0, .slice (some ⟨gj, 0, none⟩) 5 5] 4 rfl aggCode hFw5.sees ?_)
        | (go_at_call 33; with_reducible refine (HCK.out gj _ hS5).mono ?_; (rintro e w6 ⟨rfl, hB6⟩; have hB56 := Below.then_ hB5 hB6))
        | (go_at_call 28; refine (quit _ hB56).mono ?_; rintro e wz ⟨rfl, hBz⟩))
      go_ret
      exact ⟨rfl, hBz⟩
end
end Go.Proofs.Ytangblcfdboghaa
