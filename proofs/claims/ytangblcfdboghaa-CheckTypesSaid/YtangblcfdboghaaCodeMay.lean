/-
  What the closures of package code answer, which tell what a field of an instruction may be.
-/
import Derived.Test.YtangblcfdboghaaCodeSeen
namespace Go.Proofs.Ytangblcfdboghaa
open Go.RowKit Go.Maps
set_option linter.unusedVariables false

theorem ne_one (n : Nat) : ((n : Int) != 1) = !decide (n = 1) := by
  by_cases h : n = 1
  · simp [h]
  · have h2 : ((n : Int) == 1) = false := by simp; omega
    simp [bne, h2, h]
theorem isPl_true {n many : Int} (h : isPl n many = true) : 0 ≤ n ∧ n < many := by simpa [isPl] using h
set_option maxHeartbeats 4000000 in
set_option maxRecDepth 100000 in
theorem may48_any (m : Pm) (j : Jn) (n : Int) (w : World) :
    Calls Try.prog 85 #[.agg j.cells.toArray, .int .i64 n] w fun e w' => e = .returned (.bool (mayF m.p j 48 n)) ∧ Below w.heap.size w w' := by
  have er : mayF m.p j 48 n = decide (n = 0) := rfl
  go_enter Try.func85, Try.ntmps85
  go_wp2_with (with_reducible refine wpList_box (o := ⟨some 2, _, _, _, _, _⟩) rfl (.tmp 0) 53 rfl j.cells rfl 4 (jn4 j) (by decide) ?_; intro g w1 hg hF hB1)
  go_ret
  exact ⟨ret_bool (by rw [er, Bool.eq_iff_iff]; simp), hB1⟩
set_option maxHeartbeats 4000000 in
set_option maxRecDepth 100000 in
theorem may116_any (m : Pm) (j : Jn) (n : Int) (w : World) :
    Calls Try.prog 86 #[.agg j.cells.toArray, .int .i64 n] w fun e w' => e = .returned (.bool (mayF m.p j 116 n)) ∧ Below w.heap.size w w' := by
  have er : mayF m.p j 116 n = isTy n := rfl
  go_enter Try.func86, Try.ntmps86
  go_wp2_with (first | (with_reducible refine wpList_box (o := ⟨some 2, _, _, _, _, _⟩) rfl (.tmp 0) 53 rfl j.cells rfl 4 (jn4 j) (by decide) ?_; intro g w1 hg hF hB1) | (go_at_call 83; refine (cType_any n _).mono ?_; rintro e w' ⟨rfl, rfl⟩))
  go_ret
  exact ⟨ret_bool (by rw [er]), hB1⟩
set_option maxHeartbeats 4000000 in
set_option maxRecDepth 100000 in
theorem may119_any (m : Pm) (j : Jn) (n : Int) (w : World) :
    Calls Try.prog 87 #[.agg j.cells.toArray, .int .i64 n] w fun e w' => e = .returned (.bool (mayF m.p j 119 n)) ∧ Below w.heap.size w w' := by
  have er : mayF m.p j 119 n = isWh n := rfl
  go_enter Try.func87, Try.ntmps87
  go_wp2_with (first | (with_reducible refine wpList_box (o := ⟨some 2, _, _, _, _, _⟩) rfl (.tmp 0) 53 rfl j.cells rfl 4 (jn4 j) (by decide) ?_; intro g w1 hg hF hB1) | (go_at_call 88; refine (cWhole_any n _).mono ?_; rintro e w' ⟨rfl, rfl⟩))
  go_ret
  exact ⟨ret_bool (by rw [er]), hB1⟩
set_option maxHeartbeats 4000000 in
set_option maxRecDepth 100000 in
theorem may114_any (m : Pm) (j : Jn) (n : Int) (w : World) :
    Calls Try.prog 89 #[.agg j.cells.toArray, .int .i64 n] w fun e w' => e = .returned (.bool (mayF m.p j 114 n)) ∧ Below w.heap.size w w' := by
  have er : mayF m.p j 114 n = inR j.t n := rfl
  go_enter Try.func89, Try.ntmps89
  go_wp2_with (first | (with_reducible refine wpList_box (o := ⟨some 2, _, _, _, _, _⟩) rfl (.tmp 0) 53 rfl j.cells rfl 4 (jn4 j) (by decide) ?_; intro g w1 hg hF hB1; have f1 := hF.cell_ (k := 1) rfl) | (go_at_call 84; refine (cOf_any j.t n _).mono ?_; rintro e w' ⟨rfl, rfl⟩))
  go_ret
  exact ⟨ret_bool (by rw [er]), hB1⟩
set_option maxHeartbeats 4000000 in
set_option maxRecDepth 100000 in
theorem may118_any (m : Pm) (j : Jn) (n : Int) (base gp : Nat) (w : World) (hG : Fresh base 26 w (some ⟨gp, 0, none⟩) 4 4 m.cells) (hm : PmAt w.heap.size w m) :
    Calls Try.prog 90 #[.agg j.cells.toArray, .int .i64 n, .pointer (some ⟨gp, 0, none⟩)] w fun e w' => e = .returned (.bool (mayF m.p j 118 n)) ∧ Below w.heap.size w w' := by
  have er : mayF m.p j 118 n = isPl n m.p.vars.length := rfl
  have c0 := hG.cell_ (k := 0) rfl
  have c1 := hG.cell_ (k := 1) rfl
  have c2 := hG.cell_ (k := 2) rfl
  have c3 := hG.cell_ (k := 3) rfl
  have hgp := hG.lt_size
  rw [hm.nv] at er
  go_enter Try.func90, Try.ntmps90
  go_wp2_with (first | (with_reducible refine wpList_box (o := ⟨some 3, _, _, _, _, _⟩) rfl (.tmp 0) 53 rfl j.cells rfl 4 (jn4 j) (by decide) ?_; intro g w1 hg hF hB1; have f0 := hF.cell_ (k := 0) rfl; have f1 := hF.cell_ (k := 1) rfl; have f2 := hF.cell_ (k := 2) rfl; have f3 := hF.cell_ (k := 3) rfl; have d0 := (hB1.cell (p := ⟨gp, 0, none⟩) hgp).trans c0; have d1 := (hB1.cell (p := ⟨gp, 1, none⟩) hgp).trans c1; have d2 := (hB1.cell (p := ⟨gp, 2, none⟩) hgp).trans c2; have d3 := (hB1.cell (p := ⟨gp, 3, none⟩) hgp).trans c3; have hm1 := hm.step hB1) | (go_at_call 91; refine (cPlace_any n _ _).mono ?_; rintro e w' ⟨rfl, rfl⟩))
  go_ret
  exact ⟨ret_bool (by rw [er]), hB1⟩
set_option maxHeartbeats 4000000 in
set_option maxRecDepth 100000 in
theorem may115_any (m : Pm) (j : Jn) (n : Int) (base gp : Nat) (w : World) (hG : Fresh base 26 w (some ⟨gp, 0, none⟩) 4 4 m.cells) (hm : PmAt w.heap.size w m) :
    Calls Try.prog 92 #[.agg j.cells.toArray, .int .i64 n, .pointer (some ⟨gp, 0, none⟩)] w fun e w' => e = .returned (.bool (mayF m.p j 115 n)) ∧ Below w.heap.size w w' := by
  have er : mayF m.p j 115 n = (isPl n m.p.vars.length && !decide ((m.p.vars.getD n.toNat default).cls = 1)) := rfl
  have c0 := hG.cell_ (k := 0) rfl
  have c1 := hG.cell_ (k := 1) rfl
  have c2 := hG.cell_ (k := 2) rfl
  have c3 := hG.cell_ (k := 3) rfl
  have hgp := hG.lt_size
  rw [hm.nv] at er
  have hs := hm.small
  cases hp : isPl n m.nv
  · have S := fun w => cPlace_any n m.nv w
    simp only [hp] at S
    go_enter Try.func92, Try.ntmps92
    go_wp2_with (first | (with_reducible refine wpList_box (o := ⟨some 3, _, _, _, _, _⟩) rfl (.tmp 0) 53 rfl j.cells rfl 4 (jn4 j) (by decide) ?_; intro g w1 hg hF hB1; have f0 := hF.cell_ (k := 0) rfl; have f1 := hF.cell_ (k := 1) rfl; have f2 := hF.cell_ (k := 2) rfl; have f3 := hF.cell_ (k := 3) rfl; have d0 := (hB1.cell (p := ⟨gp, 0, none⟩) hgp).trans c0; have d1 := (hB1.cell (p := ⟨gp, 1, none⟩) hgp).trans c1; have d2 := (hB1.cell (p := ⟨gp, 2, none⟩) hgp).trans c2; have d3 := (hB1.cell (p := ⟨gp, 3, none⟩) hgp).trans c3; have hm1 := hm.step hB1) | (go_at_call 91; refine (S _).mono ?_; rintro e w' ⟨rfl, rfl⟩))
    go_ret
    exact ⟨ret_bool (by rw [er, hp]; rfl), hB1⟩
  · have S := fun w => cPlace_any n m.nv w
    simp only [hp] at S
    have hb := isPl_true hp
    rw [hp, Bool.true_and] at er
    obtain ⟨k, rfl⟩ : ∃ k : Nat, n = (k : Int) := ⟨n.toNat, by omega⟩
    have hk : k < m.nv := by omega
    have HP := Lib.hid hp
    clear hp
    obtain ⟨b, o, hA, hbb, v, HX, hx, hc⟩ := hm.vars.quad vr4 hm.nv hk
    have hv : m.p.vars.getD (k : Int).toNat default = v := by
      have := HX.out
      simp [List.getD, this]
    rw [hv] at er
    rw [Pm.cells, hA] at hG
    have c1 := hG.cell_ (k := 1) rfl
    have hcl := (hm.okv v hx).cls
    go_enter Try.func92, Try.ntmps92
    go_wp2_with (first | (with_reducible refine wpList_box (o := ⟨some 3, _, _, _, _, _⟩) rfl (.tmp 0) 53 rfl j.cells rfl 4 (jn4 j) (by decide) ?_; intro g w1 hg hF hB1; have d1 := (hB1.cell (p := ⟨gp, 1, none⟩) hgp).trans c1; have e1 := (hc.below hB1).cell4 1 _ rfl) | (go_at_call 91; refine (S _).mono ?_; rintro e w' ⟨rfl, rfl⟩))
    go_ret
    exact ⟨ret_bool (by rw [er]; exact ne_one v.cls), hB1⟩
set_option maxHeartbeats 4000000 in
set_option maxRecDepth 100000 in
theorem may106_any (m : Pm) (j : Jn) (n : Int) (base gp : Nat) (w : World) (hG : Fresh base 26 w (some ⟨gp, 0, none⟩) 4 4 m.cells) (hm : PmAt w.heap.size w m) (hi : m.ni < 9223372036854775807) :
    Calls Try.prog 93 #[.agg j.cells.toArray, .int .i64 n, .pointer (some ⟨gp, 0, none⟩)] w fun e w' => e = .returned (.bool (mayF m.p j 106 n)) ∧ Below w.heap.size w w' := by
  have er : mayF m.p j 106 n = isPl n (m.p.ins.length + 1) := rfl
  have c0 := hG.cell_ (k := 0) rfl
  have c1 := hG.cell_ (k := 1) rfl
  have c2 := hG.cell_ (k := 2) rfl
  have c3 := hG.cell_ (k := 3) rfl
  have hgp := hG.lt_size
  rw [hm.ni] at er
  go_enter Try.func93, Try.ntmps93
  go_wp2_with (first | (with_reducible refine wpList_box (o := ⟨some 3, _, _, _, _, _⟩) rfl (.tmp 0) 53 rfl j.cells rfl 4 (jn4 j) (by decide) ?_; intro g w1 hg hF hB1; have f0 := hF.cell_ (k := 0) rfl; have f1 := hF.cell_ (k := 1) rfl; have f2 := hF.cell_ (k := 2) rfl; have f3 := hF.cell_ (k := 3) rfl; have d0 := (hB1.cell (p := ⟨gp, 0, none⟩) hgp).trans c0; have d1 := (hB1.cell (p := ⟨gp, 1, none⟩) hgp).trans c1; have d2 := (hB1.cell (p := ⟨gp, 2, none⟩) hgp).trans c2; have d3 := (hB1.cell (p := ⟨gp, 3, none⟩) hgp).trans c3; have hm1 := hm.step hB1) | (go_at_call 91; refine (cPlace_any n ((m.ni : Int) + 1) _).mono ?_; rintro e w' ⟨rfl, rfl⟩))
  go_ret
  exact ⟨ret_bool (by rw [er]), hB1⟩
set_option maxHeartbeats 4000000 in
set_option maxRecDepth 100000 in
theorem may98_any (m : Pm) (j : Jn) (n : Int) (base gp : Nat) (w : World) (hG : Fresh base 26 w (some ⟨gp, 0, none⟩) 4 4 m.cells) (hm : PmAt w.heap.size w m) :
    Calls Try.prog 94 #[.agg j.cells.toArray, .int .i64 n, .pointer (some ⟨gp, 0, none⟩)] w fun e w' => e = .returned (.bool (mayF m.p j 98 n)) ∧ Below w.heap.size w w' := by
  have er : mayF m.p j 98 n = isPl n m.p.blocks.length := rfl
  have c0 := hG.cell_ (k := 0) rfl
  have c1 := hG.cell_ (k := 1) rfl
  have c2 := hG.cell_ (k := 2) rfl
  have c3 := hG.cell_ (k := 3) rfl
  have hgp := hG.lt_size
  rw [hm.nb] at er
  go_enter Try.func94, Try.ntmps94
  go_wp2_with (first | (with_reducible refine wpList_box (o := ⟨some 3, _, _, _, _, _⟩) rfl (.tmp 0) 53 rfl j.cells rfl 4 (jn4 j) (by decide) ?_; intro g w1 hg hF hB1; have f0 := hF.cell_ (k := 0) rfl; have f1 := hF.cell_ (k := 1) rfl; have f2 := hF.cell_ (k := 2) rfl; have f3 := hF.cell_ (k := 3) rfl; have d0 := (hB1.cell (p := ⟨gp, 0, none⟩) hgp).trans c0; have d1 := (hB1.cell (p := ⟨gp, 1, none⟩) hgp).trans c1; have d2 := (hB1.cell (p := ⟨gp, 2, none⟩) hgp).trans c2; have d3 := (hB1.cell (p := ⟨gp, 3, none⟩) hgp).trans c3; have hm1 := hm.step hB1) | (go_at_call 91; refine (cPlace_any n _ _).mono ?_; rintro e w' ⟨rfl, rfl⟩))
  go_ret
  exact ⟨ret_bool (by rw [er]), hB1⟩
set_option maxHeartbeats 4000000 in
set_option maxRecDepth 100000 in
theorem may111_any (m : Pm) (j : Jn) (n : Int) (base gp : Nat) (w : World) (hG : Fresh base 26 w (some ⟨gp, 0, none⟩) 4 4 m.cells) (hm : PmAt w.heap.size w m) (ha : isPl j.a m.nb = true) :
    Calls Try.prog 95 #[.agg j.cells.toArray, .int .i64 n, .pointer (some ⟨gp, 0, none⟩)] w fun e w' => e = .returned (.bool (mayF m.p j 111 n)) ∧ Below w.heap.size w w' := by
  have er : mayF m.p j 111 n = isPl n ((pinsF (m.p.blocks.getD j.a.toNat 0).toNat).2.length) := rfl
  have c0 := hG.cell_ (k := 0) rfl
  have c1 := hG.cell_ (k := 1) rfl
  have c2 := hG.cell_ (k := 2) rfl
  have c3 := hG.cell_ (k := 3) rfl
  have hgp := hG.lt_size
  have hb := isPl_true ha
  have hs := hm.small
  obtain ⟨k, hk0⟩ : ∃ k : Nat, j.a = (k : Int) := ⟨j.a.toNat, by omega⟩
  have hk : k < m.nb := by omega
  obtain ⟨b, o, hA, hbb, v, HX, hx, hc⟩ := hm.blocks.byte hm.nb hk
  have hv : m.p.blocks.getD j.a.toNat 0 = v := by
    have := HX.out
    rw [hk0]
    simp [List.getD, this]
  rw [hv] at er
  rw [Pm.cells, hA] at hG
  have c2 := hG.cell_ (k := 2) rfl
  go_enter Try.func95, Try.ntmps95
  go_wp2_with (first | (with_reducible refine wpList_box (o := ⟨some 3, _, _, _, _, _⟩) rfl (.tmp 0) 53 rfl j.cells rfl 4 (jn4 j) (by decide) ?_; intro g w1 hg hF hB1; have d2 := (hB1.cell (p := ⟨gp, 2, none⟩) hgp).trans c2; have f2 := hF.cell_ (k := 2) rfl; rw [hk0] at f2; have e2 := (hB1.cell (p := ⟨b, o + k, none⟩) hbb).trans hc) | (go_at_call 20; refine (Pins_any v.toNat _).mono ?_; rintro e w2 ⟨A1, n1, B1, n2, rfl, hF1, hF2, hB2⟩) | (go_at_call 91; refine (cPlace_any n _ _).mono ?_; rintro e w' ⟨rfl, rfl⟩))
  go_ret
  exact ⟨ret_bool (by rw [er]), Below.then_ hB1 hB2⟩
end Go.Proofs.Ytangblcfdboghaa
