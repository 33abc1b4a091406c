/-
  The chapter's examples of tallies, run as the statements do.
-/
import Derived.Test.YtpdfalgjmeagjaaTallyOpen
namespace Go.Proofs.Ytpdfalgjmeagjaa
open Go.RowKit Go.Shelf
set_option linter.unusedVariables false

theorem TyAt.base3 {w w' : World} {base t d p b f last : Nat} {over : Bool} {S : Fl} (h : TyAt base w t d p b f S last over) (hb : base ≤ w.heap.size) {w0 : World} (h0 : Below base w0 w) (x : But3 t p b w w') : Below base w0 w' ∧ base ≤ w'.heap.size := by
  obtain ⟨-, h1⟩ := h.lt
  obtain ⟨-, -, h2, h3⟩ := h.dr.nor.lt
  exact ⟨h0.trans (x.below h1 h2 h3 hb), Nat.le_trans hb x.size⟩
theorem TyAt.base1 {w w' : World} {base t d p b f last : Nat} {over : Bool} {S : Fl} (h : TyAt base w t d p b f S last over) (hb : base ≤ w.heap.size) {w0 : World} (h0 : Below base w0 w) (x : But t t w w') : Below base w0 w' ∧ base ≤ w'.heap.size := h.base3 hb h0 (But3.of_own x p b)
theorem TyAt.base0 {w w' : World} {base t d p b f last : Nat} {over : Bool} {S : Fl} (h : TyAt base w t d p b f S last over) (hb : base ≤ w.heap.size) {w0 : World} (h0 : Below base w0 w) (x : Below w.heap.size w w') : Below base w0 w' ∧ base ≤ w'.heap.size := h.base3 hb h0 (But3.of_below x t p b)
set_option maxHeartbeats 1000000 in
set_option maxRecDepth 100000 in
theorem awake6_any (w : World) : Calls Try.prog 49 #[] w fun e w' => e = .returned (.bool true) ∧ Below w.heap.size w w' := by
  have HD := Lib.hid ex_d
  have HC := Lib.hid ex_c
  have HR := Lib.hid ex_r
  go_enter Try.func49, Try.ntmps49
  go_wp2_with fail
  refine (made6_any w).mono ?_
  rintro e w1 ⟨p, b, d, t, rfl, hT1, hB1⟩
  have hz1 := hB1.size
  go_wp2_with fail
  refine (Count_any hT1 HD.out.1 hz1 0 HC.out.1).mono ?_
  rintro e w2 ⟨rfl, hT2, hx2⟩
  obtain ⟨hB2, hz2⟩ := hT1.base1 hz1 hB1 hx2
  clear hT1 hx2 hB1 hz1
  go_wp2_with fail
  refine (Step_any hT2 hz2 ex1 0 1 false ex_s1).mono ?_
  rintro e w3 ⟨rfl, hT3, hx3⟩
  obtain ⟨hB3, hz3⟩ := hT2.base3 hz2 hB2 hx3
  clear hT2 hx3 hB2 hz2
  go_wp2_with fail
  have hF := Fresh.new w3 22 (cw [1, 4294967294]) 2 rfl (by decide)
  have hBa := below_alloc w3 (.cells (cw [1, 4294967294]).toArray 22 (0, 0))
  have hT4 := hT3.below hBa
  obtain ⟨hB4, hz4⟩ := hT3.base0 hz3 hB3 hBa
  refine (reads6_any hT4.dr HD.out.2.1 0 2 2 _ [1, 4294967294] hF.sees rfl (by omega) HR.out.1).mono ?_
  rintro e w5 ⟨rfl, hx5⟩
  have hT5 := hT4.below hx5
  obtain ⟨hB5, hz5⟩ := hT4.base0 hz4 hB4 hx5
  clear hT4 hx5 hB4 hz4 hT3 hB3 hz3 hF hBa
  go_wp2_with fail
  refine (Count_any hT5 HD.out.2.1 hz5 1 HC.out.2.1).mono ?_
  rintro e w6 ⟨rfl, hT6, hx6⟩
  obtain ⟨hB6, hz6⟩ := hT5.base1 hz5 hB5 hx6
  clear hT5 hx6 hB5 hz5
  go_wp2_with fail
  refine (Step_any hT6 hz6 ex2 0 2 false ex_s2).mono ?_
  rintro e w7 ⟨rfl, hT7, hx7⟩
  obtain ⟨hB7, hz7⟩ := hT6.base3 hz6 hB6 hx7
  clear hT6 hx7 hB6 hz6
  go_wp2_with fail
  have hF := Fresh.new w7 22 (cw [2147483647]) 1 rfl (by decide)
  have hBa := below_alloc w7 (.cells (cw [2147483647]).toArray 22 (0, 0))
  have hT8 := hT7.below hBa
  obtain ⟨hB8, hz8⟩ := hT7.base0 hz7 hB7 hBa
  refine (reads6_any hT8.dr HD.out.2.2 2 1 1 _ [2147483647] hF.sees rfl (by omega) HR.out.2).mono ?_
  rintro e w9 ⟨rfl, hx9⟩
  have hT9 := hT8.below hx9
  obtain ⟨hB9, hz9⟩ := hT8.base0 hz8 hB8 hx9
  clear hT8 hx9 hB8 hz8 hT7 hB7 hz7 hF hBa
  go_wp2_with fail
  refine (Count_any hT9 HD.out.2.2 hz9 2 HC.out.2.2).mono ?_
  rintro e w10 ⟨rfl, hT10, hx10⟩
  obtain ⟨hB10, hz10⟩ := hT9.base1 hz9 hB9 hx10
  clear hT9 hx10 hB9 hz9
  go_wp2_with fail
  go_ret
  exact ⟨rfl, hB10⟩
end Go.Proofs.Ytpdfalgjmeagjaa
