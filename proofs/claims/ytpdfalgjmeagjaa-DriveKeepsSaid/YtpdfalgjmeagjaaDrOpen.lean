/-
  Open and Part of a drive.
-/
import Derived.Test.YtpdfalgjmeagjaaDrives
import Derived.Test.YtpdfalgjmeagjaaNorNew
namespace Go.Proofs.Ytpdfalgjmeagjaa
open Go.RowKit
set_option linter.unusedVariables false

section
variable {w : World} {base d p b f m : Nat} {S : Fl}
theorem dmade_any (p f m : Nat) (w : World) : Calls Try.prog 123 #[.pointer (some ⟨p, 0, none⟩), .int .i64 (f : Int), .int .i64 (m : Int)] w fun e w' =>
    ∃ d, e = .returned (.pointer (some ⟨d, 0, none⟩)) ∧ Fresh w.heap.size 184 w' (some ⟨d, 0, none⟩) 4 4 (drObj d p f m) ∧ Below w.heap.size w w' := by
  go_enter Try.func123, Try.ntmps123
  go_wp2_with (with_reducible refine wpList_box (o := ⟨some 12, _, _, _, _, _⟩) rfl (.tmp 11) 184 rfl [.pointer none, .pointer (some ⟨p, 0, none⟩), .int .i64 (f : Int), .int .i64 (m : Int)] rfl 4 rfl (by decide) ?_; intro d w1 hd hF hB; have c0 := hF.cell (j := 0) rfl; have z0 : w1.frozen? ⟨d, 0, none⟩ = false := hF.frozenAt)
  go_ret
  have hF2 := hF.store 0 (.pointer (some ⟨d, 0, none⟩))
  exact ⟨d, rfl, hF2, hB.setCell (p := ⟨d, 0, none⟩) hF.block.2 _⟩
theorem Open_yes_at (h : NorAt base w p b S) (f m : Nat) (hf : f + m ≤ S.n) (h1 : 1 ≤ m) : Calls Try.prog 45 #[.pointer (some ⟨p, 0, none⟩), .int .i64 (f : Int), .int .i64 (m : Int)] w fun e w' =>
    ∃ d, e = .returned (.tuple #[.pointer (some ⟨d, 0, none⟩), .int .i64 0]) ∧ Fresh w.heap.size 184 w' (some ⟨d, 0, none⟩) 4 4 (drObj d p f m) ∧ Below w.heap.size w w' := by
  have hn := h.n_le
  have hS := Sectors_any h
  have hH := hasSectors_any S.n hn (f : Int) (m : Int) (by omega) true (by simp [secsOk]; omega) w
  have hM := dmade_any p f m w
  have h0 : ¬ ((S.n : Int) = 0) := by omega
  have HN := Lib.hid hf
  clear hf
  go_enter Try.func45, Try.ntmps45
  go_wp2_with fail
  refine hS.mono ?_
  rintro e w1 ⟨rfl, rfl⟩
  go_wp2_with fail
  refine hH.mono ?_
  rintro e w2 ⟨rfl, rfl⟩
  go_wp2_with fail
  refine hM.mono ?_
  rintro e w3 ⟨d, rfl, hF, hB⟩
  go_wp2_with fail
  go_ret2
  exact ⟨d, rfl, hF, hB⟩
theorem Open_yes (h : NorAt base w p b S) (f m : Nat) (hf : f + m ≤ S.n) (h1 : 1 ≤ m) (hb : base ≤ w.heap.size) : Calls Try.prog 45 #[.pointer (some ⟨p, 0, none⟩), .int .i64 (f : Int), .int .i64 (m : Int)] w fun e w' =>
    ∃ d, e = .returned (.tuple #[.pointer (some ⟨d, 0, none⟩), .int .i64 0]) ∧ DrAt base w' d p b f m S ∧ Below w.heap.size w w' :=
  (Open_yes_at h f m hf h1).mono fun e w' ⟨d, e1, hF, hB⟩ => ⟨d, e1, ⟨h.below hB, hF.lower hb, hf, h1⟩, hB⟩
theorem Part_yes_at (h : DrAt base w d p b f m S) (f2 m2 : Nat) (hf : f2 + m2 ≤ m) (h1 : 1 ≤ m2) : Calls Try.prog 121 #[.pointer (some ⟨d, 0, none⟩), .int .i64 (f2 : Int), .int .i64 (m2 : Int)] w fun e w' =>
    ∃ d2, e = .returned (.tuple #[.pointer (some ⟨d2, 0, none⟩), .int .i64 0]) ∧ Fresh w.heap.size 184 w' (some ⟨d2, 0, none⟩) 4 4 (drObj d2 p (f + f2) m2) ∧ Below w.heap.size w w' := by
  have hm := h.small
  have hI := isDrive_any h
  obtain ⟨c0, c1, c2, c3⟩ := h.c
  have hH := hasSectors_any m (by omega) (f2 : Int) (m2 : Int) (by omega) true (by simp [secsOk]; omega) w
  have hM := fun (q : Nat) => dmade_any p (f + f2) m2 (w.drewN q)
  have hcast : ((f + f2 : Nat) : Int) = (f : Int) + (f2 : Int) := by omega
  have hw := wrapI ((f : Int) + (f2 : Int)) (by omega) (by omega)
  have hw' := wrap64I ((f : Int) + (f2 : Int)) (by omega) (by omega)
  rw [hcast] at hM
  clear hf hcast
  go_enter Try.func121, Try.ntmps121
  go_wp2_with fail
  refine hI.mono ?_
  rintro e w1 ⟨rfl, rfl⟩
  go_wp2_with fail
  refine hH.mono ?_
  rintro e w2 ⟨rfl, rfl⟩
  go_wp2_with fail
  refine region_qtail 11 (by kernel_rfl) (by kernel_rfl) ?_
  simp only [List.take_succ_cons, List.take_zero, List.drop_succ_cons, List.drop_zero]
  repeat (go_big_quiet_step (fail))
  refine wpQuiet_nil ?_
  rintro _ ⟨nq, rfl⟩
  go_wp2_with fail
  refine (hM nq).mono ?_
  rintro e w3 ⟨d2, rfl, hF, hB⟩
  have hB' := Below.then_ (below_drewN' (Below.refl w2.heap.size w2) nq) hB
  go_wp2_with fail
  go_ret2
  exact ⟨d2, rfl, hF, hB'⟩
theorem Part_yes (h : DrAt base w d p b f m S) (f2 m2 : Nat) (hf : f2 + m2 ≤ m) (h1 : 1 ≤ m2) (hb : base ≤ w.heap.size) : Calls Try.prog 121 #[.pointer (some ⟨d, 0, none⟩), .int .i64 (f2 : Int), .int .i64 (m2 : Int)] w fun e w' =>
    ∃ d2, e = .returned (.tuple #[.pointer (some ⟨d2, 0, none⟩), .int .i64 0]) ∧ DrAt base w' d2 p b (f + f2) m2 S ∧ Below w.heap.size w w' :=
  (Part_yes_at h f2 m2 hf h1).mono fun e w' ⟨d2, e1, hF, hB⟩ => ⟨d2, e1, ⟨h.nor.below hB, hF.lower hb, (by have := h.fits; omega), h1⟩, hB⟩
end
end Go.Proofs.Ytpdfalgjmeagjaa
