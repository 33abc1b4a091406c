/-
  Open and Part of a drive.
-/
import Derived.Test.YtcfjbllmaejiaaaDrives
import Derived.Test.YtcfjbllmaejiaaaNorNew
namespace Go.Proofs.Ytcfjbllmaejiaaa
open Go.RowKit
set_option linter.unusedVariables false

section
variable {w : World} {base d p b f m : Nat} {S : Fl}
theorem dmade_any (p f m : Nat) (w : World) : Calls Try.prog 95 #[.pointer (some ⟨p, 0, none⟩), .int .i64 (f : Int), .int .i64 (m : Int)] w fun e w' =>
    ∃ d, e = .returned (.pointer (some ⟨d, 0, none⟩)) ∧ Fresh w.heap.size 160 w' (some ⟨d, 0, none⟩) 4 4 (drObj d p f m) ∧ Below w.heap.size w w' := by
  go_enter Try.func95, Try.ntmps95
  go_wp2_with (with_reducible refine wpList_box (o := ⟨some 12, _, _, _, _, _⟩) rfl (.tmp 11) 160 rfl [.pointer none, .pointer (some ⟨p, 0, none⟩), .int .i64 (f : Int), .int .i64 (m : Int)] rfl 4 rfl (by decide) ?_; intro d w1 hd hF hB; have c0 := hF.cell (j := 0) rfl; have z0 : w1.frozen? ⟨d, 0, none⟩ = false := hF.frozenAt)
  go_ret
  have hF2 := hF.store 0 (.pointer (some ⟨d, 0, none⟩))
  exact ⟨d, rfl, hF2, hB.setCell (p := ⟨d, 0, none⟩) hF.block.2 _⟩
theorem Open_yes_at (h : NorAt base w p b S) (f m : Nat) (hf : f + m ≤ S.n) (h1 : 1 ≤ m) : Calls Try.prog 50 #[.pointer (some ⟨p, 0, none⟩), .int .i64 (f : Int), .int .i64 (m : Int)] w fun e w' =>
    ∃ d, e = .returned (.tuple #[.pointer (some ⟨d, 0, none⟩), .int .i64 0]) ∧ Fresh w.heap.size 160 w' (some ⟨d, 0, none⟩) 4 4 (drObj d p f m) ∧ Below w.heap.size w w' := by
  have hn := h.n_le
  have hS := Sectors_any h
  have hH := hasSectors_any S.n hn (f : Int) (m : Int) (by omega) true (by simp [secsOk]; omega) w
  have hM := dmade_any p f m w
  have h0 : ¬ ((S.n : Int) = 0) := by omega
  have HN := Lib.hid hf
  clear hf
  go_enter Try.func50, Try.ntmps50
  go_wp2_with fail
  refine hS.mono ?_
  rintro e w1 ⟨rfl, rfl⟩
  go_wp2_with fail
  refine hH.mono ?_
  rintro e w2 ⟨rfl, rfl⟩
  go_wp2_with fail
  refine hM.mono ?_
  rintro e w3 ⟨d, rfl, hF, hB⟩
  go_wp2_with fail
  go_ret2
  exact ⟨d, rfl, hF, hB⟩
theorem Open_yes (h : NorAt base w p b S) (f m : Nat) (hf : f + m ≤ S.n) (h1 : 1 ≤ m) (hb : base ≤ w.heap.size) : Calls Try.prog 50 #[.pointer (some ⟨p, 0, none⟩), .int .i64 (f : Int), .int .i64 (m : Int)] w fun e w' =>
    ∃ d, e = .returned (.tuple #[.pointer (some ⟨d, 0, none⟩), .int .i64 0]) ∧ DrAt base w' d p b f m S ∧ Below w.heap.size w w' :=
  (Open_yes_at h f m hf h1).mono fun e w' ⟨d, e1, hF, hB⟩ => ⟨d, e1, ⟨h.below hB, hF.lower hb, hf, h1⟩, hB⟩
end
end Go.Proofs.Ytcfjbllmaejiaaa
