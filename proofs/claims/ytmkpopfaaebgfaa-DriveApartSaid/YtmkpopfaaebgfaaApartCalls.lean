/-
  A part of a drive; whether these words are read at a place.
-/
import Derived.Test.YtmkpopfaaebgfaaApartPure
namespace Go.Proofs.Ytmkpopfaaebgfaa
open Go.RowKit
set_option linter.unusedVariables false

section
variable {w : World} {base d p b f m : Nat} {S : Fl}
theorem Part_yes (h : DrAt base w d p b f m S) (f2 m2 : Nat) (hf : f2 + m2 ≤ m) (h1 : 1 ≤ m2) (hb : base ≤ w.heap.size) : Calls Try.prog 85 #[.pointer (some ⟨d, 0, none⟩), .int .i64 (f2 : Int), .int .i64 (m2 : Int)] w fun e w' =>
    ∃ d2, e = .returned (.tuple #[.pointer (some ⟨d2, 0, none⟩), .int .i64 0]) ∧ DrAt base w' d2 p b (f + f2) m2 S ∧ Below w.heap.size w w' := by
  have hm := h.small
  have hI := isDrive_any h
  obtain ⟨c0, c1, c2, c3⟩ := h.c
  have hH := hasSectors_any m (by omega) (f2 : Int) (m2 : Int) (by omega) true (by simp [secsOk]; omega) w
  have hM := fun (q : Nat) => dmade_any p (f + f2) m2 (w.drewN q)
  have hcast : ((f + f2 : Nat) : Int) = (f : Int) + (f2 : Int) := by omega
  have hw := wrapI ((f : Int) + (f2 : Int)) (by omega) (by omega)
  have hw' := wrap64I ((f : Int) + (f2 : Int)) (by omega) (by omega)
  have fin : ∀ d2 w', Fresh w.heap.size 139 w' (some ⟨d2, 0, none⟩) 4 4 (drObj d2 p (f + f2) m2) → Below w.heap.size w w' → DrAt base w' d2 p b (f + f2) m2 S := fun d2 w' hF hB => ⟨h.nor.below hB, hF.lower hb, by have := h.fits; omega, h1⟩
  rw [hcast] at hM
  clear hf hcast
  go_enter Try.func85, Try.ntmps85
  go_wp2_with fail
  refine hI.mono ?_
  rintro e w1 ⟨rfl, rfl⟩
  go_wp2_with fail
  refine hH.mono ?_
  rintro e w2 ⟨rfl, rfl⟩
  go_wp2_with fail
  refine region_qtail 11 (by kernel_rfl) (by kernel_rfl) ?_
  simp only [List.take_succ_cons, List.take_zero, List.drop_succ_cons, List.drop_zero]
  repeat (go_big_quiet_step (fail))
  refine wpQuiet_nil ?_
  rintro _ ⟨nq, rfl⟩
  go_wp2_with fail
  refine (hM nq).mono ?_
  rintro e w3 ⟨d2, rfl, hF, hB⟩
  have hB' := Below.then_ (below_drewN' (Below.refl w2.heap.size w2) nq) hB
  go_wp2_with fail
  go_ret2
  exact ⟨d2, rfl, fin d2 _ hF hB', hB'⟩
theorem reads5_any (h : DrAt base w d p b f m S) (hd : S.down = false) (at_ n c : Nat) (A : Option Addr) (l : List UInt32) (hs : Sees w w.heap.size A (cw l)) (hl : l.length = n) (hok : at_ + n ≤ 64 * m) (heq : S.at_ f at_ n = l) :
    Calls Try.prog 92 #[.pointer (some ⟨d, 0, none⟩), .int .i64 (at_ : Int), .slice A n c] w fun e w' => e = .returned (.bool true) ∧ Below w.heap.size w w' := by
  have hm := h.small
  have hR := dRead_at h hd at_ n hok
  rw [heq] at hR
  have hn : n ≤ 65536 := by omega
  have HL := Lib.hid hl
  clear hok heq hl
  go_enter Try.func92, Try.ntmps92
  go_wp2_with fail
  refine hR.mono ?_
  rintro e w1 ⟨G, rfl, hF, hB⟩
  have h1 := hF.sees
  have h2 := hs.step hB
  go_wp2_with fail
  refine (SameWords_any (some ⟨G, 0, none⟩) A n c n n l l w1 h1 h2 HL.out HL.out (by omega)).mono ?_
  rintro e w2 ⟨rfl, q, rfl⟩
  go_wp2_with fail
  go_ret
  exact ⟨by simp, below_drewN' hB q⟩
end
end Go.Proofs.Ytmkpopfaaebgfaa
