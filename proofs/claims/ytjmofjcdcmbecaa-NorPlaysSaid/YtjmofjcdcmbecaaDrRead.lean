/-
  What a drive's Read, Blank, Erase, Open and Part answer.
-/
import Derived.Test.YtjmofjcdcmbecaaDrSmall
namespace Go.Proofs.Ytjmofjcdcmbecaa
open Go.RowKit
set_option linter.unusedVariables false

section
variable {w : World} {base d p b f m : Nat} {S : Fl}
/-- The words of a drive. -/
def Fl.at_ (S : Fl) (f at_ many : Nat) : List UInt32 := (S.ws.drop (64 * f + at_)).take many
theorem DrAt.at_len (h : DrAt base w d p b f m S) {at_ many : Nat} (hok : at_ + many ≤ 64 * m) : (S.at_ f at_ many).length = many := by
  have := h.nor.len
  have := h.fits
  simp [Fl.at_]
  omega
theorem wordsOk_in {m at_ many : Nat} (h : at_ + many ≤ 64 * m) : wordsOk m (at_ : Int) (many : Int) = true := by
  simp [wordsOk]
  omega
theorem wordsOk_out {m : Nat} {a k : Int} (h : wordsOk m a k = true) : ∃ at_ many : Nat, a = (at_ : Int) ∧ k = (many : Int) ∧ at_ + many ≤ 64 * m := by
  simp [wordsOk] at h
  obtain ⟨⟨h1, h2⟩, h3⟩ := h
  obtain ⟨x, rfl⟩ := Int.eq_ofNat_of_zero_le h1
  obtain ⟨y, rfl⟩ := Int.eq_ofNat_of_zero_le h2
  exact ⟨x, y, rfl, rfl, by omega⟩
set_option maxRecDepth 100000 in
theorem dRead_at (h : DrAt base w d p b f m S) (hd : S.down = false) (at_ many : Nat) (hok : at_ + many ≤ 64 * m) :
    Calls Try.prog 61 #[.pointer (some ⟨d, 0, none⟩), .int .i64 (at_ : Int), .int .i64 (many : Int)] w fun e w' =>
      ∃ G, e = .returned (.tuple #[.slice (some ⟨G, 0, none⟩) many many, .int .i64 0]) ∧ Fresh w.heap.size 22 w' (some ⟨G, 0, none⟩) many many (cw (S.at_ f at_ many)) ∧ Below w.heap.size w w' := by
  have hm := h.small
  have hI := isDrive_any h
  have hP := dPlace_any h (at_ : Int) (many : Int) (by omega) true (wordsOk_in hok)
  have hD := Down_any h.nor
  rw [hd] at hD
  have hW := words_at h hd at_ many hok
  obtain ⟨-, c1, -⟩ := h.c
  go_enter Try.func61, Try.ntmps61
  go_wp2_with fail
  refine hI.mono ?_
  rintro e w1 ⟨rfl, rfl⟩
  go_wp2_with fail
  refine hP.mono ?_
  rintro e w2 ⟨rfl, rfl⟩
  go_wp2_with fail
  refine hD.mono ?_
  rintro e w3 ⟨rfl, rfl⟩
  go_wp2_with fail
  refine hW.mono ?_
  rintro e w4 ⟨G, rfl, hF, hB⟩
  go_wp2_with fail
  go_ret2
  exact ⟨G, rfl, hF, hB⟩
theorem dRead_ok (h : DrAt base w d p b f m S) (hd : S.down = false) (at_ many : Nat) (hok : at_ + many ≤ 64 * m) :
    Calls Try.prog 61 #[.pointer (some ⟨d, 0, none⟩), .int .i64 (at_ : Int), .int .i64 (many : Int)] w fun e w' =>
      ∃ A c, e = .returned (.tuple #[.slice A many c, .int .i64 0]) ∧ Fresh w.heap.size 22 w' A many c (cw (S.at_ f at_ many)) ∧ Below w.heap.size w w' :=
  (dRead_at h hd at_ many hok).mono fun e w' ⟨G, h1, h2, h3⟩ => ⟨_, _, h1, h2, h3⟩
/-- Which error Read ends with. -/
def readErr (S : Fl) (m : Nat) (a k : Int) : Nat := match wordsOk m a k with
  | false => 2
  | true => 40
set_option maxRecDepth 100000 in
theorem dRead_no (h : DrAt base w d p b f m S) (a k : Int) (ha : a < 9223372036854775808) (hno : wordsOk m a k = false ∨ S.down = true) :
    Calls Try.prog 61 #[.pointer (some ⟨d, 0, none⟩), .int .i64 a, .int .i64 k] w fun e w' =>
      e = .returned (.tuple #[.slice none 0 0, .int .i64 (readErr S m a k : Int)]) ∧ w' = w := by
  have hI := isDrive_any h
  have hD := Down_any h.nor
  obtain ⟨-, c1, -⟩ := h.c
  cases hr : wordsOk m a k
  · have hP := dPlace_any h a k ha false hr
    rw [show readErr S m a k = 2 from by simp [readErr, hr]]
    clear hr hno ha
    go_enter Try.func61, Try.ntmps61
    go_wp2_with fail
    refine hI.mono ?_
    rintro e w1 ⟨rfl, rfl⟩
    go_wp2_with fail
    refine hP.mono ?_
    rintro e w2 ⟨rfl, rfl⟩
    go_wp2_with fail
    go_ret2
    exact ⟨rfl, rfl⟩
  · have hP := dPlace_any h a k ha true hr
    rw [show readErr S m a k = 40 from by simp [readErr, hr]]
    obtain hd : S.down = true := by
      rcases hno with h1 | h1
      · rw [hr] at h1; cases h1
      · exact h1
    rw [hd] at hD
    clear hr hno ha hd
    go_enter Try.func61, Try.ntmps61
    go_wp2_with fail
    refine hI.mono ?_
    rintro e w1 ⟨rfl, rfl⟩
    go_wp2_with fail
    refine hP.mono ?_
    rintro e w2 ⟨rfl, rfl⟩
    go_wp2_with fail
    refine hD.mono ?_
    rintro e w3 ⟨rfl, rfl⟩
    go_wp2_with fail
    go_ret2
    exact ⟨rfl, rfl⟩
/-- Are so many words, from this one on, of ones? -/
def onesL (l : List UInt32) : Bool := l.all fun x => x == 4294967295
def Fl.blank (S : Fl) (f m : Nat) (a k : Int) : Bool := wordsOk m a k && !S.down && onesL (S.at_ f a.toNat k.toNat)
set_option maxHeartbeats 1000000 in
set_option maxRecDepth 100000 in
theorem dBlank_any (h : DrAt base w d p b f m S) (a k : Int) (ha : a < 9223372036854775808) (r : Bool) (hr : S.blank f m a k = r) :
    Calls Try.prog 66 #[.pointer (some ⟨d, 0, none⟩), .int .i64 a, .int .i64 k] w fun e w' =>
      e = .returned (.bool r) ∧ Below w.heap.size w w' := by
  by_cases hno : wordsOk m a k = false ∨ S.down = true
  · have hR := dRead_no h a k ha hno
    obtain rfl : r = false := by
      rw [← hr]
      rcases hno with h1 | h1 <;> simp [Fl.blank, h1]
    obtain ⟨z, hz⟩ : ∃ z, readErr S m a k = z + 1 := by
      unfold readErr
      split
      · exact ⟨1, rfl⟩
      · exact ⟨39, rfl⟩
    rw [hz] at hR
    have h0 : ¬ (((z + 1 : Nat) : Int) = 0) := by omega
    clear hr hno ha hz
    go_enter Try.func66, Try.ntmps66
    go_wp2_with fail
    refine hR.mono ?_
    rintro e w1 ⟨rfl, rfl⟩
    go_wp2_with fail
    go_ret
    exact ⟨rfl, Below.refl _ _⟩
  · have h1 : wordsOk m a k = true := by
      cases h1 : wordsOk m a k
      · exact absurd (.inl h1) hno
      · rfl
    have h2 : S.down = false := by
      cases h2 : S.down
      · rfl
      · exact absurd (.inr h2) hno
    obtain ⟨at_, many, rfl, rfl, hok⟩ := wordsOk_out h1
    have hR := dRead_ok h h2 at_ many hok
    have hl := h.at_len hok
    have hm := h.small
    simp only [Fl.blank, h1, h2, Int.toNat_natCast, Bool.not_false, Bool.and_true, Bool.true_and] at hr
    revert hr hR hl
    generalize S.at_ f at_ many = L
    intro hR hl hr
    have HL := Lib.hid hl
    have HR := Lib.hid hr
    have hmm : many ≤ 65536 := by omega
    clear hr hl hno ha h1 h2 hok
    go_enter Try.func66, Try.ntmps66
    go_wp2_with fail
    refine hR.mono ?_
    rintro e w1 ⟨A, c, rfl, hF, hB⟩
    have hs := hF.sees
    go_wp2_with fail
    go_loopw [22] (fun i wr => ∃ j : Nat, j ≤ many ∧ i = .int .i64 (j : Int) ∧ Hid (onesL (L.drop j) = r) ∧ wr = w1) (fun i _ => many - (intOf i).toNat)
    case atStart => exact ⟨0, Nat.zero_le _, rfl, Lib.hid (by simpa using HR.out), rfl⟩
    case round =>
      obtain ⟨j, hj, rfl, hu, rfl⟩ := hrel
      by_cases hlt : j < many
      · obtain ⟨g, o, rfl, hg, x, HX, hx', hcx⟩ := hs.word HL.out hlt
        have hu2 := hu.out
        rw [drop_at32 HX.out] at hu2
        simp only [onesL, List.all_cons] at hu2
        clear hF hs hu HR
        by_cases hx : x = 4294967295
        · subst hx
          rw [beq_self_eq_true, Bool.true_and] at hu2
          have HU := Lib.hid hu2
          clear hu2
          go_wp2_with fail
          go_roundw
          case rel => exact ⟨j + 1, by omega, by go_num, HU, (by first | rfl | trivial)⟩
          case measure => simp [intOf]; omega
        · obtain rfl : r = false := by rw [← hu2]; simp [hx]
          have h0 : ¬ ((x.toNat : Int) = 4294967295) := by
            intro e
            exact hx (UInt32.toNat_inj.1 (by rw [show x.toNat = 4294967295 from by omega]; rfl))
          clear hu2 hx
          go_wp2_with fail
          go_ret
          exact ⟨rfl, hB⟩
      · obtain rfl : j = many := by omega
        have hu2 := hu.out
        rw [List.drop_of_length_le (by rw [HL.out]; exact Nat.le_refl _)] at hu2
        obtain rfl : r = true := by rw [← hu2]; rfl
        clear hF hs hu HR hu2
        go_wp2_with fail
        go_ret
        exact ⟨rfl, hB⟩
end
end Go.Proofs.Ytjmofjcdcmbecaa
