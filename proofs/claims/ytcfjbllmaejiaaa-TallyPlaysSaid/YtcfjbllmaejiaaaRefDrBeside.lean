/-
  A drive of a flash beside the document's own drive, and flash; what reading tells on both sides.
-/
import Derived.Test.YtcfjbllmaejiaaaRefBeside
import Derived.Test.YtcfjbllmaejiaaaRefDrWrite
import Derived.Test.YtcfjbllmaejiaaaDrNo
import Derived.Test.YtcfjbllmaejiaaaDrHalf
namespace Go.Proofs.Ytcfjbllmaejiaaa
open Go.RowKit
set_option linter.unusedVariables false

/-- Two worlds above one, the later with all that the earlier has. -/
theorem below_of {B : Nat} {W w w2 : World} (h : Below B W w) (hB : Below B W w2) (hs : w.heap.size ≤ w2.heap.size) (hk : ∀ k, k < w.heap.size → w2.heap[k]? = w.heap[k]?) : Below w.heap.size w w2 := ⟨hB.os.trans h.os.symm, hB.tape.trans h.tape.symm, hB.output.trans h.output.symm, hs, hk⟩
structure BesideD (W w : World) (p b g gb c d gv f m : Nat) (S : Fl) : Prop where
  bs : Beside W w p b g gb c S
  obj : Fresh W.heap.size 160 w (some ⟨d, 0, none⟩) 4 4 (drObj d p f m)
  v : Fresh W.heap.size 35 w (some ⟨gv, 0, none⟩) 2 2 (rdL (f : Int) (m : Int))
  fits : f + m ≤ S.n
  some_ : 1 ≤ m
  dg : d ≠ g
  vg : gv ≠ g
  vp : gv ≠ p
  vb : gv ≠ b
section
variable {W w w1 w2 w3 : World} {p b g gb c c3 d gv f m : Nat} {S T : Fl}
theorem BesideD.at_ (h : BesideD W w p b g gb c d gv f m S) : DrAt W.heap.size w d p b f m S := ⟨h.bs.nor, h.obj, h.fits, h.some_⟩
theorem BesideD.step (h : BesideD W w p b g gb c d gv f m S) (x : Below w.heap.size w w1) : BesideD W w1 p b g gb c d gv f m S :=
  ⟨h.bs.step x, h.obj.below x, h.v.below x, h.fits, h.some_, h.dg, h.vg, h.vp, h.vb⟩
theorem BesideD.small (h : BesideD W w p b g gb c d gv f m S) : f + m ≤ 1024 := Nat.le_trans h.fits h.bs.nor.n_le
theorem BesideD.half (h : BesideD W w p b g gb c d gv f m S) (x : But p b w w1) : Fresh W.heap.size 35 w1 (some ⟨gv, 0, none⟩) 2 2 (rdL (f : Int) (m : Int)) := h.v.but x h.vp h.vb
theorem BesideD.then_ (h : BesideD W w p b g gb c d gv f m S) (x : But p b w w1) (hN : NorAt W.heap.size w1 p b T) (hn : T.n = S.n) {B : Option Addr} (hT : RnTo w1 w2 (some ⟨gb, 0, none⟩) B c c3 S T) (y : Below w1.heap.size w1 w2)
    (hF : Fresh W.heap.size 30 w3 (some ⟨g, 0, none⟩) 5 5 (T.rL B c3)) (ho : ∀ k, k ≠ g → w3.heap[k]? = w2.heap[k]?) (hB : Below W.heap.size W w3) : ∃ gb2, B = some ⟨gb2, 0, none⟩ ∧ BesideD W w3 p b g gb2 c3 d gv f m T := by
  obtain ⟨gb2, rfl, hJ⟩ := h.bs.then_ x hN hn hT y hF ho hB
  have h1 := h.at_.turn x hN hn
  exact ⟨gb2, rfl, hJ, (h1.obj.below y).other h.dg ho, ((h.half x).below y).other h.vg ho, by rw [hn]; exact h.fits, h.some_, h.dg, h.vg, h.vp, h.vb⟩
/-- What reading tells. -/
def Fl.dreadL (S : Fl) (f m : Nat) (a k : Int) : List UInt32 := match wordsOk m a k, S.down with
  | true, false => S.at_ f a.toNat k.toNat
  | _, _ => []
theorem dRead_tells {base : Nat} (h : DrAt base w d p b f m S) (a k : Int) (ha : a < 9223372036854775808) (hk : k ≤ 1099511627776) (l : List UInt32) (hl : S.dreadL f m a k = l) (r : Nat) (hr : S.dreadE m a k = r) :
    Calls Try.prog 96 #[.pointer (some ⟨d, 0, none⟩), .int .i64 a, .int .i64 k] w fun e w' =>
      ∃ A n c, e = .returned (.tuple #[.slice A n c, .int .i64 (r : Int)]) ∧ Sees w' w'.heap.size A (cw l) ∧ l.length = n ∧ n ≤ 1099511627776 ∧ Below w.heap.size w w' := by
  by_cases hno : wordsOk m a k = false ∨ S.down = true
  · have e : readErr S m a k = r := by
      rw [← hr]
      unfold readErr Fl.dreadE
      rcases hno with h1 | h1
      · rw [h1]
      · rw [h1]
        cases wordsOk m a k <;> rfl
    have el : ([] : List UInt32) = l := by
      rw [← hl]
      unfold Fl.dreadL
      rcases hno with h1 | h1
      · rw [h1]
      · rw [h1]
        cases wordsOk m a k <;> rfl
    subst el
    refine (dRead_no h a k ha hno).mono ?_
    rintro _ _ ⟨rfl, rfl⟩
    rw [e]
    exact ⟨_, _, _, rfl, Sees.nil, rfl, by omega, Below.refl _ _⟩
  · have h1 : wordsOk m a k = true := by
      cases h1 : wordsOk m a k
      · exact absurd (.inl h1) hno
      · rfl
    have h2 : S.down = false := by
      cases h2 : S.down
      · rfl
      · exact absurd (.inr h2) hno
    obtain ⟨at_, many, rfl, rfl, hok⟩ := wordsOk_out h1
    obtain rfl : 0 = r := by rw [← hr]; simp [Fl.dreadE, h1, h2]
    obtain rfl : S.at_ f at_ many = l := by rw [← hl]; simp [Fl.dreadL, h1, h2]
    refine (dRead_ok h h2 at_ many hok).mono ?_
    rintro _ _ ⟨A, c, rfl, hF, hB⟩
    exact ⟨_, _, _, rfl, hF.sees, h.at_len hok, by omega, hB⟩
theorem rdRead_tells {A : Option Addr} (h : RnAt w A c S) (f m : Nat) (hfm : f + m ≤ S.n) (a k : Int) (ha : a < 9223372036854775808) (l : List UInt32) (hl : S.dreadL f m a k = l) (r : Nat) (hr : S.dreadE m a k = r) :
    Calls Try.prog 55 #[.agg (rdL (f : Int) (m : Int)).toArray, .agg (S.rL A c).toArray, .int .i64 a, .int .i64 k] w fun e w' =>
      ∃ B n d, e = .returned (.tuple #[.slice B n d, .int .i64 (r : Int)]) ∧ Sees w' w'.heap.size B (cw l) ∧ l.length = n ∧ Below w.heap.size w w' := by
  have hn := h.n_le
  by_cases hno : wordsOk m a k = false ∨ S.down = true
  · have e : readErr S m a k = r := by
      rw [← hr]
      unfold readErr Fl.dreadE
      rcases hno with h1 | h1
      · rw [h1]
      · rw [h1]
        cases wordsOk m a k <;> rfl
    have el : ([] : List UInt32) = l := by
      rw [← hl]
      unfold Fl.dreadL
      rcases hno with h1 | h1
      · rw [h1]
      · rw [h1]
        cases wordsOk m a k <;> rfl
    subst el
    refine (rdRead_no h f m (by omega) a k ha hno).mono ?_
    rintro _ _ ⟨rfl, hB⟩
    rw [e]
    exact ⟨_, _, _, rfl, Sees.nil, rfl, hB⟩
  · have h1 : wordsOk m a k = true := by
      cases h1 : wordsOk m a k
      · exact absurd (.inl h1) hno
      · rfl
    have h2 : S.down = false := by
      cases h2 : S.down
      · rfl
      · exact absurd (.inr h2) hno
    obtain ⟨at_, many, rfl, rfl, hok⟩ := wordsOk_out h1
    obtain rfl : 0 = r := by rw [← hr]; simp [Fl.dreadE, h1, h2]
    obtain rfl : S.at_ f at_ many = l := by rw [← hl]; simp [Fl.dreadL, h1, h2]
    refine (rdRead_ok h h2 f m at_ many hfm hok).mono ?_
    rintro _ _ ⟨B, d, rfl, hF, hB⟩
    exact ⟨_, _, _, rfl, hF.sees, by simp [Fl.at_, h.len]; omega, hB⟩
end
end Go.Proofs.Ytcfjbllmaejiaaa
