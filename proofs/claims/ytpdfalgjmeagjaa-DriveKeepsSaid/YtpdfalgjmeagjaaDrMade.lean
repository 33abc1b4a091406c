/-
  A drive behind some calls, as the statements make it.
-/
import Derived.Test.YtpdfalgjmeagjaaDrDoes
import Derived.Test.YtpdfalgjmeagjaaDrOpen
namespace Go.Proofs.Ytpdfalgjmeagjaa
open Go.RowKit
set_option linter.unusedVariables false

section
variable {w : World} {base d p b f m : Nat} {S : Fl}
/-- A drive behind calls. -/
def Fl.run5 (S : Fl) (f m : Nat) (l : List Oc) : Fl := l.foldl (fun T o => (T.does5 f m o).1) S
theorem Fl.run5_ok (f m : Nat) : ∀ (l : List Oc) (S : Fl), S.Ok → (S.run5 f m l).n = S.n ∧ (S.run5 f m l).Ok
  | [], S, h => ⟨rfl, h⟩
  | o :: l, S, h => by
    have h1 := Fl.does5_ok S f m o h
    have h2 := Fl.run5_ok f m l (S.does5 f m o).1 h1.2
    exact ⟨h2.1.trans h1.1, h2.2⟩
theorem Fl.run5_take (S : Fl) (f m : Nat) (l : List Oc) (k : Nat) (o : Oc) (h : l[k]? = some o) : S.run5 f m (l.take (k + 1)) = ((S.run5 f m (l.take k)).does5 f m o).1 := by
  rw [List.take_add_one, h]
  generalize l.take k = q
  induction q generalizing S with
  | nil => rfl
  | cons a q ih => exact ih _
abbrev made5 (l : List Oc) : Fl := ((Fl.made 5 0).run5 1 3 (l.take 30)).crash []
theorem Fl.crash_up (S : Fl) (ks : List Bool) : (S.crash ks).down = false ∧ (S.crash ks).armed = false ∧ (S.crash ks).half = -1 ∧ (S.crash ks).n = S.n := by
  unfold Fl.crash
  split <;> exact ⟨rfl, rfl, rfl, rfl⟩
theorem made5_up (l : List Oc) : (made5 l).down = false ∧ (made5 l).armed = false ∧ (made5 l).Ok ∧ (made5 l).n = 5 := by
  obtain ⟨h1, h2, h3, h4⟩ := Fl.crash_up ((Fl.made 5 0).run5 1 3 (l.take 30)) []
  exact ⟨h1, h2, .inl h3, h4.trans (Fl.run5_ok 1 3 (l.take 30) (Fl.made 5 0) (.inl rfl)).1⟩
set_option maxHeartbeats 1000000 in
set_option maxRecDepth 100000 in
theorem made5_any (A : Option Addr) (N c : Nat) (l : List Oc) (hs : Sees w w.heap.size A (ocs l)) (hl : l.length = N) (hok : ∀ o ∈ l, o.Ok w.heap.size w) :
    Calls Try.prog 38 #[.slice A N c] w fun e w' => ∃ p b d, e = .returned (.tuple #[.pointer (some ⟨p, 0, none⟩), .pointer (some ⟨d, 0, none⟩), .bool true]) ∧ DrAt w.heap.size w' d p b 1 3 (made5 l) ∧ Below w.heap.size w w' := by
  have HL := Lib.hid hl
  have HO := Lib.hid hok
  clear hl hok
  go_enter Try.func38, Try.ntmps38
  go_wp2_with fail
  refine (New_yes 5 0 (by omega) (by omega) (by omega) (by omega)).mono ?_
  rintro e w1 ⟨p, b, rfl, hN, hB1⟩
  have hbs := hB1.size
  go_wp2_with fail
  refine (Open_yes hN 1 3 (by show 1 + 3 ≤ 5; omega) (by omega) hbs).mono ?_
  rintro e w2 ⟨d, rfl, hD, hB2⟩
  obtain ⟨hp1, hb1, hp2, hb2⟩ := hD.nor.lt
  have hB12 := Below.then_ hB1 hB2
  clear hN hB1 hB2 hbs
  go_wp2_with fail
  go_loopw [9] (fun i wr => ∃ k : Nat, k ≤ N ∧ k ≤ 30 ∧ i = .int .i64 k ∧ DrAt w.heap.size wr d p b 1 3 ((Fl.made 5 0).run5 1 3 (l.take k)) ∧ Below w.heap.size w wr) (fun i _ => 31 - (intOf i).toNat)
  case atStart => exact ⟨0, by omega, by omega, rfl, hD, hB12⟩
  case round =>
    obtain ⟨k, hk, hk2, rfl, hT, hB⟩ := hrel
    have hbw := hB.size
    have hRok := (Fl.run5_ok 1 3 (l.take k) (Fl.made 5 0) (.inl rfl)).2
    have fin : k = N ∨ k = 30 → l.take k = l.take 30 := by
      rintro (rfl | rfl)
      · rw [List.take_of_length_le (by rw [HL.out]; exact Nat.le_refl _), List.take_of_length_le (by rw [HL.out]; exact hk2)]
      · rfl
    by_cases hlt : k < N
    · by_cases hlt2 : k < 30
      · obtain ⟨g, o, rfl, hg, x, HX, hx⟩ := (hs.below hB).op HL.out hlt
        have hxo := (HO.out x (List.mem_of_getElem? HX.out)).below hB
        obtain ⟨S2, r, hr⟩ : ∃ S2 r, ((Fl.made 5 0).run5 1 3 (l.take k)).does5 1 3 x = (S2, r) := ⟨_, _, rfl⟩
        have hst := Fl.run5_take (Fl.made 5 0) 1 3 l k x HX.out
        rw [hr] at hst
        have HST := Lib.hid hst
        clear hst fin
        go_wp2_with (with_reducible refine wpList_load (o := ⟨some 42, _, _, _, _, _⟩) rfl (.tmp 41) 181 rfl g (o + k * 5) w.heap.size rfl x.cells 5 rfl (by kernel_rfl) hx ?_)
        refine (does5_any hT hRok x hxo hbw S2 r hr).mono ?_
        rintro e w2 ⟨rfl, hT2, hB2⟩
        have hB3 := hB.trans (hB2.below hp2 hb2 hbw)
        go_wp2_with fail
        go_roundw
        case rel => exact ⟨k + 1, by omega, by omega, by go_num, by rw [HST.out]; exact hT2, hB3⟩
        case measure => simp [intOf]; omega
      · have e := fin (.inr (by omega))
        rw [e] at hT hRok
        clear fin e
        go_wp2_with fail
        refine (Crash_any hT.nor hRok none 0 0 [] hbw Sees.nil rfl).mono ?_
        rintro e w2 ⟨rfl, hT2, hB2⟩
        have hB3 := hB.trans (hB2.below hp2 hb2 hbw)
        have hD3 := hT.turn hB2 hT2 (Fl.crash_up _ _).2.2.2
        go_wp2_with fail
        go_ret3
        exact ⟨p, b, d, rfl, hD3, hB3⟩
    · have e := fin (.inl (by omega))
      rw [e] at hT hRok
      clear fin e
      go_wp2_with fail
      refine (Crash_any hT.nor hRok none 0 0 [] hbw Sees.nil rfl).mono ?_
      rintro e w2 ⟨rfl, hT2, hB2⟩
      have hB3 := hB.trans (hB2.below hp2 hb2 hbw)
      have hD3 := hT.turn hB2 hT2 (Fl.crash_up _ _).2.2.2
      go_wp2_with fail
      go_ret3
      exact ⟨p, b, d, rfl, hD3, hB3⟩
end
end Go.Proofs.Ytpdfalgjmeagjaa
