/-
  What a Write of a drive leaves behind a failure: a beginning of the words; over a flash as plain data.
-/
import Derived.Test.YtpdfalgjmeagjaaErasesPure
namespace Go.Proofs.Ytpdfalgjmeagjaa
open Go.RowKit
set_option linter.unusedVariables false

/-- A flash that is not down does as many steps as it is armed with. -/
theorem Fl.prog_steps : ∀ (l : List UInt32) (S : Fl) (j : Nat), S.armed = true → ∃ T, S.prog j l = (T, decide (l.length ≤ S.left)) ∧ T.n = S.n ∧ T.half = S.half ∧ T.down = (if l.length ≤ S.left then S.down else true) ∧ T.ws = (S.prog j (l.take S.left)).1.ws ∧ (S.prog j (l.take S.left)).2 = true
  | [], S, j, h => ⟨S, by simp [Fl.prog], rfl, rfl, by simp, by simp [Fl.prog], by simp [Fl.prog]⟩
  | x :: l, S, j, h => by
    obtain ⟨n, ws, g, ar, left, dn, hf⟩ := S
    simp only at h
    subst h
    rcases left with _ | left
    · refine ⟨⟨n, ws, g, false, 0, true, hf⟩, by simp [Fl.prog, Fl.step], rfl, rfl, by simp, by simp [Fl.prog], by simp [Fl.prog]⟩
    · obtain ⟨T, h1, h2, h3, h4, h5, h6⟩ := Fl.prog_steps l (Fl.put1 ⟨n, ws, g, true, left, dn, hf⟩ j x) (j + 1) rfl
      have hl : (Fl.put1 ⟨n, ws, g, true, left, dn, hf⟩ j x).left = left := rfl
      rw [hl] at h1 h4 h5 h6
      refine ⟨T, ?_, h2, h3, ?_, ?_, ?_⟩
      · simp only [Fl.prog, Fl.step]
        rw [h1]
        simp
      · rw [h4]
        simp [Fl.put1]
      · rw [List.take_succ_cons]
        simp only [Fl.prog, Fl.step]
        exact h5
      · rw [List.take_succ_cons]
        simp only [Fl.prog, Fl.step]
        exact h6
theorem sets32_take : ∀ (y l : List UInt32) (k : Nat), sets32 y l = false → sets32 (y.take k) (l.take k) = false
  | [], l, k, _ => by simp [sets32]
  | a :: y, [], k, _ => by
    cases k <;> simp [sets32]
  | a :: y, x :: l, 0, _ => by simp [sets32]
  | a :: y, x :: l, k + 1, h => by
    simp only [sets32, Bool.or_eq_false_iff] at h
    simp only [List.take_succ_cons, sets32, Bool.or_eq_false_iff]
    exact ⟨h.1, sets32_take y l k h.2⟩
/-- How many words are done, what is told, and whether the power has failed. -/
structure Kept3 (sets fails : Bool) (M t D F : Nat) (dn : Bool) : Prop where
  le : D ≤ M
  set_ : sets = true → D = 0 ∧ F = 50 ∧ dn = false
  no : sets = false → D = (if fails then min t M else M) ∧ (D < M → F = 40 ∧ dn = true) ∧ (D = M → F = 0 ∧ dn = false)
theorem keeps_pure {S : Fl} (h : S.Up5) (hh : S.half = -1) (k M t : Nat) (hk : k + M ≤ 192) (l : List UInt32) (hl : l.length = M) (fails : Bool) (sets : Bool) (hsets : sets32 (S.at_ 1 k M) l = sets) :
    ∃ T D F dn, Fl.dwrite (if fails then S.arm (t : Int) else S) 1 3 (k : Int) l = (T, F) ∧ T.n = 5 ∧ T.Ok ∧ T.down = dn ∧ (T.crash []).at_ 1 0 192 = splice (S.at_ 1 0 192) k (l.take D) ∧ Kept3 sets fails M t D F dn := by
  obtain ⟨R, hR⟩ : ∃ R, R = (if fails then S.arm (t : Int) else S) := ⟨_, rfl⟩
  have hRw : R.ws = S.ws ∧ R.down = false ∧ R.n = 5 ∧ R.half = -1 ∧ R.armed = fails ∧ (fails = true → R.left = t) := by
    rw [hR]
    cases fails
    · exact ⟨rfl, h.down, h.n, hh, h.armed, fun h => by cases h⟩
    · simp [Fl.arm, h.down, h.n, hh]
  obtain ⟨r1, r2, r3, r4, r5, r6⟩ := hRw
  rw [← hR]
  have hw : wordsOk 3 (k : Int) (l.length : Int) = true := by simp [wordsOk]; omega
  have hat : R.at_ 1 k M = S.at_ 1 k M := by unfold Fl.at_; rw [r1]
  have crash_at : ∀ T : Fl, T.half = -1 → (T.crash []).at_ 1 0 192 = T.at_ 1 0 192 := fun T hT => by
    unfold Fl.crash
    rw [hT]
    rfl
  have lenS := h.len
  have key : ∀ (T : Fl) (X : List UInt32), k + X.length ≤ 192 → T.ws = splice S.ws (64 + k) X → T.at_ 1 0 192 = splice (S.at_ 1 0 192) k X := fun T X hX hT => by
    have e0 : (S.at_ 1 0 192).length = 192 := by simp [Fl.at_, lenS]
    apply List.ext_getElem?
    intro i
    by_cases hi : i < 192
    · have g0 : ∀ (T : Fl), (T.at_ 1 0 192)[i]? = T.ws[64 + i]? := fun T => by
        unfold Fl.at_
        rw [List.getElem?_take, if_pos hi, List.getElem?_drop]
      rw [g0, hT, splice_get2 _ _ _ _ (by rw [lenS]; omega), splice_get2 _ _ _ _ (by rw [e0]; omega), g0]
      by_cases c1 : i < k
      · rw [if_pos c1, if_pos (show 64 + i < 64 + k by omega)]
      · rw [if_neg c1, if_neg (show ¬ 64 + i < 64 + k by omega)]
        by_cases c2 : i < k + X.length
        · rw [if_pos c2, if_pos (show 64 + i < 64 + k + X.length by omega), show 64 + i - (64 + k) = i - k from by omega]
        · rw [if_neg c2, if_neg (show ¬ 64 + i < 64 + k + X.length by omega)]
    · have l1 : (T.at_ 1 0 192).length ≤ 192 := by simp [Fl.at_]; omega
      have l2 : (splice (S.at_ 1 0 192) k X).length = 192 := by rw [length_splice _ _ _ (by rw [e0]; omega), e0]
      rw [List.getElem?_eq_none (by omega), List.getElem?_eq_none (by omega)]
  have hJ : 64 * 1 + k = 64 + k := by omega
  cases sets
  · -- nothing would be set
    have progOk : ∀ (X : List UInt32) (T : Fl), X = l.take X.length → R.prog (64 + k) X = (T, true) → T.ws = splice S.ws (64 + k) X := fun X T hX hT => by
      have hlen : X.length ≤ M := by
        have := congrArg List.length hX
        simp at this
        omega
      have h1 := Fl.prog_words X R T (64 + k) hT (by rw [r1, lenS]; omega) (by
        have h2 := sets32_take _ _ X.length hsets
        rw [← hX] at h2
        have h3 : (S.at_ 1 k M).take X.length = (R.ws.drop (64 + k)).take X.length := by
          unfold Fl.at_
          rw [List.take_take, Nat.min_eq_left hlen, r1]
        rwa [h3] at h2)
      rw [h1, r1]
    have hlk : l = l.take l.length := by rw [List.take_length]
    by_cases hall : fails = false ∨ M ≤ t
    · -- all of them
      have hT : ∃ T, R.prog (64 + k) l = (T, true) ∧ T.half = -1 := by
        cases fails
        · obtain ⟨T, hT, _⟩ := Fl.prog_up l R (64 + k) r5
          have := (Fl.prog_half l R (64 + k)).2
          rw [hT] at this
          exact ⟨T, hT, this.trans r4⟩
        · obtain ⟨T, h1, h2, h3, h4, h5, h6⟩ := Fl.prog_steps l R (64 + k) r5
          have ht : M ≤ t := by
            rcases hall with h | h
            · cases h
            · exact h
          rw [hl, r6 rfl, decide_eq_true ht] at h1
          exact ⟨T, h1, h3.trans r4⟩
      obtain ⟨T, hT, hTh⟩ := hT
      obtain ⟨k1, k2, k3⟩ := Fl.prog_keep _ _ _ _ hT
      refine ⟨T, M, 0, false, ?_, k2.trans r3, .inl hTh, k1.trans r2, ?_, Nat.le_refl _, fun e => (by cases e), fun _ => ⟨?_, fun e => (by omega), fun _ => ⟨rfl, rfl⟩⟩⟩
      · unfold Fl.dwrite
        rw [hw, r2, Int.toNat_natCast, hl, hat, hsets]
        simp only
        rw [hJ, hT]
      · rw [crash_at T hTh, List.take_of_length_le (by omega)]
        exact key T l (by omega) (progOk l T hlk hT)
      · cases fails
        · rfl
        · rcases hall with h | h
          · cases h
          · simp; omega
    · -- a beginning
      have hf : fails = true := by
        cases fails
        · exact absurd (.inl rfl) hall
        · rfl
      subst hf
      have ht : t < M := by
        rcases Nat.lt_or_ge t M with h | h
        · exact h
        · exact absurd (.inr h) hall
      obtain ⟨T, h1, h2, h3, h4, h5, h6⟩ := Fl.prog_steps l R (64 + k) r5
      rw [hl, r6 rfl] at h1 h4
      rw [r6 rfl] at h5 h6
      rw [decide_eq_false (by omega)] at h1
      rw [if_neg (by omega)] at h4
      refine ⟨T, t, 40, true, ?_, h2.trans r3, .inl (h3.trans r4), h4, ?_, by omega, fun e => (by cases e), fun _ => ⟨(by simp; omega), fun _ => ⟨rfl, rfl⟩, fun e => (by omega)⟩⟩
      · unfold Fl.dwrite
        rw [hw, r2, Int.toNat_natCast, hl, hat, hsets]
        simp only
        rw [hJ, h1]
      · rw [crash_at T (h3.trans r4)]
        refine key T (l.take t) (by simp; omega) ?_
        rw [h5]
        exact progOk (l.take t) _ (by rw [List.length_take, hl, Nat.min_eq_left (by omega)]) (Prod.ext rfl h6)
  · refine ⟨R, 0, 50, false, ?_, r3, .inl r4, r2, ?_, Nat.zero_le _, fun _ => ⟨rfl, rfl, rfl⟩, fun e => by cases e⟩
    · unfold Fl.dwrite
      rw [hw, r2, Int.toNat_natCast, hl, hat, hsets]
    · rw [crash_at R r4]
      exact key R (l.take 0) (by simp; omega) (by rw [r1]; simp [splice])
theorem made5_up5' {w : World} {base d p b f m : Nat} {l : List Oc} (h : DrAt base w d p b f m (made5 l)) : (made5 l).Up5 := by
  obtain ⟨h1, h2, h3, h4⟩ := made5_up l
  exact ⟨h1, h2, h4, by rw [h.nor.len, h4]⟩
theorem SameWords_is {A B : Option Addr} {c d n m : Nat} {l b : List UInt32} {w : World} {r : Bool} (hr : (l == b) = r) (hs : Sees w w.heap.size A (cw l)) (ht : Sees w w.heap.size B (cw b)) (hl : l.length = n) (hm : b.length = m) (hn : n ≤ 1099511627776) :
    Calls Try.prog 42 #[.slice A n c, .slice B m d] w fun e w' => e = .returned (.bool r) ∧ Below w.heap.size w w' := by
  subst hr
  refine (SameWords_any A B c d n m l b w hs ht hl hm hn).mono ?_
  rintro e w' ⟨rfl, k, rfl⟩
  exact ⟨rfl, below_drewN' (Below.refl _ _) k⟩
theorem Pick_at (z : Int) (n : Nat) (hn : 0 < n) (hb : n ≤ 1000) (hz : -9223372036854775808 ≤ z ∧ z ≤ 9223372036854775807) :
    ∃ r : Nat, r < n ∧ ∀ w, Calls Try.prog 30 #[.int .i64 z, .int .i64 (n : Int)] w fun e w' => e = .returned (.int .i64 (r : Int)) ∧ w' = w := by
  have h0 : (decide ((n : Int) ≤ 0)) = false := by simp; omega
  have h1 : z.tmod (n : Int) < (n : Int) := Int.tmod_lt_of_pos _ (by omega)
  have h2 : -(n : Int) < z.tmod (n : Int) := Int.lt_tmod_of_pos z (by omega)
  by_cases hs : z.tmod (n : Int) < 0
  · refine ⟨(z.tmod (n : Int) + (n : Int)).toNat, by omega, fun w => ?_⟩
    have hw : IntKind.i64.wrap (z.tmod (n : Int) + (n : Int)) = z.tmod (n : Int) + (n : Int) := wrapI _ (by omega) (by omega)
    go_enter Try.func30, Try.ntmps30
    go_wp2
    all_goals first | omega | skip
    go_ret
    exact ⟨ret_int (by omega), rfl⟩
  · refine ⟨(z.tmod (n : Int)).toNat, by omega, fun w => ?_⟩
    go_enter Try.func30, Try.ntmps30
    go_wp2
    all_goals first | omega | skip
    go_ret
    exact ⟨ret_int (by omega), rfl⟩

end Go.Proofs.Ytpdfalgjmeagjaa
