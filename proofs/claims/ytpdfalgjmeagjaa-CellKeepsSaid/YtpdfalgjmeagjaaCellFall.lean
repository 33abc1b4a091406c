/-
  What a Put leaves, of a flash that is up, armed or not; and behind a crash: over a flash as plain data.
-/
import Derived.Test.YtpdfalgjmeagjaaTallyFall
import Derived.Test.YtpdfalgjmeagjaaCellsB
namespace Go.Proofs.Ytpdfalgjmeagjaa
open Go.RowKit
set_option linter.unusedVariables false

theorem new_keep0 {x x' y : Option (Nat × List UInt8)} (hz : ¬ (newC (coOf 0 x) (coOf 1 y)).s = 0) (h : x' = none ∨ ∃ t c c', x = some (t, c) ∧ x' = some (t, c')) : newC (coOf 0 x') (coOf 1 y) = newC (coOf 0 x) (coOf 1 y) := by
  cases y with
  | none =>
    cases x with
    | none =>
      rcases h with rfl | ⟨t, c, c', h, _⟩
      · rfl
      · cases h
    | some x => exact absurd (by simp [newC, coOf]) hz
  | some y =>
    cases x with
    | none =>
      rcases h with rfl | ⟨t, c, c', h, _⟩
      · rfl
      · cases h
    | some x =>
      by_cases e : y.1 = x.1 + 1
      · rcases h with rfl | ⟨t, c, c', h, rfl⟩
        · simp [newC, coOf, e]
        · obtain rfl := Option.some.inj h
          simp at e
          simp [newC, coOf, e]
      · exact absurd (by simp [newC, coOf, e]) hz
theorem new_keep1 {x y y' : Option (Nat × List UInt8)} (hz : (newC (coOf 0 x) (coOf 1 y)).s = 0) (h : y' = none ∨ ∃ t c c', y = some (t, c) ∧ y' = some (t, c')) : newC (coOf 0 x) (coOf 1 y') = newC (coOf 0 x) (coOf 1 y) := by
  cases x with
  | none => cases y <;> simp [newC, coOf] at hz
  | some x =>
    cases y with
    | none =>
      rcases h with rfl | ⟨t, c, c', h, _⟩
      · rfl
      · cases h
    | some y =>
      by_cases e : y.1 = x.1 + 1
      · simp [newC, coOf, e] at hz
      · rcases h with rfl | ⟨t, c, c', h, rfl⟩
        · simp [newC, coOf, e]
        · obtain rfl := Option.some.inj h
          simp at e
          simp [newC, coOf, e]
theorem new_next0 {x y : Option (Nat × List UInt8)} {z : Co} (hz : newC (coOf 0 x) (coOf 1 y) = z) (h0 : ¬ z.s = 0) (b : List UInt8) : newC (coOf 0 (some (z.t + 1, b))) (coOf 1 y) = ⟨0, z.t + 1, b⟩ := by
  subst hz
  cases y with
  | none =>
    cases x with
    | none => simp [newC, coOf]
    | some x => exact absurd (by simp [newC, coOf]) h0
  | some y =>
    cases x with
    | none =>
      simp [newC, coOf]
      try omega
    | some x =>
      by_cases e : y.1 = x.1 + 1
      · simp [newC, coOf, e]
        try omega
      · exact absurd (by simp [newC, coOf, e]) h0
theorem new_next1 {x y : Option (Nat × List UInt8)} {z : Co} (hz : newC (coOf 0 x) (coOf 1 y) = z) (h0 : z.s = 0) (b : List UInt8) : newC (coOf 0 x) (coOf 1 (some (z.t + 1, b))) = ⟨1, z.t + 1, b⟩ := by
  subst hz
  cases x with
  | none => cases y <;> simp [newC, coOf] at h0
  | some x =>
    cases y with
    | none => simp [newC, coOf]
    | some y =>
      by_cases e : y.1 = x.1 + 1
      · simp [newC, coOf, e] at h0
      · simp [newC, coOf, e]
theorem secC_last {l : List UInt32} (h : l[63]? = some 4294967295) : secC l = none := by
  match l with
  | [] => rfl
  | [_] => rfl
  | t :: n :: r =>
    have h' : r[61]? = some 4294967295 := by simpa using h
    simp only [secC]
    rw [if_neg]
    rw [h']
    intro e
    exact absurd (Option.some.inj e.1) (by decide)
/-- Of what is half erased the turn is the elder one, or nothing is there. -/
theorem OnesL.whole {l m : List UInt32} (h : OnesL l m) (hl : l.length = 64) (hm : m.length = 64) : secC m = none ∨ ∃ t c c', secC l = some (t, c) ∧ secC m = some (t, c') := by
  have get : ∀ (l m : List UInt32), OnesL l m → ∀ i : Nat, m[i]? = l[i]? ∨ m[i]? = some 4294967295 := by
    intro l
    induction l with
    | nil => intro m h i; cases m with | nil => exact .inl rfl | cons y m => cases h
    | cons x l ih =>
      intro m h i
      cases m with
      | nil => cases h
      | cons y m =>
        cases i with
        | zero =>
          rcases h.1 with e | e
          · left; simp [e]
          · right; simp [e]
        | succ i => simpa using ih m h.2 i
  match l, m, h with
  | [], [], _ => exact .inl rfl
  | [x], [y], _ => exact .inl rfl
  | t :: n :: r, t' :: n' :: r', h =>
    by_cases hc : r'[61]? = some 0 ∧ t'.toNat ≤ 2147483648 ∧ n'.toNat ≤ 244
    · have ht : t' = t := by
        rcases h.1 with e | e
        · exact e
        · rw [e] at hc
          have := hc.2.1
          simp at this
      have hn : n' = n := by
        rcases h.2.1 with e | e
        · exact e
        · rw [e] at hc
          have := hc.2.2
          simp at this
      have hr : r[61]? = some 0 := by
        rcases get r r' h.2.2 61 with e | e
        · rw [← e]; exact hc.1
        · rw [e] at hc
          exact absurd (Option.some.inj hc.1) (by decide)
      subst ht hn
      right
      simp only [secC]
      rw [if_pos ⟨hr, hc.2⟩, if_pos hc]
      exact ⟨_, _, _, rfl, rfl⟩
    · left
      simp only [secC]
      rw [if_neg hc]
/-- Words that are programmed over ones, as far as the power goes. -/
theorem Fl.prog_part : ∀ (l : List UInt32) (R : Fl) (j : Nat), (∀ i, i < l.length → R.ws[j + i]? = some 4294967295) → ∃ T m, m ≤ l.length ∧ R.prog j l = (T, decide (m = l.length)) ∧ T.ws = splice R.ws j (l.take m) ∧ T.n = R.n ∧ T.half = R.half ∧ (m = l.length → T.down = R.down) ∧ (m < l.length → T.down = true)
  | [], R, j, _ => ⟨R, 0, Nat.le_refl _, rfl, by simp [splice], rfl, rfl, fun _ => rfl, fun h => absurd h (by simp)⟩
  | x :: l, R, j, h => by
    have hst := Fl.step_half R
    have hsw := Fl.step_ws R
    rcases hs : R.step with ⟨T, _ | _⟩
    · rw [hs] at hst hsw
      have hdn : T.down = true := by
        obtain ⟨n, ws, g, ar, left, dn, hf⟩ := R
        unfold Fl.step at hs
        cases ar
        · simp at hs
        · cases left
          · simp only [Prod.mk.injEq] at hs
            rw [← hs.1]
          · simp at hs
      refine ⟨T, 0, Nat.zero_le _, ?_, ?_, hst.1, hst.2, fun e => by simp at e, fun _ => hdn⟩
      · simp only [Fl.prog]
        rw [hs]
        simp
      · rw [List.take_zero]
        simpa [splice] using hsw
    · obtain ⟨d1, d2, d3⟩ := Fl.step_down hs
      rw [hs] at hst hsw
      have h0 : T.ws[j]? = some 4294967295 := by rw [d3]; exact h 0 (by simp)
      have hj : j < T.ws.length := (List.getElem?_eq_some_iff.1 h0).1
      have hput : (T.put1 j x).ws = splice T.ws j [x] := by
        show T.ws.set j (T.ws.getD j 0 &&& x) = _
        rw [List.getD_eq_getElem?_getD, h0, Option.getD_some, ones_and, set_is_splice _ _ _ hj]
      obtain ⟨U, m, hm, e1, e2, e3, e4, e5, e6⟩ := Fl.prog_part l (T.put1 j x) (j + 1) (fun i hi => by
        rw [hput, set_is_splice _ _ _ hj, List.getElem?_set_ne (by omega), d3, show j + 1 + i = j + (i + 1) from by omega]
        exact h (i + 1) (by simpa using hi))
      refine ⟨U, m + 1, by simpa using hm, ?_, ?_, e3.trans d2, e4.trans hst.2, fun e => (e5 (by simpa using e)).trans d1, fun e => e6 (by simpa using e)⟩
      · simp only [Fl.prog]
        rw [hs]
        simp only
        rw [e1]
        simp
      · rw [e2, hput, d3, List.take_succ_cons]
        have hj' : j < R.ws.length := by rw [← d3]; exact hj
        rw [set_is_splice _ _ _ hj']
        unfold splice
        have hlm : (l.take m).length = m := by rw [List.length_take]; omega
        have hd2 : (R.ws.set j x).take (j + 1) = R.ws.take j ++ [x] := by
          rw [List.take_set, List.take_add_one, List.set_append_right _ _ (by rw [List.length_take]; omega), List.length_take, Nat.min_eq_left (by omega), Nat.sub_self, List.getElem?_eq_getElem hj']
          rfl
        rw [hd2, List.drop_set_of_lt (by omega), List.length_cons, hlm, show j + 1 + m = j + (m + 1) from by omega]
        simp
theorem ones64_eq' : ones64 = List.replicate 64 4294967295 := rfl
/-- A sector of ones with these words from 0 on, and a 0 at its end. -/
theorem wordsC_put (t : Nat) (b : List UInt8) (hb : b.length ≤ 244) : ∃ r, splice (splice ones64 0 (wordsC t b)) 63 [0] = wordsC t b ++ r ∧ r.length + (b.length + 3) / 4 = 62 ∧ (words b ++ r)[61]? = some 0 := by
  obtain ⟨hl, h63⟩ := wordsC_len (t := t) hb
  have hw := len_words b
  refine ⟨List.replicate (61 - (b.length + 3) / 4) 4294967295 ++ [0], ?_, by simp; omega, ?_⟩
  · have e1 : splice ones64 0 (wordsC t b) = wordsC t b ++ List.replicate (62 - (b.length + 3) / 4) 4294967295 := by
      unfold splice
      rw [List.take_zero, List.nil_append, Nat.zero_add, hl, ones64_eq', List.drop_replicate, show 64 - (2 + (b.length + 3) / 4) = 62 - (b.length + 3) / 4 from by omega]
    rw [e1]
    unfold splice
    rw [List.take_append, List.drop_append, hl, List.take_of_length_le (by omega), List.drop_of_length_le (by simp; omega), List.nil_append, List.take_replicate, List.drop_replicate, Nat.min_eq_left (by omega)]
    have e2 : 62 - (b.length + 3) / 4 - (63 + [(0 : UInt32)].length - (2 + (b.length + 3) / 4)) = 0 := by simp; omega
    rw [e2, show 63 - (2 + (b.length + 3) / 4) = 61 - (b.length + 3) / 4 from by omega]
    simp
  · rw [List.getElem?_append_right (by omega), List.getElem?_append_right (by simp; omega)]
    have : 61 - (words b).length - (List.replicate (61 - (b.length + 3) / 4) (4294967295 : UInt32)).length = 0 := by simp; omega
    rw [this]
    rfl
/-- What is known stays, if the sector that is written has nothing, or what it had but its bytes. -/
theorem clook_keep {R T : Fl} {f : Nat} {z : Co} (hz : R.clook f = z) (hs : ∀ τ, τ < 2 → τ ≠ z.other → T.sec f τ = R.sec f τ) (hw : secC (T.sec f z.other) = none ∨ ∃ t c c', secC (R.sec f z.other) = some (t, c) ∧ secC (T.sec f z.other) = some (t, c')) : T.clook f = z := by
  have hzo : z.Ok := by rw [← hz]; exact clook_ok R f
  have hz' : newC (coOf 0 (secC (R.sec f 0))) (coOf 1 (secC (R.sec f 1))) = z := hz
  show newC (coOf 0 (secC (T.sec f 0))) (coOf 1 (secC (T.sec f 1))) = z
  by_cases h0 : z.s = 0
  · have ho : z.other = 1 := by simp [Co.other, h0]
    rw [ho] at hs hw
    rw [hs 0 (by omega) (by omega), new_keep1 (by rw [hz']; exact h0) hw]
    exact hz'
  · have ho : z.other = 0 := by
      rcases hzo.s with e | e | e
      · simp [Co.other, e]
      · exact absurd e h0
      · simp [Co.other, e]
    rw [ho] at hs hw
    rw [hs 1 (by omega) (by omega), new_keep0 (by rw [hz']; exact h0) hw]
    exact hz'
theorem clook_next {R T : Fl} {f : Nat} {z : Co} (hz : R.clook f = z) (hs : ∀ τ, τ < 2 → τ ≠ z.other → T.sec f τ = R.sec f τ) (b : List UInt8) (hw : secC (T.sec f z.other) = some (z.t + 1, b)) : T.clook f = nextC z b := by
  have hzo : z.Ok := by rw [← hz]; exact clook_ok R f
  have hz' : newC (coOf 0 (secC (R.sec f 0))) (coOf 1 (secC (R.sec f 1))) = z := hz
  show newC (coOf 0 (secC (T.sec f 0))) (coOf 1 (secC (T.sec f 1))) = nextC z b
  unfold nextC
  by_cases h0 : z.s = 0
  · have ho : z.other = 1 := by simp [Co.other, h0]
    rw [ho] at hs hw ⊢
    rw [hs 0 (by omega) (by omega), hw]
    exact new_next1 hz' h0 b
  · have ho : z.other = 0 := by
      rcases hzo.s with e | e | e
      · simp [Co.other, e]
      · exact absurd e h0
      · simp [Co.other, e]
    rw [ho] at hs hw ⊢
    rw [hs 1 (by omega) (by omega), hw]
    exact new_next0 hz' h0 b
theorem step_plain {R : Fl} (h : R.armed = false) : R.step = (R, true) := by unfold Fl.step; rw [h]
theorem step_dead {R T : Fl} (h : R.step = (T, false)) : T.down = true := by
  obtain ⟨n, ws, g, ar, left, dn, hf⟩ := R
  unfold Fl.step at h
  cases ar
  · simp at h
  · cases left
    · simp only [Prod.mk.injEq] at h
      rw [← h.1]
    · simp at h
theorem cput_eq {R T : Fl} {f r : Nat} {k z : Co} (hd : R.down = false) (hz : R.clook f = z) (ht : z.t < 2147483648) {b : List UInt8} (hb : b.length ≤ 244) (h : R.cwrite f z.other (z.t + 1) b = (T, r)) : R.cput f k false b = (T, r, (if r = 0 then nextC z b else z), !(r == 0)) := by
  unfold Fl.cput
  simp only [hd, hz]
  rw [if_neg (by omega), if_neg (by omega), h]
  cases r <;> simp [nextC]
theorem splice_ones_last (W : List UInt32) (h : W.length ≤ 63) : (splice ones64 0 W)[63]? = some 4294967295 := by
  unfold splice
  rw [List.take_zero, List.nil_append, Nat.zero_add, List.getElem?_append_right (by omega), List.getElem?_drop, show W.length + (63 - W.length) = 63 from by omega]
  rfl
set_option maxHeartbeats 1000000 in
theorem cput_gen {R : Fl} {f : Nat} (h : Two R f) (hd : R.down = false) (hh : R.half = -1) (k z : Co) (hz : R.clook f = z) (ht : z.t < 2147483648) (b : List UInt8) (hb : b.length ≤ 244) :
    ∃ T r, R.cput f k false b = (T, r, (if r = 0 then nextC z b else z), !(r == 0)) ∧ T.n = R.n ∧ T.Ok ∧ (r = 0 → T.down = false ∧ T.half = -1 ∧ Two T f ∧ T.clook f = nextC z b) ∧ (r ≠ 0 → T.down = true ∧ ∀ ks, Up6 (T.crash ks) f ∧ (T.crash ks).n = R.n ∧ (T.crash ks).clook f = z) ∧ (R.armed = false → r = 0 ∧ T.armed = false) := by
  have hzo : z.Ok := by rw [← hz]; exact clook_ok R f
  have hσ := Co.other_lt hzo
  have hde := derase_eq (σ := z.other) h hd hσ
  have hst := Fl.step_half R
  have hsw := Fl.step_ws R
  obtain ⟨hwl, hw63⟩ := wordsC_len (t := z.t + 1) hb
  rw [← hwl] at hw63
  have o64 : ones64.length = 64 := rfl
  -- a failure that leaves nothing half erased
  have dead : ∀ (T : Fl), R.cwrite f z.other (z.t + 1) b = (T, 40) → T.down = true → T.n = R.n → T.half = -1 → Two T f → (∀ τ, τ < 2 → τ ≠ z.other → T.sec f τ = R.sec f τ) → secC (T.sec f z.other) = none → (R.armed = false → False) → ∃ T r, R.cput f k false b = (T, r, (if r = 0 then nextC z b else z), !(r == 0)) ∧ T.n = R.n ∧ T.Ok ∧ (r = 0 → T.down = false ∧ T.half = -1 ∧ Two T f ∧ T.clook f = nextC z b) ∧ (r ≠ 0 → T.down = true ∧ ∀ ks, Up6 (T.crash ks) f ∧ (T.crash ks).n = R.n ∧ (T.crash ks).clook f = z) ∧ (R.armed = false → r = 0 ∧ T.armed = false) := by
    intro T hc hdn hn hhf htw hs hw ha
    refine ⟨T, 40, cput_eq hd hz ht hb hc, hn, .inl hhf, (fun e => by cases e), fun _ => ⟨hdn, fun ks => ?_⟩, fun e => (ha e).elim⟩
    obtain ⟨w1, w2, w3, w4, w5⟩ := crash_same f hhf ks
    have hsec : ∀ σ, (T.crash ks).sec f σ = T.sec f σ := fun σ => sec_of_ws w1 f σ
    exact ⟨⟨htw.of_ws w1 w2, w3, w4, w5⟩, w2.trans hn, clook_keep hz (fun τ a b => by rw [hsec]; exact hs τ a b) (.inl (by rw [hsec]; exact hw))⟩
  rcases hs0 : R.step with ⟨U, _ | _⟩
  · -- half erased
    rw [hs0] at hde hst hsw
    simp only at hde
    have hUd := step_dead hs0
    obtain ⟨T, hT⟩ : ∃ T : Fl, ({ U with half := ((f + z.other : Nat) : Int) } : Fl) = T := ⟨_, rfl⟩
    rw [hT] at hde
    have hc : R.cwrite f z.other (z.t + 1) b = (T, 40) := by unfold Fl.cwrite; rw [hde]
    have hTw : Two T f := by rw [← hT]; exact h.of_ws hsw hst.1
    have hTs : ∀ τ, T.sec f τ = R.sec f τ := fun τ => by rw [← hT]; exact sec_of_ws (S := R) (by exact hsw) f τ
    have hTn : T.n = R.n := by rw [← hT]; exact hst.1
    have hTh : T.half = ((f + z.other : Nat) : Int) := by rw [← hT]
    refine ⟨T, 40, cput_eq hd hz ht hb hc, hTn, .inr ⟨f + z.other, hTh, by have := hTw.n; omega⟩, (fun e => by cases e), fun _ => ⟨by rw [← hT]; exact hUd, fun ks => ?_⟩, fun e => ?_⟩
    · obtain ⟨w1, w2, w3, w4, w5, w6, w7⟩ := crash_half hTw hσ hTh ks
      refine ⟨⟨w1, w2, w3, w4⟩, w5.trans hTn, clook_keep hz (fun τ a b => by rw [w7 τ a b]; exact hTs τ) ?_⟩
      rw [hTs] at w6
      exact w6.whole (h.sec_len hσ) (w1.sec_len hσ)
    · rw [step_plain e] at hs0
      simp at hs0
  · obtain ⟨d1, d2, d3⟩ := Fl.step_down hs0
    rw [hs0] at hde hst hsw
    simp only at hde
    have hU2 : Two U f := h.of_ws d3 d2
    have hUs : ∀ τ, U.sec f τ = R.sec f τ := fun τ => sec_of_ws d3 f τ
    obtain ⟨b1, b2, b3⟩ := blanked_secs hU2 hσ
    obtain ⟨X, hX⟩ : ∃ X, U.blanked f z.other = X := ⟨_, rfl⟩
    have hXd : X.down = false := by rw [← hX]; exact d1.trans hd
    have hXh : X.half = -1 := by rw [← hX]; exact hst.2.trans hh
    have hXn : X.n = R.n := by rw [← hX]; exact d2
    have hXa : X.armed = U.armed := by rw [← hX]; rfl
    rw [hX] at hde b1 b2 b3
    have hset : sets32 (((X.sec f z.other).drop 0).take (wordsC (z.t + 1) b).length) (wordsC (z.t + 1) b) = false := by
      rw [b2, List.drop_zero, ones64_eq', List.take_replicate, Nat.min_eq_left (by omega)]
      exact sets32_ones _
    have hones : ∀ i, i < (wordsC (z.t + 1) b).length → X.ws[64 * f + (64 * z.other + 0) + i]? = some 4294967295 := fun i hi => by
      have := Two.sec_get (S := X) (f := f) (σ := z.other) i (by omega)
      rw [show 64 * f + (64 * z.other + 0) + i = 64 * f + (64 * z.other + i) from by omega, ← this, b2, ones64_eq', List.getElem?_replicate, if_pos (by omega)]
    obtain ⟨T, m, hm, p1, p2, p3, p4, p5, p6⟩ := Fl.prog_part (wordsC (z.t + 1) b) X (64 * f + (64 * z.other + 0)) hones
    by_cases hml : m = (wordsC (z.t + 1) b).length
    · rw [decide_eq_true hml] at p1
      obtain ⟨e1, e2, e3, e4⟩ := dwrite_yes b1 hXd hσ (by omega) hset p1 (64 * (z.other : Int)) (by omega)
      have hTd := (p5 hml).trans hXd
      have hTh := p4.trans hXh
      have hT63 : (T.sec f z.other)[63]? = some 4294967295 := by rw [e3, b2]; exact splice_ones_last _ hw63
      have hset2 : sets32 (((T.sec f z.other).drop 63).take [(0 : UInt32)].length) [0] = false := by
        rw [List.length_singleton, take_one hT63]
        rfl
      obtain ⟨V, m2, hm2, r1, r2, r3, r4, r5, r6⟩ := Fl.prog_part [0] T (64 * f + (64 * z.other + 63)) (fun i hi => by
        have hi0 : i = 0 := by simpa using hi
        subst hi0
        have := Two.sec_get (S := T) (f := f) (σ := z.other) 63 (by omega)
        rw [Nat.add_zero, ← this]
        exact hT63)
      by_cases hm1 : m2 = 1
      · rw [decide_eq_true (by simpa using hm1)] at r1
        obtain ⟨g1, g2, g3, g4⟩ := dwrite_yes e2 hTd hσ (by simp) hset2 r1 (64 * (z.other : Int) + 63) (by omega)
        have hc : R.cwrite f z.other (z.t + 1) b = (V, 0) := by
          unfold Fl.cwrite
          rw [hde]
          simp only
          rw [e1]
          exact g1
        have hsecs : ∀ τ, τ < 2 → τ ≠ z.other → V.sec f τ = R.sec f τ := fun τ a b => by rw [g4 τ a b, e4 τ a b, b3 τ a b]; exact hUs τ
        have hwho : secC (V.sec f z.other) = some (z.t + 1, b) := by
          rw [g3, e3, b2]
          obtain ⟨rr, hrr, hrl, hr0⟩ := wordsC_put (z.t + 1) b hb
          rw [hrr]
          exact secC_words (by omega) hb rr hrl hr0
        refine ⟨V, 0, cput_eq hd hz ht hb hc, (r3.trans p3).trans hXn, .inl (r4.trans hTh), fun _ => ⟨(r5 (by simpa using hm1)).trans hTd, r4.trans hTh, g2, clook_next hz hsecs b hwho⟩, fun e => absurd rfl e, fun e => ⟨rfl, ?_⟩⟩
        have hUa : U.armed = false := by
          rw [step_plain e] at hs0
          simp only [Prod.mk.injEq] at hs0
          rw [← hs0.1]
          exact e
        obtain ⟨T', q1, q2⟩ := Fl.prog_up (wordsC (z.t + 1) b) X (64 * f + (64 * z.other + 0)) (hXa.trans hUa)
        rw [p1] at q1
        obtain ⟨rfl, -⟩ : T = T' ∧ True := by simpa using q1
        obtain ⟨V', q3, q4⟩ := Fl.prog_up [0] T (64 * f + (64 * z.other + 63)) q2
        rw [r1] at q3
        obtain ⟨rfl, -⟩ : V = V' ∧ True := by simpa using q3
        exact q4
      · have hm0 : m2 < 1 := by simp at hm2; omega
        rw [decide_eq_false (by simpa using hm1)] at r1
        have g1 := dwrite_not hTd hσ (by simp) hset2 r1 (64 * (z.other : Int) + 63) (by omega)
        have hVw : V.ws = T.ws := by
          rw [r2, show m2 = 0 from by omega, List.take_zero]
          simp [splice]
        refine dead V ?_ (r6 (by simpa using hm0)) ((r3.trans p3).trans hXn) (r4.trans hTh) (e2.of_ws hVw r3) (fun τ a b => by rw [sec_of_ws hVw f τ, e4 τ a b, b3 τ a b]; exact hUs τ) (by rw [sec_of_ws hVw f z.other]; exact secC_last hT63) fun e => ?_
        · unfold Fl.cwrite
          rw [hde]
          simp only
          rw [e1]
          exact g1
        · have hUa : U.armed = false := by
            rw [step_plain e] at hs0
            simp only [Prod.mk.injEq] at hs0
            rw [← hs0.1]
            exact e
          obtain ⟨T', q1, q2⟩ := Fl.prog_up (wordsC (z.t + 1) b) X (64 * f + (64 * z.other + 0)) (hXa.trans hUa)
          rw [p1] at q1
          obtain ⟨rfl, -⟩ : T = T' ∧ True := by simpa using q1
          obtain ⟨V', q3, q4⟩ := Fl.prog_up [0] T (64 * f + (64 * z.other + 63)) q2
          rw [r1] at q3
          simp at q3
    · have hmlt : m < (wordsC (z.t + 1) b).length := by omega
      rw [decide_eq_false hml] at p1
      have e1 := dwrite_not hXd hσ (by omega) hset p1 (64 * (z.other : Int)) (by omega)
      have hlm : ((wordsC (z.t + 1) b).take m).length = m := by rw [List.length_take]; omega
      obtain ⟨e2, e3, e4⟩ := b1.write (T := T) (l := (wordsC (z.t + 1) b).take m) (y := 0) hσ (by omega) p2 p3
      refine dead T ?_ (p6 hmlt) (p3.trans hXn) (p4.trans hXh) e2 (fun τ a b => by rw [e4 τ a b, b3 τ a b]; exact hUs τ) (secC_last (by rw [e3, b2]; exact splice_ones_last _ (by omega))) fun e => ?_
      · unfold Fl.cwrite
        rw [hde]
        simp only
        rw [e1]
      · have hUa : U.armed = false := by
          rw [step_plain e] at hs0
          simp only [Prod.mk.injEq] at hs0
          rw [← hs0.1]
          exact e
        obtain ⟨T', q1, q2⟩ := Fl.prog_up (wordsC (z.t + 1) b) X (64 * f + (64 * z.other + 0)) (hXa.trans hUa)
        rw [p1] at q1
        simp at q1
end Go.Proofs.Ytpdfalgjmeagjaa
