/-
  What a Step leaves behind a failure of the power, and its crash: over a flash as plain data.
-/
import Derived.Test.YtpdfalgjmeagjaaTallyStep
import Derived.Test.YtpdfalgjmeagjaaNorCrash
namespace Go.Proofs.Ytpdfalgjmeagjaa
open Go.RowKit
set_option linter.unusedVariables false

/-- Each word is as it was, or of ones. -/
def OnesL : List UInt32 → List UInt32 → Prop
  | [], [] => True
  | x :: l, y :: m => (y = x ∨ y = 4294967295) ∧ OnesL l m
  | _, _ => False
theorem OnesL.of_get : ∀ (l m : List UInt32), l.length = m.length → (∀ i, i < l.length → m[i]? = l[i]? ∨ m[i]? = some 4294967295) → OnesL l m
  | [], [], _, _ => trivial
  | [], y :: m, h, _ => by simp at h
  | x :: l, [], h, _ => by simp at h
  | x :: l, y :: m, h, hi => by
    refine ⟨?_, OnesL.of_get l m (by simpa using h) fun i hl => ?_⟩
    · have := hi 0 (by simp)
      simpa using this
    · have := hi (i + 1) (by simpa using hl)
      simpa using this
theorem OnesL.zers : ∀ {l m : List UInt32}, OnesL l m → zers m ≤ zers l
  | [], [], _ => Nat.le_refl _
  | [], y :: m, h => by cases h
  | x :: l, [], h => by cases h
  | x :: l, y :: m, h => by
    have := OnesL.zers h.2
    simp only [Go.Proofs.Ytpdfalgjmeagjaa.zers]
    rcases h.1 with e | e
    · rw [e]; omega
    · rw [e, zer_ones]; omega
/-- Of what is half erased the base is there, and counts no more than it did, or it is not. -/
theorem OnesL.cnt {l m : List UInt32} (h : OnesL l m) (hz : l[0]? ≠ some 0) : (cntL m).getD 0 ≤ (cntL l).getD 0 := by
  match l, m, h with
  | [], [], _ => exact Nat.le_refl _
  | [x], [y], _ => exact Nat.le_refl _
  | b :: t :: r, b' :: t' :: r', h =>
    have hr := OnesL.zers h.2.2
    by_cases hm : b'.toNat ≤ 2147483648 ∧ t'.toNat = 4294967295 - b'.toNat
    · have hb : b' = b := by
        rcases h.1 with e | e
        · exact e
        · rw [e] at hm
          have := hm.1
          simp at this
      subst hb
      have ht : t' = t := by
        rcases h.2.1 with e | e
        · exact e
        · rw [e] at hm
          have h1 := hm.2
          simp at h1
          have : b' = 0 := UInt32.toNat_inj.1 (by rw [show ((0 : UInt32)).toNat = 0 from rfl]; omega)
          exact absurd (by simp [this]) hz
      subst ht
      simp only [cntL]
      rw [if_pos hm, if_pos hm]
      simp
      exact hr
    · simp only [cntL]
      rw [if_neg hm]
      simp
theorem mask_get6 : ∀ (l : List Bool) (ws : List UInt32) (j i : Nat), (mask ws j l)[i]? = ws[i]? ∨ ((mask ws j l)[i]? = some 4294967295 ∧ j ≤ i ∧ i < j + l.length)
  | [], ws, j, i => .inl rfl
  | c :: l, ws, j, i => by
    cases c
    · rw [mask]
      rcases mask_get6 l ws (j + 1) i with h | ⟨h, h1, h2⟩
      · exact .inl h
      · exact .inr ⟨h, by omega, by rw [List.length_cons]; omega⟩
    · rw [mask]
      rcases mask_get6 l (ws.set j 4294967295) (j + 1) i with h | ⟨h, h1, h2⟩
      · rw [h, List.getElem?_set]
        by_cases e : j = i
        · subst e
          by_cases hl : j < ws.length
          · exact .inr ⟨by simp [hl], Nat.le_refl _, by rw [List.length_cons]; omega⟩
          · refine .inl ?_
            rw [if_pos rfl, if_neg hl, List.getElem?_eq_none (by omega)]
        · exact .inl (by rw [if_neg e])
      · exact .inr ⟨h, by omega, by rw [List.length_cons]; omega⟩
theorem mask_len6 : ∀ (l : List Bool) (ws : List UInt32) (j : Nat), (mask ws j l).length = ws.length
  | [], ws, j => rfl
  | true :: l, ws, j => by rw [mask, mask_len6 l, List.length_set]
  | false :: l, ws, j => by rw [mask, mask_len6 l]

/-- No base is 0. -/
def Nz (S : Fl) (f : Nat) : Prop := ∀ τ, τ < 2 → (S.sec f τ)[0]? ≠ some 0
/-- What a Step that fails leaves. -/
inductive Fallen (S T : Fl) (f c : Nat) : Prop
  | same (h : ∀ τ, τ < 2 → T.sec f τ = S.sec f τ)
  | turn (σ : Nat) (hσ : σ < 2) (hs : ((S.tlook f).1 = -1 ∧ σ = 0) ∨ ((S.tlook f).1 = ((1 - σ : Nat) : Int) ∧ cntL (S.sec f (1 - σ)) = some c ∧ restL (S.sec f (1 - σ)) = none)) (h1 : (cntL (T.sec f σ)).getD 0 ≤ c) (h2 : ∀ τ, τ < 2 → τ ≠ σ → T.sec f τ = S.sec f τ) (hz : (T.sec f σ)[0]? ≠ some 0)
theorem Fallen.count {S T : Fl} {f c : Nat} (h : Fallen S T f c) (hc : (S.tlook f).2.1 = c) : (T.tlook f).2.1 = c := by
  obtain ⟨b0, b1⟩ := tlook_at hc
  cases h with
  | same h =>
    unfold Fl.tlook at hc ⊢
    rw [h 0 (by omega), h 1 (by omega)]
    exact hc
  | turn σ hσ hs h1 h2 hz =>
    have e := hc
    unfold Fl.tlook
    unfold Fl.tlook at e
    rw [look_cnt] at e ⊢
    rcases hs with ⟨hm, rfl⟩ | ⟨hm, ho, _⟩
    · obtain ⟨s, c', l, hl⟩ : ∃ s c' l, S.tlook f = (s, c', l) := ⟨_, _, _, rfl⟩
      rw [hl] at hm hc
      simp only at hm hc
      rcases look_at hl with ⟨q1, q2, q3, q4⟩ | ⟨q1, _⟩ | ⟨q1, _⟩
      · rw [h2 1 (by omega) (by omega), q4]
        simp only [Option.getD_none]
        omega
      · omega
      · omega
    · rcases (show σ = 0 ∨ σ = 1 by omega) with rfl | rfl
      · rw [h2 1 (by omega) (by omega), ho, Option.getD_some]
        omega
      · rw [h2 0 (by omega) (by omega), ho, Option.getD_some]
        omega
theorem Moved.nz {S T : Fl} {f c : Nat} (h : Moved S T f c) (hz : Nz S f) (hc : c < 2147483648) : Nz T f := by
  intro τ hτ
  cases h with
  | bit σ k x hσ hs hcs hk hk2 hx h1 h2 =>
    have h3 := (cnt_set hcs hk hx).2.2
    by_cases e : τ = σ
    · subst e
      rw [h1, List.getElem?_set, if_neg (by omega)]
      exact hz τ hτ
    · rw [h2 τ hτ e]
      exact hz τ hτ
  | turn σ hσ hs h1 h2 =>
    by_cases e : τ = σ
    · subst e
      rw [h1]
      simp only [base2, List.cons_append, List.getElem?_cons_zero, ne_eq, Option.some.injEq]
      intro q
      have := (base2_nat (c := c + 1) (by omega)).1
      rw [q] at this
      simp at this
    · rw [h2 τ hτ e]
      exact hz τ hτ
theorem Fallen.nz {S T : Fl} {f c : Nat} (h : Fallen S T f c) (hz : Nz S f) : Nz T f := by
  intro τ hτ
  cases h with
  | same h => rw [h τ hτ]; exact hz τ hτ
  | turn σ hσ hs h1 h2 h3 =>
    by_cases e : τ = σ
    · subst e; exact h3
    · rw [h2 τ hτ e]; exact hz τ hτ

/-- A crash of what is not half erased changes no word. -/
theorem crash_same {T : Fl} (f : Nat) (h : T.half = -1) (ks : List Bool) : (T.crash ks).ws = T.ws ∧ (T.crash ks).n = T.n ∧ (T.crash ks).down = false ∧ (T.crash ks).armed = false ∧ (T.crash ks).half = -1 := by
  unfold Fl.crash
  rw [h]
  exact ⟨rfl, rfl, rfl, rfl, rfl⟩
theorem sec_of_ws {S T : Fl} (h : T.ws = S.ws) (f σ : Nat) : T.sec f σ = S.sec f σ := by
  unfold Fl.sec Fl.at_
  rw [h]
theorem Two.of_ws {S T : Fl} {f : Nat} (h : Two S f) (hw : T.ws = S.ws) (hn : T.n = S.n) : Two T f := ⟨by rw [hn]; exact h.n, by rw [hw, hn]; exact h.len⟩
theorem crash_half {T : Fl} {f σ : Nat} (h : Two T f) (hσ : σ < 2) (hh : T.half = ((f + σ : Nat) : Int)) (ks : List Bool) : Two (T.crash ks) f ∧ (T.crash ks).down = false ∧ (T.crash ks).armed = false ∧ (T.crash ks).half = -1 ∧ (T.crash ks).n = T.n ∧ OnesL (T.sec f σ) ((T.crash ks).sec f σ) ∧ ∀ τ, τ < 2 → τ ≠ σ → (T.crash ks).sec f τ = T.sec f τ := by
  have e : T.crash ks = { T with ws := mask T.ws (64 * f + (64 * σ + 0)) (ks.take 64), half := -1, down := false, armed := false } := by
    unfold Fl.crash
    rw [decide_eq_false (by omega)]
    simp only [hh, Int.toNat_natCast]
    rw [show (f + σ) * 64 = 64 * f + (64 * σ + 0) from by omega]
  have hX : Two (T.crash ks) f := ⟨by rw [e]; exact h.n, by rw [e]; simp only [mask_len6]; exact h.len⟩
  have hk : (ks.take 64).length ≤ 64 := by simp; omega
  have get : ∀ τ i, i < 64 → ((T.crash ks).sec f τ)[i]? = (mask T.ws (64 * f + (64 * σ + 0)) (ks.take 64))[64 * f + (64 * τ + i)]? := fun τ i hi => by
    rw [Two.sec_get i hi, e]
  refine ⟨hX, by rw [e], by rw [e], by rw [e], by rw [e], ?_, ?_⟩
  · refine OnesL.of_get _ _ (by rw [h.sec_len hσ, hX.sec_len hσ]) fun i hi => ?_
    rw [h.sec_len hσ] at hi
    rw [get σ i hi, Two.sec_get i hi]
    rcases mask_get6 (ks.take 64) T.ws (64 * f + (64 * σ + 0)) (64 * f + (64 * σ + i)) with h1 | ⟨h1, _⟩
    · exact .inl h1
    · exact .inr h1
  · intro τ hτ hne
    apply List.ext_getElem?
    intro i
    by_cases hi : i < 64
    · rw [get τ i hi, Two.sec_get i hi]
      rcases mask_get6 (ks.take 64) T.ws (64 * f + (64 * σ + 0)) (64 * f + (64 * τ + i)) with h1 | ⟨_, h1, h2⟩
      · exact h1
      · omega
    · rw [List.getElem?_eq_none (by rw [hX.sec_len hτ]; omega), List.getElem?_eq_none (by rw [h.sec_len hτ]; omega)]
theorem tstep_eq {R : Fl} {f c : Nat} (hd : R.down = false) (hc : (R.tlook f).2.1 = c) (hc2 : c < 2147483648) (last : Nat) {T : Fl} {r : Nat} (h : R.twrite f = (T, r)) : R.tstep f last false = (T, r, (if r = 0 then c + 1 else c), !(r == 0)) := by
  unfold Fl.tstep
  rw [hd]
  simp only [hc]
  rw [if_neg (by omega), h]
  cases r <;> simp
theorem ones_and (x : UInt32) : (4294967295 : UInt32) &&& x = x := by
  apply UInt32.toNat_inj.1
  rw [UInt32.toNat_and, show (4294967295 : UInt32).toNat = 2 ^ 32 - 1 from rfl, Nat.and_comm, Nat.and_two_pow_sub_one_eq_mod]
  exact Nat.mod_eq_of_lt x.toNat_lt
theorem Fl.prog_arm1 (x : UInt32) (R : Fl) (j : Nat) (h : R.armed = true) : ∃ T, R.prog j [x] = (T, decide (1 ≤ R.left)) ∧ T.n = R.n ∧ T.half = R.half ∧ (R.left = 0 → T.ws = R.ws) := by
  obtain ⟨n, ws, g, ar, left, dn, hf⟩ := R
  simp only at h
  subst h
  rcases left with _ | left
  · exact ⟨_, Prod.ext rfl rfl, rfl, rfl, fun _ => rfl⟩
  · exact ⟨_, Prod.ext rfl (by simp [Fl.prog, Fl.step]), rfl, rfl, fun e => by simp at e⟩
theorem Fl.prog_arm2 (c : Nat) (R : Fl) (j : Nat) (h : R.armed = true) : ∃ T, R.prog j (base2 c) = (T, decide (2 ≤ R.left)) ∧ T.n = R.n ∧ T.half = R.half ∧ (R.left = 0 → T.ws = R.ws) ∧ (R.left = 1 → j < R.ws.length → R.ws[j]? = some 4294967295 → T.ws = splice R.ws j [UInt32.ofNat c]) := by
  obtain ⟨n, ws, g, ar, left, dn, hf⟩ := R
  simp only at h
  subst h
  rcases left with _ | _ | left
  · exact ⟨_, Prod.ext rfl rfl, rfl, rfl, fun _ => rfl, fun e => by simp at e⟩
  · refine ⟨_, Prod.ext rfl rfl, rfl, rfl, fun e => by simp at e, fun _ hj hg => ?_⟩
    simp only at hj hg ⊢
    show ws.set j (ws.getD j 0 &&& UInt32.ofNat c) = _
    rw [set_is_splice _ _ _ hj, List.getD_eq_getElem?_getD, hg, Option.getD_some]
    rw [show (4294967295 : UInt32) &&& UInt32.ofNat c = UInt32.ofNat c from ones_and _]
  · exact ⟨_, Prod.ext rfl (by simp [base2, Fl.prog, Fl.step, Fl.put1]), rfl, rfl, fun e => by simp at e, fun e => by simp at e⟩
/-- A Step of a flash that is armed, and the crash behind it. -/
theorem tstep_armed {S : Fl} {f c : Nat} (h : Up6 S f) (hz : Nz S f) (hc : (S.tlook f).2.1 = c) (hc2 : c < 2147483648) (last a : Nat) (ks : List Bool) : ∃ T r, (S.arm (a : Int)).tstep f last false = (T, r, (if r = 0 then c + 1 else c), !(r == 0)) ∧ T.n = S.n ∧ T.Ok ∧ Up6 (T.crash ks) f ∧ (T.crash ks).n = S.n ∧ (r = 0 → Moved S (T.crash ks) f c) ∧ (r ≠ 0 → Fallen S (T.crash ks) f c) := by
  obtain ⟨R, hR⟩ : ∃ R, R = S.arm (a : Int) := ⟨_, rfl⟩
  have hRw : R.ws = S.ws ∧ R.down = false ∧ R.n = S.n ∧ R.half = -1 ∧ R.armed = true ∧ R.left = a := by
    rw [hR]
    simp [Fl.arm, h.down, h.half]
  obtain ⟨r1, r2, r3, r4, r5, r6⟩ := hRw
  rw [← hR]
  have hs : ∀ σ, R.sec f σ = S.sec f σ := fun σ => sec_of_ws r1 f σ
  have hl : R.tlook f = S.tlook f := by unfold Fl.tlook; rw [hs, hs]
  have hT : Two R f := h.two.of_ws r1 r3
  have hcR : (R.tlook f).2.1 = c := by rw [hl]; exact hc
  -- what was done in all: by the crash nothing changes
  have fin : ∀ (T : Fl) (r : Nat), R.twrite f = (T, r) → T.n = S.n → T.half = -1 → Two T f → (r = 0 → Moved S T f c) → (r ≠ 0 → Fallen S T f c) → ∃ T r, R.tstep f last false = (T, r, (if r = 0 then c + 1 else c), !(r == 0)) ∧ T.n = S.n ∧ T.Ok ∧ Up6 (T.crash ks) f ∧ (T.crash ks).n = S.n ∧ (r = 0 → Moved S (T.crash ks) f c) ∧ (r ≠ 0 → Fallen S (T.crash ks) f c) := by
    intro T r hT1 hn hh hTw hm hfl
    obtain ⟨w1, w2, w3, w4, w5⟩ := crash_same f hh ks
    have hsec : ∀ σ, (T.crash ks).sec f σ = T.sec f σ := fun σ => sec_of_ws w1 f σ
    refine ⟨T, r, tstep_eq r2 hcR hc2 last hT1, hn, .inl hh, ⟨hTw.of_ws w1 w2, w3, w4, w5⟩, w2.trans hn, fun e => ?_, fun e => ?_⟩
    · cases hm e with
      | bit σ k x q1 q2 q3 q4 q5 q6 q7 q8 => exact .bit σ k x q1 q2 q3 q4 q5 q6 (by rw [hsec]; exact q7) (fun τ a b => by rw [hsec]; exact q8 τ a b)
      | turn σ q1 q2 q3 q4 => exact .turn σ q1 q2 (by rw [hsec]; exact q3) (fun τ a b => by rw [hsec]; exact q4 τ a b)
    · cases hfl e with
      | same q => exact .same fun τ a => by rw [hsec]; exact q τ a
      | turn σ q1 q2 q3 q4 q5 => exact .turn σ q1 q2 (by rw [hsec]; exact q3) (fun τ a b => by rw [hsec]; exact q4 τ a b) (by rw [hsec]; exact q5)
  cases next_of hT hcR with
  | bit σ k x hσ hsn hcs hk hk2 hx hw =>
    rw [hs] at hcs hk hx
    rw [hl] at hsn
    obtain ⟨h0, h1, h2⟩ := cnt_set hcs hk hx
    have hset : sets32 (((R.sec f σ).drop k).take [low32 x].length) [low32 x] = false := by rw [hs]; exact sets_low hx h0
    obtain ⟨T, p1, p2, p3, p5⟩ := Fl.prog_arm1 (low32 x) R (64 * f + (64 * σ + k)) r5
    rw [r6] at p1
    by_cases ha : a = 0
    · rw [decide_eq_false (by omega)] at p1
      have hd := dwrite_not r2 hσ (by simp; omega) hset p1 _ rfl
      have hw2 : T.ws = R.ws := p5 (by rw [r6]; exact ha)
      exact fin T 40 (hw.trans hd) (p2.trans r3) (p3.trans r4) (hT.of_ws hw2 p2) (fun e => by cases e) (fun _ => .same fun τ _ => by rw [sec_of_ws hw2 f τ]; exact hs τ)
    · rw [decide_eq_true (by omega)] at p1
      obtain ⟨e1, e2, e3, e4⟩ := dwrite_yes hT r2 hσ (by simp; omega) hset p1 _ rfl
      refine fin T 0 (hw.trans e1) (p2.trans r3) (p3.trans r4) e2 (fun _ => .bit σ k x hσ hsn hcs hk hk2 hx ?_ fun τ a b => by rw [e4 τ a b]; exact hs τ) (fun e => absurd rfl e)
      rw [e3, hs, set_is_splice _ _ _ (by rw [h.two.sec_len hσ]; exact hk2)]
  | turn σ hσ hsn hw =>
    rw [hs, hl] at hsn
    have hst0 : R.left = 0 → R.step = ({ R with armed := false, down := true }, false) := fun e => by
      unfold Fl.step
      rw [r5, e]
    have hst1 : ∀ q, R.left = q + 1 → R.step = ({ R with left := q }, true) := fun q e => by
      unfold Fl.step
      rw [r5, e]
    have hde := derase_eq (σ := σ) hT r2 hσ
    rcases a with _ | a
    · -- half erased
      rw [hst0 r6] at hde
      simp only at hde
      obtain ⟨T, hTd⟩ : ∃ T, T = ({ ({ R with armed := false, down := true } : Fl) with half := ((f + σ : Nat) : Int) } : Fl) := ⟨_, rfl⟩
      have hT2 : Two T f := by rw [hTd]; exact hT.of_ws rfl rfl
      have hTs : ∀ τ, T.sec f τ = S.sec f τ := fun τ => by rw [← hs τ]; exact sec_of_ws (by rw [hTd]) f τ
      have htb : R.twrite f = (T, 40) := by
        rw [hw, hTd]
        unfold Fl.tbegin
        rw [hde]
      obtain ⟨w1, w2, w3, w4, w5, w6, w7⟩ := crash_half hT2 hσ (by rw [hTd]) ks
      have hTn : T.n = S.n := by rw [hTd]; exact r3
      refine ⟨T, 40, tstep_eq r2 hcR hc2 last htb, hTn, .inr ⟨f + σ, by rw [hTd], ?_⟩, ⟨w1, w2, w3, w4⟩, w5.trans hTn, (fun e => by cases e), fun _ => .turn σ hσ hsn ?_ (fun τ a b => by rw [w7 τ a b]; exact hTs τ) ?_⟩
      · have := hT2.n
        omega
      · rw [hTs] at w6
        have h1 := w6.cnt (hz σ hσ)
        have h2 := tlook_at hc
        rcases (show σ = 0 ∨ σ = 1 by omega) with rfl | rfl
        · omega
        · omega
      · rw [hTs] at w6
        have hz1 := hz σ hσ
        revert w6 hz1
        generalize S.sec f σ = L
        generalize (T.crash ks).sec f σ = M
        intro w6 hz1
        match L, M, w6 with
        | [], [], _ => simp
        | x :: l, y :: m, q =>
          rcases q.1 with e | e
          · rw [e]; simpa using hz1
          · rw [e]; simp
    · -- erased, and then the words
      rw [hst1 a r6] at hde
      simp only at hde
      obtain ⟨U, hU⟩ : ∃ U, U = ({ R with left := a } : Fl) := ⟨_, rfl⟩
      rw [← hU] at hde
      have hU2 : Two U f := by rw [hU]; exact hT.of_ws rfl rfl
      have hUs : ∀ τ, U.sec f τ = S.sec f τ := fun τ => by rw [← hs τ]; exact sec_of_ws (by rw [hU]) f τ
      obtain ⟨b1, b2, b3⟩ := blanked_secs hU2 hσ
      have tb : ∀ T r, (U.blanked f σ).dwrite f 2 (64 * (σ : Int)) (base2 (c + 1)) = (T, r) → R.twrite f = (T, r) := fun T r e => by
        rw [hw]
        unfold Fl.tbegin
        rw [hde]
        exact e
      have hset : sets32 ((((U.blanked f σ).sec f σ).drop 0).take (base2 (c + 1)).length) (base2 (c + 1)) = false := by rw [b2]; exact sets_base _
      have hBd : (U.blanked f σ).down = false := by rw [hU]; exact r2
      have hBa : (U.blanked f σ).armed = true := by rw [hU]; exact r5
      have hBl : (U.blanked f σ).left = a := by rw [hU]; rfl
      have hBn : (U.blanked f σ).n = S.n := by rw [hU]; exact r3
      have hBh : (U.blanked f σ).half = -1 := by rw [hU]; exact r4
      obtain ⟨T, p1, p2, p3, p5, p6⟩ := Fl.prog_arm2 (c + 1) (U.blanked f σ) (64 * f + (64 * σ + 0)) hBa
      rw [hBl] at p1
      by_cases ha : 2 ≤ a
      · rw [decide_eq_true ha] at p1
        obtain ⟨e1, e2, e3, e4⟩ := dwrite_yes b1 hBd hσ (by rw [base2_len]; omega) hset p1 (64 * (σ : Int)) (by omega)
        refine fin T 0 (tb T 0 e1) (p2.trans hBn) (p3.trans hBh) e2 (fun _ => .turn σ hσ hsn ?_ fun τ a b => by rw [e4 τ a b, b3 τ a b]; exact hUs τ) (fun e => absurd rfl e)
        rw [e3, b2, splice_base]
      · rw [decide_eq_false ha] at p1
        have hd := dwrite_not hBd hσ (by rw [base2_len]; omega) hset p1 (64 * (σ : Int)) (by omega)
        rcases (show a = 0 ∨ a = 1 by omega) with e0 | e0
        · have hw2 : T.ws = (U.blanked f σ).ws := p5 (by rw [hBl]; exact e0)
          have hTs : T.sec f σ = ones64 := by rw [sec_of_ws hw2 f σ]; exact b2
          refine fin T 40 (tb T 40 hd) (p2.trans hBn) (p3.trans hBh) (b1.of_ws hw2 p2) (fun e => by cases e) (fun _ => .turn σ hσ hsn ?_ (fun τ a b => by rw [sec_of_ws hw2 f τ, b3 τ a b]; exact hUs τ) ?_)
          · rw [hTs, show ones64 = List.replicate (62 + 2) 4294967295 from rfl, cnt_ones]
            simp
          · rw [hTs]
            simp [ones64, List.replicate_succ]
        · have hw2 := p6 (by rw [hBl]; exact e0) (by
            have h1 := b1.n
            have h2 := b1.len
            omega) (by
            have := Two.sec_get (S := U.blanked f σ) (f := f) (σ := σ) 0 (by omega)
            rw [← this, b2]; rfl)
          obtain ⟨e2, e3, e4⟩ := b1.write (l := [UInt32.ofNat (c + 1)]) (y := 0) hσ (by simp) hw2 p2
          have hTs : T.sec f σ = UInt32.ofNat (c + 1) :: List.replicate 63 4294967295 := by
            rw [e3, b2]
            rfl
          have hn := base2_nat (c := c + 1) (by omega)
          refine fin T 40 (tb T 40 hd) (p2.trans hBn) (p3.trans hBh) e2 (fun e => by cases e) (fun _ => .turn σ hσ hsn ?_ (fun τ a b => by rw [e4 τ a b, b3 τ a b]; exact hUs τ) ?_)
          · rw [hTs, List.replicate_succ]
            simp only [cntL]
            rw [if_neg]
            · simp
            · rw [hn.1]
              intro q
              have := q.2
              simp at this
              omega
          · rw [hTs]
            simp only [List.getElem?_cons_zero, ne_eq, Option.some.injEq]
            intro q
            have := hn.1
            rw [q] at this
            simp at this
end Go.Proofs.Ytpdfalgjmeagjaa
