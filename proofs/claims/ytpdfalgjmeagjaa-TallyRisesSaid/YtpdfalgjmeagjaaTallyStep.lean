/-
  What one Step leaves: of a flash that is up, and of one that is armed, behind its crash; over a flash as plain data.
-/
import Derived.Test.YtpdfalgjmeagjaaTallyPure
namespace Go.Proofs.Ytpdfalgjmeagjaa
open Go.RowKit
set_option linter.unusedVariables false

/-- A flash that is up, and not armed, with its two sectors. -/
structure Up6 (S : Fl) (f : Nat) : Prop where
  two : Two S f
  down : S.down = false
  armed : S.armed = false
  half : S.half = -1

theorem dwrite_yes {S T : Fl} {f σ y : Nat} {l : List UInt32} (h : Two S f) (hd : S.down = false) (hσ : σ < 2) (hy : y + l.length ≤ 64) (hset : sets32 (((S.sec f σ).drop y).take l.length) l = false) (hp : S.prog (64 * f + (64 * σ + y)) l = (T, true)) (a : Int) (ha : a = ((64 * σ + y : Nat) : Int)) :
    S.dwrite f 2 a l = (T, 0) ∧ Two T f ∧ T.sec f σ = splice (S.sec f σ) y l ∧ ∀ τ, τ < 2 → τ ≠ σ → T.sec f τ = S.sec f τ := by
  subst ha
  have h1 := h.n
  have h2 := h.len
  have hw : wordsOk 2 ((64 * σ + y : Nat) : Int) (l.length : Int) = true := by simp [wordsOk]; omega
  have e : S.at_ f (64 * σ + y) l.length = ((S.sec f σ).drop y).take l.length := by
    unfold Fl.sec Fl.at_
    rw [List.drop_take, List.take_take, List.drop_drop, Nat.min_eq_left (by omega)]
    congr 2
    omega
  refine ⟨?_, h.write hσ hy (Fl.prog_words _ _ _ _ hp (by omega) ?_) (Fl.prog_keep _ _ _ _ hp).2.1⟩
  · unfold Fl.dwrite
    rw [hw, hd, Int.toNat_natCast, e, hset]
    simp only
    rw [hp]
  · rw [← e] at hset
    exact hset
theorem dwrite_not {S T : Fl} {f σ y : Nat} {l : List UInt32} (hd : S.down = false) (hσ : σ < 2) (hy : y + l.length ≤ 64) (hset : sets32 (((S.sec f σ).drop y).take l.length) l = false) (hp : S.prog (64 * f + (64 * σ + y)) l = (T, false)) (a : Int) (ha : a = ((64 * σ + y : Nat) : Int)) :
    S.dwrite f 2 a l = (T, 40) := by
  subst ha
  have hw : wordsOk 2 ((64 * σ + y : Nat) : Int) (l.length : Int) = true := by simp [wordsOk]; omega
  have e : S.at_ f (64 * σ + y) l.length = ((S.sec f σ).drop y).take l.length := by
    unfold Fl.sec Fl.at_
    rw [List.drop_take, List.take_take, List.drop_drop, Nat.min_eq_left (by omega)]
    congr 2
    omega
  unfold Fl.dwrite
  rw [hw, hd, Int.toNat_natCast, e, hset]
  simp only
  rw [hp]
/-- A sector erased. -/
def Fl.blanked (S : Fl) (f σ : Nat) : Fl := { S with ws := splice S.ws (64 * f + (64 * σ + 0)) ones64 }
theorem derase_eq {S : Fl} {f σ : Nat} (h : Two S f) (hd : S.down = false) (hσ : σ < 2) : S.derase f 2 (σ : Int) = match S.step with
    | (T, true) => (T.blanked f σ, 0)
    | (T, false) => ({ T with half := ((f + σ : Nat) : Int) }, 40) := by
  have h1 := h.n
  have ho : secsOk 2 (σ : Int) 1 = true := by simp [secsOk]; omega
  have hse : S.sector ((f : Int) + (σ : Int)) = true := by simp [Fl.sector]; omega
  unfold Fl.derase Fl.erase
  rw [ho]
  simp only [hd, hse]
  rw [show ((f : Int) + (σ : Int)) = ((f + σ : Nat) : Int) from by omega]
  cases S.step with
  | mk T r =>
    cases r
    · rfl
    · simp only [Int.toNat_natCast, Fl.blanked]
      rw [show (f + σ) * 64 = 64 * f + (64 * σ + 0) from by omega]
theorem blanked_secs {S : Fl} {f σ : Nat} (h : Two S f) (hσ : σ < 2) : Two (S.blanked f σ) f ∧ (S.blanked f σ).sec f σ = ones64 ∧ ∀ τ, τ < 2 → τ ≠ σ → (S.blanked f σ).sec f τ = S.sec f τ := by
  have hl : ones64.length = 64 := rfl
  obtain ⟨h1, h2, h3⟩ := h.write (T := S.blanked f σ) (l := ones64) (y := 0) hσ (by rw [hl]; omega) rfl rfl
  refine ⟨h1, ?_, h3⟩
  rw [h2]
  have h4 := h.sec_len hσ
  have h5 := splice_at (S.sec f σ) ones64 0 (by rw [h4, hl]; omega)
  rw [List.drop_zero] at h5
  rwa [List.take_of_length_le (by rw [length_splice _ _ _ (by rw [h4, hl]; omega), h4, hl]; exact Nat.le_refl _)] at h5
theorem base2_len (c : Nat) : (base2 c).length = 2 := rfl
theorem splice_base (c : Nat) : splice ones64 0 (base2 c) = base2 c ++ List.replicate 62 4294967295 := by
  unfold splice
  rw [List.take_zero, List.nil_append, base2_len]
  rfl
theorem set_is_splice {α : Type} (l : List α) (k : Nat) (x : α) (h : k < l.length) : splice l k [x] = l.set k x := by
  unfold splice
  rw [List.set_eq_take_append_cons_drop, if_pos h]
  rfl
theorem take_one {α : Type} {l : List α} {k : Nat} {x : α} (h : l[k]? = some x) : (l.drop k).take 1 = [x] := by
  rw [drop_at32 h, List.take_succ_cons, List.take_zero]

/-- What a Step does to the words: a bit of the tally's sector falls, or the other one begins. -/
inductive Moved (S T : Fl) (f c : Nat) : Prop
  | bit (σ k : Nat) (x : UInt32) (hσ : σ < 2) (hs : (S.tlook f).1 = (σ : Int)) (hc : cntL (S.sec f σ) = some c) (hk : restL (S.sec f σ) = some k) (hk2 : k < 64) (hx : (S.sec f σ)[k]? = some x) (h1 : T.sec f σ = (S.sec f σ).set k (low32 x)) (h2 : ∀ τ, τ < 2 → τ ≠ σ → T.sec f τ = S.sec f τ)
  | turn (σ : Nat) (hσ : σ < 2) (hs : ((S.tlook f).1 = -1 ∧ σ = 0) ∨ ((S.tlook f).1 = ((1 - σ : Nat) : Int) ∧ cntL (S.sec f (1 - σ)) = some c ∧ restL (S.sec f (1 - σ)) = none)) (h1 : T.sec f σ = base2 (c + 1) ++ List.replicate 62 4294967295) (h2 : ∀ τ, τ < 2 → τ ≠ σ → T.sec f τ = S.sec f τ)

/-- Where the next Step writes. -/
inductive Next (S : Fl) (f c : Nat) : Prop
  | bit (σ k : Nat) (x : UInt32) (hσ : σ < 2) (hs : (S.tlook f).1 = (σ : Int)) (hc : cntL (S.sec f σ) = some c) (hk : restL (S.sec f σ) = some k) (hk2 : k < 64) (hx : (S.sec f σ)[k]? = some x) (hw : S.twrite f = S.dwrite f 2 ((64 * σ + k : Nat) : Int) [low32 x])
  | turn (σ : Nat) (hσ : σ < 2) (hs : ((S.tlook f).1 = -1 ∧ σ = 0) ∨ ((S.tlook f).1 = ((1 - σ : Nat) : Int) ∧ cntL (S.sec f (1 - σ)) = some c ∧ restL (S.sec f (1 - σ)) = none)) (hw : S.twrite f = S.tbegin f σ (c + 1))
theorem next_of {S : Fl} {f c : Nat} (h : Two S f) (hc : (S.tlook f).2.1 = c) : Next S f c := by
  obtain ⟨s, c', l, hl⟩ : ∃ s c' l, S.tlook f = (s, c', l) := ⟨_, _, _, rfl⟩
  have hw : S.twrite f = if s = -1 then S.tbegin f 0 (c' + 1) else match restL l with
    | none => S.tbegin f (1 - s).toNat (c' + 1)
    | some k => S.dwrite f 2 (64 * s + (k : Int)) [low32 (l.getD k 0)] := by
    unfold Fl.twrite
    rw [hl]
    rfl
  rw [hl] at hc
  simp only at hc
  subst hc
  have one : ∀ σ : Nat, σ < 2 → s = (σ : Int) → l = S.sec f σ → cntL (S.sec f σ) = some c' → Next S f c' := by
    intro σ hσ hs hls hcs
    subst hls
    rw [if_neg (by omega)] at hw
    cases hr : restL (S.sec f σ) with
    | none =>
      rw [hr] at hw
      simp only at hw
      refine .turn (1 - σ) (by omega) (.inr ?_) ?_
      · rw [show 1 - (1 - σ) = σ from by omega, hl]
        exact ⟨hs, hcs, hr⟩
      · rw [hw]
        congr 1
        omega
    | some k =>
      rw [hr] at hw
      simp only at hw
      obtain ⟨j, hj, rfl⟩ := Option.map_eq_some_iff.1 hr
      obtain ⟨x, hx, h0⟩ := firstNz_some _ j hj
      rw [List.getElem?_drop, show 2 + j = j + 2 from by omega] at hx
      have hlt : j + 2 < 64 := by
        have := (List.getElem?_eq_some_iff.1 hx).1
        rwa [h.sec_len hσ] at this
      refine .bit σ (j + 2) x hσ (by rw [hl]; exact hs) hcs hr hlt hx ?_
      rw [hw, List.getD_eq_getElem?_getD, hx, hs, Option.getD_some, show 64 * (σ : Int) + ((j + 2 : Nat) : Int) = ((64 * σ + (j + 2) : Nat) : Int) from by omega]
  rcases look_at hl with ⟨h1, h2, h3, h4⟩ | ⟨h1, h2, h3, h4⟩ | ⟨h1, h2, h3, h4⟩
  · rw [if_pos h1] at hw
    exact .turn 0 (by omega) (.inl ⟨by rw [hl]; exact h1, rfl⟩) hw
  · exact one 0 (by omega) h1 h2 h3
  · exact one 1 (by omega) h1 h2 h3
theorem tlook_at {S : Fl} {f c : Nat} (hc : (S.tlook f).2.1 = c) : (cntL (S.sec f 0)).getD 0 ≤ c ∧ (cntL (S.sec f 1)).getD 0 ≤ c := by
  unfold Fl.tlook at hc
  rw [look_cnt] at hc
  omega
/-- Behind it one more is counted. -/
theorem Moved.count {S T : Fl} {f c : Nat} (h : Moved S T f c) (hc : (S.tlook f).2.1 = c) (hc2 : c < 2147483648) : (T.tlook f).2.1 = c + 1 := by
  obtain ⟨b0, b1⟩ := tlook_at hc
  unfold Fl.tlook
  rw [look_cnt]
  have key : ∀ σ, σ < 2 → cntL (T.sec f σ) = some (c + 1) → (∀ τ, τ < 2 → τ ≠ σ → T.sec f τ = S.sec f τ) → max ((cntL (T.sec f 0)).getD 0) ((cntL (T.sec f 1)).getD 0) = c + 1 := by
    intro σ hσ h1 h2
    rcases (show σ = 0 ∨ σ = 1 by omega) with rfl | rfl
    · rw [h1, h2 1 (by omega) (by omega), Option.getD_some]
      omega
    · rw [h1, h2 0 (by omega) (by omega), Option.getD_some]
      omega
  cases h with
  | bit σ k x hσ hs hcs hk hk2 hx h1 h2 => exact key σ hσ (by rw [h1]; exact (cnt_set hcs hk hx).2.1) h2
  | turn σ hσ hs h1 h2 => exact key σ hσ (by rw [h1]; exact cnt_base (by omega) 62) h2
theorem Fl.step_up {S : Fl} (h : S.armed = false) : S.step = (S, true) := by
  unfold Fl.step
  rw [h]
theorem prog_keep_half {S T : Fl} {j : Nat} {l : List UInt32} {r : Bool} (h : S.prog j l = (T, r)) : T.n = S.n ∧ T.half = S.half := by
  have := Fl.prog_half l S j
  rw [h] at this
  exact this
theorem sets_base (c : Nat) : sets32 ((ones64.drop 0).take (base2 c).length) (base2 c) = false := by
  rw [base2_len]
  exact sets32_ones (base2 c)
theorem sets_low {L : List UInt32} {k : Nat} {x : UInt32} (hx : L[k]? = some x) (h0 : x ≠ 0) : sets32 ((L.drop k).take [low32 x].length) [low32 x] = false := by
  rw [List.length_singleton, take_one hx]
  simp [sets32, nset_low h0]
/-- A Step of a flash that is up. -/
theorem tstep_up {S : Fl} {f c : Nat} (h : Up6 S f) (hc : (S.tlook f).2.1 = c) (hc2 : c < 2147483648) (last : Nat) : ∃ T, S.tstep f last false = (T, 0, c + 1, false) ∧ Up6 T f ∧ T.n = S.n ∧ Moved S T f c := by
  have e : ∀ T, S.twrite f = (T, 0) → S.tstep f last false = (T, 0, c + 1, false) := fun T hT => by
    unfold Fl.tstep
    rw [h.down]
    simp only [hc]
    rw [if_neg (by omega), hT]
  cases next_of h.two hc with
  | bit σ k x hσ hs hcs hk hk2 hx hw =>
    obtain ⟨h0, h1, h2⟩ := cnt_set hcs hk hx
    obtain ⟨T, hT, ha⟩ := Fl.prog_up [low32 x] S (64 * f + (64 * σ + k)) h.armed
    obtain ⟨e1, e2, e3, e4⟩ := dwrite_yes (l := [low32 x]) h.two h.down hσ (by simp; omega) (sets_low hx h0) hT _ rfl
    obtain ⟨k1, k2⟩ := prog_keep_half hT
    refine ⟨T, e T (hw.trans e1), ⟨e2, (Fl.prog_keep _ _ _ _ hT).1.trans h.down, ha, k2.trans h.half⟩, k1, .bit σ k x hσ hs hcs hk hk2 hx ?_ e4⟩
    rw [e3, set_is_splice _ _ _ (by rw [h.two.sec_len hσ]; exact hk2)]
  | turn σ hσ hs hw =>
    obtain ⟨b1, b2, b3⟩ := blanked_secs h.two hσ
    have hd : S.derase f 2 (σ : Int) = (S.blanked f σ, 0) := by
      rw [derase_eq h.two h.down hσ, Fl.step_up h.armed]
    obtain ⟨T, hT, ha⟩ := Fl.prog_up (base2 (c + 1)) (S.blanked f σ) (64 * f + (64 * σ + 0)) h.armed
    obtain ⟨e1, e2, e3, e4⟩ := dwrite_yes (l := base2 (c + 1)) b1 h.down hσ (by rw [base2_len]; omega) (by rw [b2]; exact sets_base _) hT (64 * (σ : Int)) (by omega)
    obtain ⟨k1, k2⟩ := prog_keep_half hT
    refine ⟨T, e T (hw.trans ?_), ⟨e2, (Fl.prog_keep _ _ _ _ hT).1.trans h.down, ha, k2.trans h.half⟩, k1, .turn σ hσ hs ?_ (fun τ h1 h2 => (e4 τ h1 h2).trans (b3 τ h1 h2))⟩
    · unfold Fl.tbegin
      rw [hd]
      exact e1
    · rw [e3, b2, splice_base]
end Go.Proofs.Ytpdfalgjmeagjaa
