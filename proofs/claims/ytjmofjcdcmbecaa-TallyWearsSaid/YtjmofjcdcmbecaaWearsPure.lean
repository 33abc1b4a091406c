/-
  So many steps of a fresh tally: where they are counted, and how many words each one changes; over plain data.
-/
import Derived.Test.YtjmofjcdcmbecaaTallyStep
import Derived.Test.YtjmofjcdcmbecaaNorNew
namespace Go.Proofs.Ytjmofjcdcmbecaa
open Go.RowKit
set_option linter.unusedVariables false

/-- In how many places two lists of words are unlike. -/
def diffs : List UInt32 → List UInt32 → Nat
  | x :: l, y :: m => (if x = y then 0 else 1) + diffs l m
  | _, _ => 0
/-- Does a bit rise? -/
def rises : List UInt32 → List UInt32 → Bool
  | x :: l, y :: m => !(nset y x == 0) || rises l m
  | _, _ => false
theorem diffs_app : ∀ (a b c d : List UInt32), a.length = b.length → diffs (a ++ c) (b ++ d) = diffs a b + diffs c d
  | [], [], c, d, _ => by simp [diffs]
  | [], y :: b, c, d, h => by simp at h
  | x :: a, [], c, d, h => by simp at h
  | x :: a, y :: b, c, d, h => by
    simp only [List.cons_append, diffs]
    rw [diffs_app a b c d (by simpa using h)]
    omega
theorem rises_app : ∀ (a b c d : List UInt32), a.length = b.length → rises (a ++ c) (b ++ d) = (rises a b || rises c d)
  | [], [], c, d, _ => by simp [rises]
  | [], y :: b, c, d, h => by simp at h
  | x :: a, [], c, d, h => by simp at h
  | x :: a, y :: b, c, d, h => by
    simp only [List.cons_append, rises]
    rw [rises_app a b c d (by simpa using h), Bool.or_assoc]
theorem diffs_self : ∀ a : List UInt32, diffs a a = 0
  | [] => rfl
  | x :: a => by simp [diffs, diffs_self a]
theorem rises_self : ∀ a : List UInt32, rises a a = false
  | [] => rfl
  | x :: a => by simp [rises, rises_self a, nset_self]
theorem diffs_set : ∀ (a : List UInt32) (k : Nat) (x y : UInt32), a[k]? = some x → x ≠ y → diffs a (a.set k y) = 1
  | [], k, x, y, h, _ => by simp at h
  | z :: a, 0, x, y, h, hn => by
    simp at h
    subst h
    simp [diffs, diffs_self, hn]
  | z :: a, k + 1, x, y, h, hn => by
    simp only [List.set_cons_succ, diffs]
    rw [diffs_set a k x y (by simpa using h) hn]
    simp
theorem rises_set : ∀ (a : List UInt32) (k : Nat) (x y : UInt32), a[k]? = some x → nset y x = 0 → rises a (a.set k y) = false
  | [], k, x, y, h, _ => by simp at h
  | z :: a, 0, x, y, h, hn => by
    simp at h
    subst h
    simp [rises, rises_self, hn]
  | z :: a, k + 1, x, y, h, hn => by
    simp only [List.set_cons_succ, rises]
    rw [rises_set a k x y (by simpa using h) hn]
    simp [nset_self]
theorem diffs_ge : ∀ (a b : List UInt32) (k : Nat) (x y : UInt32), a[k]? = some x → b[k]? = some y → x ≠ y → 1 ≤ diffs a b
  | [], b, k, x, y, h, _, _ => by simp at h
  | z :: a, [], k, x, y, h, h', _ => by simp at h'
  | z :: a, v :: b, 0, x, y, h, h', hn => by
    simp at h h'
    subst h h'
    simp only [diffs, if_neg hn]
    omega
  | z :: a, v :: b, k + 1, x, y, h, h', hn => by
    have := diffs_ge a b k x y (by simpa using h) (by simpa using h') hn
    simp only [diffs]
    omega
theorem diffs_le : ∀ a b : List UInt32, diffs a b ≤ a.length
  | [], b => by simp [diffs]
  | x :: a, [] => by simp [diffs]
  | x :: a, y :: b => by
    have := diffs_le a b
    simp only [diffs, List.length_cons]
    split <;> omega
/-- How far a fresh tally has come in k steps. -/
structure Worn (S : Fl) (f k : Nat) : Prop where
  count : (S.tlook f).2.1 = k
  none_ : k = 0 → (S.tlook f).1 = -1 ∧ ∀ τ, τ < 2 → S.sec f τ = ones64
  at_ : k ≠ 0 → ∃ σ : Nat, σ < 2 ∧ (S.tlook f).1 = (σ : Int) ∧ (cntL (S.sec f σ) = some k ∧ zers ((S.sec f σ).drop 2) = (k - 1) % 1985) ∧ ∀ x, (S.sec f (1 - σ))[0]? = some x → x = 4294967295 ∨ x.toNat ≤ k
theorem worn_zero : Worn (Fl.made 3 0) 1 0 :=
  ⟨by kernel_rfl, fun _ => ⟨by kernel_rfl, fun τ hτ => by
    rcases (show τ = 0 ∨ τ = 1 by omega) with rfl | rfl
    · kernel_rfl
    · kernel_rfl⟩, fun h => absurd rfl h⟩
theorem at_split {S : Fl} {f : Nat} : S.at_ f 0 128 = S.sec f 0 ++ S.sec f 1 := by
  unfold Fl.sec Fl.at_
  rw [show (128 : Nat) = 64 + 64 from rfl, List.take_add, List.drop_drop]
/-- Who counts more is the tally's sector. -/
theorem look_win {S : Fl} {f σ c : Nat} (hσ : σ < 2) (h : cntL (S.sec f σ) = some c) (ho : (cntL (S.sec f (1 - σ))).getD 0 < c) : (S.tlook f).1 = (σ : Int) := by
  unfold Fl.tlook lookL
  rcases (show σ = 0 ∨ σ = 1 by omega) with rfl | rfl
  · rw [h]
    cases hb : cntL (S.sec f 1) with
    | none => rfl
    | some k =>
      rw [hb] at ho
      simp only [Option.getD_some] at ho
      simp only
      rw [if_neg (by omega)]
      rfl
  · rw [h]
    cases hb : cntL (S.sec f 0) with
    | none => rfl
    | some k =>
      rw [show 1 - 1 = 0 from rfl, hb] at ho
      simp only [Option.getD_some] at ho
      simp only
      rw [if_pos ho]
      rfl
theorem base_le {l : List UInt32} {c : Nat} (h : cntL l = some c) (x : UInt32) (hx : l[0]? = some x) : x.toNat ≤ c := by
  match l, h, hx with
  | b :: t :: r, h, hx =>
    simp at hx
    subst hx
    simp only [cntL] at h
    split at h
    · simp only [Option.some.injEq] at h
      omega
    · cases h
theorem Worn.step {S T : Fl} {f k : Nat} (h : Worn S f k) (hk : k ≤ 4000) (hS : Two S f) (hT : Two T f) (hm : Moved S T f k) :
    Worn T f (k + 1) ∧ (k % 1985 = 0 → 1 ≤ diffs (S.at_ f 0 128) (T.at_ f 0 128)) ∧ (k % 1985 ≠ 0 → diffs (S.at_ f 0 128) (T.at_ f 0 128) = 1 ∧ rises (S.at_ f 0 128) (T.at_ f 0 128) = false) := by
  have hcount := hm.count h.count (by omega)
  obtain ⟨b0, b1⟩ := tlook_at h.count
  have l0 := hS.sec_len (σ := 0) (by omega)
  have l1 := hS.sec_len (σ := 1) (by omega)
  have m0 := hT.sec_len (σ := 0) (by omega)
  have m1 := hT.sec_len (σ := 1) (by omega)
  cases hm with
  | bit σ j x hσ hs hcs hkr hk2 hx h1 h2 =>
    have hk0 : k ≠ 0 := fun e => by
      have := (h.none_ e).1
      omega
    obtain ⟨σ', hσ', hs', ⟨hb, hz⟩, ho⟩ := h.at_ hk0
    obtain rfl : σ = σ' := by omega
    obtain ⟨hx0, hcT, hj2⟩ := cnt_set hcs hkr hx
    have hlen := hS.sec_len hσ
    obtain ⟨j', hj', hjj⟩ := Option.map_eq_some_iff.1 hkr
    have hzl := firstNz_lt hj'
    rw [hz, List.length_drop, hlen] at hzl
    have hmod : (k - 1) % 1985 + 1 = k % 1985 := by omega
    have hoth : T.sec f (1 - σ) = S.sec f (1 - σ) := h2 (1 - σ) (by omega) (by omega)
    have hzT : zers ((T.sec f σ).drop 2) = k % 1985 := by
      rw [h1, List.drop_set, if_neg (by omega)]
      have hx' : ((S.sec f σ).drop 2)[j - 2]? = some x := by rw [List.getElem?_drop, show 2 + (j - 2) = j from by omega]; exact hx
      have := zers_set _ (j - 2) x (low32 x) hx'
      rw [zer_low hx0, hz] at this
      omega
    refine ⟨⟨hcount, fun e => by omega, fun _ => ⟨σ, hσ, look_win hσ (by rw [h1]; exact hcT) ?_, ⟨by rw [h1]; exact hcT, by rw [hzT]; rfl⟩, fun y hy => ?_⟩⟩, fun e => by omega, fun _ => ?_⟩
    · rw [hoth]
      rcases (show σ = 0 ∨ σ = 1 by omega) with rfl | rfl
      · exact Nat.lt_succ_of_le b1
      · exact Nat.lt_succ_of_le b0
    · rw [hoth] at hy
      rcases ho y hy with e | e
      · exact .inl e
      · exact .inr (by omega)
    · rw [at_split, at_split, diffs_app _ _ _ _ (by rw [l0, m0]), rises_app _ _ _ _ (by rw [l0, m0])]
      have d1 := diffs_set _ j x (low32 x) hx (Ne.symm (low_ne hx0))
      have r1 := rises_set _ j x (low32 x) hx (nset_low hx0)
      rw [← h1] at d1 r1
      rcases (show σ = 0 ∨ σ = 1 by omega) with rfl | rfl
      · rw [show 1 - 0 = 1 from rfl] at hoth
        rw [hoth, diffs_self, rises_self, d1, r1]
        exact ⟨rfl, rfl⟩
      · rw [show 1 - 1 = 0 from rfl] at hoth
        rw [hoth, diffs_self, rises_self, d1, r1]
        exact ⟨rfl, rfl⟩
  | turn σ hσ hs h1 h2 =>
    have hoth : T.sec f (1 - σ) = S.sec f (1 - σ) := h2 (1 - σ) (by omega) (by omega)
    have hcT : cntL (T.sec f σ) = some (k + 1) := by rw [h1]; exact cnt_base (by omega) 62
    have hzT : zers ((T.sec f σ).drop 2) = 0 := by
      rw [h1]
      exact zers_ones 62
    -- the sector's old word
    have key : k % 1985 = 0 ∧ (∀ x, (S.sec f σ)[0]? = some x → x = 4294967295 ∨ x.toNat ≤ k) ∧ (∀ x, (S.sec f (1 - σ))[0]? = some x → x = 4294967295 ∨ x.toNat ≤ k + 1) := by
      by_cases hk0 : k = 0
      · obtain ⟨-, hn⟩ := h.none_ hk0
        have each : ∀ τ, τ < 2 → ∀ x, (S.sec f τ)[0]? = some x → x = 4294967295 := fun τ hτ x hx => by
          rw [hn τ hτ] at hx
          exact (Option.some.inj hx).symm
        exact ⟨by omega, fun x hx => .inl (each σ hσ x hx), fun x hx => .inl (each (1 - σ) (by omega) x hx)⟩
      · obtain ⟨σ', hσ', hs', ⟨hb, hz⟩, ho⟩ := h.at_ hk0
        rcases hs with ⟨e, _⟩ | ⟨e, hcs, hr⟩
        · omega
        · obtain rfl : σ' = 1 - σ := by omega
          have hlen := hS.sec_len hσ'
          have hf : firstNz ((S.sec f (1 - σ)).drop 2) = none := by
            unfold restL at hr
            simpa using hr
          have hzz := zers_full _ hf
          rw [hz, List.length_drop, hlen] at hzz
          refine ⟨by omega, fun x hx => ho x (by rw [show 1 - (1 - σ) = σ from by omega]; exact hx), fun x hx => .inr ?_⟩
          have := base_le hcs x hx
          omega
    obtain ⟨kk, kold, koth⟩ := key
    refine ⟨⟨hcount, fun e => by omega, fun _ => ⟨σ, hσ, look_win hσ hcT ?_, ⟨hcT, by rw [hzT]; omega⟩, fun y hy => koth y (by rw [hoth] at hy; exact hy)⟩⟩, fun _ => ?_, fun e => absurd kk e⟩
    · rw [hoth]
      rcases (show σ = 0 ∨ σ = 1 by omega) with rfl | rfl
      · exact Nat.lt_succ_of_le b1
      · exact Nat.lt_succ_of_le b0
    · rw [at_split, at_split, diffs_app _ _ _ _ (by rw [l0, m0])]
      have hlen := hS.sec_len hσ
      have e0 : (S.sec f σ)[0]? = some ((S.sec f σ)[0]'(by omega)) := List.getElem?_eq_getElem (by omega)
      have e1 : (T.sec f σ)[0]? = some (UInt32.ofNat (k + 1)) := by rw [h1]; rfl
      have hb2 := (base2_nat (c := k + 1) (by omega)).1
      have d1 := diffs_ge _ _ 0 _ _ e0 e1 (fun e => by
        rcases kold _ e0 with q | q
        · rw [e] at q
          rw [q] at hb2
          simp at hb2
          omega
        · rw [e, hb2] at q
          omega)
      rcases (show σ = 0 ∨ σ = 1 by omega) with rfl | rfl
      · omega
      · omega
end Go.Proofs.Ytjmofjcdcmbecaa
