/-
  What a tally does to the words of its two sectors: over a flash as plain data.
-/
import Derived.Test.YtpdfalgjmeagjaaTallyBits
import Derived.Test.YtpdfalgjmeagjaaDrPure
namespace Go.Proofs.Ytpdfalgjmeagjaa
open Go.RowKit
set_option linter.unusedVariables false

/-- What a sector of these words counts, if it counts. -/
def cntL : List UInt32 → Option Nat
  | b :: t :: r => if b.toNat ≤ 2147483648 ∧ t.toNat = 4294967295 - b.toNat then some (b.toNat + zers r) else none
  | _ => none
/-- Which one is the first word that is not 0. -/
def firstNz : List UInt32 → Option Nat
  | [] => none
  | x :: l => if x = 0 then (firstNz l).map (· + 1) else some 0
def restL (l : List UInt32) : Option Nat := (firstNz (l.drop 2)).map (· + 2)
/-- The tally's sector, its count, its words. -/
def lookL (a b : List UInt32) : Int × Nat × List UInt32 := match cntL a, cntL b with
  | none, none => (-1, 0, List.replicate 64 0)
  | some n, none => (0, n, a)
  | none, some k => (1, k, b)
  | some n, some k => if n < k then (1, k, b) else (0, n, a)
/-- The words of one of the drive's sectors. -/
def Fl.sec (S : Fl) (f σ : Nat) : List UInt32 := S.at_ f (64 * σ) 64
def Fl.tlook (S : Fl) (f : Nat) : Int × Nat × List UInt32 := lookL (S.sec f 0) (S.sec f 1)
def base2 (c : Nat) : List UInt32 := [UInt32.ofNat c, UInt32.ofNat (4294967295 - c)]
def Fl.tbegin (S : Fl) (f s c : Nat) : Fl × Nat := match S.derase f 2 (s : Int) with
  | (T, 0) => T.dwrite f 2 (64 * (s : Int)) (base2 c)
  | (T, e + 1) => (T, e + 1)
def Fl.twrite (S : Fl) (f : Nat) : Fl × Nat := match S.tlook f with
  | (s, c, l) => if s = -1 then S.tbegin f 0 (c + 1) else match restL l with
    | none => S.tbegin f (1 - s).toNat (c + 1)
    | some k => S.dwrite f 2 (64 * s + (k : Int)) [low32 (l.getD k 0)]
def Fl.tstep (S : Fl) (f last : Nat) (over : Bool) : Fl × Nat × Nat × Bool := match over, S.down with
  | true, _ => (S, 60, last, true)
  | false, true => if 2147483648 ≤ last then (S, 5, last, false) else (S, 40, last, true)
  | false, false => if 2147483648 ≤ (S.tlook f).2.1 then (S, 5, (S.tlook f).2.1, false) else match S.twrite f with
    | (T, 0) => (T, 0, (S.tlook f).2.1 + 1, false)
    | (T, e + 1) => (T, e + 1, (S.tlook f).2.1, true)

theorem zers_le : ∀ l : List UInt32, zers l ≤ 32 * l.length
  | [] => Nat.le_refl _
  | x :: l => by
    have := zers_le l
    have := zer_le x
    simp only [zers, List.length_cons]
    omega
theorem zers_app : ∀ (l m : List UInt32), zers (l ++ m) = zers l + zers m
  | [], m => by simp [zers]
  | x :: l, m => by
    rw [List.cons_append]
    simp only [zers]
    rw [zers_app l m]
    omega
theorem zers_full : ∀ l : List UInt32, firstNz l = none → zers l = 32 * l.length
  | [], _ => rfl
  | x :: l, h => by
    simp only [firstNz] at h
    split at h
    · rename_i h0
      subst h0
      have := zers_full l (by simpa using h)
      simp only [zers, List.length_cons, zer_zero]
      omega
    · simp at h
theorem firstNz_some : ∀ (l : List UInt32) (k : Nat), firstNz l = some k → ∃ x, l[k]? = some x ∧ x ≠ 0
  | [], k, h => by simp [firstNz] at h
  | x :: l, k, h => by
    simp only [firstNz] at h
    split at h
    · obtain ⟨j, hj, rfl⟩ := Option.map_eq_some_iff.1 h
      exact firstNz_some l j hj
    · rename_i h0
      simp only [Option.some.injEq] at h
      subst h
      exact ⟨x, rfl, h0⟩
theorem zers_set : ∀ (l : List UInt32) (k : Nat) (x y : UInt32), l[k]? = some x → zers (l.set k y) + zer x = zers l + zer y
  | [], k, x, y, h => by simp at h
  | a :: l, 0, x, y, h => by
    simp at h
    subst h
    simp only [List.set_cons_zero, zers]
    omega
  | a :: l, k + 1, x, y, h => by
    have := zers_set l k x y (by simpa using h)
    simp only [List.set_cons_succ, zers]
    omega
theorem firstNz_lt {l : List UInt32} {k : Nat} (h : firstNz l = some k) : zers l < 32 * l.length := by
  obtain ⟨x, hx, h0⟩ := firstNz_some l k h
  have h1 := zers_set l k x 0 hx
  have h2 := zers_le (l.set k 0)
  have h3 : zer x ≠ 32 := fun e => h0 (zer_full e)
  have h4 := zer_le x
  rw [zer_zero] at h1
  rw [List.length_set] at h2
  omega
theorem zers_ones : ∀ n, zers (List.replicate n 4294967295) = 0
  | 0 => rfl
  | n + 1 => by rw [List.replicate_succ, zers, zer_ones, zers_ones n]
theorem look_cnt (a b : List UInt32) : (lookL a b).2.1 = max ((cntL a).getD 0) ((cntL b).getD 0) := by
  unfold lookL
  cases cntL a <;> cases cntL b <;> simp
  split <;> simp <;> omega
/-- What is there, if there is a sector of the tally's. -/
theorem look_at {a b : List UInt32} {s : Int} {c : Nat} {l : List UInt32} (h : lookL a b = (s, c, l)) : (s = -1 ∧ c = 0 ∧ cntL a = none ∧ cntL b = none) ∨ (s = 0 ∧ l = a ∧ cntL a = some c ∧ (cntL b).getD 0 ≤ c) ∨ (s = 1 ∧ l = b ∧ cntL b = some c ∧ (cntL a).getD 0 ≤ c) := by
  unfold lookL at h
  cases ha : cntL a <;> cases hb : cntL b <;> rw [ha, hb] at h <;> simp only at h
  · simp only [Prod.mk.injEq] at h
    exact .inl ⟨h.1.symm, h.2.1.symm, rfl, rfl⟩
  · simp only [Prod.mk.injEq] at h
    exact .inr (.inr ⟨h.1.symm, h.2.2.symm, by rw [h.2.1], by simp⟩)
  · simp only [Prod.mk.injEq] at h
    exact .inr (.inl ⟨h.1.symm, h.2.2.symm, by rw [h.2.1], by simp⟩)
  · split at h <;> simp only [Prod.mk.injEq] at h
    · exact .inr (.inr ⟨h.1.symm, h.2.2.symm, by rw [h.2.1], by simp; omega⟩)
    · exact .inr (.inl ⟨h.1.symm, h.2.2.symm, by rw [h.2.1], by simp; omega⟩)
theorem base2_nat {c : Nat} (h : c ≤ 4294967295) : (UInt32.ofNat c).toNat = c ∧ (UInt32.ofNat (4294967295 - c)).toNat = 4294967295 - c := by
  constructor
  · rw [UInt32.toNat_ofNat']; exact Nat.mod_eq_of_lt (by omega)
  · rw [UInt32.toNat_ofNat']; exact Nat.mod_eq_of_lt (by omega)
/-- A fresh base counts as told. -/
theorem cnt_base {c : Nat} (h : c ≤ 2147483648) (n : Nat) : cntL (base2 c ++ List.replicate n 4294967295) = some c := by
  obtain ⟨h1, h2⟩ := base2_nat (c := c) (by omega)
  simp only [base2, List.cons_append, List.nil_append, cntL, h1, h2, zers_ones]
  simp [h]
theorem cnt_ones (n : Nat) : cntL (List.replicate (n + 2) 4294967295) = none := by
  rw [List.replicate_succ, List.replicate_succ]
  simp only [cntL]
  rw [if_neg]
  intro h
  have := h.1
  simp at this
/-- A bit more is 0 behind the base: one more is counted. -/
theorem cnt_set {l : List UInt32} {c k : Nat} {x : UInt32} (h : cntL l = some c) (hk : restL l = some k) (hx : l[k]? = some x) : x ≠ 0 ∧ cntL (l.set k (low32 x)) = some (c + 1) ∧ 2 ≤ k := by
  match l, h with
  | b :: t :: r, h =>
    obtain ⟨j, hj, rfl⟩ := Option.map_eq_some_iff.1 hk
    simp only [List.drop_succ_cons, List.drop_zero] at hj
    obtain ⟨y, hy, h0⟩ := firstNz_some r j hj
    simp only [List.getElem?_cons_succ] at hx
    obtain rfl : x = y := by rw [hx] at hy; exact Option.some.inj hy
    refine ⟨h0, ?_, by omega⟩
    simp only [cntL] at h
    split at h
    · rename_i hb
      simp only [Option.some.injEq] at h
      simp only [List.set_cons_succ, cntL]
      rw [if_pos hb]
      have h1 := zers_set r j x (low32 x) hy
      rw [zer_low h0] at h1
      simp only [Option.some.injEq]
      omega
    · cases h
theorem nset_low {x : UInt32} (h : x ≠ 0) : nset (low32 x) x = 0 := by
  unfold nset
  have hx := x.toNat_lt
  obtain ⟨h1, h2, h3, h4⟩ := bitLen_bounds 32 x.toNat (by omega) (by omega) (ne0 h)
  rw [low32_nat]
  revert h1 h2
  generalize Lib.bitLen x.toNat - 1 = i
  intro h1 h2
  obtain ⟨y, hy⟩ : ∃ y, x.toNat = 2 ^ i + y := ⟨x.toNat - 2 ^ i, by omega⟩
  apply Nat.eq_of_testBit_eq
  intro j
  rw [Nat.testBit_and, Nat.zero_testBit, show 4294967295 - x.toNat = 2 ^ 32 - (x.toNat + 1) from by omega, Nat.testBit_two_pow_sub_succ (by omega), hy, show 2 ^ i + y - 2 ^ i = y from by omega]
  by_cases hj : j < i
  · rw [Nat.testBit_two_pow_add_gt hj]
    cases y.testBit j <;> simp
  · have : y.testBit j = false := Nat.testBit_lt_two_pow (Nat.lt_of_lt_of_le (show y < 2 ^ i by omega) (Nat.pow_le_pow_right (by omega) (by omega)))
    rw [this]
    simp
theorem low_ne {x : UInt32} (h : x ≠ 0) : low32 x ≠ x := fun e => by
  have := zer_low h
  rw [e] at this
  omega

/-- Both sectors are there. -/
structure Two (S : Fl) (f : Nat) : Prop where
  n : f + 2 ≤ S.n
  len : S.ws.length = 64 * S.n
theorem Two.sec_len {S : Fl} {f σ : Nat} (h : Two S f) (hσ : σ < 2) : (S.sec f σ).length = 64 := by
  have := h.n
  have := h.len
  simp [Fl.sec, Fl.at_]
  omega
theorem Two.sec_get {S : Fl} {f σ : Nat} (i : Nat) (hi : i < 64) : (S.sec f σ)[i]? = S.ws[64 * f + (64 * σ + i)]? := by
  unfold Fl.sec Fl.at_
  rw [List.getElem?_take, if_pos hi, List.getElem?_drop, show 64 * f + 64 * σ + i = 64 * f + (64 * σ + i) from by omega]
/-- What is written lies in one sector. -/
theorem Two.write {S T : Fl} {f σ y : Nat} {l : List UInt32} (h : Two S f) (hσ : σ < 2) (hy : y + l.length ≤ 64) (hw : T.ws = splice S.ws (64 * f + (64 * σ + y)) l) (hn : T.n = S.n) :
    Two T f ∧ T.sec f σ = splice (S.sec f σ) y l ∧ ∀ τ, τ < 2 → τ ≠ σ → T.sec f τ = S.sec f τ := by
  have h1 := h.n
  have h2 := h.len
  have hT : Two T f := ⟨by rw [hn]; exact h1, by rw [hw, length_splice _ _ _ (by omega), hn]; exact h2⟩
  refine ⟨hT, ?_, ?_⟩
  · apply List.ext_getElem?
    intro i
    by_cases hi : i < 64
    · rw [Two.sec_get i hi, hw, splice_get2 _ _ _ _ (by omega), splice_get2 _ _ _ _ (by rw [h.sec_len hσ]; exact hy), Two.sec_get i hi]
      by_cases c1 : i < y
      · rw [if_pos c1, if_pos (by omega)]
      · rw [if_neg c1, if_neg (by omega)]
        by_cases c2 : i < y + l.length
        · rw [if_pos c2, if_pos (by omega)]
          congr 1
          omega
        · rw [if_neg c2, if_neg (by omega)]
    · rw [List.getElem?_eq_none (by rw [hT.sec_len hσ]; omega), List.getElem?_eq_none (by rw [length_splice _ _ _ (by rw [h.sec_len hσ]; exact hy), h.sec_len hσ]; omega)]
  · intro τ hτ hne
    apply List.ext_getElem?
    intro i
    by_cases hi : i < 64
    · rw [Two.sec_get i hi, Two.sec_get i hi, hw, splice_get2 _ _ _ _ (by omega)]
      by_cases c1 : τ < σ
      · rw [if_pos (by omega)]
      · rw [if_neg (by omega), if_neg (by omega)]
    · rw [List.getElem?_eq_none (by rw [hT.sec_len hτ]; omega), List.getElem?_eq_none (by rw [h.sec_len hτ]; omega)]
end Go.Proofs.Ytpdfalgjmeagjaa
