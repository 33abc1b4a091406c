/-
  Numbers, words and strings written down as bytes, and read back: plain functions on lists, as chapter 1 of the document defines them. No program is named here.
-/
namespace Go.Proofs.Ytangblcfdboghaa

/-- The digits of a number, with room for ten. -/
def digsF : Nat → Nat → List UInt8
  | 0, n => [UInt8.ofNat n]
  | f + 1, n => if n < 128 then [UInt8.ofNat n] else UInt8.ofNat (128 + n % 128) :: digsF f (n / 128)
def digs (n : Nat) : List UInt8 := digsF 9 n
/-- How many they are. -/
def ndF : Nat → Nat → Nat
  | 0, _ => 1
  | f + 1, n => if n < 128 then 1 else ndF f (n / 128) + 1
def nd (n : Nat) : Nat := ndF 9 n
/-- The digit at a place, written down. -/
def digAt (n i : Nat) : UInt8 := if i + 1 < nd n then UInt8.ofNat (128 + n / 128 ^ i % 128) else UInt8.ofNat (n / 128 ^ i)
/-- May c be the last digit behind i others? -/
def endOk (c : UInt8) (i : Nat) : Bool := if i = 9 then c == 1 else (c != 0 || i == 0)
/-- The number that bytes begin with, how many bytes it has, or an error; i digits are behind us. -/
def guF : Nat → List UInt8 → Nat → Nat → Nat × Nat × Nat
  | 0, _, _, _ => (0, 0, 11)
  | _ + 1, [], _, _ => (0, 0, 10)
  | f + 1, c :: l, i, acc =>
    if 128 ≤ c.toNat then guF f l (i + 1) (acc + c.toNat % 128 * 128 ^ i)
    else if endOk c i then (acc + c.toNat * 128 ^ i, i + 1, 0) else (0, 0, 11)
def gu (l : List UInt8) : Nat × Nat × Nat := guF 10 l 0 0
def isAt (l : Nat) (p : Int) : Bool := decide (0 ≤ p) && decide (p ≤ l)
/-- A number at a place: the number, the place behind it, the error. -/
def getU (l : List UInt8) (p : Int) : Nat × Nat × Nat :=
  if isAt l.length p then (if (gu (l.drop p.toNat)).2.2 = 0 then ((gu (l.drop p.toNat)).1, p.toNat + (gu (l.drop p.toNat)).2.1, 0) else (0, 0, (gu (l.drop p.toNat)).2.2)) else (0, 0, 2)
/-- The four bytes of a word. -/
def byteAt (n i : Nat) : UInt8 := UInt8.ofNat (n / 2 ^ (8 * (3 - i)) % 256)
def wd (n : Nat) : List UInt8 := [byteAt n 0, byteAt n 1, byteAt n 2, byteAt n 3]
/-- The word of the four bytes from a place on, 255 past the end. -/
def oct (l : List UInt8) (k : Nat) : Nat := (l.getD k 255).toNat
def wAt (l : List UInt8) (k : Nat) : Nat := ((oct l k * 256 + oct l (k + 1)) * 256 + oct l (k + 2)) * 256 + oct l (k + 3)
def getW (l : List UInt8) (p : Int) : Nat × Nat × Nat :=
  if isAt l.length p then (if l.length < p.toNat + 4 then (0, 0, 10) else (wAt l p.toNat, p.toNat + 4, 0)) else (0, 0, 2)
def blob (l : List UInt8) : List UInt8 := digs l.length ++ l
def getB (l : List UInt8) (p most : Int) : List UInt8 × Nat × Nat :=
  if (getU l p).2.2 ≠ 0 then ([], 0, (getU l p).2.2)
  else if most < (getU l p).1 then ([], 0, 3)
  else if l.length < (getU l p).2.1 + (getU l p).1 then ([], 0, 10)
  else ((l.drop (getU l p).2.1).take (getU l p).1, (getU l p).2.1 + (getU l p).1, 0)
def words (l : List UInt8) : List UInt32 := (List.range ((l.length + 3) / 4)).map fun i => UInt32.ofNat (wAt l (4 * i))
def bytesOf (l : List UInt32) : List UInt8 := l.flatMap fun x => wd x.toNat
def getBytes (l : List UInt32) (n : Int) : List UInt8 × Nat :=
  if n < 0 then ([], 2) else if 4 * (l.length : Int) < n then ([], 10) else ((bytesOf l).take n.toNat, 0)

theorem ofNat_toNat (n : Nat) (h : n < 256) : (UInt8.ofNat n).toNat = n := by simp [UInt8.toNat_ofNat']; omega
theorem ofNat_toNat32 (n : Nat) (h : n < 4294967296) : (UInt32.ofNat n).toNat = n := by simp [UInt32.toNat_ofNat']; omega

theorem len_digsF : ∀ f n, (digsF f n).length = ndF f n
  | 0, n => rfl
  | f + 1, n => by
    unfold digsF ndF
    by_cases h : n < 128
    · simp [h]
    · simp [h, len_digsF f]
theorem len_digs (n : Nat) : (digs n).length = nd n := len_digsF 9 n
theorem ndF_pos : ∀ f n, 1 ≤ ndF f n
  | 0, _ => Nat.le_refl _
  | f + 1, n => by unfold ndF; split <;> omega
theorem ndF_le : ∀ f n, ndF f n ≤ f + 1
  | 0, _ => Nat.le_refl _
  | f + 1, n => by
    unfold ndF
    have := ndF_le f (n / 128)
    split <;> omega
theorem nd_bd (n : Nat) : 1 ≤ nd n ∧ nd n ≤ 10 := ⟨ndF_pos 9 n, ndF_le 9 n⟩
/-- Where the digits end: with room for f more. -/
theorem ndF_is : ∀ f n k, k ≤ f → n / 128 ^ (k + 1) = 0 → (k = 0 ∨ n / 128 ^ k ≠ 0) → ndF f n = k + 1
  | 0, n, k, hk, _, _ => by obtain rfl : k = 0 := by omega
                            rfl
  | f + 1, n, k, hk, h0, h1 => by
    unfold ndF
    by_cases h : n < 128
    · rcases k with _ | k
      · simp [h]
      · exfalso
        rcases h1 with h1 | h1
        · omega
        · apply h1
          rw [Nat.pow_succ', ← Nat.div_div_eq_div_mul, Nat.div_eq_of_lt h]; simp
    · rcases k with _ | k
      · simp at h0; omega
      · simp only [h, if_false]
        rw [ndF_is f (n / 128) k (by omega) ?_ ?_]
        · rw [Nat.div_div_eq_div_mul, ← Nat.pow_succ']; exact h0
        · rcases k with _ | k
          · exact .inl rfl
          · refine .inr ?_
            rcases h1 with h1 | h1
            · omega
            · rwa [Nat.div_div_eq_div_mul, ← Nat.pow_succ']
theorem nd_is (n k : Nat) (hk : k ≤ 9) (h0 : n / 128 ^ (k + 1) = 0) (h1 : k = 0 ∨ n / 128 ^ k ≠ 0) : nd n = k + 1 := ndF_is 9 n k hk h0 h1
theorem nd_ten (n : Nat) (hn : n < 18446744073709551616) (h1 : n / 128 ^ 9 ≠ 0) : nd n = 10 :=
  nd_is n 9 (Nat.le_refl _) (Nat.div_eq_of_lt (by simp; omega)) (.inr h1)
theorem ndF_last : ∀ f n, n < 128 ^ (f + 1) → n / 128 ^ (ndF f n - 1) < 128
  | 0, n, h => by simpa [ndF] using h
  | f + 1, n, h => by
    unfold ndF
    by_cases hn : n < 128
    · simp [hn]
    · simp only [hn, if_false]
      have h2 := ndF_last f (n / 128) (by rw [Nat.div_lt_iff_lt_mul (by omega), ← Nat.pow_succ]; exact h)
      have hp := ndF_pos f (n / 128)
      rw [Nat.div_div_eq_div_mul, ← Nat.pow_succ'] at h2
      rwa [show ndF f (n / 128) + 1 - 1 = ndF f (n / 128) - 1 + 1 from by omega]
theorem nd_last (n : Nat) (h : n < 18446744073709551616) : n / 128 ^ (nd n - 1) < 128 := ndF_last 9 n (by simp; omega)

theorem digsF_get : ∀ f n i, i < ndF f n → (digsF f n)[i]? = some (if i + 1 < ndF f n then UInt8.ofNat (128 + n / 128 ^ i % 128) else UInt8.ofNat (n / 128 ^ i))
  | 0, n, i, h => by
    simp [ndF] at h
    subst h
    simp [digsF, ndF]
  | f + 1, n, i, h => by
    unfold digsF
    unfold ndF at h ⊢
    by_cases hn : n < 128
    · simp only [hn, if_true] at h ⊢
      obtain rfl : i = 0 := by omega
      simp
    · simp only [hn, if_false] at h ⊢
      have hp := ndF_pos f (n / 128)
      rcases i with _ | i
      · simp; omega
      · have := digsF_get f (n / 128) i (by omega)
        rw [List.getElem?_cons_succ, this, Nat.div_div_eq_div_mul, ← Nat.pow_succ']
        simp
theorem digs_get (n i : Nat) (h : i < nd n) : (digs n)[i]? = some (digAt n i) := digsF_get 9 n i h
theorem digs_eq (n : Nat) : digs n = (List.range (nd n)).map (digAt n) := by
  apply List.ext_getElem?
  intro i
  by_cases h : i < nd n
  · rw [digs_get n i h]; simp [h]
  · rw [List.getElem?_eq_none (by rw [len_digs]; omega), List.getElem?_eq_none (by simp; omega)]

theorem oct_lt (l : List UInt8) (k : Nat) : oct l k < 256 := UInt8.toNat_lt _
theorem wAt_lt (l : List UInt8) (k : Nat) : wAt l k < 4294967296 := by
  have a := oct_lt l k; have b := oct_lt l (k + 1); have c := oct_lt l (k + 2); have d := oct_lt l (k + 3)
  unfold wAt; omega
theorem len_words (l : List UInt8) : (words l).length = (l.length + 3) / 4 := by simp [words]
theorem len_wd (n : Nat) : (wd n).length = 4 := rfl
theorem len_bytesOf : ∀ l : List UInt32, (bytesOf l).length = 4 * l.length
  | [] => rfl
  | x :: l => by
    have := len_bytesOf l
    simp only [bytesOf, List.flatMap_cons, List.length_append, len_wd, List.length_cons] at this ⊢
    omega
theorem bytesOf_get : ∀ (l : List UInt32) (i : Nat) (h : i / 4 < l.length), (bytesOf l)[i]? = some (byteAt l[i / 4].toNat (i % 4))
  | [], i, h => by simp at h
  | x :: l, i, h => by
    simp only [bytesOf, List.flatMap_cons]
    by_cases hi : i < 4
    · rw [List.getElem?_append_left (by rw [len_wd]; exact hi)]
      have e : i / 4 = 0 := by omega
      simp only [e]
      match i, hi with
      | 0, _ => rfl
      | 1, _ => rfl
      | 2, _ => rfl
      | 3, _ => rfl
    · rw [List.getElem?_append_right (by rw [len_wd]; omega), len_wd]
      have h' : (i - 4) / 4 < l.length := by simp at h; omega
      have := bytesOf_get l (i - 4) h'
      rw [bytesOf] at this
      rw [this]
      have e1 : (i - 4) % 4 = i % 4 := by omega
      have e2 : i / 4 = (i - 4) / 4 + 1 := by omega
      simp only [e1, e2, List.getElem_cons_succ]

end Go.Proofs.Ytangblcfdboghaa
