/-
  Bytes that were made words are had back, and words that were made bytes: plain facts on lists.
-/
import Derived.Test.YtangblcfdboghaaPure
namespace Go.Proofs.Ytangblcfdboghaa
set_option linter.unusedVariables false

theorem byteAt_eq (n i : Nat) (hi : i < 4) : (byteAt n i).toNat = n / 2 ^ (8 * (3 - i)) % 256 := by
  unfold byteAt
  rw [ofNat_toNat _ (Nat.mod_lt _ (by omega))]
theorem word_of_oct (x : UInt32) : (((byteAt x.toNat 0).toNat * 256 + (byteAt x.toNat 1).toNat) * 256 + (byteAt x.toNat 2).toNat) * 256 + (byteAt x.toNat 3).toNat = x.toNat := by
  rw [byteAt_eq _ 0 (by omega), byteAt_eq _ 1 (by omega), byteAt_eq _ 2 (by omega), byteAt_eq _ 3 (by omega)]
  have h := UInt32.toNat_lt x
  simp
  omega
theorem oct_get (l : List UInt8) (k : Nat) (c : UInt8) (h : l[k]? = some c) : oct l k = c.toNat := by simp [oct, List.getD, h]
/-- The word of four bytes that were a word's. -/
theorem wAt_bytesOf (l : List UInt32) (i : Nat) (h : i < l.length) : wAt (bytesOf l) (4 * i) = l[i].toNat := by
  have g : ∀ j, j < 4 → oct (bytesOf l) (4 * i + j) = (byteAt l[i].toNat j).toNat := by
    intro j hj
    have h1 : (4 * i + j) / 4 < l.length := by omega
    have := bytesOf_get l (4 * i + j) h1
    have e1 : (4 * i + j) / 4 = i := by omega
    have e2 : (4 * i + j) % 4 = j := by omega
    simp only [e1, e2] at this
    exact oct_get _ _ _ this
  have h0 := g 0 (by omega)
  have h1 := g 1 (by omega)
  have h2 := g 2 (by omega)
  have h3 := g 3 (by omega)
  have := word_of_oct l[i]
  unfold wAt
  rw [Nat.add_zero] at h0
  rw [h0, h1, h2, h3]
  exact this
theorem words_bytesOf (l : List UInt32) : words (bytesOf l) = l := by
  apply List.ext_getElem
  · rw [len_words, len_bytesOf]; omega
  · intro i h1 h2
    simp only [words, List.getElem_map, List.getElem_range]
    rw [wAt_bytesOf l i h2]
    simp
theorem byteAt_wAt (l : List UInt8) (k j : Nat) (hj : j < 4) : (byteAt (wAt l k) j).toNat = oct l (k + j) := by
  have a := oct_lt l k; have b := oct_lt l (k + 1); have c := oct_lt l (k + 2); have d := oct_lt l (k + 3)
  rw [byteAt_eq _ j hj]
  unfold wAt
  match j, hj with
  | 0, _ => simp; omega
  | 1, _ => simp; omega
  | 2, _ => simp; omega
  | 3, _ => simp; omega
theorem bytesOf_words (l : List UInt8) : (bytesOf (words l)).take l.length = l := by
  apply List.ext_getElem?
  intro i
  by_cases hi : i < l.length
  · rw [List.getElem?_take, if_pos hi]
    have h1 : i / 4 < (words l).length := by rw [len_words]; omega
    rw [bytesOf_get _ _ h1, List.getElem?_eq_getElem hi]
    congr 1
    have e : (words l)[i / 4] = UInt32.ofNat (wAt l (4 * (i / 4))) := by simp [words]
    rw [e, ofNat_toNat32 _ (wAt_lt _ _), ← UInt8.toNat_inj, byteAt_wAt _ _ _ (by omega), show 4 * (i / 4) + i % 4 = i from by omega]
    exact oct_get _ _ _ (List.getElem?_eq_getElem hi)
  · rw [List.getElem?_eq_none (by rw [List.length_take]; omega), List.getElem?_eq_none (by omega)]
theorem getBytes_words (l : List UInt8) : getBytes (words l) (l.length : Int) = (l, 0) := by
  unfold getBytes
  rw [if_neg (by omega), if_neg (by rw [len_words]; omega), Int.toNat_natCast, bytesOf_words]
theorem getBytes_all (l : List UInt32) (n : Int) (h : n = 4 * (l.length : Int)) : getBytes l n = (bytesOf l, 0) := by
  subst h
  unfold getBytes
  rw [if_neg (by omega), if_neg (by omega), List.take_of_length_le (by rw [len_bytesOf]; omega)]
theorem getBytes_some (l : List UInt32) (k : Nat) (h : k ≤ 4 * l.length) : getBytes l (k : Int) = ((bytesOf l).take k, 0) := by
  unfold getBytes
  rw [if_neg (by omega), if_neg (by omega), Int.toNat_natCast]
theorem getBytes_past (l : List UInt32) (n : Int) (h : 4 * (l.length : Int) < n) : getBytes l n = ([], 10) := by
  unfold getBytes
  rw [if_neg (by omega), if_pos h]
end Go.Proofs.Ytangblcfdboghaa
