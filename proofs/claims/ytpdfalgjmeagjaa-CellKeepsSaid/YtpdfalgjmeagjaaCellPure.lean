/-
  What a cell does to the words of its two sectors: over a flash as plain data.
-/
import Derived.Test.YtpdfalgjmeagjaaTallyStep
import Derived.Test.YtpdfalgjmeagjaaFlashPure
namespace Go.Proofs.Ytpdfalgjmeagjaa
open Go.RowKit
set_option linter.unusedVariables false

/-- What is there: of which sector, its turn, its bytes. -/
structure Co where
  s : Int
  t : Nat
  b : List UInt8
/-- What a sector of these words has, if it is whole. -/
def secC : List UInt32 → Option (Nat × List UInt8)
  | t :: n :: r => if r[61]? = some 0 ∧ t.toNat ≤ 2147483648 ∧ n.toNat ≤ 244 then some (t.toNat, (bytesOf (r.take 61)).take n.toNat) else none
  | _ => none
def coOf (i : Nat) : Option (Nat × List UInt8) → Co
  | some x => ⟨(i : Int), x.1, x.2⟩
  | none => ⟨-1, 0, []⟩
def newC (x y : Co) : Co := if x.s = -1 ∨ (¬ y.s = -1 ∧ y.t = x.t + 1) then y else x
def lookC (a b : List UInt32) : Co := newC (coOf 0 (secC a)) (coOf 1 (secC b))
def Fl.clook (S : Fl) (f : Nat) : Co := lookC (S.sec f 0) (S.sec f 1)
def Co.other (x : Co) : Nat := if x.s = -1 then 0 else (1 - x.s).toNat
def headC (t n : Nat) : List UInt32 := [UInt32.ofNat t, UInt32.ofNat n]
def wordsC (t : Nat) (b : List UInt8) : List UInt32 := headC t b.length ++ words b
/-- The sector σ gets a turn and bytes, and is whole. -/
def Fl.cwrite (S : Fl) (f σ t : Nat) (b : List UInt8) : Fl × Nat := match S.derase f 2 (σ : Int) with
  | (T, e + 1) => (T, e + 1)
  | (T, 0) => match T.dwrite f 2 (64 * (σ : Int)) (wordsC t b) with
    | (U, e + 1) => (U, e + 1)
    | (U, 0) => U.dwrite f 2 (64 * (σ : Int) + 63) [0]
def Fl.cput (S : Fl) (f : Nat) (k : Co) (over : Bool) (b : List UInt8) : Fl × Nat × Co × Bool := match over with
  | true => (S, 60, k, true)
  | false => if 244 < b.length then (S, 3, k, false) else match S.down with
    | true => if 2147483648 ≤ k.t then (S, 5, k, false) else (S, 40, k, true)
    | false => if 2147483648 ≤ (S.clook f).t then (S, 5, S.clook f, false) else match S.cwrite f (S.clook f).other ((S.clook f).t + 1) b with
      | (T, 0) => (T, 0, ⟨((S.clook f).other : Int), (S.clook f).t + 1, b⟩, false)
      | (T, e + 1) => (T, e + 1, S.clook f, true)

/-- What is known of what is there. -/
structure Co.Ok (x : Co) : Prop where
  s : x.s = -1 ∨ x.s = 0 ∨ x.s = 1
  t : x.t ≤ 2147483648
  b : x.b.length ≤ 244
  no : x.s = -1 → x.t = 0 ∧ x.b = []
theorem secC_ok {l : List UInt32} {x : Nat × List UInt8} (h : secC l = some x) : x.1 ≤ 2147483648 ∧ x.2.length ≤ 244 := by
  match l with
  | [] => cases h
  | [_] => cases h
  | t :: n :: r =>
    simp only [secC] at h
    split at h
    · rename_i hc
      simp only [Option.some.injEq] at h
      subst h
      exact ⟨hc.2.1, Nat.le_trans (by rw [List.length_take]; exact Nat.min_le_left _ _) hc.2.2⟩
    · cases h
theorem coOf_ok (i : Nat) (hi : i < 2) (l : List UInt32) : (coOf i (secC l)).Ok := by
  cases h : secC l with
  | none => exact ⟨.inl rfl, Nat.zero_le _, Nat.zero_le _, fun _ => ⟨rfl, rfl⟩⟩
  | some x =>
    have := secC_ok h
    exact ⟨.inr (show ((i : Int) = 0 ∨ (i : Int) = 1) by omega), this.1, this.2, fun e => by exfalso; have : (i : Int) = -1 := e; omega⟩
theorem newC_ok {x y : Co} (hx : x.Ok) (hy : y.Ok) : (newC x y).Ok := by
  unfold newC
  split
  · exact hy
  · exact hx
theorem clook_ok (S : Fl) (f : Nat) : (S.clook f).Ok := newC_ok (coOf_ok 0 (by omega) _) (coOf_ok 1 (by omega) _)
theorem Co.other_lt {x : Co} (h : x.Ok) : x.other < 2 := by
  unfold Co.other
  rcases h.s with e | e | e <;> rw [e] <;> decide
theorem Co.other_of {x : Co} (h : x.Ok) (hs : ¬ x.s = -1) : ((x.other : Nat) : Int) = 1 - x.s ∧ ((1 - x.other : Nat) : Int) = x.s := by
  unfold Co.other
  rcases h.s with e | e | e
  · exact absurd e hs
  · rw [e]; decide
  · rw [e]; decide
theorem wordsC_len {t : Nat} {b : List UInt8} (h : b.length ≤ 244) : (wordsC t b).length = 2 + (b.length + 3) / 4 ∧ 2 + (b.length + 3) / 4 ≤ 63 := by
  unfold wordsC
  rw [List.length_append, len_words]
  exact ⟨rfl, by omega⟩
/-- A sector that was written so is whole, with that turn and these bytes. -/
theorem secC_words {t : Nat} {b : List UInt8} (ht : t ≤ 2147483648) (hb : b.length ≤ 244) (r : List UInt32) (hr : r.length + (b.length + 3) / 4 = 62) (h0 : (words b ++ r)[61]? = some 0) : secC (wordsC t b ++ r) = some (t, b) := by
  have e1 : (UInt32.ofNat t).toNat = t := ofNat_toNat32 _ (by omega)
  have e2 : (UInt32.ofNat b.length).toNat = b.length := ofNat_toNat32 _ (by omega)
  have hw := len_words b
  have e3 : ((words b ++ r).take 61) = words b ++ r.take (61 - (b.length + 3) / 4) := by
    rw [List.take_append, hw, List.take_of_length_le (by rw [hw]; omega)]
  have e4 : (bytesOf (words b ++ r.take (61 - (b.length + 3) / 4))).take b.length = b := by
    unfold bytesOf
    rw [List.flatMap_append, List.take_append_of_le_length]
    · exact bytesOf_words b
    · have := len_bytesOf (words b)
      unfold bytesOf at this
      rw [this, hw]
      omega
  unfold wordsC headC
  simp only [List.cons_append, List.nil_append, secC]
  rw [e1, e2, e3, e4, if_pos ⟨h0, ht, hb⟩]
end Go.Proofs.Ytpdfalgjmeagjaa
