/-
  What sha.Block answers: the state by a block, for every table, state and block.
-/
import Derived.Test.YtangblcfdboghaaShaWord
import Derived.Test.YtangblcfdboghaaQTail
import Derived.Test.YtangblcfdboghaaPut
import Derived.Test.YtangblcfdboghaaRegion
namespace Go.Proofs.Ytangblcfdboghaa
open Go.RowKit
set_option linter.unusedVariables false
theorem Fresh.byte {base : Nat} {e : TypeId} {w : World} {g n k : Nat} {l : List UInt8} (h : Fresh base e w (some ⟨g, 0, none⟩) n n (cb l)) (hk : k < n) :
    ∃ c : UInt8, Hid (l[k]? = some c) ∧ c.toNat < 256 ∧ w.cell? ⟨g, k, none⟩ = some (.int .u8 (c.toNat : Int)) := by
  have hl : l.length = n := by simpa using h.len
  obtain ⟨b, o, e, hb, c, h1, h2, h3⟩ := h.sees.byte hl hk
  obtain ⟨rfl, rfl⟩ : g = b ∧ 0 = o := by simpa using e
  exact ⟨c, h1, h2, by simpa using h3⟩
theorem Fresh.word {base : Nat} {e : TypeId} {w : World} {g n k : Nat} {l : List UInt32} (h : Fresh base e w (some ⟨g, 0, none⟩) n n (cw l)) (hk : k < n) :
    ∃ c : UInt32, Hid (l[k]? = some c) ∧ c.toNat < 4294967296 ∧ w.cell? ⟨g, k, none⟩ = some (.int .u32 (c.toNat : Int)) := by
  have hl : l.length = n := by simpa using h.len
  obtain ⟨b, o, e, hb, c, h1, h2, h3⟩ := h.sees.word hl hk
  obtain ⟨rfl, rfl⟩ : g = b ∧ 0 = o := by simpa using e
  exact ⟨c, h1, h2, by simpa using h3⟩
def pad64 (l : List UInt32) : List UInt32 := l ++ List.replicate (64 - l.length) 0
theorem pad64_set (l : List UInt32) (x : UInt32) (h : l.length < 64) : (pad64 l).set l.length x = pad64 (l ++ [x]) := by
  unfold pad64
  rw [List.set_append_right _ _ (Nat.le_refl _), Nat.sub_self, show 64 - l.length = (64 - (l ++ [x]).length) + 1 from by simp; omega, List.replicate_succ]
  simp
theorem or_sum (a b i x : Nat) (hx : x = 2 ^ i * a) (hb : b < 2 ^ i) : x ||| b = x + b := by
  subst hx
  exact (Nat.two_pow_add_eq_or_of_lt hb a).symm
theorem or4 (c0 c1 c2 c3 : UInt8) : bits BinOp.or IntKind.u32 (bits BinOp.or IntKind.u32 (bits BinOp.or IntKind.u32 ((c0.toNat : Int) * 16777216) ((c1.toNat : Int) * 65536)) ((c2.toNat : Int) * 256)) (c3.toNat : Int) = (((((c0.toNat * 256 + c1.toNat) * 256 + c2.toNat) * 256 + c3.toNat : Nat)) : Int) := by
  have h0 := c0.toNat_lt
  have h1 := c1.toNat_lt
  have h2 := c2.toNat_lt
  have h3 := c3.toNat_lt
  generalize c0.toNat = a at *
  generalize c1.toNat = b at *
  generalize c2.toNat = c at *
  generalize c3.toNat = d at *
  rw [show (a : Int) * 16777216 = ((a * 16777216 : Nat) : Int) from by omega, show (b : Int) * 65536 = ((b * 65536 : Nat) : Int) from by omega, show (c : Int) * 256 = ((c * 256 : Nat) : Int) from by omega,
    u32_or_nat _ _ (by omega) (by omega), or_sum a _ 24 _ (by omega) (by omega), u32_or_nat _ _ (by omega) (by omega), or_sum (a * 256 + b) _ 16 _ (by omega) (by omega), u32_or_nat _ _ (by omega) (by omega), or_sum ((a * 256 + b) * 256 + c) _ 8 _ (by omega) (by omega)]
  omega
theorem be_nat (b : List UInt8) (j : Nat) (c0 c1 c2 c3 : UInt8) (h0 : b[j]? = some c0) (h1 : b[j + 1]? = some c1) (h2 : b[j + 2]? = some c2) (h3 : b[j + 3]? = some c3) :
    bits BinOp.or IntKind.u32 (bits BinOp.or IntKind.u32 (bits BinOp.or IntKind.u32 ((c0.toNat : Int) * 16777216) ((c1.toNat : Int) * 65536)) ((c2.toNat : Int) * 256)) (c3.toNat : Int) = ((be b j).toNat : Int) := by
  rw [or4]
  have l0 := c0.toNat_lt
  have l1 := c1.toNat_lt
  have l2 := c2.toNat_lt
  have l3 := c3.toNat_lt
  unfold be
  rw [List.getD_eq_getElem?_getD, List.getD_eq_getElem?_getD, List.getD_eq_getElem?_getD, List.getD_eq_getElem?_getD, h0, h1, h2, h3]
  simp only [Option.getD_some]
  rw [ofNat_toNat32]
  omega
theorem sch16_get (b : List UInt8) (k : Nat) (h : k < 16) : (sch16 b)[k]? = some (be b (4 * k)) := by simp [sch16, h]
theorem take_pad_set (l : List UInt32) (k : Nat) (x : UInt32) (hl : k < 64) (hk : k ≤ l.length) (h : l[k]? = some x) : (pad64 (l.take k)).set k x = pad64 (l.take (k + 1)) := by
  have e : (l.take k).length = k := by simp; omega
  have := pad64_set (l.take k) x (by omega)
  rw [e] at this
  rw [this, List.take_add_one, h]
  rfl
theorem pad_get (l : List UInt32) (j : Nat) (x : UInt32) (hj : j < l.length) (h : (pad64 l)[j]? = some x) : l.getD j 0 = x := by
  unfold pad64 at h
  rw [List.getElem?_append_left hj] at h
  rw [List.getD_eq_getElem?_getD, h]
  rfl
theorem u32_sum4 (a b c d : UInt32) : ((a.toNat : Int) + b.toNat + c.toNat + d.toNat) % 4294967296 = ((a + b + c + d).toNat : Int) := by
  rw [UInt32.toNat_add, UInt32.toNat_add, UInt32.toNat_add]
  omega
theorem next_nat (l : List UInt32) (m : Nat) (x14 x9 x1 x0 : UInt32) (hl : l.length = 16 + m) (h14 : (pad64 l)[m + 14]? = some x14) (h9 : (pad64 l)[m + 9]? = some x9) (h1 : (pad64 l)[m + 1]? = some x1) (h0 : (pad64 l)[m]? = some x0) :
    (bits BinOp.xor IntKind.u32 (bits BinOp.xor IntKind.u32 ((rr x14 17).toNat : Int) ((rr x14 19).toNat : Int)) ((x14.toNat : Int) / 1024) + (x9.toNat : Int) + bits BinOp.xor IntKind.u32 (bits BinOp.xor IntKind.u32 ((rr x1 7).toNat : Int) ((rr x1 18).toNat : Int)) ((x1.toNat : Int) / 8) + (x0.toNat : Int)) % 4294967296 = ((nextW l m).toNat : Int) := by
  unfold nextW
  rw [pad_get l _ _ (by omega) h14, pad_get l _ _ (by omega) h9, pad_get l _ _ (by omega) h1, pad_get l _ _ (by omega) h0]
  have e1 : (x14.toNat : Int) / 1024 = ((sh x14 10).toNat : Int) := u32_sh x14 10
  have e2 : (x1.toNat : Int) / 8 = ((sh x1 3).toNat : Int) := u32_sh x1 3
  rw [e1, e2, u32_xor, u32_xor, u32_xor, u32_xor, u32_sum4]
  rfl
end Go.Proofs.Ytangblcfdboghaa

namespace Go.Proofs.Ytangblcfdboghaa
open Go.RowKit
set_option linter.unusedVariables false
theorem Fresh.cell32 {base : Nat} {e : TypeId} {w : World} {g n k : Nat} {l : List UInt32} (h : Fresh base e w (some ⟨g, 0, none⟩) n n (cw l)) {c : UInt32} (hk : l[k]? = some c) : w.cell? ⟨g, k, none⟩ = some (.int .u32 (c.toNat : Int)) := by
  have hl : l.length = n := by simpa using h.len
  obtain ⟨hlt, _⟩ := List.getElem?_eq_some_iff.1 hk
  obtain ⟨d, h1, _, h3⟩ := h.word (k := k) (by omega)
  have h1' := h1.out
  rw [hk] at h1'
  injection h1' with h1'
  rw [h1']
  exact h3
theorem u32_flip (x : UInt32) : bits BinOp.xor IntKind.u32 (if IntKind.u32.signed = true then -1 else IntKind.u32.max) (x.toNat : Int) = ((~~~x).toNat : Int) := by
  have e : (if IntKind.u32.signed = true then (-1 : Int) else IntKind.u32.max) = (((4294967295 : UInt32)).toNat : Int) := by decide
  rw [e, u32_xor]
  have : (4294967295 : UInt32) ^^^ x = ~~~x := UInt32.neg_one_xor
  rw [this]
theorem u32_sum5 (a b c d e : UInt32) : ((a.toNat : Int) + b.toNat + c.toNat + d.toNat + e.toNat) % 4294967296 = ((a + b + c + d + e).toNat : Int) := by
  rw [UInt32.toNat_add, UInt32.toNat_add, UInt32.toNat_add, UInt32.toNat_add]
  omega
theorem t_nat (e f g h k w : UInt32) : ((h.toNat : Int) + bits BinOp.xor IntKind.u32 (bits BinOp.xor IntKind.u32 ((rr e 6).toNat : Int) ((rr e 11).toNat : Int)) ((rr e 25).toNat : Int) +
    bits BinOp.xor IntKind.u32 (bits BinOp.and IntKind.u32 (e.toNat : Int) (f.toNat : Int)) (bits BinOp.and IntKind.u32 (bits BinOp.xor IntKind.u32 (if IntKind.u32.signed = true then -1 else IntKind.u32.max) (e.toNat : Int)) (g.toNat : Int)) +
    (k.toNat : Int) + (w.toNat : Int)) % 4294967296 = ((tOf e f g h k w).toNat : Int) := by
  rw [u32_flip, u32_xor, u32_xor, u32_and, u32_and, u32_xor, u32_sum5]
  rfl
theorem u_nat (a b c : UInt32) : (bits BinOp.xor IntKind.u32 (bits BinOp.xor IntKind.u32 ((rr a 2).toNat : Int) ((rr a 13).toNat : Int)) ((rr a 22).toNat : Int) +
    bits BinOp.xor IntKind.u32 (bits BinOp.xor IntKind.u32 (bits BinOp.and IntKind.u32 (a.toNat : Int) (b.toNat : Int)) (bits BinOp.and IntKind.u32 (a.toNat : Int) (c.toNat : Int))) (bits BinOp.and IntKind.u32 (b.toNat : Int) (c.toNat : Int))) % 4294967296 = ((uOf a b c).toNat : Int) := by
  rw [u32_and, u32_and, u32_and, u32_xor, u32_xor, u32_xor, u32_xor, u32_add]
  rfl
theorem zip_get (keys ws : List UInt32) (k : Nat) (x y : UInt32) (hx : keys[k]? = some x) (hy : ws[k]? = some y) : (keys.zip ws)[k]? = some (x, y) := by
  rw [List.getElem?_zip_eq_some]
  exact ⟨hx, hy⟩
end Go.Proofs.Ytangblcfdboghaa

namespace Go.Proofs.Ytangblcfdboghaa
open Go.RowKit
set_option linter.unusedVariables false
/-- A table lies there. -/
structure Tab (w : World) (tb to : Nat) (first keys : List UInt32) : Prop where
  l1 : first.length = 8
  l2 : keys.length = 64
  sees : Sees w w.heap.size (some ⟨tb, to, none⟩) (cw (first ++ keys))
theorem Tab.step {w w' : World} {tb to : Nat} {first keys : List UInt32} (h : Tab w tb to first keys) (hb : Below w.heap.size w w') : Tab w' tb to first keys := ⟨h.l1, h.l2, h.sees.step hb⟩
theorem Tab.keysAt {w : World} {tb to : Nat} {first keys : List UInt32} (h : Tab w tb to first keys) : Sees w w.heap.size (some ⟨tb, to + 8, none⟩) (cw keys) := by
  have := h.sees.drop_ 8
  rwa [show (cw (first ++ keys)).drop 8 = cw keys from by simp [cw, h.l1]] at this
theorem Tab.firstAt {w : World} {tb to : Nat} {first keys : List UInt32} (h : Tab w tb to first keys) : Sees w w.heap.size (some ⟨tb, to, none⟩) (cw first) := by
  have := h.sees.take_ 8
  rwa [show (cw (first ++ keys)).take 8 = cw first from by simp [cw, h.l1]] at this
theorem eight (s : List UInt32) (h : s.length = 8) : ∃ a b c d e f g i, s = [a, b, c, d, e, f, g, i] := by
  match s, h with
  | [a, b, c, d, e, f, g, i], _ => exact ⟨a, b, c, d, e, f, g, i, rfl⟩
/-- Of the first k words the sums, of the others what they were. -/
def partSum (t s : List UInt32) (k : Nat) : List UInt32 := (sums t s).take k ++ t.drop k
theorem partSum_get (t s : List UInt32) (k : Nat) (ht : t.length = 8) (hs : s.length = 8) (hk : k < 8) : (partSum t s k)[k]? = t[k]? := by
  unfold partSum
  have hl := len_sums t s ht hs
  rw [List.getElem?_append_right (by simp [hl]; omega), List.getElem?_drop]
  congr 1
  simp [hl]
  omega
theorem partSum_set (t s : List UInt32) (k : Nat) (x y : UInt32) (ht : t.length = 8) (hs : s.length = 8) (hk : k < 8) (hx : t[k]? = some x) (hy : s[k]? = some y) : (partSum t s k).set k (x + y) = partSum t s (k + 1) := by
  unfold partSum
  have hl := len_sums t s ht hs
  have hlt : ((sums t s).take k).length = k := by simp [hl]; omega
  have hz : (sums t s)[k]? = some (x + y) := by
    unfold sums
    rw [List.getElem?_zipWith, hx, hy]
  rw [List.set_append_right _ _ (by omega), hlt, Nat.sub_self, List.drop_eq_getElem_cons (by omega), List.set_cons_zero, List.take_add_one, hz, List.append_assoc]
  rfl
end Go.Proofs.Ytangblcfdboghaa
