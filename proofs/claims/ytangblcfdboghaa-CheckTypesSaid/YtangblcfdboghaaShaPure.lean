/-
  Digests by a table: words that turn, the words of a block, a state by a block, states behind many blocks, the padding: plain functions on lists, as chapter 2 of the document defines them. No program is named here.
-/
import Derived.Test.YtangblcfdboghaaPure
namespace Go.Proofs.Ytangblcfdboghaa
set_option linter.unusedVariables false

/-- A word turned right. -/
def rr (x : UInt32) (n : Nat) : UInt32 := UInt32.ofNat (x.toNat * 2 ^ (32 - n) % 4294967296 ||| x.toNat / 2 ^ n)
/-- .. pushed right. -/
def sh (x : UInt32) (n : Nat) : UInt32 := UInt32.ofNat (x.toNat / 2 ^ n)
def sg0 (x : UInt32) : UInt32 := (rr x 7 ^^^ rr x 18) ^^^ sh x 3
def sg1 (x : UInt32) : UInt32 := (rr x 17 ^^^ rr x 19) ^^^ sh x 10
def tOf (e f g h k w : UInt32) : UInt32 := h + ((rr e 6 ^^^ rr e 11) ^^^ rr e 25) + ((e &&& f) ^^^ (~~~e &&& g)) + k + w
def uOf (a b c : UInt32) : UInt32 := ((rr a 2 ^^^ rr a 13) ^^^ rr a 22) + (((a &&& b) ^^^ (a &&& c)) ^^^ (b &&& c))
/-- One round. -/
def rnd (s : List UInt32) (kw : UInt32 × UInt32) : List UInt32 :=
  match s with
  | [a, b, c, d, e, f, g, h] => [tOf e f g h kw.1 kw.2 + uOf a b c, a, b, c, d + tOf e f g h kw.1 kw.2, e, f, g]
  | _ => s
def turn (keys ws s : List UInt32) : List UInt32 := (keys.zip ws).foldl rnd s
/-- The word of four bytes. -/
def be (b : List UInt8) (j : Nat) : UInt32 := UInt32.ofNat ((((b.getD j 0).toNat * 256 + (b.getD (j + 1) 0).toNat) * 256 + (b.getD (j + 2) 0).toNat) * 256 + (b.getD (j + 3) 0).toNat)
def sch16 (b : List UInt8) : List UInt32 := (List.range 16).map fun i => be b (4 * i)
def nextW (w : List UInt32) (i : Nat) : UInt32 := sg1 (w.getD (i + 14) 0) + w.getD (i + 9) 0 + sg0 (w.getD (i + 1) 0) + w.getD i 0
def ext (w : List UInt32) (i : Nat) : List UInt32 := w ++ [nextW w i]
def schN (b : List UInt8) (n : Nat) : List UInt32 := (List.range n).foldl ext (sch16 b)
def sched (b : List UInt8) : List UInt32 := schN b 48
def sums (l s : List UInt32) : List UInt32 := List.zipWith (· + ·) l s
/-- A state by a block. -/
def blockF (keys s : List UInt32) (b : List UInt8) : List UInt32 := sums (turn keys (sched b) s) s
/-- The state behind n blocks. -/
def stN (keys s : List UInt32) (all : List UInt8) : Nat → List UInt32
  | 0 => s
  | n + 1 => blockF keys (stN keys s all n) ((all.drop (64 * n)).take 64)
/-- What is left behind all whole blocks. -/
def left (all : List UInt8) : List UInt8 := all.drop (64 * (all.length / 64))
def stAll (keys s : List UInt32) (all : List UInt8) : List UInt32 := stN keys s all (all.length / 64)
/-- Eight bytes of a number, the highest first. -/
def be8 (n : Nat) : List UInt8 := (List.range 8).map fun i => UInt8.ofNat (n / 2 ^ (8 * (7 - i)) % 256)
def noughts (n : Nat) : Nat := (128 - (n % 64 + 9)) % 64
def padL (n : Nat) : List UInt8 := 128 :: (List.replicate (noughts n) 0 ++ be8 (8 * n))
/-- The bytes of words. -/
def digF (s : List UInt32) : List UInt8 := s.flatMap fun x => wd x.toNat
/-- The digest of a state and what is left, of n bytes in all. -/
def sumF (keys s : List UInt32) (rest : List UInt8) (n : Nat) : List UInt8 := digF (stAll keys s (rest ++ padL n))
def ofF (first keys : List UInt32) (b : List UInt8) : List UInt8 := sumF keys (stAll keys first b) (left b) b.length

theorem len_rnd (s : List UInt32) (kw : UInt32 × UInt32) (h : s.length = 8) : (rnd s kw).length = 8 := by
  match s, h with
  | [a, b, c, d, e, f, g, i], _ => rfl
theorem len_foldl_rnd : ∀ (l : List (UInt32 × UInt32)) (s : List UInt32), s.length = 8 → (l.foldl rnd s).length = 8
  | [], s, h => h
  | x :: l, s, h => len_foldl_rnd l _ (len_rnd s x h)
theorem len_turn (keys ws s : List UInt32) (h : s.length = 8) : (turn keys ws s).length = 8 := len_foldl_rnd _ _ h
theorem len_sums (l s : List UInt32) (h : l.length = 8) (h' : s.length = 8) : (sums l s).length = 8 := by simp [sums, h, h']
theorem len_blockF (keys s : List UInt32) (b : List UInt8) (h : s.length = 8) : (blockF keys s b).length = 8 := len_sums _ _ (len_turn _ _ _ h) h
theorem len_stN (keys s : List UInt32) (all : List UInt8) (h : s.length = 8) : ∀ n, (stN keys s all n).length = 8
  | 0 => h
  | n + 1 => len_blockF _ _ _ (len_stN keys s all h n)
theorem len_sch16 (b : List UInt8) : (sch16 b).length = 16 := by simp [sch16]
theorem schN_succ (b : List UInt8) (n : Nat) : schN b (n + 1) = schN b n ++ [nextW (schN b n) n] := by
  unfold schN
  rw [List.range_succ, List.foldl_append]
  rfl
theorem len_schN (b : List UInt8) : ∀ n, (schN b n).length = 16 + n
  | 0 => by simp [schN, len_sch16]
  | n + 1 => by rw [schN_succ, List.length_append, len_schN b n]; rfl
theorem len_sched (b : List UInt8) : (sched b).length = 64 := len_schN b 48
theorem foldl_take_succ (l : List (UInt32 × UInt32)) (s : List UInt32) (k : Nat) (x : UInt32 × UInt32) (h : l[k]? = some x) : (l.take (k + 1)).foldl rnd s = rnd ((l.take k).foldl rnd s) x := by
  rw [List.take_add_one, h, List.foldl_append]
  rfl
theorem len_left (all : List UInt8) : (left all).length = all.length % 64 := by
  unfold left
  rw [List.length_drop]
  omega
theorem len_be8 (n : Nat) : (be8 n).length = 8 := by simp [be8]
theorem len_padL (n : Nat) : (padL n).length = 9 + noughts n := by simp [padL, len_be8]; omega
theorem pad_whole (n : Nat) : (n % 64 + (padL n).length) % 64 = 0 := by
  rw [len_padL]
  unfold noughts
  omega
theorem len_digF : ∀ s : List UInt32, (digF s).length = 4 * s.length
  | [] => rfl
  | x :: s => by
    have h := len_digF s
    unfold digF at *
    rw [List.flatMap_cons, List.length_append, h]
    simp [wd]
    omega
/-- What is put behind a list changes none of its blocks. -/
theorem stN_append (keys s : List UInt32) (a b : List UInt8) : ∀ n, 64 * n ≤ a.length → stN keys s (a ++ b) n = stN keys s a n
  | 0, _ => rfl
  | n + 1, h => by
    show blockF _ _ _ = blockF _ _ _
    rw [stN_append keys s a b n (by omega), List.drop_append_of_le_length (by omega), List.take_append_of_le_length (by rw [List.length_drop]; omega)]
/-- States go block by block. -/
theorem stN_more (keys s : List UInt32) (all : List UInt8) (m : Nat) : ∀ n, stN keys (stN keys s all m) (all.drop (64 * m)) n = stN keys s all (m + n)
  | 0 => rfl
  | n + 1 => by
    show blockF _ _ _ = blockF _ _ _
    rw [stN_more keys s all m n, List.drop_drop, ← Nat.mul_add]
    rfl
theorem left_append (a b : List UInt8) : left (left a ++ b) = left (a ++ b) := by
  unfold left
  rw [← List.drop_append_of_le_length (by omega), List.drop_drop]
  congr 1
  rw [List.length_drop, List.length_append]
  omega
theorem stAll_append (keys s : List UInt32) (a b : List UInt8) : stAll keys (stAll keys s a) (left a ++ b) = stAll keys s (a ++ b) := by
  unfold stAll left
  rw [← List.drop_append_of_le_length (by omega), ← stN_append keys s a b (a.length / 64) (by omega), stN_more]
  congr 1
  rw [List.length_drop, List.length_append]
  omega
/-- By pieces or at once: the same digest. -/
theorem sumF_append (keys first : List UInt32) (a : List UInt8) : sumF keys (stAll keys first a) (left a) a.length = digF (stAll keys first (a ++ padL a.length)) := by
  unfold sumF
  rw [stAll_append]
end Go.Proofs.Ytangblcfdboghaa
