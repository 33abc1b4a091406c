/-
  A state by a block, reckoned in natural numbers: for digests of constants.
-/
import Derived.Test.YtpdfalgjmeagjaaShaPure
import Derived.KernelRfl
namespace Go.Proofs.Ytpdfalgjmeagjaa
/-- The same reckoned in natural numbers, each word made a numeral before it goes on. -/
@[reducible] def pin {α : Type} (n : Nat) (f : Nat → α) : α := match n with
  | 0 => f 0
  | n + 1 => f (n + 1)
theorem pin_eq {α : Type} (n : Nat) (f : Nat → α) : pin n f = f n := by cases n <;> rfl
def rrN (x n : Nat) : Nat := x * 2 ^ (32 - n) % 4294967296 ||| x / 2 ^ n
def tN (e f g h k w : Nat) : Nat := (h + ((rrN e 6 ^^^ rrN e 11) ^^^ rrN e 25) + ((e &&& f) ^^^ ((4294967295 - e) &&& g)) + k + w) % 4294967296
def uN (a b c : Nat) : Nat := (((rrN a 2 ^^^ rrN a 13) ^^^ rrN a 22) + (((a &&& b) ^^^ (a &&& c)) ^^^ (b &&& c))) % 4294967296
def goN : List Nat → List Nat → Nat → Nat → Nat → Nat → Nat → Nat → Nat → Nat → List Nat
  | k :: ks, x :: xs, a, b, c, d, e, f, g, h => pin (tN e f g h k x) fun t => pin ((t + uN a b c) % 4294967296) fun a' => pin ((d + t) % 4294967296) fun e' => goN ks xs a' a b c e' e f g
  | _, _, a, b, c, d, e, f, g, h => [a, b, c, d, e, f, g, h]
theorem len8 (a b c d e f g h : UInt32) : [a, b, c, d, e, f, g, h].map UInt32.toNat = [a.toNat, b.toNat, c.toNat, d.toNat, e.toNat, f.toNat, g.toNat, h.toNat] := rfl
theorem rr_toNat (x : UInt32) (n : Nat) : (rr x n).toNat = rrN x.toNat n := by
  unfold rr rrN
  rw [ofNat_toNat32]
  exact Nat.or_lt_two_pow (n := 32) (Nat.mod_lt _ (by decide)) (Nat.lt_of_le_of_lt (Nat.div_le_self _ _) x.toNat_lt)
theorem tN_eq (e f g h k w : UInt32) : (tOf e f g h k w).toNat = tN e.toNat f.toNat g.toNat h.toNat k.toNat w.toNat := by
  unfold tOf tN
  have hn : (~~~e).toNat = 4294967295 - e.toNat := by
    rw [UInt32.toNat_not]
    simp [UInt32.size]
  simp only [UInt32.toNat_add, UInt32.toNat_xor, UInt32.toNat_and, rr_toNat, hn]
  omega
theorem uN_eq (a b c : UInt32) : (uOf a b c).toNat = uN a.toNat b.toNat c.toNat := by
  unfold uOf uN
  simp only [UInt32.toNat_add, UInt32.toNat_xor, UInt32.toNat_and, rr_toNat]
theorem goN_eq : ∀ (ks xs : List UInt32) (a b c d e f g h : UInt32), ((ks.zip xs).foldl rnd [a, b, c, d, e, f, g, h]).map UInt32.toNat = goN (ks.map UInt32.toNat) (xs.map UInt32.toNat) a.toNat b.toNat c.toNat d.toNat e.toNat f.toNat g.toNat h.toNat
  | [], xs, a, b, c, d, e, f, g, h => by simp [goN]
  | k :: ks, [], a, b, c, d, e, f, g, h => by simp [goN]
  | k :: ks, x :: xs, a, b, c, d, e, f, g, h => by
    rw [List.zip_cons_cons, List.foldl_cons]
    show ((ks.zip xs).foldl rnd [tOf e f g h k x + uOf a b c, a, b, c, d + tOf e f g h k x, e, f, g]).map UInt32.toNat = _
    rw [goN_eq ks xs, List.map_cons, List.map_cons]
    simp only [goN, pin_eq]
    rw [UInt32.toNat_add, UInt32.toNat_add, tN_eq, uN_eq]
/-- The words behind the first sixteen: the list turned about, so that the last one stands first. -/
def sg0N (x : Nat) : Nat := (rrN x 7 ^^^ rrN x 18) ^^^ (x / 8)
def sg1N (x : Nat) : Nat := (rrN x 17 ^^^ rrN x 19) ^^^ (x / 1024)
def nextN (l : List Nat) (i : Nat) : Nat := (sg1N (l.getD (i + 14) 0) + l.getD (i + 9) 0 + sg0N (l.getD (i + 1) 0) + l.getD i 0) % 4294967296
def schNat : Nat → Nat → List Nat → List Nat
  | 0, _, l => l
  | n + 1, i, l => pin (nextN l i) fun x => schNat n (i + 1) (l ++ [x])
theorem getD_map (l : List UInt32) (i : Nat) : (l.map UInt32.toNat).getD i 0 = (l.getD i 0).toNat := by
  rw [List.getD_eq_getElem?_getD, List.getD_eq_getElem?_getD, List.getElem?_map]
  cases l[i]? <;> rfl
theorem nextN_eq (l : List UInt32) (i : Nat) : (nextW l i).toNat = nextN (l.map UInt32.toNat) i := by
  unfold nextW nextN sg0 sg1 sg0N sg1N
  rw [getD_map, getD_map, getD_map, getD_map]
  have hs : ∀ (x : UInt32) (n : Nat), (sh x n).toNat = x.toNat / 2 ^ n := fun x n => by
    unfold sh
    rw [ofNat_toNat32]
    exact Nat.lt_of_le_of_lt (Nat.div_le_self _ _) x.toNat_lt
  simp only [UInt32.toNat_add, UInt32.toNat_xor, rr_toNat, hs, Nat.reducePow]
  omega
theorem schNat_eq : ∀ (n i : Nat) (l : List UInt32), ((List.range' i n).foldl ext l).map UInt32.toNat = schNat n i (l.map UInt32.toNat)
  | 0, i, l => rfl
  | n + 1, i, l => by
    rw [List.range'_succ, List.foldl_cons, schNat_eq n (i + 1)]
    simp only [schNat, pin_eq]
    congr 1
    unfold ext
    rw [List.map_append, ← nextN_eq]
    rfl
def keysN (keys : List UInt32) (b : List UInt8) (s : List UInt32) : List Nat :=
  match s.map UInt32.toNat with
  | [a, b1, c, d, e, f, g, h] => goN (keys.map UInt32.toNat) (schNat 48 0 ((sch16 b).map UInt32.toNat)) a b1 c d e f g h
  | _ => []
def blockN (keys : List UInt32) (s : List UInt32) (b : List UInt8) : List Nat := List.zipWith (fun x y => (x + y) % 4294967296) (keysN keys b s) (s.map UInt32.toNat)
theorem blockN_eq (keys s : List UInt32) (b : List UInt8) (hs : s.length = 8) : (blockF keys s b).map UInt32.toNat = blockN keys s b := by
  match s, hs with
  | [a, b1, c, d, e, f, g, h], _ =>
    unfold blockF sums blockN keysN turn
    have e1 : (sched b).map UInt32.toNat = schNat 48 0 ((sch16 b).map UInt32.toNat) := by
      rw [← schNat_eq]
      unfold sched schN
      rw [List.range_eq_range']
    have e2 := goN_eq keys (sched b) a b1 c d e f g h
    rw [e1] at e2
    show _ = List.zipWith _ (goN _ _ _ _ _ _ _ _ _ _) _
    rw [← e2, List.map_zipWith, List.zipWith_map]
    congr 1
/-- What a state's words tell, a byte at a time, out of natural numbers. -/
def digN (l : List Nat) : List Nat := l.flatMap fun n => [n / 16777216 % 256, n / 65536 % 256, n / 256 % 256, n % 256]
theorem digN_eq (s : List UInt32) : (digF s).map UInt8.toNat = digN (s.map UInt32.toNat) := by
  unfold digF digN
  rw [List.map_flatMap, List.flatMap_map]
  congr 1
  funext x
  have hb : ∀ i, (byteAt x.toNat i).toNat = x.toNat / 2 ^ (8 * (3 - i)) % 256 := fun i => by
    unfold byteAt
    exact ofNat_toNat _ (Nat.mod_lt _ (by decide))
  simp [wd, hb]
end Go.Proofs.Ytpdfalgjmeagjaa
