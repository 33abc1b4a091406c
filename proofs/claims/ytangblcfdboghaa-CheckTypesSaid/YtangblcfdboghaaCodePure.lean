/-
  Programs of the scan machine as plain data: what is right, and their bytes, as chapter 13 of the document defines them. No program is named here.
-/
import Derived.Test.YtangblcfdboghaaPure
namespace Go.Proofs.Ytangblcfdboghaa
set_option linter.unusedVariables false

/-- A variable: its name, class, type, first value. -/
structure Vr where
  name : List UInt8
  cls : Nat
  typ : Nat
  first : Int
deriving DecidableEq
instance : Inhabited Vr := ⟨⟨[], 0, 0, 0⟩⟩
/-- An instruction. -/
structure Jn where
  op : Nat
  t : Nat
  a : Int
  n : Int
deriving DecidableEq
instance : Inhabited Jn := ⟨⟨0, 0, 0, 0⟩⟩
/-- A program. -/
structure Pg where
  name : List UInt8
  vars : List Vr
  blocks : List UInt8
  ins : List Jn
deriving DecidableEq

def rng (t : Nat) : Int × Int :=
  if t = 1 then (0, 1) else if t = 2 then (-128, 127) else if t = 3 then (-32768, 32767) else if t = 4 then (-2147483648, 2147483647) else if t = 5 then (0, 4294967295) else (0, 0)
/-- The number in the range that differs by a multiple of how many there are. -/
def into (lo many n : Int) : Int := (n - lo) % many + lo
def wrapF (t : Nat) (n : Int) : Int :=
  if t = 1 then (if n = 0 then 0 else 1) else if t = 2 then into (-128) 256 n else if t = 3 then into (-32768) 65536 n else if t = 4 then into (-2147483648) 4294967296 n else if t = 5 then into 0 4294967296 n else 0
/-- The types of a block's inputs, of its outputs. -/
def pinsF (k : Nat) : List UInt8 × List UInt8 :=
  if k = 1 ∨ k = 2 ∨ k = 3 then ([1, 5], [1, 5])
  else if k = 4 ∨ k = 5 then ([1, 1, 4], [1, 4])
  else if k = 6 then ([1, 1, 1, 1, 4], [1, 1, 4])
  else if k = 7 ∨ k = 8 then ([1], [1])
  else if k = 9 ∨ k = 10 then ([1, 1], [1])
  else if k = 11 then ([1, 1, 1], [4, 1])
  else ([], [])
def nameOk (s : List UInt8) : Bool := decide (1 ≤ s.length) && decide (s.length ≤ 40)
def isTy (n : Int) : Bool := decide (1 ≤ n) && decide (n ≤ 5)
def isWh (n : Int) : Bool := isTy n && !decide (n = 1)
def inR (t : Nat) (n : Int) : Bool := decide ((rng t).1 ≤ n) && decide (n ≤ (rng t).2)
def isPl (n many : Int) : Bool := decide (0 ≤ n) && decide (n < many)
def Vr.right (v : Vr) : Bool := nameOk v.name && decide (1 ≤ v.cls) && decide (v.cls ≤ 4) && isTy v.typ && inR v.typ v.first
def Vr.names (l : List Vr) : List (List UInt8) := l.map (·.name)
def varsOk (l : List Vr) : Bool := decide (l.length ≤ 200) && (l.all Vr.right && decide (Vr.names l).Nodup)
def blockOk (k : UInt8) : Bool := decide (1 ≤ k.toNat) && decide (k.toNat ≤ 11)
def blocksOk (l : List UInt8) : Bool := decide (l.length ≤ 100) && l.all blockOk
/-- What stands for the fields of an Op. -/
def letF (o : Nat) : Option (Nat × Nat × Nat) :=
  if o = 1 then some (116, 48, 114)
  else if o = 2 then some (48, 118, 48)
  else if o = 3 then some (48, 115, 48)
  else if o = 4 ∨ o = 5 ∨ o = 6 ∨ o = 7 ∨ o = 8 ∨ o = 14 then some (119, 48, 48)
  else if o = 9 ∨ o = 10 ∨ o = 11 ∨ o = 12 ∨ o = 13 then some (116, 48, 48)
  else if o = 15 then some (116, 116, 48)
  else if o = 16 ∨ o = 17 ∨ o = 22 then some (48, 48, 48)
  else if o = 18 ∨ o = 19 then some (48, 106, 48)
  else if o = 20 then some (48, 98, 48)
  else if o = 21 then some (48, 98, 111)
  else none
def mayF (p : Pg) (j : Jn) (c : Nat) (n : Int) : Bool :=
  if c = 48 then decide (n = 0)
  else if c = 116 then isTy n
  else if c = 119 then isWh n
  else if c = 114 then inR j.t n
  else if c = 118 then isPl n p.vars.length
  else if c = 115 then isPl n p.vars.length && !decide ((p.vars.getD n.toNat default).cls = 1)
  else if c = 106 then isPl n (p.ins.length + 1)
  else if c = 98 then isPl n p.blocks.length
  else if c = 111 then isPl n ((pinsF (p.blocks.getD j.a.toNat 0).toNat).2.length)
  else false
def jnOk (p : Pg) (j : Jn) : Bool :=
  match letF j.op with
  | some (a, b, c) => mayF p j a j.t && (mayF p j b j.a && mayF p j c j.n)
  | none => false
def insOk (p : Pg) : Bool := decide (1 ≤ p.ins.length) && decide (p.ins.length ≤ 2000) && p.ins.all (jnOk p)
def Pg.right (p : Pg) : Bool := nameOk p.name && (varsOk p.vars && (blocksOk p.blocks && insOk p))

/-- A number of both signs as one of none, and back. -/
def foldF (n : Int) : Nat := if n < 0 then (2 * -n - 1).toNat else (2 * n).toNat
def unfF (n : Nat) : Int := if n % 2 = 1 then -((n / 2 : Nat) : Int) - 1 else ((n / 2 : Nat) : Int)
def Vr.nums (v : Vr) : List Nat := [v.cls, v.typ, (v.first - (rng v.typ).1).toNat]
def Jn.nums (j : Jn) : List Nat := [j.op, j.t, j.a.toNat, foldF j.n]
/-- Numbers written down, one behind the other. -/
def digl (l : List Nat) : List UInt8 := l.flatMap digs
def Vr.bytes (v : Vr) : List UInt8 := blob v.name ++ digl v.nums
def Jn.bytes (j : Jn) : List UInt8 := digl j.nums
def blB (l : List UInt8) : List UInt8 := l.flatMap fun k => digs k.toNat
def Pg.bytes (p : Pg) : List UInt8 :=
  blob p.name ++ (digs p.vars.length ++ (p.vars.flatMap Vr.bytes ++ (digs p.blocks.length ++ (blB p.blocks ++ (digs p.ins.length ++ p.ins.flatMap Jn.bytes)))))
end Go.Proofs.Ytangblcfdboghaa
