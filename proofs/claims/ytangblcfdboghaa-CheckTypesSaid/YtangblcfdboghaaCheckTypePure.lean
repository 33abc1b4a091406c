/-
  What CheckTypes wants, over plain data: each sign, each of its types, by reckoning.
-/
import Derived.Test.YtangblcfdboghaaCheckPure
import Derived.KernelRfl
namespace Go.Proofs.Ytangblcfdboghaa
set_option linter.unusedVariables false

def tyJ (o x y z : Nat) : List Jn := [⟨1, x, 0, 0⟩, ⟨1, y, 0, 0⟩, ⟨o, z, 0, 0⟩, ⟨17, 0, 0, 0⟩, ⟨22, 0, 0, 0⟩]
def tyC (x y z : Nat) : List Jn := [⟨1, x, 0, 0⟩, ⟨1, y, 0, 0⟩, ⟨15, z, (x : Int), 0⟩, ⟨13, x, 0, 0⟩, ⟨17, 0, 0, 0⟩, ⟨22, 0, 0, 0⟩]
def tyP (js : List Jn) : Pg := ⟨[112], [], [], js⟩
def opsL : List UInt8 := [4, 5, 6, 7, 8, 9, 10, 11, 13, 14, 15]
def five : List Nat := [1, 2, 3, 4, 5]
set_option maxRecDepth 100000 in
theorem ty_whole : ([4, 5, 6, 7, 8, 14].all fun o => five.all fun x => five.all fun y => five.all fun z => if z = 1 then checkF (tyP (tyJ o x y z)) 9 == 130 else (checkF (tyP (tyJ o x y z)) 9 == 0) == (x == z && y == z)) = true := by kernel_rfl
set_option maxRecDepth 100000 in
theorem ty_any : ([9, 10, 11, 13].all fun o => five.all fun x => five.all fun y => five.all fun z => (checkF (tyP (tyJ o x y z)) 9 == 0) == (x == z && y == z)) = true := by kernel_rfl
set_option maxRecDepth 100000 in
theorem ty_conv : (five.all fun x => five.all fun y => five.all fun z => (checkF (tyP (tyC x y z)) 9 == 0) == (y == x && z == x)) = true := by kernel_rfl
theorem five_mem {x : Nat} (h : 1 ≤ x ∧ x ≤ 5) : x ∈ five := by
  simp [five]
  omega
end Go.Proofs.Ytangblcfdboghaa
