/-
  Bytes in new memory are seen.
-/
import Derived.Test.YtangblcfdboghaaLow
namespace Go.Proofs.Ytangblcfdboghaa
open Go.RowKit
set_option linter.unusedVariables false

theorem sees_lit (w : World) (e : TypeId) (m : Nat × Nat) (l : List UInt8) : Sees (w.alloc (.cells (cb l).toArray e m)) (w.alloc (.cells (cb l).toArray e m)).heap.size (some ⟨w.heap.size, 0, none⟩) (cb l) := fun _ =>
  ⟨w.heap.size, 0, rfl, by simp, fun j u hu => by rw [Nat.zero_add, World.cell?_alloc_mark]; simpa using hu⟩
theorem splice_tail (l X : List UInt8) (m : Nat) (h : X.length = m) : splice (l ++ List.replicate m 0) l.length X = l ++ X := by
  subst h
  simp [splice]
end Go.Proofs.Ytangblcfdboghaa
