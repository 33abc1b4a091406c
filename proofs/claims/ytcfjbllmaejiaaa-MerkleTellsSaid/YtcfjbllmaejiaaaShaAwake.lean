/-
  The chapter's examples hold: law02's awake answers true.
-/
import Derived.Test.YtcfjbllmaejiaaaShaDig
namespace Go.Proofs.Ytcfjbllmaejiaaa
open Go.RowKit
set_option linter.unusedVariables false
theorem hex_none : hexL (ofF firstL keysL []) = [101, 51, 98, 48, 99, 52, 52, 50, 57, 56, 102, 99, 49, 99, 49, 52, 57, 97, 102, 98, 102, 52, 99, 56, 57, 57, 54, 102, 98, 57, 50, 52, 50, 55, 97, 101, 52, 49, 101, 52, 54, 52, 57, 98, 57, 51, 52, 99, 97, 52, 57, 53, 57, 57, 49, 98, 55, 56, 53, 50, 98, 56, 53, 53] := by rw [of_none]; kernel_rfl
theorem hex_abc : hexL (ofF firstL keysL [97, 98, 99]) = [98, 97, 55, 56, 49, 54, 98, 102, 56, 102, 48, 49, 99, 102, 101, 97, 52, 49, 52, 49, 52, 48, 100, 101, 53, 100, 97, 101, 50, 50, 50, 51, 98, 48, 48, 51, 54, 49, 97, 51, 57, 54, 49, 55, 55, 97, 57, 99, 98, 52, 49, 48, 102, 102, 54, 49, 102, 50, 48, 48, 49, 53, 97, 100] := by rw [of_abc]; kernel_rfl
theorem Pad_made (K : Int) (n m : Nat) (l : List UInt8) (w : World) (hK : K = (n : Int)) (hn : n ≤ 9223372036854775807) (hm : 9 + noughts n = m) (hl : padL n = l) : Calls Try.prog 151 #[.int .i64 K] w (Made8 w m l) := by
  subst hK hm hl
  exact Pad_any n _ w hn rfl
theorem sees_blk (w : World) (e : TypeId) (fr : Nat × Nat) (l : List UInt8) : Sees (w.alloc (.cells (cb l).toArray e fr)) (w.alloc (.cells (cb l).toArray e fr)).heap.size (some ⟨w.heap.size, 0, none⟩) (cb l) := fun _ => by
  refine ⟨w.heap.size, 0, rfl, by show w.heap.size < (w.heap.push _).size; simp, fun j u hu => ?_⟩
  rw [Nat.zero_add, cell_of_row _ w.heap.size j _ e fr (heap_alloc_new _ _)]
  simpa using hu
theorem tabL (w : World) (g n : Nat) (base : Nat) (T : TypeId) (h : Fresh base T w (some ⟨g, 0, none⟩) n n (cw (firstL ++ keysL))) : Tab w g 0 firstL keysL := ⟨rfl, rfl, h.sees⟩
end Go.Proofs.Ytcfjbllmaejiaaa
