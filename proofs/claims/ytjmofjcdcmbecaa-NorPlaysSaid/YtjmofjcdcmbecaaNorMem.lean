/-
  A flash in memory: its object, and its words; what writing there does to it; and calls that write nothing else.
-/
import Derived.Test.YtjmofjcdcmbecaaArr
import Derived.Test.YtjmofjcdcmbecaaPut
import Derived.LaidEqlPtr
namespace Go.Proofs.Ytjmofjcdcmbecaa
open Go.RowKit
set_option linter.unusedVariables false

/-- A flash: how many sectors, all words, how many are protected, and how its power stands. -/
structure Fl where
  n : Nat
  ws : List UInt32
  guard : Int
  armed : Bool
  left : Nat
  down : Bool
  half : Int
def Fl.obj (S : Fl) (p b : Nat) : List Value :=
  [.pointer (some ⟨p, 0, none⟩), .slice (some ⟨b, 0, none⟩) S.n S.n, .int .i64 S.guard, .bool S.armed, .int .i64 (S.left : Int), .bool S.down, .int .i64 S.half]

/-- Writes nothing that was there but these two blocks. -/
structure But (p b : Nat) (w w' : World) : Prop where
  os : w'.os = w.os
  tape : w'.tape = w.tape
  output : w'.output = w.output
  size : w.heap.size ≤ w'.heap.size
  keep : ∀ k, k < w.heap.size → k ≠ p → k ≠ b → w'.heap[k]? = w.heap[k]?

structure NorAt (base : Nat) (w : World) (p b : Nat) (S : Fl) : Prop where
  obj : Fresh base 156 w (some ⟨p, 0, none⟩) 7 7 (S.obj p b)
  row : Fresh base 157 w (some ⟨b, 0, none⟩) (64 * S.n) (64 * S.n) (cw S.ws)
  ne : p ≠ b
  n_le : S.n ≤ 1024
  left_le : S.left < 9223372036854775808

section
variable {w w' w'' : World} {base p b g n : Nat} {S : Fl} {e : TypeId} {xs : List Value}
theorem Fresh.cell (h : Fresh base e w (some ⟨g, 0, none⟩) n n xs) {j : Nat} {u : Value} (hu : xs[j]? = some u) : w.cell? ⟨g, j, none⟩ = some u := by
  have hj : j < xs.length := (List.getElem?_eq_some_iff.1 hu).1
  rw [World.ownsRow.cellAt h j (by have := h.len; omega), hu]
theorem Fresh.kept (h : Fresh base e w (some ⟨g, 0, none⟩) n n xs) (k : w'.heap[g]? = w.heap[g]?) : Fresh base e w' (some ⟨g, 0, none⟩) n n xs :=
  Fresh.of_block (by rw [k]; exact h.block.1) h.block.2 h.len h.cap.2
theorem But.refl (p b : Nat) (w : World) : But p b w w := ⟨rfl, rfl, rfl, Nat.le_refl _, fun _ _ _ _ => rfl⟩
theorem But.then_ (x : But p b w w') (y : But p b w' w'') : But p b w w'' :=
  ⟨y.os.trans x.os, y.tape.trans x.tape, y.output.trans x.output, Nat.le_trans x.size y.size, fun k h1 h2 h3 => (y.keep k (Nat.lt_of_lt_of_le h1 x.size) h2 h3).trans (x.keep k h1 h2 h3)⟩
theorem But.of_below (x : Below w.heap.size w w') : But p b w w' := ⟨x.os, x.tape, x.output, x.size, fun k h _ _ => x.block k h⟩
theorem But.below {B : Nat} (x : But p b w w') (hp : B ≤ p) (hb : B ≤ b) (hB : B ≤ w.heap.size) : Below B w w' := ⟨x.os, x.tape, x.output, x.size, fun k h => x.keep k (by omega) (by omega) (by omega)⟩
theorem But.set (p b g j : Nat) (u : Value) (hg : g = p ∨ g = b) : But p b w (w.setCell ⟨g, j, none⟩ u) :=
  ⟨rfl, rfl, rfl, by simp [World.setCell], fun k _ h2 h3 => by
    simp only [World.setCell, Array.getElem?_modify]
    rw [if_neg (by omega)]⟩
theorem Fresh.but {q d : Nat} (h : Fresh base e w (some ⟨g, 0, none⟩) n n xs) (x : But q d w w') (h1 : g ≠ q) (h2 : g ≠ d) : Fresh base e w' (some ⟨g, 0, none⟩) n n xs :=
  h.kept (x.keep g (Array.getElem?_eq_some_iff.1 h.block.1).1 h1 h2)
theorem NorAt.but {q d : Nat} (h : NorAt base w p b S) (x : But q d w w') (h1 : p ≠ q) (h2 : p ≠ d) (h3 : b ≠ q) (h4 : b ≠ d) : NorAt base w' p b S :=
  ⟨h.obj.but x h1 h2, h.row.but x h3 h4, h.ne, h.n_le, h.left_le⟩
theorem NorAt.below (h : NorAt base w p b S) (x : Below w.heap.size w w') : NorAt base w' p b S := ⟨h.obj.below x, h.row.below x, h.ne, h.n_le, h.left_le⟩
theorem NorAt.lower {base' : Nat} (h : NorAt base w p b S) (x : base' ≤ base) : NorAt base' w p b S := ⟨h.obj.lower x, h.row.lower x, h.ne, h.n_le, h.left_le⟩
theorem NorAt.lt (h : NorAt base w p b S) : p < w.heap.size ∧ b < w.heap.size ∧ base ≤ p ∧ base ≤ b := by
  have h1 := h.obj.block
  have h2 := h.row.block
  exact ⟨(Array.getElem?_eq_some_iff.1 h1.1).1, (Array.getElem?_eq_some_iff.1 h2.1).1, h1.2, h2.2⟩
theorem NorAt.len (h : NorAt base w p b S) : S.ws.length = 64 * S.n := by simpa using h.row.len
theorem NorAt.c (h : NorAt base w p b S) : w.cell? ⟨p, 0, none⟩ = some (.pointer (some ⟨p, 0, none⟩)) ∧ w.cell? ⟨p, 1, none⟩ = some (.slice (some ⟨b, 0, none⟩) S.n S.n) ∧ w.cell? ⟨p, 2, none⟩ = some (.int .i64 S.guard) ∧
    w.cell? ⟨p, 3, none⟩ = some (.bool S.armed) ∧ w.cell? ⟨p, 4, none⟩ = some (.int .i64 (S.left : Int)) ∧ w.cell? ⟨p, 5, none⟩ = some (.bool S.down) ∧ w.cell? ⟨p, 6, none⟩ = some (.int .i64 S.half) :=
  ⟨h.obj.cell rfl, h.obj.cell rfl, h.obj.cell rfl, h.obj.cell rfl, h.obj.cell rfl, h.obj.cell rfl, h.obj.cell rfl⟩
theorem NorAt.z (h : NorAt base w p b S) (j : Nat) : w.frozen? ⟨p, j, none⟩ = false := h.obj.frozenAt
theorem NorAt.zr (h : NorAt base w p b S) (j : Nat) : w.frozen? ⟨b, j, none⟩ = false := h.row.frozenAt
/-- A field is written. -/
theorem NorAt.field (h : NorAt base w p b S) (j : Nat) (u : Value) (S' : Fl) (e1 : S'.n = S.n) (e2 : S'.ws = S.ws) (e3 : (S.obj p b).set j u = S'.obj p b) (hl : S'.left < 9223372036854775808) : NorAt base (w.setCell ⟨p, j, none⟩ u) p b S' := by
  have hr : (w.setCell ⟨p, j, none⟩ u).heap[b]? = w.heap[b]? := by
    simp only [World.setCell, Array.getElem?_modify]
    rw [if_neg h.ne]
  refine ⟨?_, ?_, h.ne, by rw [e1]; exact h.n_le, hl⟩
  · have := h.obj.store j u
    rwa [e3] at this
  · rw [e1, e2]
    exact h.row.kept hr
/-- A word is written. -/
theorem NorAt.word (h : NorAt base w p b S) (j : Nat) (c : UInt32) : NorAt base (w.setCell ⟨b, j, none⟩ (.int .u32 (c.toNat : Int))) p b { S with ws := S.ws.set j c } := by
  have hr : (w.setCell ⟨b, j, none⟩ (.int .u32 (c.toNat : Int))).heap[p]? = w.heap[p]? := by
    simp only [World.setCell, Array.getElem?_modify]
    rw [if_neg (Ne.symm h.ne)]
  refine ⟨h.obj.kept hr, ?_, h.ne, h.n_le, h.left_le⟩
  have := h.row.store j (.int .u32 (c.toNat : Int))
  rwa [show (cw S.ws).set j (.int .u32 (c.toNat : Int)) = cw (S.ws.set j c) from by simp [cw, List.map_set]] at this
theorem NorAt.word_at (h : NorAt base w p b S) {j : Nat} (hj : j < 64 * S.n) : ∃ c : UInt32, S.ws[j]? = some c ∧ w.cell? ⟨b, j, none⟩ = some (.int .u32 (c.toNat : Int)) := by
  have hl := h.len
  have e : S.ws[j]? = some (S.ws[j]'(by omega)) := List.getElem?_eq_getElem (by omega)
  exact ⟨_, e, h.row.cell (by rw [List.getElem?_map, e]; rfl)⟩
/-- A list that a flash's own writes leave as it is. -/
def Off (p b : Nat) (w : World) (A : Option Addr) (xs : List Value) : Prop := ∀ w', But p b w w' → Sees w' w'.heap.size A xs
theorem Off.of (h : NorAt base w p b S) {A : Option Addr} (hB : base ≤ w.heap.size) (hs : Sees w base A xs) : Off p b w A xs := fun w' x => by
  obtain ⟨-, -, h1, h2⟩ := h.lt
  exact (hs.below (x.below h1 h2 hB)).more (Nat.le_trans hB x.size)
theorem Off.step {A : Option Addr} (h : Off p b w A xs) (x : But p b w w') : Off p b w' A xs := fun w'' y => h w'' (x.then_ y)
theorem Off.sees {A : Option Addr} (h : Off p b w A xs) : Sees w w.heap.size A xs := h w (But.refl _ _ _)
theorem Off.fresh {p b : Nat} (h : Fresh base e w (some ⟨g, 0, none⟩) n n xs) (h1 : g ≠ p) (h2 : g ≠ b) : Off p b w (some ⟨g, 0, none⟩) xs := fun w' x => (h.but x h1 h2).sees
/-- The flash is itself. -/
theorem run_itself (p : Nat) (w : World) : (binOp .eql 59 (.pointer (some ⟨p, 0, none⟩)) (.pointer (some ⟨p, 0, none⟩))).run Try.prog w = .ok (.bool true) w := by
  obtain ⟨j, hj⟩ : ∃ j, Try.prog.info? 156 = some j := Option.isSome_iff_exists.1 (by kernel_rfl)
  exact run_eql_ptr_same w (te := 156) ⟨p, 0, none⟩ (by kernel_rfl) hj

theorem isFlash_any (h : NorAt base w p b S) : Calls Try.prog 108 #[.pointer (some ⟨p, 0, none⟩)] w fun e w' => e = .returned (.bool true) ∧ w' = w := by
  obtain ⟨c0, -⟩ := h.c
  have hq := run_itself p w
  go_enter Try.func108, Try.ntmps108
  go_wp2_with fail
  go_ret
  exact ⟨rfl, rfl⟩
end
end Go.Proofs.Ytjmofjcdcmbecaa
