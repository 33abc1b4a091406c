/-
  Arrays and structs by value as laws of the walk: laid in new memory, made of noughts, read whole, written whole, handed back; and a region that draws its order over calls that make memory. No function of the program is named here.
-/
import Derived.Test.YtangblcfdboghaaMem
import Derived.Laws.Rows
import Derived.Laws.CopyRow
import Derived.OwnWalk
import Derived.StillTailTactics
namespace Go.Proofs.Ytangblcfdboghaa
open Go.RowKit
set_option linter.unusedVariables false

section
variable {P : Program} {w : World} {ops : Array Oper} {rest : List Oper} {o : Oper} {a : Act} {Q : Exit → Act → World → Prop}

theorem Fresh.lt_size {base : Nat} {e : TypeId} {g n : Nat} {xs : List Value} (h : Fresh base e w (some ⟨g, 0, none⟩) n n xs) : g < w.heap.size := (Array.getElem?_eq_some_iff.1 h.block.1).1
theorem Fresh.new (w : World) (T : TypeId) (xs : List Value) (n : Nat) (hl : xs.length = n) (hm : n ≤ 1099511627776) : Fresh w.heap.size T (w.alloc (.cells xs.toArray T (0, 0))) (some ⟨w.heap.size, 0, none⟩) n n xs :=
  Fresh.of_block (heap_alloc_new _ _) (Nat.le_refl _) hl (by unfold maxLen; omega)
theorem below_alloc (w : World) (o : Obj) : Below w.heap.size w (w.alloc o) := (Below.refl _ _).alloc (Nat.le_refl _) o

/-- A value of many cells is laid in a new block. -/
theorem wpList_box (hg : o.guard = none) (x : Operand) (T : TypeId) (hop : o.op = .box T x) (xs : List Value) (hx : a.eval x = .agg xs.toArray) (n : Nat) (hn : xs.length = n) (hm : n ≤ 1099511627776)
    (hK : ∀ g w', w.heap.size ≤ g → Fresh w.heap.size T w' (some ⟨g, 0, none⟩) n n xs → Below w.heap.size w w' → wpList P ops Q rest (a.put o.dst (.pointer (some ⟨g, 0, none⟩))) w') : wpList P ops Q (o :: rest) a w := by
  refine wpList_plain hg fun K hK' => ?_
  have hrun : (execOp a.eval o).run P w = .ok (.value (.pointer (some ⟨w.heap.size, 0, none⟩))) (w.alloc (.cells xs.toArray T (0, 0))) := by
    simp only [execOp, hop, hx]
    rfl
  unfold Oper.wp
  rw [hrun]
  exact hK' _ _ (hK _ _ (Nat.le_refl _) (Fresh.new w T xs n hn hm) (below_alloc _ _))

/-- A new variable of many cells, each nought. -/
theorem run_alloc_zero (T : TypeId) (xs : List Value) (hz : ((P.info? T).map (·.zero)) = some (some (.agg xs.toArray))) : (Instr.alloc T true (.tuple #[])).run P w = .ok (.pointer (some ⟨w.heap.size, 0, none⟩)) (w.alloc (.cells xs.toArray T (0, 0))) := by
  obtain ⟨i, hi, h1⟩ := Option.map_eq_some_iff.1 hz
  simp [Instr.alloc, zeroValue, typeInfo, hi, h1, newVar, newRow, Value.cells]
theorem wpList_alloc (hg : o.guard = none) (T : TypeId) (hop : o.op = .alloc T) (xs : List Value) (hz : ((P.info? T).map (·.zero)) = some (some (.agg xs.toArray))) (n : Nat) (hn : xs.length = n) (hm : n ≤ 1099511627776)
    (hK : ∀ g w', w.heap.size ≤ g → Fresh w.heap.size T w' (some ⟨g, 0, none⟩) n n xs → Below w.heap.size w w' → wpList P ops Q rest (a.put o.dst (.pointer (some ⟨g, 0, none⟩))) w') : wpList P ops Q (o :: rest) a w := by
  refine wpList_plain hg fun K hK' => ?_
  have hrun : (execOp a.eval o).run P w = .ok (.value (.pointer (some ⟨w.heap.size, 0, none⟩))) (w.alloc (.cells xs.toArray T (0, 0))) := by
    simp only [execOp, hop]
    rw [Sem.run_bind, run_alloc_zero T xs hz]
    rfl
  unfold Oper.wp
  rw [hrun]
  exact hK' _ _ (hK _ _ (Nat.le_refl _) (Fresh.new w T xs n hn hm) (below_alloc _ _))

/-- The type is an array or a struct, of so many cells. -/
def aggB (P : Program) (T : TypeId) (n : Nat) : Bool :=
  (match P.underlying T with | some (.struct _) | some (.array _ _) => true | _ => false) && ((P.info? T).map (·.size) == some n)
theorem run_loadVar_sees {B b off : Nat} (T : TypeId) (xs : List Value) (hT : aggB P T xs.length = true) (hs : Sees w B (some ⟨b, off, none⟩) xs) : (loadVar T ⟨b, off, none⟩).run P w = .ok (.agg xs.toArray) w := by
  unfold aggB at hT
  simp only [Bool.and_eq_true, beq_iff_eq] at hT
  obtain ⟨i, hi, hsz⟩ := Option.map_eq_some_iff.1 hT.2
  have hl : (loadCells ⟨b, off, none⟩ xs.length).run P w = .ok xs.toArray w := run_loadCells_list (P := P) w ⟨b, off, none⟩ xs (fun j v hv => by
    obtain ⟨b', o', he, _, hc⟩ := hs (by have := (List.getElem?_eq_some_iff.1 hv).1; omega)
    obtain ⟨rfl, rfl⟩ : b = b' ∧ off = o' := by simpa using he
    rw [Addr.add_lit]
    exact hc j v hv)
  have hagg : (isAgg T).run P w = .ok true w := by
    unfold isAgg
    rw [Sem.run_bind]
    cases hu : P.underlying T with
    | none => simp [hu] at hT
    | some d =>
      rw [run_underlying hu w]
      have := hT.1
      rw [hu] at this
      cases d <;> simp_all
  simp [loadVar, Sem.run_bind, hagg, sizeOf, typeInfo, hi, hsz, hl]
/-- A variable of many cells is read whole. -/
theorem run_load_agg {B b off : Nat} (x : Operand) (T : TypeId) (hop : o.op = .load T x) (hx : a.eval x = .pointer (some ⟨b, off, none⟩)) (xs : List Value) (n : Nat) (hn : xs.length = n) (hT : aggB P T n = true) (hs : Sees w B (some ⟨b, off, none⟩) xs) :
    (execOp a.eval o).run P w = .ok (.value (.agg xs.toArray)) w := by
  subst hn
  unfold execOp
  simp only [hop, hx, Instr.loadAt, Instr.sureAddr, Sem.run_bind, Sem.run_pure, Result.andThen_ok, run_loadVar_sees T xs hT hs]
theorem wpList_load (hg : o.guard = none) (x : Operand) (T : TypeId) (hop : o.op = .load T x) (b off B : Nat) (hx : a.eval x = .pointer (some ⟨b, off, none⟩)) (xs : List Value) (n : Nat) (hn : xs.length = n) (hT : aggB P T n = true) (hs : Sees w B (some ⟨b, off, none⟩) xs)
    (hK : wpList P ops Q rest (a.put o.dst (.agg xs.toArray)) w) : wpList P ops Q (o :: rest) a w := by
  refine wpList_plain hg fun K hK' => ?_
  unfold Oper.wp
  rw [run_load_agg x T hop hx xs n hn hT hs]
  exact hK' _ _ hK

/-- The same where the operation is guarded, and wanted. -/
theorem wpList_load_g (x : Operand) (T : TypeId) (hop : o.op = .load T x) (b off B : Nat) (hx : a.eval x = .pointer (some ⟨b, off, none⟩)) (xs : List Value) (n : Nat) (hn : xs.length = n) (hT : aggB P T n = true) (hs : Sees w B (some ⟨b, off, none⟩) xs)
    (hw : Region.wanted o (yielded ops a.tmps) = true) (hK : wpList P ops Q rest (a.put o.dst (.agg xs.toArray)) w) : wpList P ops Q (o :: rest) a w := by
  refine wpList_step fun K hK' => ?_
  rw [if_pos hw]
  unfold Oper.wp
  rw [run_load_agg x T hop hx xs n hn hT hs]
  exact hK' _ _ hK

/-- A part of a block of this call's own is written whole. -/
theorem run_store_agg {g off base : Nat} {t : TypeId} {n : Nat} {cur : List Value} (x v : Operand) (T : TypeId) (hop : o.op = .store T x v) (hx : a.eval x = .pointer (some ⟨g, off, none⟩)) (ys : List Value) (hv : a.eval v = .agg ys.toArray)
    (hT : (P.info? T).map (·.size) = some ys.length) (hF : Fresh base t w (some ⟨g, 0, none⟩) n n cur) (hfit : off + ys.length ≤ n) (h1 : ∀ u ∈ ys, u.oneCell' = true) :
    (execOp a.eval o).run P w = .ok .skip (w.setRow g (splice cur off ys).toArray) := by
  obtain ⟨i, hi, hsz⟩ := Option.map_eq_some_iff.1 hT
  have hst := run_storeCells_at (P := P) g off t ys 0 cur.toArray w hF.block.1 (by have := hF.len; simp; omega) h1
  have e : (cur.toArray.toList.take (off + 0) ++ ys ++ cur.toArray.toList.drop (off + 0 + ys.length)).toArray = (splice cur off ys).toArray := by simp [splice]
  rw [e] at hst
  unfold execOp
  simp only [hop, hx, hv, Instr.storeAt, Instr.sureAddr, Sem.run_bind, Sem.run_pure, Result.andThen_ok, storeVar, sizeOf, typeInfo]
  simp [hsz, Value.cells, hst, hi]
theorem Fresh.setRow {g base : Nat} {t : TypeId} {n : Nat} {cur ys : List Value} (hF : Fresh base t w (some ⟨g, 0, none⟩) n n cur) (hl : ys.length = n) : Fresh base t (w.setRow g ys.toArray) (some ⟨g, 0, none⟩) n n ys :=
  Fresh.of_block (setRow_heap w g _ _ t _ hF.block.1) hF.block.2 hl hF.cap.2
theorem Below.setRow' {B g : Nat} {w0 : World} (h : Below B w0 w) (hB : B ≤ g) (cs : Array Value) : Below B w0 (w.setRow g cs) :=
  ⟨h.os, h.tape, h.output, by simpa using h.size, fun k hk => (setRow_other w g k cs (by omega)).trans (h.block k hk)⟩
theorem wpList_store (hg : o.guard = none) (hd : o.dst = none) (x v : Operand) (T : TypeId) (hop : o.op = .store T x v) (g off base : Nat) (t : TypeId) (n : Nat) (cur ys : List Value) (hx : a.eval x = .pointer (some ⟨g, off, none⟩)) (hv : a.eval v = .agg ys.toArray)
    (m : Nat) (hm : ys.length = m) (hT : aggB P T m = true) (hF : Fresh base t w (some ⟨g, 0, none⟩) n n cur) (hfit : off + m ≤ n) (h1 : ∀ u ∈ ys, u.oneCell' = true) (w0 : World) (hb : Below w0.heap.size w0 w) (hB : w0.heap.size ≤ g)
    (hK : ∀ w', Fresh base t w' (some ⟨g, 0, none⟩) n n (splice cur off ys) → Below w0.heap.size w0 w' → (∀ k, k ≠ g → w'.heap[k]? = w.heap[k]?) → w.heap.size ≤ w'.heap.size → wpList P ops Q rest a w') : wpList P ops Q (o :: rest) a w := by
  subst hm
  have hT' : (P.info? T).map (·.size) = some ys.length := by
    unfold aggB at hT
    simp only [Bool.and_eq_true, beq_iff_eq] at hT
    exact hT.2
  refine wpList_plain hg fun K hK' => ?_
  unfold Oper.wp
  rw [run_store_agg x v T hop hx ys hv hT' hF hfit h1]
  have hl := hF.len
  have h := hK _ (hF.setRow (by rw [length_splice _ _ _ (by omega)]; exact hl)) (Below.setRow' hb hB _) (fun k hk => setRow_other w g k _ hk) (by simp)
  have h' := hK' _ _ h
  have e : a.put o.dst undef = a := by simp [Act.put, hd]
  simp only [Oper.upon]
  first | exact h' | (rw [e]; exact h')

/-- One cell each. -/
def allOne (xs : List Value) : Bool := xs.all fun u => u.oneCell'
theorem allOne_out {xs : List Value} (h : allOne xs = true) : ∀ u ∈ xs, u.oneCell' = true := List.all_eq_true.1 h
/-- The one result lies in memory of this call's own. -/
theorem bodyPost_cell {fn : Func} {R : Ending → World → Prop} {p : Tmp} {T : TypeId} {g B off : Nat} (hr : fn.results = #[.cell p T]) (hp : a.tmps.getD p undef = .pointer (some ⟨g, off, none⟩)) (xs : List Value) (n : Nat) (hn : xs.length = n) (hT : aggB P T n = true) (hs : Sees w B (some ⟨g, off, none⟩) xs)
    (hd : a.defers = []) (hR : R (.returned (.agg xs.toArray)) w) : bodyPost P fn R .ret a w := by
  subst hn
  refine ⟨hd, _, ?_, hR⟩
  have hp' : a.tmps[p]?.getD undef = .pointer (some ⟨g, off, none⟩) := by simpa using hp
  simp [results, hr, hp', asAddr, run_loadVar_sees T xs hT hs]
end

theorem Sees.of_fresh {w : World} {base : Nat} {e : TypeId} {g n : Nat} {xs : List Value} (h : Fresh base e w (some ⟨g, 0, none⟩) n n xs) (off k : Nat) : Sees w w.heap.size (some ⟨g, off, none⟩) ((xs.drop off).take k) := by
  have h1 : Sees w w.heap.size (some ⟨g, 0 + off, none⟩) (xs.drop off) := h.sees.drop_ off
  rw [Nat.zero_add] at h1
  exact h1.take_ k
/-- What lies in another block stays. -/
theorem Fresh.other {w w' : World} {base : Nat} {e : TypeId} {g g' n : Nat} {xs : List Value} (h : Fresh base e w (some ⟨g, 0, none⟩) n n xs) (hne : g ≠ g') (hk : ∀ k, k ≠ g' → w'.heap[k]? = w.heap[k]?) : Fresh base e w' (some ⟨g, 0, none⟩) n n xs :=
  Fresh.of_block (by rw [hk g hne]; exact h.block.1) h.block.2 h.len h.cap.2
theorem Sees.other {w w' : World} {B : Nat} {g b off : Nat} {xs : List Value} (h : Sees w B (some ⟨b, off, none⟩) xs) (hne : b ≠ g) (hk : ∀ k, k ≠ g → w'.heap[k]? = w.heap[k]?) : Sees w' B (some ⟨b, off, none⟩) xs := fun hn => by
  obtain ⟨b', o', e, hb, hc⟩ := h hn
  obtain ⟨rfl, rfl⟩ : b = b' ∧ off = o' := by simpa using e
  exact ⟨b, off, rfl, hb, fun j u hu => (World.cell?_of_block (w := w) (hk b hne)).trans (hc j u hu)⟩
theorem below_drewN' {B : Nat} {a w : World} (h : Below B a w) (n : Nat) : Below B a (w.drewN n) := ⟨h.os, h.tape, h.output, h.size, h.block⟩
/-- A region that draws its order, reads, and ends in a tail of one order: walked once, in some world behind the draw. -/
theorem region_tail {P : Program} {id : Nat} {Q : Exit → Act → World → Prop} {a : Act} {w : World} {l : List Oper} (n : Nat) (hm : P.follows .mixedOrders = true) (hB : Region.lexTailB .any l.toArray n = true)
    (h : ∀ w', Below w.heap.size w w' → wpStill P l.toArray w' (fun a' => wpList P l.toArray Q (l.drop n) a' w') (l.take n) a) : (Code.region id l.toArray true).wp P Q a w :=
  wp_region_still_tail n hm hB (h _ ⟨rfl, rfl, rfl, Nat.le_refl _, fun _ _ => rfl⟩)
end Go.Proofs.Ytangblcfdboghaa
