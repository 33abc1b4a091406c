/-
  A flash in memory: its object, and its words; what writing there does to it; and calls that write nothing else.
  What the flash's small inner functions answer: power, places, a step, a sector of ones; and what is told of a flash without changing it.
  What Program does to a flash: word by word, each a step.
  What the other calls upon a flash do to it, and what they answer.
  Erasing, crashing and making a flash.
-/
import Derived.Test.YtpdfalgjmeagjaaCpB01
import Derived.Test.YtpdfalgjmeagjaaCpB04
import Derived.LaidEqlPtr
import Derived.KernelRfl
import Derived.Laws.BitsAll
import Derived.RangeFuncWrites
import Derived.RangeFuncCalls
import Derived.OrdersIn
import Derived.TacticsIn
namespace Go.Proofs.Ytpdfalgjmeagjaa
open Go.RowKit
set_option linter.unusedVariables false

/-- A flash: how many sectors, all words, how many are protected, and how its power stands. -/
structure Fl where
  n : Nat
  ws : List UInt32
  guard : Int
  armed : Bool
  left : Nat
  down : Bool
  half : Int
def Fl.obj (S : Fl) (p b : Nat) : List Value :=
  [.pointer (some ⟨p, 0, none⟩), .slice (some ⟨b, 0, none⟩) S.n S.n, .int .i64 S.guard, .bool S.armed, .int .i64 (S.left : Int), .bool S.down, .int .i64 S.half]

/-- Writes nothing that was there but these two blocks. -/
structure But (p b : Nat) (w w' : World) : Prop where
  os : w'.os = w.os
  tape : w'.tape = w.tape
  output : w'.output = w.output
  size : w.heap.size ≤ w'.heap.size
  keep : ∀ k, k < w.heap.size → k ≠ p → k ≠ b → w'.heap[k]? = w.heap[k]?

structure NorAt (base : Nat) (w : World) (p b : Nat) (S : Fl) : Prop where
  obj : Fresh base 173 w (some ⟨p, 0, none⟩) 7 7 (S.obj p b)
  row : Fresh base 175 w (some ⟨b, 0, none⟩) (64 * S.n) (64 * S.n) (cw S.ws)
  ne : p ≠ b
  n_le : S.n ≤ 1024
  left_le : S.left < 9223372036854775808

section
variable {w w' w'' : World} {base p b g n : Nat} {S : Fl} {e : TypeId} {xs : List Value}
theorem Fresh.cell (h : Fresh base e w (some ⟨g, 0, none⟩) n n xs) {j : Nat} {u : Value} (hu : xs[j]? = some u) : w.cell? ⟨g, j, none⟩ = some u := by
  have hj : j < xs.length := (List.getElem?_eq_some_iff.1 hu).1
  rw [World.ownsRow.cellAt h j (by have := h.len; omega), hu]
theorem Fresh.kept (h : Fresh base e w (some ⟨g, 0, none⟩) n n xs) (k : w'.heap[g]? = w.heap[g]?) : Fresh base e w' (some ⟨g, 0, none⟩) n n xs :=
  Fresh.of_block (by rw [k]; exact h.block.1) h.block.2 h.len h.cap.2
theorem But.refl (p b : Nat) (w : World) : But p b w w := ⟨rfl, rfl, rfl, Nat.le_refl _, fun _ _ _ _ => rfl⟩
theorem But.then_ (x : But p b w w') (y : But p b w' w'') : But p b w w'' :=
  ⟨y.os.trans x.os, y.tape.trans x.tape, y.output.trans x.output, Nat.le_trans x.size y.size, fun k h1 h2 h3 => (y.keep k (Nat.lt_of_lt_of_le h1 x.size) h2 h3).trans (x.keep k h1 h2 h3)⟩
theorem But.of_below (x : Below w.heap.size w w') : But p b w w' := ⟨x.os, x.tape, x.output, x.size, fun k h _ _ => x.block k h⟩
theorem But.below {B : Nat} (x : But p b w w') (hp : B ≤ p) (hb : B ≤ b) (hB : B ≤ w.heap.size) : Below B w w' := ⟨x.os, x.tape, x.output, x.size, fun k h => x.keep k (by omega) (by omega) (by omega)⟩
theorem But.set (p b g j : Nat) (u : Value) (hg : g = p ∨ g = b) : But p b w (w.setCell ⟨g, j, none⟩ u) :=
  ⟨rfl, rfl, rfl, by simp [World.setCell], fun k _ h2 h3 => by
    simp only [World.setCell, Array.getElem?_modify]
    rw [if_neg (by omega)]⟩
theorem Fresh.but {q d : Nat} (h : Fresh base e w (some ⟨g, 0, none⟩) n n xs) (x : But q d w w') (h1 : g ≠ q) (h2 : g ≠ d) : Fresh base e w' (some ⟨g, 0, none⟩) n n xs :=
  h.kept (x.keep g (Array.getElem?_eq_some_iff.1 h.block.1).1 h1 h2)
theorem NorAt.but {q d : Nat} (h : NorAt base w p b S) (x : But q d w w') (h1 : p ≠ q) (h2 : p ≠ d) (h3 : b ≠ q) (h4 : b ≠ d) : NorAt base w' p b S :=
  ⟨h.obj.but x h1 h2, h.row.but x h3 h4, h.ne, h.n_le, h.left_le⟩
theorem NorAt.below (h : NorAt base w p b S) (x : Below w.heap.size w w') : NorAt base w' p b S := ⟨h.obj.below x, h.row.below x, h.ne, h.n_le, h.left_le⟩
theorem NorAt.lower {base' : Nat} (h : NorAt base w p b S) (x : base' ≤ base) : NorAt base' w p b S := ⟨h.obj.lower x, h.row.lower x, h.ne, h.n_le, h.left_le⟩
theorem NorAt.lt (h : NorAt base w p b S) : p < w.heap.size ∧ b < w.heap.size ∧ base ≤ p ∧ base ≤ b := by
  have h1 := h.obj.block
  have h2 := h.row.block
  exact ⟨(Array.getElem?_eq_some_iff.1 h1.1).1, (Array.getElem?_eq_some_iff.1 h2.1).1, h1.2, h2.2⟩
theorem NorAt.len (h : NorAt base w p b S) : S.ws.length = 64 * S.n := by simpa using h.row.len
theorem NorAt.c (h : NorAt base w p b S) : w.cell? ⟨p, 0, none⟩ = some (.pointer (some ⟨p, 0, none⟩)) ∧ w.cell? ⟨p, 1, none⟩ = some (.slice (some ⟨b, 0, none⟩) S.n S.n) ∧ w.cell? ⟨p, 2, none⟩ = some (.int .i64 S.guard) ∧
    w.cell? ⟨p, 3, none⟩ = some (.bool S.armed) ∧ w.cell? ⟨p, 4, none⟩ = some (.int .i64 (S.left : Int)) ∧ w.cell? ⟨p, 5, none⟩ = some (.bool S.down) ∧ w.cell? ⟨p, 6, none⟩ = some (.int .i64 S.half) :=
  ⟨h.obj.cell rfl, h.obj.cell rfl, h.obj.cell rfl, h.obj.cell rfl, h.obj.cell rfl, h.obj.cell rfl, h.obj.cell rfl⟩
theorem NorAt.z (h : NorAt base w p b S) (j : Nat) : w.frozen? ⟨p, j, none⟩ = false := h.obj.frozenAt
theorem NorAt.zr (h : NorAt base w p b S) (j : Nat) : w.frozen? ⟨b, j, none⟩ = false := h.row.frozenAt
/-- A field is written. -/
theorem NorAt.field (h : NorAt base w p b S) (j : Nat) (u : Value) (S' : Fl) (e1 : S'.n = S.n) (e2 : S'.ws = S.ws) (e3 : (S.obj p b).set j u = S'.obj p b) (hl : S'.left < 9223372036854775808) : NorAt base (w.setCell ⟨p, j, none⟩ u) p b S' := by
  have hr : (w.setCell ⟨p, j, none⟩ u).heap[b]? = w.heap[b]? := by
    simp only [World.setCell, Array.getElem?_modify]
    rw [if_neg h.ne]
  refine ⟨?_, ?_, h.ne, by rw [e1]; exact h.n_le, hl⟩
  · have := h.obj.store j u
    rwa [e3] at this
  · rw [e1, e2]
    exact h.row.kept hr
/-- A word is written. -/
theorem NorAt.word (h : NorAt base w p b S) (j : Nat) (c : UInt32) : NorAt base (w.setCell ⟨b, j, none⟩ (.int .u32 (c.toNat : Int))) p b { S with ws := S.ws.set j c } := by
  have hr : (w.setCell ⟨b, j, none⟩ (.int .u32 (c.toNat : Int))).heap[p]? = w.heap[p]? := by
    simp only [World.setCell, Array.getElem?_modify]
    rw [if_neg (Ne.symm h.ne)]
  refine ⟨h.obj.kept hr, ?_, h.ne, h.n_le, h.left_le⟩
  have := h.row.store j (.int .u32 (c.toNat : Int))
  rwa [show (cw S.ws).set j (.int .u32 (c.toNat : Int)) = cw (S.ws.set j c) from by simp [cw, List.map_set]] at this
theorem NorAt.word_at (h : NorAt base w p b S) {j : Nat} (hj : j < 64 * S.n) : ∃ c : UInt32, S.ws[j]? = some c ∧ w.cell? ⟨b, j, none⟩ = some (.int .u32 (c.toNat : Int)) := by
  have hl := h.len
  have e : S.ws[j]? = some (S.ws[j]'(by omega)) := List.getElem?_eq_getElem (by omega)
  exact ⟨_, e, h.row.cell (by rw [List.getElem?_map, e]; rfl)⟩
/-- A list that a flash's own writes leave as it is. -/
def Off (p b : Nat) (w : World) (A : Option Addr) (xs : List Value) : Prop := ∀ w', But p b w w' → Sees w' w'.heap.size A xs
theorem Off.step {A : Option Addr} (h : Off p b w A xs) (x : But p b w w') : Off p b w' A xs := fun w'' y => h w'' (x.then_ y)
theorem Off.sees {A : Option Addr} (h : Off p b w A xs) : Sees w w.heap.size A xs := h w (But.refl _ _ _)
theorem Off.fresh {p b : Nat} (h : Fresh base e w (some ⟨g, 0, none⟩) n n xs) (h1 : g ≠ p) (h2 : g ≠ b) : Off p b w (some ⟨g, 0, none⟩) xs := fun w' x => (h.but x h1 h2).sees
/-- The flash is itself. -/
theorem run_itself (p : Nat) (w : World) : (binOp .eql 56 (.pointer (some ⟨p, 0, none⟩)) (.pointer (some ⟨p, 0, none⟩))).run Try.prog w = .ok (.bool true) w := by
  obtain ⟨j, hj⟩ : ∃ j, Try.prog.info? 173 = some j := Option.isSome_iff_exists.1 (by kernel_rfl)
  exact run_eql_ptr_same w (te := 173) ⟨p, 0, none⟩ (by kernel_rfl) hj

theorem isFlash_any (h : NorAt base w p b S) : Calls Try.prog 106 #[.pointer (some ⟨p, 0, none⟩)] w fun e w' => e = .returned (.bool true) ∧ w' = w := by
  obtain ⟨c0, -⟩ := h.c
  have hq := run_itself p w
  go_enter Try.func106, Try.ntmps106
  go_wp2_with fail
  go_ret
  exact ⟨rfl, rfl⟩
end
end Go.Proofs.Ytpdfalgjmeagjaa
namespace Go.Proofs.Ytpdfalgjmeagjaa
open Go.RowKit
set_option linter.unusedVariables false

/-- What a call that needs power ends with at once. -/
def Fl.power (S : Fl) : Nat := match S.down with
  | true => 40
  | false => 0
def Fl.sector (S : Fl) (s : Int) : Bool := decide (0 ≤ s) && decide (s < (S.n : Int))
def Fl.place (S : Fl) (s a : Int) (m : Nat) : Bool := S.sector s && decide (0 ≤ a) && decide ((m : Int) ≤ 64 - a)
def Fl.step (S : Fl) : Fl × Bool := match S.armed, S.left with
  | false, _ => (S, true)
  | true, 0 => ({ S with armed := false, down := true }, false)
  | true, l + 1 => ({ S with left := l }, true)

theorem wrapI (x : Int) (h : -9223372036854775808 ≤ x) (h' : x < 9223372036854775808) : IntKind.i64.wrap x = x := by
  rw [IntKind.wrap_i64]
  omega
theorem wrap64I (x : Int) (h : -9223372036854775808 ≤ x) (h' : x < 9223372036854775808) : wrap64 x = x := by
  unfold wrap64
  omega
section
variable {w : World} {base p b : Nat} {S : Fl}
theorem power_any (h : NorAt base w p b S) : Calls Try.prog 103 #[.pointer (some ⟨p, 0, none⟩)] w fun e w' => e = .returned (.int .i64 (S.power : Int)) ∧ w' = w := by
  obtain ⟨-, -, -, -, -, c5, -⟩ := h.c
  cases hd : S.down
  · have hp : S.power = 0 := by simp [Fl.power, hd]
    rw [hp]
    rw [hd] at c5
    go_enter Try.func103, Try.ntmps103
    go_wp2_with fail
    refine (isFlash_any h).mono ?_
    rintro e w1 ⟨rfl, rfl⟩
    go_wp2_with fail
    go_ret
    exact ⟨rfl, rfl⟩
  · have hp : S.power = 40 := by simp [Fl.power, hd]
    rw [hp]
    rw [hd] at c5
    go_enter Try.func103, Try.ntmps103
    go_wp2_with fail
    refine (isFlash_any h).mono ?_
    rintro e w1 ⟨rfl, rfl⟩
    go_wp2_with fail
    go_ret
    exact ⟨rfl, rfl⟩
theorem hasSector_any (h : NorAt base w p b S) (s : Int) : Calls Try.prog 107 #[.pointer (some ⟨p, 0, none⟩), .int .i64 s] w fun e w' => e = .returned (.bool (S.sector s)) ∧ w' = w := by
  obtain ⟨-, c1, -⟩ := h.c
  by_cases h0 : 0 ≤ s
  · have d0 : S.sector s = decide (s < (S.n : Int)) := by simp [Fl.sector, h0]
    rw [d0]
    clear d0
    go_enter Try.func107, Try.ntmps107
    go_wp2_with fail
    go_ret
    exact ⟨rfl, rfl⟩
  · have d0 : S.sector s = false := by simp [Fl.sector, h0]
    rw [d0]
    clear d0
    go_enter Try.func107, Try.ntmps107
    go_wp2_with fail
    go_ret
    exact ⟨rfl, rfl⟩
theorem hasPlace_any (h : NorAt base w p b S) (s a : Int) (m : Nat) (ha : -9223372036854775808 ≤ a ∧ a < 9223372036854775808) : Calls Try.prog 104 #[.pointer (some ⟨p, 0, none⟩), .int .i64 s, .int .i64 a, .int .i64 (m : Int)] w fun e w' => e = .returned (.bool (S.place s a m)) ∧ w' = w := by
  have hc := hasSector_any h s
  have hpl : S.place s a m = (S.sector s && decide (0 ≤ a) && decide ((m : Int) ≤ 64 - a)) := rfl
  revert hc hpl
  generalize S.place s a m = r
  generalize S.sector s = q
  intro hc hpl
  cases q
  · obtain rfl : r = false := by simpa using hpl
    clear hpl
    go_enter Try.func104, Try.ntmps104
    go_wp2_with fail
    refine hc.mono ?_
    rintro e w1 ⟨rfl, rfl⟩
    go_wp2_with fail
    go_ret
    exact ⟨rfl, rfl⟩
  · by_cases h0 : 0 ≤ a
    · have e : IntKind.i64.wrap (64 - a) = 64 - a := wrapI _ (by omega) (by omega)
      have e' : wrap64 (64 - a) = 64 - a := wrap64I _ (by omega) (by omega)
      obtain rfl : r = decide ((m : Int) ≤ 64 - a) := by simpa [h0] using hpl
      clear hpl ha
      go_enter Try.func104, Try.ntmps104
      go_wp2_with fail
      refine hc.mono ?_
      rintro e w1 ⟨rfl, rfl⟩
      go_wp2_with fail
      go_ret
      exact ⟨rfl, rfl⟩
    · obtain rfl : r = false := by simpa [h0] using hpl
      clear hpl ha
      go_enter Try.func104, Try.ntmps104
      go_wp2_with fail
      refine hc.mono ?_
      rintro e w1 ⟨rfl, rfl⟩
      go_wp2_with fail
      go_ret
      exact ⟨rfl, rfl⟩
/-- A step. -/
theorem step_any (h : NorAt base w p b S) (S' : Fl) (r : Bool) (hs : S.step = (S', r)) : Calls Try.prog 105 #[.pointer (some ⟨p, 0, none⟩)] w fun e w' => e = .returned (.bool r) ∧ NorAt base w' p b S' ∧ But p b w w' := by
  obtain ⟨-, -, -, c3, c4, c5, -⟩ := h.c
  have z3 := h.z 3
  have z4 := h.z 4
  have z5 := h.z 5
  cases ha : S.armed
  · obtain ⟨rfl, rfl⟩ : S = S' ∧ true = r := by simpa [Fl.step, ha] using hs
    clear hs
    rw [ha] at c3
    go_enter Try.func105, Try.ntmps105
    go_wp2_with fail
    go_ret
    exact ⟨rfl, h, But.refl _ _ _⟩
  · rw [ha] at c3
    rcases hl : S.left with _ | l
    · obtain ⟨rfl, rfl⟩ : { S with armed := false, down := true } = S' ∧ false = r := by simpa [Fl.step, ha, hl] using hs
      clear hs
      rw [hl] at c4
      go_enter Try.func105, Try.ntmps105
      go_wp2_with fail
      go_ret
      refine ⟨rfl, ?_, ?_⟩
      · have h1 := h.field 3 (.bool false) { S with armed := false } rfl rfl rfl h.left_le
        exact h1.field 5 (.bool true) { S with armed := false, down := true } rfl rfl rfl h.left_le
      · exact (But.set p b p 3 _ (.inl rfl)).then_ (But.set p b p 5 _ (.inl rfl))
    · obtain ⟨rfl, rfl⟩ : { S with left := l } = S' ∧ true = r := by simpa [Fl.step, ha, hl] using hs
      clear hs
      rw [hl] at c4
      have hle := h.left_le
      rw [hl] at hle
      have e := Lib.hid (wrap64I (l : Int) (by omega) (by omega))
      clear hle
      have hz0 : decide (((l + 1 : Nat) : Int) = 0) = false := by simp; omega
      go_enter Try.func105, Try.ntmps105
      go_wp2_with fail
      go_ret
      refine ⟨rfl, ?_, But.set p b p 4 _ (.inl rfl)⟩
      rw [e.out]
      exact h.field 4 (.int .i64 (l : Int)) { S with left := l } rfl rfl rfl (by have := h.left_le; show l < _; omega)
end
end Go.Proofs.Ytpdfalgjmeagjaa
namespace Go.Proofs.Ytpdfalgjmeagjaa
open Go.RowKit
set_option linter.unusedVariables false

theorem and32 (a b : UInt32) : bits .and .u32 (a.toNat : Int) (b.toNat : Int) = ((a &&& b).toNat : Int) := by
  rw [u32_and_nat _ _ a.toNat_lt b.toNat_lt, UInt32.toNat_and]
def Fl.put1 (S : Fl) (j : Nat) (x : UInt32) : Fl := { S with ws := S.ws.set j (S.ws.getD j 0 &&& x) }
def Fl.prog (S : Fl) (j : Nat) : List UInt32 → Fl × Bool
  | [] => (S, true)
  | x :: l => match S.step with
    | (T, true) => (T.put1 j x).prog (j + 1) l
    | (T, false) => (T, false)
def Fl.program (S : Fl) (s a : Int) (l : List UInt32) : Fl × Nat := match S.down, S.place s a l.length with
  | true, _ => (S, 40)
  | false, false => (S, 2)
  | false, true => match S.prog (s.toNat * 64 + a.toNat) l with
    | (T, true) => (T, 0)
    | (T, false) => (T, 40)
theorem Fl.step_n (S : Fl) : S.step.1.n = S.n := by
  obtain ⟨n, ws, g, ar, l, d, hf⟩ := S
  cases ar
  · rfl
  · cases l <;> rfl
theorem Fl.place_out {S : Fl} {s a : Int} {m : Nat} (h : S.place s a m = true) : ∃ σ α : Nat, s = (σ : Int) ∧ a = (α : Int) ∧ σ < S.n ∧ α + m ≤ 64 := by
  simp [Fl.place, Fl.sector] at h
  obtain ⟨⟨⟨h1, h2⟩, h3⟩, h4⟩ := h
  obtain ⟨σ, rfl⟩ := Int.eq_ofNat_of_zero_le h1
  obtain ⟨α, rfl⟩ := Int.eq_ofNat_of_zero_le h3
  exact ⟨σ, α, rfl, rfl, by omega, by omega⟩
section
variable {w : World} {base p b : Nat} {S : Fl}
set_option maxHeartbeats 1000000 in
set_option maxRecDepth 100000 in
theorem prog_off (h : NorAt base w p b S) (σ α m c : Nat) (A : Option Addr) (l : List UInt32) (hs : Off p b w A (cw l)) (hl : l.length = m) (hd : S.down = false) (hσ : σ < S.n) (hα : α + m ≤ 64) (S' : Fl) (r : Bool) (hr : S.prog (σ * 64 + α) l = (S', r)) :
    Calls Try.prog 33 #[.pointer (some ⟨p, 0, none⟩), .int .i64 (σ : Int), .int .i64 (α : Int), .slice A m c] w
      fun e w' => e = .returned (.int .i64 (if r then 0 else 40)) ∧ NorAt base w' p b S' ∧ But p b w w' := by
  have hpw := power_any h
  rw [show S.power = 0 from by simp [Fl.power, hd]] at hpw
  have hpl := hasPlace_any h (σ : Int) (α : Int) m (by omega)
  rw [show S.place (σ : Int) (α : Int) m = true from by simp [Fl.place, Fl.sector]; omega] at hpl
  have HN := h.n_le
  have HL := Lib.hid hl
  have HR := Lib.hid hr
  have HD := Lib.hid hd
  clear hl hr hd
  go_enter Try.func33, Try.ntmps33
  go_wp2_with fail
  refine hpw.mono ?_
  rintro e w1 ⟨rfl, rfl⟩
  go_wp2_with fail
  refine hpl.mono ?_
  rintro e w2 ⟨rfl, rfl⟩
  clear hpw hpl
  go_wp2_with fail
  go_loopw [25] (fun i wr => ∃ (k : Nat) (T : Fl), k ≤ m ∧ i = .int .i64 k ∧ NorAt base wr p b T ∧ But p b w2 wr ∧ T.n = S.n ∧ Hid (T.prog (σ * 64 + α + k) (l.drop k) = (S', r))) (fun i _ => m - (intOf i).toNat)
  case atStart => exact ⟨0, S, by omega, rfl, h, But.refl _ _ _, rfl, Lib.hid (by simpa using HR.out)⟩
  case round =>
    obtain ⟨k, T, hk, rfl, hT, hBw, hTn, HP⟩ := hrel
    by_cases hlt : k < m
    · obtain ⟨hp1, hb1, hp2, hb2⟩ := h.lt
      have hsr := hs _ hBw
      obtain ⟨x, hx⟩ : ∃ x, l[k]? = some x := ⟨_, List.getElem?_eq_getElem (by rw [HL.out]; exact hlt)⟩
      have hdr : l.drop k = x :: l.drop (k + 1) := by
        rw [List.drop_eq_getElem_cons (by rw [HL.out]; exact hlt)]
        congr 1
        exact (List.getElem?_eq_some_iff.1 hx).2
      obtain ⟨T1, r1, hst⟩ : ∃ T1 r1, T.step = (T1, r1) := ⟨_, _, rfl⟩
      have hn1 : T1.n = S.n := by have := Fl.step_n T; rw [hst] at this; rw [← hTn]; exact this
      have hpr := HP.out
      rw [hdr, Fl.prog, hst] at hpr
      go_wp2_with fail
      refine (step_any hT T1 r1 hst).mono ?_
      rintro e w3 ⟨rfl, hT1, hB1⟩
      have hBn := hBw.then_ hB1
      cases r1
      · simp only [Prod.mk.injEq] at hpr
        obtain ⟨rfl, rfl⟩ := hpr
        go_wp2_with fail
        go_ret
        exact ⟨rfl, hT1, hBn⟩
      · simp only at hpr
        have hs3 := hs _ hBn
        have hw1 := wrapI ((α : Int) + (k : Int)) (by omega) (by omega)
        have HPR := Lib.hid hpr
        have HX1 := Lib.hid hx
        clear hpr hst hdr hx hs hsr
        go_wp2_with fail
        obtain ⟨g, o, rfl, hg, x', HX, hx', hcx⟩ := hs3.word HL.out hlt
        obtain rfl : x' = x := by have := HX.out; rw [HX1.out] at this; injection this with this; exact this.symm
        obtain ⟨-, c1, -⟩ := hT1.c
        obtain ⟨y, hy, hcy⟩ := hT1.word_at (j := σ * 64 + (α + k)) (by rw [hn1]; omega)
        have HY := Lib.hid hy
        have hzy := hT1.zr (σ * 64 + (α + k))
        rw [hn1] at c1
        clear hy
        refine region_qtail 18 (by kernel_rfl) (by kernel_rfl) ?_
        simp only [List.take_succ_cons, List.take_zero, List.drop_succ_cons, List.drop_zero]
        repeat (go_big_quiet_step (fail))
        refine wpQuiet_nil ?_
        rintro _ ⟨nq, rfl⟩
        go_wp2_with fail
        go_roundw
        case rel =>
          rw [and32]
          have hT2 := (hT1.below (below_drewN' (Below.refl _ _) nq)).word (σ * 64 + (α + k)) (y &&& x')
          have e1 : { T1 with ws := T1.ws.set (σ * 64 + (α + k)) (y &&& x') } = T1.put1 (σ * 64 + α + k) x' := by
            unfold Fl.put1
            rw [Nat.add_assoc, List.getD_eq_getElem?_getD, HY.out]
            rfl
          rw [e1] at hT2
          refine ⟨k + 1, _, by omega, by go_num, hT2, ?_, hn1, Lib.hid ?_⟩
          · exact (hBn.then_ (But.of_below (below_drewN' (Below.refl _ _) nq))).then_ (But.set p b b _ _ (.inr rfl))
          · have := HPR.out
            rwa [Nat.add_assoc (σ * 64 + α) k 1] at this
        case measure => simp [intOf]; omega
    · obtain rfl : k = m := by omega
      have hpr := HP.out
      rw [List.drop_of_length_le (by rw [HL.out]; exact Nat.le_refl _), Fl.prog] at hpr
      simp only [Prod.mk.injEq] at hpr
      obtain ⟨rfl, rfl⟩ := hpr
      go_wp2_with fail
      go_ret
      exact ⟨rfl, hT, hBw⟩
end
end Go.Proofs.Ytpdfalgjmeagjaa
namespace Go.Proofs.Ytpdfalgjmeagjaa
open Go.RowKit
set_option linter.unusedVariables false

section
variable {w : World} {base p b : Nat} {S : Fl}
theorem Sectors_any (h : NorAt base w p b S) : Calls Try.prog 101 #[.pointer (some ⟨p, 0, none⟩)] w fun e w' => e = .returned (.int .i64 (S.n : Int)) ∧ w' = w := by
  obtain ⟨-, c1, -⟩ := h.c
  go_enter Try.func101, Try.ntmps101
  go_wp2_with fail
  refine (isFlash_any h).mono ?_
  rintro e w1 ⟨rfl, rfl⟩
  go_wp2_with fail
  go_ret
  exact ⟨rfl, rfl⟩
theorem Guard_any (h : NorAt base w p b S) : Calls Try.prog 147 #[.pointer (some ⟨p, 0, none⟩)] w fun e w' => e = .returned (.int .i64 S.guard) ∧ w' = w := by
  obtain ⟨-, -, c2, -⟩ := h.c
  go_enter Try.func147, Try.ntmps147
  go_wp2_with fail
  refine (isFlash_any h).mono ?_
  rintro e w1 ⟨rfl, rfl⟩
  go_wp2_with fail
  go_ret
  exact ⟨rfl, rfl⟩
theorem Down_any (h : NorAt base w p b S) : Calls Try.prog 34 #[.pointer (some ⟨p, 0, none⟩)] w fun e w' => e = .returned (.bool S.down) ∧ w' = w := by
  obtain ⟨-, -, -, -, -, c5, -⟩ := h.c
  go_enter Try.func34, Try.ntmps34
  go_wp2_with fail
  refine (isFlash_any h).mono ?_
  rintro e w1 ⟨rfl, rfl⟩
  go_wp2_with fail
  go_ret
  exact ⟨rfl, rfl⟩
/-- The word at a place; or the error. -/
def Fl.read (S : Fl) (s a : Int) : UInt32 × Nat := match S.down, S.place s a 1 with
  | true, _ => (0, 40)
  | false, false => (0, 2)
  | false, true => (S.ws.getD (s.toNat * 64 + a.toNat) 0, 0)
theorem Read_any (h : NorAt base w p b S) (s a : Int) (ha : -9223372036854775808 ≤ a ∧ a < 9223372036854775808) (v : UInt32) (r : Nat) (hr : S.read s a = (v, r)) :
    Calls Try.prog 119 #[.pointer (some ⟨p, 0, none⟩), .int .i64 s, .int .i64 a] w fun e w' => e = .returned (.tuple #[.int .u32 (v.toNat : Int), .int .i64 (r : Int)]) ∧ w' = w := by
  have hpw := power_any h
  have hpl := hasPlace_any h s a 1 ha
  obtain ⟨-, c1, -⟩ := h.c
  clear ha
  cases hd : S.down
  · rw [show S.power = 0 from by simp [Fl.power, hd]] at hpw
    cases hp : S.place s a 1
    · obtain ⟨rfl, rfl⟩ : 0 = v ∧ 2 = r := by simpa [Fl.read, hd, hp] using hr
      rw [hp] at hpl
      clear hr hd hp
      go_enter Try.func119, Try.ntmps119
      go_wp2_with fail
      refine hpw.mono ?_
      rintro e w1 ⟨rfl, rfl⟩
      go_wp2_with fail
      refine hpl.mono ?_
      rintro e w2 ⟨rfl, rfl⟩
      go_wp2_with fail
      go_ret2
      exact ⟨rfl, rfl⟩
    · obtain ⟨σ, α, rfl, rfl, h1, h2⟩ := Fl.place_out hp
      obtain ⟨y, hy, hcy⟩ := h.word_at (j := σ * 64 + α) (by omega)
      obtain ⟨rfl, rfl⟩ : y = v ∧ 0 = r := by
        simp only [Fl.read, hd, hp, Prod.mk.injEq, Int.toNat_natCast, List.getD_eq_getElem?_getD, hy, Option.getD_some] at hr
        exact hr
      rw [hp] at hpl
      clear hr hd hp hy
      go_enter Try.func119, Try.ntmps119
      go_wp2_with fail
      refine hpw.mono ?_
      rintro e w1 ⟨rfl, rfl⟩
      go_wp2_with fail
      refine hpl.mono ?_
      rintro e w2 ⟨rfl, rfl⟩
      go_wp2_with fail
      go_ret2
      exact ⟨rfl, rfl⟩
  · rw [show S.power = 40 from by simp [Fl.power, hd]] at hpw
    obtain ⟨rfl, rfl⟩ : 0 = v ∧ 40 = r := by simpa [Fl.read, hd] using hr
    clear hr hd
    go_enter Try.func119, Try.ntmps119
    go_wp2_with fail
    refine hpw.mono ?_
    rintro e w1 ⟨rfl, rfl⟩
    go_wp2_with fail
    go_ret2
    exact ⟨rfl, rfl⟩
/-- All of Program. -/
theorem Program_off (h : NorAt base w p b S) (s a : Int) (ha : -9223372036854775808 ≤ a ∧ a < 9223372036854775808) (m c : Nat) (A : Option Addr) (l : List UInt32) (hs : Off p b w A (cw l)) (hl : l.length = m) (S' : Fl) (r : Nat) (hr : S.program s a l = (S', r)) :
    Calls Try.prog 33 #[.pointer (some ⟨p, 0, none⟩), .int .i64 s, .int .i64 a, .slice A m c] w
      fun e w' => e = .returned (.int .i64 (r : Int)) ∧ NorAt base w' p b S' ∧ But p b w w' := by
  have hpw := power_any h
  have hpl := hasPlace_any h s a m ha
  unfold Fl.program at hr
  rw [hl] at hr
  cases hd : S.down
  · rw [show S.power = 0 from by simp [Fl.power, hd]] at hpw
    cases hp : S.place s a m
    · obtain ⟨rfl, rfl⟩ : S = S' ∧ 2 = r := by simpa [hd, hp] using hr
      rw [hp] at hpl
      clear hr hd hp hl hs ha
      go_enter Try.func33, Try.ntmps33
      go_wp2_with fail
      refine hpw.mono ?_
      rintro e w1 ⟨rfl, rfl⟩
      go_wp2_with fail
      refine hpl.mono ?_
      rintro e w2 ⟨rfl, rfl⟩
      go_wp2_with fail
      go_ret
      exact ⟨rfl, h, But.refl _ _ _⟩
    · obtain ⟨σ, α, rfl, rfl, h1, h2⟩ := Fl.place_out hp
      obtain ⟨T, q, hq⟩ : ∃ T q, S.prog (σ * 64 + α) l = (T, q) := ⟨_, _, rfl⟩
      refine (prog_off h σ α m c A l hs hl hd h1 h2 T q hq).mono ?_
      rintro e w' ⟨rfl, hT, hBt⟩
      simp only [hd, hp, Int.toNat_natCast, hq] at hr
      cases q
      · simp only [Prod.mk.injEq] at hr
        obtain ⟨rfl, rfl⟩ := hr
        exact ⟨rfl, hT, hBt⟩
      · simp only [Prod.mk.injEq] at hr
        obtain ⟨rfl, rfl⟩ := hr
        exact ⟨rfl, hT, hBt⟩
  · rw [show S.power = 40 from by simp [Fl.power, hd]] at hpw
    obtain ⟨rfl, rfl⟩ : S = S' ∧ 40 = r := by simpa [hd] using hr
    clear hr hd hl hs ha
    go_enter Try.func33, Try.ntmps33
    go_wp2_with fail
    refine hpw.mono ?_
    rintro e w1 ⟨rfl, rfl⟩
    go_wp2_with fail
    go_ret
    exact ⟨rfl, h, But.refl _ _ _⟩
/-- Armed, if it is not down. -/
def Fl.arm (S : Fl) (k : Int) : Fl := match S.down with
  | true => S
  | false => { S with armed := true, left := k.toNat }
theorem Arm_any (h : NorAt base w p b S) (k : Int) (hk : k < 9223372036854775808) :
    Calls Try.prog 32 #[.pointer (some ⟨p, 0, none⟩), .int .i64 k] w fun e w' => e = .returned (.tuple #[]) ∧ NorAt base w' p b (S.arm k) ∧ But p b w w' := by
  have hpw := power_any h
  obtain ⟨-, -, -, c3, c4, -, -⟩ := h.c
  have z3 := h.z 3
  have z4 := h.z 4
  cases hd : S.down
  · rw [show S.power = 0 from by simp [Fl.power, hd]] at hpw
    rw [show S.arm k = { S with armed := true, left := k.toNat } from by simp [Fl.arm, hd]]
    have HK := Lib.hid hk
    clear hk hd
    go_enter Try.func32, Try.ntmps32
    go_wp2_with fail
    refine hpw.mono ?_
    rintro e w1 ⟨rfl, rfl⟩
    have key : ∀ (x : Int), x = (k.toNat : Int) → NorAt base ((w1.setCell ⟨p, 3, none⟩ (.bool true)).setCell ⟨p, 4, none⟩ (.int .i64 x)) p b { S with armed := true, left := k.toNat } ∧ But p b w1 ((w1.setCell ⟨p, 3, none⟩ (.bool true)).setCell ⟨p, 4, none⟩ (.int .i64 x)) := by
      rintro x rfl
      refine ⟨?_, (But.set p b p 3 _ (.inl rfl)).then_ (But.set p b p 4 _ (.inl rfl))⟩
      have h1 := h.field 3 (.bool true) { S with armed := true } rfl rfl rfl h.left_le
      exact h1.field 4 (.int .i64 (k.toNat : Int)) { S with armed := true, left := k.toNat } rfl rfl rfl (by have := HK.out; show k.toNat < _; omega)
    by_cases h0 : 0 ≤ k
    · go_wp2_with fail
      go_end0
      exact ⟨rfl, key k (by omega)⟩
    · go_wp2_with fail
      go_end0
      exact ⟨rfl, key 0 (by omega)⟩
  · rw [show S.power = 40 from by simp [Fl.power, hd]] at hpw
    rw [show S.arm k = S from by simp [Fl.arm, hd]]
    clear hk hd
    go_enter Try.func32, Try.ntmps32
    go_wp2_with fail
    refine hpw.mono ?_
    rintro e w1 ⟨rfl, rfl⟩
    go_wp2_with fail
    (try simp only [Exit.inBlock, Exit.then])
    refine bodyPost_ret (results_none rfl _ _ _) rfl ?_
    exact ⟨rfl, h, But.refl _ _ _⟩
/-- Another hand's words. -/
def Fl.rewrite (S : Fl) (s a : Int) (l : List UInt32) : Fl × Nat := match S.place s a l.length, decide (s < S.guard) with
  | false, _ => (S, 2)
  | true, true => (S, 41)
  | true, false => ({ S with ws := splice S.ws (s.toNat * 64 + a.toNat) l }, 0)
set_option maxHeartbeats 1000000 in
set_option maxRecDepth 100000 in
theorem Rewrite_any (h : NorAt base w p b S) (s a : Int) (ha : -9223372036854775808 ≤ a ∧ a < 9223372036854775808) (m c : Nat) (A : Option Addr) (l : List UInt32) (hB : base ≤ w.heap.size) (hs : Sees w base A (cw l)) (hl : l.length = m) (S' : Fl) (r : Nat) (hr : S.rewrite s a l = (S', r)) :
    Calls Try.prog 60 #[.pointer (some ⟨p, 0, none⟩), .int .i64 s, .int .i64 a, .slice A m c] w
      fun e w' => e = .returned (.int .i64 (r : Int)) ∧ NorAt base w' p b S' ∧ But p b w w' := by
  have hpl := hasPlace_any h s a m ha
  unfold Fl.rewrite at hr
  rw [hl] at hr
  obtain ⟨-, c1, c2, -⟩ := h.c
  cases hp : S.place s a m
  · obtain ⟨rfl, rfl⟩ : S = S' ∧ 2 = r := by simpa [hp] using hr
    rw [hp] at hpl
    clear hr hp hl hs ha
    go_enter Try.func60, Try.ntmps60
    go_wp2_with fail
    refine (isFlash_any h).mono ?_
    rintro e w1 ⟨rfl, rfl⟩
    go_wp2_with fail
    refine hpl.mono ?_
    rintro e w2 ⟨rfl, rfl⟩
    go_wp2_with fail
    go_ret
    exact ⟨rfl, h, But.refl _ _ _⟩
  · obtain ⟨σ, α, rfl, rfl, h1, h2⟩ := Fl.place_out hp
    rw [hp] at hpl
    by_cases hg : (σ : Int) < S.guard
    · obtain ⟨rfl, rfl⟩ : S = S' ∧ 41 = r := by simpa [hp, hg] using hr
      clear hr hp hl hs ha
      go_enter Try.func60, Try.ntmps60
      go_wp2_with fail
      refine (isFlash_any h).mono ?_
      rintro e w1 ⟨rfl, rfl⟩
      go_wp2_with fail
      refine hpl.mono ?_
      rintro e w2 ⟨rfl, rfl⟩
      go_wp2_with fail
      go_ret
      exact ⟨rfl, h, But.refl _ _ _⟩
    · obtain ⟨rfl, rfl⟩ : { S with ws := splice S.ws (σ * 64 + α) l } = S' ∧ 0 = r := by simpa [hp, hg] using hr
      have HL := Lib.hid hl
      have HN := h.n_le
      have HLEN := Lib.hid h.len
      obtain ⟨hp1, hb1, hp2, hb2⟩ := h.lt
      clear hr hp hl ha
      go_enter Try.func60, Try.ntmps60
      go_wp2_with fail
      refine (isFlash_any h).mono ?_
      rintro e w1 ⟨rfl, rfl⟩
      go_wp2_with fail
      refine hpl.mono ?_
      rintro e w2 ⟨rfl, rfl⟩
      clear hpl
      go_wp2_with fail
      go_loopw [28] (fun i wr => ∃ k : Nat, k ≤ m ∧ i = .int .i64 k ∧ NorAt base wr p b { S with ws := splice S.ws (σ * 64 + α) (l.take k) } ∧ But p b w2 wr) (fun i _ => m - (intOf i).toNat)
      case atStart => exact ⟨0, by omega, rfl, by simpa [splice] using h, But.refl _ _ _⟩
      case round =>
        obtain ⟨k, hk, rfl, hT, hBw⟩ := hrel
        by_cases hlt : k < m
        · have hs3 := hs.below (hBw.below hp2 hb2 hB)
          obtain ⟨g, o, rfl, hg, x, HX, hx', hcx⟩ := hs3.word HL.out hlt
          obtain ⟨-, d1, -⟩ := hT.c
          obtain ⟨y, hy, hcy⟩ := hT.word_at (j := σ * 64 + (α + k)) (by show _ < 64 * S.n; omega)
          have hzy := hT.zr (σ * 64 + (α + k))
          have hw1 := wrapI ((α : Int) + (k : Int)) (by omega) (by omega)
          clear hy hs hs3 c1 c2
          go_wp2_with fail
          refine region_qtail 14 (by kernel_rfl) (by kernel_rfl) ?_
          simp only [List.take_succ_cons, List.take_zero, List.drop_succ_cons, List.drop_zero]
          repeat (go_big_quiet_step (fail))
          refine wpQuiet_nil ?_
          rintro _ ⟨nq, rfl⟩
          go_wp2_with fail
          go_roundw
          case rel =>
            have hT2 := (hT.below (below_drewN' (Below.refl _ _) nq)).word (σ * 64 + (α + k)) x
            have hX := HX.out
            have hkl : k < l.length := by rw [HL.out]; exact hlt
            have hxe : l[k] = x := (List.getElem?_eq_some_iff.1 hX).2
            have e1 : (splice S.ws (σ * 64 + α) (l.take k)).set (σ * 64 + (α + k)) x = splice S.ws (σ * 64 + α) (l.take (k + 1)) := by
              rw [← hxe, ← Nat.add_assoc]
              exact splice_step _ _ _ _ hkl (by rw [HL.out, HLEN.out]; omega)
            rw [e1] at hT2
            exact ⟨k + 1, by omega, by go_num, hT2, (hBw.then_ (But.of_below (below_drewN' (Below.refl _ _) nq))).then_ (But.set p b b _ _ (.inr rfl))⟩
          case measure => simp [intOf]; omega
        · obtain rfl : k = m := by omega
          rw [List.take_of_length_le (by rw [HL.out]; exact Nat.le_refl _)] at hT
          clear c1 c2
          go_wp2_with fail
          go_ret
          exact ⟨rfl, hT, hBw⟩
end
end Go.Proofs.Ytpdfalgjmeagjaa
namespace Go.Proofs.Ytpdfalgjmeagjaa
open Go.RowKit
set_option linter.unusedVariables false

/-- What a call tells that the machine has run: a value without addresses. -/
def tellsVal (e : Option (AV × H)) (r : AV) : Bool := match e with
  | some (x, _) => avSame x r
  | none => false
theorem told_val {P : Program} {orc : Known} (ok : Known.Ok P orc) {f : FuncId} {r : AV} (e : tellsVal (orc f [] noH) r = true) (v : Value) (hv : ∀ ρ, con ρ r = some v) (w : World) : Calls P f #[] w fun e w' => e = .returned v ∧ Below w.heap.size w w' := by
  unfold tellsVal at e
  split at e
  · rename_i x h' hr
    refine (ok f [] noH x h' hr (fun _ => none) w [] rfl (noH_rel w) (fun _ _ => rfl)).mono ?_
    rintro e' w' ⟨ρ', u, h1, rfl, _, _, h2⟩
    rw [avSame_out e, hv] at h1
    simp at h1
    subst h1
    exact ⟨rfl, h2.below (fun _ _ hb => (noH_get hb).elim)⟩
  · cases e
theorem con_agg_mk {ρ : Pos} {l : List AV} {xs : List Value} (h : conL ρ l = some xs) : con ρ (.agg l) = some (.agg xs.toArray) := by simp only [con, h]
/-- A sector of ones. -/
abbrev ones64 : List UInt32 := List.replicate 64 4294967295
theorem follows_mixedN : Try.prog.follows .mixedOrders = true := by kernel_rfl
set_option maxRecDepth 100000 in
theorem ones_told : tellsVal (runF Try.prog noneKnown 100000 30 108 [] noH) (.agg (avsOf .u32 (List.replicate 64 4294967295))) = true := by kernel_rfl
theorem erased_any (w : World) : Calls Try.prog 108 #[] w fun e w' => e = .returned (.agg (cw ones64).toArray) ∧ Below w.heap.size w w' := by
  refine told_val (runF_ok follows_mixedN noneKnown_ok 100000 30) ones_told _ (fun ρ => ?_) w
  exact con_agg_mk (by
    have h := avs32 ρ ones64
    rwa [show ones64.map UInt32.toNat = List.replicate 64 4294967295 from by rw [List.map_replicate]; rfl] at h)
/-- A sector erased. -/
def Fl.erase (S : Fl) (s : Int) : Fl × Nat := match S.down, S.sector s with
  | true, _ => (S, 40)
  | false, false => (S, 2)
  | false, true => match S.step with
    | (T, true) => ({ T with ws := splice T.ws (s.toNat * 64) ones64 }, 0)
    | (T, false) => ({ T with half := s }, 40)
section
variable {w : World} {base p b : Nat} {S : Fl}
theorem But.row (p b g : Nat) (cs : Array Value) (hg : g = p ∨ g = b) (w w' : World) (h1 : w'.os = w.os) (h2 : w'.tape = w.tape) (h3 : w'.output = w.output) (hs : w.heap.size ≤ w'.heap.size) (hk : ∀ k, k ≠ g → w'.heap[k]? = w.heap[k]?) : But p b w w' :=
  ⟨h1, h2, h3, hs, fun k _ h4 h5 => hk k (by omega)⟩
/-- A part of the words is written whole. -/
theorem NorAt.words (h : NorAt base w p b S) {w' : World} (ws' : List UInt32) (hF : Fresh base 175 w' (some ⟨b, 0, none⟩) (64 * S.n) (64 * S.n) (cw ws')) (hk : ∀ k, k ≠ b → w'.heap[k]? = w.heap[k]?) : NorAt base w' p b { S with ws := ws' } :=
  ⟨h.obj.kept (hk p h.ne), hF, h.ne, h.n_le, h.left_le⟩
/-- A part of a block of this call's own is written whole. -/
theorem wpList_storeN {P : Program} {ops : Array Oper} {rest : List Oper} {o : Oper} {a : Act} {Q : Exit → Act → World → Prop} (hg : o.guard = none) (hd : o.dst = none) (x v : Operand) (T : TypeId) (hop : o.op = .store T x v) (g off base : Nat) (t : TypeId) (n : Nat) (cur ys : List Value) (hx : a.eval x = .pointer (some ⟨g, off, none⟩)) (hv : a.eval v = .agg ys.toArray)
    (m : Nat) (hm : ys.length = m) (hT : aggB P T m = true) (hF : Fresh base t w (some ⟨g, 0, none⟩) n n cur) (hfit : off + m ≤ n) (h1 : ∀ u ∈ ys, u.oneCell' = true)
    (hK : ∀ w', Fresh base t w' (some ⟨g, 0, none⟩) n n (splice cur off ys) → w'.os = w.os → w'.tape = w.tape → w'.output = w.output → w.heap.size ≤ w'.heap.size → (∀ k, k ≠ g → w'.heap[k]? = w.heap[k]?) → wpList P ops Q rest a w') : wpList P ops Q (o :: rest) a w := by
  subst hm
  have hT' : (P.info? T).map (·.size) = some ys.length := by
    unfold aggB at hT
    simp only [Bool.and_eq_true, beq_iff_eq] at hT
    exact hT.2
  refine wpList_plain hg fun K hK' => ?_
  unfold Oper.wp
  rw [run_store_agg x v T hop hx ys hv hT' hF hfit h1]
  have hl := hF.len
  have h := hK _ (hF.setRow (by rw [length_splice _ _ _ (by omega)]; exact hl)) rfl rfl rfl (by simp) (fun k hk => setRow_other w g k _ hk)
  have h' := hK' _ _ h
  have e : a.put o.dst undef = a := by simp [Act.put, hd]
  simp only [Oper.upon]
  first | exact h' | (rw [e]; exact h')
def eraFacts (p b n : Nat) (s : Int) (j : Nat) (v : Value) (w : World) : Prop :=
  match j with
  | 0 => v = .pointer (some ⟨p, 0, none⟩)
  | 1 => v = .pointer (some ⟨p, 0, none⟩)
  | 2 => v = .pointer (some ⟨p, 1, none⟩)
  | 3 => v = .slice (some ⟨b, 0, none⟩) n n
  | 4 => v = .int .i64 s
  | 5 => v = .agg (cw ones64).toArray
  | 6 => v = .pointer (some ⟨b, s.toNat * 64, none⟩)
  | _ => True
theorem eraFacts_stab (p b n : Nat) (s : Int) : ∀ j v w w', Below w.heap.size w w' → eraFacts p b n s j v w → eraFacts p b n s j v w' := by
  intro j v w w' hb h
  exact h
set_option maxHeartbeats 1000000 in
set_option maxRecDepth 100000 in
theorem Erase_any (h : NorAt base w p b S) (s : Int) (S' : Fl) (r : Nat) (hr : S.erase s = (S', r)) (hs : -9223372036854775808 ≤ s ∧ s < 9223372036854775808) :
    Calls Try.prog 36 #[.pointer (some ⟨p, 0, none⟩), .int .i64 s] w
      fun e w' => e = .returned (.int .i64 (r : Int)) ∧ NorAt base w' p b S' ∧ But p b w w' := by
  have hpw := power_any h
  have hse := hasSector_any h s
  unfold Fl.erase at hr
  cases hd : S.down
  · rw [show S.power = 0 from by simp [Fl.power, hd]] at hpw
    cases hp : S.sector s
    · obtain ⟨rfl, rfl⟩ : S = S' ∧ 2 = r := by simpa [hd, hp] using hr
      rw [hp] at hse
      clear hr hd hp hs
      go_enter Try.func36, Try.ntmps36
      go_wp2_with fail
      refine hpw.mono ?_
      rintro e w1 ⟨rfl, rfl⟩
      go_wp2_with fail
      refine hse.mono ?_
      rintro e w2 ⟨rfl, rfl⟩
      go_wp2_with fail
      go_ret
      exact ⟨rfl, h, But.refl _ _ _⟩
    · rw [hp] at hse
      obtain ⟨T, q, hq⟩ : ∃ T q, S.step = (T, q) := ⟨_, _, rfl⟩
      have hTn : T.n = S.n := by have := Fl.step_n S; rw [hq] at this; exact this
      have hst := step_any h T q hq
      have h2 : ∃ σ : Nat, s = (σ : Int) ∧ σ < S.n := by
        simp [Fl.sector] at hp
        obtain ⟨σ, rfl⟩ := Int.eq_ofNat_of_zero_le hp.1
        exact ⟨σ, rfl, by omega⟩
      obtain ⟨σ, rfl, hσ⟩ := h2
      simp only [hd, hp, hq] at hr
      clear hd hp hs
      cases q
      · simp only [Prod.mk.injEq] at hr
        obtain ⟨rfl, rfl⟩ := hr
        go_enter Try.func36, Try.ntmps36
        go_wp2_with fail
        refine hpw.mono ?_
        rintro e w1 ⟨rfl, rfl⟩
        go_wp2_with fail
        refine hse.mono ?_
        rintro e w2 ⟨rfl, rfl⟩
        go_wp2_with fail
        refine hst.mono ?_
        rintro e w3 ⟨rfl, hT, hBt⟩
        obtain ⟨-, -, -, -, -, -, c6⟩ := hT.c
        have z6 := hT.z 6
        clear hpw hse hst
        go_wp2_with fail
        go_ret
        exact ⟨rfl, hT.field 6 _ _ rfl rfl rfl hT.left_le, hBt.then_ (But.set p b p 6 _ (.inl rfl))⟩
      · simp only [Prod.mk.injEq] at hr
        obtain ⟨rfl, rfl⟩ := hr
        go_enter Try.func36, Try.ntmps36
        go_wp2_with fail
        refine hpw.mono ?_
        rintro e w1 ⟨rfl, rfl⟩
        go_wp2_with fail
        refine hse.mono ?_
        rintro e w2 ⟨rfl, rfl⟩
        go_wp2_with fail
        refine hst.mono ?_
        rintro e w3 ⟨rfl, hT, hBt⟩
        clear hpw hse hst
        go_wp2_with fail
        refine region_all_tail 7 (eraFacts p b S.n (σ : Int)) (by kernel_rfl) (by kernel_rfl) (by kernel_rfl) (eraFacts_stab _ _ _ _) ?_ ?_
        · intro w0 hb0
          simp only [List.take_succ_cons, List.take_zero]
          refine ⟨?_, ?_, ?_, ?_, ?_, ?_, ?_, trivial⟩
          all_goals intro listed a1 w' hk hd
          · have f2 := hk.ev_old 0 (by kernel_rfl)
            exact stepOk_value rfl (v := .pointer (some ⟨p, 0, none⟩)) (by simp [execOp]; exact f2) rfl
          · obtain ⟨v, e0, _, rfl⟩ := hk.ev_new hd 0 22 (by kernel_rfl) rfl
            exact stepOk_value rfl (v := .pointer (some ⟨p, 0, none⟩)) (by go_simp) rfl
          · obtain ⟨v, e0, _, rfl⟩ := hk.ev_new hd 1 23 (by kernel_rfl) rfl
            exact stepOk_value rfl (v := .pointer (some ⟨p, 1, none⟩)) (by go_simp) rfl
          · obtain ⟨v, e0, _, rfl⟩ := hk.ev_new hd 2 24 (by kernel_rfl) rfl
            obtain ⟨-, c1, -⟩ := ((hT.below hb0).below hk.below).c
            rw [hTn] at c1
            exact stepOk_value rfl (v := .slice (some ⟨b, 0, none⟩) S.n S.n) (by go_simp) rfl
          · have f2 := hk.ev_old 1 (by kernel_rfl)
            exact stepOk_value rfl (v := .int .i64 (σ : Int)) (by simp [execOp]; exact f2) rfl
          · refine stepOk_enter rfl (f := 108) (args := #[]) (by go_simp) ?_
            refine (erased_any _).mono ?_
            rintro e w5 ⟨rfl, hB5⟩
            exact ⟨_, rfl, rfl, hB5⟩
          · obtain ⟨v, e0, _, rfl⟩ := hk.ev_new hd 3 25 (by kernel_rfl) rfl
            obtain ⟨v, e1, _, rfl⟩ := hk.ev_new hd 4 26 (by kernel_rfl) rfl
            exact stepOk_value rfl (v := .pointer (some ⟨b, σ * 64, none⟩)) (by go_simp) (by simp [eraFacts])
        · intro a1 w' hbw hp
          obtain ⟨v0, p0, v1, p1, v2, p2, v3, p3, v4, p4, v5, p5, v6, p6, rfl⟩ := hp
          simp only [eraFacts] at p0 p1 p2 p3 p4 p5 p6
          subst p0 p1 p2 p3 p4 p5 p6
          simp only [List.drop_succ_cons, List.drop_zero, Act.put, List.setIfInBounds_toArray, List.set_cons_succ, List.set_cons_zero, Int.toNat_natCast]
          have hT5 := hT.below hbw
          have hrow := hT5.row
          rw [hTn] at hrow
          refine wpList_storeN rfl rfl (.tmp 28) (.tmp 27) 175 rfl b (σ * 64) base 175 (64 * S.n) (cw T.ws) (cw ones64) rfl rfl 64 (by simp) (by kernel_rfl) hrow (by omega) (cw_one _) ?_
          intro w7 hF7 o1 o2 o3 o4 o5
          rw [show splice (cw T.ws) (σ * 64) (cw ones64) = cw (splice T.ws (σ * 64) ones64) from by simp [splice, cw], ← hTn] at hF7
          have hT7 := hT5.words _ hF7 o5
          have hB7 := hBt.then_ ((But.of_below hbw).then_ (But.row p b b #[] (.inr rfl) _ _ o1 o2 o3 o4 o5))
          go_wp2_with fail
          go_ret
          exact ⟨rfl, hT7, hB7⟩
  · rw [show S.power = 40 from by simp [Fl.power, hd]] at hpw
    obtain ⟨rfl, rfl⟩ : S = S' ∧ 40 = r := by simpa [hd] using hr
    clear hr hd hs
    go_enter Try.func36, Try.ntmps36
    go_wp2_with fail
    refine hpw.mono ?_
    rintro e w1 ⟨rfl, rfl⟩
    go_wp2_with fail
    go_ret
    exact ⟨rfl, h, But.refl _ _ _⟩
end
end Go.Proofs.Ytpdfalgjmeagjaa

/-
  Digests by a table: words that turn, the words of a block, a state by a block, states behind many blocks, the padding: plain functions on lists, as chapter 2 of the document defines them. No program is named here.
-/
namespace Go.Proofs.Ytpdfalgjmeagjaa
set_option linter.unusedVariables false

/-- A word turned right. -/
def rr (x : UInt32) (n : Nat) : UInt32 := UInt32.ofNat (x.toNat * 2 ^ (32 - n) % 4294967296 ||| x.toNat / 2 ^ n)
/-- .. pushed right. -/
def sh (x : UInt32) (n : Nat) : UInt32 := UInt32.ofNat (x.toNat / 2 ^ n)
def sg0 (x : UInt32) : UInt32 := (rr x 7 ^^^ rr x 18) ^^^ sh x 3
def sg1 (x : UInt32) : UInt32 := (rr x 17 ^^^ rr x 19) ^^^ sh x 10
def tOf (e f g h k w : UInt32) : UInt32 := h + ((rr e 6 ^^^ rr e 11) ^^^ rr e 25) + ((e &&& f) ^^^ (~~~e &&& g)) + k + w
def uOf (a b c : UInt32) : UInt32 := ((rr a 2 ^^^ rr a 13) ^^^ rr a 22) + (((a &&& b) ^^^ (a &&& c)) ^^^ (b &&& c))
/-- One round. -/
def rnd (s : List UInt32) (kw : UInt32 × UInt32) : List UInt32 :=
  match s with
  | [a, b, c, d, e, f, g, h] => [tOf e f g h kw.1 kw.2 + uOf a b c, a, b, c, d + tOf e f g h kw.1 kw.2, e, f, g]
  | _ => s
def turn (keys ws s : List UInt32) : List UInt32 := (keys.zip ws).foldl rnd s
def nextW (w : List UInt32) (i : Nat) : UInt32 := sg1 (w.getD (i + 14) 0) + w.getD (i + 9) 0 + sg0 (w.getD (i + 1) 0) + w.getD i 0
def ext (w : List UInt32) (i : Nat) : List UInt32 := w ++ [nextW w i]
/-- What is left behind all whole blocks. -/
def left (all : List UInt8) : List UInt8 := all.drop (64 * (all.length / 64))
end Go.Proofs.Ytpdfalgjmeagjaa

/-
  What sha.Block answers: the state by a block, for every table, state and block.
-/
namespace Go.Proofs.Ytpdfalgjmeagjaa
open Go.RowKit
set_option linter.unusedVariables false
theorem Fresh.byte {base : Nat} {e : TypeId} {w : World} {g n k : Nat} {l : List UInt8} (h : Fresh base e w (some ⟨g, 0, none⟩) n n (cb l)) (hk : k < n) :
    ∃ c : UInt8, Hid (l[k]? = some c) ∧ c.toNat < 256 ∧ w.cell? ⟨g, k, none⟩ = some (.int .u8 (c.toNat : Int)) := by
  have hl : l.length = n := by simpa using h.len
  obtain ⟨b, o, e, hb, c, h1, h2, h3⟩ := h.sees.byte hl hk
  obtain ⟨rfl, rfl⟩ : g = b ∧ 0 = o := by simpa using e
  exact ⟨c, h1, h2, by simpa using h3⟩
theorem Fresh.word {base : Nat} {e : TypeId} {w : World} {g n k : Nat} {l : List UInt32} (h : Fresh base e w (some ⟨g, 0, none⟩) n n (cw l)) (hk : k < n) :
    ∃ c : UInt32, Hid (l[k]? = some c) ∧ c.toNat < 4294967296 ∧ w.cell? ⟨g, k, none⟩ = some (.int .u32 (c.toNat : Int)) := by
  have hl : l.length = n := by simpa using h.len
  obtain ⟨b, o, e, hb, c, h1, h2, h3⟩ := h.sees.word hl hk
  obtain ⟨rfl, rfl⟩ : g = b ∧ 0 = o := by simpa using e
  exact ⟨c, h1, h2, by simpa using h3⟩
end Go.Proofs.Ytpdfalgjmeagjaa

namespace Go.Proofs.Ytpdfalgjmeagjaa
open Go.RowKit
set_option linter.unusedVariables false
end Go.Proofs.Ytpdfalgjmeagjaa

namespace Go.Proofs.Ytpdfalgjmeagjaa
open Go.RowKit
set_option linter.unusedVariables false
/-- A table lies there. -/
structure Tab (w : World) (tb to : Nat) (first keys : List UInt32) : Prop where
  l1 : first.length = 8
  l2 : keys.length = 64
  sees : Sees w w.heap.size (some ⟨tb, to, none⟩) (cw (first ++ keys))
theorem Tab.step {w w' : World} {tb to : Nat} {first keys : List UInt32} (h : Tab w tb to first keys) (hb : Below w.heap.size w w') : Tab w' tb to first keys := ⟨h.l1, h.l2, h.sees.step hb⟩
end Go.Proofs.Ytpdfalgjmeagjaa

/-
  What the small functions of package sha answer: isRight, owned, byteOf, New, Pad.
-/
namespace Go.Proofs.Ytpdfalgjmeagjaa
open Go.RowKit
set_option linter.unusedVariables false
/-- The cells of a hasher. -/
abbrev hz (s : List UInt32) (v : Value) (L : Int) : List Value := cw s ++ [v, .int .i64 L]
theorem Fresh.cell_ {base : Nat} {e : TypeId} {w : World} {g n k : Nat} {xs : List Value} (h : Fresh base e w (some ⟨g, 0, none⟩) n n xs) {u : Value} (hk : xs[k]? = some u) : w.cell? ⟨g, k, none⟩ = some u := by
  obtain ⟨hlt, _⟩ := List.getElem?_eq_some_iff.1 hk
  obtain ⟨b, o, he, _, hc⟩ := h.sees (by omega)
  obtain ⟨rfl, rfl⟩ : g = b ∧ 0 = o := by simpa using he
  simpa using hc k u hk
end Go.Proofs.Ytpdfalgjmeagjaa

/-
  Operations within a round of a range over a function: what is walked as everywhere holds there, too.
-/
namespace Go.Proofs.Ytpdfalgjmeagjaa
open Go.RowKit
set_option linter.unusedVariables false

/-- No operation is a 'defer'. -/
def noDefer (ops : Array Oper) : Bool := ops.all fun o => match o.op with
  | .defer _ => false
  | _ => true
section
variable {P : Program} {Q : Exit → Act → World → Prop} {a : Act} {w : World} {l n : Nat}
theorem oper_in {o : Oper} {K : Act → World → Prop} (hd : ∀ c, o.op ≠ .defer c) (h : o.wp P a w K Q) : o.wpIn (Fence.wide.inRound l) n P a w K Q := by
  unfold Oper.wpIn
  unfold Oper.wp at h
  refine ⟨fun f _ => trivial, ?_⟩
  rw [Oper.semAt_eq _ _ _ hd]
  generalize (execOp a.eval o).run P w = r at h ⊢
  cases r with
  | ok x w' =>
    cases x with
    | value v => exact h
    | skip => exact h
    | defer d => exact h
    | enter f args => exact ⟨(fun e => (by cases e)), CallsIn.inRound l (callsIn_wide.2 h)⟩
    | row row args => exact ⟨(fun e => (by cases e)), fun c cs _ => let ⟨v, w2, r1, s1⟩ := h c cs; ⟨v, w2, r1, stepsIn_wide.2 s1⟩⟩
    | round l f tmps assign body => exact h.elim
    | _ => exact h.elim
  | halt x w' => cases x <;> exact h
theorem defer_at {ops : Array Oper} (h : noDefer ops = true) {i : Nat} {o : Oper} (ho : ops[i]? = some o) : ∀ c, o.op ≠ .defer c := by
  intro c hc
  have hlt := (Array.getElem?_eq_some_iff.1 ho).1
  have h1 := Array.all_eq_true.1 h i hlt
  have e : ops[i] = o := (Array.getElem?_eq_some_iff.1 ho).2
  rw [e, hc] at h1
  cases h1
theorem op_in {ops : Array Oper} (hd : noDefer ops = true) (hno : ¬ LetsOut Q) {i : Nat} {K K' : Act → World → Prop} (hK : ∀ a w, K a w → K' a w) (h : wpOp P ops Q i K a w) : wpOpIn (Fence.wide.inRound l) n P ops Q i K' a w := by
  unfold wpOp at h
  unfold wpOpIn
  split
  · rename_i hn
    rw [hn] at h
    exact hK _ _ h
  · rename_i o ho
    rw [ho] at h
    simp only at h
    split
    · rename_i hw
      rw [if_pos hw] at h
      rcases h with h | ⟨_, h⟩
      · exact Oper.wpIn_mono hK (oper_in (defer_at hd ho) h)
      · exact absurd h hno
    · rename_i hw
      rw [if_neg hw] at h
      exact ⟨fun f _ => trivial, hK _ _ h⟩
theorem any_in {ops : Array Oper} (hd : noDefer ops = true) (hno : ¬ LetsOut Q) : ∀ (fuel : Nat) (listed : Array Bool) (a : Act) (w : World), wpAny P .any ops Q fuel listed a w → wpAnyIn (Fence.wide.inRound l) n P .any ops Q fuel listed a w
  | 0, listed, a, w, h => h
  | fuel + 1, listed, a, w, h => ⟨h.1, fun i hi => op_in hd hno (fun a w => any_in hd hno fuel _ a w) (h.2 i hi)⟩
/-- A statement whose order is open, within a round. -/
theorem region_in {ops : Array Oper} {id : Nat} (hm : P.follows .mixedOrders = true) (hd : noDefer ops = true) (hno : ¬ LetsOut Q) (h : wpAny P .any ops Q ops.size (Array.replicate ops.size false) a { w with drawn := w.drawn + 1 }) : (Code.region id ops true).wpIn (Fence.wide.inRound l) n P Q a w :=
  wpIn_region_any hm (any_in hd hno _ _ _ _ h)
theorem list_in {ops : Array Oper} (hno : ¬ LetsOut Q) : ∀ (L : List Oper) (a : Act) (w : World), (∀ o ∈ L, ∀ c, o.op ≠ .defer c) → wpList P ops Q L a w → wpListIn (Fence.wide.inRound l) n P ops Q L a w
  | [], a, w, _, h => h
  | o :: L, a, w, hd, h => by
    unfold wpList at h
    unfold wpListIn
    split
    · rename_i hw
      rw [if_pos hw] at h
      rcases h with h | ⟨_, h⟩
      · exact Oper.wpIn_mono (fun a w => list_in hno L a w fun o ho => hd o (List.mem_cons_of_mem _ ho)) (oper_in (hd o List.mem_cons_self) h)
      · exact absurd h hno
    · rename_i hw
      rw [if_neg hw] at h
      exact ⟨fun f _ => trivial, list_in hno L _ w (fun o ho => hd o (List.mem_cons_of_mem _ ho)) h⟩
/-- A statement in its order, within a round. -/
theorem plain_in {ops : Array Oper} {id : Nat} (hd : noDefer ops = true) (hno : ¬ LetsOut Q) (h : wpList P ops Q ops.toList a w) : (Code.region id ops false).wpIn (Fence.wide.inRound l) n P Q a w :=
  wpIn_region_list (list_in hno _ a w (fun o ho => by
    obtain ⟨i, hi, e⟩ := List.getElem_of_mem ho
    exact defer_at hd (i := i) (by rw [Array.getElem?_eq_getElem (by simpa using hi)]; simpa using e)) h)
/-- region_qtail, within a round: reads, and calls that only read, ahead of a tail of one order. -/
theorem region_qtail_in {l' n' id : Nat} {l : List Oper} (n : Nat) (hm : P.follows .mixedOrders = true) (hd : noDefer l.toArray = true) (hno : ¬ LetsOut Q) (hB : Region.lexTailB .any l.toArray n = true)
    (h : wpQuiet P l.toArray (fun w' => ∃ m, w' = w.drewN m) (fun a' => ∀ w', (∃ m, w' = w.drewN m) → wpList P l.toArray Q (l.drop n) a' w') (l.take n) a) : (Code.region id l.toArray true).wpIn (Fence.wide.inRound l') n' P Q a w :=
  region_in hm hd hno (any_class_tail (C := fun w' => ∃ m, w' = w.drewN m) n hB ⟨1, rfl⟩ h)
end
end Go.Proofs.Ytpdfalgjmeagjaa

/-
  Cuts of slices of bytes, and copy into an array or slice of this call's own, as laws of the walk.
-/
namespace Go.Proofs.Ytpdfalgjmeagjaa
open Go.RowKit
set_option linter.unusedVariables false

theorem Sees.add {w : World} {B : Nat} {A : Option Addr} {xs : List Value} (h : Sees w B A xs) (k : Nat) (hk : k < xs.length) : Sees w B (A.map (·.add k)) (xs.drop k) := by
  obtain ⟨b, o, rfl, hb, hc⟩ := h (by omega)
  rw [Option.map_some, Addr.add_lit]
  exact Sees.drop_ (fun _ => ⟨b, o, rfl, hb, hc⟩) k
end Go.Proofs.Ytpdfalgjmeagjaa
