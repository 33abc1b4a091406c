/-
  An area in memory: its object beside its drive, its records; what its small functions answer; and its erasing.
  What an area's room has, read off its words: the calls wordsOf, read and contentOf, and the closure that is told each record.
  An area's erasing, and its Empty.
  A copy of bytes: slices.Clone.
  What an area's All tells: copies of its records, in memory of their own.
  The words of a record; and an area's Append.
  An area's Open: of a flash that is up, or not; of an area that was being emptied, or not.
-/
import Derived.Test.YtpdfalgjmeagjaaBut3
import Derived.Test.YtpdfalgjmeagjaaAreaPlain
import Derived.Test.YtpdfalgjmeagjaaCalls
import Derived.Test.YtpdfalgjmeagjaaRegion
import Derived.Test.YtpdfalgjmeagjaaPb
import Derived.Test.YtpdfalgjmeagjaaApp1
import Derived.Test.YtpdfalgjmeagjaaSlice
import Derived.Test.YtpdfalgjmeagjaaArr
import Derived.Test.YtpdfalgjmeagjaaRegionJKL
import Derived.Maps.AppendAt
namespace Go.Proofs.Ytpdfalgjmeagjaa
open Go.RowKit
set_option linter.unusedVariables false

theorem derase_n (S : Fl) (f m : Nat) (s : Int) : (S.derase f m s).1.n = S.n := by
  have := Fl.step_n S
  unfold Fl.derase Fl.erase
  split
  · rfl
  · split
    · rfl
    · rfl
    · revert this
      cases S.step with
      | mk T r => cases r <;> exact fun h => h
/-- One element more: where it lies. -/
theorem wpList_one_at {P : Program} {w : World} {ops : Array Oper} {rest : List Oper} {o : Oper} {a : Act} {Q : Exit → Act → World → Prop} (hg : o.guard = none) (s x : Operand) (T e : TypeId) (z : Value) (by_ : Nat)
    (hop : o.op = .call { callee := .builtin .append, args := #[s, x], argTypes := #[T, T] }) (hT : P.underlying T = some (.slice e)) (hI : (P.info? e).map (fun i => (i.zero, i.size, i.bytes)) = some (some z, 1, by_)) (hz : z.cells.size = 1) (hby : by_ ≤ 64)
    (base : Nat) (D : Option Addr) (n c g : Nat) (cur : List Value) (u : Value) (hs : a.eval s = .slice D n c) (hx : a.eval x = .slice (some ⟨g, 0, none⟩) 1 1) (hF : Fresh base e w D n c cur) (hc : w.cell? ⟨g, 0, none⟩ = some u) (h1 : u.oneCell' = true) (hn : n ≤ 1000000) (hb : base ≤ w.heap.size)
    (hK : ∀ A' c' w', Fresh base e w' A' (n + 1) c' (cur ++ [u]) → w.grownBy w' (Value.slice D n c).ownBlock → ((Value.slice A' (n + 1) c').ownBlock = (Value.slice D n c).ownBlock ∨ (Value.slice A' (n + 1) c').ownBlock = some w.heap.size) → wpList P ops Q rest (a.put o.dst (.slice A' (n + 1) c')) w') :
    wpList P ops Q (o :: rest) a w := by
  obtain ⟨i0, hi, h2⟩ := Option.map_eq_some_iff.1 hI
  simp only [Prod.mk.injEq] at h2
  obtain ⟨hz0, hz1, hz2⟩ := h2
  refine wpList_append_own_at w hg s x T hop base e i0 z 1 by_ hT hi hz0 hz1 hz2 hz (by omega) _ n cur hs hF ⟨g, 0, none⟩ 1 1 [u] hx (by simp) (fun j v hj => ?_) (by simpa using h1) (by unfold maxLen; omega) ?_ hb ?_
  · rcases j with _ | j
    · simp at hj
      subst hj
      exact hc
    · simp at hj
  · have : (n + 1) * by_ ≤ (n + 1) * 64 := Nat.mul_le_mul_left _ hby
    omega
  · intro v' w' hown hgr hnil hat
    rcases hown.2 with ⟨rfl, h0⟩ | ⟨g', cap, cu, rfl, _⟩
    · simp at h0
    · exact hK _ cap w' hown hgr hat

/-- The records in memory, each in a block of its own. -/
structure Recs (base : Nat) (w : World) (A : Option Addr) (c : Nat) (ps : List Pb) : Prop where
  row : Fresh base 27 w A ps.length c (ps.map Pb.cell)
  each : ∀ q ∈ ps, Fresh base 5 w q.A q.m q.c (cb q.l)
def arObj (mk : Option Addr) (d : Nat) (x : Ar) (A : Option Addr) (n c : Nat) (over : Bool) : List Value := [.pointer mk, .pointer (some ⟨d, 0, none⟩), .slice A n c, .int .i64 (x.torn : Int), .int .i64 (x.left : Int), .bool over]
/-- An area of a drive of m sectors, from the sector f of its flash on. -/
structure ArAt (base : Nat) (w : World) (mk : Option Addr) (a d p b f m : Nat) (S : Fl) (x : Ar) (over : Bool) (A : Option Addr) (c : Nat) (ps : List Pb) : Prop where
  dr : DrAt base w d p b f m S
  obj : Fresh base 225 w (some ⟨a, 0, none⟩) 6 6 (arObj mk d x A ps.length c over)
  recs : Recs base w A c ps
  is : ps.map Pb.l = x.L
  ok : x.Ok (64 * (m - 1))
  many : 2 ≤ m
/-- Writes nothing that was there but these three blocks, and this one. -/
structure But4 (a p b : Nat) (q : Option Nat) (w w' : World) : Prop where
  os : w'.os = w.os
  tape : w'.tape = w.tape
  output : w'.output = w.output
  size : w.heap.size ≤ w'.heap.size
  keep : ∀ k, k < w.heap.size → k ≠ a → k ≠ p → k ≠ b → q ≠ some k → w'.heap[k]? = w.heap[k]?
section
variable {w w' w'' : World} {base a d p b f m c n : Nat} {mk A : Option Addr} {q q' : Option Nat} {over : Bool} {S S' : Fl} {x : Ar} {ps : List Pb} {e : TypeId} {xs : List Value}
theorem But4.of_but3 (y : But3 a p b w w') (q : Option Nat) : But4 a p b q w w' := ⟨y.os, y.tape, y.output, y.size, fun k h h1 h2 h3 _ => y.keep k h h1 h2 h3⟩
theorem But4.of_but (y : But p b w w') (a : Nat) (q : Option Nat) : But4 a p b q w w' := .of_but3 (.of_but y a) q
theorem But4.of_own (y : But a a w w') (p b : Nat) (q : Option Nat) : But4 a p b q w w' := .of_but3 (.of_own y p b) q
theorem But4.of_below (y : Below w.heap.size w w') (a p b : Nat) (q : Option Nat) : But4 a p b q w w' := .of_but3 (.of_below y a p b) q
theorem But4.of_grown (y : w.grownBy w' q) (a p b : Nat) : But4 a p b q w w' := ⟨y.os, y.tape, y.output, y.size, fun k h _ _ _ h4 => y.block k h (fun e => h4 e.symm)⟩
/-- The block is the same one, or was made since. -/
def OwnOr (w : World) (q q' : Option Nat) : Prop := q' = q ∨ ∀ k, q' = some k → w.heap.size ≤ k
theorem OwnOr.trans {q'' : Option Nat} (h : OwnOr w q q') (hs : w.heap.size ≤ w'.heap.size) (k : OwnOr w' q' q'') : OwnOr w q q'' := by
  rcases k with rfl | k
  · exact h
  · exact .inr fun j e => Nat.le_trans hs (k j e)
theorem But4.then_ (y : But4 a p b q w w') (h : OwnOr w q q') (z : But4 a p b q' w' w'') : But4 a p b q w w'' :=
  ⟨z.os.trans y.os, z.tape.trans y.tape, z.output.trans y.output, Nat.le_trans y.size z.size, fun k h0 h1 h2 h3 h4 => by
    refine (z.keep k (Nat.lt_of_lt_of_le h0 y.size) h1 h2 h3 (fun e => ?_)).trans (y.keep k h0 h1 h2 h3 h4)
    rcases h with h | h
    · exact h4 (h ▸ e)
    · have := h k e
      omega⟩
theorem But4.below {B : Nat} (y : But4 a p b q w w') (ha : B ≤ a) (hp : B ≤ p) (hb : B ≤ b) (hq : ∀ k, q = some k → B ≤ k) (hB : B ≤ w.heap.size) : Below B w w' :=
  ⟨y.os, y.tape, y.output, y.size, fun k h => y.keep k (by omega) (by omega) (by omega) (by omega) (fun e => by have := hq k e; omega)⟩
theorem Fresh.own (h : Fresh base e w A n c xs) {k : Nat} (hk : (Value.slice A n c).ownBlock = some k) : base ≤ k ∧ k < w.heap.size := by
  rcases h.2 with ⟨hv, _⟩ | ⟨g, cap, cur, hv, hb, hg, _⟩
  · rw [hv] at hk
    simp [Value.ownBlock] at hk
  · rw [hv] at hk
    simp [Value.ownBlock] at hk
    subst hk
    exact ⟨hb, (Array.getElem?_eq_some_iff.1 hg).1⟩
/-- A slice stays if its block does. -/
theorem Fresh.stay (h : Fresh base e w A n c xs) (hk : ∀ k, (Value.slice A n c).ownBlock = some k → k < w.heap.size → w'.heap[k]? = w.heap[k]?) : Fresh base e w' A n c xs := by
  refine ⟨h.1, ?_⟩
  rcases h.2 with hn | ⟨g, cap, cur, hv, hb, hg, rest⟩
  · exact .inl hn
  · exact .inr ⟨g, cap, cur, hv, hb, by rw [hk g (by rw [hv]; rfl) (Array.getElem?_eq_some_iff.1 hg).1]; exact hg, rest⟩
/-- A slice's block is not one of another type. -/
theorem Fresh.far {B2 T2 g k : Nat} {ys : List Value} (h : Fresh base e w A n c xs) (h2 : Fresh B2 T2 w (some ⟨g, 0, none⟩) k k ys) (hT : e ≠ T2) : (Value.slice A n c).ownBlock ≠ some g := by
  intro hk
  rcases h.2 with ⟨hv, _⟩ | ⟨g', cap, cur, hv, hb, hg, _⟩
  · rw [hv] at hk
    simp [Value.ownBlock] at hk
  · rw [hv] at hk
    simp [Value.ownBlock] at hk
    subst hk
    have := h2.block.1
    rw [hg] at this
    simp at this
    exact hT this.2
theorem Fresh.differ {B2 T2 g g' k k' : Nat} {xs ys : List Value} (h : Fresh base e w (some ⟨g, 0, none⟩) k k xs) (h2 : Fresh B2 T2 w (some ⟨g', 0, none⟩) k' k' ys) (hT : e ≠ T2) : g ≠ g' := fun he => by
  have h3 := h.block.1
  have h4 := h2.block.1
  rw [he, h4] at h3
  simp at h3
  exact hT h3.2.symm
theorem Recs.below (h : Recs base w A c ps) (y : Below w.heap.size w w') : Recs base w' A c ps := ⟨h.row.below y, fun q hq => (h.each q hq).below y⟩
theorem Recs.lower {base' : Nat} (h : Recs base w A c ps) (y : base' ≤ base) : Recs base' w A c ps := ⟨h.row.lower y, fun q hq => (h.each q hq).lower y⟩
theorem Recs.nil (base : Nat) (w : World) : Recs base w none 0 [] := ⟨fresh_nil _ _ _, by simp⟩
/-- Three blocks of other types are written. -/
theorem Recs.but3 {k1 k2 k3 n1 n2 n3 t1 t2 t3 B1 B2 B3 : Nat} {y1 y2 y3 : List Value} (h : Recs base w A c ps) (y : But3 k1 k2 k3 w w') (h1 : Fresh B1 t1 w (some ⟨k1, 0, none⟩) n1 n1 y1) (h2 : Fresh B2 t2 w (some ⟨k2, 0, none⟩) n2 n2 y2) (h3 : Fresh B3 t3 w (some ⟨k3, 0, none⟩) n3 n3 y3)
    (e1 : 27 ≠ t1 ∧ 27 ≠ t2 ∧ 27 ≠ t3) (e2 : 5 ≠ t1 ∧ 5 ≠ t2 ∧ 5 ≠ t3) : Recs base w' A c ps :=
  ⟨h.row.stay fun k hk hlt => y.keep k hlt (fun e => h.row.far h1 e1.1 (e ▸ hk)) (fun e => h.row.far h2 e1.2.1 (e ▸ hk)) (fun e => h.row.far h3 e1.2.2 (e ▸ hk)),
   fun q hq => (h.each q hq).stay fun k hk hlt => y.keep k hlt (fun e => (h.each q hq).far h1 e2.1 (e ▸ hk)) (fun e => (h.each q hq).far h2 e2.2.1 (e ▸ hk)) (fun e => (h.each q hq).far h3 e2.2.2 (e ▸ hk))⟩
theorem ArAt.lt (h : ArAt base w mk a d p b f m S x over A c ps) : a < w.heap.size ∧ base ≤ a := ⟨(Array.getElem?_eq_some_iff.1 h.obj.block.1).1, h.obj.block.2⟩
theorem ArAt.below (h : ArAt base w mk a d p b f m S x over A c ps) (y : Below w.heap.size w w') : ArAt base w' mk a d p b f m S x over A c ps := ⟨h.dr.below y, h.obj.below y, h.recs.below y, h.is, h.ok, h.many⟩
theorem ArAt.ap (h : ArAt base w mk a d p b f m S x over A c ps) : a ≠ p := h.obj.differ h.dr.nor.obj (by decide)
theorem ArAt.ab (h : ArAt base w mk a d p b f m S x over A c ps) : a ≠ b := h.obj.differ h.dr.nor.row (by decide)
theorem ArAt.ad (h : ArAt base w mk a d p b f m S x over A c ps) : a ≠ d := h.obj.differ h.dr.obj (by decide)
theorem ArAt.cel (h : ArAt base w mk a d p b f m S x over A c ps) : w.cell? ⟨a, 0, none⟩ = some (.pointer mk) ∧ w.cell? ⟨a, 1, none⟩ = some (.pointer (some ⟨d, 0, none⟩)) ∧ w.cell? ⟨a, 2, none⟩ = some (.slice A ps.length c) ∧ w.cell? ⟨a, 3, none⟩ = some (.int .i64 (x.torn : Int)) ∧ w.cell? ⟨a, 4, none⟩ = some (.int .i64 (x.left : Int)) ∧ w.cell? ⟨a, 5, none⟩ = some (.bool over) :=
  ⟨h.obj.cell rfl, h.obj.cell rfl, h.obj.cell rfl, h.obj.cell rfl, h.obj.cell rfl, h.obj.cell rfl⟩
theorem ArAt.z (h : ArAt base w mk a d p b f m S x over A c ps) (j : Nat) : w.frozen? ⟨a, j, none⟩ = false := h.obj.frozenAt
theorem ArAt.sizes (h : ArAt base w mk a d p b f m S x over A c ps) : x.left ≤ 65536 ∧ x.torn ≤ 65536 ∧ ps.length ≤ 65536 ∧ m ≤ 1024 := by
  have h1 := h.ok.many
  have h2 := h.dr.small
  have h3 : ps.length = x.L.length := by rw [← h.is, List.length_map]
  omega
/-- The flash is another one. -/
theorem ArAt.turn (h : ArAt base w mk a d p b f m S x over A c ps) (y : But p b w w') (hD : DrAt base w' d p b f m S') : ArAt base w' mk a d p b f m S' x over A c ps :=
  ⟨hD, h.obj.but y h.ap h.ab, h.recs.but3 (But3.of_but y p) h.dr.nor.obj h.dr.nor.obj h.dr.nor.row ⟨by decide, by decide, by decide⟩ ⟨by decide, by decide, by decide⟩, h.is, h.ok, h.many⟩
/-- The area's own object is written: its last cell. -/
theorem ArAt.setOver (h : ArAt base w mk a d p b f m S x over A c ps) (over' : Bool) : ArAt base (w.setCell ⟨a, 5, none⟩ (.bool over')) mk a d p b f m S x over' A c ps := by
  have y : But a a w (w.setCell ⟨a, 5, none⟩ (.bool over')) := But.set a a a 5 _ (.inl rfl)
  exact ⟨h.dr.other6 y (Ne.symm h.ap) (Ne.symm h.ab) (Ne.symm h.ad), h.obj.store 5 (.bool over'), h.recs.but3 (But3.of_own y a a) h.obj h.obj h.obj ⟨by decide, by decide, by decide⟩ ⟨by decide, by decide, by decide⟩, h.is, h.ok, h.many⟩
theorem ArAt.own (h : ArAt base w mk a d p b f m S x over A c ps) : ∀ k, (Value.slice A ps.length c).ownBlock = some k → base ≤ k := fun k hk => (h.recs.row.own hk).1
theorem But4.low (h : ArAt base w mk a d p b f m S x over A c ps) (hb : base ≤ w.heap.size) (y : But4 a p b (Value.slice A ps.length c).ownBlock w w') : Below base w w' := by
  obtain ⟨-, -, h2, h3⟩ := h.dr.nor.lt
  exact y.below h.lt.2 h2 h3 h.own hb
theorem run_area (a : Nat) (w : World) : (binOp .eql 124 (.pointer (some ⟨a, 0, none⟩)) (.pointer (some ⟨a, 0, none⟩))).run Try.prog w = .ok (.bool true) w := by
  obtain ⟨j, hj⟩ : ∃ j, Try.prog.info? 225 = some j := Option.isSome_iff_exists.1 (by kernel_rfl)
  exact run_eql_ptr_same w (te := 225) ⟨a, 0, none⟩ (by kernel_rfl) hj
theorem isArea_any (h : ArAt base w (some ⟨a, 0, none⟩) a d p b f m S x over A c ps) : Calls Try.prog 150 #[.pointer (some ⟨a, 0, none⟩)] w fun e w' => e = .returned (.bool true) ∧ w' = w := by
  obtain ⟨c0, -⟩ := h.cel
  have hq := run_area a w
  go_enter Try.func150, Try.ntmps150
  go_wp2_with fail
  go_ret
  exact ⟨rfl, rfl⟩
theorem AOver_any (h : ArAt base w (some ⟨a, 0, none⟩) a d p b f m S x over A c ps) : Calls Try.prog 71 #[.pointer (some ⟨a, 0, none⟩)] w fun e w' => e = .returned (.bool over) ∧ w' = w := by
  obtain ⟨-, -, -, -, -, c5⟩ := h.cel
  go_enter Try.func71, Try.ntmps71
  go_wp2_with fail
  refine (isArea_any h).mono ?_
  rintro e w1 ⟨rfl, rfl⟩
  go_wp2_with fail
  go_ret
  exact ⟨rfl, rfl⟩
/-- How many bytes the next record may have. -/
def roomI (l : Nat) : Int := if l < 2 then -1 else if 4 * ((l : Int) - 2) ≤ 4096 then 4 * ((l : Int) - 2) else 4096
theorem ARoom_any (h : ArAt base w (some ⟨a, 0, none⟩) a d p b f m S x over A c ps) (r : Int) (hr : roomI x.left = r) : Calls Try.prog 153 #[.pointer (some ⟨a, 0, none⟩)] w fun e w' => e = .returned (.int .i64 r) ∧ w' = w := by
  obtain ⟨-, -, -, -, c4, -⟩ := h.cel
  obtain ⟨hs, -⟩ := h.sizes
  have hI := isArea_any h
  unfold roomI at hr
  by_cases h1 : x.left < 2
  · rw [if_pos h1] at hr
    subst hr
    have q1 : decide ((x.left : Int) < 2) = true := by simp; omega
    clear hs
    go_enter Try.func153, Try.ntmps153
    go_wp2_with fail
    refine hI.mono ?_
    rintro e w1 ⟨rfl, rfl⟩
    go_wp2_with fail
    go_ret
    exact ⟨rfl, rfl⟩
  · rw [if_neg h1] at hr
    have q1 : decide ((x.left : Int) < 2) = false := by simp; omega
    have e1 : IntKind.i64.wrap ((x.left : Int) - 2) = (x.left : Int) - 2 := wrapI _ (by omega) (by omega)
    have e2 : wrap64 ((x.left : Int) - 2) = (x.left : Int) - 2 := wrap64I _ (by omega) (by omega)
    have e3 : IntKind.i64.wrap (4 * ((x.left : Int) - 2)) = 4 * ((x.left : Int) - 2) := wrapI _ (by omega) (by omega)
    have e4 : wrap64 (4 * ((x.left : Int) - 2)) = 4 * ((x.left : Int) - 2) := wrap64I _ (by omega) (by omega)
    by_cases h2 : 4 * ((x.left : Int) - 2) ≤ 4096
    · rw [if_pos h2] at hr
      subst hr
      clear hs
      go_enter Try.func153, Try.ntmps153
      go_wp2_with fail
      refine hI.mono ?_
      rintro e w1 ⟨rfl, rfl⟩
      go_wp2_with fail
      go_ret
      exact ⟨rfl, rfl⟩
    · rw [if_neg h2] at hr
      subst hr
      have h3 : 4096 < 4 * ((x.left : Int) - 2) := by omega
      clear hs
      go_enter Try.func153, Try.ntmps153
      go_wp2_with fail
      refine hI.mono ?_
      rintro e w1 ⟨rfl, rfl⟩
      go_wp2_with fail
      go_ret
      exact ⟨rfl, rfl⟩
end
end Go.Proofs.Ytpdfalgjmeagjaa
namespace Go.Proofs.Ytpdfalgjmeagjaa
open Go.RowKit
set_option linter.unusedVariables false

/-- 'l[k:]': what is left. -/
theorem run_from32 (A : Option Addr) (n c k : Nat) (hk : k ≤ n) (hc : n ≤ c) :
    ∃ A' : Option Addr, (∀ w, (Instr.slice 54 (.slice A n c) (some (.int .i64 (k : Int))) none none).run Try.prog w = .ok (.slice A' (n - k) (c - k)) w) ∧ ∀ (w : World) (B : Nat) (xs : List Value), xs.length = n → Sees w B A xs → Sees w B A' (xs.drop k) := by
  have hz : ∀ w, (sizeOf (Try.prog.elem 54)).run Try.prog w = .ok 1 w := fun w => by kernel_rfl
  have he : Try.prog.underlying 54 = some (.slice (Try.prog.elem 54)) := by kernel_rfl
  have hr : ∀ w, (Instr.slice 54 (.slice A n c) (some (.int .i64 (k : Int))) none none).run Try.prog w = .ok (sliced A k n c 1) w := fun w => by
    rw [run_slice_l w 54 A n c he .i64 (k : Int) (by omega) (by omega), hz]
    simp only [Result.andThen, Int.toNat_natCast]
  by_cases hkc : k = c
  · subst hkc
    refine ⟨A, fun w => ?_, fun w B xs hl hs => ?_⟩
    · rw [hr]
      cases A <;> simp [sliced]
    · rw [List.drop_of_length_le (by omega)]
      exact Sees.nil
  · refine ⟨A.map (·.add k), fun w => ?_, fun w B xs hl hs => ?_⟩
    · rw [hr]
      cases A <;> simp [sliced, Ne.symm hkc]
    · by_cases hkn : k < n
      · exact hs.add k (by omega)
      · rw [List.drop_of_length_le (by omega)]
        exact Sees.nil
theorem wordsOf_any (k : Nat) (hk : k < 4294967296) (w : World) : Calls Try.prog 211 #[.int .i64 (k : Int)] w fun e w' => e = .returned (.int .i64 (nW k : Int)) ∧ w' = w := by
  have e1 : wrap64 ((k : Int) + 4) = (k : Int) + 4 := wrap64I _ (by omega) (by omega)
  have e1' : IntKind.i64.wrap ((k : Int) + 4) = (k : Int) + 4 := wrapI _ (by omega) (by omega)
  have e2 : wrap64 ((k : Int) + 4 - 1) = (k : Int) + 4 - 1 := wrap64I _ (by omega) (by omega)
  have e2' : IntKind.i64.wrap ((k : Int) + 4 - 1) = (k : Int) + 4 - 1 := wrapI _ (by omega) (by omega)
  have HN : Hid (((nW k : Nat) : Int) = 2 + ((k : Int) + 4 - 1) / 4) := Lib.hid (by unfold nW; omega)
  have e3 : ((k : Int) + 4 - 1).tdiv 4 = ((k : Int) + 4 - 1) / 4 := Int.tdiv_eq_ediv_of_nonneg (by omega)
  have e4 : wrap64 (2 + ((k : Int) + 4 - 1) / 4) = 2 + ((k : Int) + 4 - 1) / 4 := wrap64I _ (by omega) (by omega)
  have e4' : IntKind.i64.wrap (2 + ((k : Int) + 4 - 1) / 4) = 2 + ((k : Int) + 4 - 1) / 4 := wrapI _ (by omega) (by omega)
  go_enter Try.func211, Try.ntmps211
  go_wp2_with fail
  go_ret
  exact ⟨ret_int (by rw [HN.out]), rfl⟩

/-- What was read so far, in a block of its own. -/
structure IsAt (base : Nat) (w : World) (g : Nat) (t : Nat) (l : Int) (A : Option Addr) (c : Nat) (ps : List Pb) : Prop where
  obj : Fresh base 223 w (some ⟨g, 0, none⟩) 3 3 [.slice A ps.length c, .int .i64 (t : Int), .int .i64 l]
  recs : Recs base w A c ps
section
variable {w w' W : World} {base g t c : Nat} {l : Int} {A : Option Addr} {ps : List Pb}
theorem IsAt.below (h : IsAt base w g t l A c ps) (y : Below w.heap.size w w') : IsAt base w' g t l A c ps := ⟨h.obj.below y, h.recs.below y⟩
theorem IsAt.put (h : IsAt base w g t l A c ps) (j : Nat) (u : Value) (t' : Nat) (l' : Int) (hu : ([.slice A ps.length c, .int .i64 (t : Int), .int .i64 l] : List Value).set j u = [.slice A ps.length c, .int .i64 (t' : Int), .int .i64 l']) : IsAt base (w.setCell ⟨g, j, none⟩ u) g t' l' A c ps := by
  have y : But g g w (w.setCell ⟨g, j, none⟩ u) := But.set g g g j u (.inl rfl)
  exact ⟨by rw [← hu]; exact h.obj.store j u, h.recs.but3 (But3.of_own y g g) h.obj h.obj h.obj ⟨by decide, by decide, by decide⟩ ⟨by decide, by decide, by decide⟩⟩
set_option maxRecDepth 100000 in
theorem tell_no (h : IsAt base w g t l A c ps) (ht : t ≤ 65536) (hg : W.heap.size ≤ g) (hB : Below W.heap.size W w) (A1 : Option Addr) (n1 c1 : Nat) :
    Calls Try.prog 208 #[.slice A1 n1 c1, .bool false, .pointer (some ⟨g, 0, none⟩)] w fun e w' => e = .returned (.tuple #[]) ∧ IsAt base w' g (t + 1) l A c ps ∧ Below W.heap.size W w' := by
  have k1 : w.cell? ⟨g, 1, none⟩ = some (.int .i64 (t : Int)) := h.obj.cell rfl
  have kz : w.frozen? ⟨g, 1, none⟩ = false := h.obj.frozenAt
  have e1 : wrap64 ((t : Int) + 1) = (t : Int) + 1 := wrap64I _ (by omega) (by omega)
  go_enter Try.func208, Try.ntmps208
  go_wp2_with fail
  (try simp only [Exit.inBlock, Exit.then])
  refine bodyPost_ret (results_none rfl _ _ _) rfl ?_
  exact ⟨rfl, h.put 1 _ (t + 1) l (by simp), hB.setCell (p := ⟨g, 1, none⟩) hg _⟩
set_option maxHeartbeats 1000000 in
set_option maxRecDepth 100000 in
theorem tell_yes (h : IsAt W.heap.size w g t l A c ps) (hn : ps.length ≤ 65536) (hg : W.heap.size ≤ g) (hB : Below W.heap.size W w) (q : Pb) (hq : Fresh W.heap.size 5 w q.A q.m q.c (cb q.l)) :
    Calls Try.prog 208 #[.slice q.A q.m q.c, .bool true, .pointer (some ⟨g, 0, none⟩)] w fun e w' => ∃ A' c', e = .returned (.tuple #[]) ∧ IsAt W.heap.size w' g t l A' c' (ps ++ [q]) ∧ Below W.heap.size W w' := by
  have k0 : w.cell? ⟨g, 0, none⟩ = some (.slice A ps.length c) := h.obj.cell rfl
  have hbs := hB.size
  have hba := below_alloc w (.cells #[.slice q.A q.m q.c] 27)
  have hI := h.below hba
  have hq2 := hq.below hba
  have hcell : (w.alloc (.cells #[.slice q.A q.m q.c] 27)).cell? ⟨w.heap.size, 0, none⟩ = some (.slice q.A q.m q.c) := by
    rw [World.cell?_alloc_mark]; rfl
  go_enter Try.func208, Try.ntmps208
  go_wp2_with (at_builtin; refine wpList_one rfl (.tmp 12) (.tmp 14) 48 27 (.slice none 0 0) 24 rfl Try.underlying48 (by kernel_rfl) rfl (by omega) A ps.length c w.heap.size (ps.map Pb.cell) (.slice q.A q.m q.c) W rfl rfl hI.recs.row hcell rfl (by omega) (hB.trans (hba.mono (by omega))) ?_; intro A2 c2 w3 hF4 hB4 hgr; have hO3 : Fresh W.heap.size 223 w3 (some ⟨g, 0, none⟩) 3 3 [.slice A ps.length c, .int .i64 (t : Int), .int .i64 l] := World.ownsRow.kept hI.obj hgr (fresh_unlike hI.obj hI.recs.row (by decide)); have k3 : w3.cell? ⟨g, 0, none⟩ = some (.slice A ps.length c) := hO3.cell rfl; have kz3 : w3.frozen? ⟨g, 0, none⟩ = false := hO3.frozenAt)
  go_end0
  have y : But g g w3 (w3.setCell ⟨g, 0, none⟩ (.slice A2 (ps.length + 1) c2)) := But.set g g g 0 _ (.inl rfl)
  have hR3 : Recs W.heap.size w3 A2 c2 (ps ++ [q]) := ⟨by simpa [Pb.cell] using hF4, fun r hr => by
    have hfr : Fresh W.heap.size 5 (w.alloc (.cells #[.slice q.A q.m q.c] 27)) r.A r.m r.c (cb r.l) := by
      rcases List.mem_append.1 hr with h1 | h1
      · exact hI.recs.each r h1
      · simp at h1
        subst h1
        exact hq2
    exact World.ownsRow.kept hfr hgr (fresh_unlike hfr hI.recs.row (by decide))⟩
  have hO4 := hO3.store 0 (.slice A2 (ps.length + 1) c2)
  refine ⟨A2, c2, rfl, ⟨by simpa using hO4, hR3.but3 (But3.of_own y g g) hO3 hO3 hO3 ⟨by decide, by decide, by decide⟩ ⟨by decide, by decide, by decide⟩⟩, hB4.setCell (p := ⟨g, 0, none⟩) hg _⟩
set_option maxHeartbeats 2000000 in
set_option maxRecDepth 100000 in
theorem read_any (h : IsAt W.heap.size w g 0 0 none 0 []) (hg : W.heap.size ≤ g) (hB : Below W.heap.size W w) (A0 : Option Addr) (n0 c0 : Nat) (R : List UInt32) (hs : Sees W W.heap.size A0 (cw R)) (hl : R.length = n0) (hc : n0 ≤ c0) (hn : n0 ≤ 65536) (x : Ar) (hx : scan R [] 0 = x) :
    Calls Try.prog 207 #[.slice A0 n0 c0, .func (.func 208) #[] #[.pointer (some ⟨g, 0, none⟩)]] w fun e w' => ∃ A c ps, e = .returned (.int .i64 (x.left : Int)) ∧ IsAt W.heap.size w' g x.torn 0 A c ps ∧ ps.map Pb.l = x.L ∧ Below W.heap.size W w' := by
  have HX := Lib.hid hx
  have HS := Lib.hid hs
  have HL := Lib.hid hl
  clear hx hs hl
  go_enter Try.func207, Try.ntmps207
  go_wp2_with fail
  go_step3
  go_wp2_with fail
  go_step3
  go_wp2_with fail
  go_loopw [0] (fun lv wr => ∃ (n1 c1 : Nat) (A1 : Option Addr) (r : List UInt32) (t : Nat) (A : Option Addr) (c : Nat) (ps : List Pb), lv = .slice A1 n1 c1 ∧ n1 ≤ c1 ∧ n1 + 2 * ps.length + 2 * t ≤ 65536 ∧ Hid (r.length = n1) ∧ Hid (Sees W W.heap.size A1 (cw r)) ∧ Hid (scan r (ps.map Pb.l) t = x) ∧ IsAt W.heap.size wr g t 0 A c ps ∧ Below W.heap.size W wr) (fun lv _ => match lv with | .slice _ n _ => n | _ => 0)
  case atStart => exact ⟨n0, c0, A0, R, 0, none, 0, [], rfl, hc, by simp; omega, HL, HS, HX, h, hB⟩
  case round =>
    obtain ⟨n1, c1, A1, r, t, A, c, ps, rfl, hc1, hsum, HR, HSW, HSC, hI, hB1⟩ := hrel
    have hbs := hB1.size
    clear HX HS HL h hB
    cases r with
    | nil =>
      obtain rfl : n1 = 0 := by have := HR.out; simpa using this.symm
      obtain rfl : x = ⟨ps.map Pb.l, t, 0⟩ := by have := HSC.out; rw [scan_nil] at this; exact this.symm
      clear HSC HR HSW
      go_wp2_with fail
      (first | go_ret | (rw [Exit.noGoto_ret]; go_ret))
      exact ⟨A, c, ps, rfl, hI, rfl, hB1⟩
    | cons z r =>
      have hrl : r.length + 1 = n1 := by have := HR.out; simpa using this
      obtain ⟨gb, ob, rfl, hgb_, z', HZ, hz', hcz0⟩ := HSW.out.word HR.out (show 0 < n1 by omega)
      obtain rfl : z = z' := by have := HZ.out; simpa using this
      have hcz : wr.cell? ⟨gb, ob, none⟩ = some (.int .u32 (z.toNat : Int)) := (hB1.cell (p := ⟨gb, ob, none⟩) hgb_).trans (by simpa using hcz0)
      have hzn := z.toNat_lt
      have hWo := fun w => wordsOf_any z.toNat (by omega) w
      obtain ⟨N, hN⟩ : ∃ N, nW z.toNat = N := ⟨_, rfl⟩
      rw [hN] at hWo
      have hNb : N = 2 + (z.toNat + 3) / 4 := by rw [← hN]; rfl
      have h0n : 0 < n1 := by omega
      clear hcz0 HZ
      by_cases h1 : z = 4294967295
      · obtain rfl : x = ⟨ps.map Pb.l, t, n1⟩ := by have := HSC.out; rw [h1, scan_ones, hrl] at this; exact this.symm
        have q1 : ((z.toNat : Int) == 4294967295) = true := by rw [h1]; rfl
        clear HSC HR HSW h1 hNb
        go_wp2_with fail
        refine (hWo _).mono ?_
        rintro e w2 ⟨rfl, rfl⟩
        go_wp2_with fail
        (first | go_ret | (rw [Exit.noGoto_ret]; go_ret))
        exact ⟨A, c, ps, rfl, hI, rfl, hB1⟩
      · have q1 : ((z.toNat : Int) == 4294967295) = false := by
          simp only [beq_eq_false_iff_ne, ne_eq]
          intro e
          exact h1 (UInt32.toNat_inj.1 (by rw [show ((4294967295 : UInt32)).toNat = 4294967295 from rfl]; omega))
        by_cases h2 : 4096 < z.toNat
        · obtain rfl : x = ⟨ps.map Pb.l, t, 0⟩ := by have := HSC.out; rw [scan_bad _ _ h1 (.inl h2)] at this; exact this.symm
          have q2 : decide ((4096 : Int) < (z.toNat : Int)) = true := by simp; omega
          clear HSC HR HSW h1 hNb
          go_wp2_with fail
          refine (hWo _).mono ?_
          rintro e w2 ⟨rfl, rfl⟩
          go_wp2_with fail
          (first | go_ret | (rw [Exit.noGoto_ret]; go_ret))
          exact ⟨A, c, ps, rfl, hI, rfl, hB1⟩
        · have q2 : decide ((4096 : Int) < (z.toNat : Int)) = false := by simp; omega
          by_cases h3 : n1 < N
          · obtain rfl : x = ⟨ps.map Pb.l, t, 0⟩ := by have := HSC.out; rw [scan_bad _ _ h1 (.inr (by omega))] at this; exact this.symm
            have q3 : decide ((n1 : Int) < (N : Int)) = true := by simp; omega
            have q3' : decide (n1 < N) = true := by simp; omega
            clear HSC HR HSW h1 hNb
            go_wp2_with fail
            refine (hWo _).mono ?_
            rintro e w2 ⟨rfl, rfl⟩
            go_wp2_with fail
            (first | go_ret | (rw [Exit.noGoto_ret]; go_ret))
            exact ⟨A, c, ps, rfl, hI, rfl, hB1⟩
          · have q3' : decide (n1 < N) = false := by simp; omega
            have hsc := HSC.out
            rw [scan_rec _ _ h1 (by omega) (by omega), hN] at hsc
            obtain ⟨A2, hf1, hsl1⟩ := run_from32 (some ⟨gb, ob, none⟩) n1 c1 1 (by omega) hc1
            obtain ⟨A3, hf2, hsl2⟩ := run_from32 (some ⟨gb, ob, none⟩) n1 c1 N (by omega) hc1
            have hf1' : ∀ w, (Instr.slice 54 (.slice (some ⟨gb, ob, none⟩) n1 c1) (some (.int .i64 1)) none none).run Try.prog w = .ok (.slice A2 (n1 - 1) (c1 - 1)) w := hf1
            have hs2 : Sees W W.heap.size A2 (cw r) := by have := hsl1 W _ _ (by simp; omega) HSW.out; simpa using this
            have hs3 : Sees W W.heap.size A3 (cw (r.drop (N - 1))) := by
              have := hsl2 W _ _ (by simp; omega) HSW.out
              rw [show N = (N - 1) + 1 from by omega] at this
              simpa using this
            have HS3 := Lib.hid hs3
            have hgb : getBytes r (z.toNat : Int) = ((bytesOf r).take z.toNat, 0) := getBytes_some _ _ (by omega)
            have hbl : ((bytesOf r).take z.toNat).length = z.toNat := by rw [List.length_take, len_bytesOf]; omega
            generalize hbs : (bytesOf r).take z.toNat = bs at hgb hbl hsc
            have HBT := Lib.hid (fun (w' : World) (y : Below W.heap.size W w') => Bytes_told (c := c1 - 1) (n := n1 - 1) hgb ((hs2.below y).more y.size) (by omega) hbl (by omega))
            obtain ⟨gl, ol, el, -, u, HU, hu', hcu0⟩ := HSW.out.word HR.out (show N - 1 < n1 by omega)
            obtain ⟨rfl, rfl⟩ : gb = gl ∧ ob = ol := by simpa using el
            have hu2 : r[N - 2]? = some u := by
              have := HU.out
              rw [show N - 1 = (N - 2) + 1 from by omega] at this
              simpa using this
            rw [hu2] at hsc
            have HCU := Lib.hid (fun (w' : World) (y : Below W.heap.size W w') => (y.cell (p := ⟨gb, ob + (N - 1), none⟩) hgb_).trans hcu0)
            have HSC2 := Lib.hid hsc
            have e1 : IntKind.i64.wrap ((N : Int) - 1) = ((N - 1 : Nat) : Int) := by rw [wrapI _ (by omega) (by omega)]; omega
            have e1' : wrap64 ((N : Int) - 1) = ((N - 1 : Nat) : Int) := by rw [wrap64I _ (by omega) (by omega)]; omega
            have hps : ps.length ≤ 65536 := by omega
            have ht : t ≤ 65536 := by omega
            have hrd : (r.drop (N - 1)).length = n1 - N := by rw [List.length_drop]; omega
            have HRD := Lib.hid hrd
            have hlt : N - 1 < n1 := by omega
            have hsum2 : n1 - N + 2 * (ps.length + 1) + 2 * t ≤ 65536 := by omega
            have hsum3 : n1 - N + 2 * ps.length + 2 * (t + 1) ≤ 65536 := by omega
            have hcn : n1 - N ≤ c1 - N := by omega
            have hN1 : N ≤ n1 := by omega
            have hN2 : 2 ≤ N := by omega
            clear hf1 hsl1 hsl2 hs2 hs3 hsc hrd hbl hgb hu2 HU hcu0 el hN hNb h1 h2 h3 HSC HR HSW hrl
            go_wp2_with fail
            refine (hWo _).mono ?_
            rintro e w2 ⟨rfl, rfl⟩
            go_wp2_with fail
            refine (HBT.out w2 hB1).mono ?_
            rintro e w3 ⟨A4, c4, rfl, hF4, hB4⟩
            have hI4 := hI.below hB4
            have hB14 : Below W.heap.size W w3 := hB1.trans (hB4.mono hbs)
            have hcu := HCU.out w3 hB14
            clear hcz hI hWo
            by_cases hu0 : u = 0
            · have q5 : ((u.toNat : Int) == 0) = true := by rw [hu0]; rfl
              have hfin : scan (r.drop (N - 1)) ((ps ++ [(⟨A4, z.toNat, c4, bs⟩ : Pb)]).map Pb.l) t = x := by
                have := HSC2.out
                rw [hu0, if_pos rfl] at this
                simpa using this
              have HFIN := Lib.hid hfin
              clear hfin hu0
              go_wp2_with fail
              refine (tell_yes hI4 hps hg hB14 ⟨A4, z.toNat, c4, bs⟩ (hF4.lower hbs)).mono ?_
              rintro e w4 ⟨A5, c5, rfl, hI5, hB5⟩
              clear hI4 hF4 hB4 hB14
              go_wp2_with fail
              go_roundw
              case rel => exact ⟨n1 - N, c1 - N, A3, r.drop (N - 1), t, A5, c5, ps ++ [⟨A4, z.toNat, c4, bs⟩], rfl, hcn, by simpa using hsum2, HRD, HS3, HFIN, hI5, hB5⟩
              case measure => simp; omega
            · have q5 : ((u.toNat : Int) == 0) = false := by
                simp only [beq_eq_false_iff_ne, ne_eq]
                intro e
                exact hu0 (UInt32.toNat_inj.1 (by rw [show ((0 : UInt32)).toNat = 0 from rfl]; omega))
              have hfin : scan (r.drop (N - 1)) (ps.map Pb.l) (t + 1) = x := by
                have := HSC2.out
                rwa [if_neg (fun e => hu0 (Option.some.inj e))] at this
              have HFIN := Lib.hid hfin
              clear hfin hu0
              go_wp2_with fail
              refine (tell_no hI4 ht hg hB14 A4 z.toNat c4).mono ?_
              rintro e w4 ⟨rfl, hI5, hB5⟩
              clear hI4 hF4 hB4 hB14
              go_wp2_with fail
              go_roundw
              case rel => exact ⟨n1 - N, c1 - N, A3, r.drop (N - 1), t + 1, A, c, ps, rfl, hcn, hsum3, HRD, HS3, HFIN, hI5, hB5⟩
              case measure => simp; omega
theorem zero3a : ((Try.prog.info? 223).map (·.zero)) = some (some (.agg ([.slice none 0 0, .int .i64 0, .int .i64 0] : List Value).toArray)) := by kernel_rfl
set_option maxHeartbeats 1000000 in
set_option maxRecDepth 100000 in
theorem contentOf_any (w : World) (A0 : Option Addr) (n0 c0 : Nat) (R : List UInt32) (hs : Sees w w.heap.size A0 (cw R)) (hl : R.length = n0) (hc : n0 ≤ c0) (hn : n0 ≤ 65536) (x : Ar) (hx : scan R [] 0 = x) :
    Calls Try.prog 194 #[.slice A0 n0 c0] w fun e w' => ∃ A c ps, e = .returned (.agg ([.slice A ps.length c, .int .i64 (x.torn : Int), .int .i64 (x.left : Int)] : List Value).toArray) ∧ Recs w.heap.size w' A c ps ∧ ps.map Pb.l = x.L ∧ Below w.heap.size w w' := by
  have HRD := Lib.hid (fun (w1 w2 : World) (hB1 : Below w.heap.size w w1) (g : Nat) (h : IsAt w1.heap.size w2 g 0 0 none 0 []) (hg : w1.heap.size ≤ g) (hB : Below w1.heap.size w1 w2) => read_any h hg hB A0 n0 c0 R ((hs.below hB1).more hB1.size) hl hc hn x hx)
  clear hx hs hl
  go_enter Try.func194, Try.ntmps194
  go_wp2_with (first
    | (with_reducible refine wpList_alloc (o := ⟨some 2, _, _, _, _, _⟩) rfl 223 rfl [.slice none 0 0, .int .i64 0, .int .i64 0] zero3a 3 rfl (by decide) ?_; intro g0 w1 hg0 hF0 hB0)
    | (with_reducible refine wpList_alloc (o := ⟨some 3, _, _, _, _, _⟩) rfl 223 rfl [.slice none 0 0, .int .i64 0, .int .i64 0] zero3a 3 rfl (by decide) ?_; intro g1 w2 hg1 hF1 hB1))
  refine (HRD.out w1 w2 hB0 g1 ⟨hF1, Recs.nil _ _⟩ hg1 hB1).mono ?_
  rintro e w3 ⟨A, c, ps, rfl, hI3, hps, hB3⟩
  have hF03 := hF0.below hB3
  have k2 : w3.cell? ⟨g1, 2, none⟩ = some (.int .i64 0) := hI3.obj.cell rfl
  have kz2 : w3.frozen? ⟨g1, 2, none⟩ = false := hI3.obj.frozenAt
  have hI4 : IsAt w1.heap.size (w3.setCell ⟨g1, 2, none⟩ (.int .i64 (x.left : Int))) g1 x.torn (x.left : Int) A c ps := hI3.put 2 _ x.torn (x.left : Int) rfl
  have hB4 : Below w1.heap.size w1 (w3.setCell ⟨g1, 2, none⟩ (.int .i64 (x.left : Int))) := hB3.setCell (p := ⟨g1, 2, none⟩) hg1 _
  have hF04 := hF0.below hB4
  have HP := Lib.hid hps
  have hbs := hB0.size
  clear HRD hps hF1 hB1 hI3 hF03 hB3
  go_wp2_with (first
    | (with_reducible refine wpList_load (o := ⟨some 8, _, _, _, _, _⟩) rfl (.tmp 3) 223 rfl g1 0 _ rfl [.slice A ps.length c, .int .i64 (x.torn : Int), .int .i64 (x.left : Int)] 3 rfl (by kernel_rfl) hI4.obj.sees ?_)
    | (with_reducible refine wpList_storeN rfl rfl (.tmp 2) (.tmp 8) 223 rfl g0 0 w.heap.size 223 3 [.slice none 0 0, .int .i64 0, .int .i64 0] [.slice A ps.length c, .int .i64 (x.torn : Int), .int .i64 (x.left : Int)] rfl rfl 3 rfl (by kernel_rfl) hF04 (by omega) (allOne_out rfl) ?_; intro w5 hF5 l1 l2 l3 l4 l5))
  refine bodyPost_cell rfl rfl [.slice A ps.length c, .int .i64 (x.torn : Int), .int .i64 (x.left : Int)] 3 rfl (by kernel_rfl) hF5.sees rfl ⟨A, c, ps, rfl, ?_, HP.out, ?_⟩
  · have y : But g0 g0 (w3.setCell ⟨g1, 2, none⟩ (.int .i64 (x.left : Int))) w5 := ⟨l1, l2, l3, l4, fun k _ h2 _ => l5 k h2⟩
    exact (hI4.recs.lower hbs).but3 (But3.of_own y g0 g0) hF04 hF04 hF04 ⟨by decide, by decide, by decide⟩ ⟨by decide, by decide, by decide⟩
  · have hB04 : Below w.heap.size w (w3.setCell ⟨g1, 2, none⟩ (.int .i64 (x.left : Int))) := hB0.trans (hB4.mono hbs)
    exact ⟨l1.trans hB04.os, l2.trans hB04.tape, l3.trans hB04.output, Nat.le_trans hB04.size l4, fun k hk => (l5 k (by omega)).trans (hB04.block k hk)⟩
end
end Go.Proofs.Ytpdfalgjmeagjaa
namespace Go.Proofs.Ytpdfalgjmeagjaa
open Go.RowKit
set_option linter.unusedVariables false

section
variable {w w' : World} {base a d p b f m c : Nat} {mk A : Option Addr} {over : Bool} {S : Fl} {x : Ar} {ps : List Pb}
theorem ArAt.fl (h : ArAt base w mk a d p b f m S x over A c ps) : But3 a p b w w := .of_own (But.refl _ _ _) p b
set_option maxHeartbeats 2000000 in
set_option maxRecDepth 100000 in
theorem aerase_any (h : ArAt base w mk a d p b f m S x over A c ps) (T : Fl) (r : Nat) (hr : S.aerase f m = (T, r)) :
    Calls Try.prog 151 #[.pointer (some ⟨a, 0, none⟩)] w fun e w' => e = .returned (.int .i64 (r : Int)) ∧ But3 a p b w w' ∧ (r = 0 → ArAt base w' mk a d p b f m T (emptyAr m) over none 0 []) ∧ (r ≠ 0 → ArAt base w' mk a d p b f m T x over A c ps) := by
  have hS := dSectors_any h.dr
  have c1 := h.cel.2.1
  have hm := h.many
  obtain ⟨-, -, -, hm2⟩ := h.sizes
  obtain ⟨M, hM⟩ : ∃ M, m - 1 = M := ⟨_, rfl⟩
  have hr' : (match Fl.erases f m (M - 0) (1 + 0) S with
    | (T, e + 1) => (T, e + 1)
    | (T, 0) => T.derase f m 0) = (T, r) := by rw [← hr]; unfold Fl.aerase; rw [hM]; rfl
  have HR := Lib.hid hr'
  clear hr hr'
  go_enter Try.func151, Try.ntmps151
  go_wp2_with fail
  refine hS.mono ?_
  rintro e w1 ⟨rfl, rfl⟩
  go_wp2_with fail
  go_loopw [12] (fun iv wr => ∃ (k : Nat) (U : Fl), k ≤ M ∧ iv = .int .i64 (k : Int) ∧ ArAt base wr mk a d p b f m U x over A c ps ∧ But p b w1 wr ∧ Hid ((match Fl.erases f m (M - k) (1 + k) U with
    | (T, e + 1) => (T, e + 1)
    | (T, 0) => T.derase f m 0) = (T, r))) (fun iv _ => M - (intOf iv).toNat)
  case atStart => exact ⟨0, S, by omega, rfl, h, But.refl _ _ _, HR⟩
  case round =>
    obtain ⟨k, U, hk, rfl, hA, hB, HU⟩ := hrel
    clear h c1 HR hS
    have c1 := hA.cel.2.1
    by_cases hlt : k < M
    · obtain ⟨V, q, hV⟩ : ∃ V q, U.derase f m ((1 + k : Nat) : Int) = (V, q) := ⟨_, _, rfl⟩
      have hn : V.n = U.n := by have := derase_n U f m ((1 + k : Nat) : Int); rw [hV] at this; exact this
      have hE := dErase_any hA.dr ((1 + k : Nat) : Int) (by omega) V q hV hn
      obtain ⟨k1, hk1⟩ : ∃ k1, 1 + k = k1 := ⟨_, rfl⟩
      have HK1 : Hid (1 + (k : Int) = (k1 : Int)) := Lib.hid (by omega)
      have hu := HU.out
      rw [show M - k = (M - (k + 1)) + 1 from by omega] at hu
      simp only [Fl.erases] at hu
      rw [hV] at hu
      rw [hk1] at hE
      have HU2 := Lib.hid hu
      clear hu hV HU hn hk1
      go_wp2_with fail
      rw [HK1.out]
      refine hE.mono ?_
      rintro e w2 ⟨rfl, hD2, hB2⟩
      have hA2 := hA.turn hB2 hD2
      have hB12 := hB.then_ hB2
      cases q with
      | zero =>
        go_wp2_with fail
        go_roundw
        case rel => exact ⟨k + 1, V, by omega, by go_num, hA2, hB12, Lib.hid (by rw [show 1 + (k + 1) = 1 + k + 1 from rfl]; exact HU2.out)⟩
        case measure => simp [intOf]; omega
      | succ q =>
        have hq : (((q + 1 : Nat) : Int) != 0) = true := by simp; omega
        have hu := HU2.out
        simp only [Prod.mk.injEq] at hu
        obtain ⟨rfl, rfl⟩ := hu
        clear HU2
        go_wp2_with fail
        go_ret
        exact ⟨rfl, But3.of_but hB12 a, fun e => by omega, fun _ => hA2⟩
    · obtain rfl : k = M := by omega
      have hu := HU.out
      rw [Nat.sub_self] at hu
      simp only [Fl.erases] at hu
      have hn : T.n = U.n := by have := derase_n U f m 0; rw [hu] at this; exact this
      have hE := dErase_any hA.dr 0 (by omega) T r hu hn
      obtain ⟨N, hN⟩ : ∃ N, 64 * m = N := ⟨_, rfl⟩
      obtain ⟨L, hL⟩ : ∃ L, 64 * (m - 1) = L := ⟨_, rfl⟩
      have HNL : Hid ((N : Int) - 64 = (L : Int)) := Lib.hid (by omega)
      have hNb : 64 ≤ N ∧ N ≤ 65536 := by omega
      obtain ⟨hNb1, hNb2⟩ := hNb
      have HSZ := Lib.hid (fun (w' : World) (y : DrAt base w' d p b f m T) => dSize_any y N hN)
      have HL := Lib.hid hL
      clear HU hu hn hN hL hlt
      go_wp2_with fail
      refine hE.mono ?_
      rintro e w2 ⟨rfl, hD2, hB2⟩
      have hA2 := hA.turn hB2 hD2
      have hB12 := hB.then_ hB2
      cases r with
      | succ r =>
        have hq : (((r + 1 : Nat) : Int) != 0) = true := by simp; omega
        go_wp2_with fail
        go_ret
        exact ⟨rfl, But3.of_but hB12 a, fun e => by omega, fun _ => hA2⟩
      | zero =>
        have c12 := hA2.cel.2.1
        go_wp2_with fail
        refine (HSZ.out w2 hD2).mono ?_
        rintro e w3 ⟨rfl, rfl⟩
        have hO := hA2.obj
        go_wp2_with (with_reducible refine wpList_storeN rfl rfl (.tmp 43) (.tmp 41) 223 rfl a 2 base 225 6 (arObj mk d x A ps.length c over) [.slice none 0 0, .int .i64 0, .int .i64 ((N : Int) - 64)] rfl rfl 3 rfl (by kernel_rfl) hO (by omega) (allOne_out rfl) ?_; intro w5 hF5 l1 l2 l3 l4 l5)
        go_ret
        have y : But a a w3 w5 := ⟨l1, l2, l3, l4, fun k _ h2 _ => l5 k h2⟩
        refine ⟨rfl, (But3.of_but hB12 a).then_ (.of_own y p b), ⟨hA2.dr.other6 y (Ne.symm hA2.ap) (Ne.symm hA2.ab) (Ne.symm hA2.ad), ?_, Recs.nil _ _, rfl, emptyAr_ok m, hA2.many⟩⟩
        have : splice (arObj mk d x A ps.length c over) 2 [.slice none 0 0, .int .i64 0, .int .i64 ((N : Int) - 64)] = arObj mk d (emptyAr m) none 0 0 over := by rw [HNL.out, ← HL.out]; rfl
        rw [this] at hF5
        exact hF5
/-- What a call leaves: the area, and what it may have written. -/
def AEnd (base : Nat) (w : World) (a d p b f m : Nat) (S : Fl) (x : Ar) (over : Bool) (q : Option Nat) (w' : World) : Prop :=
  ∃ A c ps, ArAt base w' (some ⟨a, 0, none⟩) a d p b f m S x over A c ps ∧ But4 a p b q w w' ∧ OwnOr w q (Value.slice A ps.length c).ownBlock
set_option maxHeartbeats 2000000 in
set_option maxRecDepth 100000 in
theorem AEmpty_any (h : ArAt base w (some ⟨a, 0, none⟩) a d p b f m S x over A c ps) (T : Fl) (r : Nat) (x' : Ar) (over' : Bool) (hr : S.aempty f m x over = (T, r, x', over')) :
    Calls Try.prog 68 #[.pointer (some ⟨a, 0, none⟩)] w fun e w' => e = .returned (.int .i64 (r : Int)) ∧ AEnd base w a d p b f m T x' over' (Value.slice A ps.length c).ownBlock w' := by
  have hI := isArea_any h
  obtain ⟨-, c1, -, -, -, c5⟩ := h.cel
  cases over with
  | true =>
    obtain ⟨rfl, rfl, rfl, rfl⟩ : S = T ∧ 60 = r ∧ x = x' ∧ true = over' := by unfold Fl.aempty at hr; simpa only [Prod.mk.injEq] using hr
    clear hr
    go_enter Try.func68, Try.ntmps68
    go_wp2_with fail
    refine hI.mono ?_
    rintro e w1 ⟨rfl, rfl⟩
    go_wp2_with fail
    go_ret
    exact ⟨rfl, A, c, ps, h, But4.of_but3 h.fl _, .inl rfl⟩
  | false =>
    obtain ⟨V, q, hV⟩ : ∃ V q, S.dwrite f m 0 [0] = (V, q) := ⟨_, _, rfl⟩
    unfold Fl.aempty at hr
    simp only at hr
    rw [hV] at hr
    have hba := below_alloc w (.cells #[.int .u32 0] 22)
    have hA1 := h.below hba
    have hoff : Off p b (w.alloc (.cells #[.int .u32 0] 22)) (some ⟨w.heap.size, 0, none⟩) (cw [0]) := by
      obtain ⟨hp, hb, -, -⟩ := h.dr.nor.lt
      exact Off.fresh (Fresh.new w 22 (cw [0]) 1 rfl (by omega)) (by omega) (by omega)
    have hW := dWrite_any hA1.dr 0 (by omega) 1 1 _ [0] hoff rfl (by omega) V q hV
    have HER := Lib.hid (fun (w' : World) (y : ArAt base w' (some ⟨a, 0, none⟩) a d p b f m V x false A c ps) (T : Fl) (r : Nat) (hr : V.aerase f m = (T, r)) => aerase_any y T r hr)
    have HR := Lib.hid hr
    clear hr hV
    go_enter Try.func68, Try.ntmps68
    go_wp2_with fail
    refine hI.mono ?_
    rintro e w1 ⟨rfl, rfl⟩
    go_wp2_with fail
    refine hW.mono ?_
    rintro e w2 ⟨rfl, hD2, hB2⟩
    have hA2 := hA1.turn hB2 hD2
    have hB12 : But4 a p b (Value.slice A ps.length c).ownBlock w1 w2 := (But4.of_below hba a p b _).then_ (.inl rfl) (But4.of_but hB2 a _)
    cases q with
    | succ q =>
      have hq : (((q + 1 : Nat) : Int) == 0) = false := by simp; omega
      have hq2 : (((q + 1 : Nat) : Int) != 0) = true := by simp; omega
      have hr := HR.out
      simp only [Prod.mk.injEq] at hr
      obtain ⟨rfl, rfl, rfl, rfl⟩ := hr
      have k5 := hA2.cel.2.2.2.2.2
      have kz := hA2.z 5
      clear HER HR
      go_wp2_with fail
      go_ret
      exact ⟨rfl, A, c, ps, hA2.setOver true, hB12.then_ (.inl rfl) (But4.of_own (But.set a a a 5 _ (.inl rfl)) p b _), .inl rfl⟩
    | zero =>
      obtain ⟨X, s, hX⟩ : ∃ X s, V.aerase f m = (X, s) := ⟨_, _, rfl⟩
      have hr := HR.out
      simp only at hr
      rw [hX] at hr
      go_wp2_with fail
      refine (HER.out w2 hA2 X s hX).mono ?_
      rintro e w3 ⟨rfl, hB3, hy, hn⟩
      clear HER HR hX
      have hB13 := hB12.then_ (.inl rfl) (But4.of_but3 hB3 _)
      cases s with
      | zero =>
        simp only [Prod.mk.injEq] at hr
        obtain ⟨rfl, rfl, rfl, rfl⟩ := hr
        have hA3 := hy rfl
        have k5 := hA3.cel.2.2.2.2.2
        have kz := hA3.z 5
        clear hy hn
        go_wp2_with fail
        go_ret
        exact ⟨rfl, none, 0, [], hA3.setOver false, hB13.then_ (.inl rfl) (But4.of_own (But.set a a a 5 _ (.inl rfl)) p b _), .inr fun k e => by simp [Value.ownBlock] at e⟩
      | succ s =>
        simp only [Prod.mk.injEq] at hr
        obtain ⟨rfl, rfl, rfl, rfl⟩ := hr
        have hA3 := hn (by omega)
        have k5 := hA3.cel.2.2.2.2.2
        have kz := hA3.z 5
        have hq2 : (((s + 1 : Nat) : Int) != 0) = true := by simp; omega
        clear hy hn
        go_wp2_with fail
        go_ret
        exact ⟨rfl, A, c, ps, hA3.setOver true, hB13.then_ (.inl rfl) (But4.of_own (But.set a a a 5 _ (.inl rfl)) p b _), .inl rfl⟩
end
end Go.Proofs.Ytpdfalgjmeagjaa
namespace Go.Proofs.Ytpdfalgjmeagjaa
open Go.RowKit
set_option linter.unusedVariables false

theorem isnil8c (A : Option Addr) (n c : Nat) (w : World) : (binOp .eql 27 (.slice A n c) (.slice none 0 0)).run Try.prog w = .ok (.bool A.isNone) w := by
  have he : Try.prog.underlying 27 = some (.slice (Try.prog.elem 27)) := by kernel_rfl
  simp only [binOp]
  simp [Op.equal, Op.maxDepth, Lib.run_equalIn_slice_nil w 9999 27 _ A n c 0 0 he]
set_option maxRecDepth 100000 in
theorem CloneB_any (A : Option Addr) (c n : Nat) (l : List UInt8) (w : World) (hs : Sees w w.heap.size A (cb l)) (hl : l.length = n) (hn : n ≤ 1099511627776) :
    Calls Try.prog 133 #[.slice A n c] w (Made8 w n l) := by
  have HL := Lib.hid hl
  cases A with
  | none =>
    obtain rfl : l = [] := by
      cases l with
      | nil => rfl
      | cons a l =>
        obtain ⟨b, o, h, _⟩ := hs (by simp)
        cases h
    obtain rfl : n = 0 := hl.symm
    clear hl
    have hq := isnil8c none 0 c w
    go_enter Try.func133, Try.ntmps133
    go_wp2_with fail
    go_ret
    exact ⟨none, 0, rfl, fresh_nil _ _ _, Below.refl _ _⟩
  | some ad =>
    clear hl
    have hq := isnil8c (some ad) n c w
    go_enter Try.func133, Try.ntmps133
    go_wp2_with (at_builtin; refine wpList_app8 rfl (.tmp 5) (.tmp 6) rfl (some ⟨w.heap.size, 0, none⟩) (some ad) 0 0 n c [] l w rfl rfl (Fresh.new w 5 [] 0 rfl (by decide)) (hs.step (below_alloc _ _)) HL.out (by omega) (below_alloc _ _) ?_; intro A' c' w1 hF1 hB1)
    go_ret
    exact ⟨A', c', rfl, by simpa using hF1, hB1⟩
end Go.Proofs.Ytpdfalgjmeagjaa
namespace Go.Proofs.Ytpdfalgjmeagjaa
open Go.RowKit
set_option linter.unusedVariables false

theorem infoL8 : (Try.prog.info? 27).map (fun i => (i.zero, i.size, i.bytes)) = some (some (.slice none 0 0), 1, 24) := by kernel_rfl
/-- 'make([][]byte, n)': n slices of nothing in a new block. -/
theorem wpList_mkL8 {w : World} {ops : Array Oper} {rest : List Oper} {o : Oper} {a : Act} {Q : Exit → Act → World → Prop} (hg : o.guard = none) (x : Operand) (hop : o.op = Op.makeSlice 48 x x)
    (n : Nat) (hl : a.eval x = .int .i64 (n : Int)) (hn : n ≤ 1099511627776)
    (hK : ∀ w', Fresh w.heap.size 27 w' (some ⟨w.heap.size, 0, none⟩) n n (List.replicate n (.slice none 0 0)) → Below w.heap.size w w' → wpList Try.prog ops Q rest (a.put o.dst (.slice (some ⟨w.heap.size, 0, none⟩) n n)) w') :
    wpList Try.prog ops Q (o :: rest) a w := by
  obtain ⟨i0, hi, hz0, hz1, hz2⟩ := info_parts infoL8
  refine wpList_make_full w hg x x 48 hop w.heap.size 27 i0 (.slice none 0 0) 1 Try.underlying48 hi hz0 hz1 .i64 .i64 (n : Int) (n : Int) n hl hl rfl rfl (by rw [hz2]; omega) (by unfold maxLen; omega) (Nat.le_refl _) ?_
  intro w' h1 h2
  have e : (madeCells (Value.slice none 0 0).cells (n * 1)).toList = List.replicate n (Value.slice none 0 0) := by rw [Nat.mul_one]; exact toList_madeCells_one _ n
  rw [e] at h1
  exact hK w' h1 ((Below.refl _ _).grown h2 (Nat.le_refl _) (by simp))
section
variable {w w' : World} {base a d p b f m c : Nat} {mk A : Option Addr} {over : Bool} {S : Fl} {x : Ar} {ps : List Pb}
theorem Recs.parts (h : Recs base w A c ps) : Parts w A ps.length ps := ⟨h.row.sees, rfl, fun q hq => ⟨(h.each q hq).sees, by simpa using (h.each q hq).len, (h.each q hq).cap.1⟩⟩
theorem ArAt.len (h : ArAt base w mk a d p b f m S x over A c ps) : ∀ q ∈ ps, q.m ≤ 4096 := fun q hq => by
  have h1 := (h.recs.each q hq).len
  have h2 := h.ok.small q.l (by rw [← h.is]; exact List.mem_map_of_mem hq)
  simp at h1
  omega
set_option maxHeartbeats 2000000 in
set_option maxRecDepth 100000 in
theorem All_any (h : ArAt base w (some ⟨a, 0, none⟩) a d p b f m S x over A c ps) :
    Calls Try.prog 74 #[.pointer (some ⟨a, 0, none⟩)] w fun e w' => ∃ A' c' qs, e = .returned (.slice A' qs.length c') ∧ Recs w.heap.size w' A' c' qs ∧ qs.map Pb.l = x.L ∧ Below w.heap.size w w' := by
  have hI := isArea_any h
  have c2 := h.cel.2.2.1
  have hP := h.recs.parts
  have hm := h.len
  obtain ⟨-, -, hn, -⟩ := h.sizes
  have HIS := Lib.hid h.is
  obtain ⟨n, hnn⟩ : ∃ n, ps.length = n := ⟨_, rfl⟩
  rw [hnn] at c2 hP hn
  have HNN := Lib.hid hnn
  clear hnn
  go_enter Try.func74, Try.ntmps74
  go_wp2_with fail
  refine hI.mono ?_
  rintro e w1 ⟨rfl, rfl⟩
  go_wp2_with (with_reducible refine wpList_mkL8 rfl (.tmp 14) rfl n rfl (by omega) ?_; intro w2 hF2 hB2; have c22 := (hB2.cell (p := ⟨a, 2, none⟩) h.lt.1).trans c2)
  have hz1 := h.lt.1
  go_loopw [22] (fun iv wr => ∃ (k : Nat) (qs : List Pb), k ≤ n ∧ iv = .int .i64 (k : Int) ∧ Hid (qs.length = k) ∧ Fresh w1.heap.size 27 wr (some ⟨w1.heap.size, 0, none⟩) n n (qs.map Pb.cell ++ List.replicate (n - k) (.slice none 0 0)) ∧ (∀ q ∈ qs, Fresh w1.heap.size 5 wr q.A q.m q.c (cb q.l)) ∧ Hid (qs.map Pb.l = (ps.take k).map Pb.l) ∧ Below w1.heap.size w1 wr) (fun iv _ => n - (intOf iv).toNat)
  case atStart => exact ⟨0, [], by omega, rfl, Lib.hid rfl, by simpa using hF2, by simp, Lib.hid (by simp), hB2⟩
  case round =>
    obtain ⟨k, qs, hk, rfl, HQ, hF, hR, HL, hB⟩ := hrel
    have hbs := hB.size
    clear hF2 hB2 c22 hI
    by_cases hlt : k < n
    · obtain ⟨g, o, rfl, q, HP, hq, hc⟩ := (hP.step hB).at_ hlt
      have hqm := hm q (List.mem_of_getElem? HP.out)
      go_wp2_with fail
      refine (CloneB_any q.A q.c q.m q.l wr hq.sees hq.len (by omega)).mono ?_
      rintro e w3 ⟨A1, c1, rfl, hF1, hB1⟩
      have hF3 := hF.below hB1
      have k3 : ∃ u, w3.cell? ⟨w1.heap.size, k, none⟩ = some u := by
        have hl := HQ.out
        exact ⟨_, hF3.cell (j := k) (u := .slice none 0 0) (by rw [List.getElem?_append_right (by simp [hl]), List.length_map, hl, Nat.sub_self, List.getElem?_replicate, if_pos (by omega)])⟩
      obtain ⟨u0, hu0⟩ := k3
      have kz : w3.frozen? ⟨w1.heap.size, k, none⟩ = false := hF3.frozenAt
      have y : But w1.heap.size w1.heap.size w3 (w3.setCell ⟨w1.heap.size, k, none⟩ (.slice A1 q.m c1)) := But.set _ _ _ k _ (.inl rfl)
      have hF4 := hF3.store k (.slice A1 q.m c1)
      have hset : (qs.map Pb.cell ++ List.replicate (n - k) (Value.slice none 0 0)).set k (.slice A1 q.m c1) = (qs ++ [(⟨A1, q.m, c1, q.l⟩ : Pb)]).map Pb.cell ++ List.replicate (n - (k + 1)) (Value.slice none 0 0) := by
        have hl := HQ.out
        rw [List.set_append_right _ _ (by simp [hl]), List.length_map, hl, Nat.sub_self, show n - k = (n - (k + 1)) + 1 from by omega, List.replicate_succ, List.set_cons_zero]
        simp [Pb.cell]
      rw [hset] at hF4
      have hR4 : ∀ r ∈ qs ++ [(⟨A1, q.m, c1, q.l⟩ : Pb)], Fresh w1.heap.size 5 (w3.setCell ⟨w1.heap.size, k, none⟩ (.slice A1 q.m c1)) r.A r.m r.c (cb r.l) := fun r hr => by
        have hfr : Fresh w1.heap.size 5 w3 r.A r.m r.c (cb r.l) := by
          rcases List.mem_append.1 hr with h1 | h1
          · exact (hR r h1).below hB1
          · simp at h1
            subst h1
            exact hF1.lower hbs
        exact hfr.stay fun j hj hlt => y.keep j hlt (fun e => hfr.far hF3 (by decide) (e ▸ hj)) (fun e => hfr.far hF3 (by decide) (e ▸ hj))
      have hlen : Hid ((qs ++ [(⟨A1, q.m, c1, q.l⟩ : Pb)]).length = k + 1) := Lib.hid (by rw [List.length_append, HQ.out]; rfl)
      have hmap : Hid ((qs ++ [(⟨A1, q.m, c1, q.l⟩ : Pb)]).map Pb.l = (ps.take (k + 1)).map Pb.l) := Lib.hid (by rw [List.map_append, HL.out, List.take_add_one, HP.out, List.map_append]; rfl)
      have hB4 : Below w1.heap.size w1 (w3.setCell ⟨w1.heap.size, k, none⟩ (.slice A1 q.m c1)) := (Below.then_ hB hB1).setCell (p := ⟨w1.heap.size, k, none⟩) (Nat.le_refl _) _
      clear hset hF hF3 y hR HQ HL hF1 hB hB1
      go_wp2_with fail
      go_roundw
      case rel => exact ⟨k + 1, qs ++ [(⟨A1, q.m, c1, q.l⟩ : Pb)], by omega, by go_num, hlen, hF4, hR4, hmap, hB4⟩
      case measure => simp [intOf]; omega
    · obtain rfl : k = n := by omega
      go_wp2_with fail
      go_ret
      have hl := HQ.out
      refine ⟨some ⟨w1.heap.size, 0, none⟩, k, qs, by rw [hl]; rfl, ⟨?_, hR⟩, ?_, hB⟩
      · rw [Nat.sub_self, List.replicate_zero, List.append_nil] at hF
        rw [hl]
        exact hF
      · rw [HL.out, List.take_of_length_le (by rw [HNN.out]; exact Nat.le_refl _)]
        exact HIS.out
end
end Go.Proofs.Ytpdfalgjmeagjaa
namespace Go.Proofs.Ytpdfalgjmeagjaa
open Go.RowKit
set_option linter.unusedVariables false

section
variable {w : World}
set_option maxHeartbeats 1000000 in
set_option maxRecDepth 100000 in
theorem recordOf_any (A : Option Addr) (n c : Nat) (bs : List UInt8) (hs : Sees w w.heap.size A (cb bs)) (hl : bs.length = n) (hn : n ≤ 4096) :
    Calls Try.prog 152 #[.slice A n c] w (Made32 w (nW n) (recW bs)) := by
  obtain ⟨k, hk⟩ : ∃ k, (n + 3) / 4 = k := ⟨_, rfl⟩
  have hkb : k ≤ 1025 := by omega
  have hnw : nW n = 1 + k + 1 := by rw [← hk]; unfold nW; omega
  have hnm : IntKind.u32.wrap (n : Int) = (n : Int) := by rw [IntKind.wrap_u32]; omega
  have hba := below_alloc w (.cells #[.int .u32 (n : Int)] 22)
  have hz := hba.size
  have hF0 : Fresh w.heap.size 22 (w.alloc (.cells #[.int .u32 (n : Int)] 22)) (some ⟨w.heap.size, 0, none⟩) 1 1 (cw [UInt32.ofNat n]) := by
    have := Fresh.new w 22 (cw [UInt32.ofNat n]) 1 rfl (by omega)
    simpa [cw, ofNat_toNat32 n (by omega)] using this
  have HW := Lib.hid (Words_made (A := A) (c := c) (w := w.alloc (.cells #[.int .u32 (n : Int)] 22)) (hs.step hba) hl hk rfl (by omega))
  have HL := Lib.hid hl
  have HLW : Hid ((words bs).length = k) := Lib.hid (by rw [len_words, hl]; exact hk)
  rw [hnw]
  clear hl hnw hk hs
  go_enter Try.func152, Try.ntmps152
  go_wp2_with fail
  refine HW.out.mono ?_
  rintro e w2 ⟨A2, c2, rfl, hF2, hB2⟩
  have hF02 := hF0.below hB2
  have hB02 := Below.then_ hba hB2
  clear HW hF0 hba hz
  go_wp2_with (at_builtin; first
    | (refine wpList_app32 rfl (.tmp 7) (.tmp 9) rfl (some ⟨w.heap.size, 0, none⟩) A2 1 1 k c2 [UInt32.ofNat n] (words bs) w rfl rfl hF02 hF2.sees HLW.out (by omega) hB02 ?_; intro A3 c3 w3 hF3 hB3; have hba3 := below_alloc w3 (.cells #[.int .u32 0] 22); have hF33 := hF3.below hba3; have hF30 := Fresh.new w3 22 (cw [0]) 1 rfl (by omega))
    | (refine wpList_app32 rfl (.tmp 11) (.tmp 12) rfl A3 (some ⟨w3.heap.size, 0, none⟩) (1 + k) c3 1 1 ([UInt32.ofNat n] ++ words bs) [0] w rfl rfl hF33 hF30.sees rfl (by omega) (Below.then_ hB3 hba3) ?_; intro A4 c4 w4 hF4 hB4))
  go_ret
  refine ⟨A4, c4, rfl, ?_, hB4⟩
  have e : [UInt32.ofNat n] ++ words bs ++ [0] = recW bs := by rw [← HL.out]; rfl
  rw [e] at hF4
  exact hF4
end
theorem getD_setNe (listed : Array Bool) (i j : Nat) (h : i ≠ j) : (listed.setIfInBounds i true).getD j false = listed.getD j false := by
  simp [Array.getD_eq_getD_getElem?, h]
theorem put_other (a : Act) (t s : Nat) (v : Value) (h : t ≠ s) : (a.put (some t) v).tmps[s]? = a.tmps[s]? := by
  simp [Act.put, h]
theorem put_self (a : Act) (t : Nat) (v : Value) (h : t < a.tmps.size) : (a.put (some t) v).tmps[t]? = some v := by
  simp [Act.put, h]
theorem getD_setEq (listed : Array Bool) (i : Nat) (h : i < listed.size) : (listed.setIfInBounds i true).getD i false = true := by
  simp [h]
theorem sizeOf_getD {listed : Array Bool} {i : Nat} (h : listed.getD i true = false) : i < listed.size ∧ listed.getD i false = false := by
  rcases Nat.lt_or_ge i listed.size with h1 | h1
  · refine ⟨h1, ?_⟩
    simp [h1] at h ⊢
    exact h
  · simp [Array.getElem?_eq_none h1] at h
def apFacts (a : Nat) (A A1 : Option Addr) (n c n1 c1 B : Nat) (bs : List UInt8) (k : Nat) (v : Value) (w : World) : Prop :=
  match k with
  | 0 => v = .pointer (some ⟨a, 0, none⟩)
  | 1 => v = .pointer (some ⟨a, 0, none⟩)
  | 2 => v = .pointer (some ⟨a, 0, none⟩)
  | 3 => v = .pointer (some ⟨a, 2, none⟩)
  | 4 => v = .pointer (some ⟨a, 2, none⟩)
  | 5 => v = .slice A n c
  | 6 => v = .slice A1 n1 c1
  | 7 => ∃ q cq, v = .slice q n1 cq ∧ Fresh B 5 w q n1 cq (cb bs)
  | 8 => ∃ q cq g, v = .slice (some ⟨g, 0, none⟩) 1 1 ∧ Fresh B 5 w q n1 cq (cb bs) ∧ Fresh B 27 w (some ⟨g, 0, none⟩) 1 1 [.slice q n1 cq]
  | 10 => v = .pointer (some ⟨a, 0, none⟩)
  | 11 => v = .pointer (some ⟨a, 2, none⟩)
  | 12 => v = .pointer (some ⟨a, 2, none⟩)
  | _ => True
theorem apFacts_keep {a : Nat} {A A1 : Option Addr} {n c n1 c1 B : Nat} {bs : List UInt8} {w w' : World} (hk : ∀ k, B ≤ k → k < w.heap.size → w'.heap[k]? = w.heap[k]?) : ∀ k v, apFacts a A A1 n c n1 c1 B bs k v w → apFacts a A A1 n c n1 c1 B bs k v w' := by
  intro k v h
  have st : ∀ {e : TypeId} {q : Option Addr} {m cq : Nat} {xs : List Value}, Fresh B e w q m cq xs → Fresh B e w' q m cq xs := fun hf => hf.stay fun k hk1 hk2 => hk k (hf.own hk1).1 hk2
  unfold apFacts at *
  split at h <;> first | exact h | (obtain ⟨q, cq, h1, h2⟩ := h; exact ⟨q, cq, h1, st h2⟩) | (obtain ⟨q, cq, g, h1, h2, h3⟩ := h; exact ⟨q, cq, g, h1, st h2, st h3⟩) | trivial
/-- Behind the records' growing; its new slice laid down, or not yet. -/
structure Grown (base a d p b f m : Nat) (w3 : World) (S : Fl) (x : Ar) (A : Option Addr) (c : Nat) (ps : List Pb) (A' : Option Addr) (c' : Nat) (q : Pb) (done : Bool) (w : World) : Prop where
  dr : DrAt base w d p b f m S
  obj : Fresh base 225 w (some ⟨a, 0, none⟩) 6 6 (match done with | true => arObj (some ⟨a, 0, none⟩) d x A' (ps.length + 1) c' false | false => arObj (some ⟨a, 0, none⟩) d x A ps.length c false)
  row : Fresh base 27 w A' (ps.length + 1) c' ((ps ++ [q]).map Pb.cell)
  each : ∀ r ∈ ps ++ [q], Fresh base 5 w r.A r.m r.c (cb r.l)
  but : But4 a p b (Value.slice A ps.length c).ownBlock w3 w
  own : OwnOr w3 (Value.slice A ps.length c).ownBlock (Value.slice A' (ps.length + 1) c').ownBlock
def apJ (base a d p b f m : Nat) (w3 : World) (S : Fl) (x : Ar) (A : Option Addr) (c : Nat) (ps : List Pb) (n1 : Nat) (bs : List UInt8) (listed : Array Bool) (act : Act) (w : World) : Prop :=
  w3.heap.size ≤ w.heap.size ∧ (listed.getD 9 false = false → Below w3.heap.size w3 w) ∧
  (listed.getD 9 false = true → ∃ A' c' q cq, act.tmps[59]? = some (.slice A' (ps.length + 1) c') ∧ Grown base a d p b f m w3 S x A c ps A' c' ⟨q, n1, cq, bs⟩ (listed.getD 13 false) w) ∧
  (listed.getD 9 false = true → listed.getD 5 false = true ∧ listed.getD 7 false = true) ∧ (listed.getD 13 false = true → listed.getD 9 false = true)
section
variable {w w' w3 : World} {base a d p b f m c c' n1 : Nat} {A A' : Option Addr} {S : Fl} {x : Ar} {ps : List Pb} {q : Pb} {done : Bool} {bs : List UInt8} {listed : Array Bool} {act : Act}
theorem Grown.below (h : Grown base a d p b f m w3 S x A c ps A' c' q done w) (y : Below w.heap.size w w') : Grown base a d p b f m w3 S x A c ps A' c' q done w' :=
  ⟨h.dr.below y, h.obj.below y, h.row.below y, fun r hr => (h.each r hr).below y, h.but.then_ (.inl rfl) (.of_below y a p b _), h.own⟩
theorem apJ.below (h : apJ base a d p b f m w3 S x A c ps n1 bs listed act w) (y : Below w.heap.size w w') : apJ base a d p b f m w3 S x A c ps n1 bs listed act w' := by
  obtain ⟨h1, h2, h3, h4⟩ := h
  refine ⟨Nat.le_trans h1 y.size, fun e => (h2 e).trans (y.mono h1), fun e => ?_, h4⟩
  obtain ⟨A', c', q, cq, e1, e2⟩ := h3 e
  exact ⟨A', c', q, cq, e1, e2.below y⟩
theorem apJ.other (h : apJ base a d p b f m w3 S x A c ps n1 bs listed act w) (i t : Nat) (v : Value) (hi : i ≠ 9) (hi2 : i ≠ 13) (ht : t ≠ 59) : apJ base a d p b f m w3 S x A c ps n1 bs (listed.setIfInBounds i true) (act.put (some t) v) w := by
  obtain ⟨h1, h2, h3, h4, h5⟩ := h
  have up : ∀ j, listed.getD j false = true → (listed.setIfInBounds i true).getD j false = true := fun j hj => by
    by_cases e : i = j
    · subst e
      exact getD_setEq _ _ (by
        rcases Nat.lt_or_ge i listed.size with h1 | h1
        · exact h1
        · simp [Array.getElem?_eq_none h1] at hj)
    · rw [getD_setNe _ _ _ e]; exact hj
  refine ⟨h1, ?_, ?_, ?_, ?_⟩
  · rw [getD_setNe _ _ _ hi]
    exact h2
  · rw [getD_setNe _ _ _ hi, getD_setNe _ _ _ hi2, put_other _ _ _ _ ht]
    exact h3
  · rw [getD_setNe _ _ _ hi]
    exact fun e => ⟨up 5 (h4 e).1, up 7 (h4 e).2⟩
  · rw [getD_setNe _ _ _ hi, getD_setNe _ _ _ hi2]
    exact h5
theorem apJ.not9 (h : apJ base a d p b f m w3 S x A c ps n1 bs listed act w) (hn : listed.getD 5 true = false ∨ listed.getD 7 true = false) : listed.getD 9 false = false := by
  cases e : listed.getD 9 false
  · rfl
  · obtain ⟨k1, k2⟩ := h.2.2.2.1 e
    rcases hn with hn | hn
    · rw [(sizeOf_getD hn).2] at k1; cases k1
    · rw [(sizeOf_getD hn).2] at k2; cases k2
/-- Of other types: they stay. -/
theorem DrAt.grows {row : Option Nat} {B n cc : Nat} {R : Option Addr} {ys : List Value} (h : DrAt base w d p b f m S) (hg : w.grownBy w' row) (hR : Fresh B 27 w R n cc ys) (hrow : row = (Value.slice R n cc).ownBlock) : DrAt base w' d p b f m S := by
  subst hrow
  exact ⟨⟨World.ownsRow.kept h.nor.obj hg (fresh_unlike h.nor.obj hR (by decide)), World.ownsRow.kept h.nor.row hg (fresh_unlike h.nor.row hR (by decide)), h.nor.ne, h.nor.n_le, h.nor.left_le⟩, World.ownsRow.kept h.obj hg (fresh_unlike h.obj hR (by decide)), h.fits, h.some_⟩
theorem Grown.lay (h : Grown base a d p b f m w3 S x A c ps A' c' q false w) (hap : a ≠ p) (hab : a ≠ b) (had : a ≠ d) : Grown base a d p b f m w3 S x A c ps A' c' q true (w.setCell ⟨a, 2, none⟩ (.slice A' (ps.length + 1) c')) := by
  have y : But a a w (w.setCell ⟨a, 2, none⟩ (.slice A' (ps.length + 1) c')) := But.set a a a 2 _ (.inl rfl)
  exact ⟨h.dr.other6 y (Ne.symm hap) (Ne.symm hab) (Ne.symm had), h.obj.store 2 _, h.row.stay fun k hk hlt => y.keep k hlt (fun e => h.row.far h.obj (by decide) (e ▸ hk)) (fun e => h.row.far h.obj (by decide) (e ▸ hk)),
    fun r hr => (h.each r hr).stay fun k hk hlt => y.keep k hlt (fun e => (h.each r hr).far h.obj (by decide) (e ▸ hk)) (fun e => (h.each r hr).far h.obj (by decide) (e ▸ hk)), h.but.then_ h.own (But4.of_own y p b _), h.own⟩
end
section
variable {w w' : World} {base a d p b f m c : Nat} {mk A : Option Addr} {over : Bool} {S : Fl} {x : Ar} {ps : List Pb}
set_option maxHeartbeats 4000000 in
set_option maxRecDepth 100000 in
theorem AAppend_any (h : ArAt base w (some ⟨a, 0, none⟩) a d p b f m S x over A c ps) (hbase : base ≤ w.heap.size) (A1 : Option Addr) (n1 c1 : Nat) (bs : List UInt8) (hin : Off p b w A1 (cb bs)) (hl : bs.length = n1) (hn63 : n1 ≤ 9223372036854775807) (T : Fl) (r : Nat) (x' : Ar) (over' : Bool) (hr : S.aappend f m x over bs = (T, r, x', over')) :
    Calls Try.prog 70 #[.pointer (some ⟨a, 0, none⟩), .slice A1 n1 c1] w fun e w' => e = .returned (.int .i64 (r : Int)) ∧ AEnd base w a d p b f m T x' over' (Value.slice A ps.length c).ownBlock w' := by
  have hI := isArea_any h
  obtain ⟨-, k1, k2, -, k4, k5⟩ := h.cel
  unfold Fl.aappend at hr
  rw [hl] at hr
  cases over with
  | true =>
    obtain ⟨rfl, rfl, rfl, rfl⟩ : S = T ∧ 60 = r ∧ x = x' ∧ true = over' := by simpa only [Prod.mk.injEq] using hr
    clear hr hn63
    go_enter Try.func70, Try.ntmps70
    go_wp2_with fail
    refine hI.mono ?_
    rintro e w1 ⟨rfl, rfl⟩
    go_wp2_with fail
    go_ret
    exact ⟨rfl, A, c, ps, h, But4.of_but3 h.fl _, .inl rfl⟩
  | false =>
    simp only at hr
    by_cases hbig : 4096 < n1
    · rw [if_pos hbig] at hr
      obtain ⟨rfl, rfl, rfl, rfl⟩ : S = T ∧ 3 = r ∧ x = x' ∧ false = over' := by simpa only [Prod.mk.injEq] using hr
      have q1 : decide ((4096 : Int) < (n1 : Int)) = true := by simp; omega
      clear hr hn63 hbig
      go_enter Try.func70, Try.ntmps70
      go_wp2_with fail
      refine hI.mono ?_
      rintro e w1 ⟨rfl, rfl⟩
      go_wp2_with fail
      go_ret
      exact ⟨rfl, A, c, ps, h, But4.of_but3 h.fl _, .inl rfl⟩
    · have q1 : decide ((4096 : Int) < (n1 : Int)) = false := by simp; omega
      rw [if_neg hbig] at hr
      have hR := recordOf_any (w := w) A1 n1 c1 bs hin.sees hl (by omega)
      obtain ⟨N, hN⟩ : ∃ N, nW n1 = N := ⟨_, rfl⟩
      rw [hN] at hr hR
      have hNb : N ≤ 1026 := by rw [← hN]; unfold nW; omega
      have hrl : (recW bs).length = N := by rw [len_recW, hl, hN]
      have HRL := Lib.hid hrl
      obtain ⟨hxl, -, hpl, hmm⟩ := h.sizes
      by_cases hfull : x.left < N
      · rw [if_pos hfull] at hr
        obtain ⟨rfl, rfl, rfl, rfl⟩ : S = T ∧ 5 = r ∧ x = x' ∧ false = over' := by simpa only [Prod.mk.injEq] using hr
        have q2 : decide ((x.left : Int) < (N : Int)) = true := by simp; omega
        have q2' : decide (x.left < N) = true := by simp; omega
        clear hr hn63 hbig hN hrl
        go_enter Try.func70, Try.ntmps70
        go_wp2_with fail
        refine hI.mono ?_
        rintro e w1 ⟨rfl, rfl⟩
        go_wp2_with fail
        refine hR.mono ?_
        rintro e w2 ⟨A2, c2, rfl, hF2, hB2⟩
        have hA2 := h.below hB2
        have k42 := hA2.cel.2.2.2.2.1
        go_wp2_with fail
        go_ret
        exact ⟨rfl, A, c, ps, hA2, But4.of_below hB2 a p b _, .inl rfl⟩
      · rw [if_neg hfull] at hr
        have q2 : decide ((x.left : Int) < (N : Int)) = false := by simp; omega
        have q2' : decide (x.left < N) = false := by simp; omega
        obtain ⟨Z, hZ⟩ : ∃ Z, 64 * m = Z := ⟨_, rfl⟩
        obtain ⟨Y, hY⟩ : ∃ Y, 64 * m - x.left = Y := ⟨_, rfl⟩
        rw [hY] at hr
        obtain ⟨V, q, hV⟩ : ∃ V q, S.dwrite f m (Y : Int) (recW bs) = (V, q) := ⟨_, _, rfl⟩
        rw [hV] at hr
        have HR := Lib.hid hr
        have hle : x.left ≤ Z := by have := h.ok.many; omega
        have HY : Hid ((Z : Int) - (x.left : Int) = (Y : Int)) := Lib.hid (by omega)
        have hZb : Z ≤ 65536 := by omega
        have HSZ := Lib.hid (fun (w' : World) (y : DrAt base w' d p b f m S) => dSize_any y Z hZ)
        have HV := Lib.hid hV
        have HB := Lib.hid hl
        have hYb : Y ≤ 65536 := by omega
        clear hr hV hN hrl hZ hY hl hn63
        go_enter Try.func70, Try.ntmps70
        go_wp2_with fail
        refine hI.mono ?_
        rintro e w1 ⟨rfl, rfl⟩
        go_wp2_with fail
        refine hR.mono ?_
        rintro e w2 ⟨A2, c2, rfl, hF2, hB2⟩
        have hA2 := h.below hB2
        have hin2 := hin.step (But.of_below hB2)
        obtain ⟨-, k12, -, -, k42, -⟩ := hA2.cel
        have hq1 := fun nq => HSZ.out (w2.drewN nq) (hA2.dr.below (below_drewN' (Below.refl _ _) nq))
        clear hI hR k1 k2 k4 k5 HSZ
        go_wp2_with fail
        refine region_qtail 16 (by kernel_rfl) (by kernel_rfl) ?_
        simp only [List.take_succ_cons, List.take_zero, List.drop_succ_cons, List.drop_zero]
        repeat (go_big_quiet_step ((go_at_call 117; exact Calls.quiet_of_same (hq1 _))))
        refine wpQuiet_nil ?_
        rintro _ ⟨nq, rfl⟩
        have hBq := below_drewN' (Below.refl w2.heap.size w2) nq
        have hoff : Off p b (w2.drewN nq) A2 (cw (recW bs)) := by
          obtain ⟨hp, hb, -, -⟩ := h.dr.nor.lt
          exact fun w' y => ((hF2.below hBq).butC y hp hb).sees
        have hA3 := hA2.below hBq
        have hWr := dWrite_any hA3.dr (Y : Int) (by omega) N c2 A2 (recW bs) hoff HRL.out hF2.cap.1 V q HV.out
        go_wp2_with fail
        rw [HY.out]
        refine hWr.mono ?_
        rintro e w3 ⟨rfl, hD3, hB3⟩
        have hA4 := hA3.turn hB3 hD3
        have hB13 : But4 a p b (Value.slice A ps.length c).ownBlock w1 w3 := (But4.of_below (Below.then_ hB2 hBq) a p b _).then_ (.inl rfl) (But4.of_but hB3 a _)
        have hin3 := (hin2.step (But.of_below hBq)).step hB3
        have hin4 := hin3.sees
        clear hA3 hA2 hin2 hin3 hoff hF2 k12 k42 hWr hD3 hq1 HV
        cases q with
        | succ q =>
          have hq2 : (((q + 1 : Nat) : Int) != 0) = true := by simp; omega
          have hr := HR.out
          simp only [Prod.mk.injEq] at hr
          obtain ⟨rfl, rfl, rfl, rfl⟩ := hr
          have k5 := hA4.cel.2.2.2.2.2
          have kz := hA4.z 5
          clear HR
          go_wp2_with fail
          go_ret
          exact ⟨rfl, A, c, ps, hA4.setOver true, hB13.then_ (.inl rfl) (But4.of_own (But.set a a a 5 _ (.inl rfl)) p b _), .inl rfl⟩
        | zero =>
          have hr := HR.out
          simp only [Prod.mk.injEq] at hr
          obtain ⟨rfl, rfl, rfl, rfl⟩ := hr
          obtain ⟨-, -, k2, -, k4, -⟩ := hA4.cel
          clear HR
          go_wp2_with fail
          have hF9 := hA4.recs.row
          refine region_L (apFacts a A A1 ps.length c n1 c1 w3.heap.size bs) (apJ base a d p b f m w3 V x A c ps n1 bs) (by kernel_rfl) (by kernel_rfl) ⟨Nat.le_refl _, fun _ => ⟨rfl, rfl, rfl, Nat.le_refl _, fun _ _ => rfl⟩, fun h => (by rw [getD_replicate_false] at h; cases h), fun h => (by rw [getD_replicate_false] at h; cases h), fun h => (by rw [getD_replicate_false] at h; cases h)⟩ ?_ ?_
          · refine ⟨?_, ?_, ?_, ?_, ?_, ?_, ?_, ?_, ?_, ?_, ?_, ?_, ?_, ?_, trivial⟩
            all_goals intro listed a1 w' hk h1 hd
            · have f0_ : a1.eval (.tmp 0) = .pointer (some ⟨a, 0, none⟩) := hk.ev_old 0 (by kernel_rfl)
              have g0_ : a1.tmps[0]?.getD undef = .pointer (some ⟨a, 0, none⟩) := by simpa [Act.eval] using f0_
              exact stepL_value rfl (v := .pointer (some ⟨a, 0, none⟩)) (by go_simp) rfl (hk.inv.other 0 50 _ (by omega) (by omega) (by omega))
            · have f0_ : a1.eval (.tmp 0) = .pointer (some ⟨a, 0, none⟩) := hk.ev_old 0 (by kernel_rfl)
              have g0_ : a1.tmps[0]?.getD undef = .pointer (some ⟨a, 0, none⟩) := by simpa [Act.eval] using f0_
              exact stepL_value rfl (v := .pointer (some ⟨a, 0, none⟩)) (by go_simp) rfl (hk.inv.other 1 51 _ (by omega) (by omega) (by omega))
            · obtain ⟨v1, e1, q1, rfl, l1⟩ := hk.ev_new hd 1 51 (by kernel_rfl) rfl
              exact stepL_value rfl (v := .pointer (some ⟨a, 0, none⟩)) (by go_simp) rfl (hk.inv.other 2 52 _ (by omega) (by omega) (by omega))
            · obtain ⟨v1, e1, q1, rfl, l1⟩ := hk.ev_new hd 2 52 (by kernel_rfl) rfl
              exact stepL_value rfl (v := .pointer (some ⟨a, 2, none⟩)) (by go_simp) rfl (hk.inv.other 3 53 _ (by omega) (by omega) (by omega))
            · obtain ⟨v1, e1, q1, rfl, l1⟩ := hk.ev_new hd 3 53 (by kernel_rfl) rfl
              exact stepL_value rfl (v := .pointer (some ⟨a, 2, none⟩)) (by go_simp) rfl (hk.inv.other 4 54 _ (by omega) (by omega) (by omega))
            · obtain ⟨v1, e1, q1, rfl, l1⟩ := hk.ev_new hd 4 54 (by kernel_rfl) rfl
              have n9 := hk.inv.not9 (.inl h1)
              have cc : w'.cell? ⟨a, 2, none⟩ = some (.slice A ps.length c) := ((hk.inv.2.1 n9).cell (p := ⟨a, 2, none⟩) hA4.lt.1).trans k2
              exact stepL_value rfl (v := .slice A ps.length c) (by go_simp) rfl (hk.inv.other 5 55 _ (by omega) (by omega) (by omega))
            · have f0_ : a1.eval (.tmp 1) = .slice A1 n1 c1 := hk.ev_old 1 (by kernel_rfl)
              have g0_ : a1.tmps[1]?.getD undef = .slice A1 n1 c1 := by simpa [Act.eval] using f0_
              exact stepL_value rfl (v := .slice A1 n1 c1) (by go_simp) rfl (hk.inv.other 6 56 _ (by omega) (by omega) (by omega))
            · obtain ⟨v1, e1, q1, rfl, l1⟩ := hk.ev_new hd 6 56 (by kernel_rfl) rfl
              have n9 := hk.inv.not9 (.inr h1)
              have hb0 := hk.inv.2.1 n9
              refine stepL_enter rfl (f := 133) (args := #[.slice A1 n1 c1]) (by go_simp) ?_
              refine (CloneB_any A1 c1 n1 bs w' (hin4.step hb0) HB.out (by omega)).mono ?_
              rintro e w5 ⟨q, cq, rfl, hq, hB5⟩
              exact ⟨_, rfl, ⟨q, cq, rfl, hq.lower hb0.size⟩, (hk.inv.below hB5).other 7 57 _ (by omega) (by omega) (by omega), apFacts_keep fun k _ hk2 => hB5.block k hk2⟩
            · obtain ⟨v1, e1, q1, hv1, l1⟩ := hk.ev_new hd 7 57 (by kernel_rfl) rfl
              obtain ⟨q, cq, rfl, hq⟩ := hv1
              have hba := below_alloc w' (.cells #[.slice q n1 cq] 27)
              refine stepL_run rfl (v := .slice (some ⟨w'.heap.size, 0, none⟩) 1 1) (w' := w'.alloc (.cells #[.slice q n1 cq] 27)) (by go_simp) ⟨q, cq, w'.heap.size, rfl, hq.below hba, (Fresh.new w' 27 [.slice q n1 cq] 1 rfl (by omega)).lower hk.inv.1⟩ ((hk.inv.below hba).other 8 58 _ (by omega) (by omega) (by omega)) (apFacts_keep fun k _ hk2 => hba.block k hk2)
            · obtain ⟨v5, e5, q5, rfl, l5⟩ := hk.ev_new hd 5 55 (by kernel_rfl) rfl
              obtain ⟨v8, e8, q8, hv8, l8⟩ := hk.ev_new hd 8 58 (by kernel_rfl) rfl
              obtain ⟨q, cq, g, rfl, hq, hg⟩ := hv8
              obtain ⟨v7, e7, q7, hv7, l7⟩ := hk.ev_new hd 7 57 (by kernel_rfl) rfl
              obtain ⟨s9, n9⟩ := sizeOf_getD h1
              have n13 : listed.getD 13 false = false := by
                cases e : listed.getD 13 false
                · rfl
                · rw [hk.inv.2.2.2.2 e] at n9; cases n9
              have hb0 := hk.inv.2.1 n9
              have hsz := hk.inv.1
              have hsz13 := hB13.size
              have hA5 := hA4.below hb0
              have hown0 := fun k hk => (hF9.own (k := k) hk).2
              obtain ⟨i0, hi, hz0, hz1, hz2⟩ := info_parts (show (Try.prog.info? 27).map (fun i => (i.zero, i.size, i.bytes)) = some (some (.slice none 0 0), 1, 24) from by kernel_rfl)
              obtain ⟨v', w5, hr, hown, hgr, hnil, hat⟩ := run_append_own_at (P := Try.prog) w' base 48 48 27 i0 (.slice none 0 0) 1 24 Try.underlying48 hi hz0 hz1 hz2 rfl (by omega) (.slice A ps.length c) ps.length (ps.map Pb.cell) hA5.recs.row ⟨g, 0, none⟩ 1 1 [.slice q n1 cq] rfl (fun j u hj => by
                rcases j with _ | j
                · simp at hj; subst hj; exact hg.cell rfl
                · simp at hj) (by simp; rfl) (by unfold maxLen; omega) (by omega) (by omega)
              obtain ⟨A', c', rfl⟩ : ∃ A' c', v' = .slice A' (ps.length + 1) c' := by
                rcases hown.2 with ⟨rfl, h0⟩ | ⟨g', cap, cu, rfl, _⟩
                · simp at h0
                · exact ⟨_, _, rfl⟩
              have keep8 : ∀ {e : TypeId} {B : Nat} {R : Option Addr} {n cc : Nat} {ys : List Value}, e ≠ 27 → Fresh B e w' R n cc ys → Fresh B e w5 R n cc ys := fun hne hf => World.ownsRow.kept hf hgr (fresh_unlike hf hA5.recs.row hne)
              have hG : Grown base a d p b f m w3 V x A c ps A' c' ⟨q, n1, cq, bs⟩ false w5 := ⟨hA5.dr.grows hgr hA5.recs.row rfl, keep8 (by decide) hA5.obj, by rw [List.map_append]; exact hown, fun r hr => by
                rcases List.mem_append.1 hr with h6 | h6
                · exact keep8 (by decide) (hA5.recs.each r h6)
                · simp at h6
                  subst h6
                  exact keep8 (by decide) (hq.lower (Nat.le_trans hbase hB13.size)), (But4.of_below hb0 a p b _).then_ (.inl rfl) (But4.of_grown hgr a p b), by
                rcases hat with h6 | h6
                · exact .inl h6
                · exact .inr fun k e => by rw [h6] at e; simp at e; omega⟩
              refine stepL_run rfl (v := .slice A' (ps.length + 1) c') (w' := w5) ?_ trivial ⟨Nat.le_trans hsz hgr.size, ?_, fun _ => ⟨A', c', q, cq, put_self _ _ _ (by rw [hk.size]; exact (show (59 : Nat) < 74 by decide)), ?_⟩, fun _ => ?_, fun _ => getD_setEq _ _ s9⟩ (apFacts_keep fun k hB hlt => hgr.block k hlt fun e => by have := hown0 k e.symm; omega)
              · unfold execOp
                simp only [resolve, invoke, builtin, Sem.run_bind, Sem.run_pure, Result.andThen_ok, List.map_toArray, List.map_cons, List.map_nil, e5, e8, hr]
              · intro e
                rw [getD_setEq _ _ s9] at e
                cases e
              · rw [getD_setNe _ _ _ (by omega), n13]
                exact hG
              · rw [getD_setNe _ _ _ (by omega), getD_setNe _ _ _ (by omega)]
                exact ⟨l5, l7⟩
            · obtain ⟨v0, e0, q0, rfl, l0⟩ := hk.ev_new hd 0 50 (by kernel_rfl) rfl
              exact stepL_value rfl (v := .pointer (some ⟨a, 0, none⟩)) (by go_simp) rfl (hk.inv.other 10 60 _ (by omega) (by omega) (by omega))
            · obtain ⟨v0, e0, q0, rfl, l0⟩ := hk.ev_new hd 10 60 (by kernel_rfl) rfl
              exact stepL_value rfl (v := .pointer (some ⟨a, 2, none⟩)) (by go_simp) rfl (hk.inv.other 11 61 _ (by omega) (by omega) (by omega))
            · obtain ⟨v0, e0, q0, rfl, l0⟩ := hk.ev_new hd 11 61 (by kernel_rfl) rfl
              exact stepL_value rfl (v := .pointer (some ⟨a, 2, none⟩)) (by go_simp) rfl (hk.inv.other 12 62 _ (by omega) (by omega) (by omega))
            · obtain ⟨v12, e12, q12, rfl, l12⟩ := hk.ev_new hd 12 62 (by kernel_rfl) rfl
              obtain ⟨v9, e9, q9, -, l9⟩ := hk.ev_new hd 9 59 (by kernel_rfl) rfl
              obtain ⟨s13, n13⟩ := sizeOf_getD h1
              obtain ⟨j1, j2, j3, j4, j5⟩ := hk.inv
              obtain ⟨A', c', q, cq, e59, hG⟩ := j3 l9
              rw [n13] at hG
              rw [q9] at e59
              obtain rfl : v9 = .slice A' (ps.length + 1) c' := by simpa using e59
              have kc : w'.cell? ⟨a, 2, none⟩ = some (.slice A ps.length c) := hG.obj.cell rfl
              have kz : w'.frozen? ⟨a, 2, none⟩ = false := hG.obj.frozenAt
              refine stepL_skip rfl rfl (w' := w'.setCell ⟨a, 2, none⟩ (.slice A' (ps.length + 1) c')) (by go_simp) trivial ⟨by simpa [World.setCell] using j1, ?_, fun _ => ⟨A', c', q, cq, q9, ?_⟩, ?_, ?_⟩ (apFacts_keep fun k hB hlt => setCell_ne _ _ _ _ _ (by have := hA4.lt.1; omega))
              · intro e
                rw [getD_setNe _ _ _ (by omega), l9] at e
                cases e
              · rw [getD_setEq _ _ s13]
                exact hG.lay hA4.ap hA4.ab hA4.ad
              · rw [getD_setNe _ _ _ (by omega), getD_setNe _ _ _ (by omega), getD_setNe _ _ _ (by omega)]
                exact j4
              · intro _
                rw [getD_setNe _ _ _ (by omega)]
                exact l9
          · intro listed a1 w6 hJ hall hp
            obtain ⟨A', c', q, cq, -, hG⟩ := hJ.2.2.1 (hall 9 (by decide))
            rw [hall 13 (by decide)] at hG
            obtain ⟨v0, p0, v1, p1, v2, p2, v3, p3, v4, p4, v5, p5, v6, p6, v7, p7, v8, p8, v9, p9, v10, p10, v11, p11, v12, p12, rfl⟩ := hp
            clear p0 p1 p2 p3 p4 p5 p6 p7 p8 p9 p10 p11 p12 hJ hall
            simp only [Act.put, List.setIfInBounds_toArray, List.set_cons_succ, List.set_cons_zero]
            have k46 : w6.cell? ⟨a, 4, none⟩ = some (.int .i64 (x.left : Int)) := hG.obj.cell rfl
            have kz6 : w6.frozen? ⟨a, 4, none⟩ = false := hG.obj.frozenAt
            have HLF : Hid ((x.left : Int) - (N : Int) = ((x.left - N : Nat) : Int)) := Lib.hid (by omega)
            have hlN : N ≤ x.left := by omega
            clear HLF
            have hO := hG.obj.store 4 (.int .i64 ((x.left : Int) - (N : Int)))
            have y : But a a w6 (w6.setCell ⟨a, 4, none⟩ (.int .i64 ((x.left : Int) - (N : Int)))) := But.set a a a 4 _ (.inl rfl)
            have hlN2 : (x.left : Int) - (N : Int) = ((x.left - N : Nat) : Int) := by omega
            have HLN := Lib.hid hlN2
            have hob : Hid ((arObj (some ⟨a, 0, none⟩) d x A' (ps.length + 1) c' false).set 4 (.int .i64 ((x.left : Int) - (N : Int))) = arObj (some ⟨a, 0, none⟩) d ⟨x.L ++ [bs], x.torn, x.left - N⟩ A' (ps.length + 1) c' false) := Lib.hid (by rw [hlN2]; rfl)
            clear hlN2
            go_wp2_with fail
            go_ret
            have hle2 : bs.length ≤ 4096 := by rw [HB.out]; omega
            have hNn : nW bs.length = N := by have := HRL.out; rw [len_recW] at this; exact this
            have hO2 : Fresh base 225 (w6.setCell ⟨a, 4, none⟩ (.int .i64 ((x.left : Int) - (N : Int)))) (some ⟨a, 0, none⟩) 6 6 (arObj (some ⟨a, 0, none⟩) d ⟨x.L ++ [bs], x.torn, x.left - N⟩ A' (ps.length + 1) c' false) := by
              rw [← hob.out]; exact hO
            have hlen : (ps ++ [(⟨q, n1, cq, bs⟩ : Pb)]).length = ps.length + 1 := by simp
            refine ⟨rfl, A', c', ps ++ [⟨q, n1, cq, bs⟩], ⟨hG.dr.other6 y (Ne.symm hA4.ap) (Ne.symm hA4.ab) (Ne.symm hA4.ad), by rw [hlen]; exact hO2, ⟨?_, fun r hr => ?_⟩, by simp [h.is], ?_, h.many⟩, ?_, ?_⟩
            · rw [hlen]
              exact hG.row.stay fun k hk hlt => y.keep k hlt (fun e => hG.row.far hG.obj (by decide) (e ▸ hk)) (fun e => hG.row.far hG.obj (by decide) (e ▸ hk))
            · exact (hG.each r hr).stay fun k hk hlt => y.keep k hlt (fun e => (hG.each r hr).far hG.obj (by decide) (e ▸ hk)) (fun e => (hG.each r hr).far hG.obj (by decide) (e ▸ hk))
            · have := h.ok.put bs hle2 (by rw [hNn]; exact hlN)
              rw [hNn] at this
              exact this
            · exact hB13.then_ (.inl rfl) (hG.but.then_ hG.own (But4.of_own y p b _))
            · rw [hlen]
              exact OwnOr.trans (.inl rfl) hB13.size hG.own
end
end Go.Proofs.Ytpdfalgjmeagjaa
namespace Go.Proofs.Ytpdfalgjmeagjaa
open Go.RowKit
set_option linter.unusedVariables false

/-- What Open tells. -/
def AOpened (base : Nat) (w : World) (d p b f m : Nat) (T : Fl) (r : Nat) (x : Ar) (e : Ending) (w' : World) : Prop :=
  But p b w w' ∧ ((r = 0 ∧ ∃ a A c ps, e = .returned (.tuple #[.pointer (some ⟨a, 0, none⟩), .int .i64 0]) ∧ ArAt base w' (some ⟨a, 0, none⟩) a d p b f m T x false A c ps ∧ w.heap.size ≤ a ∧ ∀ k, (Value.slice A ps.length c).ownBlock = some k → w.heap.size ≤ k) ∨
    (r ≠ 0 ∧ e = .returned (.tuple #[.pointer none, .int .i64 (r : Int)]) ∧ DrAt base w' d p b f m T))
section
variable {w w' : World} {base d p b f m : Nat} {S : Fl}
theorem Recs.base_le {B : Nat} {A : Option Addr} {c : Nat} {ps : List Pb} (h : Recs B w A c ps) : ∀ k, (Value.slice A ps.length c).ownBlock = some k → B ≤ k := fun k hk => (h.row.own hk).1
set_option maxHeartbeats 2000000 in
set_option maxRecDepth 100000 in
theorem AOpen_any (h : DrAt base w d p b f m S) (hm : 2 ≤ m) (hbase : base ≤ w.heap.size) (T : Fl) (r : Nat) (x : Ar) (hr : S.aopen f m = (T, r, x)) :
    Calls Try.prog 149 #[.pointer (some ⟨d, 0, none⟩)] w (AOpened base w d p b f m T r x) := by
  have hS := dSectors_any h
  obtain ⟨N, hN⟩ : ∃ N, 64 * m = N := ⟨_, rfl⟩
  have hZ := dSize_any h N hN
  have hsm := h.small
  unfold Fl.aopen at hr
  cases hd : S.down with
  | true =>
    rw [hd] at hr
    obtain ⟨rfl, rfl, rfl⟩ : S = T ∧ 40 = r ∧ emptyAr m = x := by simpa only [Prod.mk.injEq] using hr
    have hR := dRead_no h 0 (N : Int) (by omega) (.inr hd)
    rw [show readErr S m 0 (N : Int) = 40 from by unfold readErr; rw [show wordsOk m 0 (N : Int) = true from by simp [wordsOk]; omega]] at hR
    clear hr hN hd
    go_enter Try.func149, Try.ntmps149
    go_wp2_with fail
    refine hS.mono ?_
    rintro e w1 ⟨rfl, rfl⟩
    go_wp2_with fail
    refine hZ.mono ?_
    rintro e w2 ⟨rfl, rfl⟩
    go_wp2_with fail
    refine hR.mono ?_
    rintro e w3 ⟨rfl, rfl⟩
    go_wp2_with fail
    go_ret2
    exact ⟨But.refl _ _ _, .inr ⟨by omega, rfl, h⟩⟩
  | false =>
    rw [hd] at hr
    simp only at hr
    have hR := dRead_at h hd 0 N (by omega)
    have hlen := h.at_len (at_ := 0) (many := N) (by omega)
    obtain ⟨D, hD⟩ : ∃ D, S.at_ f 0 N = D := ⟨_, rfl⟩
    rw [hD] at hR hlen
    have hroom : D.drop 64 = S.room f m := by
      rw [← hD]
      unfold Fl.room Fl.at_
      rw [List.drop_take, List.drop_drop]
      congr 1
      omega
    have hhead : D[0]? = S.ws[64 * f]? := by
      rw [← hD]
      unfold Fl.at_
      rw [List.getElem?_take, if_pos (by omega), List.getElem?_drop]
      congr 1
    obtain ⟨y, hy⟩ : ∃ y, S.alook f m = y := ⟨_, rfl⟩
    have hsc : scan (D.drop 64) [] 0 = y := by rw [hroom]; exact hy
    have hok : y.Ok (64 * (m - 1)) := by rw [← hy]; exact alook_ok (by have := h.fits; omega) h.nor.len (by omega)
    rw [hy] at hr
    have HCO := Lib.hid (fun (w' : World) (A0 : Option Addr) (c0 : Nat) (hs : Sees w' w'.heap.size A0 (cw (D.drop 64))) (hc : N - 64 ≤ c0) => contentOf_any w' A0 (N - 64) c0 (D.drop 64) hs (by rw [List.length_drop, hlen]) hc (by omega) y hsc)
    obtain ⟨u, hu⟩ : ∃ u, D[0]? = some u := ⟨_, List.getElem?_eq_getElem (by omega)⟩
    rw [← hhead, hu] at hr
    have HER := Lib.hid (fun (w' : World) (a : Nat) (A : Option Addr) (c : Nat) (ps : List Pb) (y' : ArAt base w' none a d p b f m S y false A c ps) (T : Fl) (r : Nat) (hr : S.aerase f m = (T, r)) => aerase_any y' T r hr)
    have HR := Lib.hid hr
    have HU := Lib.hid hu
    have HLEN := Lib.hid hlen
    have HOK := Lib.hid hok
    have HM := Lib.hid hm
    have hNb : 128 ≤ N := by omega
    have hNc : N ≤ 65536 := by omega
    have hyb : y.left ≤ 65536 ∧ y.torn ≤ 65536 := by have := hok.many; omega
    obtain ⟨hyb1, hyb2⟩ := hyb
    have hm3 : ¬ ((m : Int) = 0) := by omega
    have hm4 : decide ((m : Int) < 2) = false := by simp; omega
    clear hr hu hlen hok hsc hy hroom hhead hD hd hN hsm hm
    go_enter Try.func149, Try.ntmps149
    go_wp2_with fail
    refine hS.mono ?_
    rintro e w1 ⟨rfl, rfl⟩
    go_wp2_with fail
    refine hZ.mono ?_
    rintro e w2 ⟨rfl, rfl⟩
    go_wp2_with fail
    refine hR.mono ?_
    rintro e w3 ⟨G, rfl, hF3, hB3⟩
    obtain ⟨A2, hf1, hsl1⟩ := run_from32 (some ⟨G, 0, none⟩) N N 64 (by omega) (Nat.le_refl _)
    have hf1' : ∀ w, (Instr.slice 54 (.slice (some ⟨G, 0, none⟩) N N) (some (.int .i64 64)) none none).run Try.prog w = .ok (.slice A2 (N - 64) (N - 64)) w := hf1
    have hs3 : Sees w3 w3.heap.size A2 (cw (D.drop 64)) := by
      have := hsl1 w3 _ _ (by simp; exact HLEN.out) hF3.sees
      simpa using this
    clear hS hZ hR hf1 hsl1
    go_wp2_with fail
    refine (HCO.out w3 A2 (N - 64) hs3 (Nat.le_refl _)).mono ?_
    rintro e w4 ⟨A, c, ps, rfl, hRc, hps, hB4⟩
    have hB24 := Below.then_ hB3 hB4
    have hF4 := hF3.below hB4
    have hD4 := h.below hB24
    have hc0 : w4.cell? ⟨G, 0, none⟩ = some (.int .u32 (u.toNat : Int)) := hF4.cell (j := 0) (by simp [HU.out])
    have hGlt := hF4.lt_size
    have hps2 : ps.map Pb.l = y.L := hps
    have HPS := Lib.hid hps2
    clear HCO hs3 hf1' hps hps2
    by_cases hu0 : u = 0
    · have q5 : ((u.toNat : Int) == 0) = true := by rw [hu0]; rfl
      have hr := HR.out
      rw [hu0, if_pos rfl] at hr
      simp only [Prod.mk.injEq] at hr
      obtain ⟨r1, r2, rfl⟩ := hr
      have hae : S.aerase f m = (T, r) := by rw [← r1, ← r2]
      clear r1 r2 HR
      go_wp2_with (with_reducible refine wpList_box (o := ⟨some 29, _, _, _, _, _⟩) rfl (.tmp 28) 225 rfl (arObj none d y A ps.length c false) rfl 6 rfl (by decide) ?_; intro a w5 ha hFa hBa; have cG : w5.cell? ⟨G, 0, none⟩ = some (.int .u32 (u.toNat : Int)) := (hBa.cell (p := ⟨G, 0, none⟩) hGlt).trans hc0)
      have hB25 := Below.then_ hB24 hBa
      have hA5 : ArAt base w5 none a d p b f m S y false A c ps := ⟨hD4.below hBa, hFa.lower (Nat.le_trans hbase hB24.size), (hRc.below hBa).lower (Nat.le_trans hbase hB3.size), HPS.out, HOK.out, HM.out⟩
      refine (HER.out w5 a A c ps hA5 T r hae).mono ?_
      rintro e w6 ⟨rfl, hB6, hy, hn⟩
      have hbut : But p b w2 w6 := ⟨hB6.os.trans hB25.os, hB6.tape.trans hB25.tape, hB6.output.trans hB25.output, Nat.le_trans hB25.size hB6.size, fun k h1 h2 h3 => (hB6.keep k (Nat.lt_of_lt_of_le h1 hB25.size) (by have := hB24.size; omega) h2 h3).trans (hB25.block k h1)⟩
      clear HER hae cG hc0 hF4
      cases r with
      | zero =>
        have hA6 := hy rfl
        have k0 : w6.cell? ⟨a, 0, none⟩ = some (.pointer none) := hA6.obj.cell rfl
        have kz : w6.frozen? ⟨a, 0, none⟩ = false := hA6.obj.frozenAt
        clear hy hn
        go_wp2_with fail
        go_ret2
        have y2 : But a a w6 (w6.setCell ⟨a, 0, none⟩ (.pointer (some ⟨a, 0, none⟩))) := But.set a a a 0 _ (.inl rfl)
        refine ⟨⟨y2.os.trans hbut.os, y2.tape.trans hbut.tape, y2.output.trans hbut.output, Nat.le_trans hbut.size y2.size, fun k h1 h2 h3 => (y2.keep k (Nat.lt_of_lt_of_le h1 hbut.size) (by have := hB24.size; omega) (by have := hB24.size; omega)).trans (hbut.keep k h1 h2 h3)⟩, .inl ⟨rfl, a, none, 0, [], rfl, ⟨hA6.dr.other6 y2 (Ne.symm hA6.ap) (Ne.symm hA6.ab) (Ne.symm hA6.ad), hA6.obj.store 0 _, Recs.nil _ _, rfl, hA6.ok, hA6.many⟩, by have := hB24.size; omega, fun k e => by simp [Value.ownBlock] at e⟩⟩
      | succ r =>
        have hA6 := hn (by omega)
        have hq : (((r + 1 : Nat) : Int) != 0) = true := by simp; omega
        clear hy hn
        go_wp2_with fail
        go_ret2
        exact ⟨hbut, .inr ⟨by omega, rfl, hA6.dr⟩⟩
    · have q5 : ((u.toNat : Int) == 0) = false := by
        simp only [beq_eq_false_iff_ne, ne_eq]
        intro e
        exact hu0 (UInt32.toNat_inj.1 (by rw [show ((0 : UInt32)).toNat = 0 from rfl]; omega))
      have hr := HR.out
      rw [if_neg (fun e => hu0 (Option.some.inj e))] at hr
      simp only [Prod.mk.injEq] at hr
      obtain ⟨rfl, rfl, rfl⟩ := hr
      clear HR HER hu0
      go_wp2_with (with_reducible refine wpList_box (o := ⟨some 29, _, _, _, _, _⟩) rfl (.tmp 28) 225 rfl (arObj none d y A ps.length c false) rfl 6 rfl (by decide) ?_; intro a w5 ha hFa hBa; have cG : w5.cell? ⟨G, 0, none⟩ = some (.int .u32 (u.toNat : Int)) := (hBa.cell (p := ⟨G, 0, none⟩) hGlt).trans hc0; have k0 : w5.cell? ⟨a, 0, none⟩ = some (.pointer none) := hFa.cell rfl; have kz : w5.frozen? ⟨a, 0, none⟩ = false := hFa.frozenAt)
      go_ret2
      have hB25 := Below.then_ hB24 hBa
      have y2 : But a a w5 (w5.setCell ⟨a, 0, none⟩ (.pointer (some ⟨a, 0, none⟩))) := But.set a a a 0 _ (.inl rfl)
      have hA5 : ArAt base w5 none a d p b f m S y false A c ps := ⟨hD4.below hBa, hFa.lower (Nat.le_trans hbase hB24.size), (hRc.below hBa).lower (Nat.le_trans hbase hB3.size), HPS.out, HOK.out, HM.out⟩
      refine ⟨⟨y2.os.trans hB25.os, y2.tape.trans hB25.tape, y2.output.trans hB25.output, Nat.le_trans hB25.size y2.size, fun k h1 h2 h3 => (y2.keep k (Nat.lt_of_lt_of_le h1 hB25.size) (by have := hB24.size; omega) (by have := hB24.size; omega)).trans (hB25.block k h1)⟩, .inl ⟨rfl, a, A, c, ps, rfl, ⟨hA5.dr.other6 y2 (Ne.symm hA5.ap) (Ne.symm hA5.ab) (Ne.symm hA5.ad), hA5.obj.store 0 _, hA5.recs.but3 (But3.of_own y2 a a) hA5.obj hA5.obj hA5.obj ⟨by decide, by decide, by decide⟩ ⟨by decide, by decide, by decide⟩, hA5.is, hA5.ok, hA5.many⟩, by have := hB24.size; omega, fun k e => Nat.le_trans hB3.size (hRc.base_le k e)⟩⟩
end
end Go.Proofs.Ytpdfalgjmeagjaa
