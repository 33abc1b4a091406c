/-
  A tally in memory: its object beside its drive; copies of words into an array; two results of which one is a block of its own.
-/
import Derived.Test.YtjmofjcdcmbecaaTallyRead
import Derived.Test.YtjmofjcdcmbecaaTallyFall
import Derived.Test.YtjmofjcdcmbecaaArr
import Derived.Test.YtjmofjcdcmbecaaDrOpen
import Derived.Laws.ResultCell
namespace Go.Proofs.Ytjmofjcdcmbecaa
open Go.RowKit Go.Shelf
set_option linter.unusedVariables false

/-- Writes nothing that was there but these three blocks. -/
structure But3 (t p b : Nat) (w w' : World) : Prop where
  os : w'.os = w.os
  tape : w'.tape = w.tape
  output : w'.output = w.output
  size : w.heap.size ≤ w'.heap.size
  keep : ∀ k, k < w.heap.size → k ≠ t → k ≠ p → k ≠ b → w'.heap[k]? = w.heap[k]?
section
variable {w w' w'' : World} {base t d p b f last : Nat} {over : Bool} {S S' : Fl}
theorem But3.of_but (x : But p b w w') (t : Nat) : But3 t p b w w' := ⟨x.os, x.tape, x.output, x.size, fun k h _ h2 h3 => x.keep k h h2 h3⟩
theorem But3.of_own (x : But t t w w') (p b : Nat) : But3 t p b w w' := ⟨x.os, x.tape, x.output, x.size, fun k h h1 _ _ => x.keep k h h1 h1⟩
theorem But3.of_below (x : Below w.heap.size w w') (t p b : Nat) : But3 t p b w w' := ⟨x.os, x.tape, x.output, x.size, fun k h _ _ _ => x.block k h⟩
theorem But3.then_ (x : But3 t p b w w') (y : But3 t p b w' w'') : But3 t p b w w'' :=
  ⟨y.os.trans x.os, y.tape.trans x.tape, y.output.trans x.output, Nat.le_trans x.size y.size, fun k h h1 h2 h3 => (y.keep k (Nat.lt_of_lt_of_le h x.size) h1 h2 h3).trans (x.keep k h h1 h2 h3)⟩
theorem But3.below {B : Nat} (x : But3 t p b w w') (ht : B ≤ t) (hp : B ≤ p) (hb : B ≤ b) (hB : B ≤ w.heap.size) : Below B w w' := ⟨x.os, x.tape, x.output, x.size, fun k h => x.keep k (by omega) (by omega) (by omega) (by omega)⟩
def tyObj (t d last : Nat) (over : Bool) : List Value := [.pointer (some ⟨t, 0, none⟩), .pointer (some ⟨d, 0, none⟩), .int .i64 (last : Int), .bool over]
/-- A tally of a drive of two sectors, from the sector f of its flash on. -/
structure TyAt (base : Nat) (w : World) (t d p b f : Nat) (S : Fl) (last : Nat) (over : Bool) : Prop where
  dr : DrAt base w d p b f 2 S
  obj : Fresh base 122 w (some ⟨t, 0, none⟩) 4 4 (tyObj t d last over)
  last_le : last ≤ 2147485632
theorem TyAt.below (h : TyAt base w t d p b f S last over) (x : Below w.heap.size w w') : TyAt base w' t d p b f S last over := ⟨h.dr.below x, h.obj.below x, h.last_le⟩
theorem TyAt.td (h : TyAt base w t d p b f S last over) : t ≠ d := fun e => by
  have h1 := h.obj.block.1
  have h2 := h.dr.obj.block.1
  rw [e, h2] at h1
  simp at h1
theorem TyAt.tp (h : TyAt base w t d p b f S last over) : t ≠ p := fun e => by
  have h1 := h.obj.block.1
  have h2 := h.dr.nor.obj.block.1
  rw [e, h2] at h1
  simp at h1
theorem TyAt.tb (h : TyAt base w t d p b f S last over) : t ≠ b := fun e => by
  have h1 := h.obj.block.1
  have h2 := h.dr.nor.row.block.1
  rw [e, h2] at h1
  simp at h1
theorem TyAt.lt (h : TyAt base w t d p b f S last over) : t < w.heap.size ∧ base ≤ t := by
  have h1 := h.obj.block
  exact ⟨(Array.getElem?_eq_some_iff.1 h1.1).1, h1.2⟩
theorem TyAt.c (h : TyAt base w t d p b f S last over) : w.cell? ⟨t, 0, none⟩ = some (.pointer (some ⟨t, 0, none⟩)) ∧ w.cell? ⟨t, 1, none⟩ = some (.pointer (some ⟨d, 0, none⟩)) ∧ w.cell? ⟨t, 2, none⟩ = some (.int .i64 (last : Int)) ∧ w.cell? ⟨t, 3, none⟩ = some (.bool over) :=
  ⟨h.obj.cell rfl, h.obj.cell rfl, h.obj.cell rfl, h.obj.cell rfl⟩
theorem TyAt.z (h : TyAt base w t d p b f S last over) (j : Nat) : w.frozen? ⟨t, j, none⟩ = false := h.obj.frozenAt
/-- The flash is another one; the tally stays. -/
theorem TyAt.turn (h : TyAt base w t d p b f S last over) (x : But p b w w') (hD : DrAt base w' d p b f 2 S') : TyAt base w' t d p b f S' last over := ⟨hD, h.obj.but x h.tp h.tb, h.last_le⟩
theorem DrAt.other6 {g m : Nat} (h : DrAt base w d p b f m S) (x : But g g w w') (h1 : p ≠ g) (h2 : b ≠ g) (h3 : d ≠ g) : DrAt base w' d p b f m S := ⟨h.nor.but x h1 h1 h2 h2, h.obj.but x h3 h3, h.fits, h.some_⟩
theorem TyAt.setLast (h : TyAt base w t d p b f S last over) (last' : Nat) (hl : last' ≤ 2147485632) : TyAt base (w.setCell ⟨t, 2, none⟩ (.int .i64 (last' : Int))) t d p b f S last' over :=
  ⟨h.dr.other6 (But.set t t t 2 _ (.inl rfl)) (Ne.symm h.tp) (Ne.symm h.tb) (Ne.symm h.td), h.obj.store 2 (.int .i64 (last' : Int)), hl⟩
theorem TyAt.setOver (h : TyAt base w t d p b f S last over) (over' : Bool) : TyAt base (w.setCell ⟨t, 3, none⟩ (.bool over')) t d p b f S last over' :=
  ⟨h.dr.other6 (But.set t t t 3 _ (.inl rfl)) (Ne.symm h.tp) (Ne.symm h.tb) (Ne.symm h.td), h.obj.store 3 (.bool over'), h.last_le⟩
theorem run_tally (t : Nat) (w : World) : (binOp .eql 108 (.pointer (some ⟨t, 0, none⟩)) (.pointer (some ⟨t, 0, none⟩))).run Try.prog w = .ok (.bool true) w := by
  obtain ⟨j, hj⟩ : ∃ j, Try.prog.info? 122 = some j := Option.isSome_iff_exists.1 (by kernel_rfl)
  exact run_eql_ptr_same w (te := 122) ⟨t, 0, none⟩ (by kernel_rfl) hj
theorem isTally_any (h : TyAt base w t d p b f S last over) : Calls Try.prog 121 #[.pointer (some ⟨t, 0, none⟩)] w fun e w' => e = .returned (.bool true) ∧ w' = w := by
  obtain ⟨c0, -⟩ := h.c
  have hq := run_tally t w
  go_enter Try.func121, Try.ntmps121
  go_wp2_with fail
  go_ret
  exact ⟨rfl, rfl⟩
theorem Over_any (h : TyAt base w t d p b f S last over) : Calls Try.prog 74 #[.pointer (some ⟨t, 0, none⟩)] w fun e w' => e = .returned (.bool over) ∧ w' = w := by
  obtain ⟨-, -, -, c3⟩ := h.c
  go_enter Try.func74, Try.ntmps74
  go_wp2_with fail
  refine (isTally_any h).mono ?_
  rintro e w1 ⟨rfl, rfl⟩
  go_wp2_with fail
  go_ret
  exact ⟨rfl, rfl⟩
end

theorem arrW : Try.prog.underlying 174 = some (.array (Try.prog.arrayLen 174) (Try.prog.elem 174)) := by kernel_rfl
theorem arrW_len : Try.prog.arrayLen 174 = 64 := by kernel_rfl
theorem arrW_size (w : World) : (sizeOf (Try.prog.elem 174)).run Try.prog w = .ok 1 w := by kernel_rfl
/-- 'w[:]'. -/
theorem sl_words (g : Nat) (w : World) : (Instr.sliceAt 174 (.pointer (some ⟨g, 0, none⟩)) none none none).run Try.prog w = .ok (.slice (some ⟨g, 0, none⟩) 64 64) w := by
  rw [run_sliceAt_array_all w 174 _ arrW, arrW_size, arrW_len]
  simp [Result.andThen, slicedAt, Addr.add]
theorem sizeW : (Try.prog.info? 22).map (·.size) = some 1 := by kernel_rfl
/-- 'copy(dst, src)' of words into a block of this call's own, whole. -/
theorem wpList_copy64 {w : World} {ops : Array Oper} {rest : List Oper} {o : Oper} {a : Act} {Q : Exit → Act → World → Prop} (hg : o.guard = none) (d s : Operand)
    (hop : o.op = .call { callee := .builtin .copy, args := #[d, s], argTypes := #[63, 63] })
    (sp : Option Addr) (sCap : Nat) (e : TypeId) (g base : Nat) (hd : a.eval d = .slice (some ⟨g, 0, none⟩) 64 64) (hs : a.eval s = .slice sp 64 sCap)
    (cur src : List UInt32) (hF : Fresh base e w (some ⟨g, 0, none⟩) 64 64 (cw cur)) (hl : src.length = 64) (hsees : Sees w w.heap.size sp (cw src))
    (hK : ∀ w', Fresh base e w' (some ⟨g, 0, none⟩) 64 64 (cw src) → Below g w w' → wpList Try.prog ops Q rest (a.put o.dst (goInt 64)) w') :
    wpList Try.prog ops Q (o :: rest) a w := by
  have hcl : cur.length = 64 := by simpa using hF.len
  refine wpList_copy_splice hg d s 63 63 hop 22 Try.underlying63 sizeW (some ⟨g, 0, none⟩) sp 64 64 64 sCap hd hs g 0 (cw cur) e hF.block.1 (cw src) (by simp [hl]) ?_ (by simp [hcl, hl]) (cw_one _) g w (Below.refl _ _) (Nat.le_refl _) ?_
  · intro h0
    obtain ⟨b, o', rfl, _, hc⟩ := hsees (by simp; omega)
    refine ⟨rfl, _, rfl, fun j v hj => ?_⟩
    rw [Addr.add_lit]
    exact hc j v hj
  · intro w' hg' hb'
    have h := hg'.out
    have e1 : splice (cw cur) 0 (cw src) = cw src := by simp [splice, hl, hcl]
    rw [e1] at h
    have hr := hK w' (Fresh.of_block h hF.block.2 (by simp [hl]) hF.cap.2) hb'
    have e3 : (cw src).length = 64 := by simp [hl]
    rw [e3]
    exact hr
/-- Two results: one in memory of this call's own, one beside it. -/
theorem bodyPost_cell_tmp {P : Program} {a : Act} {w : World} {fn : Func} {R : Ending → World → Prop} {p q : Tmp} {T : TypeId} {g B off : Nat} (hr : fn.results = #[.cell p T, .tmp q]) (hp : a.tmps.getD p undef = .pointer (some ⟨g, off, none⟩)) (u : Value) (hq : a.tmps.getD q undef = u) (xs : List Value) (n : Nat) (hn : xs.length = n) (hT : aggB P T n = true) (hs : Sees w B (some ⟨g, off, none⟩) xs)
    (hd : a.defers = []) (hR : R (.returned (.tuple #[.agg xs.toArray, u])) w) : bodyPost P fn R .ret a w := by
  subst hn
  refine ⟨hd, _, ?_, hR⟩
  rw [results_cell_tmp hr, hp, hq]
  simp [asAddr, run_loadVar_sees T xs hT hs]
end Go.Proofs.Ytjmofjcdcmbecaa
