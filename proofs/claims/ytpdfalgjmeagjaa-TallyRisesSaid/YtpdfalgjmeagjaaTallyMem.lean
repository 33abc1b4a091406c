/-
  A tally in memory: its object beside its drive; copies of words into an array; two results of which one is a block of its own.
-/
import Derived.Test.YtpdfalgjmeagjaaTallyRead
import Derived.Test.YtpdfalgjmeagjaaTallyFall
import Derived.Test.YtpdfalgjmeagjaaArr
import Derived.Test.YtpdfalgjmeagjaaBut3
import Derived.Test.YtpdfalgjmeagjaaDrOpen
import Derived.Laws.ResultCell
namespace Go.Proofs.Ytpdfalgjmeagjaa
open Go.RowKit Go.Shelf
set_option linter.unusedVariables false

section
variable {w w' w'' : World} {base t d p b f last : Nat} {over : Bool} {S S' : Fl}
def tyObj (t d last : Nat) (over : Bool) : List Value := [.pointer (some ⟨t, 0, none⟩), .pointer (some ⟨d, 0, none⟩), .int .i64 (last : Int), .bool over]
/-- A tally of a drive of two sectors, from the sector f of its flash on. -/
structure TyAt (base : Nat) (w : World) (t d p b f : Nat) (S : Fl) (last : Nat) (over : Bool) : Prop where
  dr : DrAt base w d p b f 2 S
  obj : Fresh base 196 w (some ⟨t, 0, none⟩) 4 4 (tyObj t d last over)
  last_le : last ≤ 2147485632
theorem TyAt.below (h : TyAt base w t d p b f S last over) (x : Below w.heap.size w w') : TyAt base w' t d p b f S last over := ⟨h.dr.below x, h.obj.below x, h.last_le⟩
theorem TyAt.td (h : TyAt base w t d p b f S last over) : t ≠ d := fun e => by
  have h1 := h.obj.block.1
  have h2 := h.dr.obj.block.1
  rw [e, h2] at h1
  simp at h1
theorem TyAt.tp (h : TyAt base w t d p b f S last over) : t ≠ p := fun e => by
  have h1 := h.obj.block.1
  have h2 := h.dr.nor.obj.block.1
  rw [e, h2] at h1
  simp at h1
theorem TyAt.tb (h : TyAt base w t d p b f S last over) : t ≠ b := fun e => by
  have h1 := h.obj.block.1
  have h2 := h.dr.nor.row.block.1
  rw [e, h2] at h1
  simp at h1
theorem TyAt.lt (h : TyAt base w t d p b f S last over) : t < w.heap.size ∧ base ≤ t := by
  have h1 := h.obj.block
  exact ⟨(Array.getElem?_eq_some_iff.1 h1.1).1, h1.2⟩
theorem TyAt.c (h : TyAt base w t d p b f S last over) : w.cell? ⟨t, 0, none⟩ = some (.pointer (some ⟨t, 0, none⟩)) ∧ w.cell? ⟨t, 1, none⟩ = some (.pointer (some ⟨d, 0, none⟩)) ∧ w.cell? ⟨t, 2, none⟩ = some (.int .i64 (last : Int)) ∧ w.cell? ⟨t, 3, none⟩ = some (.bool over) :=
  ⟨h.obj.cell rfl, h.obj.cell rfl, h.obj.cell rfl, h.obj.cell rfl⟩
theorem TyAt.z (h : TyAt base w t d p b f S last over) (j : Nat) : w.frozen? ⟨t, j, none⟩ = false := h.obj.frozenAt
/-- The flash is another one; the tally stays. -/
theorem TyAt.turn (h : TyAt base w t d p b f S last over) (x : But p b w w') (hD : DrAt base w' d p b f 2 S') : TyAt base w' t d p b f S' last over := ⟨hD, h.obj.but x h.tp h.tb, h.last_le⟩
theorem TyAt.setLast (h : TyAt base w t d p b f S last over) (last' : Nat) (hl : last' ≤ 2147485632) : TyAt base (w.setCell ⟨t, 2, none⟩ (.int .i64 (last' : Int))) t d p b f S last' over :=
  ⟨h.dr.other6 (But.set t t t 2 _ (.inl rfl)) (Ne.symm h.tp) (Ne.symm h.tb) (Ne.symm h.td), h.obj.store 2 (.int .i64 (last' : Int)), hl⟩
theorem TyAt.setOver (h : TyAt base w t d p b f S last over) (over' : Bool) : TyAt base (w.setCell ⟨t, 3, none⟩ (.bool over')) t d p b f S last over' :=
  ⟨h.dr.other6 (But.set t t t 3 _ (.inl rfl)) (Ne.symm h.tp) (Ne.symm h.tb) (Ne.symm h.td), h.obj.store 3 (.bool over'), h.last_le⟩
theorem run_tally (t : Nat) (w : World) : (binOp .eql 83 (.pointer (some ⟨t, 0, none⟩)) (.pointer (some ⟨t, 0, none⟩))).run Try.prog w = .ok (.bool true) w := by
  obtain ⟨j, hj⟩ : ∃ j, Try.prog.info? 196 = some j := Option.isSome_iff_exists.1 (by kernel_rfl)
  exact run_eql_ptr_same w (te := 196) ⟨t, 0, none⟩ (by kernel_rfl) hj
theorem isTally_any (h : TyAt base w t d p b f S last over) : Calls Try.prog 126 #[.pointer (some ⟨t, 0, none⟩)] w fun e w' => e = .returned (.bool true) ∧ w' = w := by
  obtain ⟨c0, -⟩ := h.c
  have hq := run_tally t w
  go_enter Try.func126, Try.ntmps126
  go_wp2_with fail
  go_ret
  exact ⟨rfl, rfl⟩
end

theorem arrW : Try.prog.underlying 197 = some (.array (Try.prog.arrayLen 197) (Try.prog.elem 197)) := by kernel_rfl
theorem arrW_len : Try.prog.arrayLen 197 = 64 := by kernel_rfl
theorem arrW_size (w : World) : (sizeOf (Try.prog.elem 197)).run Try.prog w = .ok 1 w := by kernel_rfl
/-- 'w[:]'. -/
theorem sl_words (g : Nat) (w : World) : (Instr.sliceAt 197 (.pointer (some ⟨g, 0, none⟩)) none none none).run Try.prog w = .ok (.slice (some ⟨g, 0, none⟩) 64 64) w := by
  rw [run_sliceAt_array_all w 197 _ arrW, arrW_size, arrW_len]
  simp [Result.andThen, slicedAt, Addr.add]
theorem sizeW : (Try.prog.info? 22).map (·.size) = some 1 := by kernel_rfl
/-- 'copy(dst, src)' of words into a block of this call's own, whole. -/
theorem wpList_copy64 {w : World} {ops : Array Oper} {rest : List Oper} {o : Oper} {a : Act} {Q : Exit → Act → World → Prop} (hg : o.guard = none) (d s : Operand)
    (hop : o.op = .call { callee := .builtin .copy, args := #[d, s], argTypes := #[54, 54] })
    (sp : Option Addr) (sCap : Nat) (e : TypeId) (g base : Nat) (hd : a.eval d = .slice (some ⟨g, 0, none⟩) 64 64) (hs : a.eval s = .slice sp 64 sCap)
    (cur src : List UInt32) (hF : Fresh base e w (some ⟨g, 0, none⟩) 64 64 (cw cur)) (hl : src.length = 64) (hsees : Sees w w.heap.size sp (cw src))
    (hK : ∀ w', Fresh base e w' (some ⟨g, 0, none⟩) 64 64 (cw src) → Below g w w' → wpList Try.prog ops Q rest (a.put o.dst (goInt 64)) w') :
    wpList Try.prog ops Q (o :: rest) a w := by
  have hcl : cur.length = 64 := by simpa using hF.len
  refine wpList_copy_splice hg d s 54 54 hop 22 Try.underlying54 sizeW (some ⟨g, 0, none⟩) sp 64 64 64 sCap hd hs g 0 (cw cur) e hF.block.1 (cw src) (by simp [hl]) ?_ (by simp [hcl, hl]) (cw_one _) g w (Below.refl _ _) (Nat.le_refl _) ?_
  · intro h0
    obtain ⟨b, o', rfl, _, hc⟩ := hsees (by simp; omega)
    refine ⟨rfl, _, rfl, fun j v hj => ?_⟩
    rw [Addr.add_lit]
    exact hc j v hj
  · intro w' hg' hb'
    have h := hg'.out
    have e1 : splice (cw cur) 0 (cw src) = cw src := by simp [splice, hl, hcl]
    rw [e1] at h
    have hr := hK w' (Fresh.of_block h hF.block.2 (by simp [hl]) hF.cap.2) hb'
    have e3 : (cw src).length = 64 := by simp [hl]
    rw [e3]
    exact hr
end Go.Proofs.Ytpdfalgjmeagjaa
