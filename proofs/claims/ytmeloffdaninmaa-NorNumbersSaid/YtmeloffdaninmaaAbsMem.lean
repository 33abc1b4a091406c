/-
  The small machine's reads and writes, and that the world's own do as they say.
-/
import Derived.Test.YtmeloffdaninmaaAbsBase
namespace Go.Proofs.Ytmeloffdaninmaa
open Go.RowKit
set_option linter.unusedVariables false

theorem Tq.set_set {α : Type} : ∀ (d : Nat) (t : Tq α) (k : Nat) (x y : Option α), Tq.set d (Tq.set d t k x) k y = Tq.set d t k y
  | 0, _, _, _, _ => rfl
  | d + 1, .nil, k, x, y => by
    rcases k with _ | k
    · rfl
    · rcases Nat.mod_two_eq_zero_or_one k with p | p <;> simp only [Tq.set, p, Tq.set_set d]
  | d + 1, .node l v r, k, x, y => by
    rcases k with _ | k
    · rfl
    · rcases Nat.mod_two_eq_zero_or_one k with p | p <;> simp only [Tq.set, p, Tq.set_set d]
theorem H.set_set (h : H) (b : Nat) (x y : Blk) : (h.set b x).set b y = h.set b y := by
  unfold H.set
  simp only [Tq.set_set]

/-! ### Reads -/

/-- So many cells from a place on, if they are all there. -/
def Cel.range (c : Cel) (o : Nat) : Nat → Option (List AV)
  | 0 => some []
  | n + 1 => match c.get o, c.range (o + 1) n with
    | some v, some l => some (v :: l)
    | _, _ => none
theorem Cel.range_get : ∀ {c : Cel} {n o : Nat} {l : List AV}, c.range o n = some l → l.length = n ∧ ∀ j v, l[j]? = some v → c.get (o + j) = some v
  | c, 0, o, l, h => by simp [Cel.range] at h; subst h; simp
  | c, n + 1, o, l, h => by
    simp only [Cel.range] at h
    split at h
    · rename_i v r hv hr
      simp at h
      subst h
      obtain ⟨h1, h2⟩ := Cel.range_get hr
      refine ⟨by simp [h1], fun j u hj => ?_⟩
      rcases j with _ | j
      · simp at hj; subst hj; simpa using hv
      · have := h2 j u (by simpa using hj)
        rwa [show o + 1 + j = o + (j + 1) from by omega] at this
    · simp at h
theorem Cel.range_of {c : Cel} : ∀ {n o : Nat} {l : List AV}, l.length = n → (∀ j v, l[j]? = some v → c.get (o + j) = some v) → c.range o n = some l
  | 0, o, [], _, _ => rfl
  | n + 1, o, v :: l, h, k => by
    have h1 := k 0 v rfl
    have h2 := Cel.range_of (c := c) (n := n) (o := o + 1) (l := l) (by simpa using h) (fun j u hj => by
      have := k (j + 1) u (by simpa using hj)
      rwa [show o + (j + 1) = o + 1 + j from by omega] at this)
    simp only [Cel.range, h2]
    rw [show c.get o = some v from h1]
theorem Cel.range_list (l : List AV) (o n : Nat) (h : o + n ≤ l.length) : (Cel.list l).range o n = some ((l.drop o).take n) :=
  Cel.range_of (by simp; omega) fun j v hj => by
    show l[o + j]? = _
    rw [List.getElem?_take] at hj
    split at hj
    · rwa [List.getElem?_drop] at hj
    · simp at hj

def isAggA (P : Program) (t : TypeId) : Bool :=
  match P.underlying t with
  | some (.struct _) | some (.array _ _) => true
  | _ => false
def sizeA (P : Program) (t : TypeId) : Option Nat := (P.info? t).map (·.size)

section
variable {P : Program} {ρ : Pos} {h : H} {w : World}

theorem Rel.cells (r : Rel ρ h w) {b o n : Nat} {x : Blk} {l : List AV} (hb : h.get b = some x) (hl : x.cells.range o n = some l) :
    ∃ g C vs, ρ b = some (g, C) ∧ conL ρ l = some vs ∧ ∀ j u, vs[j]? = some u → w.cell? ⟨g, o + j, none⟩ = some u := by
  obtain ⟨g, C, cur, fz, h1, h2, h3⟩ := r.at_ b x hb
  obtain ⟨hn, hg⟩ := Cel.range_get hl
  have key : ∀ j v, l[j]? = some v → ∃ u, con ρ v = some u ∧ cur[o + j]? = some u := fun j v hj => h3.cell _ _ (hg j v hj)
  have all : ∃ vs, conL ρ l = some vs ∧ ∀ j u, vs[j]? = some u → cur[o + j]? = some u := by
    clear hl hg hn
    induction l generalizing o with
    | nil => exact ⟨[], rfl, fun j u hj => by simp at hj⟩
    | cons v l ih =>
      obtain ⟨u, hu, hc⟩ := key 0 v rfl
      obtain ⟨us, hus, hcs⟩ := ih (o := o + 1) (fun j v' hj => by
        have := key (j + 1) v' (by simpa using hj)
        rwa [show o + (j + 1) = o + 1 + j from by omega] at this)
      refine ⟨u :: us, conL_mk hu hus, fun j y hj => ?_⟩
      rcases j with _ | j
      · simp at hj; subst hj; simpa using hc
      · have := hcs j y (by simpa using hj)
        rwa [show o + 1 + j = o + (j + 1) from by omega] at this
  obtain ⟨vs, hv, hc⟩ := all
  exact ⟨g, C, vs, h1, hv, fun j u hj => by rw [cell_of_row w g (o + j) cur x.elem fz h2]; exact hc j u hj⟩
theorem Rel.cell (r : Rel ρ h w) {b o : Nat} {x : Blk} {v : AV} (hb : h.get b = some x) (hl : x.cells.get o = some v) :
    ∃ g C u, ρ b = some (g, C) ∧ con ρ v = some u ∧ w.cell? ⟨g, o, none⟩ = some u := by
  obtain ⟨g, C, cur, fz, h1, h2, h3⟩ := r.at_ b x hb
  obtain ⟨u, hu, hc⟩ := h3.cell _ _ hl
  exact ⟨g, C, u, h1, hu, by rw [cell_of_row w g o cur x.elem fz h2]; exact hc⟩

/-- What is read of a variable. -/
def loadA (P : Program) (h : H) (t : TypeId) : AV → Option AV
  | .pointer (some p) => match h.get p.1, isAggA P t, sizeA P t, P.underlying t with
    | some x, true, some n, some _ => (x.cells.range p.2 n).map .agg
    | some x, false, some _, some _ => x.cells.get p.2
    | _, _, _, _ => none
  | _ => none
theorem run_isAgg {t : TypeId} {d : TypeDesc} (hd : P.underlying t = some d) : (isAgg t).run P w = .ok (isAggA P t) w := by
  unfold isAgg isAggA
  rw [Sem.run_bind, run_underlying hd w]
  simp only [Result.andThen_ok, hd]
  cases d <;> rfl
theorem run_sizeOf {t : TypeId} {n : Nat} (hn : sizeA P t = some n) : (sizeOf t).run P w = .ok n w := by
  unfold sizeA at hn
  obtain ⟨i, hi, rfl⟩ := Option.map_eq_some_iff.1 hn
  simp [sizeOf, typeInfo, hi]
theorem loadVar_sound (r : Rel ρ h w) {t : TypeId} {p : Nat × Nat} {v : AV} (e : loadA P h t (.pointer (some p)) = some v) :
    ∃ g C u, ρ p.1 = some (g, C) ∧ con ρ v = some u ∧ (loadVar t ⟨g, p.2, none⟩).run P w = .ok u w := by
  simp only [loadA] at e
  split at e
  · rename_i x n d hb ha hn hd
    obtain ⟨l, hl, rfl⟩ := Option.map_eq_some_iff.1 e
    obtain ⟨g, C, vs, h1, h2, h3⟩ := r.cells hb hl
    refine ⟨g, C, .agg vs.toArray, h1, by simp [con, h2], ?_⟩
    have hlen : vs.length = n := by rw [conL_length h2, (Cel.range_get hl).1]
    have hcs := run_loadCells_list (P := P) w ⟨g, p.2, none⟩ vs (fun j u hj => by rw [Addr.add_lit]; exact h3 j u hj)
    rw [hlen] at hcs
    simp [loadVar, Sem.run_bind, run_isAgg hd, ha, run_sizeOf hn, hcs]
  · rename_i x n d hb ha hn hd
    obtain ⟨g, C, u, h1, h2, h3⟩ := r.cell hb e
    refine ⟨g, C, u, h1, h2, ?_⟩
    simp [loadVar, Sem.run_bind, run_isAgg hd, ha, h3]
  · simp at e

/-! ### Writes -/

def Cel.sets (c : Cel) : Nat → List AV → Cel
  | _, [] => c
  | o, v :: l => (c.set o v).sets (o + 1) l
theorem Cel.size_set (c : Cel) (o : Nat) (v : AV) : (c.set o v).size = c.size := by cases c <;> simp [Cel.set, Cel.size]
theorem Cel.size_sets : ∀ (l : List AV) (c : Cel) (o : Nat), (c.sets o l).size = c.size
  | [], _, _ => rfl
  | v :: l, c, o => by rw [Cel.sets, Cel.size_sets l, Cel.size_set]
theorem Cel.get_set {c : Cel} {o j : Nat} {v y : AV} (e : (c.set o v).get j = some y) : (j = o ∧ y = v) ∨ (j ≠ o ∧ c.get j = some y) := by
  cases c with
  | list l =>
    simp only [Cel.set, Cel.get, List.getElem?_set] at e ⊢
    by_cases hj : o = j
    · subst hj
      simp at e
      exact .inl ⟨rfl, e.2.symm⟩
    · rw [if_neg hj] at e
      exact .inr ⟨Ne.symm hj, e⟩
  | tree n z t =>
    simp only [Cel.set, Cel.get] at e ⊢
    by_cases hj : o = j
    · subst hj
      split at e
      · rename_i h1 h2
        rw [Tq.get_set_at deep t o (some v) (by have h3 : o < 549755813888 := by simpa using h2
                                                show o + 1 < 1099511627776
                                                omega)] at e
        exact .inl ⟨rfl, by simpa using e.symm⟩
      · simp at e
    · rw [Tq.get_set deep t o _ j hj] at e
      exact .inr ⟨Ne.symm hj, e⟩
theorem Cel.get_size {c : Cel} {j : Nat} {v : AV} (e : c.get j = some v) : j < c.size := by
  cases c with
  | list l => exact (List.getElem?_eq_some_iff.1 e).1
  | tree n z t =>
    simp only [Cel.get] at e
    split at e
    · rename_i hh _; simpa [Cel.size] using hh
    · simp at e

/-- The frozen cells of a row lie past its end. -/
theorem notFrozen {g o : Nat} {cur : Array Value} {e : TypeId} {fz : Nat × Nat} (hg : w.heap[g]? = some (.cells cur e fz)) (hf : fz.1 = fz.2 ∨ cur.size ≤ fz.1) (ho : o < cur.size) : w.frozen? ⟨g, o, none⟩ = false := by
  unfold World.frozen?
  simp only [hg]
  obtain ⟨lo, hi⟩ := fz
  simp at hf ⊢
  omega
/-- One cell is stored. -/
theorem store_sound (r : Rel ρ h w) {b o g C : Nat} {x : Blk} {v : AV} {u : Value} (hb : h.get b = some x) (hr : x.rw = true) (hp : ρ b = some (g, C)) (ho : o < x.cells.size) (hu : con ρ v = some u) (h1 : v.one = true) :
    ∃ w', (store ⟨g, o, none⟩ u).run P w = .ok () w' ∧ Rel ρ (h.set b { x with cells := x.cells.set o v }) w' ∧ Ext ρ h w ρ (h.set b { x with cells := x.cells.set o v }) w' := by
  obtain ⟨g', C', cur, fz, hp', hg, hx⟩ := r.at_ b x hb
  rw [hp] at hp'
  simp at hp'
  obtain ⟨rfl, rfl⟩ := hp'
  have hlt : o < cur.size := Nat.lt_of_lt_of_le ho hx.fits
  have hcell : w.cell? ⟨g, o, none⟩ = some cur[o] := by rw [cell_of_row w g o cur x.elem fz hg]; simp [hlt]
  have hfz := notFrozen hg (hx.free hr) hlt
  have hrun : (store ⟨g, o, none⟩ u).run P w = .ok () (w.setCell ⟨g, o, none⟩ u) := by
    rw [run_store P w _ u .plain (con_one hu h1), hcell]
    simp [hfz]
  have hgl : g < w.heap.size := (Array.getElem?_eq_some_iff.1 hg).1
  have hg' : (w.setCell ⟨g, o, none⟩ u).heap[g]? = some (.cells (cur.setIfInBounds o u) x.elem fz) := by
    simp only [World.setCell, Array.getElem?_modify, if_true, hg, Option.map_some]
    rfl
  have hk : ∀ k, k ≠ g → (w.setCell ⟨g, o, none⟩ u).heap[k]? = w.heap[k]? := fun k hk => heap_setCell_other w _ k u hk
  refine ⟨_, hrun, r.write hb hr hp (cur.setIfInBounds o u) fz hg' hk hr ?_, Ext.write r hb hr hr hp rfl rfl rfl (by simp [World.setCell]) hk⟩
  refine ⟨fun _ => by simpa using hx.free hr, by rw [Cel.size_set]; simpa using hx.fits, fun hw => by rw [Cel.size_set]; simpa using hx.whole hw, fun hw => by simpa using hx.more hw, fun j y hj => ?_⟩
  rcases Cel.get_set hj with ⟨rfl, rfl⟩ | ⟨hn, hj'⟩
  · exact ⟨u, hu, by simp [hlt]⟩
  · obtain ⟨q, h2, h3⟩ := hx.cell j y hj'
    exact ⟨q, h2, by rw [Array.getElem?_setIfInBounds_ne (Ne.symm hn)]; exact h3⟩
theorem Tq.get_set_of {α : Type} : ∀ (d : Nat) (t : Tq α) (k : Nat) (v : α) (y : Option α), Tq.get d t k = some v → Tq.get d (Tq.set d t k y) k = y
  | 0, _, _, _, _, h => by simp [Tq.get] at h
  | d + 1, .nil, k, _, _, h => by simp [Tq.get] at h
  | d + 1, .node l v r, k, u, y, h => by
    rcases k with _ | k
    · rfl
    · rcases Nat.mod_two_eq_zero_or_one k with p | p <;> simp only [Tq.set, p, Tq.get] at h ⊢ <;> exact Tq.get_set_of d _ _ u y h
theorem H.get_set_self {h : H} {b : Nat} {x : Blk} (y : Blk) (e : h.get b = some x) : (h.set b y).get b = some y := Tq.get_set_of deep h.bl b x (some y) e
theorem Rel.same (r : Rel ρ h w) {b : Nat} {x : Blk} (hb : h.get b = some x) (hr : x.rw = true) : Rel ρ (h.set b x) w ∧ Ext ρ h w ρ (h.set b x) w := by
  obtain ⟨g, C, cur, fz, hp, hg, hx⟩ := r.at_ b x hb
  exact ⟨r.write hb hr hp cur fz hg (fun _ _ => rfl) hr hx, Ext.write r hb hr hr hp rfl rfl rfl (Nat.le_refl _) (fun _ _ => rfl)⟩
/-- Many cells are stored, one behind the other. -/
theorem storeCells_sound {b g C : Nat} (o : Nat) : ∀ (l : List AV) (vs : List Value) (i : Nat) (h : H) (w : World) (x : Blk), Rel ρ h w → h.get b = some x → x.rw = true → ρ b = some (g, C) → conL ρ l = some vs → (∀ v ∈ l, v.one = true) → o + i + l.length ≤ x.cells.size →
    ∃ w', (storeCells ⟨g, o, none⟩ vs i).run P w = .ok () w' ∧ Rel ρ (h.set b { x with cells := x.cells.sets (o + i) l }) w' ∧ Ext ρ h w ρ (h.set b { x with cells := x.cells.sets (o + i) l }) w'
  | [], vs, i, h, w, x, r, hb, hr, hp, hv, h1, hs => by
    simp [conL] at hv
    subst hv
    obtain ⟨r1, r2⟩ := r.same hb hr
    exact ⟨w, rfl, r1, r2⟩
  | v :: l, vs, i, h, w, x, r, hb, hr, hp, hv, h1, hs => by
    obtain ⟨u, us, hu, hus, rfl⟩ := conL_cons hv
    obtain ⟨w1, e1, r1, x1⟩ := store_sound (P := P) (o := o + i) r hb hr hp (by simp at hs; omega) hu (h1 v (by simp))
    obtain ⟨w2, e2, r2, x2⟩ := storeCells_sound o l us (i + 1) _ w1 _ r1 (H.get_set_self _ hb) hr hp hus (fun y hy => h1 y (by simp [hy])) (by rw [Cel.size_set]; simp at hs; omega)
    rw [H.set_set] at r2 x2
    refine ⟨w2, ?_, ?_, ?_⟩
    · simp only [storeCells]
      rw [Sem.run_bind, Addr.add_lit, e1]
      exact e2
    · exact r2
    · exact x1.trans x2

/-- What a store makes of the memory. -/
def storeA (P : Program) (h : H) (t : TypeId) : AV → AV → Option H
  | .pointer (some p), v => match h.get p.1, sizeA P t with
    | some x, some n => match x.rw && Nat.beq v.cells.length n && Nat.ble (p.2 + n) x.cells.size && v.cells.all AV.one with
      | true => some (h.set p.1 { x with cells := x.cells.sets p.2 v.cells })
      | false => none
    | _, _ => none
  | _, _ => none
theorem storeVar_sound (r : Rel ρ h w) {t : TypeId} {p : Nat × Nat} {v : AV} {u : Value} {h' : H} (hu : con ρ v = some u) (e : storeA P h t (.pointer (some p)) v = some h') :
    ∃ g C w', ρ p.1 = some (g, C) ∧ (storeVar t ⟨g, p.2, none⟩ u).run P w = .ok () w' ∧ Rel ρ h' w' ∧ Ext ρ h w ρ h' w' := by
  simp only [storeA] at e
  split at e
  · rename_i x n hb hn
    split at e
    · rename_i hc
      simp only [Bool.and_eq_true] at hc
      obtain ⟨⟨⟨hr, hlen⟩, hfit⟩, hone⟩ := hc
      simp at e
      subst e
      obtain ⟨g, C, cur, fz, hp, _, _⟩ := r.at_ _ x hb
      have hcs := con_cells hu
      have hl := conL_length hcs
      have hlen' : v.cells.length = n := by simpa using hlen
      obtain ⟨w', e1, r1, x1⟩ := storeCells_sound (P := P) p.2 v.cells u.cells.toList 0 h w x r hb hr hp hcs (List.all_eq_true.1 hone) (by rw [hlen']; simpa using hfit)
      refine ⟨g, C, w', hp, ?_, r1, x1⟩
      have hsz : u.cells.size = n := by rw [← hlen']; simpa using hl
      simp [storeVar, run_sizeOf hn, hsz, e1]
    · simp at e
  · simp at e
end
end Go.Proofs.Ytmeloffdaninmaa
