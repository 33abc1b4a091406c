/-
  Flashes and drives in the small machine's memory: read off as plain data, and written back.
-/
import Derived.Test.YtmkpopfaaebgfaaAbsAdd
import Derived.Test.YtmkpopfaaebgfaaNorOps
import Derived.Test.YtmkpopfaaebgfaaDrLeaf
namespace Go.Proofs.Ytmkpopfaaebgfaa
open Go.RowKit
set_option linter.unusedVariables false

/-- All cells of a block. -/
def Cel.all : Cel → Option (List AV)
  | .list l => some l
  | .tree n z t => (Cel.tree n z t).range 0 n
theorem Cel.all_get {c : Cel} {l : List AV} (h : c.all = some l) : l.length = c.size ∧ ∀ j v, l[j]? = some v → c.get j = some v := by
  cases c with
  | list l' => simp [Cel.all] at h; subst h; exact ⟨rfl, fun j v hj => hj⟩
  | tree n z t =>
    obtain ⟨h1, h2⟩ := Cel.range_get h
    exact ⟨h1, fun j v hj => by have := h2 j v hj; rwa [Nat.zero_add] at this⟩
section
variable {ρ : Pos} {h : H} {w w' : World}
theorem Rel.whole (r : Rel ρ h w) {b : Nat} {x : Blk} {l : List AV} (hb : h.get b = some x) (hw : x.whole = true) (hl : x.cells.all = some l) :
    ∃ g C vs, ρ b = some (g, C) ∧ conL ρ l = some vs ∧ w.heap[g]? = some (.cells vs.toArray x.elem (0, 0)) := by
  obtain ⟨g, C, cur, fz, h1, h2, h3⟩ := r.at_ b x hb
  obtain ⟨k1, k2⟩ := Cel.all_get hl
  have hsz := h3.whole hw
  have hfz := h3.zero hw
  subst hfz
  have hv : conL ρ l = some cur.toList := by
    refine conL_of (by simp [k1, hsz]) fun j v u hv hu => ?_
    obtain ⟨u', e1, e2⟩ := h3.cell j v (k2 j v hv)
    rw [Array.getElem?_toList] at hu
    rw [hu] at e2
    simp at e2
    rw [e1, e2]
  exact ⟨g, C, cur.toList, h1, hv, by rw [h2]⟩
/-- Two blocks are written, and blocks made. -/
theorem Rel.two (r : Rel ρ h w) {o q p b Cp Cb : Nat} {xo xq xo' xq' : Blk} (ho : h.get o = some xo) (hq : h.get q = some xq) (ro : xo.rw = true) (rq : xq.rw = true) (hne : o ≠ q) (po : ρ o = some (p, Cp)) (pq : ρ q = some (b, Cb)) (hB : But p b w w')
    {co cq : Array Value} {fo fq : Nat × Nat} (go : w'.heap[p]? = some (.cells co xo'.elem fo)) (gq : w'.heap[b]? = some (.cells cq xq'.elem fq)) (bo : BlkIs ρ Cp xo' co fo) (bq : BlkIs ρ Cb xq' cq fq) :
    Rel ρ ((h.set q xq').set o xo') w' := by
  have old : ∀ c y, ((h.set q xq').set o xo').get c = some y → (c = o ∧ y = xo') ∨ (c = q ∧ y = xq') ∨ (c ≠ o ∧ c ≠ q ∧ h.get c = some y) := fun c y hc => by
    rcases H.get_set hc with ⟨h1, h2⟩ | ⟨h1, h2⟩
    · exact .inl ⟨h1, h2⟩
    · rcases H.get_set h2 with ⟨h3, h4⟩ | ⟨h3, h4⟩
      · exact .inr (.inl ⟨h3, h4⟩)
      · exact .inr (.inr ⟨h1, h3, h4⟩)
  have was : ∀ c y, ((h.set q xq').set o xo').get c = some y → ∃ y0, h.get c = some y0 := fun c y hc => by
    rcases old c y hc with ⟨rfl, _⟩ | ⟨rfl, _⟩ | ⟨_, _, h1⟩
    · exact ⟨_, ho⟩
    · exact ⟨_, hq⟩
    · exact ⟨_, h1⟩
  refine ⟨fun c y hc => ?_, fun c d y z g D E hc hd hpc hpd hcd => ?_⟩
  · rcases old c y hc with ⟨rfl, rfl⟩ | ⟨rfl, rfl⟩ | ⟨n1, n2, h1⟩
    · exact ⟨p, Cp, co, fo, po, go, bo⟩
    · exact ⟨b, Cb, cq, fq, pq, gq, bq⟩
    · obtain ⟨g, D, cur, fz, e1, e2, e3⟩ := r.at_ c y h1
      have np : g ≠ p := fun e => by
        subst e
        have := (r.inj c o y xo g D Cp h1 ho e1 po n1).2
        rw [ro] at this
        cases this
      have nb : g ≠ b := fun e => by
        subst e
        have := (r.inj c q y xq g D Cb h1 hq e1 pq n2).2
        rw [rq] at this
        cases this
      exact ⟨g, D, cur, fz, e1, by rw [hB.keep g (Array.getElem?_eq_some_iff.1 e2).1 np nb]; exact e2, e3⟩
  · obtain ⟨y0, hy0⟩ := was c y hc
    obtain ⟨z0, hz0⟩ := was d z hd
    obtain ⟨k1, k2⟩ := r.inj c d y0 z0 g D E hy0 hz0 hpc hpd hcd
    rcases old c y hc with ⟨rfl, rfl⟩ | ⟨rfl, rfl⟩ | ⟨n1, n2, h1⟩
    · rw [ho] at hy0; cases hy0; rw [ro] at k1; cases k1
    · rw [hq] at hy0; cases hy0; rw [rq] at k1; cases k1
    · rcases old d z hd with ⟨rfl, rfl⟩ | ⟨rfl, rfl⟩ | ⟨m1, m2, h2⟩
      · rw [ho] at hz0; cases hz0; rw [ro] at k2; cases k2
      · rw [hq] at hz0; cases hz0; rw [rq] at k2; cases k2
      · rw [h1] at hy0
        rw [h2] at hz0
        cases hy0
        cases hz0
        exact ⟨k1, k2⟩
theorem Ext.two {o q p b Cp Cb : Nat} {xo xq xo' xq' : Blk} (ho : h.get o = some xo) (hq : h.get q = some xq) (ro : xo.rw = true) (rq : xq.rw = true) (ro' : xo'.rw = true) (rq' : xq'.rw = true) (po : ρ o = some (p, Cp)) (pq : ρ q = some (b, Cb)) (hB : But p b w w') :
    Ext ρ h w ρ ((h.set q xq').set o xo') w' := by
  have old : ∀ c y, ((h.set q xq').set o xo').get c = some y → (c = o ∧ y = xo') ∨ (c = q ∧ y = xq') ∨ h.get c = some y := fun c y hc => by
    rcases H.get_set hc with ⟨h1, h2⟩ | ⟨h1, h2⟩
    · exact .inl ⟨h1, h2⟩
    · rcases H.get_set h2 with ⟨h3, h4⟩ | ⟨h3, h4⟩
      · exact .inr (.inl ⟨h3, h4⟩)
      · exact .inr (.inr h4)
  refine ⟨Pos.le_refl _, Nat.le_refl _, hB.os, hB.tape, hB.output, hB.size, fun k hk hn => hB.keep k hk (fun e => ?_) (fun e => ?_), fun c y k C hc hr hp hk => ?_, fun _ _ => rfl, fun c y hc hr => ?_⟩
  · subst e; exact hn o xo Cp ho ro po
  · subst e; exact hn q xq Cb hq rq pq
  · rcases old c y hc with ⟨rfl, rfl⟩ | ⟨rfl, rfl⟩ | h1
    · exact ⟨c, xo, C, ho, ro, hp⟩
    · exact ⟨c, xq, C, hq, rq, hp⟩
    · exact ⟨c, y, C, h1, hr, hp⟩
  · rcases old c y hc with ⟨rfl, rfl⟩ | ⟨rfl, rfl⟩ | h1
    · rw [ro'] at hr; cases hr
    · rw [rq'] at hr; cases hr
    · exact h1
end
/-! ### Words -/
def wordsOf : List AV → Option (List UInt32)
  | [] => some []
  | .int .u32 (.ofNat v) :: l => match Nat.blt v 4294967296, wordsOf l with
    | true, some ws => some (UInt32.ofNat v :: ws)
    | _, _ => none
  | _ :: _ => none
theorem wordsOf_con {ρ : Pos} : ∀ {l : List AV} {ws : List UInt32}, wordsOf l = some ws → conL ρ l = some (cw ws) ∧ ws.length = l.length
  | [], ws, h => by simp [wordsOf] at h; subst h; exact ⟨rfl, rfl⟩
  | a :: l, ws, h => by
    unfold wordsOf at h
    split at h
    · rename_i h1; cases h1
    · rename_i v l' h1
      simp only [List.cons.injEq] at h1
      obtain ⟨rfl, rfl⟩ := h1
      split at h
      · rename_i h2 h3
        simp only [Option.some.injEq] at h
        subst h
        obtain ⟨k1, k2⟩ := wordsOf_con (ρ := ρ) h3
        refine ⟨conL_mk ?_ k1, by simp [k2]⟩
        simp only [con]
        rw [UInt32.toNat_ofNat_of_lt' (blt_true h2)]
        rfl
      · cases h
    · cases h
/-- Words as cells, each made a numeral first. -/
def forceW {α : Type} : List UInt32 → (List AV → α) → α
  | [], k => k []
  | x :: l, k => match x.toNat with
    | 0 => forceW l fun r => k (.int .u32 (.ofNat 0) :: r)
    | n + 1 => forceW l fun r => k (.int .u32 (.ofNat (n + 1)) :: r)
def cellsW (l : List UInt32) : List AV := l.map fun x => .int .u32 (Int.ofNat x.toNat)
theorem forceW_eq {α : Type} : ∀ (l : List UInt32) (k : List AV → α), forceW l k = k (cellsW l)
  | [], k => rfl
  | x :: l, k => by
    unfold forceW
    split
    · rename_i h
      rw [forceW_eq l]
      simp [cellsW, h]
    · rename_i n h
      rw [forceW_eq l]
      simp [cellsW, h]
theorem cellsW_con {ρ : Pos} : ∀ (l : List UInt32), conL ρ (cellsW l) = some (cw l)
  | [] => rfl
  | x :: l => conL_mk rfl (cellsW_con l)
end Go.Proofs.Ytmkpopfaaebgfaa
