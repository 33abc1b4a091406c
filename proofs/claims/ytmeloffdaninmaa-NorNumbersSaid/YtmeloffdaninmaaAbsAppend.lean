/-
  The small machine's copy, append and conversions.
-/
import Derived.Test.YtmeloffdaninmaaAbsSlice
namespace Go.Proofs.Ytmeloffdaninmaa
open Go.RowKit
set_option linter.unusedVariables false

section
variable {P : Program} {ρ : Pos} {h : H} {w : World}

/-- Cells written into a block, if they have place. -/
def putA (h : H) (p : Nat × Nat) (l : List AV) : Option H := match h.get p.1 with
  | some x => match x.rw && Nat.ble (p.2 + l.length) x.cells.size && l.all AV.one with
    | true => some (h.set p.1 { x with cells := x.cells.sets p.2 l })
    | false => none
  | none => none
theorem putA_next {p : Nat × Nat} {l : List AV} {h' : H} (e : putA h p l = some h') : h'.next = h.next := by
  unfold putA at e
  split at e
  · split at e <;> simp at e
    subst e
    rfl
  · simp at e
theorem put_sound (r : Rel ρ h w) {p : Nat × Nat} {l : List AV} {vs : List Value} {h' : H} {g C : Nat} (hp : ρ p.1 = some (g, C)) (hv : conL ρ l = some vs) (e : putA h p l = some h') :
    ∃ w', (storeCells ⟨g, p.2, none⟩ vs 0).run P w = .ok () w' ∧ Rel ρ h' w' ∧ Ext ρ h w ρ h' w' := by
  unfold putA at e
  split at e
  · rename_i x hb
    split at e <;> simp at e
    rename_i hc
    simp only [Bool.and_eq_true] at hc
    subst e
    exact storeCells_sound (P := P) p.2 l vs 0 h w x r hb hc.1.1 hp hv (List.all_eq_true.1 hc.2) (by simpa using hc.1.2)
  · simp at e

/-! ### copy -/
def copyA (P : Program) (h : H) (dT : TypeId) (d x : AV) : Option (AV × H) := match P.underlying dT, d, countA x with
  | some (.slice e), .slice (some p) n (.is _), some m => match sizeA P e with
    | some s => match srcA h s (Nat.min m n) x with
      | some l => match putA h p l with
        | some h' => some (.int .i64 (Int.ofNat (Nat.min m n)), h')
        | none => none
      | none => none
    | none => none
  | some (.slice e), .slice (some p) n (.upTo _), some m => match sizeA P e with
    | some s => match srcA h s (Nat.min m n) x with
      | some l => match putA h p l with
        | some h' => some (.int .i64 (Int.ofNat (Nat.min m n)), h')
        | none => none
      | none => none
    | none => none
  | some (.slice e), .slice none n _, some m => match sizeA P e, Nat.beq (Nat.min m n) 0 with
    | some s, true => match srcA h s 0 x with
      | some _ => some (.int .i64 0, h)
      | none => none
    | _, _ => none
  | _, _, _ => none
theorem copy_sound (r : Rel ρ h w) {dT : TypeId} {d x v : AV} {u y : Value} {h' : H} (hu : con ρ d = some u) (hy : con ρ x = some y) (ts : Array TypeId) (ht : ts[0]? = some dT) (ty : TypeId) (e : copyA P h dT d x = some (v, h')) :
    Yields P (Builtin.copy_ ts ty #[u, y]) ρ h w v h' := by
  have key : ∀ (el : TypeId) (p : Nat × Nat) (n m s : Nat) (c : Cap), P.underlying dT = some (.slice el) → (∀ C, c.off C p.2 = p.2) → con ρ (.slice (some p) n c) = some u → countA x = some m → sizeA P el = some s → ∀ l h'', srcA h s (Nat.min m n) x = some l → putA h p l = some h'' → v = .int .i64 (Int.ofNat (Nat.min m n)) → h' = h'' → Yields P (Builtin.copy_ ts ty #[u, y]) ρ h w v h' := by
    intro el p n m s c hd hc hu hm hs l h'' hl hp hv hh
    subst hv hh
    obtain ⟨g, C, hp', rfl⟩ := con_sl hu
    rw [hc]
    obtain ⟨vs, h1, h2⟩ := src_sound (P := P) r hy hl
    obtain ⟨w', h3, h4, h5⟩ := put_sound (P := P) r hp' h2 hp
    refine ⟨ρ, .int .i64 (Nat.min m n : Nat), w', ?_, rfl, h4, h5, .inl ⟨rfl, putA_next hp⟩⟩
    simp only [Builtin.copy_, ht, List.getElem?_toArray, List.getElem?_cons_zero, List.getElem?_cons_succ, Sem.run_bind, run_underlying hd, Result.andThen_ok, count_sound hy hm, run_sizeOf hs, h1, h3, Sem.run_pure, goInt]
  unfold copyA at e
  split at e
  · rename_i el p n c m hd hm
    split at e
    · rename_i s hs
      split at e
      · rename_i l hl
        split at e <;> simp at e
        rename_i h'' hp
        exact key el p n m s _ hd (fun _ => rfl) hu hm hs l h'' hl hp e.1.symm e.2.symm
      · simp at e
    · simp at e
  · rename_i el p n c m hd hm
    split at e
    · rename_i s hs
      split at e
      · rename_i l hl
        split at e <;> simp at e
        rename_i h'' hp
        exact key el p n m s _ hd (fun _ => rfl) hu hm hs l h'' hl hp e.1.symm e.2.symm
      · simp at e
    · simp at e
  · rename_i el n c m hd hm
    split at e
    · rename_i s hs hz
      split at e <;> simp at e
      rename_i l hl
      obtain ⟨rfl, rfl⟩ := e
      obtain ⟨vs, h1, h2⟩ := src_sound (P := P) r hy hl
      have hz' : Nat.min m n = 0 := by simpa using hz
      cases c <;> simp [con] at hu
      subst hu
      refine Yields.same r (u := .int .i64 0) ?_ rfl
      simp only [Builtin.copy_, ht, List.getElem?_toArray, List.getElem?_cons_zero, List.getElem?_cons_succ, Sem.run_bind, run_underlying hd, Result.andThen_ok, count_sound hy hm, run_sizeOf hs, hz', h1, Sem.run_pure, goInt]
      rfl
    · simp at e
  · simp at e

/-! ### append -/
/-- What is known of the element's type. -/
structure Elem where
  size : Nat
  bytes : Nat
def elemA (P : Program) (sT xT : TypeId) : Option (TypeId × Elem) := match P.underlying sT with
  | some (.slice e) => match P.info? e, zeroA P e, P.underlying xT with
    | some i, some z, some (.slice _) => match Nat.beq z.cells.length i.size with
      | true => some (e, ⟨i.size, i.bytes⟩)
      | false => none
    | some i, some z, some .string => match Nat.beq z.cells.length i.size with
      | true => some (e, ⟨i.size, i.bytes⟩)
      | false => none
    | _, _, _ => none
  | _ => none
/-- A block of its own, with room that is not known. -/
def grownA (h : H) (e : TypeId) (s : Nat) (l : List AV) (n : Nat) : AV × H := (.slice (some (h.next, 0)) n (.upTo 0), h.push ⟨e, .list l, false, s, true⟩)
/-- To a list that is nil; whose room is known; whose room is not. -/
def appendNil (h : H) (e : TypeId) (el : Elem) (m : Nat) (l : List AV) : Option (AV × H) := match m with
  | 0 => some (.slice none 0 (.is 0), h)
  | m + 1 => match Nat.ble ((m + 1) * el.bytes) 140737488355328 && Nat.ble (m + 1) 9223372036854775807 with
    | true => some (grownA h e el.size l (m + 1))
    | false => none
def appendIs (h : H) (e : TypeId) (el : Elem) (m : Nat) (l : List AV) (p : Nat × Nat) (n c : Nat) : Option (AV × H) := match m with
  | 0 => match Nat.ble n c with
    | true => some (.slice (some p) n (.is c), h)
    | false => none
  | m + 1 => match Nat.ble (n + (m + 1)) c with
    | true => match putA h (p.1, p.2 + n * el.size) l with
      | some h' => some (.slice (some p) (n + (m + 1)) (.is c), h')
      | none => none
    | false => match Nat.ble ((n + (m + 1)) * el.bytes) 140737488355328 && Nat.ble (n + (m + 1)) 9223372036854775807, srcA h el.size n (.slice (some p) n (.is c)) with
      | true, some old => match Nat.beq old.length (n * el.size) with
        | true => some (grownA h e el.size (old ++ l) (n + (m + 1)))
        | false => none
      | _, _ => none
def appendTo (h : H) (e : TypeId) (el : Elem) (m : Nat) (l : List AV) (p : Nat × Nat) (n dd : Nat) : Option (AV × H) := match h.get p.1 with
  | some b => match !b.whole && b.rw && Nat.beq b.elem e && Nat.beq b.esz el.size && Nat.blt 0 el.size && Nat.beq p.2 (dd * el.size) with
    | true => match Nat.ble (p.2 + (n + m) * el.size) b.cells.size with
      | true => match m with
        | 0 => some (.slice (some p) n (.upTo dd), h)
        | m + 1 => match putA h (p.1, p.2 + n * el.size) l with
          | some h' => some (.slice (some p) (n + (m + 1)) (.upTo dd), h')
          | none => none
      | false => match dd, Nat.ble ((n + m) * el.bytes) 140737488355328 && Nat.ble (n + m) 9223372036854775807 && l.all AV.one, b.cells.range 0 (n * el.size) with
        | 0, true, some old => some (grownA (h.del p.1) e el.size (old ++ l) (n + m))
        | _, _, _ => none
    | false => none
  | none => none
def appendA (P : Program) (h : H) (sT xT : TypeId) (d x : AV) : Option (AV × H) := match elemA P sT xT, countA x with
  | some (e, el), some m => match srcA h el.size m x with
    | some l => match Nat.beq l.length (m * el.size) with
      | true => match d with
        | .slice none 0 (.is 0) => appendNil h e el m l
        | .slice (some p) n (.is c) => appendIs h e el m l p n c
        | .slice (some p) n (.upTo dd) => appendTo h e el m l p n dd
        | _ => none
      | false => none
    | none => none
  | _, _ => none

/-- The source's type is none of whole numbers. -/
def listy : TypeDesc → Bool
  | .slice _ | .string => true
  | _ => false
theorem run_append_more {sT xT ty el : TypeId} {d2 : TypeDesc} {i : TypeInfo} {z : Value} {ts : Array TypeId} (t0 : ts[0]? = some sT) (t1 : ts[1]? = some xT) (hd : P.underlying sT = some (.slice el)) (hx : P.underlying xT = some d2) (hl : listy d2 = true)
    (hi : P.info? el = some i) (hz : i.zero = some z) {base : Option Addr} {n cap m : Nat} {y : Value} {olds news : Array Value} (hc : (Builtin.lenOf y).run P w = .ok m w)
    (ho : (Builtin.firstCells i.size n (.slice base n cap)).run P w.drew = .ok olds w.drew) (hn : (Builtin.firstCells i.size m y).run P w.drew = .ok news w.drew)
    (hgt : cap < n + m) (h63 : n + m ≤ 9223372036854775807) (hb : (n + m) * i.bytes ≤ 140737488355328) :
    (Builtin.append_ ts ty #[.slice base n cap, y]).run P w = .ok (.slice (some ⟨w.heap.size, 0, none⟩) (n + m) (grownCap w (n + m) cap el))
      (w.drew.alloc (.cells (olds ++ news ++ Builtin.zeroCells z.cells (grownCap w (n + m) cap el - (n + m))) el)) := by
  have hroom : ¬ (n + m ≤ cap) := by omega
  have h63' : ¬ (9223372036854775807 < ((n : Int) + (m : Int))) := by omega
  have hfit := growslice_fits hgt hb
  have h48' : ¬ (281474976710656 < Builtin.nextslicecap (n + m) cap * i.bytes) := by omega
  cases d2 <;> simp [listy] at hl <;>
    simp [Builtin.append_, t0, t1, run_underlying hd, run_underlying hx, sizeOf, typeInfo, zeroValue, hi, hz, hc, hroom, h63', h48', Question.forced, ho, hn, newRow, grownCap]
theorem run_append_in {sT xT ty el : TypeId} {d2 : TypeDesc} {i : TypeInfo} {ts : Array TypeId} (t0 : ts[0]? = some sT) (t1 : ts[1]? = some xT) (hd : P.underlying sT = some (.slice el)) (hx : P.underlying xT = some d2) (hl : listy d2 = true)
    (hi : P.info? el = some i) {a : Addr} {n cap m : Nat} {y : Value} {news : List Value} (hc : (Builtin.lenOf y).run P w = .ok m w) (hn : (Builtin.firstCells i.size m y).run P w = .ok news.toArray w) {w' : World}
    (hs : (storeCells (a.add (n * i.size)) news 0).run P w = .ok () w') (hle : n + m ≤ cap) :
    (Builtin.append_ ts ty #[.slice (some a) n cap, y]).run P w = .ok (.slice (some a) (n + m) cap) w' := by
  cases d2 <;> simp [listy] at hl <;>
    simp [Builtin.append_, t0, t1, run_underlying hd, run_underlying hx, sizeOf, typeInfo, hi, hc, hle, hn, hs]
theorem run_append_none {sT xT ty el : TypeId} {d2 : TypeDesc} {i : TypeInfo} {ts : Array TypeId} (t0 : ts[0]? = some sT) (t1 : ts[1]? = some xT) (hd : P.underlying sT = some (.slice el)) (hx : P.underlying xT = some d2) (hl : listy d2 = true)
    (hi : P.info? el = some i) {y : Value} (hc : (Builtin.lenOf y).run P w = .ok 0 w) {news : Array Value} (hn : (Builtin.firstCells i.size 0 y).run P w = .ok news w) :
    (Builtin.append_ ts ty #[.slice none 0 0, y]).run P w = .ok (.slice none 0 0) w := by
  cases d2 <;> simp [listy] at hl <;>
    simp [Builtin.append_, t0, t1, run_underlying hd, run_underlying hx, sizeOf, typeInfo, hi, hc, hn]

/-- Cells stored into a row, wherever in it. -/
theorem run_storeCells_free (g : Nat) (e : TypeId) (fz : Nat × Nat) (o : Nat) : ∀ (vs : List Value) (i : Nat) (w : World) (cur : Array Value), w.heap[g]? = some (.cells cur e fz) → (fz.1 = fz.2 ∨ cur.size ≤ fz.1) → o + i + vs.length ≤ cur.size → (∀ v ∈ vs, v.oneCell' = true) →
    ∃ w' cur', (storeCells ⟨g, o, none⟩ vs i).run P w = .ok () w' ∧ w'.heap[g]? = some (.cells cur' e fz) ∧ cur'.size = cur.size ∧ (∀ j u, vs[j]? = some u → cur'[o + i + j]? = some u) ∧ (∀ j, j < o + i → cur'[j]? = cur[j]?) ∧
      (∀ k, k ≠ g → w'.heap[k]? = w.heap[k]?) ∧ w'.os = w.os ∧ w'.tape = w.tape ∧ w'.output = w.output ∧ w.heap.size ≤ w'.heap.size
  | [], i, w, cur, hg, hf, hl, h1 => ⟨w, cur, rfl, hg, rfl, fun j u hj => by simp at hj, fun _ _ => rfl, fun _ _ => rfl, rfl, rfl, rfl, Nat.le_refl _⟩
  | v :: vs, i, w, cur, hg, hf, hl, h1 => by
    simp only [List.length_cons] at hl
    have hlt : o + i < cur.size := by omega
    have hcell : w.cell? ⟨g, o + i, none⟩ = some cur[o + i] := by rw [cell_of_row w g (o + i) cur e fz hg]; simp [hlt]
    have hrun : (store ⟨g, o + i, none⟩ v).run P w = .ok () (w.setCell ⟨g, o + i, none⟩ v) := by
      rw [run_store P w _ v .plain (h1 v (by simp)), hcell]
      simp [notFrozen hg hf hlt]
    have hg' : (w.setCell ⟨g, o + i, none⟩ v).heap[g]? = some (.cells (cur.setIfInBounds (o + i) v) e fz) := by
      simp only [World.setCell, Array.getElem?_modify, if_true, hg, Option.map_some]
      rfl
    obtain ⟨w', cur', e1, e2, e3, e4, e5, e6, e7, e8, e9, e10⟩ := run_storeCells_free g e fz o vs (i + 1) (w.setCell ⟨g, o + i, none⟩ v) (cur.setIfInBounds (o + i) v) hg' (by simpa using hf) (by simp; omega) (fun u hu => h1 u (by simp [hu]))
    refine ⟨w', cur', ?_, e2, by simpa using e3, fun j u hj => ?_, fun j hj => ?_, fun k hk => ?_, e7, e8, e9, ?_⟩
    · simp only [storeCells]
      rw [Sem.run_bind, Addr.add_lit, hrun]
      exact e1
    · rcases j with _ | j
      · simp at hj
        subst hj
        have := e5 (o + i) (by omega)
        simp only [Nat.add_zero]
        rw [this]
        simp [hlt]
      · have := e4 j u (by simpa using hj)
        rwa [show o + (i + 1) + j = o + i + (j + 1) from by omega] at this
    · rw [e5 j (by omega), Array.getElem?_setIfInBounds_ne (by omega)]
    · rw [e6 k hk, heap_setCell_other w _ k v hk]
    · simpa [World.setCell] using e10

theorem BlkIs.grown {e : TypeId} {s C : Nat} {l : List AV} {vs : List Value} {cur : Array Value} {fz : Nat × Nat} (hv : conL ρ l = some vs) (hf : fz.1 = fz.2 ∨ cur.size ≤ fz.1) (hs : cur.size = C * s) (hC : C ≤ maxLen) (hle : l.length ≤ cur.size) (hc : ∀ (j : Nat) (u : Value), vs[j]? = some u → cur[j]? = some u) :
    BlkIs ρ C ⟨e, .list l, false, s, true⟩ cur fz :=
  ⟨fun _ => hf, hle, fun k => by simp at k, fun _ => ⟨hs, hC⟩, fun j v hj => by
    obtain ⟨u, h1, h2⟩ := conL_get hv j v hj
    exact ⟨u, h1, hc j u h2⟩⟩
/-- A block that has grown where it was. -/
theorem Rel.regrow (r : Rel ρ h w) (hn0 : ρ h.next = none) {b g C : Nat} {x x' : Blk} (hb : h.get b = some x) (hr : x.rw = true) (hp : ρ b = some (g, C)) {w' : World} (cur' : Array Value) (fz' : Nat × Nat)
    (hg : w'.heap[g]? = some (.cells cur' x'.elem fz')) (hk : ∀ k, k ≠ g → w'.heap[k]? = w.heap[k]?) (hr' : x'.rw = true) (hx : BlkIs ρ C x' cur' fz') : Rel (ρ.put h.next (g, C)) ((h.del b).push x') w' := by
  have l : ρ.le (ρ.put h.next (g, C)) := Pos.le_put _ hn0
  have hget : ∀ {c y}, ((h.del b).push x').get c = some y → (c = h.next ∧ y = x') ∨ (c ≠ h.next ∧ c ≠ b ∧ h.get c = some y) := fun {c y} e => by
    rcases H.get_push e with ⟨h1, h2⟩ | ⟨h1, h2⟩
    · exact .inl ⟨h1, h2⟩
    · exact .inr ⟨h1, H.get_del h2⟩
  have hne : ∀ {c y q D}, c ≠ b → h.get c = some y → ρ c = some (q, D) → q ≠ g := fun {c y q D} hc hy hq e => by
    subst e
    have := (r.inj b c x y q C D hb hy hp hq (Ne.symm hc)).1
    rw [hr] at this
    cases this
  refine ⟨fun c y hc => ?_, fun c d y z q D E hc hd hpc hpd hn => ?_⟩
  · rcases hget hc with ⟨rfl, rfl⟩ | ⟨h1, h2, h3⟩
    · exact ⟨g, C, cur', fz', Pos.put_self _ _ _, hg, hx.mono l⟩
    · obtain ⟨q, D, cu, fz, k1, k2, k3⟩ := r.at_ c y h3
      exact ⟨q, D, cu, fz, by rw [Pos.put_ne _ _ h1]; exact k1, by rw [hk q (hne h2 h3 k1)]; exact k2, k3.mono l⟩
  · rcases hget hc with ⟨rfl, rfl⟩ | ⟨h1, h2, h3⟩
    · rw [Pos.put_self] at hpc
      rcases hget hd with ⟨rfl, rfl⟩ | ⟨k1, k2, k3⟩
      · exact absurd rfl hn
      · rw [Pos.put_ne _ _ k1] at hpd
        simp at hpc
        exact absurd hpc.1.symm (hne k2 k3 hpd)
    · rw [Pos.put_ne _ _ h1] at hpc
      rcases hget hd with ⟨rfl, rfl⟩ | ⟨k1, k2, k3⟩
      · rw [Pos.put_self] at hpd
        simp at hpd
        exact absurd hpd.1.symm (hne h2 h3 hpc)
      · rw [Pos.put_ne _ _ k1] at hpd
        exact r.inj c d y z q D E h3 k3 hpc hpd hn
theorem Ext.regrow (r : Rel ρ h w) (hn0 : ρ h.next = none) {b g C : Nat} {x x' : Blk} (hb : h.get b = some x) (hr : x.rw = true) (hr' : x'.rw = true) (hp : ρ b = some (g, C)) {w' : World}
    (h1 : w'.os = w.os) (h2 : w'.tape = w.tape) (h3 : w'.output = w.output) (hs : w.heap.size ≤ w'.heap.size) (hk : ∀ k, k ≠ g → w'.heap[k]? = w.heap[k]?) : Ext ρ h w (ρ.put h.next (g, C)) ((h.del b).push x') w' := by
  refine ⟨Pos.le_put _ hn0, Nat.le_succ _, h1, h2, h3, hs, fun k _ hn => hk k (fun e => hn b x C hb hr (by rw [e]; exact hp)), fun c y k D hc hrc hpc hkl => ?_, fun c hc => Pos.put_ne _ _ (Nat.ne_of_lt hc), fun c y hc hrc => ?_⟩
  · rcases H.get_push hc with ⟨rfl, rfl⟩ | ⟨hn, hc'⟩
    · have hpc' : (ρ.put h.next (g, C)) h.next = some (k, D) := hpc
      rw [Pos.put_self] at hpc'
      simp at hpc'
      exact ⟨b, x, C, hb, hr, by rw [← hpc'.1]; exact hp⟩
    · have hpc' : (ρ.put h.next (g, C)) c = some (k, D) := hpc
      have hn' : c ≠ h.next := hn
      rw [Pos.put_ne _ _ hn'] at hpc'
      exact ⟨c, y, D, (H.get_del hc').2, hrc, hpc'⟩
  · rcases H.get_push hc with ⟨rfl, rfl⟩ | ⟨hn, hc'⟩
    · rw [hr'] at hrc
      cases hrc
    · exact (H.get_del hc').2
theorem Ext.del (r : Rel ρ h w) (b : Nat) : Ext ρ h w ρ (h.del b) w :=
  ⟨Pos.le_refl _, Nat.le_refl _, rfl, rfl, rfl, Nat.le_refl _, fun _ _ _ => rfl, fun c y k D hc hr hp _ => ⟨c, y, D, (H.get_del hc).2, hr, hp⟩, fun _ _ => rfl, fun _ _ hc _ => (H.get_del hc).2⟩

theorem elem_out {sT xT el : TypeId} {E : Elem} (e : elemA P sT xT = some (el, E)) : ∃ d2 i z, P.underlying sT = some (.slice el) ∧ P.underlying xT = some d2 ∧ listy d2 = true ∧ P.info? el = some i ∧ i.zero = some z ∧ E = ⟨i.size, i.bytes⟩ ∧ z.cells.size = i.size := by
  unfold elemA at e
  split at e
  · rename_i el' hd
    have key : ∀ (i : TypeInfo) (z : AV) (d2 : TypeDesc), P.info? el' = some i → zeroA P el' = some z → P.underlying xT = some d2 → listy d2 = true → (match Nat.beq z.cells.length i.size with
        | true => some (el', (⟨i.size, i.bytes⟩ : Elem))
        | false => none) = some (el, E) → ∃ d2 i z, P.underlying sT = some (.slice el) ∧ P.underlying xT = some d2 ∧ listy d2 = true ∧ P.info? el = some i ∧ i.zero = some z ∧ E = ⟨i.size, i.bytes⟩ ∧ z.cells.size = i.size := by
      intro i z d2 hi hz hx hl e
      split at e <;> simp at e
      rename_i hb
      obtain ⟨rfl, rfl⟩ := e
      unfold zeroA at hz
      simp only [hi] at hz
      split at hz
      · rename_i u hu
        have hlen := conL_length (con_cells (avOf_con hz (fun _ => none)))
        refine ⟨d2, i, u, hd, hx, hl, hi, hu, rfl, ?_⟩
        have hb' : z.cells.length = i.size := by simpa using hb
        rw [← hb']
        simpa using hlen
      · simp at hz
    split at e
    · rename_i i z _ hi hz hx
      exact key i z _ hi hz hx rfl e
    · rename_i i z hi hz hx
      exact key i z _ hi hz hx rfl e
    · simp at e
  · simp at e
/-- The new block of an append that had no room. -/
theorem grow_sound (r : Rel ρ h w) (hn0 : ρ h.next = none) {sT xT ty el : TypeId} {d2 : TypeDesc} {i : TypeInfo} {z : Value} {ts : Array TypeId} (t0 : ts[0]? = some sT) (t1 : ts[1]? = some xT) (hd : P.underlying sT = some (.slice el)) (hx : P.underlying xT = some d2) (hl : listy d2 = true)
    (hi : P.info? el = some i) (hz : i.zero = some z) (hzs : z.cells.size = i.size) {base : Option Addr} {n cap m : Nat} {y : Value} {olds news : List Value} (hc : (Builtin.lenOf y).run P w = .ok m w)
    (ho : (Builtin.firstCells i.size n (.slice base n cap)).run P w.drew = .ok olds.toArray w.drew) (hn : (Builtin.firstCells i.size m y).run P w.drew = .ok news.toArray w.drew)
    (hgt : cap < n + m) (h63 : n + m ≤ 9223372036854775807) (hb : (n + m) * i.bytes ≤ 140737488355328) {lo ln : List AV} (hlo : conL ρ lo = some olds) (hln : conL ρ ln = some news) (hol : olds.length = n * i.size) (hnl : news.length = m * i.size) :
    Yields P (Builtin.append_ ts ty #[.slice base n cap, y]) ρ h w (grownA h el i.size (lo ++ ln) (n + m)).1 (grownA h el i.size (lo ++ ln) (n + m)).2 := by
  have hrun := run_append_more (P := P) (w := w) (ty := ty) t0 t1 hd hx hl hi hz hc ho hn hgt h63 hb
  have hge := grownCap_ge w (n + m) cap el
  have hcm : grownCap w (n + m) cap el ≤ maxLen := grownCap_le_maxLen w (n + m) cap el h63
  generalize grownCap w (n + m) cap el = C at hrun hge hcm
  have hsz : (olds.toArray ++ news.toArray ++ Builtin.zeroCells z.cells (C - (n + m))).size = C * i.size := by
    simp only [Array.size_append, List.size_toArray, size_zeroCells, hzs, hol, hnl, ← Nat.add_mul]
    congr 1
    omega
  have hB : BlkIs ρ C ⟨el, .list (lo ++ ln), false, i.size, true⟩ (olds.toArray ++ news.toArray ++ Builtin.zeroCells z.cells (C - (n + m))) (0, 0) := by
    have hcl := conL_append hlo hln
    refine BlkIs.grown hcl (.inl rfl) hsz hcm ?_ fun j u hj => ?_
    · rw [← conL_length hcl, hsz]
      simp only [List.length_append, hol, hnl, ← Nat.add_mul]
      exact Nat.mul_le_mul_right _ hge
    · rw [Array.getElem?_append_left (by
        have := (List.getElem?_eq_some_iff.1 hj).1
        simpa using this)]
      simpa using hj
  exact ⟨_, _, _, hrun, by simp [grownA, con, Pos.put_self, Cap.at_, Cap.off], r.push hn0 _ C w.drew rfl _ _ hB, Ext.push r hn0 _ rfl C w.drew rfl rfl rfl rfl _ _, .inr ⟨_, rfl, rfl⟩⟩

theorem ble_and {a b c d : Nat} (e : (Nat.ble a b && Nat.ble c d) = true) : a ≤ b ∧ c ≤ d := by
  simp only [Bool.and_eq_true] at e
  exact ⟨Nat.le_of_ble_eq_true e.1, Nat.le_of_ble_eq_true e.2⟩
theorem append_sound (r : Rel ρ h w) (hn0 : ρ h.next = none) {sT xT : TypeId} {d x v : AV} {u y : Value} {h' : H} (hu : con ρ d = some u) (hy : con ρ x = some y) (ts : Array TypeId) (t0 : ts[0]? = some sT) (t1 : ts[1]? = some xT) (ty : TypeId) (e : appendA P h sT xT d x = some (v, h')) :
    Yields P (Builtin.append_ ts ty #[u, y]) ρ h w v h' := by
  unfold appendA at e
  split at e
  · rename_i el E m he hm
    obtain ⟨d2, i, z, hd, hx, hl, hi, hz, rfl, hzs⟩ := elem_out he
    simp only at e
    split at e
    · rename_i l hsrc
      split at e
      · rename_i hlen
        have hlen2 : l.length = m * i.size := by simpa using hlen
        clear hlen
        have hcount := fun w => count_sound (P := P) (w := w) hy hm
        obtain ⟨vs, hv1, hv2⟩ := src_sound (P := P) r hy hsrc
        obtain ⟨vs', hv3, hv4⟩ := src_sound (P := P) (r.heap (w' := w.drew) rfl) hy hsrc
        have hvv : vs' = vs := by rw [hv2] at hv4; simpa using hv4.symm
        subst hvv
        have hvl : vs'.length = m * i.size := by rw [conL_length hv2, hlen2]
        split at e
        · simp [con] at hu
          subst hu
          unfold appendNil at e
          split at e
          · simp at e
            obtain ⟨rfl, rfl⟩ := e
            exact Yields.same r (run_append_none (P := P) (w := w) (ty := ty) t0 t1 hd hx hl hi (hcount w) hv1) rfl
          · rename_i m
            split at e <;> simp only [Option.some.injEq, reduceCtorEq] at e
            rename_i hb
            obtain ⟨b1, b2⟩ := ble_and hb
            have := grow_sound (P := P) (ty := ty) (base := none) (n := 0) (cap := 0) (olds := []) (lo := []) r hn0 t0 t1 hd hx hl hi hz hzs (hcount w) (by simp [Builtin.firstCells]) hv3 (by omega) (by omega) (by simpa using b1) rfl hv2 (by simp) hvl
            simp only [Nat.zero_add, List.nil_append] at this
            rw [e] at this
            exact this
        · rename_i p n c
          obtain ⟨g, C, hp, rfl⟩ := con_sl hu
          unfold appendIs at e
          split at e
          · split at e <;> simp only [Option.some.injEq, reduceCtorEq, Prod.mk.injEq] at e
            rename_i hle
            obtain ⟨rfl, rfl⟩ := e
            have hle : n ≤ c := Nat.le_of_ble_eq_true hle
            have h0 : vs' = [] := List.eq_nil_of_length_eq_zero (by rw [hvl]; simp)
            subst h0
            have := run_append_in (P := P) (w := w) (w' := w) (ty := ty) (a := ⟨g, p.2, none⟩) (n := n) (cap := c) t0 t1 hd hx hl hi (hcount w) hv1 rfl (by omega)
            exact Yields.same r (by simpa [Cap.off, Cap.at_] using this) (by simp [con, hp, Cap.off, Cap.at_])
          · rename_i m
            split at e
            · rename_i hle
              have hle : n + (m + 1) ≤ c := Nat.le_of_ble_eq_true hle
              split at e <;> simp only [Option.some.injEq, reduceCtorEq, Prod.mk.injEq] at e
              rename_i h'' hput
              obtain ⟨rfl, rfl⟩ := e
              obtain ⟨w', s1, s2, s3⟩ := put_sound (P := P) (p := (p.1, p.2 + n * i.size)) r hp hv2 hput
              have := run_append_in (P := P) (w := w) (w' := w') (ty := ty) (a := ⟨g, p.2, none⟩) (n := n) (cap := c) t0 t1 hd hx hl hi (hcount w) hv1 (by rw [Addr.add_lit]; exact s1) hle
              exact ⟨ρ, _, w', this, by simp [con, hp, Cap.off, Cap.at_], s2, s3, .inl ⟨rfl, putA_next hput⟩⟩
            · rename_i hle
              have hlt : c < n + (m + 1) := by
                rcases Nat.lt_or_ge c (n + (m + 1)) with k | k
                · exact k
                · rw [Nat.ble_eq_true_of_le k] at hle; cases hle
              split at e
              · rename_i old hb hold
                obtain ⟨b1, b2⟩ := ble_and hb
                split at e <;> simp only [Option.some.injEq, reduceCtorEq] at e
                rename_i hol
                obtain ⟨os, ho1, ho2⟩ := src_sound (P := P) (r.heap (w' := w.drew) rfl) hu hold
                have := grow_sound (P := P) (ty := ty) r hn0 t0 t1 hd hx hl hi hz hzs (hcount w) ho1 hv3 hlt b2 b1 ho2 hv2 (by rw [conL_length ho2]; simpa using hol) hvl
                rw [e] at this
                exact this
              · simp at e
        · rename_i p n dd
          obtain ⟨g, C, hp, rfl⟩ := con_sl hu
          unfold appendTo at e
          split at e
          · rename_i b hb
            split at e
            · rename_i hc
              simp only [Bool.and_eq_true] at hc
              obtain ⟨⟨⟨⟨⟨d1, c2⟩, d3⟩, d4⟩, d5⟩, d6⟩ := hc
              have c1 : b.whole = false := by simpa using d1
              have c3 : b.elem = el := by simpa using d3
              have c4 : b.esz = i.size := by simpa using d4
              have c5 : 0 < i.size := blt_true d5
              have c6 : p.2 = dd * i.size := by simpa using d6
              clear d1 d3 d4 d5 d6
              obtain ⟨g', C', cur, fz, hp', hg, hB⟩ := r.at_ _ b hb
              rw [hp] at hp'
              simp at hp'
              obtain ⟨rfl, rfl⟩ := hp'
              have hcur := hB.more c1
              rw [c4] at hcur
              split at e
              · rename_i hfit
                have hfit : p.2 + (n + m) * i.size ≤ b.cells.size := Nat.le_of_ble_eq_true hfit
                have hroom : n + m ≤ C - dd := by
                  have h4 := hB.fits
                  rw [hcur.1] at h4
                  have h5 : (dd + (n + m)) * i.size ≤ C * i.size := by rw [Nat.add_mul, ← c6]; omega
                  have h6 := Nat.le_of_mul_le_mul_right h5 c5
                  omega
                split at e
                · simp only [Option.some.injEq, Prod.mk.injEq] at e
                  obtain ⟨rfl, rfl⟩ := e
                  have h0 : vs' = [] := List.eq_nil_of_length_eq_zero (by rw [hvl]; simp)
                  subst h0
                  have := run_append_in (P := P) (w := w) (w' := w) (ty := ty) (a := ⟨g, p.2, none⟩) (n := n) (cap := C - dd) t0 t1 hd hx hl hi (hcount w) hv1 rfl hroom
                  exact Yields.same r (by simpa [Cap.off, Cap.at_] using this) (by simp [con, hp, Cap.off, Cap.at_])
                · rename_i m
                  split at e <;> simp only [Option.some.injEq, reduceCtorEq, Prod.mk.injEq] at e
                  rename_i h'' hput
                  obtain ⟨rfl, rfl⟩ := e
                  obtain ⟨w', s1, s2, s3⟩ := put_sound (P := P) (p := (p.1, p.2 + n * i.size)) r hp hv2 hput
                  have := run_append_in (P := P) (w := w) (w' := w') (ty := ty) (a := ⟨g, p.2, none⟩) (n := n) (cap := C - dd) t0 t1 hd hx hl hi (hcount w) hv1 (by rw [Addr.add_lit]; exact s1) hroom
                  exact ⟨ρ, _, w', this, by simp [con, hp, Cap.off, Cap.at_], s2, s3, .inl ⟨rfl, putA_next hput⟩⟩
              · split at e <;> simp only [Option.some.injEq, reduceCtorEq] at e
                rename_i old hb2 hold
                simp only [Bool.and_eq_true] at hb2
                obtain ⟨⟨b1, b2⟩, b3⟩ := hb2
                have b1 : (n + m) * i.bytes ≤ 140737488355328 := Nat.le_of_ble_eq_true b1
                have b2 : n + m ≤ 9223372036854775807 := Nat.le_of_ble_eq_true b2
                have hp2 : p.2 = 0 := by rw [c6]; simp
                have hone : ∀ u ∈ vs', u.oneCell' = true := fun u hu => by
                  obtain ⟨j, hj, rfl⟩ := List.mem_iff_getElem.1 hu
                  have hjl : j < l.length := by rw [← conL_length hv2]; exact hj
                  obtain ⟨u', q1, q2⟩ := conL_get hv2 j _ (List.getElem?_eq_getElem hjl)
                  rw [List.getElem?_eq_getElem hj] at q2
                  simp at q2
                  rw [q2]
                  exact con_one q1 (List.all_eq_true.1 b3 _ (List.getElem_mem _))
                have hold2 : b.cells.range (p.1, p.2).2 (n * i.size) = some old := by simpa [hp2] using hold
                obtain ⟨os, ho1, ho2⟩ := range_src (P := P) (n := 0) (p := (p.1, p.2)) (r.heap (w' := w.drew) rfl) hp hb hold2 n C
                have hol : os.length = n * i.size := by rw [conL_length ho2, (Cel.range_get hold).1]
                have hcl := conL_append ho2 hv2
                by_cases hroom : n + m ≤ C
                · obtain ⟨w', cur', e1, e2, e3, e4, e5, e6, e7, e8, e9, e10⟩ := run_storeCells_free (P := P) g b.elem fz (n * i.size) vs' 0 w cur hg (hB.free c2) (by
                    rw [hcur.1, hvl, Nat.add_zero, ← Nat.add_mul]
                    exact Nat.mul_le_mul_right _ hroom) hone
                  have hB' : BlkIs ρ C ⟨el, .list (old ++ l), false, i.size, true⟩ cur' fz := by
                    refine BlkIs.grown hcl (by rw [e3]; exact hB.free c2) (by rw [e3]; exact hcur.1) hcur.2 ?_ fun j u hj => ?_
                    · rw [← conL_length hcl, e3, hcur.1]
                      simp only [List.length_append, hol, hvl, ← Nat.add_mul]
                      exact Nat.mul_le_mul_right _ hroom
                    · rcases Nat.lt_or_ge j os.length with k | k
                      · rw [List.getElem?_append_left k] at hj
                        rw [e5 j (by rw [hol] at k; omega)]
                        have k' : j < old.length := by rw [← conL_length ho2]; exact k
                        obtain ⟨u', q1, q2⟩ := conL_get ho2 j _ (List.getElem?_eq_getElem k')
                        have q3 := (Cel.range_get hold).2 j _ (List.getElem?_eq_getElem k')
                        obtain ⟨u2, q4, q5⟩ := hB.cell _ _ q3
                        rw [q1] at q4
                        rw [hj] at q2
                        simp at q4 q2
                        rw [Nat.zero_add] at q5
                        rw [q5, ← q4, ← q2]
                      · rw [List.getElem?_append_right k] at hj
                        have := e4 _ u hj
                        rw [hol] at this
                        rwa [show n * i.size + 0 + (j - n * i.size) = j from by rw [hol] at k; omega] at this
                  have hrun := run_append_in (P := P) (w := w) (w' := w') (ty := ty) (a := ⟨g, 0, none⟩) (n := n) (cap := C) t0 t1 hd hx hl hi (hcount w) hv1 (by rw [Addr.add_lit, Nat.zero_add]; exact e1) hroom
                  have hR := r.regrow hn0 (x' := ⟨el, .list (old ++ l), false, i.size, true⟩) hb c2 hp cur' fz (by rw [← c3]; exact e2) e6 rfl hB'
                  have hX := Ext.regrow (x' := ⟨el, .list (old ++ l), false, i.size, true⟩) r hn0 hb c2 rfl hp e7 e8 e9 e10 e6
                  simp only [grownA, Prod.mk.injEq] at e
                  obtain ⟨rfl, rfl⟩ := e
                  refine ⟨_, .slice (some ⟨g, 0, none⟩) (n + m) C, w', ?_, ?_, hR, hX, .inr ⟨_, rfl, rfl⟩⟩
                  · simpa [Cap.off, Cap.at_, hp2] using hrun
                  · show con (ρ.put h.next (g, C)) (.slice (some (h.next, 0)) (n + m) (.upTo 0)) = _
                    simp [con, Pos.put_self, Cap.off, Cap.at_]
                · have hG := grow_sound (P := P) (ty := ty) (base := some ⟨g, 0, none⟩) (n := n) (cap := C) (r.del p.1) hn0 t0 t1 hd hx hl hi hz hzs (hcount w) (by simpa [hp2] using ho1) hv3 (by omega) b2 b1 ho2 hv2 hol hvl
                  obtain ⟨ρ', u', w', g1, g2, g3, g4, g5⟩ := hG
                  rw [e] at g2 g3 g4 g5
                  exact ⟨ρ', u', w', by simpa [Cap.off, Cap.at_, hp2] using g1, g2, g3, (Ext.del r p.1).trans g4, g5⟩
            · simp at e
          · simp at e
        · simp at e
      · simp at e
    · simp at e
  · simp at e
end
end Go.Proofs.Ytmeloffdaninmaa
