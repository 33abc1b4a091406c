/-
  The small machine's places and slices: fields, elements, cuts, lengths, conversions, copy and append.
-/
import Derived.Test.YtmeloffdaninmaaAbsNew
import Derived.Laws.Append
namespace Go.Proofs.Ytmeloffdaninmaa
open Go.RowKit
set_option linter.unusedVariables false

section
variable {P : Program} {ρ : Pos} {h : H} {w : World}

theorem con_ptr {p : Nat × Nat} {u : Value} (e : con ρ (.pointer (some p)) = some u) : ∃ g C, ρ p.1 = some (g, C) ∧ u = .pointer (some ⟨g, p.2, none⟩) := by
  simp only [con, Option.map_eq_some_iff] at e
  obtain ⟨g, hg, rfl⟩ := e
  exact ⟨g.1, g.2, hg, rfl⟩
theorem con_sl {p : Nat × Nat} {n : Nat} {c : Cap} {u : Value} (e : con ρ (.slice (some p) n c) = some u) : ∃ g C, ρ p.1 = some (g, C) ∧ u = .slice (some ⟨g, c.off C p.2, none⟩) n (c.at_ C) := by
  simp only [con, Option.map_eq_some_iff] at e
  obtain ⟨g, hg, rfl⟩ := e
  exact ⟨g.1, g.2, hg, rfl⟩

/-! ### Places -/
def fieldAtA (P : Program) (t : TypeId) (f : Nat) : AV → Option AV
  | .pointer (some p) => match P.underlying t with
    | some (.struct ⟨fields⟩) => match fields[f]? with
      | some fl => match sizeA P fl.type with
        | some (_ + 1) => some (.pointer (some (p.1, p.2 + fl.offset)))
        | _ => none
      | none => none
    | _ => none
  | _ => none
theorem fieldAt_sound {t : TypeId} {f : Nat} {x v : AV} {u : Value} (hu : con ρ x = some u) (e : fieldAtA P t f x = some v) : ∃ y, (Instr.fieldAt t u f).run P w = .ok y w ∧ con ρ v = some y := by
  unfold fieldAtA at e
  split at e
  · rename_i p
    obtain ⟨g, C, hp, rfl⟩ := con_ptr hu
    split at e
    · rename_i fields hd
      split at e
      · rename_i fl hfl
        split at e <;> simp at e
        rename_i s hs
        subst e
        refine ⟨.pointer (some ⟨g, p.2 + fl.offset, none⟩), ?_, by simp [con, hp]⟩
        have h1 : (⟨fields⟩ : Array Field)[f]? = some fl := by simpa using hfl
        simp [Instr.fieldAt, run_underlying hd, h1, Instr.sureAddr, fieldPlace, run_sizeOf hs, Addr.add_lit]
      · simp at e
    · simp at e
  · simp at e
def indexAtA (P : Program) (t : TypeId) (x i : AV) : Option AV := match P.underlying t, x, i with
  | some (.slice e), .slice (some p) n (.is _), .int _ (.ofNat j) => match Nat.blt j n, sizeA P e with
    | true, some s => some (.pointer (some (p.1, p.2 + j * s)))
    | _, _ => none
  | some (.slice e), .slice (some p) n (.upTo _), .int _ (.ofNat j) => match Nat.blt j n, sizeA P e with
    | true, some s => some (.pointer (some (p.1, p.2 + j * s)))
    | _, _ => none
  | some (.array n e), .pointer (some p), .int _ (.ofNat j) => match Nat.blt j n, sizeA P e with
    | true, some s => some (.pointer (some (p.1, p.2 + j * s)))
    | _, _ => none
  | _, _, _ => none
theorem indexAt_sound {t : TypeId} {x i v : AV} {u y : Value} (hu : con ρ x = some u) (hy : con ρ i = some y) (e : indexAtA P t x i = some v) : ∃ z, (Instr.indexAt t u y).run P w = .ok z w ∧ con ρ v = some z := by
  unfold indexAtA at e
  split at e
  · rename_i el p n c k j hd
    obtain ⟨g, C, hp, rfl⟩ := con_sl hu
    simp [con] at hy
    subst hy
    split at e <;> simp at e
    rename_i s hlt hs
    subst e
    have hj : j < n := blt_true hlt
    refine ⟨.pointer (some ⟨g, p.2 + j * s, none⟩), ?_, by simp [con, hp]⟩
    simp [Instr.indexAt, asIntOf, run_underlying hd, hj, run_sizeOf hs, Addr.add_lit, Cap.off]
  · rename_i el p n c k j hd
    obtain ⟨g, C, hp, rfl⟩ := con_sl hu
    simp [con] at hy
    subst hy
    split at e <;> simp at e
    rename_i s hlt hs
    subst e
    have hj : j < n := blt_true hlt
    refine ⟨.pointer (some ⟨g, p.2 + j * s, none⟩), ?_, by simp [con, hp]⟩
    simp [Instr.indexAt, asIntOf, run_underlying hd, hj, run_sizeOf hs, Addr.add_lit, Cap.off]
  · rename_i n el p k j hd
    obtain ⟨g, C, hp, rfl⟩ := con_ptr hu
    simp [con] at hy
    subst hy
    split at e <;> simp at e
    rename_i s hlt hs
    subst e
    have hj : j < n := blt_true hlt
    refine ⟨.pointer (some ⟨g, p.2 + j * s, none⟩), ?_, by simp [con, hp]⟩
    simp [Instr.indexAt, asIntOf, run_underlying hd, hj, run_sizeOf hs, Addr.add_lit, Instr.sureAddr]
  · simp at e

/-! ### Parts of values -/
def partA (P : Program) (t : TypeId) (cs : List AV) (off : Nat) : Option AV := match isAggA P t, sizeA P t, P.underlying t with
  | true, some n, some _ => some (.agg ((cs.drop off).take n))
  | false, some _, some _ => cs[off]?
  | _, _, _ => none
theorem part_sound {t : TypeId} {cs : List AV} {xs : List Value} {off : Nat} {v : AV} (hc : conL ρ cs = some xs) (e : partA P t cs off = some v) : ∃ u, (part t xs.toArray off).run P w = .ok u w ∧ con ρ v = some u := by
  unfold partA at e
  split at e
  · rename_i n d ha hs hd
    simp at e
    subst e
    refine ⟨.agg ((xs.drop off).take n).toArray, ?_, by simp [con, conL_take (conL_drop hc off) n]⟩
    simp [part, run_isAgg hd, ha, run_sizeOf hs]
  · rename_i n d ha hs hd
    obtain ⟨u, h1, h2⟩ := conL_get hc _ _ e
    exact ⟨u, by simp [part, run_isAgg hd, ha, h2], h1⟩
  · simp at e
def fieldA (P : Program) (t : TypeId) (f : Nat) : AV → Option AV
  | .agg cs => match P.underlying t with
    | some (.struct ⟨fields⟩) => match fields[f]? with
      | some fl => partA P fl.type cs fl.offset
      | none => none
    | _ => none
  | _ => none
theorem con_agg {l : List AV} {u : Value} (e : con ρ (.agg l) = some u) : ∃ xs, conL ρ l = some xs ∧ u = .agg xs.toArray := by
  simp only [con] at e
  split at e <;> simp at e
  rename_i xs hx
  exact ⟨xs, hx, e.symm⟩
theorem con_tuple {l : List AV} {u : Value} (e : con ρ (.tuple l) = some u) : ∃ xs, conL ρ l = some xs ∧ u = .tuple xs.toArray := by
  simp only [con] at e
  split at e <;> simp at e
  rename_i xs hx
  exact ⟨xs, hx, e.symm⟩
theorem field_sound {t : TypeId} {f : Nat} {x v : AV} {u : Value} (hu : con ρ x = some u) (e : fieldA P t f x = some v) : ∃ y, (Instr.field t u f).run P w = .ok y w ∧ con ρ v = some y := by
  unfold fieldA at e
  split at e
  · rename_i cs
    obtain ⟨xs, hx, rfl⟩ := con_agg hu
    split at e
    · rename_i fields hd
      split at e
      · rename_i fl hfl
        obtain ⟨y, h1, h2⟩ := part_sound (w := w) hx e
        exact ⟨y, by simp [Instr.field, run_underlying hd, hfl, asAgg, h1], h2⟩
      · simp at e
    · simp at e
  · simp at e
def indexA (P : Program) (t : TypeId) (x i : AV) : Option AV := match P.underlying t, x, i with
  | some (.array n e), .agg cs, .int _ (.ofNat j) => match Nat.blt j n, sizeA P e with
    | true, some s => partA P e cs (j * s)
    | _, _ => none
  | some .string, .string s, .int _ (.ofNat j) => match s.data.toList[j]? with
    | some b => some (.int .u8 (Int.ofNat b.toNat))
    | none => none
  | _, _, _ => none
theorem index_sound {t : TypeId} {x i v : AV} {u y : Value} (hu : con ρ x = some u) (hy : con ρ i = some y) (e : indexA P t x i = some v) : ∃ z, (Instr.index t u y).run P w = .ok z w ∧ con ρ v = some z := by
  unfold indexA at e
  split at e
  · rename_i n el cs k j hd
    obtain ⟨xs, hx, rfl⟩ := con_agg hu
    simp [con] at hy
    subst hy
    split at e
    · rename_i s hlt hs
      have hj : j < n := blt_true hlt
      obtain ⟨z, h1, h2⟩ := part_sound (w := w) hx e
      exact ⟨z, by simp [Instr.index, asIntOf, run_underlying hd, hj, run_sizeOf hs, h1], h2⟩
    · simp at e
  · rename_i s k j hd
    simp [con] at hu hy
    subst hu hy
    split at e <;> simp at e
    rename_i b hb
    subst e
    refine ⟨.int .u8 b.toNat, ?_, rfl⟩
    have h1 : s[j]? = some b := by
      have h2 : j < s.size := by rw [size_data]; exact (List.getElem?_eq_some_iff.1 hb).1
      rw [getElem?_pos s j h2]
      have h3 := (List.getElem?_eq_some_iff.1 hb).2
      rw [← h3]
      simp [ByteArray.getElem_eq_getElem_data]
    simp [Instr.index, asIntOf, run_underlying hd, h1]
  · simp at e

/-! ### Cuts -/
/-- A bound that is told, or another number. -/
def boundA : Option AV → Nat → Option Nat
  | none, d => some d
  | some (.int _ (.ofNat n)), _ => some n
  | _, _ => none
def okMax : Option AV → Option AV → Bool
  | none, _ => true
  | some _, some _ => true
  | some _, none => false
theorem okMax_out {mx hi : Option AV} (e : okMax mx hi = true) : mx = none ∨ ∃ q, hi = some q := by
  cases mx <;> cases hi <;> simp_all [okMax]
def sliceA (P : Program) (h : H) (t : TypeId) (x : AV) (lo hi mx : Option AV) : Option AV := match P.underlying t, x with
  | some (.array n e), .pointer (some p) => match boundA lo 0, boundA hi n, boundA mx n, sizeA P e, okMax mx hi with
    | some l, some hh, some m, some s, true => match Nat.ble l hh && Nat.ble hh m && Nat.ble m n, Nat.beq m l with
      | true, true => some (.slice (some p) (hh - l) (.is (m - l)))
      | true, false => some (.slice (some (p.1, p.2 + l * s)) (hh - l) (.is (m - l)))
      | _, _ => none
    | _, _, _, _, _ => none
  | some (.slice e), .slice a n (.is c) => match boundA lo 0, boundA hi n, boundA mx c, sizeA P e, okMax mx hi with
    | some l, some hh, some m, some s, true => match Nat.ble l hh && Nat.ble hh m && Nat.ble m c, Nat.beq m l with
      | true, true => some (.slice a (hh - l) (.is (m - l)))
      | true, false => some (.slice (a.map fun p => (p.1, p.2 + l * s)) (hh - l) (.is (m - l)))
      | _, _ => none
    | _, _, _, _, _ => none
  | some (.slice e), .slice (some p) n (.upTo d) => match boundA lo 0, boundA hi n, mx, sizeA P e, h.get p.1 with
    | some l, some hh, none, some s, some b => match Nat.ble l hh && !b.whole && Nat.beq b.esz s && Nat.blt 0 s && Nat.beq p.2 (d * s) && Nat.ble (p.2 + hh * s) b.cells.size with
      | true => match l with
        | 0 => some (.slice (some p) hh (.upTo d))
        | l + 1 => match Nat.blt (l + 1) hh with
          | true => some (.slice (some (p.1, p.2 + (l + 1) * s)) (hh - (l + 1)) (.upTo (d + (l + 1))))
          | false => some (.slice (some (p.1, p.2 + (l + 1) * s)) 0 (.gone (d + (l + 1)) p.2))
      | false => none
    | _, _, _, _, _ => none
  | some .string, .string s => match boundA lo 0, boundA hi s.data.toList.length, mx with
    | some l, some hh, none => match Nat.ble l hh && Nat.ble hh s.data.toList.length with
      | true => some (.string ⟨⟨(s.data.toList.drop l).take (hh - l)⟩⟩)
      | false => none
    | _, _, _ => none
  | _, _ => none
/-- The bounds as the world has them. -/
def Bnd (ρ : Pos) : Option AV → Option Value → Prop
  | none, none => True
  | some a, some v => con ρ a = some v
  | _, _ => False
theorem bnd_none {o : Option Value} (hb : Bnd ρ none o) : o = none := by cases o <;> simp_all [Bnd]
theorem bound_sound {a : Option AV} {v : Option Value} {d n : Nat} (hb : Bnd ρ a v) (e : boundA a d = some n) : (a = none ∧ v = none ∧ n = d) ∨ ∃ k, (∃ b, a = some b) ∧ v = some (.int k (Int.ofNat n)) := by
  unfold boundA at e
  split at e
  · left
    exact ⟨rfl, bnd_none hb, by simpa using e.symm⟩
  · right
    rename_i m k _
    simp at e
    subst e
    cases v with
    | none => simp [Bnd] at hb
    | some v =>
      simp [Bnd, con] at hb
      exact ⟨k, ⟨_, rfl⟩, by rw [← hb]; rfl⟩
  · simp at e
theorem run_bound (k : IntKind) (n y : Nat) (code : BoundsCode) (hn : n ≤ y) : (Instr.sliceBound (.int k (n : Int)) y code).run P w = .ok n w := by
  simp [Instr.sliceBound, asIntOf, hn]
theorem run_bounds {b : Bool} {n c l hh m : Nat} {lo hi mx : Option AV} {lo' hi' mx' : Option Value} (h1 : Bnd ρ lo lo') (h2 : Bnd ρ hi hi') (h3 : Bnd ρ mx mx') (e1 : boundA lo 0 = some l) (e2 : boundA hi n = some hh) (e3 : boundA mx c = some m)
    (hmx : mx = none ∨ ∃ q, hi = some q) (a1 : l ≤ hh) (a2 : hi = none ∨ hh ≤ m) (a3 : m ≤ c) : (Instr.sliceBounds b n c lo' hi' mx').run P w = .ok (l, hh, m) w := by
  rcases bound_sound h1 e1 with ⟨rfl, rfl, rfl⟩ | ⟨k1, ⟨_, rfl⟩, rfl⟩ <;> rcases bound_sound h2 e2 with ⟨rfl, rfl, rfl⟩ | ⟨k2, ⟨_, rfl⟩, rfl⟩ <;> rcases bound_sound h3 e3 with ⟨rfl, rfl, rfl⟩ | ⟨k3, ⟨_, rfl⟩, rfl⟩ <;>
    simp at hmx a2 <;> simp [Instr.sliceBounds, run_bound, a1, a2, a3]
theorem slice_sound (r : Rel ρ h w) {t : TypeId} {x v : AV} {u : Value} {lo hi mx : Option AV} {lo' hi' mx' : Option Value} (hu : con ρ x = some u) (h1 : Bnd ρ lo lo') (h2 : Bnd ρ hi hi') (h3 : Bnd ρ mx mx') (e : sliceA P h t x lo hi mx = some v) :
    ∃ y, (Instr.sliceAt t u lo' hi' mx').run P w = .ok y w ∧ con ρ v = some y := by
  unfold sliceA at e
  split at e
  · rename_i n el p hd
    obtain ⟨g, C, hp, rfl⟩ := con_ptr hu
    have key : ∀ l hh m s, boundA lo 0 = some l → boundA hi n = some hh → boundA mx n = some m → sizeA P el = some s → (mx = none ∨ ∃ q, hi = some q) → (match Nat.ble l hh && Nat.ble hh m && Nat.ble m n, Nat.beq m l with
      | true, true => some (AV.slice (some p) (hh - l) (.is (m - l)))
      | true, false => some (.slice (some (p.1, p.2 + l * s)) (hh - l) (.is (m - l)))
      | _, _ => none) = some v → ∃ y, (Instr.sliceAt t (.pointer (some ⟨g, p.2, none⟩)) lo' hi' mx').run P w = .ok y w ∧ con ρ v = some y := by
      intro l hh m s e1 e2 e3 hs hm e
      split at e <;> simp at e
      · rename_i hc heq
        simp only [Bool.and_eq_true] at hc
        subst e
        have hb := run_bounds (P := P) (w := w) (b := false) h1 h2 h3 e1 e2 e3 hm (by simpa using hc.1.1) (.inr (by simpa using hc.1.2)) (by simpa using hc.2)
        have heq' : m = l := by simpa using heq
        exact ⟨.slice (some ⟨g, p.2, none⟩) (hh - l) (m - l), by simp [Instr.sliceAt, run_underlying hd, Instr.sureAddr, hb, run_sizeOf hs, heq'], by simp [con, hp, Cap.off, Cap.at_]⟩
      · rename_i hc heq
        simp only [Bool.and_eq_true] at hc
        subst e
        have hb := run_bounds (P := P) (w := w) (b := false) h1 h2 h3 e1 e2 e3 hm (by simpa using hc.1.1) (.inr (by simpa using hc.1.2)) (by simpa using hc.2)
        have hne : m ≠ l := fun q => by rw [q, Nat.beq_refl] at heq; cases heq
        exact ⟨.slice (some ⟨g, p.2 + l * s, none⟩) (hh - l) (m - l), by simp [Instr.sliceAt, run_underlying hd, Instr.sureAddr, hb, run_sizeOf hs, hne, Addr.add_lit], by simp [con, hp, Cap.off, Cap.at_]⟩
    split at e
    · rename_i e1 e2 e3 hs hm
      exact key _ _ _ _ e1 e2 e3 hs (okMax_out hm) e
    · simp at e
  · rename_i el a n c hd
    have hu' : ∃ a', u = .slice a' n c ∧ (∀ l m s, m ≠ l → con ρ (.slice (a.map fun p => (p.1, p.2 + l * s)) m (.is (m - l))) = some (.slice (a'.map (·.add (l * s))) m (m - l))) ∧ (∀ m k, con ρ (.slice a m (.is k)) = some (.slice a' m k)) := by
      cases a with
      | none =>
        simp [con] at hu
        exact ⟨none, hu.symm, fun l m s _ => by simp [con], fun m k => by simp [con]⟩
      | some p =>
        obtain ⟨g, C, hp, rfl⟩ := con_sl hu
        exact ⟨some ⟨g, p.2, none⟩, by simp [Cap.off, Cap.at_], fun l m s _ => by simp [con, hp, Cap.off, Cap.at_, Addr.add_lit], fun m k => by simp [con, hp, Cap.off, Cap.at_]⟩
    obtain ⟨a', rfl, k1, k2⟩ := hu'
    have k1' : ∀ l m s k, con ρ (.slice (a.map fun p => (p.1, p.2 + l * s)) m (.is k)) = some (.slice (a'.map (·.add (l * s))) m k) := by
      intro l m s k
      cases a with
      | none =>
        have := k2 0 0
        simp [con] at this
        simp [con, ← this]
      | some p =>
        have := k2 0 0
        obtain ⟨g, C, hp, e1⟩ := con_sl this
        simp [Cap.off, Cap.at_] at e1
        simp [con, hp, Cap.off, Cap.at_, e1, Addr.add_lit]
    have key : ∀ l hh m s, boundA lo 0 = some l → boundA hi n = some hh → boundA mx c = some m → sizeA P el = some s → (mx = none ∨ ∃ q, hi = some q) → (match Nat.ble l hh && Nat.ble hh m && Nat.ble m c, Nat.beq m l with
      | true, true => some (AV.slice a (hh - l) (.is (m - l)))
      | true, false => some (.slice (a.map fun p => (p.1, p.2 + l * s)) (hh - l) (.is (m - l)))
      | _, _ => none) = some v → ∃ y, (Instr.sliceAt t (.slice a' n c) lo' hi' mx').run P w = .ok y w ∧ con ρ v = some y := by
      intro l hh m s e1 e2 e3 hs hm e
      split at e <;> simp at e
      · rename_i hc heq
        simp only [Bool.and_eq_true] at hc
        subst e
        have hb := run_bounds (P := P) (w := w) (b := true) h1 h2 h3 e1 e2 e3 hm (by simpa using hc.1.1) (.inr (by simpa using hc.1.2)) (by simpa using hc.2)
        have heq' : m = l := by simpa using heq
        exact ⟨.slice a' (hh - l) (m - l), by simp [Instr.sliceAt, Instr.slice, run_underlying hd, hb, run_sizeOf hs, heq'], k2 _ _⟩
      · rename_i hc heq
        simp only [Bool.and_eq_true] at hc
        subst e
        have hb := run_bounds (P := P) (w := w) (b := true) h1 h2 h3 e1 e2 e3 hm (by simpa using hc.1.1) (.inr (by simpa using hc.1.2)) (by simpa using hc.2)
        have hne : m ≠ l := fun q => by rw [q, Nat.beq_refl] at heq; cases heq
        exact ⟨.slice (a'.map (·.add (l * s))) (hh - l) (m - l), by simp [Instr.sliceAt, Instr.slice, run_underlying hd, hb, run_sizeOf hs, hne], k1' _ _ _ _⟩
    split at e
    · rename_i e1 e2 e3 hs hm
      exact key _ _ _ _ e1 e2 e3 hs (okMax_out hm) e
    · simp at e
  · rename_i el p n d hd
    obtain ⟨g, C, hp, rfl⟩ := con_sl hu
    split at e
    · rename_i l hh s b e1 e2 hs hb
      split at e
      · rename_i hc
        simp only [Bool.and_eq_true] at hc
        obtain ⟨⟨⟨⟨⟨c1, c2⟩, c3⟩, c4⟩, c5⟩, c6⟩ := hc
        have c1 : l ≤ hh := by simpa using c1
        have c2 : b.whole = false := by simpa using c2
        have c3 : b.esz = s := by simpa using c3
        have c4 : 0 < s := blt_true c4
        have c5 : p.2 = d * s := by simpa using c5
        have c6 : p.2 + hh * s ≤ b.cells.size := by simpa using c6
        obtain ⟨g', C', cur, fz, hp', hg, hx⟩ := r.at_ _ b hb
        rw [hp] at hp'
        simp at hp'
        obtain ⟨rfl, rfl⟩ := hp'
        have hcap : hh ≤ C - d := by
          have h4 := hx.fits
          rw [(hx.more c2).1, c3] at h4
          have h5 : (d + hh) * s ≤ C * s := by rw [Nat.add_mul, ← c5]; omega
          have h6 := Nat.le_of_mul_le_mul_right h5 c4
          omega
        have hbd := run_bounds (P := P) (w := w) (b := true) (n := n) (c := C - d) (m := C - d) h1 h2 h3 e1 e2 rfl (.inl rfl) c1 (.inr hcap) (Nat.le_refl _)
        rcases l with _ | l
        · simp at e
          subst e
          refine ⟨.slice (some ⟨g, p.2, none⟩) hh (C - d), ?_, by simp [con, hp, Cap.off, Cap.at_]⟩
          simp only [Instr.sliceAt, Instr.slice, Sem.run_bind, run_underlying hd, Result.andThen_ok, Cap.at_, Cap.off, hbd, run_sizeOf hs, Sem.run_pure]
          by_cases h0 : C - d = 0 <;> simp [h0, Addr.add]
        · simp only at e
          split at e <;> simp at e <;> subst e
          · rename_i hlt
            have hlt := blt_true hlt
            have hne : ¬ (C - d = l + 1) := by omega
            refine ⟨.slice (some ⟨g, p.2 + (l + 1) * s, none⟩) (hh - (l + 1)) (C - d - (l + 1)), ?_, by simp [con, hp, Cap.off, Cap.at_, Nat.sub_sub]⟩
            simp [Instr.sliceAt, Instr.slice, run_underlying hd, Cap.at_, Cap.off, hbd, run_sizeOf hs, hne, Addr.add_lit]
          · rename_i hlt
            have hle := blt_false hlt
            have hz : hh - (l + 1) = 0 := by omega
            by_cases hC : C - d = l + 1
            · rw [hC] at hbd
              refine ⟨.slice (some ⟨g, p.2, none⟩) 0 0, ?_, ?_⟩
              · simp [Instr.sliceAt, Instr.slice, run_underlying hd, Cap.at_, Cap.off, hbd, run_sizeOf hs, hC, hz]
              · have : C ≤ d + (l + 1) := by omega
                have h0 : C - (d + (l + 1)) = 0 := by omega
                simp [con, hp, Cap.off, Cap.at_, this, h0]
            · refine ⟨.slice (some ⟨g, p.2 + (l + 1) * s, none⟩) 0 (C - d - (l + 1)), ?_, ?_⟩
              · simp [Instr.sliceAt, Instr.slice, run_underlying hd, Cap.at_, Cap.off, hbd, run_sizeOf hs, hC, hz, Addr.add_lit]
              · have : ¬ (C ≤ d + (l + 1)) := by omega
                simp [con, hp, Cap.off, Cap.at_, this, Nat.sub_sub]
      · simp at e
    · simp at e
  · rename_i s hd
    simp [con] at hu
    subst hu
    split at e
    · rename_i l hh e1 e2
      split at e <;> simp at e
      rename_i hc
      simp only [Bool.and_eq_true] at hc
      subst e
      rw [← size_data] at e2
      have hh2 : hh ≤ s.size := by rw [size_data]; simpa using hc.2
      have hb := run_bounds (P := P) (w := w) (b := false) (n := s.size) (c := s.size) (m := s.size) h1 h2 h3 e1 e2 rfl (.inl rfl) (by simpa using hc.1) (.inr hh2) (Nat.le_refl _)
      have h3' := bnd_none h3
      subst h3'
      refine ⟨.string (s.extract l hh), by simp [Instr.sliceAt, Instr.slice, run_underlying hd, hb], ?_⟩
      have : s.extract l hh = ⟨⟨(s.data.toList.drop l).take (hh - l)⟩⟩ := by
        apply ByteArray.ext
        apply Array.ext'
        simp [List.take_drop]
      simp [con, this]
    · simp at e
  · simp at e

/-! ### Lengths -/
def lenA (P : Program) (t : TypeId) (x : AV) : Option AV := match P.underlying t, x with
  | some .string, .string s => some (.int .i64 (Int.ofNat s.data.toList.length))
  | some (.array n _), _ => some (.int .i64 (Int.ofNat n))
  | some (.slice _), .slice _ n _ => some (.int .i64 (Int.ofNat n))
  | some (.pointer arr), _ => match P.underlying arr with
    | some (.array n _) => some (.int .i64 (Int.ofNat n))
    | _ => none
  | _, _ => none
theorem con_slice_form {a : Option (Nat × Nat)} {n : Nat} {c : Cap} {u : Value} (e : con ρ (.slice a n c) = some u) : ∃ a' c', u = .slice a' n c' := by
  cases a with
  | none =>
    cases c <;> simp [con] at e
    exact ⟨_, _, e.symm⟩
  | some p =>
    obtain ⟨g, C, _, rfl⟩ := con_sl e
    exact ⟨_, _, rfl⟩
theorem len_sound {t : TypeId} {x v : AV} {u : Value} (hu : con ρ x = some u) (ts : Array TypeId) (ht : ts[0]? = some t) (ty : TypeId) (e : lenA P t x = some v) :
    ∃ y, (Builtin.len_ ts ty #[u]).run P w = .ok y w ∧ con ρ v = some y := by
  unfold lenA at e
  split at e
  · rename_i s hd
    simp [con] at hu e
    subst hu e
    exact ⟨.int .i64 s.size, by simp [Builtin.len_, ht, run_underlying hd, goInt], by simp [con]⟩
  · rename_i n el hd
    simp at e
    subst e
    exact ⟨.int .i64 n, by simp [Builtin.len_, ht, run_underlying hd, goInt], rfl⟩
  · rename_i el a n c hd
    simp at e
    subst e
    obtain ⟨a', c', rfl⟩ := con_slice_form hu
    exact ⟨.int .i64 n, by simp [Builtin.len_, ht, run_underlying hd, goInt], rfl⟩
  · rename_i arr hd
    split at e <;> simp at e
    rename_i n el hd2
    subst e
    exact ⟨.int .i64 n, by simp [Builtin.len_, ht, run_underlying hd, run_underlying hd2, goInt], rfl⟩
  · simp at e
def capA (P : Program) (t : TypeId) (x : AV) : Option AV := match P.underlying t, x with
  | some (.slice _), .slice (some _) _ (.is c) => some (.int .i64 (Int.ofNat c))
  | some (.slice _), .slice none _ (.is c) => some (.int .i64 (Int.ofNat c))
  | some (.array n _), _ => some (.int .i64 (Int.ofNat n))
  | _, _ => none
theorem cap_sound {t : TypeId} {x v : AV} {u : Value} (hu : con ρ x = some u) (ts : Array TypeId) (ht : ts[0]? = some t) (ty : TypeId) (e : capA P t x = some v) :
    ∃ y, (Builtin.cap_ ts ty #[u]).run P w = .ok y w ∧ con ρ v = some y := by
  unfold capA at e
  split at e
  · rename_i el p n c hd
    simp at e
    subst e
    obtain ⟨g, C, _, rfl⟩ := con_sl hu
    exact ⟨.int .i64 c, by simp [Builtin.cap_, ht, run_underlying hd, goInt, Cap.at_], rfl⟩
  · rename_i el n c hd
    simp [con] at e hu
    subst e hu
    exact ⟨.int .i64 c, by simp [Builtin.cap_, ht, run_underlying hd, goInt], rfl⟩
  · rename_i n el hd
    simp at e
    subst e
    exact ⟨.int .i64 n, by simp [Builtin.cap_, ht, run_underlying hd, goInt], rfl⟩
  · simp at e

/-! ### What a list is appended, or copied, from -/
/-- The first so many elements of it. -/
def srcA (h : H) (s : Nat) (m : Nat) : AV → Option (List AV)
  | .slice (some p) _ (.is _) => match m with
    | 0 => some []
    | m + 1 => match h.get p.1 with
      | some x => x.cells.range p.2 ((m + 1) * s)
      | none => none
  | .slice (some p) _ (.upTo _) => match m with
    | 0 => some []
    | m + 1 => match h.get p.1 with
      | some x => x.cells.range p.2 ((m + 1) * s)
      | none => none
  | .slice (some _) _ (.gone _ _) => match m with
    | 0 => some []
    | _ => none
  | .slice none _ _ => some []
  | .string b => match Nat.ble m b.data.toList.length with
    | true => some ((b.data.toList.take m).map fun c => .int .u8 (Int.ofNat c.toNat))
    | false => none
  | _ => none
def countA : AV → Option Nat
  | .slice _ n _ => some n
  | .string b => some b.data.toList.length
  | _ => none
theorem count_sound {x : AV} {u : Value} {n : Nat} (hu : con ρ x = some u) (e : countA x = some n) : (Builtin.lenOf u).run P w = .ok n w := by
  unfold countA at e
  split at e <;> simp at e <;> subst e
  · obtain ⟨a', c', rfl⟩ := con_slice_form hu
    rfl
  · simp [con] at hu
    subst hu
    simp [Builtin.lenOf]
    try rfl
theorem range_src (r : Rel ρ h w) {p : Nat × Nat} {x : Blk} {l : List AV} {n g C s m : Nat} (hp : ρ p.1 = some (g, C)) (hb : h.get p.1 = some x) (e : x.cells.range p.2 (m * s) = some l) (k c : Nat) :
    ∃ vs, (Builtin.firstCells s m (.slice (some ⟨g, p.2, none⟩) k c)).run P w = .ok vs.toArray w ∧ conL ρ l = some vs := by
  obtain ⟨g', C', vs, h1, h2, h3⟩ := r.cells hb e
  rw [hp] at h1
  simp at h1
  obtain ⟨rfl, rfl⟩ := h1
  refine ⟨vs, ?_, h2⟩
  exact run_firstCells_some (P := P) w s m ⟨g, p.2, none⟩ k c vs (by rw [conL_length h2, (Cel.range_get e).1]) (fun j u hj => by rw [Addr.add_lit]; exact h3 j u hj)
theorem src_sound (r : Rel ρ h w) {s m : Nat} {x : AV} {u : Value} {l : List AV} (hu : con ρ x = some u) (e : srcA h s m x = some l) :
    ∃ vs, (Builtin.firstCells s m u).run P w = .ok vs.toArray w ∧ conL ρ l = some vs := by
  unfold srcA at e
  split at e
  · rename_i p n c
    obtain ⟨g, C, hp, rfl⟩ := con_sl hu
    split at e
    · simp at e; subst e
      exact ⟨[], by simp [Builtin.firstCells, loadCells, loadCellsFrom], rfl⟩
    · split at e
      · rename_i b hb
        exact range_src (n := 0) r hp hb e _ _
      · simp at e
  · rename_i p n c
    obtain ⟨g, C, hp, rfl⟩ := con_sl hu
    split at e
    · simp at e; subst e
      exact ⟨[], by simp [Builtin.firstCells, loadCells, loadCellsFrom], rfl⟩
    · split at e
      · rename_i b hb
        exact range_src (n := 0) r hp hb e _ _
      · simp at e
  · rename_i p n c d
    obtain ⟨g, C, hp, rfl⟩ := con_sl hu
    split at e <;> simp at e
    subst e
    exact ⟨[], by simp [Builtin.firstCells, loadCells, loadCellsFrom], rfl⟩
  · rename_i n c
    simp at e
    subst e
    cases c <;> simp [con] at hu
    subst hu
    exact ⟨[], by simp [Builtin.firstCells], rfl⟩
  · rename_i b
    simp [con] at hu
    subst hu
    split at e <;> simp only [Option.some.injEq, reduceCtorEq] at e
    rename_i hm
    subst e
    refine ⟨(b.data.toList.take m).map fun c => .int .u8 (c.toNat : Int), ?_, ?_⟩
    · have h5 : (b.extract 0 m).data.toList = b.data.toList.take m := by simp
      have h6 : ((b.extract 0 m).data.map fun c => (Value.int .u8 (c.toNat : Int))) = ((b.data.toList.take m).map fun c => Value.int .u8 (c.toNat : Int)).toArray := by
        apply Array.ext'
        rw [Array.toList_map, h5]
      simp only [Builtin.firstCells, Sem.run_pure, h6]
    · generalize b.data.toList.take m = q
      induction q with
      | nil => rfl
      | cons a q ih => exact conL_mk rfl ih
  · simp at e
end
end Go.Proofs.Ytmeloffdaninmaa
