/-
  The small machine's new memory: variables, boxes, literals, what is made; and constants.
-/
import Derived.Test.YtmeloffdaninmaaAbsNum
namespace Go.Proofs.Ytmeloffdaninmaa
open Go.RowKit
set_option linter.unusedVariables false

/-! ### Constants -/
def oneOf : Value → Option AV
  | .bool b => some (.bool b)
  | .int k n => some (.int k n)
  | .string s => some (.string s)
  | .pointer none => some (.pointer none)
  | .slice none n c => some (.slice none n (.is c))
  | .nilFunc => some .nilFunc
  | .nilIface => some .nilIface
  | .map none => some (.map none)
  | _ => none
def listOf : List Value → Option (List AV)
  | [] => some []
  | v :: l => match oneOf v, listOf l with
    | some x, some xs => some (x :: xs)
    | _, _ => none
def avOf : Value → Option AV
  | .agg ⟨l⟩ => (listOf l).map .agg
  | .tuple ⟨l⟩ => (listOf l).map .tuple
  | v => oneOf v
theorem oneOf_con {v : Value} {x : AV} (e : oneOf v = some x) (ρ : Pos) : con ρ x = some v := by
  unfold oneOf at e
  split at e <;> simp at e <;> subst e <;> simp [con]
theorem listOf_con : ∀ {l : List Value} {x : List AV} (_ : listOf l = some x) (ρ : Pos), conL ρ x = some l
  | [], x, e, ρ => by simp [listOf] at e; subst e; rfl
  | v :: l, x, e, ρ => by
    simp only [listOf] at e
    split at e
    · rename_i y ys h1 h2
      simp at e
      subst e
      exact conL_mk (oneOf_con h1 ρ) (listOf_con h2 ρ)
    · simp at e
theorem avOf_con {v : Value} {x : AV} (e : avOf v = some x) (ρ : Pos) : con ρ x = some v := by
  unfold avOf at e
  split at e
  · obtain ⟨l, hl, rfl⟩ := Option.map_eq_some_iff.1 e
    simp [con, listOf_con hl ρ]
  · obtain ⟨l, hl, rfl⟩ := Option.map_eq_some_iff.1 e
    simp [con, listOf_con hl ρ]
  · exact oneOf_con e ρ
theorem con_undef (ρ : Pos) : con ρ .undef = some undef := rfl

/-! ### New blocks -/
section
variable {P : Program} {ρ : Pos} {h : H} {w : World}
theorem BlkIs.list {l : List AV} {vs : List Value} (hv : conL ρ l = some vs) (e : TypeId) (s : Nat) (rw : Bool) : BlkIs ρ 0 ⟨e, .list l, true, s, rw⟩ vs.toArray (0, 0) :=
  ⟨fun _ => .inl rfl, by simp [Cel.size, conL_length hv], fun _ => by simp [Cel.size, conL_length hv], fun k => by simp at k, fun j v hj => by
    obtain ⟨u, h1, h2⟩ := conL_get hv j v hj
    exact ⟨u, h1, by simpa using h2⟩⟩
theorem new_sound (r : Rel ρ h w) (hn : ρ h.next = none) {l : List AV} {vs : List Value} (hv : conL ρ l = some vs) (e : TypeId) :
    Rel (ρ.put h.next (w.heap.size, 0)) (h.push ⟨e, .list l, true, 0, true⟩) (w.alloc (.cells vs.toArray e (0, 0))) ∧
    Ext ρ h w (ρ.put h.next (w.heap.size, 0)) (h.push ⟨e, .list l, true, 0, true⟩) (w.alloc (.cells vs.toArray e (0, 0))) :=
  ⟨r.push hn ⟨e, .list l, true, 0, true⟩ 0 w rfl vs.toArray (0, 0) (BlkIs.list hv e 0 true), Ext.push r hn ⟨e, .list l, true, 0, true⟩ rfl 0 w rfl rfl rfl rfl vs.toArray (0, 0)⟩
theorem con_at (ρ : Pos) (b g C : Nat) (o : Nat) : con (ρ.put b (g, C)) (.pointer (some (b, o))) = some (.pointer (some ⟨g, o, none⟩)) := by simp [con, Pos.put_self]

theorem con_slice_at {ρ : Pos} (b g C o n c : Nat) : con (ρ.put b (g, C)) (.slice (some (b, o)) n (.is c)) = some (.slice (some ⟨g, o, none⟩) n c) := by simp [con, Pos.put_self, Cap.at_, Cap.off]

/-- What an operation that yields a value comes to. -/
def Yields (P : Program) (s : Sem Value) (ρ : Pos) (h : H) (w : World) (v : AV) (h' : H) : Prop :=
  ∃ ρ' u w', s.run P w = .ok u w' ∧ con ρ' v = some u ∧ Rel ρ' h' w' ∧ Ext ρ h w ρ' h' w' ∧ Grow ρ h ρ' h'
theorem Yields.same (r : Rel ρ h w) {s : Sem Value} {u : Value} {v : AV} (e : s.run P w = .ok u w) (hv : con ρ v = some u) : Yields P s ρ h w v h :=
  ⟨ρ, u, w, e, hv, r, Ext.refl _ _ _, .inl ⟨rfl, rfl⟩⟩

def zeroA (P : Program) (t : TypeId) : Option AV := match P.info? t with
  | some i => match i.zero with
    | some z => avOf z
    | none => none
  | none => none
theorem run_zero {t : TypeId} {z : AV} (e : zeroA P t = some z) (ρ : Pos) : ∃ v, (zeroValue t).run P w = .ok v w ∧ con ρ z = some v := by
  unfold zeroA at e
  split at e
  · rename_i i hi
    split at e
    · rename_i v hv
      exact ⟨v, by simp [zeroValue, typeInfo, hi, hv], avOf_con e ρ⟩
    · simp at e
  · simp at e

def allocA (P : Program) (h : H) (t : TypeId) : Option (AV × H) := match zeroA P t with
  | some z => some (.pointer (some (h.next, 0)), h.push ⟨t, .list z.cells, true, 0, true⟩)
  | none => none
theorem alloc_sound (r : Rel ρ h w) (hn : ρ h.next = none) {t : TypeId} {v : AV} {h' : H} (e : allocA P h t = some (v, h')) : Yields P (Instr.alloc t true (.tuple #[])) ρ h w v h' := by
  unfold allocA at e
  split at e <;> simp at e
  rename_i z hz
  obtain ⟨rfl, rfl⟩ := e
  obtain ⟨u, hu, hc⟩ := run_zero (w := w) hz ρ
  obtain ⟨r1, x1⟩ := new_sound r hn (con_cells hc) t
  refine ⟨_, _, _, ?_, con_at ρ h.next w.heap.size 0 0, r1, x1, .inr ⟨_, rfl, rfl⟩⟩
  simp [Instr.alloc, hu, newVar, newRow]
def boxA (h : H) (t : TypeId) (v : AV) : AV × H := (.pointer (some (h.next, 0)), h.push ⟨t, .list v.cells, true, 0, true⟩)
theorem box_sound (r : Rel ρ h w) (hn : ρ h.next = none) {t : TypeId} {x : AV} {u : Value} (hu : con ρ x = some u) : Yields P (Instr.box t u) ρ h w (boxA h t x).1 (boxA h t x).2 := by
  obtain ⟨r1, x1⟩ := new_sound r hn (con_cells hu) t
  refine ⟨_, _, _, ?_, con_at ρ h.next w.heap.size 0 0, r1, x1, .inr ⟨_, rfl, rfl⟩⟩
  simp [Instr.box, newVar, newRow]

/-! ### Literals -/
def setsL : List AV → Nat → List AV → List AV
  | c, _, [] => c
  | c, o, v :: l => setsL (c.set o v) (o + 1) l
def fillA (place : Nat → Option (Nat × Nat)) (cs : List AV) : List (Nat × AV) → Option (List AV)
  | [] => some cs
  | (i, v) :: rest => match place i with
    | none => none
    | some (off, size) => match Nat.beq v.cells.length size && Nat.ble (off + v.cells.length) cs.length with
      | true => fillA place (setsL cs off v.cells) rest
      | false => none
/-- Parts of a literal. -/
def partsOf (ρ : Pos) : List (Nat × AV) → Option (List (Nat × Value))
  | [] => some []
  | (i, v) :: l => match con ρ v, partsOf ρ l with
    | some u, some us => some ((i, u) :: us)
    | _, _ => none
theorem conL_set {l : List AV} {x : List Value} (e : conL ρ l = some x) {v : AV} {u : Value} (hv : con ρ v = some u) (o : Nat) : conL ρ (l.set o v) = some (x.set o u) := by
  have hl := conL_length e
  refine conL_of (by simp [hl]) fun j a b ha hb => ?_
  rw [List.getElem?_set] at ha hb
  by_cases hj : o = j
  · subst hj
    simp at ha hb
    rw [← ha.2, ← hb.2, hv]
  · rw [if_neg hj] at ha hb
    obtain ⟨y, h1, h2⟩ := conL_get e j a ha
    rw [hb] at h2
    simp at h2
    rw [h1, h2]
theorem length_setsL : ∀ (l : List AV) (c : List AV) (o : Nat), (setsL c o l).length = c.length
  | [], _, _ => rfl
  | v :: l, c, o => by rw [setsL, length_setsL l, List.length_set]
theorem sets_sound : ∀ (l : List AV) (us : List Value) (k off : Nat) (c : List AV) (x : Array Value), conL ρ l = some us → conL ρ c = some x.toList →
    conL ρ (setsL c (off + k) l) = some (((us.zipIdx k).foldl (fun cs q => cs.setIfInBounds (off + q.2) q.1) x).toList)
  | [], us, k, off, c, x, h1, h2 => by
    simp [conL] at h1
    subst h1
    exact h2
  | v :: l, us, k, off, c, x, h1, h2 => by
    obtain ⟨u, us', hu, hus, rfl⟩ := conL_cons h1
    simp only [setsL, List.zipIdx_cons, List.foldl_cons]
    rw [Nat.add_assoc]
    exact sets_sound l us' (k + 1) off (c.set (off + k) v) (x.setIfInBounds (off + k) u) hus (by
      rw [Array.toList_setIfInBounds]
      exact conL_set h2 hu _)
theorem fill_sound (place : Nat → Option (Nat × Nat)) : ∀ (ps : List (Nat × AV)) (qs : List (Nat × Value)) (c : List AV) (x : Array Value) (l : List AV), partsOf ρ ps = some qs → conL ρ c = some x.toList → fillA place c ps = some l →
    ∃ r, Instr.fill place x qs = some r ∧ conL ρ l = some r.toList
  | [], qs, c, x, l, h1, h2, h3 => by
    simp [partsOf] at h1
    simp [fillA] at h3
    subst h1 h3
    exact ⟨x, rfl, h2⟩
  | (i, v) :: ps, qs, c, x, l, h1, h2, h3 => by
    simp only [partsOf] at h1
    split at h1 <;> simp at h1
    rename_i u us hu hus
    subst h1
    simp only [fillA] at h3
    split at h3
    · simp at h3
    · rename_i off size hp
      split at h3
      · rename_i hc
        simp only [Bool.and_eq_true] at hc
        have hcl := con_cells hu
        have hlen := conL_length hcl
        have h4 : v.cells.length = size := by simpa using hc.1
        have h5 : off + v.cells.length ≤ c.length := by simpa using hc.2
        have hxl := conL_length h2
        have e1 : u.cells.size = v.cells.length := by simpa using hlen
        have e2 : x.size = c.length := by simpa using hxl
        obtain ⟨r, hr, hl⟩ := fill_sound place ps us _ _ l hus (sets_sound v.cells u.cells.toList 0 off c x hcl h2) h3
        refine ⟨r, ?_, hl⟩
        simp only [Instr.fill, hp]
        rw [if_neg (by
          simp only [ne_eq, Bool.or_eq_true, decide_eq_true_eq, not_or]
          omega)]
        rw [← hr]
        congr 1
        rw [← Array.foldl_toList, Array.toList_zipIdx]
      · simp at h3
theorem part_of_get {l : List (Nat × AV)} {q : List (Nat × Value)} (e : partsOf ρ l = some q) : q.length = l.length := by
  induction l generalizing q with
  | nil => simp [partsOf] at e; simp [← e]
  | cons a l ih =>
    obtain ⟨i, v⟩ := a
    simp only [partsOf] at e
    split at e <;> simp at e
    rename_i u us hu hus
    subst e
    simp [ih hus]

/-- So many zeros of a pattern. -/
def zerosA (z : List AV) (n : Nat) : List AV := (List.range n).map fun i => (z[i % z.length]?).getD .undef
theorem zeros_sound {z : List AV} {x : Array Value} (e : conL ρ z = some x.toList) (n : Nat) (hz : n = 0 ∨ z ≠ []) : conL ρ (zerosA z n) = some ((Array.range n).map (x[· % x.size]!)).toList := by
  have hl := conL_length e
  have hs : x.size = z.length := by simpa using hl
  refine conL_of (by simp [zerosA]) fun j a b ha hb => ?_
  simp only [zerosA, List.getElem?_map, Array.toList_map, Array.toList_range] at ha hb
  rcases Nat.lt_or_ge j n with hj | hj
  · simp [hj] at ha hb
    rcases hz with rfl | hz
    · omega
    · have hpos : 0 < z.length := List.length_pos_iff.2 hz
      have hm : j % z.length < z.length := Nat.mod_lt _ hpos
      have h1 : z[j % z.length]? = some z[j % z.length] := List.getElem?_eq_getElem hm
      obtain ⟨y, h2, h3⟩ := conL_get e _ _ h1
      rw [h1] at ha
      simp at ha
      subst ha
      rw [h2]
      congr 1
      rw [← hb, hs, getElem!_def]
      simp only [Array.getElem?_toList] at h3
      rw [h3]
  · rw [List.getElem?_eq_none (by simpa using hj)] at ha
    simp at ha

/-- The struct's, or array's, places. -/
def placesL (P : Program) : List Field → Option (List (Nat × Nat))
  | [] => some []
  | f :: l => match sizeA P f.type, placesL P l with
    | some s, some ps => some ((f.offset, s) :: ps)
    | _, _ => none
theorem run_places : ∀ (l : List Field) (ps : List (Nat × Nat)), placesL P l = some ps → (l.mapM fun (f : Field) => Prod.mk f.offset <$> sizeOf f.type : Sem (List (Nat × Nat))).run P w = .ok ps w
  | [], ps, h => by simp [placesL] at h; subst h; rfl
  | f :: l, ps, h => by
    simp only [placesL] at h
    split at h <;> simp at h
    rename_i s qs hs hq
    subst h
    simp [List.mapM_cons, run_sizeOf hs, run_places l qs hq]
def placeA (P : Program) (t : TypeId) : Option (Nat → Option (Nat × Nat)) := match P.underlying t with
  | some (.struct ⟨fields⟩) => match placesL P fields with
    | some ps => some fun i => ps[i]?
    | none => none
  | some (.array _ elem) => match sizeA P elem with
    | some s => some fun i => some (i * s, s)
    | none => none
  | _ => none
def buildA (P : Program) (h : H) (t : TypeId) (ps : List (Nat × AV)) : Option (AV × H) := match zeroA P t, placeA P t with
  | some z, some place => match fillA place z.cells ps with
    | some l => some (.agg l, h)
    | none => none
  | _, _ => none
theorem build_sound (r : Rel ρ h w) {t : TypeId} {ps : List (Nat × AV)} {qs : List (Nat × Value)} {v : AV} {h' : H} (hq : partsOf ρ ps = some qs) (e : buildA P h t ps = some (v, h')) : Yields P (Instr.build t qs.toArray) ρ h w v h' := by
  unfold buildA at e
  split at e
  · rename_i z place hz hp
    split at e <;> simp at e
    rename_i l hl
    obtain ⟨rfl, rfl⟩ := e
    obtain ⟨u, hu, hc⟩ := run_zero (w := w) hz ρ
    obtain ⟨rr, hr, hlr⟩ := fill_sound place ps qs z.cells u.cells l hq (con_cells hc) hl
    refine Yields.same r (u := .agg rr) ?_ (by simp [con, hlr])
    unfold placeA at hp
    split at hp
    · rename_i fields hd
      split at hp <;> simp at hp
      rename_i pl hpl
      subst hp
      have h1 := run_places (w := w) fields pl hpl
      simp [Instr.build, hu, run_underlying hd, h1, hr]
    · rename_i n elem hd
      split at hp <;> simp at hp
      rename_i s hs
      subst hp
      simp [Instr.build, hu, run_underlying hd, run_sizeOf hs, hr]
    · simp at hp
  · simp at e

def buildSliceA (P : Program) (h : H) (t : TypeId) (n : Nat) (ps : List (Nat × AV)) : Option (AV × H) := match P.underlying t with
  | some (.slice elem) => match sizeA P elem, zeroA P elem with
    | some s, some z => match Nat.ble (n * s) 16777216, z.cells with
      | true, c :: cs => match fillA (fun i => some (i * s, s)) (zerosA (c :: cs) (n * s)) ps with
        | some l => some (.slice (some (h.next, 0)) n (.is n), h.push ⟨elem, .list l, true, 0, true⟩)
        | none => none
      | _, _ => none
    | _, _ => none
  | _ => none
theorem buildSlice_sound (r : Rel ρ h w) (hn : ρ h.next = none) {t n : Nat} {ps : List (Nat × AV)} {qs : List (Nat × Value)} {v : AV} {h' : H} (hq : partsOf ρ ps = some qs) (e : buildSliceA P h t n ps = some (v, h')) : Yields P (Instr.buildSlice t n qs.toArray) ρ h w v h' := by
  unfold buildSliceA at e
  split at e
  · rename_i elem hd
    split at e
    · rename_i s z hs hz
      split at e
      · rename_i c cs hle hcells
        split at e <;> simp at e
        rename_i l hl
        obtain ⟨rfl, rfl⟩ := e
        obtain ⟨u, hu, hc⟩ := run_zero (w := w) hz ρ
        have hcc := con_cells hc
        rw [hcells] at hcc
        have hle' : n * s ≤ 16777216 := by simpa using hle
        by_cases h0 : n * s = 0
        · obtain ⟨rr, hr, hlr⟩ := fill_sound (fun i => some (i * s, s)) ps qs _ #[] l hq (by rw [h0]; rfl) hl
          obtain ⟨r1, x1⟩ := new_sound r hn hlr elem
          refine ⟨_, .slice (some ⟨w.heap.size, 0, none⟩) n n, _, ?_, con_slice_at (ρ := ρ) h.next w.heap.size 0 0 n n, r1, x1, .inr ⟨_, rfl, rfl⟩⟩
          simp [Instr.buildSlice, run_underlying hd, run_sizeOf hs, h0, Array.range_zero', hr, newRow]
        · obtain ⟨rr, hr, hlr⟩ := fill_sound (fun i => some (i * s, s)) ps qs _ _ l hq (zeros_sound hcc (n * s) (.inr (by simp))) hl
          obtain ⟨r1, x1⟩ := new_sound r hn hlr elem
          have hgt : ¬ (16777216 < n * s) := by omega
          refine ⟨_, .slice (some ⟨w.heap.size, 0, none⟩) n n, _, ?_, con_slice_at (ρ := ρ) h.next w.heap.size 0 0 n n, r1, x1, .inr ⟨_, rfl, rfl⟩⟩
          simp [Instr.buildSlice, run_underlying hd, run_sizeOf hs, h0, hgt, hu, hr, newRow]
      · simp at e
    · simp at e
  · simp at e

/-- What 'make' makes. -/
def makeA (P : Program) (h : H) (t : TypeId) : AV → AV → Option (AV × H)
  | .int _ (.ofNat n), .int _ (.ofNat c) => match P.underlying t with
    | some (.slice elem) => match P.info? elem, zeroA P elem with
      | some i, some z => match Nat.ble n c && Nat.ble (i.bytes * c) 281474976710656 && Nat.ble c 9223372036854775807, z.cells with
        | true, [x] => some (.slice (some (h.next, 0)) n (.is c), h.push ⟨elem, .tree (c * i.size) x .nil, true, 0, true⟩)
        | true, x :: y :: l => some (.slice (some (h.next, 0)) n (.is c), h.push ⟨elem, .list (zerosA (x :: y :: l) (c * i.size)), true, 0, true⟩)
        | _, _ => none
      | _, _ => none
    | _ => none
  | _, _ => none
theorem BlkIs.made {z : AV} {x : Array Value} (e : conL ρ [z] = some x.toList) (n : Nat) (el : TypeId) (s : Nat) : BlkIs ρ 0 ⟨el, .tree n z .nil, true, s, true⟩ (madeCells x n) (0, 0) := by
  refine ⟨fun _ => .inl rfl, by simp [Cel.size, size_madeCells], fun _ => by simp [Cel.size, size_madeCells], fun k => by simp at k, fun j v hj => ?_⟩
  have hjn := Cel.get_size hj
  simp only [Cel.get] at hj
  split at hj <;> simp [Tq.get_nil] at hj
  subst hj
  have hz := zeros_sound e n (.inr (by simp))
  obtain ⟨u, h1, h2⟩ := conL_get hz j z (by
    have : j < n := hjn
    simp [zerosA, this, Nat.mod_one])
  exact ⟨u, h1, by rw [← Array.getElem?_toList]; exact h2⟩
theorem make_sound (r : Rel ρ h w) (hn : ρ h.next = none) {t : TypeId} {a b : AV} {x y : Value} (ha : con ρ a = some x) (hb : con ρ b = some y) {v : AV} {h' : H} (e : makeA P h t a b = some (v, h')) : Yields P (Instr.makeSlice t x y) ρ h w v h' := by
  unfold makeA at e
  split at e
  · rename_i k n k' c
    simp [con] at ha hb
    subst ha hb
    split at e
    · rename_i elem hd
      split at e
      · rename_i i z hi hz
        have hz' : ∃ u, i.zero = some u ∧ avOf u = some z := by
          unfold zeroA at hz
          simp only [hi] at hz
          split at hz
          · rename_i u hu; exact ⟨u, hu, hz⟩
          · simp at hz
        obtain ⟨u, hu, huz⟩ := hz'
        have hcc := con_cells (avOf_con huz ρ)
        have hrun : ∀ (_ : n ≤ c) (_ : i.bytes * c ≤ 281474976710656) (_ : c ≤ 9223372036854775807), (Instr.makeSlice t (.int k (Int.ofNat n)) (.int k' (Int.ofNat c))).run P w = .ok (.slice (some ⟨w.heap.size, 0, none⟩) n c) (w.alloc (.cells (madeCells u.cells (c * i.size)) elem)) := fun h1 h2 h3 =>
          run_make (P := P) w t elem i u hd hi hu k k' (Int.ofNat n) (Int.ofNat c) (by simp) (by simpa using h1) (by
            show (i.bytes : Int) * ((c : Nat) : Int) ≤ 281474976710656
            have h4 : ((i.bytes * c : Nat) : Int) ≤ 281474976710656 := by omega
            rwa [Int.natCast_mul] at h4) (by show ((c : Nat) : Int) ≤ 9223372036854775807; omega)
        split at e
        · rename_i x' hc hcl
          simp only [Bool.and_eq_true] at hc
          simp at e
          obtain ⟨rfl, rfl⟩ := e
          rw [hcl] at hcc
          have hB := BlkIs.made hcc (c * i.size) elem 0
          refine ⟨_, _, _, hrun (by simpa using hc.1.1) (by simpa using hc.1.2) (by simpa using hc.2), con_slice_at (ρ := ρ) h.next w.heap.size 0 0 n c, r.push hn _ 0 w rfl _ _ hB, Ext.push r hn _ rfl 0 w rfl rfl rfl rfl _ _, .inr ⟨_, rfl, rfl⟩⟩
        · rename_i x' y' l' hc hcl
          simp only [Bool.and_eq_true] at hc
          simp at e
          obtain ⟨rfl, rfl⟩ := e
          rw [hcl] at hcc
          have hz2 := zeros_sound hcc (c * i.size) (.inr (by simp))
          obtain ⟨r1, x1⟩ := new_sound r hn hz2 elem
          rw [Array.toArray_toList] at r1 x1
          refine ⟨_, _, _, hrun (by simpa using hc.1.1) (by simpa using hc.1.2) (by simpa using hc.2), con_slice_at (ρ := ρ) h.next w.heap.size 0 0 n c, ?_, ?_, .inr ⟨_, rfl, rfl⟩⟩
          · exact r1
          · exact x1
        · simp at e
      · simp at e
    · simp at e
  · simp at e
end
end Go.Proofs.Ytmeloffdaninmaa
