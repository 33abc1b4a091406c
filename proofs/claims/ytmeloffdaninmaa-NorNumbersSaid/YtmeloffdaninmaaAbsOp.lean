/-
  The small machine's operations, all but calls of functions, and that the world's own do as they say.
-/
import Derived.Test.YtmeloffdaninmaaAbsEq
namespace Go.Proofs.Ytmeloffdaninmaa
open Go.RowKit
set_option linter.unusedVariables false

/-- Operands. -/
def evA (tm : Tq AV) : Operand → Option AV
  | .tmp t => match tm.get deep t with
    | some v => some v
    | none => some .undef
  | .const v => avOf v
  | .global _ => none
  | .func f => some (.func (.func f) [] [])
def evL (ev : Operand → Option AV) : List Operand → Option (List AV)
  | [] => some []
  | x :: l => match ev x, evL ev l with
    | some v, some vs => some (v :: vs)
    | _, _ => none
def evO (ev : Operand → Option AV) : Option Operand → Option (Option AV)
  | none => some none
  | some x => match ev x with
    | some v => some (some v)
    | none => none
def evP (ev : Operand → Option AV) : List (Nat × Operand) → Option (List (Nat × AV))
  | [] => some []
  | (i, x) :: l => match ev x, evP ev l with
    | some v, some vs => some ((i, v) :: vs)
    | _, _ => none
def constB : Operand → Bool
  | .const _ => true
  | _ => false

section
variable {P : Program} {ρ : Pos} {h : H} {w : World} {ev : Operand → Option AV} {ρe : Operand → Value}

/-- What the operands are in the world. -/
def Evs (ρ : Pos) (ev : Operand → Option AV) (ρe : Operand → Value) : Prop := ∀ x v, ev x = some v → con ρ v = some (ρe x)
theorem evL_sound (he : Evs ρ ev ρe) : ∀ {l : List Operand} {vs : List AV}, evL ev l = some vs → conL ρ vs = some (l.map ρe)
  | [], vs, e => by simp [evL] at e; subst e; rfl
  | x :: l, vs, e => by
    simp only [evL] at e
    split at e <;> simp at e
    rename_i v us hv hus
    subst e
    exact conL_mk (he x v hv) (evL_sound he hus)
theorem evP_sound (he : Evs ρ ev ρe) : ∀ {l : List (Nat × Operand)} {vs : List (Nat × AV)}, evP ev l = some vs → partsOf ρ vs = some (l.map fun q => (q.1, ρe q.2))
  | [], vs, e => by simp [evP] at e; subst e; rfl
  | (i, x) :: l, vs, e => by
    simp only [evP] at e
    split at e <;> simp at e
    rename_i v us hv hus
    subst e
    simp [partsOf, he x v hv, evP_sound he hus]
theorem evO_sound (he : Evs ρ ev ρe) {x : Option Operand} {v : Option AV} (e : evO ev x = some v) : Bnd ρ v (x.map ρe) := by
  unfold evO at e
  split at e
  · simp at e; subst e; trivial
  · split at e <;> simp at e
    rename_i y v' hv
    subst e
    exact he _ _ hv

def Does (P : Program) (s : Sem Next) (ρ : Pos) (h : H) (w : World) (v : AV) (h' : H) : Prop :=
  ∃ ρ' n u w', s.run P w = .ok n w' ∧ (n = .value u ∨ (n = .skip ∧ u = undef)) ∧ con ρ' v = some u ∧ Rel ρ' h' w' ∧ Ext ρ h w ρ' h' w' ∧ Grow ρ h ρ' h'
theorem Yields.does {s : Sem Value} {v : AV} {h' : H} (y : Yields P s ρ h w v h') : Does P (do pure (.value (← s))) ρ h w v h' := by
  obtain ⟨ρ', u, w', h1, h2, h3, h4, h5⟩ := y
  exact ⟨ρ', .value u, u, w', by simp [h1], .inl rfl, h2, h3, h4, h5⟩
theorem Does.same (r : Rel ρ h w) {s : Sem Next} {u : Value} {v : AV} (e : s.run P w = .ok (.value u) w) (hv : con ρ v = some u) : Does P s ρ h w v h :=
  ⟨ρ, _, u, w, e, .inl rfl, hv, r, Ext.refl _ _ _, .inl ⟨rfl, rfl⟩⟩
theorem Does.plain (r : Rel ρ h w) {s : Sem Value} {u : Value} {v : AV} (e : s.run P w = .ok u w) (hv : con ρ v = some u) : Does P (do pure (.value (← s))) ρ h w v h := (Yields.same r e hv).does

theorem con_pointer_form {a : Option (Nat × Nat)} {u : Value} (e : con ρ (.pointer a) = some u) : ∃ a', u = .pointer a' := by
  cases a with
  | none => simp [con] at e; exact ⟨_, e.symm⟩
  | some p => obtain ⟨g, C, _, rfl⟩ := con_ptr e; exact ⟨_, rfl⟩

/-! ### == guarded -/
def eqBinA (P : Program) (t : TypeId) (cs : Bool) (x y : AV) : Option Bool := match x, y with
  | .nilIface, .nilIface => match cs with
    | true => eqA P 40 t x y
    | false => none
  | .agg _, .agg _ => match P.eqGuardType P.depth t with
    | false => eqA P 40 t x y
    | true => none
  | .bool _, .bool _ => eqA P 40 t x y
  | .pointer _, .pointer _ => eqA P 40 t x y
  | .slice _ _ _, .slice _ _ _ => eqA P 40 t x y
  | .nilFunc, .nilFunc => eqA P 40 t x y
  | _, _ => none
def truthA (op : BinOp) : Option Bool → Option AV
  | some b => match op with
    | .eql => some (.bool b)
    | .neq => some (.bool !b)
    | _ => none
  | none => none
def sameA (op : BinOp) (k k' : IntKind) (a b : Int) : Option AV := match decide (k = k') with
  | true => numA op k a b
  | false => none
def intsA (op : BinOp) (k k' : IntKind) (a b : Int) : Option AV := match op with
  | .shl => shiftA .shl k a b
  | .shr => shiftA .shr k a b
  | op => sameA op k k' a b
def binA (P : Program) (op : BinOp) (t : TypeId) (cs : Bool) (x y : AV) : Option AV := match x, y with
  | .int k a, .int k' b => intsA op k k' a b
  | .string a, .string b => strA op a b
  | x, y => truthA op (eqBinA P t cs x y)
theorem eq_run {t : TypeId} {x y : AV} {u v : Value} {b : Bool} (hu : con ρ x = some u) (hv : con ρ y = some v) (e : eqA P 40 t x y = some b) (w : World) : (Op.equal t u v).run P w = .ok b w := by
  have := eq_sound 40 t x y u v b hu hv e (Op.maxDepth - 40) w
  exact this
theorem bin_sound (r : Rel ρ h w) {op : BinOp} {t : TypeId} {a b : Operand} {x y v : AV} {u u' : Value} (hu : con ρ x = some u) (hv : con ρ y = some u') (e : binA P op t (constB a || constB b) x y = some v) :
    ∃ z, (do eqGuard op t a b u u'; binOp op t u u' : Sem Value).run P w = .ok z w ∧ con ρ v = some z := by
  have general : (∀ (z : Bool), eqBinA P t (constB a || constB b) x y = some z → op = .eql ∨ op = .neq → (eqGuard op t a b u u').run P w = .ok () w ∧ (Op.equal t u u').run P w = .ok z w ∧ ((binOp .eql t u u') = (do pure (.bool (← Op.equal t u u'))) ∧ (binOp .neq t u u') = (do pure (.bool (!(← Op.equal t u u')))))) →
      truthA op (eqBinA P t (constB a || constB b) x y) = some v → ∃ z, (do eqGuard op t a b u u'; binOp op t u u' : Sem Value).run P w = .ok z w ∧ con ρ v = some z := by
    intro hs e
    cases hz : eqBinA P t (constB a || constB b) x y with
    | none => simp [hz, truthA] at e
    | some z =>
      rw [hz] at e
      cases op <;> simp only [truthA, Option.some.injEq, reduceCtorEq] at e
      · subst e
        obtain ⟨h1, h2, h3, _⟩ := hs z hz (.inl rfl)
        exact ⟨.bool z, by rw [h3]; simp [h1, h2], rfl⟩
      · subst e
        obtain ⟨h1, h2, _, h3⟩ := hs z hz (.inr rfl)
        exact ⟨.bool !z, by rw [h3]; simp [h1, h2], rfl⟩
  unfold binA at e
  split at e
  · rename_i k m k' m'
    simp [con] at hu hv
    subst hu hv
    have hg : ∀ op, (eqGuard op t a b (.int k m) (.int k' m')).run P w = .ok () w := fun op => by cases op <;> simp [eqGuard]
    unfold intsA at e
    split at e
    · obtain ⟨z, h1, h2⟩ := shiftA_sound (P := P) (w := w) (k' := k') e ρ
      exact ⟨z, by simp [hg, binOp, h1], h2⟩
    · obtain ⟨z, h1, h2⟩ := shiftA_sound (P := P) (w := w) (k' := k') e ρ
      exact ⟨z, by simp [hg, binOp, h1], h2⟩
    · rename_i n1 n2
      unfold sameA at e
      split at e
      · rename_i hk
        have hk : k = k' := by simpa using hk
        subst hk
        obtain ⟨z, h1, h2⟩ := numA_sound (P := P) (w := w) (t := t) ⟨n1, n2⟩ e ρ
        exact ⟨z, by simp [hg, h1], h2⟩
      · simp at e
  · rename_i m m'
    simp [con] at hu hv
    subst hu hv
    obtain ⟨z, h1, h2⟩ := strA_sound (P := P) (w := w) (t := t) e ρ
    have hg : (eqGuard op t a b (.string m) (.string m')).run P w = .ok () w := by cases op <;> simp [eqGuard]
    exact ⟨z, by simp [hg, h1], h2⟩
  · rename_i n1 n2
    refine general (fun z hz hop => ?_) e
    unfold eqBinA at hz
    split at hz
    · cases hc : (constB a || constB b) <;> rw [hc] at hz <;> simp only [reduceCtorEq] at hz
      have heq := eq_run hu hv hz w
      simp [con] at hu hv
      subst hu hv
      refine ⟨?_, heq, by simp [binOp], by simp [binOp]⟩
      have hc' : constB a = true ∨ constB b = true := by simpa using hc
      rcases hop with rfl | rfl <;> simp only [eqGuard] <;> cases a <;> cases b <;> simp [constB] at hc' <;> simp
    · cases hc : P.eqGuardType P.depth t <;> rw [hc] at hz <;> simp only [reduceCtorEq] at hz
      have heq := eq_run hu hv hz w
      obtain ⟨xs, _, rfl⟩ := con_agg hu
      obtain ⟨ys, _, rfl⟩ := con_agg hv
      refine ⟨?_, heq, by simp [binOp], by simp [binOp]⟩
      rcases hop with rfl | rfl <;> simp [eqGuard, hc]
    · have heq := eq_run hu hv hz w
      simp [con] at hu hv
      subst hu hv
      refine ⟨?_, heq, rfl, rfl⟩
      rcases hop with rfl | rfl <;> simp [eqGuard]
    · have heq := eq_run hu hv hz w
      have h1 := con_pointer_form hu
      have h2 := con_pointer_form hv
      obtain ⟨p', rfl⟩ := h1
      obtain ⟨q', rfl⟩ := h2
      refine ⟨?_, heq, rfl, rfl⟩
      rcases hop with rfl | rfl <;> simp [eqGuard]
    · have heq := eq_run hu hv hz w
      obtain ⟨_, _, rfl⟩ := con_slice_form hu
      obtain ⟨_, _, rfl⟩ := con_slice_form hv
      refine ⟨?_, heq, rfl, rfl⟩
      rcases hop with rfl | rfl <;> simp [eqGuard]
    · have heq := eq_run hu hv hz w
      simp [con] at hu hv
      subst hu hv
      refine ⟨?_, heq, rfl, rfl⟩
      rcases hop with rfl | rfl <;> simp [eqGuard]
    · simp at hz

/-! ### The rest -/
def unA (op : UnOp) : AV → Option AV
  | .int k n => match op with
    | .neg => some (.int k (wrapA k (0 - n)))
    | .xor => match k.signed with
      | false => numA .xor k (k.max) n
      | true => none
    | _ => none
  | .bool b => match op with
    | .not => some (.bool !b)
    | _ => none
  | _ => none
theorem un_sound {op : UnOp} {x v : AV} {u : Value} (hu : con ρ x = some u) (e : unA op x = some v) : ∃ z, (Op.unary op u).run P w = .ok z w ∧ con ρ v = some z := by
  unfold unA at e
  split at e
  · rename_i k n
    simp [con] at hu
    subst hu
    split at e
    · simp only [Option.some.injEq] at e
      subst e
      exact ⟨.int k (wrapA k (0 - n)), by simp [Op.unary, Op.intArith, wrapA_eq], rfl⟩
    · split at e
      · rename_i hs
        have hx : ∀ v, numA .xor k k.max n = some v → ∃ z, (Op.intBits .xor k k.max n).run P w = .ok z w ∧ con ρ v = some z := fun v hv => by
          obtain ⟨z, h1, h2⟩ := numA_sound (P := P) (w := w) (t := 0) (op := .xor) ⟨by simp, by simp⟩ hv ρ
          exact ⟨z, by simpa [binOp] using h1, h2⟩
        obtain ⟨z, h1, h2⟩ := hx v e
        exact ⟨z, by simp [Op.unary, hs, h1], h2⟩
      · simp at e
    · simp at e
  · rename_i b
    simp [con] at hu
    subst hu
    split at e <;> simp at e
    subst e
    exact ⟨.bool !b, by simp [Op.unary], rfl⟩
  · simp at e
/-- The least, or the greatest, of whole numbers of one kind. -/
def bestA (less : Int → Int → Bool) : AV → List AV → Option AV
  | x, [] => some x
  | .int k a, .int k' b :: l => match decide (k = k') with
    | true => match less b a with
      | true => bestA less (.int k b) l
      | false => bestA less (.int k a) l
    | false => none
  | _, _ => none
theorem min_sound : ∀ (l : List AV) (us : List Value) (x v : AV) (u : Value), con ρ x = some u → conL ρ l = some us → bestA (fun b a => decide (b < a)) x l = some v → ∃ z, (us.foldlM Builtin.min2 u).run P w = .ok z w ∧ con ρ v = some z
  | [], us, x, v, u, hx, hl, e => by
    simp [conL] at hl
    cases x <;> simp [bestA] at e <;> subst hl e <;> exact ⟨u, rfl, hx⟩
  | y :: l, us, x, v, u, hx, hl, e => by
    obtain ⟨q, qs, h1, h2, rfl⟩ := conL_cons hl
    unfold bestA at e
    split at e
    · simp_all
    · rename_i k a k' b l' heq
      simp only [List.cons.injEq] at heq
      obtain ⟨rfl, rfl⟩ := heq
      simp [con] at hx h1
      subst hx h1
      split at e
      · rename_i hk
        have hk : k = k' := by simpa using hk
        subst hk
        split at e
        · rename_i hb
          have hb : b < a := by simpa using hb
          obtain ⟨z, h3, h4⟩ := min_sound l qs (.int k b) v (.int k b) rfl h2 e
          exact ⟨z, by simp [List.foldlM_cons, Builtin.min2, hb, h3], h4⟩
        · rename_i hb
          have hb : ¬ b < a := by simpa using hb
          obtain ⟨z, h3, h4⟩ := min_sound l qs (.int k a) v (.int k a) rfl h2 e
          exact ⟨z, by simp [List.foldlM_cons, Builtin.min2, hb, h3], h4⟩
      · simp at e
    · simp at e
theorem max_sound : ∀ (l : List AV) (us : List Value) (x v : AV) (u : Value), con ρ x = some u → conL ρ l = some us → bestA (fun b a => decide (a < b)) x l = some v → ∃ z, (us.foldlM Builtin.max2 u).run P w = .ok z w ∧ con ρ v = some z
  | [], us, x, v, u, hx, hl, e => by
    simp [conL] at hl
    cases x <;> simp [bestA] at e <;> subst hl e <;> exact ⟨u, rfl, hx⟩
  | y :: l, us, x, v, u, hx, hl, e => by
    obtain ⟨q, qs, h1, h2, rfl⟩ := conL_cons hl
    unfold bestA at e
    split at e
    · simp_all
    · rename_i k a k' b l' heq
      simp only [List.cons.injEq] at heq
      obtain ⟨rfl, rfl⟩ := heq
      simp [con] at hx h1
      subst hx h1
      split at e
      · rename_i hk
        have hk : k = k' := by simpa using hk
        subst hk
        split at e
        · rename_i hb
          have hb : a < b := by simpa using hb
          obtain ⟨z, h3, h4⟩ := max_sound l qs (.int k b) v (.int k b) rfl h2 e
          exact ⟨z, by simp [List.foldlM_cons, Builtin.max2, hb, h3], h4⟩
        · rename_i hb
          have hb : ¬ a < b := by simpa using hb
          obtain ⟨z, h3, h4⟩ := max_sound l qs (.int k a) v (.int k a) rfl h2 e
          exact ⟨z, by simp [List.foldlM_cons, Builtin.max2, hb, h3], h4⟩
      · simp at e
    · simp at e

/-- A value, and the memory as it was. -/
def withH (h : H) : Option AV → Option (AV × H)
  | some v => some (v, h)
  | none => none
theorem withH_out {x : Option AV} {v : AV} {h' : H} (e : withH h x = some (v, h')) : x = some v ∧ h' = h := by
  unfold withH at e
  split at e <;> simp at e
  obtain ⟨rfl, rfl⟩ := e
  exact ⟨rfl, rfl⟩
def builtinA (P : Program) (h : H) (b : Builtin) (ts : Array TypeId) (args : List AV) : Option (AV × H) := match b, args with
  | .len, [x] => match ts[0]? with
    | some t => withH h (lenA P t x)
    | none => none
  | .cap, [x] => match ts[0]? with
    | some t => withH h (capA P t x)
    | none => none
  | .copy, [d, x] => match ts[0]? with
    | some t => copyA P h t d x
    | none => none
  | .append, [d, x] => match ts[0]?, ts[1]? with
    | some t, some t' => appendA P h t t' d x
    | _, _ => none
  | .min, x :: l => withH h (bestA (fun b a => decide (b < a)) x l)
  | .max, x :: l => withH h (bestA (fun b a => decide (a < b)) x l)
  | _, _ => none
theorem builtin_sound (r : Rel ρ h w) (hn : ρ h.next = none) {b : Builtin} {ts : Array TypeId} {args : List AV} {us : List Value} {v : AV} {h' : H} (hu : conL ρ args = some us) (ty : TypeId) (cs : Array Bool) (e : builtinA P h b ts args = some (v, h')) :
    Does P (builtin b ts ty cs us.toArray) ρ h w v h' := by
  unfold builtinA at e
  split at e
  · obtain ⟨u, us', h1, h2, rfl⟩ := conL_cons hu
    simp [conL] at h2
    subst h2
    split at e
    · rename_i t ht
      obtain ⟨e1, rfl⟩ := withH_out e
      obtain ⟨y, h3, h4⟩ := len_sound (P := P) (w := w) h1 ts ht ty e1
      exact Does.plain r h3 h4
    · simp at e
  · obtain ⟨u, us', h1, h2, rfl⟩ := conL_cons hu
    simp [conL] at h2
    subst h2
    split at e
    · rename_i t ht
      obtain ⟨e1, rfl⟩ := withH_out e
      obtain ⟨y, h3, h4⟩ := cap_sound (P := P) (w := w) h1 ts ht ty e1
      exact Does.plain r h3 h4
    · simp at e
  · obtain ⟨u, us', h1, h2, rfl⟩ := conL_cons hu
    obtain ⟨u2, us2, h3, h4, rfl⟩ := conL_cons h2
    simp [conL] at h4
    subst h4
    split at e
    · rename_i t ht
      exact (copy_sound r h1 h3 ts ht ty e).does
    · simp at e
  · obtain ⟨u, us', h1, h2, rfl⟩ := conL_cons hu
    obtain ⟨u2, us2, h3, h4, rfl⟩ := conL_cons h2
    simp [conL] at h4
    subst h4
    split at e
    · rename_i t t' ht ht'
      exact (append_sound r hn h1 h3 ts ht ht' ty e).does
    · simp at e
  · obtain ⟨u, us', h1, h2, rfl⟩ := conL_cons hu
    obtain ⟨e1, rfl⟩ := withH_out e
    obtain ⟨y, h3, h4⟩ := min_sound (P := P) (w := w) _ us' _ _ u h1 h2 e1
    exact Does.plain r (s := Builtin.min_ ts ty (u :: us').toArray) h3 h4
  · obtain ⟨u, us', h1, h2, rfl⟩ := conL_cons hu
    obtain ⟨e1, rfl⟩ := withH_out e
    obtain ⟨y, h3, h4⟩ := max_sound (P := P) (w := w) _ us' _ _ u h1 h2 e1
    exact Does.plain r (s := Builtin.max_ ts ty (u :: us').toArray) h3 h4
  · simp at e

def opA (P : Program) (h : H) (ev : Operand → Option AV) (o : Oper) : Option (AV × H) := match o.op with
  | .move x => withH h (ev x)
  | .assign x => withH h (ev x)
  | .pick c a b => match ev c with
    | some (.bool true) => withH h (ev a)
    | some (.bool false) => withH h (ev b)
    | _ => none
  | .alloc t => allocA P h t
  | .box t x => match ev x with
    | some v => some (boxA h t v)
    | none => none
  | .build t ps => match evP ev ps.toList with
    | some l => buildA P h t l
    | none => none
  | .buildSlice t n ps => match evP ev ps.toList with
    | some l => buildSliceA P h t n l
    | none => none
  | .load t x => match ev x with
    | some (.pointer (some p)) => withH h (loadA P h t (.pointer (some p)))
    | _ => none
  | .store t a x => match ev a, ev x with
    | some (.pointer (some p)), some v => match storeA P h t (.pointer (some p)) v with
      | some h' => some (.undef, h')
      | none => none
    | _, _ => none
  | .nilCheck x => match ev x with
    | some (.pointer (some p)) => some (.pointer (some p), h)
    | some (.func (.func f) l m) => some (.func (.func f) l m, h)
    | _ => none
  | .binOp op t a b _ => match ev a, ev b with
    | some x, some y => withH h (binA P op t (constB a || constB b) x y)
    | _, _ => none
  | .unOp op _ a => match ev a with
    | some x => withH h (unA op x)
    | none => none
  | .convert s d a => match ev a with
    | some x => convA P h s d x
    | none => none
  | .makeInterface t a => match ev a, P.underlying t with
    | some _, some (.interface _) => none
    | some x, some _ => some (.iface t x, h)
    | _, _ => none
  | .makeFunc f l m => match evL ev l.toList, evL ev m.toList with
    | some x, some y => some (.func f x y, h)
    | _, _ => none
  | .makeSlice t l c => match ev l, ev c with
    | some x, some y => makeA P h t x y
    | _, _ => none
  | .slice t a lo hi mx => match ev a, evO ev lo, evO ev hi, evO ev mx with
    | some x, some l, some hh, some m => withH h (sliceA P h t x l hh m)
    | _, _, _, _ => none
  | .fieldAddr t a f => match ev a with
    | some x => withH h (fieldAtA P t f x)
    | none => none
  | .field t a f => match ev a with
    | some x => withH h (fieldA P t f x)
    | none => none
  | .indexAddr t a i => match ev a, ev i with
    | some x, some y => withH h (indexAtA P t x y)
    | _, _ => none
  | .index t a i => match ev a, ev i with
    | some x, some y => withH h (indexA P t x y)
    | _, _ => none
  | .extract a i => match ev a with
    | some (.tuple l) => withH h l[i]?
    | _ => none
  | .call c => match c.callee with
    | .builtin b => match evL ev c.args.toList with
      | some l => builtinA P h b c.argTypes l
      | none => none
    | _ => none
  | _ => none
theorem op_sound (r : Rel ρ h w) (hn : ρ h.next = none) (he : Evs ρ ev ρe) {o : Oper} {v : AV} {h' : H} (e : opA P h ev o = some (v, h')) : Does P (execOp ρe o) ρ h w v h' := by
  unfold opA at e
  unfold execOp
  split at e
  all_goals rename_i heq; simp only [heq]
  · obtain ⟨e1, rfl⟩ := withH_out e
    exact Does.same r rfl (he _ _ e1)
  · obtain ⟨e1, rfl⟩ := withH_out e
    exact Does.same r rfl (he _ _ e1)
  · split at e
    · rename_i hc
      obtain ⟨e1, rfl⟩ := withH_out e
      have h1 := he _ _ hc
      simp [con] at h1
      exact Does.same r (by simp [← h1, asBool]) (he _ _ e1)
    · rename_i hc
      obtain ⟨e1, rfl⟩ := withH_out e
      have h1 := he _ _ hc
      simp [con] at h1
      exact Does.same r (by simp [← h1, asBool]) (he _ _ e1)
    · simp at e
  · exact (alloc_sound r hn e).does
  · split at e <;> simp only [Option.some.injEq, reduceCtorEq] at e
    rename_i t _ _ x hx
    have := box_sound (P := P) r hn (t := t) (he _ _ hx)
    rw [e] at this
    exact this.does
  · split at e
    · rename_i l hl
      have hp := evP_sound he hl
      have := build_sound r hp e
      rw [← Array.toList_map, Array.toArray_toList] at this
      exact this.does
    · simp at e
  · split at e
    · rename_i l hl
      have hp := evP_sound he hl
      have := buildSlice_sound r hn hp e
      rw [← Array.toList_map, Array.toArray_toList] at this
      exact this.does
    · simp at e
  · split at e
    · rename_i p hp
      obtain ⟨e1, rfl⟩ := withH_out e
      obtain ⟨g, C, u, h1, h2, h3⟩ := loadVar_sound (P := P) r e1
      obtain ⟨g', C', h4, h5⟩ := con_ptr (he _ _ hp)
      rw [h1] at h4
      simp at h4
      obtain ⟨rfl, rfl⟩ := h4
      exact Does.plain r (by simp [h5, Instr.loadAt, Instr.sureAddr, h3]) h2
    · simp at e
  · split at e
    · rename_i p x hp hx
      split at e <;> simp only [Option.some.injEq, reduceCtorEq, Prod.mk.injEq] at e
      rename_i h'' hs
      obtain ⟨rfl, rfl⟩ := e
      obtain ⟨g, C, w', h1, h2, h3, h4⟩ := storeVar_sound (P := P) r (he _ _ hx) hs
      obtain ⟨g', C', h5, h6⟩ := con_ptr (he _ _ hp)
      rw [h1] at h5
      simp at h5
      obtain ⟨rfl, rfl⟩ := h5
      have hnext : h''.next = h.next := by
        simp only [storeA] at hs
        split at hs
        · split at hs <;> simp at hs
          rw [← hs]
          rfl
        · simp at hs
      exact ⟨ρ, .skip, undef, w', by simp [h6, Instr.storeAt, Instr.sureAddr, h2], .inr ⟨rfl, rfl⟩, rfl, h3, h4, .inl ⟨rfl, hnext⟩⟩
    · simp at e
  · split at e <;> simp only [Option.some.injEq, reduceCtorEq, Prod.mk.injEq] at e
    · rename_i p hp
      obtain ⟨rfl, rfl⟩ := e
      obtain ⟨g', C', h5, h6⟩ := con_ptr (he _ _ hp)
      exact Does.same r (by rw [h6]; rfl) (by rw [he _ _ hp, h6])
    · rename_i f l m hp
      obtain ⟨rfl, rfl⟩ := e
      have h1 := he _ _ hp
      simp only [con] at h1
      split at h1 <;> simp at h1
      exact Does.same r (by rw [← h1]; rfl) (by rw [he _ _ hp, ← h1])
  · split at e
    · rename_i x y hx hy
      obtain ⟨e1, rfl⟩ := withH_out e
      obtain ⟨z, h1, h2⟩ := bin_sound (P := P) r (he _ _ hx) (he _ _ hy) e1
      exact Does.plain r h1 h2
    · simp at e
  · split at e
    · rename_i x hx
      obtain ⟨e1, rfl⟩ := withH_out e
      obtain ⟨z, h1, h2⟩ := un_sound (P := P) (w := w) (he _ _ hx) e1
      exact Does.plain r h1 h2
    · simp at e
  · split at e
    · rename_i x hx
      exact (conv_sound r hn (he _ _ hx) e).does
    · simp at e
  · split at e
    · simp at e
    · rename_i t a _ _ x d hni hx hd
      simp only [Option.some.injEq, Prod.mk.injEq] at e
      obtain ⟨rfl, rfl⟩ := e
      refine Does.plain r (u := .iface t (ρe a)) ?_ (by simp [con, he _ _ hx])
      cases d <;> simp [Instr.makeInterface, run_underlying hd] at hni ⊢
    · simp at e
  · split at e <;> simp only [Option.some.injEq, reduceCtorEq, Prod.mk.injEq] at e
    rename_i x y hx hy
    obtain ⟨rfl, rfl⟩ := e
    have h1 := evL_sound he hx
    have h2 := evL_sound he hy
    refine Does.plain r (u := .func _ (Array.map ρe _) (Array.map ρe _)) (by rfl) ?_
    simp only [con, h1, h2]
    rw [← Array.toList_map, Array.toArray_toList, ← Array.toList_map, Array.toArray_toList]
  · split at e
    · rename_i x y hx hy
      exact (make_sound r hn (he _ _ hx) (he _ _ hy) e).does
    · simp at e
  · split at e
    · rename_i x l hh m hx hl hhi hm
      obtain ⟨e1, rfl⟩ := withH_out e
      obtain ⟨z, h1, h2⟩ := slice_sound (P := P) r (he _ _ hx) (evO_sound he hl) (evO_sound he hhi) (evO_sound he hm) e1
      exact Does.plain r h1 h2
    · simp at e
  · split at e
    · rename_i x hx
      obtain ⟨e1, rfl⟩ := withH_out e
      obtain ⟨z, h1, h2⟩ := fieldAt_sound (P := P) (w := w) (he _ _ hx) e1
      exact Does.plain r h1 h2
    · simp at e
  · split at e
    · rename_i x hx
      obtain ⟨e1, rfl⟩ := withH_out e
      obtain ⟨z, h1, h2⟩ := field_sound (P := P) (w := w) (he _ _ hx) e1
      exact Does.plain r h1 h2
    · simp at e
  · split at e
    · rename_i x y hx hy
      obtain ⟨e1, rfl⟩ := withH_out e
      obtain ⟨z, h1, h2⟩ := indexAt_sound (P := P) (w := w) (he _ _ hx) (he _ _ hy) e1
      exact Does.plain r h1 h2
    · simp at e
  · split at e
    · rename_i x y hx hy
      obtain ⟨e1, rfl⟩ := withH_out e
      obtain ⟨z, h1, h2⟩ := index_sound (P := P) (w := w) (he _ _ hx) (he _ _ hy) e1
      exact Does.plain r h1 h2
    · simp at e
  · split at e
    · rename_i l hl
      obtain ⟨e1, rfl⟩ := withH_out e
      obtain ⟨xs, h1, h2⟩ := con_tuple (he _ _ hl)
      obtain ⟨u, h3, h4⟩ := conL_get h1 _ _ e1
      exact Does.plain r (by simp [h2, Instr.extract, h4]) h3
    · simp at e
  · split at e
    · rename_i c _ b hb
      split at e
      · rename_i l hl
        have h1 := builtin_sound r hn (evL_sound he hl) o.type ((c.args.map fun | .const _ => true | _ => false)) e
        rw [← Array.toList_map, Array.toArray_toList] at h1
        simp only [resolve, hb]
        exact h1
      · simp at e
    · simp at e
  · simp at e
end
end Go.Proofs.Ytmeloffdaninmaa
