/-
  The small machine's run of a function's code, and that the world's own run comes to the same (statements whose order is open: in the text behind this one).
-/
import Derived.Test.YtmeloffdaninmaaAbsOp
import Derived.LoopN
namespace Go.Proofs.Ytmeloffdaninmaa
open Go.RowKit
set_option linter.unusedVariables false

structure St where
  tm : Tq AV
  nt : Nat
  h : H
def St.tmp (s : St) (t : Nat) : AV := match s.tm.get deep t with
  | some v => v
  | none => .undef
inductive Ex where
  | go
  | exit (id : Nat)
  | ret
def Ex.to : Ex → Exit
  | .go => .normal
  | .exit id => .exit id
  | .ret => .ret

structure StRel (ρ : Pos) (s : St) (a : Act) (w : World) : Prop where
  defers : a.defers = []
  size : a.tmps.size = s.nt
  slot : ∀ t, con ρ (s.tmp t) = some (a.tmps.getD t undef)
  mem : Rel ρ s.h w
  new : New ρ s.h

/-- A call that comes to this. -/
def CallTo (P : Program) (f : FuncId) (args : List AV) (h : H) (r : AV) (h' : H) : Prop :=
  ∀ (ρ : Pos) (w : World) (vs : List Value), conL ρ args = some vs → Rel ρ h w → New ρ h →
    Calls P f vs.toArray w fun e w' => ∃ ρ' v, con ρ' r = some v ∧ e = .returned v ∧ Rel ρ' h' w' ∧ New ρ' h' ∧ Ext ρ h w ρ' h' w'
/-- Code that comes to this. -/
def RunTo (P : Program) (c : Code) (s : St) (x : Ex) (s' : St) : Prop :=
  ∀ (ρ : Pos) (a : Act) (w : World) (Q : Exit → Act → World → Prop), StRel ρ s a w → (∀ ρ' a' w', StRel ρ' s' a' w' → Ext ρ s.h w ρ' s'.h w' → Q x.to a' w') → c.wp P Q a w
/-- What is known of calls. -/
abbrev Known := FuncId → List AV → H → Option (AV × H)
def Known.Ok (P : Program) (cf : Known) : Prop := ∀ f args h r h', cf f args h = some (r, h') → CallTo P f args h r h'

section
variable {P : Program} {ρ : Pos} {s : St} {a : Act} {w : World} {cf : Known}

theorem StRel.evs (r : StRel ρ s a w) : Evs ρ (evA s.tm) a.eval := by
  intro x v e
  cases x with
  | tmp t =>
    have h1 := r.slot t
    unfold St.tmp at h1
    simp only [evA] at e
    split at e <;> simp at e <;> subst e
    · rename_i v hv
      rw [hv] at h1
      exact h1
    · rename_i hv
      rw [hv] at h1
      exact h1
  | const c => exact avOf_con e ρ
  | global g => simp [evA] at e
  | func f =>
    simp [evA] at e
    subst e
    rfl

/-- A slot is written. -/
def St.put (s : St) (dst : Option Tmp) (v : AV) (h : H) : Option St := match dst with
  | none => some ⟨s.tm, s.nt, h⟩
  | some t => match Nat.blt t s.nt, Nat.blt t 549755813888 with
    | true, true => some ⟨s.tm.set deep t (some v), s.nt, h⟩
    | _, _ => none
theorem put_rel (r : StRel ρ s a w) {ρ' : Pos} {w' : World} {h' : H} {dst : Option Tmp} {v : AV} {u : Value} {s' : St} (l : ρ.le ρ') (hm : Rel ρ' h' w') (hn : New ρ' h') (hu : con ρ' v = some u) (e : s.put dst v h' = some s') : StRel ρ' s' (a.put dst u) w' ∧ s'.h = h' := by
  unfold St.put at e
  split at e
  · simp at e
    subst e
    exact ⟨⟨r.defers, r.size, fun t => con_mono l _ _ (r.slot t), hm, hn⟩, rfl⟩
  · rename_i d
    split at e <;> simp at e
    rename_i h1 h2
    subst e
    have hd : d < s.nt := blt_true h1
    have hd2 : d < 549755813888 := blt_true h2
    refine ⟨⟨r.defers, by simpa [Act.put] using r.size, fun t => ?_, hm, hn⟩, rfl⟩
    by_cases ht : t = d
    · subst ht
      have e1 : (⟨s.tm.set deep t (some v), s.nt, h'⟩ : St).tmp t = v := by
        unfold St.tmp
        simp only
        rw [Tq.get_set_at deep s.tm t (some v) (Nat.lt_of_lt_of_le (Nat.succ_lt_succ hd2) (by decide))]
      rw [e1, hu]
      have hs := r.size
      simp [Act.put, hs, hd]
    · have e1 : (⟨s.tm.set deep d (some v), s.nt, h'⟩ : St).tmp t = s.tmp t := by
        unfold St.tmp
        simp only
        rw [Tq.get_set deep s.tm d (some v) t (Ne.symm ht)]
      rw [e1, con_mono l _ _ (r.slot t)]
      simp [Act.put, Array.getElem?_setIfInBounds_ne (Ne.symm ht)]

/-! ### One operation -/
def callable (P : Program) (f : FuncId) : Bool := match P.funcs[f]? with
  | some fn => fn.body.isSome && !(fn.name == "runtime.NumGoroutine")
  | none => false
def callOf (ev : Operand → Option AV) (o : Oper) : Option (FuncId × List AV) := match o.op with
  | .call c => match c.callee with
    | .value x => match ev x, evL ev c.args.toList with
      | some (.func (.func f) first captured), some l => some (f, first ++ l ++ captured)
      | _, _ => none
    | _ => none
  | _ => none
def doOp (P : Program) (cf : Known) (ev : Operand → Option AV) (h : H) (o : Oper) : Option (AV × H) := match callOf ev o with
  | some (f, args) => match callable P f with
    | true => cf f args h
    | false => none
  | none => opA P h ev o
theorem run_call {ev : Operand → Option AV} {ρe : Operand → Value} (he : Evs ρ ev ρe) {o : Oper} {f : FuncId} {args : List AV} (e : callOf ev o = some (f, args)) (hc : callable P f = true) :
    ∃ vs, conL ρ args = some vs ∧ (execOp ρe o).run P w = .ok (.enter f vs.toArray) w := by
  unfold callOf at e
  split at e
  · rename_i c hop
    split at e
    · rename_i x hx
      split at e <;> simp only [Option.some.injEq, reduceCtorEq, Prod.mk.injEq] at e
      rename_i f' first captured l hv hl
      obtain ⟨rfl, rfl⟩ := e
      have h1 := he _ _ hv
      simp only [con] at h1
      split at h1 <;> simp at h1
      rename_i xs ys hxs hys
      have h2 := evL_sound he hl
      refine ⟨xs ++ c.args.toList.map ρe ++ ys, conL_append (conL_append hxs h2) hys, ?_⟩
      unfold callable at hc
      split at hc
      · rename_i fn hfn
        simp only [Bool.and_eq_true, Bool.not_eq_true'] at hc
        have hb : ¬ (fn.body = none) := fun q => by rw [q] at hc; simp at hc
        have hname : ¬ (fn.name = "runtime.NumGoroutine") := by simpa using hc.2
        unfold execOp
        simp only [hop, resolve, hx, Sem.run_bind]
        rw [← h1]
        simp [Deferred.ofValue, invoke, callFunc, hfn, hb, hname]
      · simp at hc
    · simp at e
  · simp at e
theorem do_sound (ok : Known.Ok P cf) {ev : Operand → Option AV} (he : Evs ρ ev a.eval) {h h' : H} (r : Rel ρ h w) (hn : New ρ h) {o : Oper} {v : AV} (e : doOp P cf ev h o = some (v, h')) {Q : Exit → Act → World → Prop} {K : Act → World → Prop}
    (hK : ∀ ρ' u w', con ρ' v = some u → Rel ρ' h' w' → New ρ' h' → Ext ρ h w ρ' h' w' → K (a.put o.dst u) w') : o.wp P a w K Q := by
  unfold doOp at e
  unfold Oper.wp
  split at e
  · rename_i f args hc
    split at e
    · rename_i hcall
      obtain ⟨vs, h1, h2⟩ := run_call (P := P) (w := w) he hc hcall
      rw [h2]
      show Calls P f vs.toArray w _
      refine (ok f args h v h' e ρ w vs h1 r hn).mono ?_
      rintro e' w' ⟨ρ', u, k1, rfl, k2, k3, k4⟩
      exact hK ρ' u w' k1 k2 k3 k4
    · simp at e
  · obtain ⟨ρ', n, u, w', h1, h2, h3, h4, h5, h6⟩ := op_sound (P := P) r (hn _ (Nat.le_refl _)) he e
    rw [h1]
    rcases h2 with rfl | ⟨rfl, rfl⟩
    · exact hK ρ' u w' h3 h4 (hn.grow h6) h5
    · exact hK ρ' undef w' h3 h4 (hn.grow h6) h5

/-! ### Operations in their order -/
def yieldS (ops : Array Oper) (s : St) (j : Nat) : Option Bool := match ops[j]? with
  | some o => match o.dst with
    | some t => match s.tmp t with
      | .bool b => some b
      | _ => none
    | none => none
  | none => none
theorem con_bool {v : AV} {b : Bool} (e : con ρ v = some (.bool b)) : v = .bool b := by
  cases v
  case bool c => simp [con] at e; rw [e]
  case pointer q => obtain ⟨_, h1⟩ := con_pointer_form e; cases h1
  case slice q n c => obtain ⟨_, _, h1⟩ := con_slice_form e; cases h1
  case func f x y => simp only [con] at e; split at e <;> simp at e
  case iface t v => simp only [con] at e; split at e <;> simp at e
  case map q => cases q <;> simp [con] at e
  case agg l => obtain ⟨_, _, h1⟩ := con_agg e; cases h1
  case tuple l => obtain ⟨_, _, h1⟩ := con_tuple e; cases h1
  case opq u => obtain ⟨rfl, h1⟩ := con_opq e; cases h1
  all_goals simp [con] at e
theorem yield_eq (r : StRel ρ s a w) (ops : Array Oper) (j : Nat) : yielded ops a.tmps j = yieldS ops s j := by
  unfold yielded yieldS
  cases ho : ops[j]? with
  | none => rfl
  | some o =>
    cases hd : o.dst with
    | none => simp [hd]
    | some t =>
      simp only [Option.bind_some, hd]
      have h1 := r.slot t
      cases ht : a.tmps[t]? with
      | none =>
        have h2 : a.tmps.getD t undef = undef := by simp [ht]
        rw [h2] at h1
        generalize s.tmp t = q at h1
        cases q <;> first | rfl | (simp [con, undef] at h1)
      | some u =>
        have h2 : a.tmps.getD t undef = u := by simp [ht]
        rw [h2] at h1
        generalize s.tmp t = q at h1
        cases u
        case bool b => rw [con_bool h1]
        all_goals (cases q <;> first | rfl | (simp [con] at h1))
def wantS (ops : Array Oper) (s : St) (o : Oper) : Bool := match o.guard with
  | none => true
  | some (j, b) => match yieldS ops s j with
    | some c => c == b
    | none => false
theorem want_eq (r : StRel ρ s a w) (ops : Array Oper) (o : Oper) : Region.wanted o (yielded ops a.tmps) = wantS ops s o := by
  unfold Region.wanted wantS
  split
  · rename_i h1
    simp [h1]
  · rename_i j b h1
    rw [yield_eq r]
    simp only [h1]
    cases yieldS ops s j with
    | none => rfl
    | some c => cases c <;> cases b <;> rfl

def runList (P : Program) (cf : Known) (ops : Array Oper) : List Oper → St → Option St
  | [], s => some s
  | o :: l, s => match wantS ops s o with
    | true => match doOp P cf (evA s.tm) s.h o with
      | some (v, h') => match s.put o.dst v h' with
        | some s' => runList P cf ops l s'
        | none => none
      | none => none
    | false => match s.put o.dst .undef s.h with
      | some s' => runList P cf ops l s'
      | none => none
theorem list_sound (ok : Known.Ok P cf) {ops : Array Oper} {Q : Exit → Act → World → Prop} : ∀ (l : List Oper) (s s' : St) (ρ : Pos) (a : Act) (w : World), runList P cf ops l s = some s' → StRel ρ s a w →
    (∀ ρ' a' w', StRel ρ' s' a' w' → Ext ρ s.h w ρ' s'.h w' → Q .normal a' w') → wpList P ops Q l a w
  | [], s, s', ρ, a, w, e, r, hQ => by
    simp [runList] at e
    subst e
    exact hQ ρ a w r (Ext.refl _ _ _)
  | o :: l, s, s', ρ, a, w, e, r, hQ => by
    simp only [runList] at e
    refine wpList_step fun K hK => ?_
    rw [want_eq r]
    split at e
    · rename_i hw
      rw [if_pos hw]
      split at e
      · rename_i v h' hd
        split at e
        · rename_i s1 hp
          refine do_sound ok r.evs r.mem r.new hd fun ρ' u w' k1 k2 k3 k4 => hK _ _ ?_
          obtain ⟨r1, rfl⟩ := put_rel r k4.le k2 k3 k1 hp
          exact list_sound ok l s1 s' ρ' _ w' e r1 fun ρ2 a2 w2 r2 x2 => hQ ρ2 a2 w2 r2 (k4.trans x2)
        · simp at e
      · simp at e
    · rename_i hw
      rw [if_neg (by rw [hw]; decide)]
      split at e
      · rename_i s1 hp
        obtain ⟨r1, hh⟩ := put_rel r (Pos.le_refl _) r.mem r.new (con_undef ρ) hp
        exact hK _ _ (list_sound ok l s1 s' ρ _ w e r1 fun ρ2 a2 w2 r2 x2 => hQ ρ2 a2 w2 r2 (by rw [hh] at x2; exact x2))
      · simp at e
end
end Go.Proofs.Ytmeloffdaninmaa
