/-
  The small machine, second part: code, runs, statements whose order is open, and whole functions.
-/
import Derived.Test.YtpdfalgjmeagjaaCpB02
import Derived.LoopN
import Derived.Scope
/-
  The small machine's run of a function's code, and that the world's own run comes to the same (statements whose order is open: in the text behind this one).
-/
namespace Go.Proofs.Ytpdfalgjmeagjaa
open Go.RowKit
set_option linter.unusedVariables false

structure St where
  tm : Tq AV
  nt : Nat
  h : H
def St.tmp (s : St) (t : Nat) : AV := match s.tm.get deep t with
  | some v => v
  | none => .undef
inductive Ex where
  | go
  | exit (id : Nat)
  | ret
def Ex.to : Ex → Exit
  | .go => .normal
  | .exit id => .exit id
  | .ret => .ret

structure StRel (ρ : Pos) (s : St) (a : Act) (w : World) : Prop where
  defers : a.defers = []
  size : a.tmps.size = s.nt
  slot : ∀ t, con ρ (s.tmp t) = some (a.tmps.getD t undef)
  mem : Rel ρ s.h w
  new : New ρ s.h

/-- A call that comes to this. -/
def CallTo (P : Program) (f : FuncId) (args : List AV) (h : H) (r : AV) (h' : H) : Prop :=
  ∀ (ρ : Pos) (w : World) (vs : List Value), conL ρ args = some vs → Rel ρ h w → New ρ h →
    Calls P f vs.toArray w fun e w' => ∃ ρ' v, con ρ' r = some v ∧ e = .returned v ∧ Rel ρ' h' w' ∧ New ρ' h' ∧ Ext ρ h w ρ' h' w'
/-- Code that comes to this. -/
def RunTo (P : Program) (c : Code) (s : St) (x : Ex) (s' : St) : Prop :=
  ∀ (ρ : Pos) (a : Act) (w : World) (Q : Exit → Act → World → Prop), StRel ρ s a w → (∀ ρ' a' w', StRel ρ' s' a' w' → Ext ρ s.h w ρ' s'.h w' → Q x.to a' w') → c.wp P Q a w
/-- What is known of calls. -/
abbrev Known := FuncId → List AV → H → Option (AV × H)
def Known.Ok (P : Program) (cf : Known) : Prop := ∀ f args h r h', cf f args h = some (r, h') → CallTo P f args h r h'

section
variable {P : Program} {ρ : Pos} {s : St} {a : Act} {w : World} {cf : Known}

theorem StRel.evs (r : StRel ρ s a w) : Evs ρ (evA s.tm) a.eval := by
  intro x v e
  cases x with
  | tmp t =>
    have h1 := r.slot t
    unfold St.tmp at h1
    simp only [evA] at e
    split at e <;> simp at e <;> subst e
    · rename_i v hv
      rw [hv] at h1
      exact h1
    · rename_i hv
      rw [hv] at h1
      exact h1
  | const c => exact avOf_con e ρ
  | global g => simp [evA] at e
  | func f =>
    simp [evA] at e
    subst e
    rfl

/-- A slot is written. -/
def St.put (s : St) (dst : Option Tmp) (v : AV) (h : H) : Option St := match dst with
  | none => some ⟨s.tm, s.nt, h⟩
  | some t => match Nat.blt t s.nt, Nat.blt t 549755813888 with
    | true, true => some ⟨s.tm.set deep t (some v), s.nt, h⟩
    | _, _ => none
theorem put_rel (r : StRel ρ s a w) {ρ' : Pos} {w' : World} {h' : H} {dst : Option Tmp} {v : AV} {u : Value} {s' : St} (l : ρ.le ρ') (hm : Rel ρ' h' w') (hn : New ρ' h') (hu : con ρ' v = some u) (e : s.put dst v h' = some s') : StRel ρ' s' (a.put dst u) w' ∧ s'.h = h' := by
  unfold St.put at e
  split at e
  · simp at e
    subst e
    exact ⟨⟨r.defers, r.size, fun t => con_mono l _ _ (r.slot t), hm, hn⟩, rfl⟩
  · rename_i d
    split at e <;> simp at e
    rename_i h1 h2
    subst e
    have hd : d < s.nt := blt_true h1
    have hd2 : d < 549755813888 := blt_true h2
    refine ⟨⟨r.defers, by simpa [Act.put] using r.size, fun t => ?_, hm, hn⟩, rfl⟩
    by_cases ht : t = d
    · subst ht
      have e1 : (⟨s.tm.set deep t (some v), s.nt, h'⟩ : St).tmp t = v := by
        unfold St.tmp
        simp only
        rw [Tq.get_set_at deep s.tm t (some v) (Nat.lt_of_lt_of_le (Nat.succ_lt_succ hd2) (by decide))]
      rw [e1, hu]
      have hs := r.size
      simp [Act.put, hs, hd]
    · have e1 : (⟨s.tm.set deep d (some v), s.nt, h'⟩ : St).tmp t = s.tmp t := by
        unfold St.tmp
        simp only
        rw [Tq.get_set deep s.tm d (some v) t (Ne.symm ht)]
      rw [e1, con_mono l _ _ (r.slot t)]
      simp [Act.put, Array.getElem?_setIfInBounds_ne (Ne.symm ht)]

/-! ### One operation -/
def callable (P : Program) (f : FuncId) : Bool := match P.funcs[f]? with
  | some fn => fn.body.isSome && !(fn.name == "runtime.NumGoroutine")
  | none => false
def callOf (ev : Operand → Option AV) (o : Oper) : Option (FuncId × List AV) := match o.op with
  | .call c => match c.callee with
    | .value x => match ev x, evL ev c.args.toList with
      | some (.func (.func f) first captured), some l => some (f, first ++ l ++ captured)
      | _, _ => none
    | _ => none
  | _ => none
def doOp (P : Program) (cf : Known) (ev : Operand → Option AV) (h : H) (o : Oper) : Option (AV × H) := match callOf ev o with
  | some (f, args) => match callable P f with
    | true => cf f args h
    | false => none
  | none => opA P h ev o
theorem run_call {ev : Operand → Option AV} {ρe : Operand → Value} (he : Evs ρ ev ρe) {o : Oper} {f : FuncId} {args : List AV} (e : callOf ev o = some (f, args)) (hc : callable P f = true) :
    ∃ vs, conL ρ args = some vs ∧ (execOp ρe o).run P w = .ok (.enter f vs.toArray) w := by
  unfold callOf at e
  split at e
  · rename_i c hop
    split at e
    · rename_i x hx
      split at e <;> simp only [Option.some.injEq, reduceCtorEq, Prod.mk.injEq] at e
      rename_i f' first captured l hv hl
      obtain ⟨rfl, rfl⟩ := e
      have h1 := he _ _ hv
      simp only [con] at h1
      split at h1 <;> simp at h1
      rename_i xs ys hxs hys
      have h2 := evL_sound he hl
      refine ⟨xs ++ c.args.toList.map ρe ++ ys, conL_append (conL_append hxs h2) hys, ?_⟩
      unfold callable at hc
      split at hc
      · rename_i fn hfn
        simp only [Bool.and_eq_true, Bool.not_eq_true'] at hc
        have hb : ¬ (fn.body = none) := fun q => by rw [q] at hc; simp at hc
        have hname : ¬ (fn.name = "runtime.NumGoroutine") := by simpa using hc.2
        unfold execOp
        simp only [hop, resolve, hx, Sem.run_bind]
        rw [← h1]
        simp [Deferred.ofValue, invoke, callFunc, hfn, hb, hname]
      · simp at hc
    · simp at e
  · simp at e
theorem do_sound (ok : Known.Ok P cf) {ev : Operand → Option AV} (he : Evs ρ ev a.eval) {h h' : H} (r : Rel ρ h w) (hn : New ρ h) {o : Oper} {v : AV} (e : doOp P cf ev h o = some (v, h')) {Q : Exit → Act → World → Prop} {K : Act → World → Prop}
    (hK : ∀ ρ' u w', con ρ' v = some u → Rel ρ' h' w' → New ρ' h' → Ext ρ h w ρ' h' w' → K (a.put o.dst u) w') : o.wp P a w K Q := by
  unfold doOp at e
  unfold Oper.wp
  split at e
  · rename_i f args hc
    split at e
    · rename_i hcall
      obtain ⟨vs, h1, h2⟩ := run_call (P := P) (w := w) he hc hcall
      rw [h2]
      show Calls P f vs.toArray w _
      refine (ok f args h v h' e ρ w vs h1 r hn).mono ?_
      rintro e' w' ⟨ρ', u, k1, rfl, k2, k3, k4⟩
      exact hK ρ' u w' k1 k2 k3 k4
    · simp at e
  · obtain ⟨ρ', n, u, w', h1, h2, h3, h4, h5, h6⟩ := op_sound (P := P) r (hn _ (Nat.le_refl _)) he e
    rw [h1]
    rcases h2 with rfl | ⟨rfl, rfl⟩
    · exact hK ρ' u w' h3 h4 (hn.grow h6) h5
    · exact hK ρ' undef w' h3 h4 (hn.grow h6) h5

/-! ### Operations in their order -/
def yieldS (ops : Array Oper) (s : St) (j : Nat) : Option Bool := match ops[j]? with
  | some o => match o.dst with
    | some t => match s.tmp t with
      | .bool b => some b
      | _ => none
    | none => none
  | none => none
theorem con_bool {v : AV} {b : Bool} (e : con ρ v = some (.bool b)) : v = .bool b := by
  cases v
  case bool c => simp [con] at e; rw [e]
  case pointer q => obtain ⟨_, h1⟩ := con_pointer_form e; cases h1
  case slice q n c => obtain ⟨_, _, h1⟩ := con_slice_form e; cases h1
  case func f x y => simp only [con] at e; split at e <;> simp at e
  case iface t v => simp only [con] at e; split at e <;> simp at e
  case map q => cases q <;> simp [con] at e
  case agg l => obtain ⟨_, _, h1⟩ := con_agg e; cases h1
  case tuple l => obtain ⟨_, _, h1⟩ := con_tuple e; cases h1
  case opq u => obtain ⟨rfl, h1⟩ := con_opq e; cases h1
  all_goals simp [con] at e
theorem yield_eq (r : StRel ρ s a w) (ops : Array Oper) (j : Nat) : yielded ops a.tmps j = yieldS ops s j := by
  unfold yielded yieldS
  cases ho : ops[j]? with
  | none => rfl
  | some o =>
    cases hd : o.dst with
    | none => simp [hd]
    | some t =>
      simp only [Option.bind_some, hd]
      have h1 := r.slot t
      cases ht : a.tmps[t]? with
      | none =>
        have h2 : a.tmps.getD t undef = undef := by simp [ht]
        rw [h2] at h1
        generalize s.tmp t = q at h1
        cases q <;> first | rfl | (simp [con, undef] at h1)
      | some u =>
        have h2 : a.tmps.getD t undef = u := by simp [ht]
        rw [h2] at h1
        generalize s.tmp t = q at h1
        cases u
        case bool b => rw [con_bool h1]
        all_goals (cases q <;> first | rfl | (simp [con] at h1))
def wantS (ops : Array Oper) (s : St) (o : Oper) : Bool := match o.guard with
  | none => true
  | some (j, b) => match yieldS ops s j with
    | some c => c == b
    | none => false
theorem want_eq (r : StRel ρ s a w) (ops : Array Oper) (o : Oper) : Region.wanted o (yielded ops a.tmps) = wantS ops s o := by
  unfold Region.wanted wantS
  split
  · rename_i h1
    simp [h1]
  · rename_i j b h1
    rw [yield_eq r]
    simp only [h1]
    cases yieldS ops s j with
    | none => rfl
    | some c => cases c <;> cases b <;> rfl

def runList (P : Program) (cf : Known) (ops : Array Oper) : List Oper → St → Option St
  | [], s => some s
  | o :: l, s => match wantS ops s o with
    | true => match doOp P cf (evA s.tm) s.h o with
      | some (v, h') => match s.put o.dst v h' with
        | some s' => runList P cf ops l s'
        | none => none
      | none => none
    | false => match s.put o.dst .undef s.h with
      | some s' => runList P cf ops l s'
      | none => none
theorem list_sound (ok : Known.Ok P cf) {ops : Array Oper} {Q : Exit → Act → World → Prop} : ∀ (l : List Oper) (s s' : St) (ρ : Pos) (a : Act) (w : World), runList P cf ops l s = some s' → StRel ρ s a w →
    (∀ ρ' a' w', StRel ρ' s' a' w' → Ext ρ s.h w ρ' s'.h w' → Q .normal a' w') → wpList P ops Q l a w
  | [], s, s', ρ, a, w, e, r, hQ => by
    simp [runList] at e
    subst e
    exact hQ ρ a w r (Ext.refl _ _ _)
  | o :: l, s, s', ρ, a, w, e, r, hQ => by
    simp only [runList] at e
    refine wpList_step fun K hK => ?_
    rw [want_eq r]
    split at e
    · rename_i hw
      rw [if_pos hw]
      split at e
      · rename_i v h' hd
        split at e
        · rename_i s1 hp
          refine do_sound ok r.evs r.mem r.new hd fun ρ' u w' k1 k2 k3 k4 => hK _ _ ?_
          obtain ⟨r1, rfl⟩ := put_rel r k4.le k2 k3 k1 hp
          exact list_sound ok l s1 s' ρ' _ w' e r1 fun ρ2 a2 w2 r2 x2 => hQ ρ2 a2 w2 r2 (k4.trans x2)
        · simp at e
      · simp at e
    · rename_i hw
      rw [if_neg (by rw [hw]; decide)]
      split at e
      · rename_i s1 hp
        obtain ⟨r1, hh⟩ := put_rel r (Pos.le_refl _) r.mem r.new (con_undef ρ) hp
        exact hK _ _ (list_sound ok l s1 s' ρ _ w e r1 fun ρ2 a2 w2 r2 x2 => hQ ρ2 a2 w2 r2 (by rw [hh] at x2; exact x2))
      · simp at e
end
end Go.Proofs.Ytpdfalgjmeagjaa

/-
  The small machine's run of code and of whole functions, and that the world's own run comes to the same.
-/
namespace Go.Proofs.Ytpdfalgjmeagjaa
open Go.RowKit
set_option linter.unusedVariables false

/-- What is known of statements whose order is open. -/
abbrev Drawn := Array Oper → St → Option St
def Drawn.Ok (P : Program) (dr : Drawn) : Prop := ∀ ops s s', dr ops s = some s' → ∀ (id : Nat), RunTo P (.region id ops true) s .go s'

/-- An exit out of a block. -/
def outOf (id : Nat) : Option (Ex × St) → Option (Ex × St)
  | some (.exit id', s) => match Nat.beq id' id with
    | true => some (.go, s)
    | false => some (.exit id', s)
  | r => r
def ex (P : Program) (cf : Known) (dr : Drawn) : Nat → Code → St → Option (Ex × St)
  | 0, _, _ => none
  | n + 1, c, s => match c with
    | .skip => some (.go, s)
    | .label _ => some (.go, s)
    | .region _ ops false => match runList P cf ops ops.toList s with
      | some s' => some (.go, s')
      | none => none
    | .region _ ops true => match dr ops s with
      | some s' => some (.go, s')
      | none => none
    | .seq x y => match ex P cf dr n x s with
      | some (.go, s') => ex P cf dr n y s'
      | r => r
    | .cond c x y => match evA s.tm c with
      | some (.bool true) => ex P cf dr n x s
      | some (.bool false) => ex P cf dr n y s
      | _ => none
    | .block id b => outOf id (ex P cf dr n b s)
    | .scope b => ex P cf dr n b s
    | .loop b => match ex P cf dr n b s with
      | some (.go, s') => ex P cf dr n (.loop b) s'
      | r => r
    | .exit id => some (.exit id, s)
    | .ret => some (.ret, s)
    | _ => none

section
variable {P : Program} {cf : Known} {dr : Drawn}

theorem ex_sound (ok : Known.Ok P cf) (dk : Drawn.Ok P dr) : ∀ (n : Nat), (∀ (c : Code) (s : St) (x : Ex) (s' : St), ex P cf dr n c s = some (x, s') → RunTo P c s x s') ∧
    (∀ (b : Code) (s : St) (x : Ex) (s' : St), ex P cf dr n (.loop b) s = some (x, s') → ∃ k, ∀ (ρ : Pos) (a : Act) (w : World) (Q : Exit → Act → World → Prop), StRel ρ s a w → (∀ ρ' a' w', StRel ρ' s' a' w' → Ext ρ s.h w ρ' s'.h w' → Q x.to a' w') → Code.rounds P b Q k a w)
  | 0 => ⟨fun c s x s' e => by simp [ex] at e, fun b s x s' e => by simp [ex] at e⟩
  | n + 1 => by
    obtain ⟨ih, ihl⟩ := ex_sound ok dk n
    have loops : ∀ (b : Code) (s : St) (x : Ex) (s' : St), ex P cf dr (n + 1) (.loop b) s = some (x, s') → ∃ k, ∀ (ρ : Pos) (a : Act) (w : World) (Q : Exit → Act → World → Prop), StRel ρ s a w → (∀ ρ' a' w', StRel ρ' s' a' w' → Ext ρ s.h w ρ' s'.h w' → Q x.to a' w') → Code.rounds P b Q k a w := by
      intro b s x s' e
      simp only [ex] at e
      split at e
      · rename_i s1 h1
        obtain ⟨k, hk⟩ := ihl b s1 x s' e
        refine ⟨k + 1, fun ρ a w Q r hQ => ?_⟩
        rw [rounds_succ]
        refine ih b s .go s1 h1 ρ a w _ r fun ρ1 a1 w1 r1 x1 => ?_
        exact hk ρ1 a1 w1 Q r1 fun ρ2 a2 w2 r2 x2 => hQ ρ2 a2 w2 r2 (x1.trans x2)
      · rename_i hne
        have hx : x ≠ .go := fun hx => hne s' (by rw [e, hx])
        refine ⟨1, fun ρ a w Q r hQ => ?_⟩
        rw [rounds_succ]
        refine ih b s x s' e ρ a w _ r fun ρ1 a1 w1 r1 x1 => ?_
        have := hQ ρ1 a1 w1 r1 x1
        cases x <;> first | exact absurd rfl hx | exact this
    refine ⟨fun c s x s' e => ?_, loops⟩
    intro ρ a w Q r hQ
    cases c
    case skip =>
      simp [ex] at e
      obtain ⟨rfl, rfl⟩ := e
      exact wp_skip (hQ ρ a w r (Ext.refl _ _ _))
    case label l =>
      simp [ex] at e
      obtain ⟨rfl, rfl⟩ := e
      exact wp_label (hQ ρ a w r (Ext.refl _ _ _))
    case region id ops draw =>
      cases draw
      · simp only [ex] at e
        split at e <;> simp only [Option.some.injEq, reduceCtorEq, Prod.mk.injEq] at e
        rename_i s1 h1
        obtain ⟨rfl, rfl⟩ := e
        exact wp_region_list (list_sound ok _ _ _ ρ a w h1 r hQ)
      · simp only [ex] at e
        split at e <;> simp only [Option.some.injEq, reduceCtorEq, Prod.mk.injEq] at e
        rename_i s1 h1
        obtain ⟨rfl, rfl⟩ := e
        exact dk ops s s1 h1 id ρ a w Q r hQ
    case seq c1 c2 =>
      simp only [ex] at e
      refine wp_seq ?_
      split at e
      · rename_i s1 h1
        refine ih c1 s .go s1 h1 ρ a w _ r fun ρ1 a1 w1 r1 x1 => ?_
        exact ih c2 s1 x s' e ρ1 a1 w1 Q r1 fun ρ2 a2 w2 r2 x2 => hQ ρ2 a2 w2 r2 (x1.trans x2)
      · rename_i hne
        have hx : x ≠ .go := fun hx => hne s' (by rw [e, hx])
        refine ih c1 s x s' e ρ a w _ r fun ρ1 a1 w1 r1 x1 => ?_
        have := hQ ρ1 a1 w1 r1 x1
        cases x <;> first | exact absurd rfl hx | exact this
    case cond c0 c1 c2 =>
      simp only [ex] at e
      split at e
      · rename_i hc
        have := r.evs _ _ hc
        simp [con] at this
        exact wp_cond_true this.symm (ih c1 s x s' e ρ a w Q r hQ)
      · rename_i hc
        have := r.evs _ _ hc
        simp [con] at this
        exact wp_cond_false this.symm (ih c2 s x s' e ρ a w Q r hQ)
      · simp at e
    case block id b =>
      simp only [ex] at e
      refine wp_block ?_
      unfold outOf at e
      split at e
      · rename_i id' s1 h1
        refine ih b s (.exit id') s1 h1 ρ a w _ r fun ρ1 a1 w1 r1 x1 => ?_
        split at e
        · rename_i hid
          simp at e
          obtain ⟨rfl, rfl⟩ := e
          have hid : id' = id := Nat.eq_of_beq_eq_true hid
          simp only [Ex.to, Exit.inBlock, hid, if_true]
          exact hQ ρ1 a1 w1 r1 x1
        · rename_i hid
          simp at e
          obtain ⟨rfl, rfl⟩ := e
          have hid : ¬ id' = id := fun q => by rw [q, Nat.beq_refl] at hid; cases hid
          simp only [Ex.to, Exit.inBlock, hid, if_false]
          exact hQ ρ1 a1 w1 r1 x1
      · rename_i hne
        refine ih b s x s' e ρ a w _ r fun ρ1 a1 w1 r1 x1 => ?_
        have := hQ ρ1 a1 w1 r1 x1
        cases x
        · exact this
        · rename_i id'
          exact absurd e (hne id' s')
        · exact this
    case scope b =>
      simp only [ex] at e
      refine wp_scope_straight ?_
      refine ih b s x s' e ρ a w _ r fun ρ1 a1 w1 r1 x1 => ?_
      have := hQ ρ1 a1 w1 r1 x1
      cases x <;> exact this
    case loop b =>
      obtain ⟨k, hk⟩ := loops b s x s' e
      exact wp_loop_rounds k (hk ρ a w Q r hQ)
    case exit id =>
      simp [ex] at e
      obtain ⟨rfl, rfl⟩ := e
      exact wp_exit (hQ ρ a w r (Ext.refl _ _ _))
    case ret =>
      simp [ex] at e
      obtain ⟨rfl, rfl⟩ := e
      exact wp_ret (hQ ρ a w r (Ext.refl _ _ _))
    all_goals simp [ex] at e
end

/-! ### Whole functions -/
def argsIn : Nat → List AV → Tq AV → Tq AV
  | _, [], t => t
  | k, v :: l, t => argsIn (k + 1) l (t.set deep k (some v))
def resL (P : Program) (s : St) : List ResultVar → Option (List AV)
  | [] => some []
  | .tmp t :: l => match resL P s l with
    | some vs => some (s.tmp t :: vs)
    | none => none
  | .cell a t :: l => match s.tmp a with
    | .pointer (some p) => match loadA P s.h t (.pointer (some p)), resL P s l with
      | some v, some vs => some (v :: vs)
      | _, _ => none
    | _ => none
def resA (P : Program) (s : St) (l : List ResultVar) : Option AV := match resL P s l with
  | some [v] => some v
  | some vs => some (.tuple vs)
  | none => none
def bodyA (P : Program) (s : St) (l : List ResultVar) : Option (Ex × St) → Option (AV × H)
  | some (.go, s') => match resA P s' l with
    | some r => some (r, s'.h)
    | none => none
  | some (.ret, s') => match resA P s' l with
    | some r => some (r, s'.h)
    | none => none
  | _ => none
/-- A function's run: by what is known of it, else by its body. -/
def enterA (P : Program) (run : Code → St → Option (Ex × St)) : Known := fun f args h => match P.funcs[f]? with
  | some fn => match fn.body with
    | some c => match Nat.ble args.length fn.ntmps, Nat.ble fn.ntmps 100000 with
      | true, true => bodyA P ⟨argsIn 0 args .nil, fn.ntmps, h⟩ fn.results.toList (run c ⟨argsIn 0 args .nil, fn.ntmps, h⟩)
      | _, _ => none
    | none => none
  | none => none
section
variable {P : Program} {ρ : Pos} {s : St} {a : Act} {w : World}
theorem argsIn_get : ∀ (l : List AV) (k : Nat) (t : Tq AV) (j : Nat), k + l.length < 549755813888 → (argsIn k l t).get deep j = if k ≤ j ∧ j < k + l.length then l[j - k]? else t.get deep j
  | [], k, t, j, h => by simp only [argsIn, List.length_nil]; rw [if_neg (by omega)]
  | v :: l, k, t, j, h => by
    simp only [List.length_cons] at h ⊢
    rw [argsIn, argsIn_get l (k + 1) _ j (by omega)]
    by_cases h1 : k + 1 ≤ j ∧ j < k + 1 + l.length
    · rw [if_pos h1, if_pos (by omega)]
      rw [show j - k = (j - (k + 1)) + 1 from by omega, List.getElem?_cons_succ]
    · rw [if_neg h1]
      by_cases h2 : j = k
      · subst h2
        rw [if_pos (by omega), Tq.get_set_at deep t j (some v) (by show j + 1 < 1099511627776; omega)]
        simp
      · rw [if_neg (by omega), Tq.get_set deep t k (some v) j (Ne.symm h2)]
theorem enter_rel {args : List AV} {vs : List Value} {nt : Nat} {h : H} (hc : conL ρ args = some vs) (hm : Rel ρ h w) (hn : New ρ h) (hle : args.length ≤ nt) (hb : nt ≤ 100000) :
    StRel ρ ⟨argsIn 0 args .nil, nt, h⟩ { tmps := vs.toArray ++ Array.replicate (nt - vs.toArray.size) undef, defers := [] } w := by
  have hl := conL_length hc
  refine ⟨rfl, by simp [hl]; omega, fun t => ?_, hm, hn⟩
  unfold St.tmp
  simp only
  rw [argsIn_get args 0 .nil t (by omega)]
  by_cases h1 : t < args.length
  · rw [if_pos (by omega), Nat.sub_zero, List.getElem?_eq_getElem h1]
    obtain ⟨u, h2, h3⟩ := conL_get hc t _ (List.getElem?_eq_getElem h1)
    simp only [h2]
    have h4 : t < vs.length := by omega
    have h5 : (vs.toArray ++ Array.replicate (nt - vs.toArray.size) undef)[t]? = some u := by
      rw [Array.getElem?_append_left (by simpa using h4)]
      simpa using h3
    rw [Array.getD_eq_getD_getElem?, h5]
    rfl
  · rw [if_neg (by omega), Tq.get_nil]
    simp only
    have h4 : vs.length ≤ t := by omega
    have h5 : (vs.toArray ++ Array.replicate (nt - vs.toArray.size) undef)[t]?.getD undef = undef := by
      rw [Array.getElem?_append_right (by simpa using h4), Array.getElem?_replicate]
      split <;> rfl
    rw [Array.getD_eq_getD_getElem?, h5]
    rfl
def resF (tmps : Array Value) : ResultVar → Sem Value
  | .tmp t => pure (tmps.getD t undef)
  | .cell p t => do loadVar t (← asAddr (tmps.getD p undef))
theorem resL_sound (r : StRel ρ s a w) : ∀ (l : List ResultVar) (vs : List AV), resL P s l = some vs → ∃ us, (l.mapM (resF a.tmps)).run P w = .ok us w ∧ conL ρ vs = some us
  | [], vs, e => by simp [resL] at e; subst e; exact ⟨[], rfl, rfl⟩
  | .tmp t :: l, vs, e => by
    simp only [resL] at e
    split at e <;> simp at e
    rename_i ws hw
    subst e
    obtain ⟨us, h1, h2⟩ := resL_sound r l ws hw
    exact ⟨_, by simp only [List.mapM_cons, resF, Sem.run_bind, Sem.run_pure, Result.andThen_ok, h1], conL_mk (r.slot t) h2⟩
  | .cell p t :: l, vs, e => by
    simp only [resL] at e
    split at e
    · rename_i q hq
      split at e <;> simp at e
      rename_i v ws hv hw
      subst e
      obtain ⟨us, h1, h2⟩ := resL_sound r l ws hw
      obtain ⟨g, C, u, h3, h4, h5⟩ := loadVar_sound (P := P) r.mem hv
      have h6 := r.slot p
      rw [hq] at h6
      obtain ⟨g', C', h7, h8⟩ := con_ptr h6
      rw [h3] at h7
      simp at h7
      obtain ⟨rfl, rfl⟩ := h7
      have h9 : (asAddr (a.tmps.getD p undef)).run P w = .ok ⟨g, q.2, none⟩ w := by rw [h8]; rfl
      exact ⟨_, by simp only [List.mapM_cons, resF, Sem.run_bind, Sem.run_pure, Result.andThen_ok, h9, h5, h1], conL_mk h4 h2⟩
    · simp at e
theorem res_sound (r : StRel ρ s a w) {fn : Func} {v : AV} (e : resA P s fn.results.toList = some v) : ∃ u, (results fn a.tmps).run P w = .ok u w ∧ con ρ v = some u := by
  unfold resA at e
  have key : ∀ vs, resL P s fn.results.toList = some vs → ∃ us, conL ρ vs = some us ∧ (results fn a.tmps).run P w = .ok (if h : us.toArray.size = 1 then us.toArray[0] else .tuple us.toArray) w := by
    intro vs hv
    obtain ⟨us, h1, h2⟩ := resL_sound r _ _ hv
    refine ⟨us, h2, ?_⟩
    show (do let vs ← fn.results.mapM (resF a.tmps); pure (if h : vs.size = 1 then vs[0] else .tuple vs) : Sem Value).run P w = _
    rw [Array.mapM_eq_mapM_toList]
    simp only [Sem.run_bind, Sem.run_map, h1, Result.andThen_ok, Sem.run_pure]
  split at e
  · rename_i v' hv
    simp at e
    subst e
    obtain ⟨us, h1, h2⟩ := key _ hv
    obtain ⟨u, us', h3, h4, rfl⟩ := conL_cons h1
    simp [conL] at h4
    subst h4
    exact ⟨u, by simpa using h2, h3⟩
  · rename_i vs hne hv
    simp at e
    subst e
    obtain ⟨us, h1, h2⟩ := key _ hv
    have hl := conL_length h1
    have h3 : ¬ us.toArray.size = 1 := by
      rw [List.size_toArray, hl]
      intro h4
      match vs, h4 with
      | [v], _ => exact hne v rfl
    rw [dif_neg h3] at h2
    exact ⟨_, h2, by simp [con, h1]⟩
  · simp at e
theorem enter_sound {run : Code → St → Option (Ex × St)} (hr : ∀ c s x s', run c s = some (x, s') → RunTo P c s x s') : Known.Ok P (enterA P run) := by
  intro f args h r h' e ρ w vs hc hm hn
  unfold enterA at e
  split at e
  · rename_i fn hf
    split at e
    · rename_i c hb
      split at e
      · rename_i h1 h2
        have h1 : args.length ≤ fn.ntmps := Nat.le_of_ble_eq_true h1
        have h2 : fn.ntmps ≤ 100000 := Nat.le_of_ble_eq_true h2
        have r0 := enter_rel (nt := fn.ntmps) hc hm hn h1 h2
        refine calls_of_wp hf hb ?_
        unfold bodyA at e
        split at e
        · rename_i s' hrun
          split at e <;> simp at e
          rename_i v hv
          obtain ⟨rfl, rfl⟩ := e
          refine hr _ _ _ _ hrun ρ _ w _ r0 fun ρ' a' w' r' x' => ?_
          obtain ⟨u, h3, h4⟩ := res_sound r' hv
          exact ⟨r'.defers, u, h3, ρ', u, h4, rfl, r'.mem, r'.new, x'⟩
        · rename_i s' hrun
          split at e <;> simp at e
          rename_i v hv
          obtain ⟨rfl, rfl⟩ := e
          refine hr _ _ _ _ hrun ρ _ w _ r0 fun ρ' a' w' r' x' => ?_
          obtain ⟨u, h3, h4⟩ := res_sound r' hv
          exact ⟨r'.defers, u, h3, ρ', u, h4, rfl, r'.mem, r'.new, x'⟩
        · simp at e
      · simp at e
    · simp at e
  · simp at e
end
end Go.Proofs.Ytpdfalgjmeagjaa

/-
  The small machine's run of a statement whose order is open: once, in an order of its own, with checks that make every order come to the same.
-/
namespace Go.Proofs.Ytpdfalgjmeagjaa
open Go.RowKit
set_option linter.unusedVariables false

/-! ### Ways through a statement, by what is listed -/
section
variable {P : Program} {ops : Array Oper} {Q : Exit → Act → World → Prop}
def isListed (listed : Array Bool) (j : Nat) : Bool := listed.getD j false
def edgesOk (ops : Array Oper) : Bool := (List.range ops.size).all fun i => match ops[i]? with
  | some o => o.after.toList.all fun e => !Region.binds .any e || Nat.blt e.on i
  | none => true
def withI (S : Nat → Bool) (i : Nat) : Nat → Bool := fun j => match Nat.beq j i with
  | true => true
  | false => S j
theorem withI_self (S : Nat → Bool) (i : Nat) : withI S i i = true := by simp [withI]
theorem withI_ne (S : Nat → Bool) {i j : Nat} (h : j ≠ i) : withI S i j = S j := by
  unfold withI
  cases hb : Nat.beq j i
  · rfl
  · exact absurd (Nat.eq_of_beq_eq_true hb) h
theorem withI_old {S : Nat → Bool} {i j : Nat} (h : S j = true) : withI S i j = true := by
  by_cases e : j = i
  · subst e; exact withI_self S j
  · rw [withI_ne S e]; exact h
theorem wpAny_inv (I : (Nat → Bool) → Act → World → Prop) (hed : edgesOk ops = true)
    (step : ∀ S a w i o, I S a w → ops[i]? = some o → S i = false → (∀ e ∈ o.after, Region.binds .any e = true → S e.on = true) →
      if Region.wanted o (yielded ops a.tmps) then o.wp P a w (I (withI S i)) Q else I (withI S i) (a.put o.dst undef) w)
    (fin : ∀ S a w, I S a w → (∀ i, i < ops.size → S i = true) → Q .normal a w) :
    ∀ (fuel : Nat) (listed : Array Bool) (S : Nat → Bool) (a : Act) (w : World), (∀ j, S j = isListed listed j) → listed.size = ops.size → I S a w → listed.toList.count false ≤ fuel → wpAny P .any ops Q fuel listed a w := by
  have edge : ∀ i o, ops[i]? = some o → ∀ e ∈ o.after, Region.binds .any e = true → e.on < i := fun i o ho e he hb => by
    have hlt : i < ops.size := (Array.getElem?_eq_some_iff.1 ho).1
    have h1 := List.all_eq_true.1 hed i (List.mem_range.2 hlt)
    simp only [ho] at h1
    have h2 := List.all_eq_true.1 h1 e (by simpa using he)
    rw [hb] at h2
    exact blt_true (by simpa using h2)
  have done : ∀ (listed : Array Bool) (S : Nat → Bool) a w, (∀ j, S j = isListed listed j) → listed.size = ops.size → I S a w → Region.ready .any ops listed = [] → Q .normal a w := by
    intro listed S a w hS hsz hI hr
    refine fin S a w hI fun j => ?_
    induction j using Nat.strongRecOn with
    | _ j ih =>
      intro hj
      cases hl : S j
      · exfalso
        have hjl : j < listed.size := by omega
        have hl' : listed.getD j true = false := by
          have := hS j
          rw [hl] at this
          unfold isListed at this
          simp [hjl] at this ⊢
          exact this
        have hm : j ∈ Region.ready .any ops listed := mem_ready.2 ⟨hl', ops[j], Array.getElem?_eq_getElem hj, fun e he hb => by
          have h1 := edge j _ (Array.getElem?_eq_getElem hj) e he hb
          have h2 := ih e.on h1 (by omega)
          rw [hS] at h2
          exact h2⟩
        rw [hr] at hm
        cases hm
      · rfl
  intro fuel
  induction fuel with
  | zero =>
    intro listed S a w hS hsz hI hc
    have hr : Region.ready .any ops listed = [] := by
      rw [List.eq_nil_iff_forall_not_mem]
      intro i hi
      have h0 := (mem_ready.1 hi).1
      have hlt : i < listed.size := by
        rcases Nat.lt_or_ge i listed.size with h | h
        · exact h
        · simp [Array.getElem?_eq_none h] at h0
      have hmem : false ∈ listed.toList := by
        simp [hlt] at h0
        rw [← h0]
        simp
      have := List.count_pos_iff.2 hmem
      omega
    exact ⟨hr, done listed S a w hS hsz hI hr⟩
  | succ fuel ih =>
    intro listed S a w hS hsz hI hc
    refine ⟨done listed S a w hS hsz hI, fun i hi => ?_⟩
    obtain ⟨h0, o, ho, hdep⟩ := mem_ready.1 hi
    have hlt : i < listed.size := by rw [hsz]; exact (Array.getElem?_eq_some_iff.1 ho).1
    have hcount : (listed.setIfInBounds i true).toList.count false ≤ fuel := by
      rw [Array.toList_setIfInBounds, List.count_set (by simpa using hlt)]
      have hf : listed.toList[i]'(by simpa using hlt) = false := by simpa [hlt] using h0
      have hp : 0 < listed.toList.count false := List.count_pos_iff.2 (by rw [← hf]; exact List.getElem_mem _)
      rw [hf]
      simp only [beq_self_eq_true, if_true]
      show _ - 1 + 0 ≤ fuel
      omega
    have hS' : ∀ j, withI S i j = isListed (listed.setIfInBounds i true) j := fun j => by
      by_cases e : j = i
      · subst e
        rw [withI_self]
        simp [isListed, hlt]
      · rw [withI_ne S e, hS]
        simp [isListed, Array.getElem?_setIfInBounds_ne (Ne.symm e)]
    have hSi : S i = false := by
      rw [hS]
      unfold isListed
      simp [hlt] at h0 ⊢
      exact h0
    have hst := step S a w i o hI ho hSi (fun e he hb => by rw [hS]; exact hdep e he hb)
    unfold wpOp
    simp only [ho]
    split
    · rename_i hw
      rw [if_pos hw] at hst
      exact .inl (Oper.wp_mono (fun a' w' h => ih _ _ a' w' hS' (by simpa using hsz) h hcount) hst)
    · rename_i hw
      rw [if_neg hw] at hst
      exact ih _ _ _ _ hS' (by simpa using hsz) hst hcount
end

/-! ### What has to come ahead -/
inductive Dep (ops : Array Oper) : Nat → Nat → Prop where
  | edge {i : Nat} {o : Oper} {e : Edge} (ho : ops[i]? = some o) (he : e ∈ o.after) (hb : Region.binds .any e = true) : Dep ops i e.on
  | trans {i j k : Nat} : Dep ops i j → Dep ops j k → Dep ops i k
def maskOf (acc : List Nat) : List Edge → Nat → Nat
  | [], s => s
  | e :: l, s => match Region.binds .any e with
    | true => maskOf acc l (Nat.lor s (Nat.lor (2 ^ e.on) (acc.getD e.on 0)))
    | false => maskOf acc l s
def masksFrom (acc : List Nat) : List Oper → List Nat
  | [] => acc
  | o :: l => masksFrom (acc ++ [maskOf acc o.after.toList 0]) l
def masks (ops : Array Oper) : List Nat := masksFrom [] ops.toList
theorem maskOf_bit (acc : List Nat) : ∀ (l : List Edge) (s j : Nat), (maskOf acc l s).testBit j = true → s.testBit j = true ∨ ∃ e ∈ l, Region.binds .any e = true ∧ (e.on = j ∨ (acc.getD e.on 0).testBit j = true)
  | [], s, j, h => .inl h
  | e :: l, s, j, h => by
    simp only [maskOf] at h
    split at h
    · rename_i hb
      rcases maskOf_bit acc l _ j h with h1 | ⟨e', he', h1⟩
      · have h2 : (s ||| (2 ^ e.on ||| acc.getD e.on 0)).testBit j = true := h1
        rw [Nat.testBit_or, Nat.testBit_or] at h2
        simp only [Bool.or_eq_true] at h2
        rcases h2 with h2 | h2 | h2
        · exact .inl h2
        · rw [Nat.testBit_two_pow] at h2
          exact .inr ⟨e, by simp, hb, .inl (by simpa using h2)⟩
        · exact .inr ⟨e, by simp, hb, .inr h2⟩
      · exact .inr ⟨e', by simp [he'], h1⟩
    · rcases maskOf_bit acc l _ j h with h1 | ⟨e', he', h1⟩
      · exact .inl h1
      · exact .inr ⟨e', by simp [he'], h1⟩
theorem masks_dep (ops : Array Oper) : ∀ (l : List Oper) (acc : List Nat), (∀ i, l[i]? = ops[acc.length + i]?) → (∀ i j, (acc.getD i 0).testBit j = true → Dep ops i j) → ∀ i j, ((masksFrom acc l).getD i 0).testBit j = true → Dep ops i j
  | [], acc, _, ha => ha
  | o :: l, acc, hl, ha => by
    have ho : ops[acc.length]? = some o := by simpa using (hl 0).symm
    refine masks_dep ops l (acc ++ [maskOf acc o.after.toList 0]) (fun i => ?_) (fun i j h => ?_)
    · have := hl (i + 1)
      simp only [List.getElem?_cons_succ] at this
      rw [this]
      simp
      congr 1
      omega
    · rcases Nat.lt_trichotomy i acc.length with h1 | h1 | h1
      · rw [List.getD_eq_getElem?_getD, List.getElem?_append_left h1, ← List.getD_eq_getElem?_getD] at h
        exact ha i j h
      · subst h1
        rw [List.getD_eq_getElem?_getD, List.getElem?_append_right (Nat.le_refl _)] at h
        simp at h
        rcases maskOf_bit acc o.after.toList 0 j h with h2 | ⟨e, he, hb, h2 | h2⟩
        · simp at h2
        · rw [← h2]
          exact .edge ho (by simpa using he) hb
        · exact .trans (.edge ho (by simpa using he) hb) (ha _ _ h2)
      · rw [List.getD_eq_getElem?_getD, List.getElem?_eq_none (by simp; omega)] at h
        simp at h
theorem mask_dep {ops : Array Oper} {i j : Nat} (h : ((masks ops).getD i 0).testBit j = true) : Dep ops i j :=
  masks_dep ops ops.toList [] (fun i => by simp) (fun i j h => by simp at h) i j h
/-- What is listed has all that has to come ahead of it. -/
def Closed (ops : Array Oper) (S : Nat → Bool) : Prop := ∀ i o, ops[i]? = some o → S i = true → ∀ e ∈ o.after, Region.binds .any e = true → S e.on = true
theorem Closed.dep {ops : Array Oper} {S : Nat → Bool} (h : Closed ops S) {i j : Nat} (d : Dep ops i j) (hi : S i = true) : S j = true := by
  induction d with
  | edge ho he hb => exact h _ _ ho hi _ he hb
  | trans _ _ ih1 ih2 => exact ih2 (ih1 hi)
theorem Closed.with_ {ops : Array Oper} {S : Nat → Bool} (h : Closed ops S) {i : Nat} {o : Oper} (ho : ops[i]? = some o) (hd : ∀ e ∈ o.after, Region.binds .any e = true → S e.on = true) : Closed ops (withI S i) := by
  intro k ok hk hS e he hb
  by_cases e1 : k = i
  · subst e1
    obtain rfl : ok = o := Option.some.inj (hk.symm.trans ho)
    exact withI_old (hd e he hb)
  · rw [withI_ne S e1] at hS
    exact withI_old (h k ok hk hS e he hb)
theorem dep_new {ops : Array Oper} {S : Nat → Bool} (h : Closed ops S) {i j : Nat} {o : Oper} (ho : ops[i]? = some o) (hd : ∀ e ∈ o.after, Region.binds .any e = true → S e.on = true) (hSi : S i = false) (d : Dep ops i j) : S j = true := by
  have key : ∀ a b, Dep ops a b → a = i → S b = true := by
    intro a b d
    induction d with
    | edge h1 h2 h3 =>
      intro e1
      subst e1
      obtain rfl := Option.some.inj (h1.symm.trans ho)
      exact hd _ h2 h3
    | trans d1 d2 ih1 ih2 => intro e1; exact h.dep d2 (ih1 e1)
  exact key i j d rfl

/-! ### What has been told, the latest first -/
inductive Kd where
  /-- a value, and a new block of its own if there is one -/
  | non (x : Option Blk)
  /-- a value, and the memory behind it -/
  | eff (c : H)
structure ToldOps where
  i : Nat
  v : AV
  k : Kd
def lookT : List ToldOps → Nat → Option AV
  | [], _ => none
  | r :: l, j => match Nat.beq r.i j with
    | true => some r.v
    | false => lookT l j
def doneT : List ToldOps → Nat → Bool
  | [], _ => false
  | r :: l, j => match Nat.beq r.i j with
    | true => true
    | false => doneT l j
/-- The memory behind the calls that are listed. -/
def coreT (S : Nat → Bool) (h : H) : List ToldOps → H
  | [] => h
  | r :: l => match r.k with
    | .eff c => match S r.i with
      | true => c
      | false => coreT S h l
    | .non _ => coreT S h l
/-- The new blocks of what is listed, behind the latest call of it. -/
def moreT (S : Nat → Bool) (j : Nat) : List ToldOps → Option Blk
  | [] => none
  | r :: l => match r.k with
    | .eff _ => match S r.i with
      | true => none
      | false => moreT S j l
    | .non x => match S r.i && Nat.beq r.i j with
      | true => match x with
        | some b => some b
        | none => moreT S j l
      | false => moreT S j l
/-- The memory of what is listed: m numbers from 'base' on belong to the operations themselves. -/
def getT (base m : Nat) (S : Nat → Bool) (h : H) (T : List ToldOps) (b : Nat) : Option Blk :=
  if base ≤ b ∧ b < base + m then (match moreT S (b - base) T with
    | some x => some x
    | none => (coreT S h T).get b)
  else (coreT S h T).get b

/-- As a relation over what a number has. -/
structure RelG (ρ : Pos) (G : Nat → Option Blk) (w : World) : Prop where
  at_ : ∀ b x, G b = some x → ∃ g C cur fz, ρ b = some (g, C) ∧ w.heap[g]? = some (.cells cur x.elem fz) ∧ BlkIs ρ C x cur fz
  inj : ∀ b c x y g C D, G b = some x → G c = some y → ρ b = some (g, C) → ρ c = some (g, D) → b ≠ c → x.rw = false ∧ y.rw = false
structure ExtG (ρ : Pos) (h : H) (w : World) (ρ' : Pos) (G : Nat → Option Blk) (w' : World) : Prop where
  le : ρ.le ρ'
  os : w'.os = w.os
  tape : w'.tape = w.tape
  output : w'.output = w.output
  size : w.heap.size ≤ w'.heap.size
  keep : ∀ k, k < w.heap.size → (∀ b x C, h.get b = some x → x.rw = true → ρ b ≠ some (k, C)) → w'.heap[k]? = w.heap[k]?
  own : ∀ b x k C, G b = some x → x.rw = true → ρ' b = some (k, C) → k < w.heap.size → ∃ b' x' C', h.get b' = some x' ∧ x'.rw = true ∧ ρ b' = some (k, C')
  only : ∀ b, b < h.next → ρ' b = ρ b
  ro : ∀ b x, G b = some x → x.rw = false → h.get b = some x
section
variable {ρ ρ' ρ0 : Pos} {h h0 h' : H} {w w' w0 : World} {G G' : Nat → Option Blk}
theorem RelG.sub (r : RelG ρ G w) (hs : ∀ b x, h.get b = some x → G b = some x) : Rel ρ h w :=
  ⟨fun b x hb => r.at_ b x (hs b x hb), fun b c x y g C D hb hc => r.inj b c x y g C D (hs b x hb) (hs c y hc)⟩
theorem ExtG.start (ρ : Pos) (h : H) (w : World) : ExtG ρ h w ρ h.get w :=
  ⟨Pos.le_refl _, rfl, rfl, rfl, Nat.le_refl _, fun _ _ _ => rfl, fun b x k C hb hr hp _ => ⟨b, x, C, hb, hr, hp⟩, fun _ _ => rfl, fun _ _ hb _ => hb⟩
theorem RelG.lt (r : RelG ρ G w) {b : Nat} {x : Blk} {g C : Nat} (hb : G b = some x) (hp : ρ b = some (g, C)) : g < w.heap.size := by
  obtain ⟨g', C', cur, fz, h1, h2, _⟩ := r.at_ b x hb
  rw [hp] at h1
  simp at h1
  rw [h1.1]
  exact (Array.getElem?_eq_some_iff.1 h2).1
/-- Memory of which a part has gone on. -/
theorem RelG.part (r : RelG ρ G w) (hs : ∀ b x, h.get b = some x → G b = some x) (r' : Rel ρ' h' w') (x' : Ext ρ h w ρ' h' w')
    (hG : ∀ b x, G' b = some x → h'.get b = some x ∨ (G b = some x ∧ h.get b = none)) : RelG ρ' G' w' := by
  have hold : ∀ b x, G b = some x → h.get b = none → ∃ g C cur fz, ρ b = some (g, C) ∧ w'.heap[g]? = some (.cells cur x.elem fz) ∧ BlkIs ρ' C x cur fz := by
    intro b x hb hn
    obtain ⟨g, C, cur, fz, h1, h2, h3⟩ := r.at_ b x hb
    refine ⟨g, C, cur, fz, h1, ?_, h3.mono x'.le⟩
    rw [x'.keep g (Array.getElem?_eq_some_iff.1 h2).1 (fun b' y D hb' hr hp => ?_)]
    · exact h2
    · have hne : b' ≠ b := fun e => by rw [e, hn] at hb'; cases hb'
      have := (r.inj b' b y x g D C (hs b' y hb') hb hp h1 hne).1
      rw [hr] at this
      cases this
  -- an old block beside one of the part that has gone on
  have cross : ∀ b c x y g C D, (G b = some x ∧ h.get b = none) → h'.get c = some y → ρ' b = some (g, C) → ρ' c = some (g, D) → x.rw = false ∧ y.rw = false := by
    intro b c x y g C D ⟨hb, hn⟩ hc hpb hpc
    obtain ⟨g1, C1, _, _, k1, k2, _⟩ := r.at_ b x hb
    have e1 := x'.le b _ k1
    rw [hpb] at e1
    simp at e1
    obtain ⟨rfl, rfl⟩ := e1
    have hlt := (Array.getElem?_eq_some_iff.1 k2).1
    cases hy : y.rw
    · have hc' := x'.ro c y hc hy
      have hne : b ≠ c := fun e => by rw [e, hc'] at hn; cases hn
      obtain ⟨g2, C2, _, _, k3, _, _⟩ := r.at_ c y (hs c y hc')
      have e2 := x'.le c _ k3
      rw [hpc] at e2
      simp at e2
      obtain ⟨rfl, rfl⟩ := e2
      exact ⟨(r.inj b c x y g C D hb (hs c y hc') k1 k3 hne).1, rfl⟩
    · obtain ⟨c', y', D', h1, h2, h3⟩ := x'.own c y g D hc hy hpc hlt
      have hne : b ≠ c' := fun e => by rw [e, h1] at hn; cases hn
      have := (r.inj b c' x y' g C D' hb (hs c' y' h1) k1 h3 hne).2
      rw [h2] at this
      cases this
  refine ⟨fun b x hb => ?_, fun b c x y g C D hb hc hpb hpc hne => ?_⟩
  · rcases hG b x hb with h1 | ⟨h1, h2⟩
    · exact r'.at_ b x h1
    · obtain ⟨g, C, cur, fz, k1, k2, k3⟩ := hold b x h1 h2
      exact ⟨g, C, cur, fz, x'.le b _ k1, k2, k3⟩
  · rcases hG b x hb with h1 | h1 <;> rcases hG c y hc with h2 | h2
    · exact r'.inj b c x y g C D h1 h2 hpb hpc hne
    · exact (cross c b y x g D C h2 h1 hpc hpb).symm
    · exact cross b c x y g C D h1 h2 hpb hpc
    · obtain ⟨g1, C1, _, _, k1, _, _⟩ := r.at_ b x h1.1
      obtain ⟨g2, C2, _, _, k2, _, _⟩ := r.at_ c y h2.1
      have e1 := x'.le b _ k1
      have e2 := x'.le c _ k2
      rw [hpb] at e1
      rw [hpc] at e2
      simp at e1 e2
      obtain ⟨rfl, rfl⟩ := e1
      obtain ⟨rfl, rfl⟩ := e2
      exact r.inj b c x y g C D h1.1 h2.1 k1 k2 hne
theorem ExtG.part (r : RelG ρ G w) (hs : ∀ b x, h.get b = some x → G b = some x) (x0 : ExtG ρ0 h0 w0 ρ G w) (hle : ∀ b, b < h0.next → ρ' b = ρ b) (x' : Ext ρ h w ρ' h' w')
    (hG : ∀ b x, G' b = some x → h'.get b = some x ∨ (G b = some x ∧ h.get b = none)) : ExtG ρ0 h0 w0 ρ' G' w' := by
  refine ⟨Pos.le_trans x0.le x'.le, x'.os.trans x0.os, x'.tape.trans x0.tape, x'.output.trans x0.output, Nat.le_trans x0.size x'.size, fun k hk hn => ?_, fun b x k C hb hr hp hk => ?_, fun b hb => (hle b hb).trans (x0.only b hb), fun b x hb hr => ?_⟩
  · rw [x'.keep k (Nat.lt_of_lt_of_le hk x0.size) (fun b x C hb hr hp => ?_)]
    · exact x0.keep k hk hn
    · obtain ⟨b', y, D, h1, h2, h3⟩ := x0.own b x k C (hs b x hb) hr hp hk
      exact hn b' y D h1 h2 h3
  · rcases hG b x hb with h1 | ⟨h1, h2⟩
    · obtain ⟨b', y, D, k1, k2, k3⟩ := x'.own b x k C h1 hr hp (Nat.lt_of_lt_of_le hk x0.size)
      exact x0.own b' y k D (hs b' y k1) k2 k3 hk
    · obtain ⟨g, C', _, _, k1, _, _⟩ := r.at_ b x h1
      have e1 := x'.le b _ k1
      rw [hp] at e1
      simp at e1
      obtain ⟨rfl, rfl⟩ := e1
      exact x0.own b x k C h1 hr k1 hk
  · rcases hG b x hb with h1 | ⟨h1, h2⟩
    · exact x0.ro b x (hs b x (x'.ro b x h1 hr)) hr
    · exact x0.ro b x h1 hr
end
end Go.Proofs.Ytpdfalgjmeagjaa

/-
  Operations that read no memory, values held against each other, and what the checks of a statement whose order is open come to.
-/
namespace Go.Proofs.Ytpdfalgjmeagjaa
open Go.RowKit
set_option linter.unusedVariables false

/-! ### Values held against each other -/
def capEq : Cap → Cap → Bool
  | .is a, .is b => Nat.beq a b
  | .upTo a, .upTo b => Nat.beq a b
  | .gone a c, .gone b d => Nat.beq a b && Nat.beq c d
  | _, _ => false
theorem capEq_out {a b : Cap} (h : capEq a b = true) : a = b := by
  cases a <;> cases b <;> simp [capEq] at h
  · rw [h]
  · rw [h]
  · rw [h.1, h.2]
/-- The same, as far as it looks. -/
def avEq : AV → AV → Bool
  | .bool a, .bool b => a == b
  | .int k a, .int k' b => decide (k = k') && decide (a = b)
  | .string a, .string b => a.data.toList == b.data.toList
  | .pointer none, .pointer none => true
  | .pointer (some p), .pointer (some q) => Nat.beq p.1 q.1 && Nat.beq p.2 q.2
  | .slice none n c, .slice none n' c' => Nat.beq n n' && capEq c c'
  | .slice (some p) n c, .slice (some q) n' c' => Nat.beq p.1 q.1 && Nat.beq p.2 q.2 && Nat.beq n n' && capEq c c'
  | .nilFunc, .nilFunc => true
  | .nilIface, .nilIface => true
  | _, _ => false
def avEqL : List AV → List AV → Bool
  | [], [] => true
  | a :: l, b :: m => avEq a b && avEqL l m
  | _, _ => false
def avSame : AV → AV → Bool
  | .agg l, .agg m => avEqL l m
  | a, b => avEq a b
theorem avEq_out {a b : AV} (h : avEq a b = true) : a = b := by
  unfold avEq at h
  split at h
  · simp at h; rw [h]
  · simp at h; rw [h.1, h.2]
  · rename_i x y
    have h1 : x.data.toList = y.data.toList := by simpa using h
    congr 1
    apply ByteArray.ext
    apply Array.ext'
    exact h1
  · rfl
  · simp only [Bool.and_eq_true] at h
    have h1 := Nat.eq_of_beq_eq_true h.1
    have h2 := Nat.eq_of_beq_eq_true h.2
    congr 2
    exact Prod.ext h1 h2
  · simp only [Bool.and_eq_true] at h
    rw [Nat.eq_of_beq_eq_true h.1, capEq_out h.2]
  · simp only [Bool.and_eq_true] at h
    rename_i p n c q n' c'
    have h1 : p = q := Prod.ext (Nat.eq_of_beq_eq_true h.1.1.1) (Nat.eq_of_beq_eq_true h.1.1.2)
    rw [h1, Nat.eq_of_beq_eq_true h.1.2, capEq_out h.2]
  · rfl
  · rfl
  · simp at h
theorem avEqL_out : ∀ {a b : List AV}, avEqL a b = true → a = b
  | [], [], _ => rfl
  | [], _ :: _, h => by simp [avEqL] at h
  | _ :: _, [], h => by simp [avEqL] at h
  | a :: l, b :: m, h => by
    simp only [avEqL, Bool.and_eq_true] at h
    rw [avEq_out h.1, avEqL_out h.2]
theorem avSame_out {a b : AV} (h : avSame a b = true) : a = b := by
  unfold avSame at h
  split at h
  · rw [avEqL_out h]
  · exact avEq_out h

/-! ### Operations that read no memory -/
def H.pushO (h : H) : Option Blk → H
  | none => h
  | some x => h.push x
inductive OpKind where
  /-- it may write -/
  | acts
  /-- it reads nothing -/
  | free
  | reads
def kindB : Builtin → OpKind
  | .len | .cap | .min | .max => .free
  | _ => .acts
def kindC : Callee → OpKind
  | .builtin b => kindB b
  | _ => .acts
def kindOp (o : Oper) : OpKind := match o.op with
  | .move _ | .assign _ | .pick _ _ _ | .alloc _ | .box _ _ | .build _ _ | .buildSlice _ _ _ | .nilCheck _ | .binOp _ _ _ _ _ | .unOp _ _ _ | .makeInterface _ _ | .makeFunc _ _ _ | .makeSlice _ _ _ | .fieldAddr _ _ _ | .field _ _ _ | .indexAddr _ _ _ | .index _ _ _ | .extract _ _ => .free
  | .load _ _ | .convert _ _ _ | .slice _ _ _ _ _ => .reads
  | .call c => kindC c.callee
  | _ => .acts
section
variable {P : Program} {h : H} {ev : Operand → Option AV}
theorem withH_free {x : Option AV} {v : AV} {h' : H} (e : withH h x = some (v, h')) : ∃ ox : Option Blk, h' = h.pushO ox ∧ ∀ h2 : H, h2.next = h.next → withH h2 x = some (v, h2.pushO ox) := by
  obtain ⟨rfl, rfl⟩ := withH_out e
  exact ⟨none, rfl, fun h2 _ => rfl⟩
theorem free_builtin {b : Builtin} {ts : Array TypeId} {l : List AV} {v : AV} {h' : H} (hk : kindB b = .free) (e : builtinA P h b ts l = some (v, h')) : ∃ ox : Option Blk, h' = h.pushO ox ∧ ∀ h2 : H, h2.next = h.next → builtinA P h2 b ts l = some (v, h2.pushO ox) := by
  unfold builtinA at e ⊢
  cases b <;> simp only [kindB, reduceCtorEq] at hk
  all_goals
    match l, e with
    | [], e => simp at e
    | [x], e =>
      simp only at e ⊢
      first
        | exact withH_free e
        | (split at e
           · exact withH_free e
           · simp at e)
    | x :: y :: l, e =>
      simp only at e ⊢
      first
        | exact withH_free e
        | (simp at e; done)
theorem free_op {o : Oper} {v : AV} {h' : H} (hk : kindOp o = .free) (e : opA P h ev o = some (v, h')) : ∃ ox : Option Blk, h' = h.pushO ox ∧ ∀ h2 : H, h2.next = h.next → opA P h2 ev o = some (v, h2.pushO ox) := by
  unfold opA at e ⊢
  unfold kindOp at hk
  cases hop : o.op <;> simp only [hop, reduceCtorEq] at e hk ⊢
  case move => exact withH_free e
  case assign => exact withH_free e
  case pick =>
    split at e
    · exact withH_free e
    · exact withH_free e
    · simp at e
  case alloc t =>
    unfold allocA at e ⊢
    split at e <;> simp at e
    rename_i z hz
    obtain ⟨rfl, rfl⟩ := e
    exact ⟨some _, rfl, fun h2 hn => by simp only [hn]; rfl⟩
  case box t x =>
    split at e <;> simp only [Option.some.injEq, reduceCtorEq, boxA, Prod.mk.injEq] at e
    obtain ⟨rfl, rfl⟩ := e
    exact ⟨some _, rfl, fun h2 hn => by simp only [boxA, hn]; rfl⟩
  case build t ps =>
    split at e
    · unfold buildA at e ⊢
      split at e
      · split at e <;> simp only [Option.some.injEq, reduceCtorEq, Prod.mk.injEq] at e
        obtain ⟨rfl, rfl⟩ := e
        exact ⟨none, rfl, fun h2 _ => rfl⟩
      · simp at e
    · simp at e
  case buildSlice t n ps =>
    split at e
    · unfold buildSliceA at e ⊢
      split at e
      · split at e
        · split at e
          · split at e <;> simp only [Option.some.injEq, reduceCtorEq, Prod.mk.injEq] at e
            obtain ⟨rfl, rfl⟩ := e
            exact ⟨some _, rfl, fun h2 hn => by simp only [hn]; rfl⟩
          · simp at e
        · simp at e
      · simp at e
    · simp at e
  case nilCheck x =>
    split at e <;> simp only [Option.some.injEq, reduceCtorEq, Prod.mk.injEq] at e
    · obtain ⟨rfl, rfl⟩ := e
      exact ⟨none, rfl, fun h2 _ => rfl⟩
    · obtain ⟨rfl, rfl⟩ := e
      exact ⟨none, rfl, fun h2 _ => rfl⟩
  case binOp =>
    split at e
    · exact withH_free e
    · simp at e
  case unOp =>
    split at e
    · exact withH_free e
    · simp at e
  case makeInterface =>
    split at e <;> simp only [Option.some.injEq, reduceCtorEq, Prod.mk.injEq] at e
    obtain ⟨rfl, rfl⟩ := e
    exact ⟨none, rfl, fun h2 _ => rfl⟩
  case makeFunc =>
    split at e <;> simp only [Option.some.injEq, reduceCtorEq, Prod.mk.injEq] at e
    obtain ⟨rfl, rfl⟩ := e
    exact ⟨none, rfl, fun h2 _ => rfl⟩
  case makeSlice t l c =>
    split at e
    · unfold makeA at e ⊢
      split at e
      · split at e
        · split at e
          · split at e <;> simp only [Option.some.injEq, reduceCtorEq, Prod.mk.injEq] at e
            · obtain ⟨rfl, rfl⟩ := e
              exact ⟨some _, rfl, fun h2 hn => by simp only [hn]; rfl⟩
            · obtain ⟨rfl, rfl⟩ := e
              exact ⟨some _, rfl, fun h2 hn => by simp only [hn]; rfl⟩
          · simp at e
        · simp at e
      · simp at e
    · simp at e
  case fieldAddr =>
    split at e
    · exact withH_free e
    · simp at e
  case field =>
    split at e
    · exact withH_free e
    · simp at e
  case indexAddr =>
    split at e
    · exact withH_free e
    · simp at e
  case index =>
    split at e
    · exact withH_free e
    · simp at e
  case extract =>
    split at e
    · exact withH_free e
    · simp at e
  case call c =>
    cases hc : c.callee <;> simp only [hc, kindC, reduceCtorEq] at e hk ⊢
    split at e
    · exact free_builtin hk e
    · simp at e
/-- What reads, and makes no block, leaves the memory as it is. -/
theorem read_op {o : Oper} {v : AV} {h' : H} (hk : kindOp o = .reads) (e : opA P h ev o = some (v, h')) (hn : h'.next = h.next) : h' = h := by
  unfold opA at e
  unfold kindOp at hk
  cases hop : o.op <;> simp only [hop, reduceCtorEq] at e hk
  case load =>
    split at e
    · exact (withH_out e).2
    · simp at e
  case slice =>
    split at e
    · exact (withH_out e).2
    · simp at e
  case convert =>
    split at e
    · unfold convA at e
      split at e
      · simp at e; exact e.2.symm
      · simp at e; exact e.2.symm
      · split at e <;> simp only [Option.some.injEq, reduceCtorEq, Prod.mk.injEq] at e
        obtain ⟨_, rfl⟩ := e
        exact absurd hn (by simp [H.push])
      · split at e
        · split at e <;> simp only [Option.some.injEq, reduceCtorEq, Prod.mk.injEq] at e
          exact e.2.symm
        · simp at e
      · split at e
        · simp at e; exact e.2.symm
        · split at e
          · split at e <;> simp only [Option.some.injEq, reduceCtorEq, Prod.mk.injEq] at e
            exact e.2.symm
          · simp at e
        · simp at e
      · split at e
        · simp at e; exact e.2.symm
        · split at e
          · split at e <;> simp only [Option.some.injEq, reduceCtorEq, Prod.mk.injEq] at e
            exact e.2.symm
          · simp at e
        · simp at e
      · split at e <;> simp only [Option.some.injEq, reduceCtorEq, Prod.mk.injEq] at e
        exact e.2.symm
      · simp at e
    · simp at e
  case call c =>
    cases hc : c.callee <;> simp only [hc, kindC, reduceCtorEq] at hk
    rename_i b
    cases b <;> simp [kindB] at hk
/-- What counts as reading, but makes a block, reads nothing. -/
theorem read_new {o : Oper} {v : AV} {h' : H} (hk : kindOp o = .reads) (e : opA P h ev o = some (v, h')) (hn : ¬ h'.next = h.next) : ∃ x : Blk, h' = h.push x ∧ ∀ h2 : H, h2.next = h.next → opA P h2 ev o = some (v, h2.push x) := by
  unfold opA at e ⊢
  unfold kindOp at hk
  cases hop : o.op <;> simp only [hop, reduceCtorEq] at e hk ⊢
  case load =>
    split at e
    · exact absurd (by rw [(withH_out e).2]) hn
    · simp at e
  case slice =>
    split at e
    · exact absurd (by rw [(withH_out e).2]) hn
    · simp at e
  case convert =>
    split at e
    · unfold convA at e ⊢
      split at e
      · simp at e; exact absurd (by rw [e.2]) hn
      · simp at e; exact absurd (by rw [e.2]) hn
      · split at e <;> simp only [Option.some.injEq, reduceCtorEq, Prod.mk.injEq] at e
        obtain ⟨rfl, rfl⟩ := e
        exact ⟨_, rfl, fun h2 h3 => by simp only [h3]⟩
      · split at e
        · split at e <;> simp only [Option.some.injEq, reduceCtorEq, Prod.mk.injEq] at e
          exact absurd (by rw [e.2]) hn
        · simp at e
      · split at e
        · simp at e; exact absurd (by rw [e.2]) hn
        · split at e
          · split at e <;> simp only [Option.some.injEq, reduceCtorEq, Prod.mk.injEq] at e
            exact absurd (by rw [e.2]) hn
          · simp at e
        · simp at e
      · split at e
        · simp at e; exact absurd (by rw [e.2]) hn
        · split at e
          · split at e <;> simp only [Option.some.injEq, reduceCtorEq, Prod.mk.injEq] at e
            exact absurd (by rw [e.2]) hn
          · simp at e
        · simp at e
      · split at e <;> simp only [Option.some.injEq, reduceCtorEq, Prod.mk.injEq] at e
        exact absurd (by rw [e.2]) hn
      · simp at e
    · simp at e
  case call c =>
    cases hc : c.callee <;> simp only [hc, kindC, reduceCtorEq] at hk
    rename_i b
    cases b <;> simp [kindB] at hk
end
end Go.Proofs.Ytpdfalgjmeagjaa

/-
  The small machine's pass over a statement whose order is open, and what its checks come to.
-/
namespace Go.Proofs.Ytpdfalgjmeagjaa
open Go.RowKit
set_option linter.unusedVariables false

def writerOf : List Oper → Nat → Tmp → Option Nat
  | [], _, _ => none
  | o :: l, k, t => match o.dst with
    | some d => match Nat.beq d t with
      | true => some k
      | false => writerOf l (k + 1) t
    | none => writerOf l (k + 1) t
def evT (ops : Array Oper) (ms : List Nat) (T : List ToldOps) (i : Nat) (mask : Nat) (s : St) : Operand → Option AV
  | .tmp t => match writerOf ops.toList 0 t with
    | some j => match mask.testBit j with
      | true => lookT T j
      | false => match (ms.getD j 0).testBit i with
        | true => some (s.tmp t)
        | false => none
    | none => some (s.tmp t)
  | .const v => avOf v
  | .global _ => none
  | .func f => some (.func (.func f) [] [])
def wantT (ops : Array Oper) (T : List ToldOps) (mask : Nat) (o : Oper) : Option Bool := match o.guard with
  | none => some true
  | some (j, b) => match mask.testBit j, ops[j]? with
    | true, some oj => match oj.dst, lookT T j with
      | some _, some (.bool c) => some (c == b)
      | some _, some _ => some false
      | _, _ => none
    | _, _ => none
def addX (base : Nat) : List (Nat × Blk) → H → H
  | [], c => c
  | (j, x) :: l, c => (addX base l c).set (base + j) x
theorem addX_next (base : Nat) : ∀ (l : List (Nat × Blk)) (c : H), (addX base l c).next = c.next
  | [], _ => rfl
  | (j, x) :: l, c => addX_next base l c
theorem addX_get {base : Nat} : ∀ {l : List (Nat × Blk)} {c : H} {b : Nat} {y : Blk}, (addX base l c).get b = some y → (∃ j, (j, y) ∈ l ∧ b = base + j) ∨ c.get b = some y
  | [], c, b, y, h => .inr h
  | (j, x) :: l, c, b, y, h => by
    rcases H.get_set h with ⟨rfl, rfl⟩ | ⟨_, h2⟩
    · exact .inl ⟨j, by simp, rfl⟩
    · rcases addX_get h2 with ⟨k, hk, rfl⟩ | h3
      · exact .inl ⟨k, by simp [hk], rfl⟩
      · exact .inr h3
def topT (h1 : H) (stop take : Nat → Bool) : List (Nat × Blk) → List ToldOps → H × List (Nat × Blk)
  | acc, [] => (h1, acc)
  | acc, r :: l => match r.k with
    | .eff c => match stop r.i with
      | true => (c, acc)
      | false => topT h1 stop take acc l
    | .non (some x) => match take r.i with
      | true => topT h1 stop take ((r.i, x) :: acc) l
      | false => topT h1 stop take acc l
    | .non none => topT h1 stop take acc l
/-- Each is told once. -/
def Once : List ToldOps → Prop
  | [] => True
  | r :: l => doneT l r.i = false ∧ Once l
theorem more_done {S : Nat → Bool} {j : Nat} {x : Blk} : ∀ {T : List ToldOps}, moreT S j T = some x → doneT T j = true
  | r :: l, h => by
    simp only [moreT] at h
    simp only [doneT]
    cases hb : Nat.beq r.i j
    · rw [hb] at h
      simp only [Bool.and_false] at h
      split at h
      · split at h
        · simp at h
        · exact more_done h
      · exact more_done h
    · rfl
theorem top_core {h1 : H} {S take : Nat → Bool} : ∀ (T : List ToldOps) (acc : List (Nat × Blk)), (topT h1 S take acc T).1 = coreT S h1 T
  | [], _ => rfl
  | r :: l, acc => by
    simp only [topT, coreT]
    cases hk : r.k with
    | eff c =>
      cases S r.i
      · exact top_core l acc
      · rfl
    | non q =>
      cases q with
      | none => exact top_core l acc
      | some x => cases take r.i <;> exact top_core l _
theorem top_more {h1 : H} {S take : Nat → Bool} (ht : ∀ j, take j = true → S j = true) : ∀ (T : List ToldOps) (acc : List (Nat × Blk)), Once T → ∀ j x, (j, x) ∈ (topT h1 S take acc T).2 → (j, x) ∈ acc ∨ moreT S j T = some x
  | [], acc, _, j, x, h => .inl h
  | r :: l, acc, ho, j, x, h => by
    have lift : moreT S j l = some x → (∀ c, r.k = .eff c → S r.i = false) → moreT S j (r :: l) = some x := fun h2 h3 => by
      have hne : Nat.beq r.i j = false := by
        cases hb : Nat.beq r.i j
        · rfl
        · have h4 := more_done h2
          rw [← Nat.eq_of_beq_eq_true hb, ho.1] at h4
          cases h4
      simp only [moreT]
      cases hk : r.k with
      | eff c => simp only [h3 c hk]; exact h2
      | non q => simp only [hne, Bool.and_false]; exact h2
    simp only [topT] at h
    cases hk : r.k with
    | eff c =>
      simp only [hk] at h
      cases hs : S r.i
      · simp only [hs] at h
        rcases top_more ht l acc ho.2 j x h with h2 | h2
        · exact .inl h2
        · exact .inr (lift h2 (fun _ _ => hs))
      · simp only [hs] at h
        exact .inl h
    | non q =>
      have hl : moreT S j l = some x → moreT S j (r :: l) = some x := fun h2 => lift h2 (fun c hc => by rw [hk] at hc; cases hc)
      cases q with
      | none =>
        simp only [hk] at h
        rcases top_more ht l acc ho.2 j x h with h2 | h2
        · exact .inl h2
        · exact .inr (hl h2)
      | some y =>
        simp only [hk] at h
        cases hs : take r.i
        · simp only [hs] at h
          rcases top_more ht l acc ho.2 j x h with h2 | h2
          · exact .inl h2
          · exact .inr (hl h2)
        · simp only [hs] at h
          rcases top_more ht l _ ho.2 j x h with h2 | h2
          · rcases List.mem_cons.1 h2 with h3 | h3
            · simp only [Prod.mk.injEq] at h3
              obtain ⟨rfl, rfl⟩ := h3
              refine .inr ?_
              simp only [moreT, hk, ht _ hs, Nat.beq_refl, Bool.and_self]
            · exact .inl h3
          · exact .inr (hl h2)
theorem top_all {h1 : H} {S : Nat → Bool} : ∀ (T : List ToldOps) (acc : List (Nat × Blk)), (∀ j, doneT T j = true → S j = true) → topT h1 (fun _ => true) (fun _ => true) acc T = topT h1 S S acc T
  | [], _, _ => rfl
  | r :: l, acc, h => by
    have hr : S r.i = true := h r.i (by simp [doneT])
    have ih := fun acc => top_all (h1 := h1) l acc (fun j hj => h j (by simp only [doneT]; split <;> first | rfl | exact hj))
    simp only [topT, hr]
    cases hk : r.k with
    | eff c => rfl
    | non q => cases q <;> exact ih _

section
variable (P : Program) (cf : Known) (ops : Array Oper) (ms : List Nat) (s : St)
/-- The memory ahead: so many numbers are kept for the operations themselves. -/
def preH (ops : Array Oper) (s : St) : H := ⟨s.h.bl, s.h.next + ops.size⟩
def localH (s : St) (i : Nat) (q : H × List (Nat × Blk)) : H := ⟨(addX s.h.next q.2 q.1).bl, s.h.next + i⟩
def evalOn (ev : Operand → Option AV) (o : Oper) (i : Nat) (v : AV) (q : H × List (Nat × Blk)) : Bool := match opA P (localH s i q) ev o with
  | some (v', h') => avSame v' v && Nat.beq h'.next (s.h.next + i)
  | none => false
def readOk (ev : Operand → Option AV) (o : Oper) (i : Nat) (v : AV) (mask : Nat) : List (Nat × Blk) → List ToldOps → Bool
  | acc, [] => evalOn P s ev o i v (preH ops s, acc)
  | acc, r :: l => match r.k with
    | .eff c => evalOn P s ev o i v (c, acc) && (mask.testBit r.i || readOk ev o i v mask acc l)
    | .non (some x) => match mask.testBit r.i with
      | true => readOk ev o i v mask ((r.i, x) :: acc) l
      | false => readOk ev o i v mask acc l
    | .non none => readOk ev o i v mask acc l
theorem read_all {ev : Operand → Option AV} {o : Oper} {i : Nat} {v : AV} {mask : Nat} {S : Nat → Bool} (hS : ∀ j, mask.testBit j = true → S j = true) : ∀ (T : List ToldOps) (acc : List (Nat × Blk)), readOk P ops s ev o i v mask acc T = true → evalOn P s ev o i v (topT (preH ops s) S mask.testBit acc T) = true
  | [], acc, h => h
  | r :: l, acc, h => by
    simp only [readOk] at h
    simp only [topT]
    cases hk : r.k with
    | eff c =>
      simp only [hk, Bool.and_eq_true, Bool.or_eq_true] at h
      cases hs : S r.i
      · have hm : mask.testBit r.i = false := by
          cases hq : mask.testBit r.i
          · rfl
          · rw [hS _ hq] at hs; cases hs
        rw [hm] at h
        exact read_all hS l acc (by simpa using h.2)
      · exact h.1
    | non q =>
      cases q with
      | none => simp only [hk] at h; exact read_all hS l acc h
      | some x =>
        simp only [hk] at h
        cases hq : mask.testBit r.i
        · rw [hq] at h; exact read_all hS l acc h
        · rw [hq] at h; exact read_all hS l _ h
/-- Bits of what is told. -/
def MaskIs (dm : Nat) (T : List ToldOps) : Prop := ∀ j, dm.testBit j = doneT T j
def absentB (base : Nat) (dm : Nat) (c : H) : Nat → Bool
  | 0 => true
  | k + 1 => match dm.testBit k with
    | true => absentB base dm c k
    | false => match c.get (base + k) with
      | none => absentB base dm c k
      | some _ => false
theorem absent_out {base : Nat} {dm : Nat} {c : H} : ∀ {m : Nat}, absentB base dm c m = true → ∀ j, j < m → dm.testBit j = false → c.get (base + j) = none
  | m + 1, h, j, hj, hd => by
    simp only [absentB] at h
    by_cases e : j = m
    · subst e
      rw [hd] at h
      simp only at h
      split at h
      · assumption
      · cases h
    · refine absent_out (m := m) ?_ j (by omega) hd
      split at h
      · exact h
      · split at h
        · exact h
        · cases h
def maskSub (a b : Nat) : Bool := Nat.beq (Nat.land a b) a
theorem maskSub_out {a b : Nat} (h : maskSub a b = true) (j : Nat) (hj : a.testBit j = true) : b.testBit j = true := by
  have h1 : a &&& b = a := Nat.eq_of_beq_eq_true h
  rw [← h1, Nat.testBit_and, Bool.and_eq_true] at hj
  exact hj.2
def withBit (dm i : Nat) : Nat := Nat.lor dm (2 ^ i)
theorem mask_with {dm i : Nat} {T : List ToldOps} (h : MaskIs dm T) (r : ToldOps) (hr : r.i = i) : MaskIs (withBit dm i) (r :: T) := by
  intro j
  have h1 : (withBit dm i).testBit j = (dm.testBit j || (2 ^ i).testBit j) := Nat.testBit_or dm (2 ^ i) j
  rw [h1, h j, Nat.testBit_two_pow]
  simp only [doneT]
  cases hb : Nat.beq r.i j
  · have hne : ¬ i = j := fun e => by rw [hr, e, Nat.beq_refl] at hb; cases hb
    simp [hne]
  · have he := Nat.eq_of_beq_eq_true hb
    rw [hr] at he
    simp [he]
/-- What is told, by a tree. -/
def ValsAre (vals : Tq AV) (T : List ToldOps) : Prop := ∀ j, vals.get deep j = lookT T j
def evV (ops : Array Oper) (ms : List Nat) (vals : Tq AV) (i : Nat) (mask : Nat) (s : St) : Operand → Option AV
  | .tmp t => match writerOf ops.toList 0 t with
    | some j => match mask.testBit j with
      | true => vals.get deep j
      | false => match (ms.getD j 0).testBit i with
        | true => some (s.tmp t)
        | false => none
    | none => some (s.tmp t)
  | .const v => avOf v
  | .global _ => none
  | .func f => some (.func (.func f) [] [])
def wantV (ops : Array Oper) (vals : Tq AV) (mask : Nat) (o : Oper) : Option Bool := match o.guard with
  | none => some true
  | some (j, b) => match mask.testBit j, ops[j]? with
    | true, some oj => match oj.dst, vals.get deep j with
      | some _, some (.bool c) => some (c == b)
      | some _, some _ => some false
      | _, _ => none
    | _, _ => none
theorem evV_eq {ops : Array Oper} {ms : List Nat} {vals : Tq AV} {T : List ToldOps} (h : ValsAre vals T) (i mask : Nat) (s : St) : evV ops ms vals i mask s = evT ops ms T i mask s := by
  funext x
  cases x with
  | tmp t =>
    simp only [evV, evT]
    cases writerOf ops.toList 0 t with
    | none => rfl
    | some j => cases mask.testBit j <;> simp only [h j]
  | const v => rfl
  | global g => rfl
  | func f => rfl
theorem wantV_eq {ops : Array Oper} {vals : Tq AV} {T : List ToldOps} (h : ValsAre vals T) (mask : Nat) (o : Oper) : wantV ops vals mask o = wantT ops T mask o := by
  unfold wantV wantT
  cases o.guard with
  | none => rfl
  | some q =>
    obtain ⟨j, b⟩ := q
    simp only [h j]
theorem vals_with {vals : Tq AV} {T : List ToldOps} (h : ValsAre vals T) (r : ToldOps) (hr : r.i < 549755813888) : ValsAre (vals.set deep r.i (some r.v)) (r :: T) := by
  intro j
  simp only [lookT]
  cases hb : Nat.beq r.i j
  · rw [Tq.get_set deep vals r.i _ j (fun e => by rw [e, Nat.beq_refl] at hb; cases hb)]
    exact h j
  · rw [← Nat.eq_of_beq_eq_true hb, Tq.get_set_at deep vals r.i _ (Nat.lt_of_lt_of_le (Nat.succ_lt_succ hr) (by decide))]
/-- One operation is told. -/
def tellT (T : List ToldOps) (vals : Tq AV) (dm : Nat) (i : Nat) (o : Oper) (mask : Nat) : Option ToldOps := match kindOp o with
  | .acts => match maskSub dm mask with
    | true => match topT (preH ops s) (fun _ => true) (fun _ => true) [] T with
      | q => match doOp P cf (evV ops ms vals i mask s) (addX s.h.next q.2 q.1) o with
        | some (v, c) => match absentB s.h.next (withBit dm i) (addX s.h.next q.2 q.1) ops.size && absentB s.h.next (withBit dm i) c ops.size && Nat.ble q.1.next c.next with
          | true => some ⟨i, v, .eff c⟩
          | false => none
        | none => none
    | false => none
  | .free => match opA P ⟨.nil, s.h.next + i⟩ (evV ops ms vals i mask s) o with
    | some (v, h') => match Nat.beq h'.next (s.h.next + i), h'.get (s.h.next + i) with
      | true, _ => some ⟨i, v, .non none⟩
      | false, some x => some ⟨i, v, .non (some x)⟩
      | _, _ => none
    | none => none
  | .reads => match opA P (localH s i (topT (preH ops s) (fun _ => true) mask.testBit [] T)) (evV ops ms vals i mask s) o with
    | some (v, h') => match Nat.beq h'.next (s.h.next + i), h'.get (s.h.next + i) with
      | true, _ => match readOk P ops s (evV ops ms vals i mask s) o i v mask [] T with
        | true => some ⟨i, v, .non none⟩
        | false => none
      | false, some x => some ⟨i, v, .non (some x)⟩
      | _, _ => none
    | none => none
def stepT (T : List ToldOps) (vals : Tq AV) (dm : Nat) (i : Nat) : Option ToldOps := match ops[i]?, !dm.testBit i && maskSub (ms.getD i 0) dm with
  | some o, true => match wantV ops vals (ms.getD i 0) o with
    | some true => tellT P cf ops ms s T vals dm i o (ms.getD i 0)
    | some false => some ⟨i, .undef, .non none⟩
    | none => none
  | _, _ => none
def passT : List Nat → List ToldOps → Tq AV → Nat → Option (List ToldOps × Nat)
  | [], T, _, dm => some (T, dm)
  | i :: l, T, vals, dm => match stepT P cf ops ms s T vals dm i with
    | some r => passT l (r :: T) (vals.set deep i (some r.v)) (withBit dm i)
    | none => none

/-- What the checks say of each that is told. -/
structure Ahead (o : Oper) (r : ToldOps) (l : List ToldOps) (mask : Nat) (pre c : H) : Prop where
  all : ∀ j, j < ops.size → doneT l j = true → mask.testBit j = true
  next : pre.next = (coreT (fun _ => true) (preH ops s) l).next
  sub : ∀ S : Nat → Bool, (∀ j, doneT l j = true → S j = true) → ∀ b x, pre.get b = some x → getT s.h.next ops.size S (preH ops s) l b = some x
  run : doOp P cf (evT ops ms l r.i mask s) pre o = some (r.v, c)
  none1 : ∀ j, j < ops.size → doneT (r :: l) j = false → pre.get (s.h.next + j) = none
  none2 : ∀ j, j < ops.size → doneT (r :: l) j = false → c.get (s.h.next + j) = none
  more : pre.next ≤ c.next
structure Local (o : Oper) (r : ToldOps) (l : List ToldOps) (mask : Nat) (ox : Option Blk) (S : Nat → Bool) (hl : H) : Prop where
  next : hl.next = s.h.next + r.i
  sub : ∀ b x, hl.get b = some x → getT s.h.next ops.size S (preH ops s) l b = some x
  run : opA P hl (evT ops ms l r.i mask s) o = some (r.v, hl.pushO ox)
structure GoodAt (r : ToldOps) (l : List ToldOps) (o : Oper) (mask : Nat) : Prop where
  op : ops[r.i]? = some o
  deps : ∀ j, j < ops.size → mask.testBit j = true → doneT l j = true
  new : doneT l r.i = false
  kind : (wantT ops l mask o = some false ∧ r.v = .undef ∧ r.k = .non none) ∨
    (wantT ops l mask o = some true ∧ ((∃ c pre, r.k = .eff c ∧ Ahead P cf ops ms s o r l mask pre c) ∨ (∃ ox, r.k = .non ox ∧ ∀ S : Nat → Bool, (∀ j, mask.testBit j = true → S j = true) → ∃ hl, Local P ops ms s o r l mask ox S hl)))
def Good : List ToldOps → Prop
  | [] => True
  | r :: l => (∃ o, GoodAt P cf ops ms s r l o (ms.getD r.i 0)) ∧ Good l

theorem Good.once : ∀ {T : List ToldOps}, Good P cf ops ms s T → Once T
  | [], _ => trivial
  | r :: l, ⟨⟨o, g⟩, gl⟩ => ⟨g.new, gl.once⟩
theorem Good.lt : ∀ {T : List ToldOps}, Good P cf ops ms s T → ∀ j, doneT T j = true → j < ops.size
  | r :: l, ⟨⟨o, g⟩, gl⟩, j, hj => by
    simp only [doneT] at hj
    cases hb : Nat.beq r.i j
    · rw [hb] at hj
      exact gl.lt j hj
    · rw [← Nat.eq_of_beq_eq_true hb]
      exact (Array.getElem?_eq_some_iff.1 g.op).1
theorem Good.core_none (hf : ∀ j, s.h.get (s.h.next + j) = none) {S : Nat → Bool} : ∀ {T : List ToldOps}, Good P cf ops ms s T → ∀ j, j < ops.size → doneT T j = false → (coreT S (preH ops s) T).get (s.h.next + j) = none
  | [], _, j, _, _ => hf j
  | r :: l, ⟨⟨o, g⟩, gl⟩, j, hj, hd => by
    have hd' : doneT l j = false := by
      simp only [doneT] at hd
      cases hb : Nat.beq r.i j <;> rw [hb] at hd
      · exact hd
      · cases hd
    have ih := gl.core_none hf (S := S) j hj hd'
    simp only [coreT]
    cases hk : r.k with
    | non q => exact ih
    | eff c =>
      cases S r.i
      · exact ih
      · rcases g.kind with ⟨_, _, k3⟩ | ⟨_, ⟨c', pre, k1, a⟩ | ⟨ox, k1, _⟩⟩
        · rw [hk] at k3; cases k3
        · rw [hk] at k1
          cases k1
          exact a.none2 j hj hd
        · rw [hk] at k1; cases k1
theorem Good.more_none (hf : ∀ j, s.h.get (s.h.next + j) = none) {S : Nat → Bool} {x : Blk} : ∀ {T : List ToldOps}, Good P cf ops ms s T → ∀ j, moreT S j T = some x → (coreT S (preH ops s) T).get (s.h.next + j) = none
  | r :: l, ⟨⟨o, g⟩, gl⟩, j, hm => by
    have hj : j < ops.size := Good.lt P cf ops ms s (T := r :: l) ⟨⟨o, g⟩, gl⟩ j (more_done hm)
    simp only [moreT] at hm
    simp only [coreT]
    cases hk : r.k with
    | eff c =>
      simp only [hk] at hm
      cases hs : S r.i
      · rw [hs] at hm
        exact gl.more_none hf j hm
      · rw [hs] at hm
        cases hm
    | non q =>
      simp only [hk] at hm
      cases hb : (S r.i && Nat.beq r.i j)
      · rw [hb] at hm
        exact gl.more_none hf j hm
      · simp only [Bool.and_eq_true] at hb
        have e1 := Nat.eq_of_beq_eq_true hb.2
        cases q with
        | none =>
          rw [hb.1, hb.2] at hm
          exact gl.more_none hf j hm
        | some y => exact gl.core_none P cf ops ms s hf j hj (by rw [← e1]; exact g.new)
/-- What is laid together is what the listed have. -/
theorem Good.sub (hf : ∀ j, s.h.get (s.h.next + j) = none) {T : List ToldOps} (g : Good P cf ops ms s T) {S take : Nat → Bool} (ht : ∀ j, take j = true → S j = true) {b : Nat} {x : Blk}
    (h : (addX s.h.next (topT (preH ops s) S take [] T).2 (topT (preH ops s) S take [] T).1).get b = some x) : getT s.h.next ops.size S (preH ops s) T b = some x := by
  rcases addX_get h with ⟨j, hj, rfl⟩ | h1
  · rcases top_more ht T [] (g.once P cf ops ms s) j x hj with h2 | h2
    · cases h2
    · have hlt := g.lt P cf ops ms s j (more_done h2)
      unfold getT
      rw [if_pos (by omega), show s.h.next + j - s.h.next = j from by omega, h2]
  · rw [top_core] at h1
    unfold getT
    split
    · rename_i hr
      cases hm : moreT S (b - s.h.next) T with
      | none => exact h1
      | some y =>
        have := g.more_none P cf ops ms s hf (b - s.h.next) hm
        rw [show s.h.next + (b - s.h.next) = b from by omega, h1] at this
        cases this
    · exact h1
theorem get_nilH (n b : Nat) : (⟨.nil, n⟩ : H).get b = none := Tq.get_nil deep b
theorem step_good (hf : ∀ j, s.h.get (s.h.next + j) = none) (hb : s.h.next + ops.size < 549755813888) {T : List ToldOps} {r : ToldOps} {vals : Tq AV} {dm i : Nat} (g : Good P cf ops ms s T) (hdm : MaskIs dm T) (hva : ValsAre vals T) (e : stepT P cf ops ms s T vals dm i = some r) : Good P cf ops ms s (r :: T) ∧ r.i = i := by
  unfold stepT at e
  split at e
  · rename_i o ho hc
    simp only [Bool.and_eq_true, Bool.not_eq_true'] at hc
    have hi : i < ops.size := (Array.getElem?_eq_some_iff.1 ho).1
    have deps : ∀ j, j < ops.size → (ms.getD i 0).testBit j = true → doneT T j = true := fun j _ hj => by rw [← hdm j]; exact maskSub_out hc.2 j hj
    have hnew : doneT T i = false := by rw [← hdm i]; exact hc.1
    rw [wantV_eq hva] at e
    have hw' : ∀ (v : AV) (k : Kd), MaskIs (withBit dm i) (⟨i, v, k⟩ :: T) := fun v k => mask_with hdm _ rfl
    split at e
    · rename_i hw
      unfold tellT at e
      rw [evV_eq hva] at e
      split at e
      · rename_i hk
        split at e
        · rename_i hcov
          simp only at e
          split at e
          · rename_i v c hd
            split at e <;> simp only [Option.some.injEq, reduceCtorEq] at e
            rename_i hab
            simp only [Bool.and_eq_true] at hab
            subst e
            refine ⟨⟨⟨o, ho, deps, hnew, .inr ⟨hw, .inl ⟨c, _, rfl, ⟨fun j _ hj => maskSub_out hcov j (by rw [hdm j]; exact hj), ?_, fun S hS b x hx => ?_, hd, fun j hj hdj => absent_out hab.1.1 j hj (by rw [hw' v (.eff c) j]; exact hdj), fun j hj hdj => absent_out hab.1.2 j hj (by rw [hw' v (.eff c) j]; exact hdj), ?_⟩⟩⟩⟩, g⟩, rfl⟩
            · rw [addX_next, top_core]
            · rw [top_all T [] hS] at hx
              exact g.sub P cf ops ms s hf (fun _ h => h) hx
            · rw [addX_next]
              exact Nat.le_of_ble_eq_true hab.2
          · simp at e
        · simp at e
      · rename_i hk
        split at e
        · rename_i v h' hop
          obtain ⟨ox, hox, hall⟩ := free_op hk hop
          have loc : ∀ k : Kd, k = .non ox → Good P cf ops ms s (⟨i, v, k⟩ :: T) := fun k hkk => by
            subst hkk
            refine ⟨⟨o, ho, deps, hnew, .inr ⟨hw, .inr ⟨ox, rfl, fun S hS => ⟨⟨.nil, s.h.next + i⟩, rfl, fun b x hx => ?_, ?_⟩⟩⟩⟩, g⟩
            · rw [get_nilH] at hx; cases hx
            · rw [← hox]; exact hop
          split at e <;> simp only [Option.some.injEq, reduceCtorEq] at e
          · rename_i hn
            subst e
            have hn := Nat.eq_of_beq_eq_true hn
            cases ox with
            | none => exact ⟨loc _ rfl, rfl⟩
            | some x =>
              exfalso
              rw [hox] at hn
              have : (⟨.nil, s.h.next + i⟩ : H).next + 1 = s.h.next + i := hn
              simp at this
          · rename_i x hn hx
            subst e
            cases ox with
            | none =>
              exfalso
              rw [hox] at hn
              have : Nat.beq (s.h.next + i) (s.h.next + i) = false := hn
              rw [Nat.beq_refl] at this
              cases this
            | some y =>
              have : h'.get (s.h.next + i) = some y := by
                rw [hox]
                exact Tq.get_set_at deep .nil (s.h.next + i) (some y) (Nat.lt_of_lt_of_le (Nat.succ_lt_succ (show s.h.next + i < 549755813888 by omega)) (by decide))
              rw [hx] at this
              simp at this
              subst this
              exact ⟨loc _ rfl, rfl⟩
        · simp at e
      · rename_i hk
        split at e
        · rename_i v h' hop
          split at e
          · rename_i hn
            have hn := Nat.eq_of_beq_eq_true hn
            split at e <;> simp only [Option.some.injEq, reduceCtorEq] at e
            rename_i hr
            subst e
            refine ⟨⟨⟨o, ho, deps, hnew, .inr ⟨hw, .inr ⟨none, rfl, fun S hS => ?_⟩⟩⟩, g⟩, rfl⟩
            have h1 := read_all P ops s hS T [] hr
            unfold evalOn at h1
            split at h1
            · rename_i v' h'' hop'
              simp only [Bool.and_eq_true] at h1
              have e1 := avSame_out h1.1
              have e2 := Nat.eq_of_beq_eq_true h1.2
              subst e1
              have e3 := read_op hk hop' (by rw [e2]; rfl)
              rw [e3] at hop'
              exact ⟨localH s i (topT (preH ops s) S (ms.getD i 0).testBit [] T), rfl, fun b x hx => g.sub P cf ops ms s hf hS hx, hop'⟩
            · simp at h1
          · rename_i x hn hx
            simp only [Option.some.injEq] at e
            subst e
            have hne : ¬ h'.next = (localH s i (topT (preH ops s) (fun _ => true) (ms.getD i 0).testBit [] T)).next := fun q => by
              have : h'.next = s.h.next + i := q
              rw [this, Nat.beq_refl] at hn
              cases hn
            obtain ⟨y, hy, hall⟩ := read_new hk hop hne
            have : h'.get (s.h.next + i) = some y := by
              rw [hy]
              exact Tq.get_set_at deep _ (s.h.next + i) (some y) (Nat.lt_of_lt_of_le (Nat.succ_lt_succ (show s.h.next + i < 549755813888 by omega)) (by decide))
            rw [hx] at this
            simp at this
            subst this
            refine ⟨⟨⟨o, ho, deps, hnew, .inr ⟨hw, .inr ⟨some x, rfl, fun S hS => ⟨⟨.nil, s.h.next + i⟩, rfl, fun b z hz => ?_, hall _ rfl⟩⟩⟩⟩, g⟩, rfl⟩
            rw [get_nilH] at hz; cases hz
          · simp at e
        · simp at e
    · rename_i hw
      simp only [Option.some.injEq] at e
      subst e
      exact ⟨⟨⟨o, ho, deps, hnew, .inl ⟨hw, rfl, rfl⟩⟩, g⟩, rfl⟩
    · simp at e
  · simp at e
theorem pass_good (hf : ∀ j, s.h.get (s.h.next + j) = none) (hb : s.h.next + ops.size < 549755813888) : ∀ (l : List Nat) (T T' : List ToldOps) (vals : Tq AV) (dm dm' : Nat), Good P cf ops ms s T → MaskIs dm T → ValsAre vals T → passT P cf ops ms s l T vals dm = some (T', dm') → Good P cf ops ms s T' ∧ MaskIs dm' T'
  | [], T, T', vals, dm, dm', g, hdm, hva, e => by
    simp only [passT, Option.some.injEq, Prod.mk.injEq] at e
    obtain ⟨rfl, rfl⟩ := e
    exact ⟨g, hdm⟩
  | i :: l, T, T', vals, dm, dm', g, hdm, hva, e => by
    simp only [passT] at e
    split at e
    · rename_i r h1
      obtain ⟨g1, hr⟩ := step_good P cf ops ms s hf hb g hdm hva h1
      have hlt : r.i < ops.size := g1.lt P cf ops ms s r.i (by simp [doneT])
      have hv1 := vals_with hva r (by omega)
      rw [hr] at hv1
      exact pass_good hf hb l _ T' _ _ dm' g1 (mask_with hdm r hr) hv1 e
    · simp at e
end
end Go.Proofs.Ytpdfalgjmeagjaa

/-
  A statement whose order is open comes to what the small machine's pass over it tells, in whichever order.
-/
namespace Go.Proofs.Ytpdfalgjmeagjaa
open Go.RowKit
set_option linter.unusedVariables false

/-- Each slot is written once, within the frame. -/
def slotsB (ops : Array Oper) (nt : Nat) : Bool := (List.range ops.size).all fun i => match ops[i]? with
  | some o => match o.dst with
    | some t => (match writerOf ops.toList 0 t with | some j => Nat.beq j i | none => false) && Nat.blt t nt && Nat.blt t 549755813888
    | none => true
  | none => true
theorem writer_out : ∀ (l : List Oper) (k j : Nat) (t : Tmp), writerOf l k t = some j → ∃ o, k ≤ j ∧ l[j - k]? = some o ∧ o.dst = some t
  | o :: l, k, j, t, h => by
    simp only [writerOf] at h
    cases hd : o.dst with
    | none =>
      simp only [hd] at h
      obtain ⟨o', h1, h2, h3⟩ := writer_out l (k + 1) j t h
      exact ⟨o', by omega, by rw [show j - k = (j - (k + 1)) + 1 from by omega]; exact h2, h3⟩
    | some d =>
      simp only [hd] at h
      cases hb : Nat.beq d t
      · rw [hb] at h
        obtain ⟨o', h1, h2, h3⟩ := writer_out l (k + 1) j t h
        exact ⟨o', by omega, by rw [show j - k = (j - (k + 1)) + 1 from by omega]; exact h2, h3⟩
      · rw [hb] at h
        simp at h
        subst h
        exact ⟨o, Nat.le_refl _, by simp, by rw [hd, Nat.eq_of_beq_eq_true hb]⟩
theorem slots_out {ops : Array Oper} {nt : Nat} (h : slotsB ops nt = true) {i : Nat} {o : Oper} {t : Tmp} (ho : ops[i]? = some o) (ht : o.dst = some t) : writerOf ops.toList 0 t = some i ∧ t < nt ∧ t < 549755813888 := by
  have hlt : i < ops.size := (Array.getElem?_eq_some_iff.1 ho).1
  have h1 := List.all_eq_true.1 h i (List.mem_range.2 hlt)
  simp only [ho, ht, Bool.and_eq_true] at h1
  refine ⟨?_, blt_true h1.1.2, blt_true h1.2⟩
  have h2 := h1.1.1
  split at h2
  · rename_i j hj
    rw [hj, Nat.eq_of_beq_eq_true h2]
  · cases h2
/-- What a slot holds, of what is listed. -/
def slotT (ops : Array Oper) (T : List ToldOps) (s : St) (S : Nat → Bool) (t : Tmp) : AV := match writerOf ops.toList 0 t with
  | some j => match S j with
    | true => match lookT T j with
      | some v => v
      | none => .undef
    | false => s.tmp t
  | none => s.tmp t

/-- All that is told, in the frame. -/
def allIn (ops : Array Oper) : List ToldOps → Tq AV → Tq AV
  | [], tm => tm
  | r :: l, tm => match ops[r.i]? with
    | some o => match o.dst with
      | some t => (allIn ops l tm).set deep t (some r.v)
      | none => allIn ops l tm
    | none => allIn ops l tm
/-- The order of the pass: ahead of each that may write what has to come ahead of it. -/
def aheadOf (todo : Nat) : List Nat → List Nat
  | [] => []
  | i :: l => match todo.testBit i with
    | true => i :: aheadOf todo l
    | false => aheadOf todo l
def orderGo (ms : List Nat) (ix : List Nat) (all : Nat) : List Nat → Nat → List Nat
  | [], acc => aheadOf (Nat.xor all acc) ix
  | e :: l, acc => match acc.testBit e with
    | true => orderGo ms ix all l acc
    | false => match Nat.lor acc (ms.getD e 0) with
      | m => aheadOf (Nat.xor m acc) ix ++ e :: orderGo ms ix all l (withBit m e)
def actsOf : List Oper → Nat → List Nat
  | [], _ => []
  | o :: l, k => match kindOp o with
    | .acts => k :: actsOf l (k + 1)
    | _ => actsOf l (k + 1)
/-- The order, and what has to come ahead of each: of the statement alone. -/
def planOf (ops : Array Oper) : List Nat × List Nat := match masks ops with
  | ms => (orderGo ms (List.range ops.size) (2 ^ ops.size - 1) (actsOf ops.toList 0) 0, ms)
def openRun (P : Program) (cf : Known) : Drawn := fun ops s => match edgesOk ops, slotsB ops s.nt, Nat.blt (s.h.next + ops.size) 549755813888 with
  | true, true, true => match passT P cf ops (masks ops) s (planOf ops).1 [] .nil 0 with
    | some (T, dm) => match maskSub (2 ^ ops.size - 1) dm with
      | true => match topT (preH ops s) (fun _ => true) (fun _ => true) [] T with
        | q => some ⟨allIn ops T s.tm, s.nt, addX s.h.next q.2 q.1⟩
      | false => none
    | none => none
  | _, _, _ => none

section
variable {P : Program} {cf : Known} {ops : Array Oper} {s : St} {T : List ToldOps}
theorem look_again : ∀ {T : List ToldOps} {r : ToldOps} {l : List ToldOps} {a : List ToldOps}, T = a ++ r :: l → Once T → lookT T r.i = some r.v ∧ ∀ j, doneT l j = true → lookT T j = lookT l j
  | _, r, l, [], rfl, h => ⟨by simp [lookT], fun j hj => by
      have hne : Nat.beq r.i j = false := by
        cases hb : Nat.beq r.i j
        · rfl
        · rw [← Nat.eq_of_beq_eq_true hb, h.1] at hj; cases hj
      simp only [List.nil_append, lookT, hne]⟩
  | _, r, l, x :: a, rfl, h => by
    obtain ⟨h1, h2⟩ := look_again (T := a ++ r :: l) (a := a) rfl h.2
    have hd : ∀ j, doneT (r :: l) j = true → Nat.beq x.i j = false := fun j hj => by
      have : doneT (a ++ r :: l) j = true := by
        clear h1 h2 h
        induction a with
        | nil => exact hj
        | cons y a ih => simp only [List.cons_append, doneT]; split <;> first | rfl | exact ih
      cases hb : Nat.beq x.i j
      · rfl
      · have h3 := h.1
        rw [Nat.eq_of_beq_eq_true hb] at h3
        change doneT (a ++ r :: l) j = false at h3
        rw [h3] at this
        cases this
    refine ⟨?_, fun j hj => ?_⟩
    · have := hd r.i (by simp [doneT])
      simp only [List.cons_append, lookT, this]
      exact h1
    · have := hd j (by simp only [doneT]; split <;> first | rfl | exact hj)
      simp only [List.cons_append, lookT, this]
      exact h2 j hj
theorem split_at {T : List ToldOps} {i : Nat} : doneT T i = true → ∃ a r l, T = a ++ r :: l ∧ r.i = i := by
  induction T with
  | nil => intro h; cases h
  | cons x T ih =>
    intro h
    simp only [doneT] at h
    cases hb : Nat.beq x.i i
    · rw [hb] at h
      obtain ⟨a, r, l, rfl, h2⟩ := ih h
      exact ⟨x :: a, r, l, rfl, h2⟩
    · exact ⟨[], x, T, rfl, Nat.eq_of_beq_eq_true hb⟩
theorem done_cons {a : List ToldOps} {r : ToldOps} {l : List ToldOps} {j : Nat} (hj : doneT (r :: l) j = true) : doneT (a ++ r :: l) j = true := by
  induction a with
  | nil => exact hj
  | cons y a ih => simp only [List.cons_append, doneT]; split <;> first | rfl | exact ih
theorem Good.at_ {ms : List Nat} : ∀ {a : List ToldOps} {r : ToldOps} {l : List ToldOps}, Good P cf ops ms s (a ++ r :: l) → (∃ o, GoodAt P cf ops ms s r l o (ms.getD r.i 0)) ∧ Good P cf ops ms s l ∧ (∀ x ∈ a, ∃ l' o, GoodAt P cf ops ms s x l' o (ms.getD x.i 0) ∧ (∀ j, doneT (r :: l) j = true → doneT l' j = true))
  | [], r, l, h => ⟨h.1, h.2, fun x hx => by cases hx⟩
  | y :: a, r, l, h => by
    obtain ⟨h1, h2, h3⟩ := Good.at_ (a := a) h.2
    refine ⟨h1, h2, fun x hx => ?_⟩
    rcases List.mem_cons.1 hx with rfl | hx
    · obtain ⟨o, g⟩ := h.1
      refine ⟨_, o, g, fun j hj => ?_⟩
      show doneT (a ++ r :: l) j = true
      exact done_cons hj
    · exact h3 x hx
/-- Calls that come later in the pass are not listed while an earlier one is not. -/
theorem later_core {ms : List Nat} (hms : ms = masks ops) {S : Nat → Bool} (hc : Closed ops S) {r : ToldOps} {l : List ToldOps} (hr : S r.i = false) : ∀ {a : List ToldOps}, Good P cf ops ms s (a ++ r :: l) → coreT S (preH ops s) (a ++ r :: l) = coreT S (preH ops s) l ∧ (∀ j x, j ≠ r.i → moreT S j l = some x → moreT S j (a ++ r :: l) = some x) ∧
    (∀ j x, moreT S j (a ++ r :: l) = some x → moreT S j l = some x ∨ doneT l j = false)
  | [], h => by
    obtain ⟨⟨o, g⟩, gl⟩ := h
    have hk : coreT S (preH ops s) (r :: l) = coreT S (preH ops s) l := by
      simp only [coreT, hr]
      split <;> rfl
    have hm : ∀ j, moreT S j (r :: l) = moreT S j l := fun j => by
      simp only [moreT, hr, Bool.false_and]
      split <;> rfl
    exact ⟨hk, fun j x _ h => by rw [List.nil_append, hm]; exact h, fun j x h => by rw [List.nil_append, hm] at h; exact .inl h⟩
  | y :: a, h => by
    obtain ⟨ih1, ih2, ih3⟩ := later_core hms hc hr (a := a) h.2
    obtain ⟨o, g⟩ := h.1
    have hdr : doneT (a ++ r :: l) r.i = true := by
      clear h g ih1 ih2 ih3
      induction a with
      | nil => simp [doneT]
      | cons y a ih => simp only [List.cons_append, doneT]; split <;> first | rfl | exact ih
    have hdl : ∀ j, doneT l j = true → doneT (a ++ r :: l) j = true := by
      intro j hj
      clear h g ih1 ih2 ih3 hdr
      induction a with
      | nil => simp only [List.nil_append, doneT]; split <;> first | rfl | exact hj
      | cons y a ih => simp only [List.cons_append, doneT]; split <;> first | rfl | exact ih
    have hy : ∀ c, y.k = .eff c → S y.i = false := by
      intro c hk
      cases hs : S y.i
      · rfl
      · exfalso
        rcases g.kind with ⟨_, _, k3⟩ | ⟨_, ⟨c', pre, k1, ah⟩ | ⟨ox, k1, _⟩⟩
        · rw [hk] at k3; cases k3
        · have hlt : r.i < ops.size := h.2.lt P cf ops ms s r.i hdr
          have := ah.all r.i hlt hdr
          rw [hms] at this
          have := hc.dep (mask_dep this) hs
          rw [hr] at this
          cases this
        · rw [hk] at k1; cases k1
    refine ⟨?_, fun j x hj hx => ?_, fun j x hx => ?_⟩
    · rw [← ih1]
      simp only [List.cons_append, coreT]
      cases hk : y.k with
      | eff c => simp only [hy c hk]
      | non q => rfl
    · have := ih2 j x hj hx
      have hne : Nat.beq y.i j = false := by
        cases hb : Nat.beq y.i j
        · rfl
        · have h4 := hdl j (more_done hx)
          have h5 : doneT (a ++ r :: l) y.i = false := g.new
          rw [Nat.eq_of_beq_eq_true hb, h4] at h5
          cases h5
      simp only [List.cons_append, moreT]
      cases hk : y.k with
      | eff c => simp only [hy c hk]; exact this
      | non q => simp only [hne, Bool.and_false]; exact this
    · simp only [List.cons_append, moreT] at hx
      cases hk : y.k with
      | eff c => simp only [hk, hy c hk] at hx; exact ih3 j x hx
      | non q =>
        simp only [hk] at hx
        cases hb : (S y.i && Nat.beq y.i j)
        · rw [hb] at hx; exact ih3 j x hx
        · simp only [Bool.and_eq_true] at hb
          have e1 := Nat.eq_of_beq_eq_true hb.2
          refine .inr ?_
          cases hd : doneT l j
          · rfl
          · have h4 := hdl j hd
            have h5 : doneT (a ++ r :: l) y.i = false := g.new
            rw [e1, h4] at h5
            cases h5

theorem core_congr {S S' : Nat → Bool} {h : H} : ∀ {T : List ToldOps}, (∀ j, doneT T j = true → S j = S' j) → coreT S h T = coreT S' h T ∧ ∀ j, moreT S j T = moreT S' j T
  | [], _ => ⟨rfl, fun _ => rfl⟩
  | r :: l, hj => by
    have hr := hj r.i (by simp [doneT])
    obtain ⟨h1, h2⟩ := core_congr (S := S) (S' := S') (h := h) (T := l) (fun j hd => hj j (by simp only [doneT]; split <;> first | rfl | exact hd))
    refine ⟨?_, fun j => ?_⟩
    · simp only [coreT, hr, h1]
    · simp only [moreT, hr, h2]
theorem done_app {a : List ToldOps} {r : ToldOps} {l : List ToldOps} {j : Nat} (hj : doneT (r :: l) j = true) : doneT (a ++ r :: l) j = true := by
  induction a with
  | nil => exact hj
  | cons y a ih => simp only [List.cons_append, doneT]; split <;> first | rfl | exact ih
/-- One more is listed, that makes no more than a block of its own. -/
theorem step_non {S : Nat → Bool} {h : H} {r : ToldOps} {l : List ToldOps} {ox : Option Blk} (hk : r.k = .non ox) (hSr : S r.i = false) : ∀ {a : List ToldOps}, Once (a ++ r :: l) →
    coreT (withI S r.i) h (a ++ r :: l) = coreT S h (a ++ r :: l) ∧ ∀ j x, moreT (withI S r.i) j (a ++ r :: l) = some x → moreT S j (a ++ r :: l) = some x ∨ (j = r.i ∧ ox = some x)
  | [], ho => by
    have hl : ∀ j, doneT l j = true → withI S r.i j = S j := fun j hj => withI_ne S (fun e => by rw [e, ho.1] at hj; cases hj)
    obtain ⟨c1, c2⟩ := core_congr (h := h) hl
    refine ⟨?_, fun j x hx => ?_⟩
    · simp only [List.nil_append, coreT, hk, c1]
    · simp only [List.nil_append, moreT, hk, withI_self, hSr, Bool.true_and, Bool.false_and] at hx ⊢
      cases hb : Nat.beq r.i j
      · rw [hb] at hx
        simp only at hx
        rw [c2] at hx
        exact .inl hx
      · rw [hb] at hx
        have e1 := Nat.eq_of_beq_eq_true hb
        cases ox with
        | none => simp only at hx; rw [c2] at hx; exact .inl hx
        | some b => simp only at hx; exact .inr ⟨e1.symm, hx⟩
  | y :: a, ho => by
    obtain ⟨i1, i2⟩ := step_non (h := h) hk hSr (a := a) ho.2
    have hne : y.i ≠ r.i := fun e => by
      have h1 : doneT (a ++ r :: l) y.i = false := ho.1
      rw [e, done_app (by simp [doneT])] at h1
      cases h1
    have hy := withI_ne S hne
    refine ⟨?_, fun j x hx => ?_⟩
    · simp only [List.cons_append, coreT, hy, i1]
    · simp only [List.cons_append, moreT, hy] at hx ⊢
      cases hyk : y.k with
      | eff c =>
        simp only [hyk] at hx
        cases hs : S y.i
        · rw [hs] at hx; exact i2 j x hx
        · rw [hs] at hx; cases hx
      | non q =>
        simp only [hyk] at hx
        cases hb : (S y.i && Nat.beq y.i j)
        · rw [hb] at hx; exact i2 j x hx
        · rw [hb] at hx
          cases q with
          | none => exact i2 j x hx
          | some b => exact .inl hx
/-- One more is listed, that may write. -/
theorem step_eff {S : Nat → Bool} {h : H} {r : ToldOps} {l : List ToldOps} {c : H} (hk : r.k = .eff c) (hSr : S r.i = false) : ∀ {a : List ToldOps}, Once (a ++ r :: l) → (∀ x ∈ a, ∀ c, x.k = .eff c → S x.i = false) →
    coreT (withI S r.i) h (a ++ r :: l) = c ∧ ∀ j x, moreT (withI S r.i) j (a ++ r :: l) = some x → moreT S j (a ++ r :: l) = some x ∧ doneT (r :: l) j = false
  | [], ho, _ => by
    refine ⟨?_, fun j x hx => ?_⟩
    · simp only [List.nil_append, coreT, hk, withI_self]
    · simp only [List.nil_append, moreT, hk, withI_self] at hx
      cases hx
  | y :: a, ho, ha => by
    obtain ⟨i1, i2⟩ := step_eff (h := h) hk hSr (a := a) ho.2 (fun x hx => ha x (by simp [hx]))
    have hne : y.i ≠ r.i := fun e => by
      have h1 : doneT (a ++ r :: l) y.i = false := ho.1
      rw [e, done_app (by simp [doneT])] at h1
      cases h1
    have hy := withI_ne S hne
    refine ⟨?_, fun j x hx => ?_⟩
    · simp only [List.cons_append, coreT, hy]
      cases hyk : y.k with
      | eff c' => simp only [ha y (by simp) c' hyk]; exact i1
      | non q => exact i1
    · simp only [List.cons_append, moreT, hy] at hx ⊢
      cases hyk : y.k with
      | eff c' =>
        simp only [hyk, ha y (by simp) c' hyk] at hx ⊢
        exact i2 j x hx
      | non q =>
        simp only [hyk] at hx ⊢
        cases hb : (S y.i && Nat.beq y.i j)
        · rw [hb] at hx; exact i2 j x hx
        · rw [hb] at hx
          simp only [Bool.and_eq_true] at hb
          have e1 := Nat.eq_of_beq_eq_true hb.2
          cases q with
          | none => exact i2 j x hx
          | some b =>
            refine ⟨hx, ?_⟩
            cases hd : doneT (r :: l) j
            · rfl
            · have h1 : doneT (a ++ r :: l) y.i = false := ho.1
              rw [e1, done_app hd] at h1
              cases h1
theorem Good.next {ms : List Nat} {S : Nat → Bool} : ∀ {T : List ToldOps}, Good P cf ops ms s T → s.h.next + ops.size ≤ (coreT S (preH ops s) T).next ∧ s.h.next + ops.size ≤ (coreT (fun _ => true) (preH ops s) T).next
  | [], _ => ⟨Nat.le_refl _, Nat.le_refl _⟩
  | r :: l, ⟨⟨o, g⟩, gl⟩ => by
    obtain ⟨h1, h2⟩ := gl.next (S := S)
    have hc : ∀ c, r.k = .eff c → s.h.next + ops.size ≤ c.next := fun c hk => by
      rcases g.kind with ⟨_, _, k3⟩ | ⟨_, ⟨c', pre, k1, a⟩ | ⟨ox, k1, _⟩⟩
      · rw [hk] at k3; cases k3
      · rw [hk] at k1
        cases k1
        exact Nat.le_trans (by rw [a.next]; exact h2) a.more
      · rw [hk] at k1; cases k1
    refine ⟨?_, ?_⟩
    · simp only [coreT]
      cases hk : r.k with
      | non q => exact h1
      | eff c =>
        cases S r.i
        · exact h1
        · exact hc c hk
    · simp only [coreT]
      cases hk : r.k with
      | non q => exact h2
      | eff c => exact hc c hk
theorem all_get {nt : Nat} (hs : slotsB ops nt = true) : ∀ {T : List ToldOps} {tm : Tq AV}, (∀ j, doneT T j = true → j < ops.size) → Once T → ∀ t, (allIn ops T tm).get deep t = match writerOf ops.toList 0 t with
    | some j => match doneT T j with
      | true => lookT T j
      | false => tm.get deep t
    | none => tm.get deep t
  | [], tm, _, _, t => by
    simp only [allIn, doneT]
    split <;> rfl
  | r :: l, tm, hj, ho, t => by
    have ih := all_get hs (T := l) (tm := tm) (fun j hd => hj j (by simp only [doneT]; split <;> first | rfl | exact hd)) ho.2 t
    have hr := hj r.i (by simp [doneT])
    have hor : ops[r.i]? = some ops[r.i] := Array.getElem?_eq_getElem hr
    simp only [allIn, hor]
    cases hd : (ops[r.i]).dst with
    | none =>
      simp only
      rw [ih]
      cases hw : writerOf ops.toList 0 t with
      | none => rfl
      | some j =>
        have hne : Nat.beq r.i j = false := by
          cases hb : Nat.beq r.i j
          · rfl
          · obtain ⟨o', _, h2, h3⟩ := writer_out _ _ _ _ hw
            rw [← Nat.eq_of_beq_eq_true hb, Nat.sub_zero, Array.getElem?_toList, hor] at h2
            simp at h2
            rw [← h2, hd] at h3
            cases h3
        simp only [doneT, lookT, hne]
    | some d =>
      simp only
      obtain ⟨w1, w2, w3⟩ := slots_out hs hor hd
      by_cases e : t = d
      · subst e
        rw [Tq.get_set_at deep _ t _ (Nat.lt_of_lt_of_le (Nat.succ_lt_succ w3) (by decide)), w1]
        simp only [doneT, lookT, Nat.beq_refl]
      · rw [Tq.get_set deep _ d _ t (Ne.symm e), ih]
        cases hw : writerOf ops.toList 0 t with
        | none => rfl
        | some j =>
          have hne : Nat.beq r.i j = false := by
            cases hb : Nat.beq r.i j
            · rfl
            · obtain ⟨o', _, h2, h3⟩ := writer_out _ _ _ _ hw
              rw [← Nat.eq_of_beq_eq_true hb, Nat.sub_zero, Array.getElem?_toList, hor] at h2
              simp at h2
              rw [← h2, hd] at h3
              simp at h3
              exact absurd h3.symm e
          simp only [doneT, lookT, hne]
end
end Go.Proofs.Ytpdfalgjmeagjaa

/-
  A statement whose order is open: the small machine's one run of it stands for all orders.
-/
namespace Go.Proofs.Ytpdfalgjmeagjaa
open Go.RowKit
set_option linter.unusedVariables false

section
variable {P : Program} {cf : Known} {ops : Array Oper} {s : St} {T : List ToldOps} {ρ ρ0 : Pos} {w w0 : World} {a : Act} {S : Nat → Bool}

/-- Where the run stands, of what is listed. -/
structure Stand (P : Program) (ops : Array Oper) (s : St) (T : List ToldOps) (ρ0 : Pos) (w0 : World) (S : Nat → Bool) (a : Act) (w : World) (ρ : Pos) : Prop where
  closed : Closed ops S
  defers : a.defers = []
  size : a.tmps.size = s.nt
  slot : ∀ t, con ρ (slotT ops T s S t) = some (a.tmps.getD t undef)
  mem : RelG ρ (getT s.h.next ops.size S (preH ops s) T) w
  new : ∀ b, (coreT S (preH ops s) T).next ≤ b → ρ b = none
  own : ∀ j, j < ops.size → S j = false → ρ (s.h.next + j) = none
  ext : ExtG ρ0 s.h w0 ρ (getT s.h.next ops.size S (preH ops s) T) w

theorem Stand.evs (st : Stand P ops s T ρ0 w0 S a w ρ) (hs : slotsB ops s.nt = true) {l : List ToldOps} {mask : Nat} {i : Nat} (hSi : S i = false) (hm : ∀ j, mask.testBit j = true → S j = true) (hl : ∀ j v, lookT l j = some v → doneT l j = true) (hT : ∀ j, doneT l j = true → lookT T j = lookT l j) : Evs ρ (evT ops (masks ops) l i mask s) a.eval := by
  intro x v e
  cases x with
  | tmp t =>
    have h1 := st.slot t
    unfold slotT at h1
    simp only [evT] at e
    split at e
    · rename_i j hj
      split at e
      · rename_i hb
        simp only [hj, hm j hb, hT j (hl j v e), e] at h1
        exact h1
      · split at e
        · rename_i hb2
          have hSj : S j = false := by
            cases hq : S j
            · rfl
            · have := st.closed.dep (mask_dep hb2) hq
              rw [hSi] at this
              cases this
          simp only [hj, hSj] at h1
          simp at e
          subst e
          exact h1
        · cases e
    · rename_i hj
      simp only [hj] at h1
      simp at e
      subst e
      exact h1
  | const c => exact avOf_con e ρ
  | global g => simp [evT] at e
  | func f =>
    simp [evT] at e
    subst e
    rfl
theorem look_is : ∀ {l : List ToldOps} {j : Nat} {v : AV}, lookT l j = some v → doneT l j = true
  | r :: l, j, v, h => by
    simp only [lookT] at h
    simp only [doneT]
    cases hb : Nat.beq r.i j <;> rw [hb] at h
    · exact look_is h
theorem Stand.want (st : Stand P ops s T ρ0 w0 S a w ρ) (hs : slotsB ops s.nt = true) {l : List ToldOps} {mask : Nat} (hm : ∀ j, mask.testBit j = true → S j = true) (hT : ∀ j, doneT l j = true → lookT T j = lookT l j) {o : Oper} {b : Bool} (e : wantT ops l mask o = some b) : Region.wanted o (yielded ops a.tmps) = b := by
  unfold wantT at e
  unfold Region.wanted
  split at e
  · rename_i hg
    simp at e
    rw [hg]
    exact e.symm
  · rename_i j c hg
    rw [hg]
    simp only
    split at e
    · rename_i oj hb hoj
      have key : ∀ (t : Tmp) (v : AV), oj.dst = some t → lookT l j = some v → con ρ v = some (a.tmps.getD t undef) := fun t v ht hv => by
        obtain ⟨w1, _, _⟩ := slots_out hs hoj ht
        have h1 := st.slot t
        unfold slotT at h1
        simp only [w1, hm j hb, hT j (look_is hv), hv] at h1
        exact h1
      split at e
      · rename_i t q ht hv
        simp only [Option.some.injEq] at e
        have h1 := key t _ ht hv
        simp only [con, Option.some.injEq] at h1
        have h2 : yielded ops a.tmps j = some q := by
          unfold yielded
          simp only [hoj, Option.bind_some, ht]
          cases hq : a.tmps[t]? with
          | none => simp [hq, undef] at h1
          | some u =>
            simp [hq] at h1
            rw [← h1]
        rw [h2, ← e]
        cases q <;> cases c <;> rfl
      · rename_i t v hne ht hv
        simp only [Option.some.injEq] at e
        have h1 := key t _ ht hv
        have h2 : yielded ops a.tmps j = none := by
          unfold yielded
          simp only [hoj, Option.bind_some, ht]
          split
          · rename_i q hq
            simp [hq] at h1
            exact absurd (con_bool h1) (hne q)
          · rfl
        rw [h2, ← e]
        rfl
      · cases e
    · cases e
/-- One more is listed. -/
theorem Stand.slot' (st : Stand P ops s T ρ0 w0 S a w ρ) (hs : slotsB ops s.nt = true) {i : Nat} {o : Oper} (ho : ops[i]? = some o) {v : AV} (hv : lookT T i = some v) {ρ' : Pos} (l : ρ.le ρ') {u : Value} (hu : con ρ' v = some u) :
    (a.put o.dst u).defers = [] ∧ (a.put o.dst u).tmps.size = s.nt ∧ ∀ t, con ρ' (slotT ops T s (withI S i) t) = some ((a.put o.dst u).tmps.getD t undef) := by
  cases hd : o.dst with
  | none =>
    refine ⟨st.defers, st.size, fun t => ?_⟩
    have h1 := con_mono l _ _ (st.slot t)
    have : slotT ops T s (withI S i) t = slotT ops T s S t := by
      unfold slotT
      cases hw : writerOf ops.toList 0 t with
      | none => rfl
      | some j =>
        have hne : j ≠ i := fun e => by
          obtain ⟨o', _, h2, h3⟩ := writer_out _ _ _ _ hw
          rw [e, Nat.sub_zero, Array.getElem?_toList, ho] at h2
          simp at h2
          rw [← h2, hd] at h3
          cases h3
        simp only [withI_ne S hne]
    rw [this]
    exact h1
  | some d =>
    obtain ⟨w1, w2, w3⟩ := slots_out hs ho hd
    refine ⟨st.defers, by simpa [Act.put] using st.size, fun t => ?_⟩
    by_cases e : t = d
    · subst e
      have : slotT ops T s (withI S i) t = v := by
        unfold slotT
        simp only [w1, withI_self, hv]
      rw [this, hu]
      have hsz := st.size
      simp [Act.put, hsz, w2]
    · have h1 := con_mono l _ _ (st.slot t)
      have : slotT ops T s (withI S i) t = slotT ops T s S t := by
        unfold slotT
        cases hw : writerOf ops.toList 0 t with
        | none => rfl
        | some j =>
          have hne : j ≠ i := fun e1 => by
            obtain ⟨o', _, h2, h3⟩ := writer_out _ _ _ _ hw
            rw [e1, Nat.sub_zero, Array.getElem?_toList, ho] at h2
            simp at h2
            rw [← h2, hd] at h3
            simp at h3
            exact e h3.symm
          simp only [withI_ne S hne]
      rw [this, h1]
      simp [Act.put, Array.getElem?_setIfInBounds_ne (Ne.symm e)]
theorem getT_core {base m : Nat} {h : H} {b : Nat} {x : Blk} (hc : (coreT S h T).get b = some x) (hn : ∀ j y, moreT S j T = some y → (coreT S h T).get (base + j) = none) : getT base m S h T b = some x := by
  unfold getT
  split
  · rename_i hr
    cases hm : moreT S (b - base) T with
    | none => exact hc
    | some y =>
      have := hn _ _ hm
      rw [show base + (b - base) = b from by omega, hc] at this
      cases this
  · exact hc
theorem getT_more {base m : Nat} {h : H} {j : Nat} {x : Blk} (hj : j < m) (hm : moreT S j T = some x) : getT base m S h T (base + j) = some x := by
  unfold getT
  rw [if_pos (by omega), show base + j - base = j from by omega, hm]
theorem getT_or {base m : Nat} {h : H} {b : Nat} {x : Blk} (hg : getT base m S h T b = some x) : (∃ j, j < m ∧ b = base + j ∧ moreT S j T = some x) ∨ (coreT S h T).get b = some x := by
  unfold getT at hg
  split at hg
  · rename_i hr
    cases hm : moreT S (b - base) T with
    | none => rw [hm] at hg; exact .inr hg
    | some y =>
      rw [hm] at hg
      simp at hg
      subst hg
      exact .inl ⟨b - base, by omega, by omega, hm⟩
  · exact .inr hg
theorem getT_later (hf : ∀ j, s.h.get (s.h.next + j) = none) (hc : Closed ops S) {r : ToldOps} {l A : List ToldOps} (hr : S r.i = false) (g : Good P cf ops (masks ops) s (A ++ r :: l)) {b : Nat} {x : Blk} (h : getT s.h.next ops.size S (preH ops s) l b = some x) : getT s.h.next ops.size S (preH ops s) (A ++ r :: l) b = some x := by
  obtain ⟨k1, k2, k3⟩ := later_core rfl hc hr g
  obtain ⟨⟨o, gr⟩, gl, _⟩ := Good.at_ g
  rcases getT_or h with ⟨j, hj, rfl, hm⟩ | h1
  · exact getT_more hj (k2 j x (fun e => by have := more_done hm; rw [e, gr.new] at this; cases this) hm)
  · exact getT_core (by rw [k1]; exact h1) (fun j y hy => by
      rw [k1]
      rcases k3 j y hy with h2 | h2
      · exact gl.more_none P cf ops (masks ops) s hf j h2
      · exact gl.core_none P cf ops (masks ops) s hf j (g.lt P cf ops (masks ops) s j (more_done hy)) h2)

theorem Stand.step (ok : Known.Ok P cf) (hs : slotsB ops s.nt = true) (hed : edgesOk ops = true) (hf : ∀ j, s.h.get (s.h.next + j) = none) (hbig : s.h.next + ops.size < 549755813888) (g : Good P cf ops (masks ops) s T) (hall : ∀ j, j < ops.size → doneT T j = true)
    (st : Stand P ops s T ρ0 w0 S a w ρ) {i : Nat} {o : Oper} (ho : ops[i]? = some o) (hSi : S i = false) (hd : ∀ e ∈ o.after, Region.binds .any e = true → S e.on = true) {Q : Exit → Act → World → Prop} :
    if Region.wanted o (yielded ops a.tmps) then o.wp P a w (fun a' w' => ∃ ρ', Stand P ops s T ρ0 w0 (withI S i) a' w' ρ') Q else ∃ ρ', Stand P ops s T ρ0 w0 (withI S i) (a.put o.dst undef) w ρ' := by
  have hi : i < ops.size := (Array.getElem?_eq_some_iff.1 ho).1
  obtain ⟨A, r, l, rfl, rfl⟩ := split_at (hall i hi)
  obtain ⟨⟨o', gr⟩, gl, hlater⟩ := Good.at_ g
  obtain rfl : o' = o := Option.some.inj (gr.op.symm.trans ho)
  have honce := g.once P cf ops (masks ops) s
  obtain ⟨hlook, hlook2⟩ := look_again rfl honce
  have hmS : ∀ j, ((masks ops).getD r.i 0).testBit j = true → S j = true := fun j hj => dep_new st.closed ho hd hSi (mask_dep hj)
  have hclosed := st.closed.with_ ho hd
  have hev := st.evs hs hSi hmS (fun j v hv => look_is hv) hlook2
  have hput : ∀ {ρ' : Pos} {u : Value}, ρ.le ρ' → con ρ' r.v = some u → (a.put o'.dst u).defers = [] ∧ (a.put o'.dst u).tmps.size = s.nt ∧ ∀ t, con ρ' (slotT ops (A ++ r :: l) s (withI S r.i) t) = some ((a.put o'.dst u).tmps.getD t undef) := fun hle hu => st.slot' hs ho hlook hle hu
  have hnext := fun S => (Good.next (S := S) g).1
  have hlt : ∀ b x, getT s.h.next ops.size S (preH ops s) (A ++ r :: l) b = some x → ∃ gC, ρ b = some gC := fun b x hb => by
    obtain ⟨q, C, _, _, h1, _, _⟩ := st.mem.at_ b x hb
    exact ⟨_, h1⟩
  rcases gr.kind with ⟨k1, k2, k3⟩ | ⟨k1, ⟨c, pre, k2, ah⟩ | ⟨ox, k2, hloc⟩⟩
  · have hw := st.want hs hmS hlook2 k1
    rw [if_neg (by rw [hw]; decide)]
    obtain ⟨c1, c2⟩ := step_non (h := preH ops s) k3 hSi honce
    have hget : ∀ b x, getT s.h.next ops.size (withI S r.i) (preH ops s) (A ++ r :: l) b = some x → getT s.h.next ops.size S (preH ops s) (A ++ r :: l) b = some x := fun b x hb => by
      rcases getT_or hb with ⟨j, hj, rfl, hm⟩ | h1
      · rcases c2 j x hm with h2 | ⟨_, h2⟩
        · exact getT_more hj h2
        · cases h2
      · rw [c1] at h1
        exact getT_core h1 (fun j y hy => g.more_none P cf ops (masks ops) s hf j hy)
    obtain ⟨p1, p2, p3⟩ := hput (Pos.le_refl ρ) (u := undef) (by rw [k2]; rfl)
    refine ⟨ρ, hclosed, p1, p2, p3, ⟨fun b x hb => st.mem.at_ b x (hget b x hb), fun b c x y q C D hb hc => st.mem.inj b c x y q C D (hget b x hb) (hget c y hc)⟩, fun b hb => st.new b (by rw [c1] at hb; exact hb), fun j hj hSj => st.own j hj ?_, ?_⟩
    · by_cases e : j = r.i
      · rw [e]; exact hSi
      · rw [withI_ne S e] at hSj; exact hSj
    · exact ⟨st.ext.le, st.ext.os, st.ext.tape, st.ext.output, st.ext.size, st.ext.keep, fun b x k C hb => st.ext.own b x k C (hget b x hb), st.ext.only, fun b x hb => st.ext.ro b x (hget b x hb)⟩
  · have hw := st.want hs hmS hlook2 k1
    rw [if_pos hw]
    have hdoneS : ∀ j, doneT l j = true → S j = true := fun j hj => hmS j (ah.all j (gl.lt P cf ops (masks ops) s j hj) hj)
    have hsub : ∀ b x, pre.get b = some x → getT s.h.next ops.size S (preH ops s) (A ++ r :: l) b = some x := fun b x hb => getT_later hf st.closed hSi g (ah.sub S hdoneS b x hb)
    have hrel : Rel ρ pre w := st.mem.sub hsub
    have hAeff : ∀ x ∈ A, ∀ c, x.k = .eff c → S x.i = false := fun x hx c hk => by
      cases hS : S x.i
      · rfl
      · exfalso
        obtain ⟨l', o2, g2, h2⟩ := hlater x hx
        rcases g2.kind with ⟨_, _, q3⟩ | ⟨_, ⟨c', pre', q1, ah2⟩ | ⟨ox, q1, _⟩⟩
        · rw [hk] at q3; cases q3
        · have := ah2.all r.i hi (h2 r.i (by simp [doneT]))
          have := st.closed.dep (mask_dep this) hS
          rw [hSi] at this
          cases this
        · rw [hk] at q1; cases q1
    obtain ⟨c1, c2⟩ := step_eff (h := preH ops s) k2 hSi honce hAeff
    have hcore : (coreT S (preH ops s) (A ++ r :: l)).next = pre.next := by
      rw [(later_core rfl st.closed hSi g).1, ah.next, (core_congr (S := S) (S' := fun _ => true) (h := preH ops s) hdoneS).1]
    have hnew : New ρ pre := fun b hb => st.new b (by rw [hcore]; exact hb)
    have hpre : s.h.next + ops.size ≤ pre.next := by rw [← hcore]; exact hnext S
    refine do_sound ok hev hrel hnew ah.run fun ρ' u w' q1 q2 q3 q4 => ?_
    have hG : ∀ b x, getT s.h.next ops.size (withI S r.i) (preH ops s) (A ++ r :: l) b = some x → c.get b = some x ∨ (getT s.h.next ops.size S (preH ops s) (A ++ r :: l) b = some x ∧ pre.get b = none) := fun b x hb => by
      rcases getT_or hb with ⟨j, hj, rfl, hm⟩ | h1
      · obtain ⟨h2, h3⟩ := c2 j x hm
        exact .inr ⟨getT_more hj h2, ah.none1 j hj h3⟩
      · rw [c1] at h1
        exact .inl h1
    obtain ⟨p1, p2, p3⟩ := hput q4.le q1
    refine ⟨ρ', hclosed, p1, p2, p3, st.mem.part hsub q2 q4 hG, fun b hb => q3 b (by rw [c1] at hb; exact hb), fun j hj hSj => ?_, ExtG.part st.mem hsub st.ext (fun b hb => q4.only b (by omega)) q4 hG⟩
    have hne : j ≠ r.i := fun e => by rw [e, withI_self] at hSj; cases hSj
    rw [withI_ne S hne] at hSj
    rw [q4.only _ (by omega)]
    exact st.own j hj hSj
  · have hw := st.want hs hmS hlook2 k1
    rw [if_pos hw]
    obtain ⟨hl, lc⟩ := hloc S hmS
    have hsub : ∀ b x, hl.get b = some x → getT s.h.next ops.size S (preH ops s) (A ++ r :: l) b = some x := fun b x hb => getT_later hf st.closed hSi g (lc.sub b x hb)
    have hrel : Rel ρ hl w := st.mem.sub hsub
    have hn : ρ hl.next = none := by rw [lc.next]; exact st.own r.i hi hSi
    obtain ⟨c1, c2⟩ := step_non (h := preH ops s) k2 hSi honce
    obtain ⟨ρ', n, u, w', q1, q2, q3, q4, q5, q6⟩ := op_sound (P := P) hrel hn hev lc.run
    have hother : ∀ b, b ≠ s.h.next + r.i → ρ' b = ρ b := fun b hb => by
      rcases q6 with ⟨rfl, _⟩ | ⟨gC, rfl, _⟩
      · rfl
      · rw [Pos.put_ne _ _ (by rw [lc.next]; exact hb)]
    have hG : ∀ b x, getT s.h.next ops.size (withI S r.i) (preH ops s) (A ++ r :: l) b = some x → (hl.pushO ox).get b = some x ∨ (getT s.h.next ops.size S (preH ops s) (A ++ r :: l) b = some x ∧ hl.get b = none) := fun b x hb => by
      have old : getT s.h.next ops.size S (preH ops s) (A ++ r :: l) b = some x → (hl.pushO ox).get b = some x ∨ (getT s.h.next ops.size S (preH ops s) (A ++ r :: l) b = some x ∧ hl.get b = none) := fun h1 => by
        cases hh : hl.get b with
        | none => exact .inr ⟨h1, rfl⟩
        | some y =>
          have h2 := hsub b y hh
          rw [h1] at h2
          simp at h2
          subst h2
          left
          cases ox with
          | none => exact hh
          | some z =>
            obtain ⟨gC, hgC⟩ := hlt b x h1
            have hne : hl.next ≠ b := fun e => by rw [← e, hn] at hgC; cases hgC
            have := Tq.get_set deep hl.bl hl.next (some z) b hne
            show (hl.push z).get b = some x
            unfold H.push H.get
            rw [this]
            exact hh
      rcases getT_or hb with ⟨j, hj, rfl, hm⟩ | h1
      · rcases c2 j x hm with h2 | ⟨rfl, rfl⟩
        · exact old (getT_more hj h2)
        · left
          show (hl.push x).get _ = some x
          unfold H.push H.get
          rw [lc.next]
          exact Tq.get_set_at deep _ _ _ (Nat.lt_of_lt_of_le (Nat.succ_lt_succ (show s.h.next + r.i < 549755813888 by omega)) (by decide))
      · rw [c1] at h1
        exact old (getT_core h1 (fun j y hy => g.more_none P cf ops (masks ops) s hf j hy))
    obtain ⟨p1, p2, p3⟩ := hput q5.le q3
    have hStand : Stand P ops s (A ++ r :: l) ρ0 w0 (withI S r.i) (a.put o'.dst u) w' ρ' := by
      refine ⟨hclosed, p1, p2, p3, st.mem.part hsub q4 q5 hG, fun b hb => ?_, fun j hj hSj => ?_, ExtG.part st.mem hsub st.ext (fun b hb => hother b (by omega)) q5 hG⟩
      · rw [c1] at hb
        have := hnext S
        rw [hother b (by omega)]
        exact st.new b hb
      · have hne : j ≠ r.i := fun e => by rw [e, withI_self] at hSj; cases hSj
        rw [withI_ne S hne] at hSj
        rw [hother _ (by omega)]
        exact st.own j hj hSj
    unfold Oper.wp
    rw [q1]
    rcases q2 with rfl | ⟨rfl, rfl⟩
    · exact ⟨ρ', hStand⟩
    · exact ⟨ρ', hStand⟩
theorem open_sound (ok : Known.Ok P cf) (hm : P.follows .mixedOrders = true) : Drawn.Ok P (openRun P cf) := by
  intro ops s s' e id ρ0 a0 w0 Q r hQ
  unfold openRun at e
  split at e
  · rename_i hed hs hb
    have hbig : s.h.next + ops.size < 549755813888 := blt_true hb
    split at e
    · rename_i T dm hT
      split at e <;> simp only [Option.some.injEq, reduceCtorEq] at e
      rename_i hcov
      subst e
      have hf : ∀ j, s.h.get (s.h.next + j) = none := fun j => by
        cases hg : s.h.get (s.h.next + j) with
        | none => rfl
        | some x =>
          obtain ⟨q, C, _, _, h1, _, _⟩ := r.mem.at_ _ x hg
          rw [r.new _ (by omega)] at h1
          cases h1
      obtain ⟨g, hdm⟩ := pass_good P cf ops (masks ops) s hf hbig _ [] T .nil 0 dm trivial (fun j => by simp [doneT]) (fun j => Tq.get_nil deep j) hT
      have hall : ∀ j, j < ops.size → doneT T j = true := fun j hj => by
        rw [← hdm j]
        exact maskSub_out hcov j (by rw [Nat.testBit_two_pow_sub_one]; simpa using hj)
      refine wp_region_any hm ?_
      have h0 : ∀ {T : List ToldOps}, coreT (fun _ => false) (preH ops s) T = preH ops s ∧ ∀ j, moreT (fun _ => false) j T = none := by
        intro T
        induction T with
        | nil => exact ⟨rfl, fun _ => rfl⟩
        | cons x T ih =>
          refine ⟨?_, fun j => ?_⟩
          · simp only [coreT]; split <;> exact ih.1
          · simp only [moreT, Bool.false_and]; split <;> exact ih.2 j
      have hget0 : ∀ b x, getT s.h.next ops.size (fun _ => false) (preH ops s) T b = some x → s.h.get b = some x := fun b x hb => by
        rcases getT_or hb with ⟨j, _, _, h1⟩ | h1
        · rw [h0.2] at h1; cases h1
        · rw [h0.1] at h1; exact h1
      have hdr : ({ w0 with drawn := w0.drawn + 1 } : World).heap = w0.heap := rfl
      refine wpAny_inv (I := fun S a w => ∃ ρ, Stand P ops s T ρ0 w0 S a w ρ) hed (fun S a w i o hI ho hSi hd => ?_) (fun S a w hI hS => ?_) ops.size (Array.replicate ops.size false) (fun _ => false) a0 _ (fun j => ?_) (by simp) ?_ (by simp)
      · obtain ⟨ρ, st⟩ := hI
        exact st.step ok hs hed hf hbig g hall ho hSi hd
      · obtain ⟨ρ, st⟩ := hI
        have hdone : ∀ j, doneT T j = true → S j = true := fun j hj => hS j (g.lt P cf ops (masks ops) s j hj)
        have htop := top_all (h1 := preH ops s) (S := S) T [] hdone
        have hsub : ∀ b x, (addX s.h.next (topT (preH ops s) (fun _ => true) (fun _ => true) [] T).2 (topT (preH ops s) (fun _ => true) (fun _ => true) [] T).1).get b = some x → getT s.h.next ops.size S (preH ops s) T b = some x := fun b x hx => by
          rw [htop] at hx
          exact g.sub P cf ops (masks ops) s hf (fun _ h => h) hx
        have hnx : (addX s.h.next (topT (preH ops s) (fun _ => true) (fun _ => true) [] T).2 (topT (preH ops s) (fun _ => true) (fun _ => true) [] T).1).next = (coreT S (preH ops s) T).next := by
          rw [addX_next, htop, top_core]
        have hle := (Good.next (S := S) g).1
        refine hQ ρ a w ⟨st.defers, st.size, fun t => ?_, st.mem.sub hsub, fun b hb => st.new b (by rw [← hnx]; exact hb)⟩
          ⟨st.ext.le, by show s.h.next ≤ _; rw [hnx]; omega, st.ext.os, st.ext.tape, st.ext.output, st.ext.size, st.ext.keep, fun b x k C hx => st.ext.own b x k C (hsub b x hx), st.ext.only, fun b x hx => st.ext.ro b x (hsub b x hx)⟩
        have h1 := st.slot t
        have h2 := all_get (nt := s.nt) (ops := ops) (T := T) (tm := s.tm) hs (fun j hj => g.lt P cf ops (masks ops) s j hj) (g.once P cf ops (masks ops) s) t
        have h3 : (⟨allIn ops T s.tm, s.nt, addX s.h.next (topT (preH ops s) (fun _ => true) (fun _ => true) [] T).2 (topT (preH ops s) (fun _ => true) (fun _ => true) [] T).1⟩ : St).tmp t = slotT ops T s S t := by
          unfold St.tmp slotT
          simp only
          rw [h2]
          cases hw : writerOf ops.toList 0 t with
          | none => rfl
          | some j =>
            obtain ⟨o', _, k2, _⟩ := writer_out _ _ _ _ hw
            have hj : j < ops.size := by
              rw [Nat.sub_zero, Array.getElem?_toList] at k2
              exact (Array.getElem?_eq_some_iff.1 k2).1
            simp only [hall j hj, hS j hj]
            all_goals (cases lookT T j <;> rfl)
        rw [h3]
        exact h1
      · simp only [isListed]
        rcases Nat.lt_or_ge j ops.size with k | k <;> simp [k]
      · refine ⟨ρ0, ⟨(fun i o _ h => by cases h), r.defers, r.size, fun t => ?_, ⟨fun b x hb => r.mem.at_ b x (hget0 b x hb), fun b c x y q C D hb hc => r.mem.inj b c x y q C D (hget0 b x hb) (hget0 c y hc)⟩, fun b hb => ?_, fun j hj _ => r.new _ (by omega), ?_⟩⟩
        · have h1 := r.slot t
          have : slotT ops T s (fun _ => false) t = s.tmp t := by
            unfold slotT
            split <;> rfl
          rw [this]
          exact h1
        · rw [h0.1] at hb
          have hb' : s.h.next + ops.size ≤ b := hb
          exact r.new b (by omega)
        · exact ⟨Pos.le_refl _, rfl, rfl, rfl, Nat.le_refl _, fun _ _ _ => rfl, fun b x k C hb hr hp _ => ⟨b, x, C, hget0 b x hb, hr, hp⟩, fun _ _ => rfl, fun b x hb _ => hget0 b x hb⟩
    · simp at e
  · simp at e
end
end Go.Proofs.Ytpdfalgjmeagjaa

/-
  The small machine's run of a function with all that it calls; a call without arguments that tells true.
-/
namespace Go.Proofs.Ytpdfalgjmeagjaa
open Go.RowKit
set_option linter.unusedVariables false

/-- Nothing is known of calls ahead. -/
def noneKnown : Known := fun _ _ _ => none
/-- By what is known, else by the body; so many calls deep, so many steps within a body. -/
def runF (P : Program) (orc : Known) (fuel : Nat) : Nat → Known
  | 0 => orc
  | n + 1 => fun f args h => match orc f args h with
    | some r => some r
    | none => enterA P (fun c s => ex P (runF P orc fuel n) (openRun P (runF P orc fuel n)) fuel c s) f args h
section
variable {P : Program} {orc : Known}
theorem noneKnown_ok : Known.Ok P noneKnown := fun f args h r h' e => by cases e
theorem runF_ok (hm : P.follows .mixedOrders = true) (ok : Known.Ok P orc) (fuel : Nat) : ∀ n, Known.Ok P (runF P orc fuel n)
  | 0 => ok
  | n + 1 => by
    have ih := runF_ok hm ok fuel n
    intro f args h r h' e
    simp only [runF] at e
    split at e
    · rename_i q hq
      simp only [Option.some.injEq] at e
      subst e
      exact ok f args h r h' hq
    · exact enter_sound (fun c s x s' hx => (ex_sound ih (open_sound ih hm) fuel).1 c s x s' hx) f args h r h' e
def noH : H := ⟨.nil, 0⟩
theorem noH_get {b : Nat} {x : Blk} (h : noH.get b = some x) : False := by
  rw [show noH.get b = none from get_nilH 0 b] at h
  cases h
theorem noH_rel (w : World) : Rel (fun _ => none) noH w := ⟨fun _ _ hb => (noH_get hb).elim, fun _ _ _ _ _ _ _ hb => (noH_get hb).elim⟩
end
end Go.Proofs.Ytpdfalgjmeagjaa
