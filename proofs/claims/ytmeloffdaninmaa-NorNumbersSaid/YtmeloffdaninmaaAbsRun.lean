/-
  The small machine's run of code and of whole functions, and that the world's own run comes to the same.
-/
import Derived.Test.YtmeloffdaninmaaAbsCode
namespace Go.Proofs.Ytmeloffdaninmaa
open Go.RowKit
set_option linter.unusedVariables false

/-- What is known of statements whose order is open. -/
abbrev Drawn := Array Oper → St → Option St
def Drawn.Ok (P : Program) (dr : Drawn) : Prop := ∀ ops s s', dr ops s = some s' → ∀ (id : Nat), RunTo P (.region id ops true) s .go s'

/-- An exit out of a block. -/
def outOf (id : Nat) : Option (Ex × St) → Option (Ex × St)
  | some (.exit id', s) => match Nat.beq id' id with
    | true => some (.go, s)
    | false => some (.exit id', s)
  | r => r
def ex (P : Program) (cf : Known) (dr : Drawn) : Nat → Code → St → Option (Ex × St)
  | 0, _, _ => none
  | n + 1, c, s => match c with
    | .skip => some (.go, s)
    | .label _ => some (.go, s)
    | .region _ ops false => match runList P cf ops ops.toList s with
      | some s' => some (.go, s')
      | none => none
    | .region _ ops true => match dr ops s with
      | some s' => some (.go, s')
      | none => none
    | .seq x y => match ex P cf dr n x s with
      | some (.go, s') => ex P cf dr n y s'
      | r => r
    | .cond c x y => match evA s.tm c with
      | some (.bool true) => ex P cf dr n x s
      | some (.bool false) => ex P cf dr n y s
      | _ => none
    | .block id b => outOf id (ex P cf dr n b s)
    | .loop b => match ex P cf dr n b s with
      | some (.go, s') => ex P cf dr n (.loop b) s'
      | r => r
    | .exit id => some (.exit id, s)
    | .ret => some (.ret, s)
    | _ => none

section
variable {P : Program} {cf : Known} {dr : Drawn}

theorem wp_go {c : Code} {s s' : St} {x : Ex} (h : RunTo P c s x s') {ρ : Pos} {a : Act} {w : World} {Q Q' : Exit → Act → World → Prop} (r : StRel ρ s a w)
    (hQ : ∀ ρ' a' w', StRel ρ' s' a' w' → Ext ρ s.h w ρ' s'.h w' → Q x.to a' w') : c.wp P Q a w := h ρ a w Q r hQ
theorem ex_sound (ok : Known.Ok P cf) (dk : Drawn.Ok P dr) : ∀ (n : Nat), (∀ (c : Code) (s : St) (x : Ex) (s' : St), ex P cf dr n c s = some (x, s') → RunTo P c s x s') ∧
    (∀ (b : Code) (s : St) (x : Ex) (s' : St), ex P cf dr n (.loop b) s = some (x, s') → ∃ k, ∀ (ρ : Pos) (a : Act) (w : World) (Q : Exit → Act → World → Prop), StRel ρ s a w → (∀ ρ' a' w', StRel ρ' s' a' w' → Ext ρ s.h w ρ' s'.h w' → Q x.to a' w') → Code.rounds P b Q k a w)
  | 0 => ⟨fun c s x s' e => by simp [ex] at e, fun b s x s' e => by simp [ex] at e⟩
  | n + 1 => by
    obtain ⟨ih, ihl⟩ := ex_sound ok dk n
    have loops : ∀ (b : Code) (s : St) (x : Ex) (s' : St), ex P cf dr (n + 1) (.loop b) s = some (x, s') → ∃ k, ∀ (ρ : Pos) (a : Act) (w : World) (Q : Exit → Act → World → Prop), StRel ρ s a w → (∀ ρ' a' w', StRel ρ' s' a' w' → Ext ρ s.h w ρ' s'.h w' → Q x.to a' w') → Code.rounds P b Q k a w := by
      intro b s x s' e
      simp only [ex] at e
      split at e
      · rename_i s1 h1
        obtain ⟨k, hk⟩ := ihl b s1 x s' e
        refine ⟨k + 1, fun ρ a w Q r hQ => ?_⟩
        rw [rounds_succ]
        refine ih b s .go s1 h1 ρ a w _ r fun ρ1 a1 w1 r1 x1 => ?_
        exact hk ρ1 a1 w1 Q r1 fun ρ2 a2 w2 r2 x2 => hQ ρ2 a2 w2 r2 (x1.trans x2)
      · rename_i hne
        have hx : x ≠ .go := fun hx => hne s' (by rw [e, hx])
        refine ⟨1, fun ρ a w Q r hQ => ?_⟩
        rw [rounds_succ]
        refine ih b s x s' e ρ a w _ r fun ρ1 a1 w1 r1 x1 => ?_
        have := hQ ρ1 a1 w1 r1 x1
        cases x <;> first | exact absurd rfl hx | exact this
    refine ⟨fun c s x s' e => ?_, loops⟩
    intro ρ a w Q r hQ
    cases c
    case skip =>
      simp [ex] at e
      obtain ⟨rfl, rfl⟩ := e
      exact wp_skip (hQ ρ a w r (Ext.refl _ _ _))
    case label l =>
      simp [ex] at e
      obtain ⟨rfl, rfl⟩ := e
      exact wp_label (hQ ρ a w r (Ext.refl _ _ _))
    case region id ops draw =>
      cases draw
      · simp only [ex] at e
        split at e <;> simp only [Option.some.injEq, reduceCtorEq, Prod.mk.injEq] at e
        rename_i s1 h1
        obtain ⟨rfl, rfl⟩ := e
        exact wp_region_list (list_sound ok _ _ _ ρ a w h1 r hQ)
      · simp only [ex] at e
        split at e <;> simp only [Option.some.injEq, reduceCtorEq, Prod.mk.injEq] at e
        rename_i s1 h1
        obtain ⟨rfl, rfl⟩ := e
        exact dk ops s s1 h1 id ρ a w Q r hQ
    case seq c1 c2 =>
      simp only [ex] at e
      refine wp_seq ?_
      split at e
      · rename_i s1 h1
        refine ih c1 s .go s1 h1 ρ a w _ r fun ρ1 a1 w1 r1 x1 => ?_
        exact ih c2 s1 x s' e ρ1 a1 w1 Q r1 fun ρ2 a2 w2 r2 x2 => hQ ρ2 a2 w2 r2 (x1.trans x2)
      · rename_i hne
        have hx : x ≠ .go := fun hx => hne s' (by rw [e, hx])
        refine ih c1 s x s' e ρ a w _ r fun ρ1 a1 w1 r1 x1 => ?_
        have := hQ ρ1 a1 w1 r1 x1
        cases x <;> first | exact absurd rfl hx | exact this
    case cond c0 c1 c2 =>
      simp only [ex] at e
      split at e
      · rename_i hc
        have := r.evs _ _ hc
        simp [con] at this
        exact wp_cond_true this.symm (ih c1 s x s' e ρ a w Q r hQ)
      · rename_i hc
        have := r.evs _ _ hc
        simp [con] at this
        exact wp_cond_false this.symm (ih c2 s x s' e ρ a w Q r hQ)
      · simp at e
    case block id b =>
      simp only [ex] at e
      refine wp_block ?_
      unfold outOf at e
      split at e
      · rename_i id' s1 h1
        refine ih b s (.exit id') s1 h1 ρ a w _ r fun ρ1 a1 w1 r1 x1 => ?_
        split at e
        · rename_i hid
          simp at e
          obtain ⟨rfl, rfl⟩ := e
          have hid : id' = id := Nat.eq_of_beq_eq_true hid
          simp only [Ex.to, Exit.inBlock, hid, if_true]
          exact hQ ρ1 a1 w1 r1 x1
        · rename_i hid
          simp at e
          obtain ⟨rfl, rfl⟩ := e
          have hid : ¬ id' = id := fun q => by rw [q, Nat.beq_refl] at hid; cases hid
          simp only [Ex.to, Exit.inBlock, hid, if_false]
          exact hQ ρ1 a1 w1 r1 x1
      · rename_i hne
        refine ih b s x s' e ρ a w _ r fun ρ1 a1 w1 r1 x1 => ?_
        have := hQ ρ1 a1 w1 r1 x1
        cases x
        · exact this
        · rename_i id'
          exact absurd e (hne id' s')
        · exact this
    case loop b =>
      obtain ⟨k, hk⟩ := loops b s x s' e
      exact wp_loop_rounds k (hk ρ a w Q r hQ)
    case exit id =>
      simp [ex] at e
      obtain ⟨rfl, rfl⟩ := e
      exact wp_exit (hQ ρ a w r (Ext.refl _ _ _))
    case ret =>
      simp [ex] at e
      obtain ⟨rfl, rfl⟩ := e
      exact wp_ret (hQ ρ a w r (Ext.refl _ _ _))
    all_goals simp [ex] at e
end

/-! ### Whole functions -/
def argsIn : Nat → List AV → Tq AV → Tq AV
  | _, [], t => t
  | k, v :: l, t => argsIn (k + 1) l (t.set deep k (some v))
def resL (P : Program) (s : St) : List ResultVar → Option (List AV)
  | [] => some []
  | .tmp t :: l => match resL P s l with
    | some vs => some (s.tmp t :: vs)
    | none => none
  | .cell a t :: l => match s.tmp a with
    | .pointer (some p) => match loadA P s.h t (.pointer (some p)), resL P s l with
      | some v, some vs => some (v :: vs)
      | _, _ => none
    | _ => none
def resA (P : Program) (s : St) (l : List ResultVar) : Option AV := match resL P s l with
  | some [v] => some v
  | some vs => some (.tuple vs)
  | none => none
def bodyA (P : Program) (s : St) (l : List ResultVar) : Option (Ex × St) → Option (AV × H)
  | some (.go, s') => match resA P s' l with
    | some r => some (r, s'.h)
    | none => none
  | some (.ret, s') => match resA P s' l with
    | some r => some (r, s'.h)
    | none => none
  | _ => none
/-- A function's run: by what is known of it, else by its body. -/
def enterA (P : Program) (run : Code → St → Option (Ex × St)) : Known := fun f args h => match P.funcs[f]? with
  | some fn => match fn.body with
    | some c => match Nat.ble args.length fn.ntmps, Nat.ble fn.ntmps 100000 with
      | true, true => bodyA P ⟨argsIn 0 args .nil, fn.ntmps, h⟩ fn.results.toList (run c ⟨argsIn 0 args .nil, fn.ntmps, h⟩)
      | _, _ => none
    | none => none
  | none => none
section
variable {P : Program} {ρ : Pos} {s : St} {a : Act} {w : World}
theorem argsIn_get : ∀ (l : List AV) (k : Nat) (t : Tq AV) (j : Nat), k + l.length < 549755813888 → (argsIn k l t).get deep j = if k ≤ j ∧ j < k + l.length then l[j - k]? else t.get deep j
  | [], k, t, j, h => by simp only [argsIn, List.length_nil]; rw [if_neg (by omega)]
  | v :: l, k, t, j, h => by
    simp only [List.length_cons] at h ⊢
    rw [argsIn, argsIn_get l (k + 1) _ j (by omega)]
    by_cases h1 : k + 1 ≤ j ∧ j < k + 1 + l.length
    · rw [if_pos h1, if_pos (by omega)]
      rw [show j - k = (j - (k + 1)) + 1 from by omega, List.getElem?_cons_succ]
    · rw [if_neg h1]
      by_cases h2 : j = k
      · subst h2
        rw [if_pos (by omega), Tq.get_set_at deep t j (some v) (by show j + 1 < 1099511627776; omega)]
        simp
      · rw [if_neg (by omega), Tq.get_set deep t k (some v) j (Ne.symm h2)]
theorem enter_rel {args : List AV} {vs : List Value} {nt : Nat} {h : H} (hc : conL ρ args = some vs) (hm : Rel ρ h w) (hn : New ρ h) (hle : args.length ≤ nt) (hb : nt ≤ 100000) :
    StRel ρ ⟨argsIn 0 args .nil, nt, h⟩ { tmps := vs.toArray ++ Array.replicate (nt - vs.toArray.size) undef, defers := [] } w := by
  have hl := conL_length hc
  refine ⟨rfl, by simp [hl]; omega, fun t => ?_, hm, hn⟩
  unfold St.tmp
  simp only
  rw [argsIn_get args 0 .nil t (by omega)]
  by_cases h1 : t < args.length
  · rw [if_pos (by omega), Nat.sub_zero, List.getElem?_eq_getElem h1]
    obtain ⟨u, h2, h3⟩ := conL_get hc t _ (List.getElem?_eq_getElem h1)
    simp only [h2]
    have h4 : t < vs.length := by omega
    have h5 : (vs.toArray ++ Array.replicate (nt - vs.toArray.size) undef)[t]? = some u := by
      rw [Array.getElem?_append_left (by simpa using h4)]
      simpa using h3
    rw [Array.getD_eq_getD_getElem?, h5]
    rfl
  · rw [if_neg (by omega), Tq.get_nil]
    simp only
    have h4 : vs.length ≤ t := by omega
    have h5 : (vs.toArray ++ Array.replicate (nt - vs.toArray.size) undef)[t]?.getD undef = undef := by
      rw [Array.getElem?_append_right (by simpa using h4), Array.getElem?_replicate]
      split <;> rfl
    rw [Array.getD_eq_getD_getElem?, h5]
    rfl
def resF (tmps : Array Value) : ResultVar → Sem Value
  | .tmp t => pure (tmps.getD t undef)
  | .cell p t => do loadVar t (← asAddr (tmps.getD p undef))
theorem resL_sound (r : StRel ρ s a w) : ∀ (l : List ResultVar) (vs : List AV), resL P s l = some vs → ∃ us, (l.mapM (resF a.tmps)).run P w = .ok us w ∧ conL ρ vs = some us
  | [], vs, e => by simp [resL] at e; subst e; exact ⟨[], rfl, rfl⟩
  | .tmp t :: l, vs, e => by
    simp only [resL] at e
    split at e <;> simp at e
    rename_i ws hw
    subst e
    obtain ⟨us, h1, h2⟩ := resL_sound r l ws hw
    exact ⟨_, by simp only [List.mapM_cons, resF, Sem.run_bind, Sem.run_pure, Result.andThen_ok, h1], conL_mk (r.slot t) h2⟩
  | .cell p t :: l, vs, e => by
    simp only [resL] at e
    split at e
    · rename_i q hq
      split at e <;> simp at e
      rename_i v ws hv hw
      subst e
      obtain ⟨us, h1, h2⟩ := resL_sound r l ws hw
      obtain ⟨g, C, u, h3, h4, h5⟩ := loadVar_sound (P := P) r.mem hv
      have h6 := r.slot p
      rw [hq] at h6
      obtain ⟨g', C', h7, h8⟩ := con_ptr h6
      rw [h3] at h7
      simp at h7
      obtain ⟨rfl, rfl⟩ := h7
      have h9 : (asAddr (a.tmps.getD p undef)).run P w = .ok ⟨g, q.2, none⟩ w := by rw [h8]; rfl
      exact ⟨_, by simp only [List.mapM_cons, resF, Sem.run_bind, Sem.run_pure, Result.andThen_ok, h9, h5, h1], conL_mk h4 h2⟩
    · simp at e
theorem res_sound (r : StRel ρ s a w) {fn : Func} {v : AV} (e : resA P s fn.results.toList = some v) : ∃ u, (results fn a.tmps).run P w = .ok u w ∧ con ρ v = some u := by
  unfold resA at e
  have key : ∀ vs, resL P s fn.results.toList = some vs → ∃ us, conL ρ vs = some us ∧ (results fn a.tmps).run P w = .ok (if h : us.toArray.size = 1 then us.toArray[0] else .tuple us.toArray) w := by
    intro vs hv
    obtain ⟨us, h1, h2⟩ := resL_sound r _ _ hv
    refine ⟨us, h2, ?_⟩
    show (do let vs ← fn.results.mapM (resF a.tmps); pure (if h : vs.size = 1 then vs[0] else .tuple vs) : Sem Value).run P w = _
    rw [Array.mapM_eq_mapM_toList]
    simp only [Sem.run_bind, Sem.run_map, h1, Result.andThen_ok, Sem.run_pure]
  split at e
  · rename_i v' hv
    simp at e
    subst e
    obtain ⟨us, h1, h2⟩ := key _ hv
    obtain ⟨u, us', h3, h4, rfl⟩ := conL_cons h1
    simp [conL] at h4
    subst h4
    exact ⟨u, by simpa using h2, h3⟩
  · rename_i vs hne hv
    simp at e
    subst e
    obtain ⟨us, h1, h2⟩ := key _ hv
    have hl := conL_length h1
    have h3 : ¬ us.toArray.size = 1 := by
      rw [List.size_toArray, hl]
      intro h4
      match vs, h4 with
      | [v], _ => exact hne v rfl
    rw [dif_neg h3] at h2
    exact ⟨_, h2, by simp [con, h1]⟩
  · simp at e
theorem enter_sound {run : Code → St → Option (Ex × St)} (hr : ∀ c s x s', run c s = some (x, s') → RunTo P c s x s') : Known.Ok P (enterA P run) := by
  intro f args h r h' e ρ w vs hc hm hn
  unfold enterA at e
  split at e
  · rename_i fn hf
    split at e
    · rename_i c hb
      split at e
      · rename_i h1 h2
        have h1 : args.length ≤ fn.ntmps := Nat.le_of_ble_eq_true h1
        have h2 : fn.ntmps ≤ 100000 := Nat.le_of_ble_eq_true h2
        have r0 := enter_rel (nt := fn.ntmps) hc hm hn h1 h2
        refine calls_of_wp hf hb ?_
        unfold bodyA at e
        split at e
        · rename_i s' hrun
          split at e <;> simp at e
          rename_i v hv
          obtain ⟨rfl, rfl⟩ := e
          refine hr _ _ _ _ hrun ρ _ w _ r0 fun ρ' a' w' r' x' => ?_
          obtain ⟨u, h3, h4⟩ := res_sound r' hv
          exact ⟨r'.defers, u, h3, ρ', u, h4, rfl, r'.mem, r'.new, x'⟩
        · rename_i s' hrun
          split at e <;> simp at e
          rename_i v hv
          obtain ⟨rfl, rfl⟩ := e
          refine hr _ _ _ _ hrun ρ _ w _ r0 fun ρ' a' w' r' x' => ?_
          obtain ⟨u, h3, h4⟩ := res_sound r' hv
          exact ⟨r'.defers, u, h3, ρ', u, h4, rfl, r'.mem, r'.new, x'⟩
        · simp at e
      · simp at e
    · simp at e
  · simp at e
end
end Go.Proofs.Ytmeloffdaninmaa
