/-
  A statement whose order is open: the small machine's one run of it stands for all orders.
-/
import Derived.Test.YtmeloffdaninmaaAbsOpen
namespace Go.Proofs.Ytmeloffdaninmaa
open Go.RowKit
set_option linter.unusedVariables false

section
variable {P : Program} {cf : Known} {ops : Array Oper} {s : St} {T : List ToldOps} {ρ ρ0 : Pos} {w w0 : World} {a : Act} {S : Nat → Bool}

/-- Where the run stands, of what is listed. -/
structure Stand (P : Program) (ops : Array Oper) (s : St) (T : List ToldOps) (ρ0 : Pos) (w0 : World) (S : Nat → Bool) (a : Act) (w : World) (ρ : Pos) : Prop where
  closed : Closed ops S
  defers : a.defers = []
  size : a.tmps.size = s.nt
  slot : ∀ t, con ρ (slotT ops T s S t) = some (a.tmps.getD t undef)
  mem : RelG ρ (getT s.h.next ops.size S (preH ops s) T) w
  new : ∀ b, (coreT S (preH ops s) T).next ≤ b → ρ b = none
  own : ∀ j, j < ops.size → S j = false → ρ (s.h.next + j) = none
  ext : ExtG ρ0 s.h w0 ρ (getT s.h.next ops.size S (preH ops s) T) w

theorem Stand.evs (st : Stand P ops s T ρ0 w0 S a w ρ) (hs : slotsB ops s.nt = true) {l : List ToldOps} {mask : Nat} {i : Nat} (hSi : S i = false) (hm : ∀ j, mask.testBit j = true → S j = true) (hl : ∀ j v, lookT l j = some v → doneT l j = true) (hT : ∀ j, doneT l j = true → lookT T j = lookT l j) : Evs ρ (evT ops (masks ops) l i mask s) a.eval := by
  intro x v e
  cases x with
  | tmp t =>
    have h1 := st.slot t
    unfold slotT at h1
    simp only [evT] at e
    split at e
    · rename_i j hj
      split at e
      · rename_i hb
        simp only [hj, hm j hb, hT j (hl j v e), e] at h1
        exact h1
      · split at e
        · rename_i hb2
          have hSj : S j = false := by
            cases hq : S j
            · rfl
            · have := st.closed.dep (mask_dep hb2) hq
              rw [hSi] at this
              cases this
          simp only [hj, hSj] at h1
          simp at e
          subst e
          exact h1
        · cases e
    · rename_i hj
      simp only [hj] at h1
      simp at e
      subst e
      exact h1
  | const c => exact avOf_con e ρ
  | global g => simp [evT] at e
  | func f =>
    simp [evT] at e
    subst e
    rfl
theorem look_is : ∀ {l : List ToldOps} {j : Nat} {v : AV}, lookT l j = some v → doneT l j = true
  | r :: l, j, v, h => by
    simp only [lookT] at h
    simp only [doneT]
    cases hb : Nat.beq r.i j <;> rw [hb] at h
    · exact look_is h
theorem Stand.want (st : Stand P ops s T ρ0 w0 S a w ρ) (hs : slotsB ops s.nt = true) {l : List ToldOps} {mask : Nat} (hm : ∀ j, mask.testBit j = true → S j = true) (hT : ∀ j, doneT l j = true → lookT T j = lookT l j) {o : Oper} {b : Bool} (e : wantT ops l mask o = some b) : Region.wanted o (yielded ops a.tmps) = b := by
  unfold wantT at e
  unfold Region.wanted
  split at e
  · rename_i hg
    simp at e
    rw [hg]
    exact e.symm
  · rename_i j c hg
    rw [hg]
    simp only
    split at e
    · rename_i oj hb hoj
      have key : ∀ (t : Tmp) (v : AV), oj.dst = some t → lookT l j = some v → con ρ v = some (a.tmps.getD t undef) := fun t v ht hv => by
        obtain ⟨w1, _, _⟩ := slots_out hs hoj ht
        have h1 := st.slot t
        unfold slotT at h1
        simp only [w1, hm j hb, hT j (look_is hv), hv] at h1
        exact h1
      split at e
      · rename_i t q ht hv
        simp only [Option.some.injEq] at e
        have h1 := key t _ ht hv
        simp only [con, Option.some.injEq] at h1
        have h2 : yielded ops a.tmps j = some q := by
          unfold yielded
          simp only [hoj, Option.bind_some, ht]
          cases hq : a.tmps[t]? with
          | none => simp [hq, undef] at h1
          | some u =>
            simp [hq] at h1
            rw [← h1]
        rw [h2, ← e]
        cases q <;> cases c <;> rfl
      · rename_i t v hne ht hv
        simp only [Option.some.injEq] at e
        have h1 := key t _ ht hv
        have h2 : yielded ops a.tmps j = none := by
          unfold yielded
          simp only [hoj, Option.bind_some, ht]
          split
          · rename_i q hq
            simp [hq] at h1
            exact absurd (con_bool h1) (hne q)
          · rfl
        rw [h2, ← e]
        rfl
      · cases e
    · cases e
/-- One more is listed. -/
theorem Stand.slot' (st : Stand P ops s T ρ0 w0 S a w ρ) (hs : slotsB ops s.nt = true) {i : Nat} {o : Oper} (ho : ops[i]? = some o) {v : AV} (hv : lookT T i = some v) {ρ' : Pos} (l : ρ.le ρ') {u : Value} (hu : con ρ' v = some u) :
    (a.put o.dst u).defers = [] ∧ (a.put o.dst u).tmps.size = s.nt ∧ ∀ t, con ρ' (slotT ops T s (withI S i) t) = some ((a.put o.dst u).tmps.getD t undef) := by
  cases hd : o.dst with
  | none =>
    refine ⟨st.defers, st.size, fun t => ?_⟩
    have h1 := con_mono l _ _ (st.slot t)
    have : slotT ops T s (withI S i) t = slotT ops T s S t := by
      unfold slotT
      cases hw : writerOf ops.toList 0 t with
      | none => rfl
      | some j =>
        have hne : j ≠ i := fun e => by
          obtain ⟨o', _, h2, h3⟩ := writer_out _ _ _ _ hw
          rw [e, Nat.sub_zero, Array.getElem?_toList, ho] at h2
          simp at h2
          rw [← h2, hd] at h3
          cases h3
        simp only [withI_ne S hne]
    rw [this]
    exact h1
  | some d =>
    obtain ⟨w1, w2, w3⟩ := slots_out hs ho hd
    refine ⟨st.defers, by simpa [Act.put] using st.size, fun t => ?_⟩
    by_cases e : t = d
    · subst e
      have : slotT ops T s (withI S i) t = v := by
        unfold slotT
        simp only [w1, withI_self, hv]
      rw [this, hu]
      have hsz := st.size
      simp [Act.put, hsz, w2]
    · have h1 := con_mono l _ _ (st.slot t)
      have : slotT ops T s (withI S i) t = slotT ops T s S t := by
        unfold slotT
        cases hw : writerOf ops.toList 0 t with
        | none => rfl
        | some j =>
          have hne : j ≠ i := fun e1 => by
            obtain ⟨o', _, h2, h3⟩ := writer_out _ _ _ _ hw
            rw [e1, Nat.sub_zero, Array.getElem?_toList, ho] at h2
            simp at h2
            rw [← h2, hd] at h3
            simp at h3
            exact e h3.symm
          simp only [withI_ne S hne]
      rw [this, h1]
      simp [Act.put, Array.getElem?_setIfInBounds_ne (Ne.symm e)]
theorem getT_core {base m : Nat} {h : H} {b : Nat} {x : Blk} (hc : (coreT S h T).get b = some x) (hn : ∀ j y, moreT S j T = some y → (coreT S h T).get (base + j) = none) : getT base m S h T b = some x := by
  unfold getT
  split
  · rename_i hr
    cases hm : moreT S (b - base) T with
    | none => exact hc
    | some y =>
      have := hn _ _ hm
      rw [show base + (b - base) = b from by omega, hc] at this
      cases this
  · exact hc
theorem getT_more {base m : Nat} {h : H} {j : Nat} {x : Blk} (hj : j < m) (hm : moreT S j T = some x) : getT base m S h T (base + j) = some x := by
  unfold getT
  rw [if_pos (by omega), show base + j - base = j from by omega, hm]
theorem getT_or {base m : Nat} {h : H} {b : Nat} {x : Blk} (hg : getT base m S h T b = some x) : (∃ j, j < m ∧ b = base + j ∧ moreT S j T = some x) ∨ (coreT S h T).get b = some x := by
  unfold getT at hg
  split at hg
  · rename_i hr
    cases hm : moreT S (b - base) T with
    | none => rw [hm] at hg; exact .inr hg
    | some y =>
      rw [hm] at hg
      simp at hg
      subst hg
      exact .inl ⟨b - base, by omega, by omega, hm⟩
  · exact .inr hg
theorem getT_later (hf : ∀ j, s.h.get (s.h.next + j) = none) (hc : Closed ops S) {r : ToldOps} {l A : List ToldOps} (hr : S r.i = false) (g : Good P cf ops (masks ops) s (A ++ r :: l)) {b : Nat} {x : Blk} (h : getT s.h.next ops.size S (preH ops s) l b = some x) : getT s.h.next ops.size S (preH ops s) (A ++ r :: l) b = some x := by
  obtain ⟨k1, k2, k3⟩ := later_core rfl hc hr g
  obtain ⟨⟨o, gr⟩, gl, _⟩ := Good.at_ g
  rcases getT_or h with ⟨j, hj, rfl, hm⟩ | h1
  · exact getT_more hj (k2 j x (fun e => by have := more_done hm; rw [e, gr.new] at this; cases this) hm)
  · exact getT_core (by rw [k1]; exact h1) (fun j y hy => by
      rw [k1]
      rcases k3 j y hy with h2 | h2
      · exact gl.more_none P cf ops (masks ops) s hf j h2
      · exact gl.core_none P cf ops (masks ops) s hf j (g.lt P cf ops (masks ops) s j (more_done hy)) h2)

theorem Stand.step (ok : Known.Ok P cf) (hs : slotsB ops s.nt = true) (hed : edgesOk ops = true) (hf : ∀ j, s.h.get (s.h.next + j) = none) (hbig : s.h.next + ops.size < 549755813888) (g : Good P cf ops (masks ops) s T) (hall : ∀ j, j < ops.size → doneT T j = true)
    (st : Stand P ops s T ρ0 w0 S a w ρ) {i : Nat} {o : Oper} (ho : ops[i]? = some o) (hSi : S i = false) (hd : ∀ e ∈ o.after, Region.binds .any e = true → S e.on = true) {Q : Exit → Act → World → Prop} :
    if Region.wanted o (yielded ops a.tmps) then o.wp P a w (fun a' w' => ∃ ρ', Stand P ops s T ρ0 w0 (withI S i) a' w' ρ') Q else ∃ ρ', Stand P ops s T ρ0 w0 (withI S i) (a.put o.dst undef) w ρ' := by
  have hi : i < ops.size := (Array.getElem?_eq_some_iff.1 ho).1
  obtain ⟨A, r, l, rfl, rfl⟩ := split_at (hall i hi)
  obtain ⟨⟨o', gr⟩, gl, hlater⟩ := Good.at_ g
  obtain rfl : o' = o := Option.some.inj (gr.op.symm.trans ho)
  have honce := g.once P cf ops (masks ops) s
  obtain ⟨hlook, hlook2⟩ := look_again rfl honce
  have hmS : ∀ j, ((masks ops).getD r.i 0).testBit j = true → S j = true := fun j hj => dep_new st.closed ho hd hSi (mask_dep hj)
  have hclosed := st.closed.with_ ho hd
  have hev := st.evs hs hSi hmS (fun j v hv => look_is hv) hlook2
  have hput : ∀ {ρ' : Pos} {u : Value}, ρ.le ρ' → con ρ' r.v = some u → (a.put o'.dst u).defers = [] ∧ (a.put o'.dst u).tmps.size = s.nt ∧ ∀ t, con ρ' (slotT ops (A ++ r :: l) s (withI S r.i) t) = some ((a.put o'.dst u).tmps.getD t undef) := fun hle hu => st.slot' hs ho hlook hle hu
  have hnext := fun S => (Good.next (S := S) g).1
  have hlt : ∀ b x, getT s.h.next ops.size S (preH ops s) (A ++ r :: l) b = some x → ∃ gC, ρ b = some gC := fun b x hb => by
    obtain ⟨q, C, _, _, h1, _, _⟩ := st.mem.at_ b x hb
    exact ⟨_, h1⟩
  rcases gr.kind with ⟨k1, k2, k3⟩ | ⟨k1, ⟨c, pre, k2, ah⟩ | ⟨ox, k2, hloc⟩⟩
  · have hw := st.want hs hmS hlook2 k1
    rw [if_neg (by rw [hw]; decide)]
    obtain ⟨c1, c2⟩ := step_non (h := preH ops s) k3 hSi honce
    have hget : ∀ b x, getT s.h.next ops.size (withI S r.i) (preH ops s) (A ++ r :: l) b = some x → getT s.h.next ops.size S (preH ops s) (A ++ r :: l) b = some x := fun b x hb => by
      rcases getT_or hb with ⟨j, hj, rfl, hm⟩ | h1
      · rcases c2 j x hm with h2 | ⟨_, h2⟩
        · exact getT_more hj h2
        · cases h2
      · rw [c1] at h1
        exact getT_core h1 (fun j y hy => g.more_none P cf ops (masks ops) s hf j hy)
    obtain ⟨p1, p2, p3⟩ := hput (Pos.le_refl ρ) (u := undef) (by rw [k2]; rfl)
    refine ⟨ρ, hclosed, p1, p2, p3, ⟨fun b x hb => st.mem.at_ b x (hget b x hb), fun b c x y q C D hb hc => st.mem.inj b c x y q C D (hget b x hb) (hget c y hc)⟩, fun b hb => st.new b (by rw [c1] at hb; exact hb), fun j hj hSj => st.own j hj ?_, ?_⟩
    · by_cases e : j = r.i
      · rw [e]; exact hSi
      · rw [withI_ne S e] at hSj; exact hSj
    · exact ⟨st.ext.le, st.ext.os, st.ext.tape, st.ext.output, st.ext.size, st.ext.keep, fun b x k C hb => st.ext.own b x k C (hget b x hb), st.ext.only, fun b x hb => st.ext.ro b x (hget b x hb)⟩
  · have hw := st.want hs hmS hlook2 k1
    rw [if_pos hw]
    have hdoneS : ∀ j, doneT l j = true → S j = true := fun j hj => hmS j (ah.all j (gl.lt P cf ops (masks ops) s j hj) hj)
    have hsub : ∀ b x, pre.get b = some x → getT s.h.next ops.size S (preH ops s) (A ++ r :: l) b = some x := fun b x hb => getT_later hf st.closed hSi g (ah.sub S hdoneS b x hb)
    have hrel : Rel ρ pre w := st.mem.sub hsub
    have hAeff : ∀ x ∈ A, ∀ c, x.k = .eff c → S x.i = false := fun x hx c hk => by
      cases hS : S x.i
      · rfl
      · exfalso
        obtain ⟨l', o2, g2, h2⟩ := hlater x hx
        rcases g2.kind with ⟨_, _, q3⟩ | ⟨_, ⟨c', pre', q1, ah2⟩ | ⟨ox, q1, _⟩⟩
        · rw [hk] at q3; cases q3
        · have := ah2.all r.i hi (h2 r.i (by simp [doneT]))
          have := st.closed.dep (mask_dep this) hS
          rw [hSi] at this
          cases this
        · rw [hk] at q1; cases q1
    obtain ⟨c1, c2⟩ := step_eff (h := preH ops s) k2 hSi honce hAeff
    have hcore : (coreT S (preH ops s) (A ++ r :: l)).next = pre.next := by
      rw [(later_core rfl st.closed hSi g).1, ah.next, (core_congr (S := S) (S' := fun _ => true) (h := preH ops s) hdoneS).1]
    have hnew : New ρ pre := fun b hb => st.new b (by rw [hcore]; exact hb)
    have hpre : s.h.next + ops.size ≤ pre.next := by rw [← hcore]; exact hnext S
    refine do_sound ok hev hrel hnew ah.run fun ρ' u w' q1 q2 q3 q4 => ?_
    have hG : ∀ b x, getT s.h.next ops.size (withI S r.i) (preH ops s) (A ++ r :: l) b = some x → c.get b = some x ∨ (getT s.h.next ops.size S (preH ops s) (A ++ r :: l) b = some x ∧ pre.get b = none) := fun b x hb => by
      rcases getT_or hb with ⟨j, hj, rfl, hm⟩ | h1
      · obtain ⟨h2, h3⟩ := c2 j x hm
        exact .inr ⟨getT_more hj h2, ah.none1 j hj h3⟩
      · rw [c1] at h1
        exact .inl h1
    obtain ⟨p1, p2, p3⟩ := hput q4.le q1
    refine ⟨ρ', hclosed, p1, p2, p3, st.mem.part hsub q2 q4 hG, fun b hb => q3 b (by rw [c1] at hb; exact hb), fun j hj hSj => ?_, ExtG.part st.mem hsub st.ext (fun b hb => q4.only b (by omega)) q4 hG⟩
    have hne : j ≠ r.i := fun e => by rw [e, withI_self] at hSj; cases hSj
    rw [withI_ne S hne] at hSj
    rw [q4.only _ (by omega)]
    exact st.own j hj hSj
  · have hw := st.want hs hmS hlook2 k1
    rw [if_pos hw]
    obtain ⟨hl, lc⟩ := hloc S hmS
    have hsub : ∀ b x, hl.get b = some x → getT s.h.next ops.size S (preH ops s) (A ++ r :: l) b = some x := fun b x hb => getT_later hf st.closed hSi g (lc.sub b x hb)
    have hrel : Rel ρ hl w := st.mem.sub hsub
    have hn : ρ hl.next = none := by rw [lc.next]; exact st.own r.i hi hSi
    obtain ⟨c1, c2⟩ := step_non (h := preH ops s) k2 hSi honce
    obtain ⟨ρ', n, u, w', q1, q2, q3, q4, q5, q6⟩ := op_sound (P := P) hrel hn hev lc.run
    have hother : ∀ b, b ≠ s.h.next + r.i → ρ' b = ρ b := fun b hb => by
      rcases q6 with ⟨rfl, _⟩ | ⟨gC, rfl, _⟩
      · rfl
      · rw [Pos.put_ne _ _ (by rw [lc.next]; exact hb)]
    have hG : ∀ b x, getT s.h.next ops.size (withI S r.i) (preH ops s) (A ++ r :: l) b = some x → (hl.pushO ox).get b = some x ∨ (getT s.h.next ops.size S (preH ops s) (A ++ r :: l) b = some x ∧ hl.get b = none) := fun b x hb => by
      have old : getT s.h.next ops.size S (preH ops s) (A ++ r :: l) b = some x → (hl.pushO ox).get b = some x ∨ (getT s.h.next ops.size S (preH ops s) (A ++ r :: l) b = some x ∧ hl.get b = none) := fun h1 => by
        cases hh : hl.get b with
        | none => exact .inr ⟨h1, rfl⟩
        | some y =>
          have h2 := hsub b y hh
          rw [h1] at h2
          simp at h2
          subst h2
          left
          cases ox with
          | none => exact hh
          | some z =>
            obtain ⟨gC, hgC⟩ := hlt b x h1
            have hne : hl.next ≠ b := fun e => by rw [← e, hn] at hgC; cases hgC
            have := Tq.get_set deep hl.bl hl.next (some z) b hne
            show (hl.push z).get b = some x
            unfold H.push H.get
            rw [this]
            exact hh
      rcases getT_or hb with ⟨j, hj, rfl, hm⟩ | h1
      · rcases c2 j x hm with h2 | ⟨rfl, rfl⟩
        · exact old (getT_more hj h2)
        · left
          show (hl.push x).get _ = some x
          unfold H.push H.get
          rw [lc.next]
          exact Tq.get_set_at deep _ _ _ (Nat.lt_of_lt_of_le (Nat.succ_lt_succ (show s.h.next + r.i < 549755813888 by omega)) (by decide))
      · rw [c1] at h1
        exact old (getT_core h1 (fun j y hy => g.more_none P cf ops (masks ops) s hf j hy))
    obtain ⟨p1, p2, p3⟩ := hput q5.le q3
    have hStand : Stand P ops s (A ++ r :: l) ρ0 w0 (withI S r.i) (a.put o'.dst u) w' ρ' := by
      refine ⟨hclosed, p1, p2, p3, st.mem.part hsub q4 q5 hG, fun b hb => ?_, fun j hj hSj => ?_, ExtG.part st.mem hsub st.ext (fun b hb => hother b (by omega)) q5 hG⟩
      · rw [c1] at hb
        have := hnext S
        rw [hother b (by omega)]
        exact st.new b hb
      · have hne : j ≠ r.i := fun e => by rw [e, withI_self] at hSj; cases hSj
        rw [withI_ne S hne] at hSj
        rw [hother _ (by omega)]
        exact st.own j hj hSj
    unfold Oper.wp
    rw [q1]
    rcases q2 with rfl | ⟨rfl, rfl⟩
    · exact ⟨ρ', hStand⟩
    · exact ⟨ρ', hStand⟩
theorem open_sound (ok : Known.Ok P cf) (hm : P.follows .mixedOrders = true) : Drawn.Ok P (openRun P cf) := by
  intro ops s s' e id ρ0 a0 w0 Q r hQ
  unfold openRun at e
  split at e
  · rename_i hed hs hb
    have hbig : s.h.next + ops.size < 549755813888 := blt_true hb
    split at e
    · rename_i T dm hT
      split at e <;> simp only [Option.some.injEq, reduceCtorEq] at e
      rename_i hcov
      subst e
      have hf : ∀ j, s.h.get (s.h.next + j) = none := fun j => by
        cases hg : s.h.get (s.h.next + j) with
        | none => rfl
        | some x =>
          obtain ⟨q, C, _, _, h1, _, _⟩ := r.mem.at_ _ x hg
          rw [r.new _ (by omega)] at h1
          cases h1
      obtain ⟨g, hdm⟩ := pass_good P cf ops (masks ops) s hf hbig _ [] T .nil 0 dm trivial (fun j => by simp [doneT]) (fun j => Tq.get_nil deep j) hT
      have hall : ∀ j, j < ops.size → doneT T j = true := fun j hj => by
        rw [← hdm j]
        exact maskSub_out hcov j (by rw [Nat.testBit_two_pow_sub_one]; simpa using hj)
      refine wp_region_any hm ?_
      have h0 : ∀ {T : List ToldOps}, coreT (fun _ => false) (preH ops s) T = preH ops s ∧ ∀ j, moreT (fun _ => false) j T = none := by
        intro T
        induction T with
        | nil => exact ⟨rfl, fun _ => rfl⟩
        | cons x T ih =>
          refine ⟨?_, fun j => ?_⟩
          · simp only [coreT]; split <;> exact ih.1
          · simp only [moreT, Bool.false_and]; split <;> exact ih.2 j
      have hget0 : ∀ b x, getT s.h.next ops.size (fun _ => false) (preH ops s) T b = some x → s.h.get b = some x := fun b x hb => by
        rcases getT_or hb with ⟨j, _, _, h1⟩ | h1
        · rw [h0.2] at h1; cases h1
        · rw [h0.1] at h1; exact h1
      have hdr : ({ w0 with drawn := w0.drawn + 1 } : World).heap = w0.heap := rfl
      refine wpAny_inv (I := fun S a w => ∃ ρ, Stand P ops s T ρ0 w0 S a w ρ) hed (fun S a w i o hI ho hSi hd => ?_) (fun S a w hI hS => ?_) ops.size (Array.replicate ops.size false) (fun _ => false) a0 _ (fun j => ?_) (by simp) ?_ (by simp)
      · obtain ⟨ρ, st⟩ := hI
        exact st.step ok hs hed hf hbig g hall ho hSi hd
      · obtain ⟨ρ, st⟩ := hI
        have hdone : ∀ j, doneT T j = true → S j = true := fun j hj => hS j (g.lt P cf ops (masks ops) s j hj)
        have htop := top_all (h1 := preH ops s) (S := S) T [] hdone
        have hsub : ∀ b x, (addX s.h.next (topT (preH ops s) (fun _ => true) (fun _ => true) [] T).2 (topT (preH ops s) (fun _ => true) (fun _ => true) [] T).1).get b = some x → getT s.h.next ops.size S (preH ops s) T b = some x := fun b x hx => by
          rw [htop] at hx
          exact g.sub P cf ops (masks ops) s hf (fun _ h => h) hx
        have hnx : (addX s.h.next (topT (preH ops s) (fun _ => true) (fun _ => true) [] T).2 (topT (preH ops s) (fun _ => true) (fun _ => true) [] T).1).next = (coreT S (preH ops s) T).next := by
          rw [addX_next, htop, top_core]
        have hle := (Good.next (S := S) g).1
        refine hQ ρ a w ⟨st.defers, st.size, fun t => ?_, st.mem.sub hsub, fun b hb => st.new b (by rw [← hnx]; exact hb)⟩
          ⟨st.ext.le, by show s.h.next ≤ _; rw [hnx]; omega, st.ext.os, st.ext.tape, st.ext.output, st.ext.size, st.ext.keep, fun b x k C hx => st.ext.own b x k C (hsub b x hx), st.ext.only, fun b x hx => st.ext.ro b x (hsub b x hx)⟩
        have h1 := st.slot t
        have h2 := all_get (nt := s.nt) (ops := ops) (T := T) (tm := s.tm) hs (fun j hj => g.lt P cf ops (masks ops) s j hj) (g.once P cf ops (masks ops) s) t
        have h3 : (⟨allIn ops T s.tm, s.nt, addX s.h.next (topT (preH ops s) (fun _ => true) (fun _ => true) [] T).2 (topT (preH ops s) (fun _ => true) (fun _ => true) [] T).1⟩ : St).tmp t = slotT ops T s S t := by
          unfold St.tmp slotT
          simp only
          rw [h2]
          cases hw : writerOf ops.toList 0 t with
          | none => rfl
          | some j =>
            obtain ⟨o', _, k2, _⟩ := writer_out _ _ _ _ hw
            have hj : j < ops.size := by
              rw [Nat.sub_zero, Array.getElem?_toList] at k2
              exact (Array.getElem?_eq_some_iff.1 k2).1
            simp only [hall j hj, hS j hj]
            cases lookT T j <;> rfl
        rw [h3]
        exact h1
      · simp only [isListed]
        rcases Nat.lt_or_ge j ops.size with k | k <;> simp [k]
      · refine ⟨ρ0, ⟨(fun i o _ h => by cases h), r.defers, r.size, fun t => ?_, ⟨fun b x hb => r.mem.at_ b x (hget0 b x hb), fun b c x y q C D hb hc => r.mem.inj b c x y q C D (hget0 b x hb) (hget0 c y hc)⟩, fun b hb => ?_, fun j hj _ => r.new _ (by omega), ?_⟩⟩
        · have h1 := r.slot t
          have : slotT ops T s (fun _ => false) t = s.tmp t := by
            unfold slotT
            split <;> rfl
          rw [this]
          exact h1
        · rw [h0.1] at hb
          have hb' : s.h.next + ops.size ≤ b := hb
          exact r.new b (by omega)
        · exact ⟨Pos.le_refl _, rfl, rfl, rfl, Nat.le_refl _, fun _ _ _ => rfl, fun b x k C hb hr hp _ => ⟨b, x, C, hget0 b x hb, hr, hp⟩, fun _ _ => rfl, fun b x hb _ => hget0 b x hb⟩
    · simp at e
  · simp at e
end
end Go.Proofs.Ytmeloffdaninmaa
