/-
  The small machine's run of a statement whose order is open: once, in an order of its own, with checks that make every order come to the same.
-/
import Derived.Test.YtmeloffdaninmaaAbsRun
namespace Go.Proofs.Ytmeloffdaninmaa
open Go.RowKit
set_option linter.unusedVariables false

/-! ### Ways through a statement, by what is listed -/
section
variable {P : Program} {ops : Array Oper} {Q : Exit → Act → World → Prop}
def isListed (listed : Array Bool) (j : Nat) : Bool := listed.getD j false
def edgesOk (ops : Array Oper) : Bool := (List.range ops.size).all fun i => match ops[i]? with
  | some o => o.after.toList.all fun e => !Region.binds .any e || Nat.blt e.on i
  | none => true
def withI (S : Nat → Bool) (i : Nat) : Nat → Bool := fun j => match Nat.beq j i with
  | true => true
  | false => S j
theorem withI_self (S : Nat → Bool) (i : Nat) : withI S i i = true := by simp [withI]
theorem withI_ne (S : Nat → Bool) {i j : Nat} (h : j ≠ i) : withI S i j = S j := by
  unfold withI
  cases hb : Nat.beq j i
  · rfl
  · exact absurd (Nat.eq_of_beq_eq_true hb) h
theorem withI_old {S : Nat → Bool} {i j : Nat} (h : S j = true) : withI S i j = true := by
  by_cases e : j = i
  · subst e; exact withI_self S j
  · rw [withI_ne S e]; exact h
theorem wpAny_inv (I : (Nat → Bool) → Act → World → Prop) (hed : edgesOk ops = true)
    (step : ∀ S a w i o, I S a w → ops[i]? = some o → S i = false → (∀ e ∈ o.after, Region.binds .any e = true → S e.on = true) →
      if Region.wanted o (yielded ops a.tmps) then o.wp P a w (I (withI S i)) Q else I (withI S i) (a.put o.dst undef) w)
    (fin : ∀ S a w, I S a w → (∀ i, i < ops.size → S i = true) → Q .normal a w) :
    ∀ (fuel : Nat) (listed : Array Bool) (S : Nat → Bool) (a : Act) (w : World), (∀ j, S j = isListed listed j) → listed.size = ops.size → I S a w → listed.toList.count false ≤ fuel → wpAny P .any ops Q fuel listed a w := by
  have edge : ∀ i o, ops[i]? = some o → ∀ e ∈ o.after, Region.binds .any e = true → e.on < i := fun i o ho e he hb => by
    have hlt : i < ops.size := (Array.getElem?_eq_some_iff.1 ho).1
    have h1 := List.all_eq_true.1 hed i (List.mem_range.2 hlt)
    simp only [ho] at h1
    have h2 := List.all_eq_true.1 h1 e (by simpa using he)
    rw [hb] at h2
    exact blt_true (by simpa using h2)
  have done : ∀ (listed : Array Bool) (S : Nat → Bool) a w, (∀ j, S j = isListed listed j) → listed.size = ops.size → I S a w → Region.ready .any ops listed = [] → Q .normal a w := by
    intro listed S a w hS hsz hI hr
    refine fin S a w hI fun j => ?_
    induction j using Nat.strongRecOn with
    | _ j ih =>
      intro hj
      cases hl : S j
      · exfalso
        have hjl : j < listed.size := by omega
        have hl' : listed.getD j true = false := by
          have := hS j
          rw [hl] at this
          unfold isListed at this
          simp [hjl] at this ⊢
          exact this
        have hm : j ∈ Region.ready .any ops listed := mem_ready.2 ⟨hl', ops[j], Array.getElem?_eq_getElem hj, fun e he hb => by
          have h1 := edge j _ (Array.getElem?_eq_getElem hj) e he hb
          have h2 := ih e.on h1 (by omega)
          rw [hS] at h2
          exact h2⟩
        rw [hr] at hm
        cases hm
      · rfl
  intro fuel
  induction fuel with
  | zero =>
    intro listed S a w hS hsz hI hc
    have hr : Region.ready .any ops listed = [] := by
      rw [List.eq_nil_iff_forall_not_mem]
      intro i hi
      have h0 := (mem_ready.1 hi).1
      have hlt : i < listed.size := by
        rcases Nat.lt_or_ge i listed.size with h | h
        · exact h
        · simp [Array.getElem?_eq_none h] at h0
      have hmem : false ∈ listed.toList := by
        simp [hlt] at h0
        rw [← h0]
        simp
      have := List.count_pos_iff.2 hmem
      omega
    exact ⟨hr, done listed S a w hS hsz hI hr⟩
  | succ fuel ih =>
    intro listed S a w hS hsz hI hc
    refine ⟨done listed S a w hS hsz hI, fun i hi => ?_⟩
    obtain ⟨h0, o, ho, hdep⟩ := mem_ready.1 hi
    have hlt : i < listed.size := by rw [hsz]; exact (Array.getElem?_eq_some_iff.1 ho).1
    have hcount : (listed.setIfInBounds i true).toList.count false ≤ fuel := by
      rw [Array.toList_setIfInBounds, List.count_set (by simpa using hlt)]
      have hf : listed.toList[i]'(by simpa using hlt) = false := by simpa [hlt] using h0
      have hp : 0 < listed.toList.count false := List.count_pos_iff.2 (by rw [← hf]; exact List.getElem_mem _)
      rw [hf]
      simp only [beq_self_eq_true, if_true]
      show _ - 1 + 0 ≤ fuel
      omega
    have hS' : ∀ j, withI S i j = isListed (listed.setIfInBounds i true) j := fun j => by
      by_cases e : j = i
      · subst e
        rw [withI_self]
        simp [isListed, hlt]
      · rw [withI_ne S e, hS]
        simp [isListed, Array.getElem?_setIfInBounds_ne (Ne.symm e)]
    have hSi : S i = false := by
      rw [hS]
      unfold isListed
      simp [hlt] at h0 ⊢
      exact h0
    have hst := step S a w i o hI ho hSi (fun e he hb => by rw [hS]; exact hdep e he hb)
    unfold wpOp
    simp only [ho]
    split
    · rename_i hw
      rw [if_pos hw] at hst
      exact .inl (Oper.wp_mono (fun a' w' h => ih _ _ a' w' hS' (by simpa using hsz) h hcount) hst)
    · rename_i hw
      rw [if_neg hw] at hst
      exact ih _ _ _ _ hS' (by simpa using hsz) hst hcount
end

/-! ### What has to come ahead -/
inductive Dep (ops : Array Oper) : Nat → Nat → Prop where
  | edge {i : Nat} {o : Oper} {e : Edge} (ho : ops[i]? = some o) (he : e ∈ o.after) (hb : Region.binds .any e = true) : Dep ops i e.on
  | trans {i j k : Nat} : Dep ops i j → Dep ops j k → Dep ops i k
def maskOf (acc : List Nat) : List Edge → Nat → Nat
  | [], s => s
  | e :: l, s => match Region.binds .any e with
    | true => maskOf acc l (Nat.lor s (Nat.lor (2 ^ e.on) (acc.getD e.on 0)))
    | false => maskOf acc l s
def masksFrom (acc : List Nat) : List Oper → List Nat
  | [] => acc
  | o :: l => masksFrom (acc ++ [maskOf acc o.after.toList 0]) l
def masks (ops : Array Oper) : List Nat := masksFrom [] ops.toList
theorem maskOf_bit (acc : List Nat) : ∀ (l : List Edge) (s j : Nat), (maskOf acc l s).testBit j = true → s.testBit j = true ∨ ∃ e ∈ l, Region.binds .any e = true ∧ (e.on = j ∨ (acc.getD e.on 0).testBit j = true)
  | [], s, j, h => .inl h
  | e :: l, s, j, h => by
    simp only [maskOf] at h
    split at h
    · rename_i hb
      rcases maskOf_bit acc l _ j h with h1 | ⟨e', he', h1⟩
      · have h2 : (s ||| (2 ^ e.on ||| acc.getD e.on 0)).testBit j = true := h1
        rw [Nat.testBit_or, Nat.testBit_or] at h2
        simp only [Bool.or_eq_true] at h2
        rcases h2 with h2 | h2 | h2
        · exact .inl h2
        · rw [Nat.testBit_two_pow] at h2
          exact .inr ⟨e, by simp, hb, .inl (by simpa using h2)⟩
        · exact .inr ⟨e, by simp, hb, .inr h2⟩
      · exact .inr ⟨e', by simp [he'], h1⟩
    · rcases maskOf_bit acc l _ j h with h1 | ⟨e', he', h1⟩
      · exact .inl h1
      · exact .inr ⟨e', by simp [he'], h1⟩
theorem masks_dep (ops : Array Oper) : ∀ (l : List Oper) (acc : List Nat), (∀ i, l[i]? = ops[acc.length + i]?) → (∀ i j, (acc.getD i 0).testBit j = true → Dep ops i j) → ∀ i j, ((masksFrom acc l).getD i 0).testBit j = true → Dep ops i j
  | [], acc, _, ha => ha
  | o :: l, acc, hl, ha => by
    have ho : ops[acc.length]? = some o := by simpa using (hl 0).symm
    refine masks_dep ops l (acc ++ [maskOf acc o.after.toList 0]) (fun i => ?_) (fun i j h => ?_)
    · have := hl (i + 1)
      simp only [List.getElem?_cons_succ] at this
      rw [this]
      simp
      congr 1
      omega
    · rcases Nat.lt_trichotomy i acc.length with h1 | h1 | h1
      · rw [List.getD_eq_getElem?_getD, List.getElem?_append_left h1, ← List.getD_eq_getElem?_getD] at h
        exact ha i j h
      · subst h1
        rw [List.getD_eq_getElem?_getD, List.getElem?_append_right (Nat.le_refl _)] at h
        simp at h
        rcases maskOf_bit acc o.after.toList 0 j h with h2 | ⟨e, he, hb, h2 | h2⟩
        · simp at h2
        · rw [← h2]
          exact .edge ho (by simpa using he) hb
        · exact .trans (.edge ho (by simpa using he) hb) (ha _ _ h2)
      · rw [List.getD_eq_getElem?_getD, List.getElem?_eq_none (by simp; omega)] at h
        simp at h
theorem mask_dep {ops : Array Oper} {i j : Nat} (h : ((masks ops).getD i 0).testBit j = true) : Dep ops i j :=
  masks_dep ops ops.toList [] (fun i => by simp) (fun i j h => by simp at h) i j h
/-- What is listed has all that has to come ahead of it. -/
def Closed (ops : Array Oper) (S : Nat → Bool) : Prop := ∀ i o, ops[i]? = some o → S i = true → ∀ e ∈ o.after, Region.binds .any e = true → S e.on = true
theorem Closed.dep {ops : Array Oper} {S : Nat → Bool} (h : Closed ops S) {i j : Nat} (d : Dep ops i j) (hi : S i = true) : S j = true := by
  induction d with
  | edge ho he hb => exact h _ _ ho hi _ he hb
  | trans _ _ ih1 ih2 => exact ih2 (ih1 hi)
theorem Closed.with_ {ops : Array Oper} {S : Nat → Bool} (h : Closed ops S) {i : Nat} {o : Oper} (ho : ops[i]? = some o) (hd : ∀ e ∈ o.after, Region.binds .any e = true → S e.on = true) : Closed ops (withI S i) := by
  intro k ok hk hS e he hb
  by_cases e1 : k = i
  · subst e1
    obtain rfl : ok = o := Option.some.inj (hk.symm.trans ho)
    exact withI_old (hd e he hb)
  · rw [withI_ne S e1] at hS
    exact withI_old (h k ok hk hS e he hb)
theorem dep_new {ops : Array Oper} {S : Nat → Bool} (h : Closed ops S) {i j : Nat} {o : Oper} (ho : ops[i]? = some o) (hd : ∀ e ∈ o.after, Region.binds .any e = true → S e.on = true) (hSi : S i = false) (d : Dep ops i j) : S j = true := by
  have key : ∀ a b, Dep ops a b → a = i → S b = true := by
    intro a b d
    induction d with
    | edge h1 h2 h3 =>
      intro e1
      subst e1
      obtain rfl := Option.some.inj (h1.symm.trans ho)
      exact hd _ h2 h3
    | trans d1 d2 ih1 ih2 => intro e1; exact h.dep d2 (ih1 e1)
  exact key i j d rfl

/-! ### What has been told, the latest first -/
inductive Kd where
  /-- a value, and a new block of its own if there is one -/
  | non (x : Option Blk)
  /-- a value, and the memory behind it -/
  | eff (c : H)
structure ToldOps where
  i : Nat
  v : AV
  k : Kd
def lookT : List ToldOps → Nat → Option AV
  | [], _ => none
  | r :: l, j => match Nat.beq r.i j with
    | true => some r.v
    | false => lookT l j
def doneT : List ToldOps → Nat → Bool
  | [], _ => false
  | r :: l, j => match Nat.beq r.i j with
    | true => true
    | false => doneT l j
theorem look_done : ∀ {l : List ToldOps} {j : Nat}, doneT l j = true → ∃ v, lookT l j = some v
  | r :: l, j, h => by
    simp only [doneT] at h
    simp only [lookT]
    cases hb : Nat.beq r.i j <;> rw [hb] at h
    · exact look_done h
    · exact ⟨_, rfl⟩
/-- The memory behind the calls that are listed. -/
def coreT (S : Nat → Bool) (h : H) : List ToldOps → H
  | [] => h
  | r :: l => match r.k with
    | .eff c => match S r.i with
      | true => c
      | false => coreT S h l
    | .non _ => coreT S h l
/-- The new blocks of what is listed, behind the latest call of it. -/
def moreT (S : Nat → Bool) (j : Nat) : List ToldOps → Option Blk
  | [] => none
  | r :: l => match r.k with
    | .eff _ => match S r.i with
      | true => none
      | false => moreT S j l
    | .non x => match S r.i && Nat.beq r.i j with
      | true => match x with
        | some b => some b
        | none => moreT S j l
      | false => moreT S j l
/-- The memory of what is listed: m numbers from 'base' on belong to the operations themselves. -/
def getT (base m : Nat) (S : Nat → Bool) (h : H) (T : List ToldOps) (b : Nat) : Option Blk :=
  if base ≤ b ∧ b < base + m then (match moreT S (b - base) T with
    | some x => some x
    | none => (coreT S h T).get b)
  else (coreT S h T).get b

/-- As a relation over what a number has. -/
structure RelG (ρ : Pos) (G : Nat → Option Blk) (w : World) : Prop where
  at_ : ∀ b x, G b = some x → ∃ g C cur fz, ρ b = some (g, C) ∧ w.heap[g]? = some (.cells cur x.elem fz) ∧ BlkIs ρ C x cur fz
  inj : ∀ b c x y g C D, G b = some x → G c = some y → ρ b = some (g, C) → ρ c = some (g, D) → b ≠ c → x.rw = false ∧ y.rw = false
structure ExtG (ρ : Pos) (h : H) (w : World) (ρ' : Pos) (G : Nat → Option Blk) (w' : World) : Prop where
  le : ρ.le ρ'
  os : w'.os = w.os
  tape : w'.tape = w.tape
  output : w'.output = w.output
  size : w.heap.size ≤ w'.heap.size
  keep : ∀ k, k < w.heap.size → (∀ b x C, h.get b = some x → x.rw = true → ρ b ≠ some (k, C)) → w'.heap[k]? = w.heap[k]?
  own : ∀ b x k C, G b = some x → x.rw = true → ρ' b = some (k, C) → k < w.heap.size → ∃ b' x' C', h.get b' = some x' ∧ x'.rw = true ∧ ρ b' = some (k, C')
  only : ∀ b, b < h.next → ρ' b = ρ b
  ro : ∀ b x, G b = some x → x.rw = false → h.get b = some x
section
variable {ρ ρ' ρ0 : Pos} {h h0 h' : H} {w w' w0 : World} {G G' : Nat → Option Blk}
theorem RelG.sub (r : RelG ρ G w) (hs : ∀ b x, h.get b = some x → G b = some x) : Rel ρ h w :=
  ⟨fun b x hb => r.at_ b x (hs b x hb), fun b c x y g C D hb hc => r.inj b c x y g C D (hs b x hb) (hs c y hc)⟩
theorem Rel.toG (r : Rel ρ h w) : RelG ρ h.get w := ⟨r.at_, r.inj⟩
theorem ExtG.start (ρ : Pos) (h : H) (w : World) : ExtG ρ h w ρ h.get w :=
  ⟨Pos.le_refl _, rfl, rfl, rfl, Nat.le_refl _, fun _ _ _ => rfl, fun b x k C hb hr hp _ => ⟨b, x, C, hb, hr, hp⟩, fun _ _ => rfl, fun _ _ hb _ => hb⟩
theorem RelG.lt (r : RelG ρ G w) {b : Nat} {x : Blk} {g C : Nat} (hb : G b = some x) (hp : ρ b = some (g, C)) : g < w.heap.size := by
  obtain ⟨g', C', cur, fz, h1, h2, _⟩ := r.at_ b x hb
  rw [hp] at h1
  simp at h1
  rw [h1.1]
  exact (Array.getElem?_eq_some_iff.1 h2).1
/-- Memory of which a part has gone on. -/
theorem RelG.part (r : RelG ρ G w) (hs : ∀ b x, h.get b = some x → G b = some x) (r' : Rel ρ' h' w') (x' : Ext ρ h w ρ' h' w')
    (hG : ∀ b x, G' b = some x → h'.get b = some x ∨ (G b = some x ∧ h.get b = none)) : RelG ρ' G' w' := by
  have hold : ∀ b x, G b = some x → h.get b = none → ∃ g C cur fz, ρ b = some (g, C) ∧ w'.heap[g]? = some (.cells cur x.elem fz) ∧ BlkIs ρ' C x cur fz := by
    intro b x hb hn
    obtain ⟨g, C, cur, fz, h1, h2, h3⟩ := r.at_ b x hb
    refine ⟨g, C, cur, fz, h1, ?_, h3.mono x'.le⟩
    rw [x'.keep g (Array.getElem?_eq_some_iff.1 h2).1 (fun b' y D hb' hr hp => ?_)]
    · exact h2
    · have hne : b' ≠ b := fun e => by rw [e, hn] at hb'; cases hb'
      have := (r.inj b' b y x g D C (hs b' y hb') hb hp h1 hne).1
      rw [hr] at this
      cases this
  -- an old block beside one of the part that has gone on
  have cross : ∀ b c x y g C D, (G b = some x ∧ h.get b = none) → h'.get c = some y → ρ' b = some (g, C) → ρ' c = some (g, D) → x.rw = false ∧ y.rw = false := by
    intro b c x y g C D ⟨hb, hn⟩ hc hpb hpc
    obtain ⟨g1, C1, _, _, k1, k2, _⟩ := r.at_ b x hb
    have e1 := x'.le b _ k1
    rw [hpb] at e1
    simp at e1
    obtain ⟨rfl, rfl⟩ := e1
    have hlt := (Array.getElem?_eq_some_iff.1 k2).1
    cases hy : y.rw
    · have hc' := x'.ro c y hc hy
      have hne : b ≠ c := fun e => by rw [e, hc'] at hn; cases hn
      obtain ⟨g2, C2, _, _, k3, _, _⟩ := r.at_ c y (hs c y hc')
      have e2 := x'.le c _ k3
      rw [hpc] at e2
      simp at e2
      obtain ⟨rfl, rfl⟩ := e2
      exact ⟨(r.inj b c x y g C D hb (hs c y hc') k1 k3 hne).1, rfl⟩
    · obtain ⟨c', y', D', h1, h2, h3⟩ := x'.own c y g D hc hy hpc hlt
      have hne : b ≠ c' := fun e => by rw [e, h1] at hn; cases hn
      have := (r.inj b c' x y' g C D' hb (hs c' y' h1) k1 h3 hne).2
      rw [h2] at this
      cases this
  refine ⟨fun b x hb => ?_, fun b c x y g C D hb hc hpb hpc hne => ?_⟩
  · rcases hG b x hb with h1 | ⟨h1, h2⟩
    · exact r'.at_ b x h1
    · obtain ⟨g, C, cur, fz, k1, k2, k3⟩ := hold b x h1 h2
      exact ⟨g, C, cur, fz, x'.le b _ k1, k2, k3⟩
  · rcases hG b x hb with h1 | h1 <;> rcases hG c y hc with h2 | h2
    · exact r'.inj b c x y g C D h1 h2 hpb hpc hne
    · exact (cross c b y x g D C h2 h1 hpc hpb).symm
    · exact cross b c x y g C D h1 h2 hpb hpc
    · obtain ⟨g1, C1, _, _, k1, _, _⟩ := r.at_ b x h1.1
      obtain ⟨g2, C2, _, _, k2, _, _⟩ := r.at_ c y h2.1
      have e1 := x'.le b _ k1
      have e2 := x'.le c _ k2
      rw [hpb] at e1
      rw [hpc] at e2
      simp at e1 e2
      obtain ⟨rfl, rfl⟩ := e1
      obtain ⟨rfl, rfl⟩ := e2
      exact r.inj b c x y g C D h1.1 h2.1 k1 k2 hne
theorem ExtG.part (r : RelG ρ G w) (hs : ∀ b x, h.get b = some x → G b = some x) (x0 : ExtG ρ0 h0 w0 ρ G w) (hle : ∀ b, b < h0.next → ρ' b = ρ b) (x' : Ext ρ h w ρ' h' w')
    (hG : ∀ b x, G' b = some x → h'.get b = some x ∨ (G b = some x ∧ h.get b = none)) : ExtG ρ0 h0 w0 ρ' G' w' := by
  refine ⟨Pos.le_trans x0.le x'.le, x'.os.trans x0.os, x'.tape.trans x0.tape, x'.output.trans x0.output, Nat.le_trans x0.size x'.size, fun k hk hn => ?_, fun b x k C hb hr hp hk => ?_, fun b hb => (hle b hb).trans (x0.only b hb), fun b x hb hr => ?_⟩
  · rw [x'.keep k (Nat.lt_of_lt_of_le hk x0.size) (fun b x C hb hr hp => ?_)]
    · exact x0.keep k hk hn
    · obtain ⟨b', y, D, h1, h2, h3⟩ := x0.own b x k C (hs b x hb) hr hp hk
      exact hn b' y D h1 h2 h3
  · rcases hG b x hb with h1 | ⟨h1, h2⟩
    · obtain ⟨b', y, D, k1, k2, k3⟩ := x'.own b x k C h1 hr hp (Nat.lt_of_lt_of_le hk x0.size)
      exact x0.own b' y k D (hs b' y k1) k2 k3 hk
    · obtain ⟨g, C', _, _, k1, _, _⟩ := r.at_ b x h1
      have e1 := x'.le b _ k1
      rw [hp] at e1
      simp at e1
      obtain ⟨rfl, rfl⟩ := e1
      exact x0.own b x k C h1 hr k1 hk
  · rcases hG b x hb with h1 | ⟨h1, h2⟩
    · exact x0.ro b x (hs b x (x'.ro b x h1 hr)) hr
    · exact x0.ro b x h1 hr
end
end Go.Proofs.Ytmeloffdaninmaa
