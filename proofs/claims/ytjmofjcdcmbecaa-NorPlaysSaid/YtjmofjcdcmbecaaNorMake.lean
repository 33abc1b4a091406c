/-
  Erasing, crashing and making a flash.
-/
import Derived.Test.YtjmofjcdcmbecaaNorOps
import Derived.Test.YtjmofjcdcmbecaaAbsAvs
namespace Go.Proofs.Ytjmofjcdcmbecaa
open Go.RowKit
set_option linter.unusedVariables false

/-- What a call tells that the machine has run: a value without addresses. -/
def tellsVal (e : Option (AV × H)) (r : AV) : Bool := match e with
  | some (x, _) => avSame x r
  | none => false
theorem told_val {P : Program} {orc : Known} (ok : Known.Ok P orc) {f : FuncId} {r : AV} (e : tellsVal (orc f [] noH) r = true) (v : Value) (hv : ∀ ρ, con ρ r = some v) (w : World) : Calls P f #[] w fun e w' => e = .returned v ∧ Below w.heap.size w w' := by
  unfold tellsVal at e
  split at e
  · rename_i x h' hr
    refine (ok f [] noH x h' hr (fun _ => none) w [] rfl (noH_rel w) (fun _ _ => rfl)).mono ?_
    rintro e' w' ⟨ρ', u, h1, rfl, _, _, h2⟩
    rw [avSame_out e, hv] at h1
    simp at h1
    subst h1
    exact ⟨rfl, h2.below (fun _ _ hb => (noH_get hb).elim)⟩
  · cases e
theorem con_agg_mk {ρ : Pos} {l : List AV} {xs : List Value} (h : conL ρ l = some xs) : con ρ (.agg l) = some (.agg xs.toArray) := by simp only [con, h]
/-- A sector of ones. -/
abbrev ones64 : List UInt32 := List.replicate 64 4294967295
theorem follows_mixedN : Try.prog.follows .mixedOrders = true := by kernel_rfl
set_option maxRecDepth 100000 in
theorem ones_told : tellsVal (runF Try.prog noneKnown 100000 30 99 [] noH) (.agg (avsOf .u32 (List.replicate 64 4294967295))) = true := by kernel_rfl
theorem erased_any (w : World) : Calls Try.prog 99 #[] w fun e w' => e = .returned (.agg (cw ones64).toArray) ∧ Below w.heap.size w w' := by
  refine told_val (runF_ok follows_mixedN noneKnown_ok 100000 30) ones_told _ (fun ρ => ?_) w
  exact con_agg_mk (by
    have h := avs32 ρ ones64
    rwa [show ones64.map UInt32.toNat = List.replicate 64 4294967295 from by rw [List.map_replicate]; rfl] at h)
/-- A sector erased. -/
def Fl.erase (S : Fl) (s : Int) : Fl × Nat := match S.down, S.sector s with
  | true, _ => (S, 40)
  | false, false => (S, 2)
  | false, true => match S.step with
    | (T, true) => ({ T with ws := splice T.ws (s.toNat * 64) ones64 }, 0)
    | (T, false) => ({ T with half := s }, 40)
section
variable {w : World} {base p b : Nat} {S : Fl}
theorem But.row (p b g : Nat) (cs : Array Value) (hg : g = p ∨ g = b) (w w' : World) (h1 : w'.os = w.os) (h2 : w'.tape = w.tape) (h3 : w'.output = w.output) (hs : w.heap.size ≤ w'.heap.size) (hk : ∀ k, k ≠ g → w'.heap[k]? = w.heap[k]?) : But p b w w' :=
  ⟨h1, h2, h3, hs, fun k _ h4 h5 => hk k (by omega)⟩
/-- A part of the words is written whole. -/
theorem NorAt.words (h : NorAt base w p b S) {w' : World} (ws' : List UInt32) (hF : Fresh base 157 w' (some ⟨b, 0, none⟩) (64 * S.n) (64 * S.n) (cw ws')) (hk : ∀ k, k ≠ b → w'.heap[k]? = w.heap[k]?) : NorAt base w' p b { S with ws := ws' } :=
  ⟨h.obj.kept (hk p h.ne), hF, h.ne, h.n_le, h.left_le⟩
/-- A part of a block of this call's own is written whole. -/
theorem wpList_storeN {P : Program} {ops : Array Oper} {rest : List Oper} {o : Oper} {a : Act} {Q : Exit → Act → World → Prop} (hg : o.guard = none) (hd : o.dst = none) (x v : Operand) (T : TypeId) (hop : o.op = .store T x v) (g off base : Nat) (t : TypeId) (n : Nat) (cur ys : List Value) (hx : a.eval x = .pointer (some ⟨g, off, none⟩)) (hv : a.eval v = .agg ys.toArray)
    (m : Nat) (hm : ys.length = m) (hT : aggB P T m = true) (hF : Fresh base t w (some ⟨g, 0, none⟩) n n cur) (hfit : off + m ≤ n) (h1 : ∀ u ∈ ys, u.oneCell' = true)
    (hK : ∀ w', Fresh base t w' (some ⟨g, 0, none⟩) n n (splice cur off ys) → w'.os = w.os → w'.tape = w.tape → w'.output = w.output → w.heap.size ≤ w'.heap.size → (∀ k, k ≠ g → w'.heap[k]? = w.heap[k]?) → wpList P ops Q rest a w') : wpList P ops Q (o :: rest) a w := by
  subst hm
  have hT' : (P.info? T).map (·.size) = some ys.length := by
    unfold aggB at hT
    simp only [Bool.and_eq_true, beq_iff_eq] at hT
    exact hT.2
  refine wpList_plain hg fun K hK' => ?_
  unfold Oper.wp
  rw [run_store_agg x v T hop hx ys hv hT' hF hfit h1]
  have hl := hF.len
  have h := hK _ (hF.setRow (by rw [length_splice _ _ _ (by omega)]; exact hl)) rfl rfl rfl (by simp) (fun k hk => setRow_other w g k _ hk)
  have h' := hK' _ _ h
  have e : a.put o.dst undef = a := by simp [Act.put, hd]
  simp only [Oper.upon]
  first | exact h' | (rw [e]; exact h')
def eraFacts (p b n : Nat) (s : Int) (j : Nat) (v : Value) (w : World) : Prop :=
  match j with
  | 0 => v = .pointer (some ⟨p, 0, none⟩)
  | 1 => v = .pointer (some ⟨p, 0, none⟩)
  | 2 => v = .pointer (some ⟨p, 1, none⟩)
  | 3 => v = .slice (some ⟨b, 0, none⟩) n n
  | 4 => v = .int .i64 s
  | 5 => v = .agg (cw ones64).toArray
  | 6 => v = .pointer (some ⟨b, s.toNat * 64, none⟩)
  | _ => True
theorem eraFacts_stab (p b n : Nat) (s : Int) : ∀ j v w w', Below w.heap.size w w' → eraFacts p b n s j v w → eraFacts p b n s j v w' := by
  intro j v w w' hb h
  exact h
set_option maxHeartbeats 1000000 in
set_option maxRecDepth 100000 in
theorem Erase_any (h : NorAt base w p b S) (s : Int) (S' : Fl) (r : Nat) (hr : S.erase s = (S', r)) (hs : -9223372036854775808 ≤ s ∧ s < 9223372036854775808) :
    Calls Try.prog 41 #[.pointer (some ⟨p, 0, none⟩), .int .i64 s] w
      fun e w' => e = .returned (.int .i64 (r : Int)) ∧ NorAt base w' p b S' ∧ But p b w w' := by
  have hpw := power_any h
  have hse := hasSector_any h s
  unfold Fl.erase at hr
  cases hd : S.down
  · rw [show S.power = 0 from by simp [Fl.power, hd]] at hpw
    cases hp : S.sector s
    · obtain ⟨rfl, rfl⟩ : S = S' ∧ 2 = r := by simpa [hd, hp] using hr
      rw [hp] at hse
      clear hr hd hp hs
      go_enter Try.func41, Try.ntmps41
      go_wp2_with fail
      refine hpw.mono ?_
      rintro e w1 ⟨rfl, rfl⟩
      go_wp2_with fail
      refine hse.mono ?_
      rintro e w2 ⟨rfl, rfl⟩
      go_wp2_with fail
      go_ret
      exact ⟨rfl, h, But.refl _ _ _⟩
    · rw [hp] at hse
      obtain ⟨T, q, hq⟩ : ∃ T q, S.step = (T, q) := ⟨_, _, rfl⟩
      have hTn : T.n = S.n := by have := Fl.step_n S; rw [hq] at this; exact this
      have hst := step_any h T q hq
      have h2 : ∃ σ : Nat, s = (σ : Int) ∧ σ < S.n := by
        simp [Fl.sector] at hp
        obtain ⟨σ, rfl⟩ := Int.eq_ofNat_of_zero_le hp.1
        exact ⟨σ, rfl, by omega⟩
      obtain ⟨σ, rfl, hσ⟩ := h2
      simp only [hd, hp, hq] at hr
      clear hd hp hs
      cases q
      · simp only [Prod.mk.injEq] at hr
        obtain ⟨rfl, rfl⟩ := hr
        go_enter Try.func41, Try.ntmps41
        go_wp2_with fail
        refine hpw.mono ?_
        rintro e w1 ⟨rfl, rfl⟩
        go_wp2_with fail
        refine hse.mono ?_
        rintro e w2 ⟨rfl, rfl⟩
        go_wp2_with fail
        refine hst.mono ?_
        rintro e w3 ⟨rfl, hT, hBt⟩
        obtain ⟨-, -, -, -, -, -, c6⟩ := hT.c
        have z6 := hT.z 6
        clear hpw hse hst
        go_wp2_with fail
        go_ret
        exact ⟨rfl, hT.field 6 _ _ rfl rfl rfl hT.left_le, hBt.then_ (But.set p b p 6 _ (.inl rfl))⟩
      · simp only [Prod.mk.injEq] at hr
        obtain ⟨rfl, rfl⟩ := hr
        go_enter Try.func41, Try.ntmps41
        go_wp2_with fail
        refine hpw.mono ?_
        rintro e w1 ⟨rfl, rfl⟩
        go_wp2_with fail
        refine hse.mono ?_
        rintro e w2 ⟨rfl, rfl⟩
        go_wp2_with fail
        refine hst.mono ?_
        rintro e w3 ⟨rfl, hT, hBt⟩
        clear hpw hse hst
        go_wp2_with fail
        refine region_all_tail 7 (eraFacts p b S.n (σ : Int)) (by kernel_rfl) (by kernel_rfl) (by kernel_rfl) (eraFacts_stab _ _ _ _) ?_ ?_
        · intro w0 hb0
          simp only [List.take_succ_cons, List.take_zero]
          refine ⟨?_, ?_, ?_, ?_, ?_, ?_, ?_, trivial⟩
          all_goals intro listed a1 w' hk hd
          · have f2 := hk.ev_old 0 (by kernel_rfl)
            exact stepOk_value rfl (v := .pointer (some ⟨p, 0, none⟩)) (by simp [execOp]; exact f2) rfl
          · obtain ⟨v, e0, _, rfl⟩ := hk.ev_new hd 0 22 (by kernel_rfl) rfl
            exact stepOk_value rfl (v := .pointer (some ⟨p, 0, none⟩)) (by go_simp) rfl
          · obtain ⟨v, e0, _, rfl⟩ := hk.ev_new hd 1 23 (by kernel_rfl) rfl
            exact stepOk_value rfl (v := .pointer (some ⟨p, 1, none⟩)) (by go_simp) rfl
          · obtain ⟨v, e0, _, rfl⟩ := hk.ev_new hd 2 24 (by kernel_rfl) rfl
            obtain ⟨-, c1, -⟩ := ((hT.below hb0).below hk.below).c
            rw [hTn] at c1
            exact stepOk_value rfl (v := .slice (some ⟨b, 0, none⟩) S.n S.n) (by go_simp) rfl
          · have f2 := hk.ev_old 1 (by kernel_rfl)
            exact stepOk_value rfl (v := .int .i64 (σ : Int)) (by simp [execOp]; exact f2) rfl
          · refine stepOk_enter rfl (f := 99) (args := #[]) (by go_simp) ?_
            refine (erased_any _).mono ?_
            rintro e w5 ⟨rfl, hB5⟩
            exact ⟨_, rfl, rfl, hB5⟩
          · obtain ⟨v, e0, _, rfl⟩ := hk.ev_new hd 3 25 (by kernel_rfl) rfl
            obtain ⟨v, e1, _, rfl⟩ := hk.ev_new hd 4 26 (by kernel_rfl) rfl
            exact stepOk_value rfl (v := .pointer (some ⟨b, σ * 64, none⟩)) (by go_simp) (by simp [eraFacts])
        · intro a1 w' hbw hp
          obtain ⟨v0, p0, v1, p1, v2, p2, v3, p3, v4, p4, v5, p5, v6, p6, rfl⟩ := hp
          simp only [eraFacts] at p0 p1 p2 p3 p4 p5 p6
          subst p0 p1 p2 p3 p4 p5 p6
          simp only [List.drop_succ_cons, List.drop_zero, Act.put, List.setIfInBounds_toArray, List.set_cons_succ, List.set_cons_zero, Int.toNat_natCast]
          have hT5 := hT.below hbw
          have hrow := hT5.row
          rw [hTn] at hrow
          refine wpList_storeN rfl rfl (.tmp 28) (.tmp 27) 157 rfl b (σ * 64) base 157 (64 * S.n) (cw T.ws) (cw ones64) rfl rfl 64 (by simp) (by kernel_rfl) hrow (by omega) (cw_one _) ?_
          intro w7 hF7 o1 o2 o3 o4 o5
          rw [show splice (cw T.ws) (σ * 64) (cw ones64) = cw (splice T.ws (σ * 64) ones64) from by simp [splice, cw], ← hTn] at hF7
          have hT7 := hT5.words _ hF7 o5
          have hB7 := hBt.then_ ((But.of_below hbw).then_ (But.row p b b #[] (.inr rfl) _ _ o1 o2 o3 o4 o5))
          go_wp2_with fail
          go_ret
          exact ⟨rfl, hT7, hB7⟩
  · rw [show S.power = 40 from by simp [Fl.power, hd]] at hpw
    obtain ⟨rfl, rfl⟩ : S = S' ∧ 40 = r := by simpa [hd] using hr
    clear hr hd hs
    go_enter Try.func41, Try.ntmps41
    go_wp2_with fail
    refine hpw.mono ?_
    rintro e w1 ⟨rfl, rfl⟩
    go_wp2_with fail
    go_ret
    exact ⟨rfl, h, But.refl _ _ _⟩
end
end Go.Proofs.Ytjmofjcdcmbecaa
