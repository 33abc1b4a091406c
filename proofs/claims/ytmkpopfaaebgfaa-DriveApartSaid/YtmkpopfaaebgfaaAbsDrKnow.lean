/-
  A drive's Read, Write, Erase and Blank, and a flash's New, as known ahead to the small machine.
-/
import Derived.Test.YtmkpopfaaebgfaaAbsDrive
import Derived.Test.YtmkpopfaaebgfaaDrOps
import Derived.Test.YtmkpopfaaebgfaaNorKnowNew
namespace Go.Proofs.Ytmkpopfaaebgfaa
open Go.RowKit
set_option linter.unusedVariables false

def pinN {α : Type} (n : Nat) (k : Nat → α) : α := match n with
  | 0 => k 0
  | m + 1 => k (m + 1)
theorem pinN_eq {α : Type} (n : Nat) (k : Nat → α) : pinN n k = k n := by cases n <;> rfl
def pinB {α : Type} (b : Bool) (k : Bool → α) : α := match b with
  | false => k false
  | true => k true
theorem pinB_eq {α : Type} (b : Bool) (k : Bool → α) : pinB b k = k b := by cases b <;> rfl
def pinI {α : Type} (i : Int) (k : Int → α) : α := match i with
  | .ofNat n => pinN n fun n => k (.ofNat n)
  | .negSucc n => pinN n fun n => k (.negSucc n)
theorem pinI_eq {α : Type} (i : Int) (k : Int → α) : pinI i k = k i := by cases i <;> simp [pinI, pinN_eq]
def pinFl {α : Type} (S : Fl) (k : Fl → α) : α := match S with
  | ⟨n, ws, g, ar, left, dn, hf⟩ => pinN n fun n => pinI g fun g => pinB ar fun ar => pinN left fun left => pinB dn fun dn => pinI hf fun hf => k ⟨n, ws, g, ar, left, dn, hf⟩
theorem pinFl_eq {α : Type} (S : Fl) (k : Fl → α) : pinFl S k = k S := by
  cases S
  simp [pinFl, pinN_eq, pinI_eq, pinB_eq]
/-- Below 2^63. -/
def smallI : Int → Bool
  | .ofNat n => Nat.blt n 9223372036854775808
  | .negSucc _ => true
theorem smallI_out {i : Int} (h : smallI i = true) : i < 9223372036854775808 := by
  cases i with
  | ofNat n => have := blt_true h; simp; omega
  | negSucc n => omega
/-- What a call that writes a flash comes to. -/
def putBack (h : H) (o q : Nat) (R : Fl × Nat) : Option (AV × H) := match R with
  | (S, e) => pinN e fun e => pinFl S fun S => forceW S.ws fun l => some (.int .i64 (Int.ofNat e), flashPut h o q S l)
theorem putBack_eq (h : H) (o q : Nat) (S : Fl) (e : Nat) : putBack h o q (S, e) = some (.int .i64 (Int.ofNat e), flashPut h o q S (cellsW S.ws)) := by
  simp only [putBack, pinN_eq, pinFl_eq, forceW_eq]
def knowDWrite (args : List AV) (h : H) : Option (AV × H) := match args with
  | [.pointer (some (d, 0)), .int .i64 a, v] => match smallI a, driveOf h d, wordsArg h v with
    | true, some (o, q, f, m, S), some ws => putBack h o q (S.dwrite f m a ws)
    | _, _, _ => none
  | _ => none
def knowDErase (args : List AV) (h : H) : Option (AV × H) := match args with
  | [.pointer (some (d, 0)), .int .i64 s] => match smallI s, driveOf h d with
    | true, some (o, q, f, m, S) => putBack h o q (S.derase f m s)
    | _, _ => none
  | _ => none
def knowDRead (args : List AV) (h : H) : Option (AV × H) := match args with
  | [.pointer (some (d, 0)), .int .i64 a, .int .i64 k] => match smallI a, driveOf h d with
    | true, some (o, q, f, m, S) => match wordsOk m a k, S.down with
      | true, false => pinN k.toNat fun n => forceW (S.at_ f a.toNat n) fun l => some (.tuple [.slice (some (h.next, 0)) n (.is n), .int .i64 0], h.push ⟨31, .list l, true, 0, true⟩)
      | _, _ => pinN (readErr S m a k) fun e => some (.tuple [.slice none 0 (.is 0), .int .i64 (Int.ofNat e)], h)
    | _, _ => none
  | _ => none
def knowDBlank (args : List AV) (h : H) : Option (AV × H) := match args with
  | [.pointer (some (d, 0)), .int .i64 a, .int .i64 k] => match smallI a, driveOf h d with
    | true, some (o, q, f, m, S) => pinB (S.blank f m a k) fun r => some (.bool r, h)
    | _, _ => none
  | _ => none
def knowDr : Known := fun f args h => match Nat.beq f 89 with
  | true => knowDWrite args h
  | false => match Nat.beq f 88 with
    | true => knowDRead args h
    | false => match Nat.beq f 90 with
      | true => knowDErase args h
      | false => match Nat.beq f 91 with
        | true => knowDBlank args h
        | false => knowNew f args h
section
variable {h h' : H} {r : AV} {args : List AV}
theorem knowDWrite_ok (e : knowDWrite args h = some (r, h')) : CallTo Try.prog 89 args h r h' := by
  unfold knowDWrite at e
  split at e
  · rename_i d a v
    split at e
    · rename_i o q f m S ws ha hd hv
      obtain ⟨S', x, hS⟩ : ∃ S' x, S.dwrite f m a ws = (S', x) := ⟨_, _, rfl⟩
      rw [hS, putBack_eq] at e
      simp only [Option.some.injEq, Prod.mk.injEq] at e
      obtain ⟨rfl, rfl⟩ := e
      intro ρ w vs hc hm hn
      obtain ⟨u1, us1, c1, k1, rfl⟩ := conL_cons hc
      obtain ⟨u2, us2, c2, k2, rfl⟩ := conL_cons k1
      obtain ⟨u3, us3, c3, k3, rfl⟩ := conL_cons k2
      simp [conL] at k3
      subst k3
      obtain ⟨dd, Cd, p, b, Cp, Cb, pd, F, hD⟩ := driveOf_in hm hd
      obtain ⟨A, n, c, rfl, hl, hnc, hOff⟩ := wordsArg_sees hm c3 hv F
      simp [con, pd] at c1 c2
      subst c1 c2
      refine (dWrite_any hD a (smallI_out ha) n c A ws hOff hl hnc S' x hS).mono ?_
      rintro e w' ⟨rfl, hD', hB⟩
      obtain ⟨R, X⟩ := flashPut_rel hm F hB hD'.nor
      exact ⟨ρ, _, rfl, rfl, R, hn, X⟩
    · cases e
  · cases e
theorem knowDErase_ok (e : knowDErase args h = some (r, h')) : CallTo Try.prog 90 args h r h' := by
  unfold knowDErase at e
  split at e
  · rename_i d s
    split at e
    · rename_i o q f m S ha hd
      obtain ⟨S', x, hS⟩ : ∃ S' x, S.derase f m s = (S', x) := ⟨_, _, rfl⟩
      have hSn : S'.n = S.n := by
        unfold Fl.derase Fl.erase at hS
        split at hS
        · simp only [Prod.mk.injEq] at hS; rw [← hS.1]
        · split at hS
          · simp only [Prod.mk.injEq] at hS; rw [← hS.1]
          · simp only [Prod.mk.injEq] at hS; rw [← hS.1]
          · have h1 := S.step_n
            revert h1 hS
            rcases S.step with ⟨T, _ | _⟩ <;> intro hS h1 <;> simp only [Prod.mk.injEq] at hS <;> rw [← hS.1] <;> exact h1
      rw [hS, putBack_eq] at e
      simp only [Option.some.injEq, Prod.mk.injEq] at e
      obtain ⟨rfl, rfl⟩ := e
      intro ρ w vs hc hm hn
      obtain ⟨u1, us1, c1, k1, rfl⟩ := conL_cons hc
      obtain ⟨u2, us2, c2, k2, rfl⟩ := conL_cons k1
      simp [conL] at k2
      subst k2
      obtain ⟨dd, Cd, p, b, Cp, Cb, pd, F, hD⟩ := driveOf_in hm hd
      simp [con, pd] at c1 c2
      subst c1 c2
      refine (dErase_any hD s (smallI_out ha) S' x hS hSn).mono ?_
      rintro e w' ⟨rfl, hD', hB⟩
      obtain ⟨R, X⟩ := flashPut_rel hm F hB hD'.nor
      exact ⟨ρ, _, rfl, rfl, R, hn, X⟩
    · cases e
  · cases e
theorem knowDRead_ok (e : knowDRead args h = some (r, h')) : CallTo Try.prog 88 args h r h' := by
  unfold knowDRead at e
  split at e
  · rename_i d a k
    split at e
    · rename_i o q f m S ha hd
      by_cases hok : wordsOk m a k = true ∧ S.down = false
      · rw [hok.1, hok.2] at e
        simp only [pinN_eq, forceW_eq, Option.some.injEq, Prod.mk.injEq] at e
        obtain ⟨rfl, rfl⟩ := e
        obtain ⟨at_, many, rfl, rfl, hfit⟩ := wordsOk_out hok.1
        simp only [Int.toNat_natCast]
        intro ρ w vs hc hm hn
        obtain ⟨u1, us1, c1, k1, rfl⟩ := conL_cons hc
        obtain ⟨u2, us2, c2, k2, rfl⟩ := conL_cons k1
        obtain ⟨u3, us3, c3, k3, rfl⟩ := conL_cons k2
        simp [conL] at k3
        subst k3
        obtain ⟨dd, Cd, p, b, Cp, Cb, pd, F, hD⟩ := driveOf_in hm hd
        simp [con, pd] at c1 c2 c3
        subst c1 c2 c3
        refine (dRead_at hD hok.2 at_ many hfit).mono ?_
        rintro e w' ⟨G, rfl, hF, hB⟩
        have hm' := hm.below hB
        have hblk := hF.block
        have hx : BlkIs (ρ.put h.next (G, 0)) 0 ⟨31, .list (cellsW (S.at_ f at_ many)), true, 0, true⟩ (cw (S.at_ f at_ many)).toArray (0, 0) := BlkIs.list (cellsW_con _) _ 0 true
        have R1 := hm'.add hn ⟨31, .list (cellsW (S.at_ f at_ many)), true, 0, true⟩ G 0 _ (0, 0) hblk.1 (fun c y D hc e => by
          obtain ⟨q', D', cu, fz, a1, a2, _⟩ := hm.at_ c y hc
          rw [e] at a1
          simp at a1
          have := (Array.getElem?_eq_some_iff.1 a2).1
          have := hblk.2
          omega) hx
        have X1 := Ext.add hm' hn ⟨31, .list (cellsW (S.at_ f at_ many)), true, 0, true⟩ rfl G 0 w (Ext.of_below hB) hblk.2
        refine ⟨_, _, ?_, rfl, R1, hn.add _ (G, 0), X1⟩
        simp [con, conL, Pos.put_self, Cap.off, Cap.at_]
      · have e' : some (AV.tuple [.slice none 0 (.is 0), .int .i64 (Int.ofNat (readErr S m a k))], h) = some (r, h') := by
          split at e
          · rename_i h1 h2
            exact absurd ⟨h1, h2⟩ hok
          · rwa [pinN_eq] at e
        simp only [Option.some.injEq, Prod.mk.injEq] at e'
        obtain ⟨rfl, rfl⟩ := e'
        refine CallTo.of_below fun ρ w vs hc hm => ?_
        obtain ⟨u1, us1, c1, k1, rfl⟩ := conL_cons hc
        obtain ⟨u2, us2, c2, k2, rfl⟩ := conL_cons k1
        obtain ⟨u3, us3, c3, k3, rfl⟩ := conL_cons k2
        simp [conL] at k3
        subst k3
        obtain ⟨dd, Cd, p, b, Cp, Cb, pd, F, hD⟩ := driveOf_in hm hd
        simp [con, pd] at c1 c2 c3
        subst c1 c2 c3
        refine ⟨_, rfl, (dRead_no hD a k (smallI_out ha) ?_).mono fun e w' ⟨h1, h2⟩ => ⟨h1, by rw [h2]; exact Below.refl _ _⟩⟩
        cases h1 : wordsOk m a k
        · exact .inl rfl
        · right
          cases h2 : S.down
          · exact absurd ⟨h1, h2⟩ hok
          · rfl
    · cases e
  · cases e
theorem knowDBlank_ok (e : knowDBlank args h = some (r, h')) : CallTo Try.prog 91 args h r h' := by
  unfold knowDBlank at e
  split at e
  · rename_i d a k
    split at e
    · rename_i o q f m S ha hd
      simp only [pinB_eq, Option.some.injEq, Prod.mk.injEq] at e
      obtain ⟨rfl, rfl⟩ := e
      refine CallTo.of_below fun ρ w vs hc hm => ?_
      obtain ⟨u1, us1, c1, k1, rfl⟩ := conL_cons hc
      obtain ⟨u2, us2, c2, k2, rfl⟩ := conL_cons k1
      obtain ⟨u3, us3, c3, k3, rfl⟩ := conL_cons k2
      simp [conL] at k3
      subst k3
      obtain ⟨dd, Cd, p, b, Cp, Cb, pd, F, hD⟩ := driveOf_in hm hd
      simp [con, pd] at c1 c2 c3
      subst c1 c2 c3
      exact ⟨_, rfl, dBlank_any hD a k (smallI_out ha) _ rfl⟩
    · cases e
  · cases e
end
theorem knowDr_ok : Known.Ok Try.prog knowDr := by
  intro f args h r h' e
  unfold knowDr at e
  split at e
  · rename_i hf
    rw [Nat.eq_of_beq_eq_true hf]
    exact knowDWrite_ok e
  · split at e
    · rename_i hf
      rw [Nat.eq_of_beq_eq_true hf]
      exact knowDRead_ok e
    · split at e
      · rename_i hf
        rw [Nat.eq_of_beq_eq_true hf]
        exact knowDErase_ok e
      · split at e
        · rename_i hf
          rw [Nat.eq_of_beq_eq_true hf]
          exact knowDBlank_ok e
        · exact knowNew_ok _ _ _ _ _ e
end Go.Proofs.Ytmkpopfaaebgfaa
