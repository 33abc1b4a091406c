/-
  What GetBlob of package bytes answers, for every input: the string at a place, in new memory, or the error that chapter 1 asks.
-/
import Derived.Test.YtpdfalgjmeagjaaGetUint
import Derived.Test.YtpdfalgjmeagjaaWrite
namespace Go.Proofs.Ytpdfalgjmeagjaa
open Go.RowKit
set_option linter.unusedVariables false

theorem guF_ok : ∀ f l i a, (guF f l i a).2.2 = 0 → i + 1 ≤ (guF f l i a).2.1 ∧ (guF f l i a).2.1 ≤ i + l.length ∧ (i + f = 10 → a < 128 ^ i → (guF f l i a).1 < 18446744073709551616)
  | 0, _, _, _, h => by simp [guF] at h
  | _ + 1, [], _, _, h => by simp [guF] at h
  | f + 1, c :: l, i, a, h => by
    rw [guF_cons] at h ⊢
    by_cases h1 : 128 ≤ c.toNat
    · rw [if_pos h1] at h ⊢
      have := guF_ok f l (i + 1) _ h
      refine ⟨by omega, by simp; omega, fun hi ha => this.2.2 (by omega) ?_⟩
      have h3 : c.toNat % 128 * 128 ^ i ≤ 127 * 128 ^ i := Nat.mul_le_mul_right _ (by omega)
      rw [Nat.pow_succ]
      omega
    · rw [if_neg h1] at h ⊢
      cases he : endOk c i
      · simp [he] at h
      · simp only [if_true]
        refine ⟨Nat.le_refl _, by simp, fun hi ha => ?_⟩
        by_cases h9 : i = 9
        · subst h9
          simp [endOk] at he
          subst he
          have e : (1 : UInt8).toNat * 128 ^ 9 = 9223372036854775808 := by decide
          rw [e]
          omega
        · have h3 : c.toNat * 128 ^ i ≤ 127 * 128 ^ i := Nat.mul_le_mul_right _ (by omega)
          have h4 : 128 ^ i ≤ 128 ^ 8 := Nat.pow_le_pow_right (by omega) (by omega)
          omega
theorem getU_ok {l : List UInt8} {p : Int} {x q : Nat} (h : getU l p = (x, q, 0)) : 0 ≤ p ∧ p.toNat < q ∧ q ≤ l.length ∧ x < 18446744073709551616 := by
  unfold getU at h
  cases ha : isAt l.length p
  · simp [ha] at h
  · have hp := isAt_true ha
    rw [ha, if_pos rfl] at h
    by_cases hz : (gu (l.drop p.toNat)).2.2 = 0
    · rw [if_pos hz] at h
      simp only [Prod.mk.injEq, and_true] at h
      have := guF_ok 10 _ 0 0 hz
      rw [List.length_drop] at this
      have h1 : (gu (l.drop p.toNat)).1 = (guF 10 (l.drop p.toNat) 0 0).1 := rfl
      have h2 : (gu (l.drop p.toNat)).2.1 = (guF 10 (l.drop p.toNat) 0 0).2.1 := rfl
      have h5 := this.2.2 (by omega) (by simp)
      refine ⟨hp.1, ?_, ?_, ?_⟩ <;> omega
    · rw [if_neg hz] at h
      simp only [Prod.mk.injEq] at h
      omega

theorem cb_part (l : List UInt8) (q x : Nat) : ((cb l).drop q).take x = cb ((l.drop q).take x) := by simp [cb]
theorem Sees.part {w : World} {B b o : Nat} {l : List UInt8} (h : Sees w B (some ⟨b, o, none⟩) (cb l)) (q x : Nat) : Sees w B (some ⟨b, o + q, none⟩) (cb ((l.drop q).take x)) := by
  have := (h.drop_ q).take_ x
  rwa [cb_part] at this

/-- A list in new memory, a place, an error. -/
def Tells (w : World) (r : List UInt8 × Nat × Nat) (e : Ending) (w' : World) : Prop :=
  ∃ A c, e = .returned (.tuple #[.slice A r.1.length c, .int .i64 (r.2.1 : Int), .int .i64 (r.2.2 : Int)]) ∧ Fresh w.heap.size 5 w' A r.1.length c (cb r.1) ∧ Below w.heap.size w w'


end Go.Proofs.Ytpdfalgjmeagjaa
