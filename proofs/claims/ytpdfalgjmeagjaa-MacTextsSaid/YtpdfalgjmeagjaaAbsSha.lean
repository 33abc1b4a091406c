/-
  sha.Block as known ahead to the small machine: by its contract, reckoned in natural numbers.
-/
import Derived.Test.YtpdfalgjmeagjaaAbsKnows
import Derived.Test.YtpdfalgjmeagjaaBlock
import Derived.Test.YtpdfalgjmeagjaaShaNat
namespace Go.Proofs.Ytpdfalgjmeagjaa
open Go.RowKit
set_option linter.unusedVariables false

/-- A block's first sixteen words. -/
def be4 : List Nat → List Nat
  | a :: b :: c :: d :: l => (((a * 256 + b) * 256 + c) * 256 + d) :: be4 l
  | _ => []
theorem be_shift (a b c d : UInt8) (t : List UInt8) (i : Nat) : be (a :: b :: c :: d :: t) (4 * (i + 1)) = be t (4 * i) := by
  unfold be
  have e : ∀ j, (a :: b :: c :: d :: t).getD (4 * (i + 1) + j) 0 = t.getD (4 * i + j) 0 := fun j => by
    rw [show 4 * (i + 1) + j = 4 * i + j + 1 + 1 + 1 + 1 from by omega]
    simp only [List.getD_cons_succ]
  have e0 := e 0
  simp only [Nat.add_zero] at e0
  rw [e0, e 1, e 2, e 3]
theorem be4_is : ∀ (n : Nat) (l : List UInt8), l.length = 4 * n → be4 (l.map UInt8.toNat) = ((List.range n).map fun i => be l (4 * i)).map UInt32.toNat
  | 0, l, h => by
    have : l = [] := List.eq_nil_of_length_eq_zero (by omega)
    subst this
    rfl
  | n + 1, l, h => by
    match l, h with
    | a :: b :: c :: d :: t, h =>
      have ih := be4_is n t (by simp at h; omega)
      rw [List.range_succ_eq_map]
      simp only [List.map_cons, List.map_map, be4]
      have h0 : (be (a :: b :: c :: d :: t) (4 * 0)).toNat = ((a.toNat * 256 + b.toNat) * 256 + c.toNat) * 256 + d.toNat := by
        unfold be
        rw [ofNat_toNat32]
        · rfl
        · show ((a.toNat * 256 + b.toNat) * 256 + c.toNat) * 256 + d.toNat < 4294967296
          have h1 := a.toNat_lt
          have h2 := b.toNat_lt
          have h3 := c.toNat_lt
          have h4 := d.toNat_lt
          omega
      rw [h0, ih]
      congr 1
      rw [List.map_map]
      apply List.map_congr_left
      intro i _
      simp only [Function.comp, Nat.succ_eq_add_one, be_shift]
theorem be4_sch (b : List UInt8) (hb : b.length = 64) : be4 (b.map UInt8.toNat) = (sch16 b).map UInt32.toNat := be4_is 16 b hb
/-- Each a numeral before it goes on. -/
def pinL {α : Type} : List Nat → (List Nat → α) → α
  | [], k => k []
  | x :: l, k => pin x fun y => pinL l fun ys => k (y :: ys)
theorem pinL_eq {α : Type} : ∀ (l : List Nat) (k : List Nat → α), pinL l k = k l
  | [], k => rfl
  | x :: l, k => by
    unfold pinL
    rw [pin_eq, pinL_eq l]
def roundsN (keys ws : List Nat) : List Nat → List Nat
  | [a, b, c, d, e, f, g, h] => goN keys ws a b c d e f g h
  | _ => []
def blockM (keys s b : List Nat) : List Nat := List.zipWith (fun x y => (x + y) % 4294967296) (roundsN keys (schNat 48 0 (be4 b)) s) s
theorem blockM_eq (keys s : List UInt32) (b : List UInt8) (hs : s.length = 8) (hb : b.length = 64) : blockM (keys.map UInt32.toNat) (s.map UInt32.toNat) (b.map UInt8.toNat) = (blockF keys s b).map UInt32.toNat := by
  rw [blockN_eq keys s b hs]
  unfold blockM blockN
  rw [be4_sch b hb]
  match s, hs with
  | [_, _, _, _, _, _, _, _], _ => rfl
/-- sha.Block. -/
def knowBlock : Known := fun f args h => match Nat.beq f 22, args with
  | true, [.pointer (some p), .agg s, .agg b] => match h.get p.1 with
    | some x => match x.cells.range p.2 72 with
      | some tl => match natsOf .u32 4294967296 tl, natsOf .u32 4294967296 s, natsOf .u8 256 b with
        | some tn, some sn, some bn => match Nat.beq sn.length 8 && Nat.beq bn.length 64 with
          | true => pinL (blockM (tn.drop 8) sn bn) fun r => some (.agg (avsOf .u32 r), h)
          | false => none
        | _, _, _ => none
      | none => none
    | none => none
  | _, _ => none
theorem knowBlock_ok : Known.Ok Try.prog knowBlock := by
  intro f args h r h' e
  unfold knowBlock at e
  split at e
  · rename_i p s b hf
    have hf := Nat.eq_of_beq_eq_true hf
    subst hf
    split at e
    · rename_i x hx
      split at e
      · rename_i tl htl
        split at e
        · rename_i tn sn bn ht hs hb
          split at e
          · rename_i hl
            simp only [Bool.and_eq_true] at hl
            rw [pinL_eq] at e
            simp only [Option.some.injEq, Prod.mk.injEq] at e
            obtain ⟨rfl, rfl⟩ := e
            refine CallTo.of_below fun ρ w vs hc hm => ?_
            obtain ⟨u1, us1, c1, k1, rfl⟩ := conL_cons hc
            obtain ⟨u2, us2, c2, k2, rfl⟩ := conL_cons k1
            obtain ⟨u3, us3, c3, k3, rfl⟩ := conL_cons k2
            simp [conL] at k3
            subst k3
            obtain ⟨g, C, q1, rfl⟩ := con_ptr c1
            obtain ⟨xs2, a2, rfl⟩ := con_agg c2
            obtain ⟨xs3, a3, rfl⟩ := con_agg c3
            obtain ⟨ts, t1, t2⟩ := nats32 (ρ := ρ) ht
            obtain ⟨ss, s1, s2⟩ := nats32 (ρ := ρ) hs
            obtain ⟨bs, b1, b2⟩ := nats8 (ρ := ρ) hb
            rw [a2] at s2
            rw [a3] at b2
            simp at s2 b2
            subst s2 b2
            have hsl : ss.length = 8 := by rw [← s1] at hl; simpa using hl.1
            have hbl : bs.length = 64 := by rw [← b1] at hl; simpa using hl.2
            have htl2 : ts.length = 72 := by
              have h1 := conL_length t2
              have h2 := (Cel.range_get htl).1
              rw [← h2, ← h1]
              simp [cw]
            obtain ⟨g', C', vs', r1, r2, r3⟩ := hm.cells hx htl
            rw [q1] at r1
            simp at r1
            obtain ⟨rfl, rfl⟩ := r1
            rw [t2] at r2
            simp at r2
            subst r2
            have hglt : g < w.heap.size := by
              obtain ⟨g2, C2, _, _, y1, y2, _⟩ := hm.at_ _ x hx
              rw [q1] at y1
              simp at y1
              rw [y1.1]
              exact (Array.getElem?_eq_some_iff.1 y2).1
            have tab : Tab w g p.2 (ts.take 8) (ts.drop 8) := ⟨by simp [htl2], by simp [htl2], by
              rw [List.take_append_drop]
              intro _
              exact ⟨g, p.2, rfl, hglt, fun j u hj => r3 j u hj⟩⟩
            refine ⟨_, ?_, Block_any g p.2 (ts.take 8) (ts.drop 8) ss bs w tab hsl hbl⟩
            rw [← t1, ← s1, ← b1, ← List.map_drop, blockM_eq _ _ _ hsl hbl]
            simp [con, avs32]
          · cases e
        · cases e
      · cases e
    · cases e
  · cases e
end Go.Proofs.Ytpdfalgjmeagjaa
