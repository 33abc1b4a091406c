/-
  The document's own Block of layer 2 as known ahead to the small machine, beside sha.Block.
-/
import Derived.Test.YtmkpopfaaebgfaaAbsSha
import Derived.Test.YtmkpopfaaebgfaaRefBlock
namespace Go.Proofs.Ytmkpopfaaebgfaa
open Go.RowKit
set_option linter.unusedVariables false
def Cap.plain : Cap → Bool
  | .gone _ _ => false
  | _ => true
theorem Cap.plain_off {c : Cap} (h : c.plain = true) (C o : Nat) : c.off C o = o := by
  cases c <;> first | rfl | cases h
/-- blockhouseref02.Block. -/
def knowRef : Known := fun f args h => match Nat.beq f 54, args with
  | true, [.agg t, .agg s, .slice (some p) n c] => match h.get p.1, c.plain with
    | some x, true => match x.cells.range p.2 64 with
      | some bl => match natsOf .u32 4294967296 t, natsOf .u32 4294967296 s, natsOf .u8 256 bl with
        | some tn, some sn, some bn => match Nat.beq n 64 && (Nat.beq tn.length 72 && Nat.beq sn.length 8) with
          | true => pinL (blockM (tn.drop 8) sn bn) fun r => some (.agg (avsOf .u32 r), h)
          | false => none
        | _, _, _ => none
      | none => none
    | _, _ => none
  | _, _ => none
theorem knowRef_ok : Known.Ok Try.prog knowRef := by
  intro f args h r h' e
  unfold knowRef at e
  split at e
  · rename_i t s p n c hf
    have hf := Nat.eq_of_beq_eq_true hf
    subst hf
    split at e
    · rename_i x hx hpl
      split at e
      · rename_i bl hbl
        split at e
        · rename_i tn sn bn ht hs hb
          split at e
          · rename_i hl
            simp only [Bool.and_eq_true] at hl
            have hn := Nat.eq_of_beq_eq_true hl.1
            subst hn
            rw [pinL_eq] at e
            simp only [Option.some.injEq, Prod.mk.injEq] at e
            obtain ⟨rfl, rfl⟩ := e
            refine CallTo.of_below fun ρ w vs hc hm => ?_
            obtain ⟨u1, us1, c1, k1, rfl⟩ := conL_cons hc
            obtain ⟨u2, us2, c2, k2, rfl⟩ := conL_cons k1
            obtain ⟨u3, us3, c3, k3, rfl⟩ := conL_cons k2
            simp [conL] at k3
            subst k3
            obtain ⟨xs1, a1, rfl⟩ := con_agg c1
            obtain ⟨xs2, a2, rfl⟩ := con_agg c2
            obtain ⟨g, C, q1, rfl⟩ := con_sl c3
            obtain ⟨ts, t1, t2⟩ := nats32 (ρ := ρ) ht
            obtain ⟨ss, s1, s2⟩ := nats32 (ρ := ρ) hs
            obtain ⟨bs, b1, b2⟩ := nats8 (ρ := ρ) hb
            rw [a1] at t2
            rw [a2] at s2
            simp at t2 s2
            subst t2 s2
            have htl : ts.length = 72 := by rw [← t1] at hl; simpa using hl.2.1
            have hsl : ss.length = 8 := by rw [← s1] at hl; simpa using hl.2.2
            have hbl2 : bs.length = 64 := by
              have h1 := conL_length b2
              have h2 := (Cel.range_get hbl).1
              rw [← h2, ← h1]
              simp [cb]
            obtain ⟨g', C', vs', r1, r2, r3⟩ := hm.cells hx hbl
            rw [q1] at r1
            simp at r1
            obtain ⟨rfl, rfl⟩ := r1
            rw [b2] at r2
            simp at r2
            subst r2
            have hglt : g < w.heap.size := by
              obtain ⟨g2, C2, _, _, y1, y2, _⟩ := hm.at_ _ x hx
              rw [q1] at y1
              simp at y1
              rw [y1.1]
              exact (Array.getElem?_eq_some_iff.1 y2).1
            have hsee : Sees w w.heap.size (some ⟨g, c.off C p.2, none⟩) (cb bs) := fun _ => ⟨g, c.off C p.2, rfl, hglt, fun j u hj => by
              rw [Cap.plain_off hpl]
              exact r3 j u hj⟩
            refine ⟨.agg (cw (blockF (ts.drop 8) ss bs)).toArray, ?_, ?_⟩
            · rw [← t1, ← s1, ← b1, ← List.map_drop, blockM_eq _ _ _ hsl hbl2]
              simp [con, avs32]
            · have := rBlock_any (ts.take 8) (ts.drop 8) ss (some ⟨g, c.off C p.2, none⟩) (c.at_ C) bs w (by simp [htl]) (by simp [htl]) hsl hbl2 hsee
              rwa [List.take_append_drop] at this
          · cases e
        · cases e
      · cases e
    · cases e
  · cases e
/-- Both. -/
def knowSha : Known := fun f args h => match Nat.beq f 47 with
  | true => knowBlock f args h
  | false => match Nat.beq f 54 with
    | true => knowRef f args h
    | false => none
theorem knowSha_ok : Known.Ok Try.prog knowSha := by
  intro f args h r h' e
  unfold knowSha at e
  split at e
  · exact knowBlock_ok f args h r h' e
  · split at e
    · exact knowRef_ok f args h r h' e
    · cases e
theorem follows_mixedS : Try.prog.follows .mixedOrders = true := by kernel_rfl
end Go.Proofs.Ytmkpopfaaebgfaa
