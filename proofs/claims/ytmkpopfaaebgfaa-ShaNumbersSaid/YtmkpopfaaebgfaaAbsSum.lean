/-
  sha.Sum as known ahead to the small machine: by its contract, reckoned in natural numbers.
-/
import Derived.Test.YtmkpopfaaebgfaaAbsRef
import Derived.Test.YtmkpopfaaebgfaaShaSum
namespace Go.Proofs.Ytmkpopfaaebgfaa
open Go.RowKit
set_option linter.unusedVariables false
def stM (keys : List Nat) : Nat → List Nat → List Nat → List Nat
  | 0, s, _ => s
  | n + 1, s, all => pinL (blockM keys s (all.take 64)) fun s' => stM keys n s' (all.drop 64)
theorem stM_eq (keys : List UInt32) : ∀ (n : Nat) (s : List UInt32) (all : List UInt8), s.length = 8 → 64 * n ≤ all.length → stM (keys.map UInt32.toNat) n (s.map UInt32.toNat) (all.map UInt8.toNat) = (stN keys s all n).map UInt32.toNat
  | 0, s, all, _, _ => rfl
  | n + 1, s, all, hs, h => by
    unfold stM
    rw [pinL_eq, ← List.map_take, ← List.map_drop, blockM_eq keys s (all.take 64) hs (by simp; omega), stM_eq keys n _ _ (len_blockF _ _ _ hs) (by simp; omega)]
    have := stN_more keys s all 1 n
    rw [show 1 + n = n + 1 from by omega] at this
    rw [← this]
    rfl
def sumM (keys s rest : List Nat) (n : Nat) : List Nat := digN (stM keys ((rest.length + (padL n).length) / 64) s (rest ++ (padL n).map UInt8.toNat))
theorem sumM_eq (keys s : List UInt32) (rest : List UInt8) (n : Nat) (hs : s.length = 8) : sumM (keys.map UInt32.toNat) (s.map UInt32.toNat) (rest.map UInt8.toNat) n = (sumF keys s rest n).map UInt8.toNat := by
  unfold sumM sumF stAll
  rw [← List.map_append, List.length_map, stM_eq keys _ s _ hs (by rw [List.length_append]; omega), digN_eq, List.length_append]
def restOf (h : H) : Nat → Option (Nat × Nat) → Cap → Option (List Nat)
  | 0, _, _ => some []
  | m + 1, some q, c => match h.get q.1, c.plain with
    | some x, true => match x.cells.range q.2 (m + 1) with
      | some l => natsOf .u8 256 l
      | none => none
    | _, _ => none
  | _ + 1, none, _ => none
/-- sha.Sum. -/
def knowSum : Known := fun f args h => match Nat.beq f 44, args with
  | true, [.pointer (some p), .agg [x0, x1, x2, x3, x4, x5, x6, x7, .slice a m c, .int .i64 (.ofNat n)]] => match h.get p.1 with
    | some x => match x.cells.range p.2 72 with
      | some tl => match natsOf .u32 4294967296 tl, natsOf .u32 4294967296 [x0, x1, x2, x3, x4, x5, x6, x7], restOf h m a c with
        | some tn, some sn, some rn => match Nat.ble n 72057594037927936 && Nat.beq m (n % 64) with
          | true => pinL (sumM (tn.drop 8) sn rn n) fun r => some (.agg (avsOf .u8 r), h)
          | false => none
        | _, _, _ => none
      | none => none
    | none => none
  | _, _ => none
theorem avs8 (ρ : Pos) : ∀ (us : List UInt8), conL ρ (avsOf .u8 (us.map UInt8.toNat)) = some (cb us)
  | [] => rfl
  | u :: us => conL_mk rfl (avs8 ρ us)
theorem rest_sees {ρ : Pos} {h : H} {w : World} (hm : Rel ρ h w) {m : Nat} {a : Option (Nat × Nat)} {c : Cap} {rn : List Nat} {u : Value} (hu : con ρ (.slice a m c) = some u) (e : restOf h m a c = some rn) :
    ∃ R cr rest, u = .slice R m cr ∧ rest.map UInt8.toNat = rn ∧ rest.length = m ∧ Sees w w.heap.size R (cb rest) := by
  cases m with
  | zero =>
    simp only [restOf, Option.some.injEq] at e
    subst e
    obtain ⟨a', c', rfl⟩ := con_slice_form hu
    exact ⟨a', c', [], rfl, rfl, rfl, Sees.nil⟩
  | succ m =>
    cases a with
    | none => cases e
    | some q =>
      simp only [restOf] at e
      split at e
      · rename_i x hx hpl
        split at e
        · rename_i l hl
          obtain ⟨g, C, q1, rfl⟩ := con_sl hu
          obtain ⟨bs, b1, b2⟩ := nats8 (ρ := ρ) e
          obtain ⟨g', C', vs', r1, r2, r3⟩ := hm.cells hx hl
          rw [q1] at r1
          simp at r1
          obtain ⟨rfl, rfl⟩ := r1
          rw [b2] at r2
          simp at r2
          subst r2
          have hglt : g < w.heap.size := by
            obtain ⟨g2, C2, _, _, y1, y2, _⟩ := hm.at_ _ x hx
            rw [q1] at y1
            simp at y1
            rw [y1.1]
            exact (Array.getElem?_eq_some_iff.1 y2).1
          refine ⟨_, _, bs, rfl, b1, ?_, fun _ => ⟨g, c.off C q.2, rfl, hglt, fun j u hj => by
            rw [Cap.plain_off hpl]
            exact r3 j u hj⟩⟩
          have h1 := conL_length b2
          have h2 := (Cel.range_get hl).1
          rw [← h2, ← h1]
          simp [cb]
        · cases e
      · cases e
theorem knowSum_ok : Known.Ok Try.prog knowSum := by
  intro f args h r h' e
  unfold knowSum at e
  split at e
  · rename_i p x0 x1 x2 x3 x4 x5 x6 x7 a m c n hf
    have hf := Nat.eq_of_beq_eq_true hf
    subst hf
    split at e
    · rename_i x hx
      split at e
      · rename_i tl htl
        split at e
        · rename_i tn sn rn ht hs hrn
          split at e
          · rename_i hl
            simp only [Bool.and_eq_true] at hl
            rw [pinL_eq] at e
            simp only [Option.some.injEq, Prod.mk.injEq] at e
            obtain ⟨rfl, rfl⟩ := e
            refine CallTo.of_below fun ρ w vs hc hm => ?_
            obtain ⟨u1, us1, c1, k1, rfl⟩ := conL_cons hc
            obtain ⟨u2, us2, c2, k2, rfl⟩ := conL_cons k1
            simp [conL] at k2
            subst k2
            obtain ⟨g, C, q1, rfl⟩ := con_ptr c1
            obtain ⟨xs2, a2, rfl⟩ := con_agg c2
            obtain ⟨v0, z0, d0, j0, rfl⟩ := conL_cons a2
            obtain ⟨v1, z1, d1, j1, rfl⟩ := conL_cons j0
            obtain ⟨v2, z2, d2, j2, rfl⟩ := conL_cons j1
            obtain ⟨v3, z3, d3, j3, rfl⟩ := conL_cons j2
            obtain ⟨v4, z4, d4, j4, rfl⟩ := conL_cons j3
            obtain ⟨v5, z5, d5, j5, rfl⟩ := conL_cons j4
            obtain ⟨v6, z6, d6, j6, rfl⟩ := conL_cons j5
            obtain ⟨v7, z7, d7, j7, rfl⟩ := conL_cons j6
            obtain ⟨v8, z8, d8, j8, rfl⟩ := conL_cons j7
            obtain ⟨v9, z9, d9, j9, rfl⟩ := conL_cons j8
            simp [conL] at j9
            subst j9
            simp only [con, Option.some.injEq] at d9
            subst d9
            obtain ⟨R, cr, rest, rfl, hr1, hr2, hsee⟩ := rest_sees hm d8 hrn
            obtain ⟨ts, t1, t2⟩ := nats32 (ρ := ρ) ht
            obtain ⟨ss, s1, s2⟩ := nats32 (ρ := ρ) hs
            have h8 : conL ρ [x0, x1, x2, x3, x4, x5, x6, x7] = some [v0, v1, v2, v3, v4, v5, v6, v7] :=
              conL_mk d0 (conL_mk d1 (conL_mk d2 (conL_mk d3 (conL_mk d4 (conL_mk d5 (conL_mk d6 (conL_mk d7 rfl)))))))
            rw [h8] at s2
            simp only [Option.some.injEq] at s2
            have hsl : ss.length = 8 := by
              have := congrArg List.length s2
              simpa [cw] using this.symm
            have htl2 : ts.length = 72 := by
              have h1 := conL_length t2
              have h2 := (Cel.range_get htl).1
              rw [← h2, ← h1]
              simp [cw]
            obtain ⟨g', C', vs', r1, r2, r3⟩ := hm.cells hx htl
            rw [q1] at r1
            simp at r1
            obtain ⟨rfl, rfl⟩ := r1
            rw [t2] at r2
            simp at r2
            subst r2
            have hglt : g < w.heap.size := by
              obtain ⟨g2, C2, _, _, y1, y2, _⟩ := hm.at_ _ x hx
              rw [q1] at y1
              simp at y1
              rw [y1.1]
              exact (Array.getElem?_eq_some_iff.1 y2).1
            have tab : Tab w g p.2 (ts.take 8) (ts.drop 8) := ⟨by simp [htl2], by simp [htl2], by
              rw [List.take_append_drop]
              intro _
              exact ⟨g, p.2, rfl, hglt, fun j u hj => r3 j u hj⟩⟩
            have hn1 := Nat.le_of_ble_eq_true hl.1
            have hn2 := Nat.eq_of_beq_eq_true hl.2
            have hright : Right m (n : Int) := ⟨by omega, by omega, by omega⟩
            refine ⟨.agg (cb (sumF (ts.drop 8) ss rest n)).toArray, ?_, ?_⟩
            · rw [← t1, ← s1, ← hr1, ← List.map_drop, sumM_eq _ _ _ _ hsl]
              simp [con, avs8]
            · have := Sum_any g p.2 (ts.take 8) (ts.drop 8) ss R m cr n rest w tab hsl hright hsee hr2
              have e9 : [v0, v1, v2, v3, v4, v5, v6, v7, Value.slice R m cr, Value.int IntKind.i64 (Int.ofNat n)] = hz ss (.slice R m cr) (n : Int) := by
                show [v0, v1, v2, v3, v4, v5, v6, v7] ++ [Value.slice R m cr, Value.int IntKind.i64 (Int.ofNat n)] = _
                rw [s2]
                rfl
              rw [e9]
              exact this
          · cases e
        · cases e
      · cases e
    · cases e
  · cases e
/-- All of them. -/
def knowAll : Known := fun f args h => match Nat.beq f 44 with
  | true => knowSum f args h
  | false => knowSha f args h
theorem knowAll_ok : Known.Ok Try.prog knowAll := by
  intro f args h r h' e
  unfold knowAll at e
  split at e
  · exact knowSum_ok f args h r h' e
  · exact knowSha_ok f args h r h' e
end Go.Proofs.Ytmkpopfaaebgfaa
