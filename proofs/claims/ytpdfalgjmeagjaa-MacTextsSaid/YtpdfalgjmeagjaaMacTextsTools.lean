/-
  Laws for the walk of MacTexts: cutting lists of parts, appending them, and what SameBytes answers.
-/
import Derived.Test.YtpdfalgjmeagjaaSameLists
import Derived.Test.YtpdfalgjmeagjaaPartsOpen
import Derived.Test.YtpdfalgjmeagjaaParts
import Derived.Test.YtpdfalgjmeagjaaMacAwake
import Derived.Test.YtpdfalgjmeagjaaSlice
import Derived.Test.YtpdfalgjmeagjaaRegion
namespace Go.Proofs.Ytpdfalgjmeagjaa
open Go.RowKit
set_option linter.unusedVariables false

/-- 'l[k:]' of a list of byte strings. -/
theorem run_fromL (g o n c k : Nat) (hk : k ≤ n) (hc : n ≤ c) :
    ∃ ad : Addr, (∀ w, (Instr.slice 48 (.slice (some ⟨g, o, none⟩) n c) (some (.int .i64 (k : Int))) none none).run Try.prog w = .ok (.slice (some ad) (n - k) (c - k)) w) ∧ ∀ (w : World) (B : Nat) (xs : List Value), xs.length = n → Sees w B (some ⟨g, o, none⟩) xs → ∀ j u, (xs.drop k)[j]? = some u → w.cell? (ad.add j) = some u := by
  have hz : ∀ w, (sizeOf (Try.prog.elem 48)).run Try.prog w = .ok 1 w := fun w => by kernel_rfl
  have he : Try.prog.underlying 48 = some (.slice (Try.prog.elem 48)) := by kernel_rfl
  have hr : ∀ w, (Instr.slice 48 (.slice (some ⟨g, o, none⟩) n c) (some (.int .i64 (k : Int))) none none).run Try.prog w = .ok (sliced (some ⟨g, o, none⟩) k n c 1) w := fun w => by
    rw [run_slice_l w 48 _ n c he .i64 (k : Int) (by omega) (by omega), hz]
    simp only [Result.andThen, Int.toNat_natCast]
  by_cases hkc : k = c
  · subst hkc
    refine ⟨⟨g, o, none⟩, fun w => ?_, fun w B xs hl hs j u hj => ?_⟩
    · rw [hr]
      simp [sliced]
    · rw [List.drop_of_length_le (by omega)] at hj
      simp at hj
  · refine ⟨⟨g, o + k, none⟩, fun w => ?_, fun w B xs hl hs j u hj => ?_⟩
    · rw [hr]
      simp [sliced, Ne.symm hkc, Addr.add]
    · have hlt : 0 < (xs.drop k).length := by have := (List.getElem?_eq_some_iff.1 hj).1; omega
      obtain ⟨b, o', e, _, hcell⟩ := (hs.drop_ k) hlt
      obtain ⟨rfl, rfl⟩ : g = b ∧ o + k = o' := by simpa using e
      rw [Addr.add_lit]
      exact hcell j u hj
theorem infoL : (Try.prog.info? 27).map (fun i => (i.zero, i.size, i.bytes)) = some (some (.slice none 0 0), 1, 24) := by kernel_rfl
/-- Rows put behind a slice of this call's own. -/
theorem wpList_rows {w : World} {ops : Array Oper} {rest : List Oper} {o : Oper} {a : Act} {Q : Exit → Act → World → Prop} (hg : o.guard = none) (s x : Operand)
    (hop : o.op = .call { callee := .builtin .append, args := #[s, x], argTypes := #[48, 48] })
    (D : Option Addr) (n c m d : Nat) (ad : Addr) (cur news : List Value) (w0 : World) (hs : a.eval s = .slice D n c) (hx : a.eval x = .slice (some ad) m d) (hF : Fresh w0.heap.size 27 w D n c cur) (hc : ∀ j u, news[j]? = some u → w.cell? (ad.add j) = some u) (hl : news.length = m) (h1 : ∀ u ∈ news, u.oneCell' = true) (hn : n + m ≤ 1000) (hb : Below w0.heap.size w0 w)
    (hK : ∀ A' c' w', Fresh w0.heap.size 27 w' A' (n + m) c' (cur ++ news) → Below w0.heap.size w0 w' → w.grownBy w' (Value.slice D n c).ownBlock → wpList Try.prog ops Q rest (a.put o.dst (.slice A' (n + m) c')) w') :
    wpList Try.prog ops Q (o :: rest) a w := by
  obtain ⟨i0, hi, hz0, hz1, hz2⟩ := info_parts infoL
  refine wpList_append_own w hg s x 48 hop w0.heap.size 27 i0 (.slice none 0 0) 1 24 Try.underlying48 hi hz0 hz1 hz2 rfl (by omega) _ n cur hs hF ad m d news hx (by simpa using hl) hc h1 (by unfold maxLen; omega) (by omega) hb.size ?_
  intro v' w' hown hgr hnil
  have hB : Below w0.heap.size w0 w' := hb.grown hgr hb.size (fun k hk => (hF.lt k hk).1)
  rcases hown.2 with ⟨rfl, h0⟩ | ⟨g', cap, cu, rfl, _⟩
  · have e : n + m = 0 := by
      have h2 := hown.1
      rw [h0] at h2
      simp at h2
      omega
    have en : n = 0 := by omega
    have em : m = 0 := by omega
    subst en em
    exact hK none 0 w' hown hB hgr
  · exact hK _ cap w' hown hB hgr
/-- What the operations of cutting the first part in two yield. -/
def txFacts (N g o nX cX : Nat) (p : Pb) (e : Nat) (A' : Option Addr) (X' : Addr) (j : Nat) (v : Value) (w : World) : Prop := match j with
  | 0 => v = .slice none 0 0
  | 1 => v = .slice (some ⟨g, o, none⟩) nX cX
  | 2 => v = .pointer (some ⟨g, o, none⟩)
  | 3 => v = .slice p.A p.m p.c
  | 4 => v = .int .i64 (e : Int)
  | 5 => v = .slice p.A e p.c
  | 6 => v = .slice (some ⟨g, o, none⟩) nX cX
  | 7 => v = .pointer (some ⟨g, o, none⟩)
  | 8 => v = .slice p.A p.m p.c
  | 9 => v = .int .i64 (e : Int)
  | 10 => v = .slice A' (p.m - e) (p.c - e)
  | 11 => ∃ g1, v = .slice (some ⟨g1, 0, none⟩) 2 2 ∧ Sees w w.heap.size (some ⟨g1, 0, none⟩) [.slice p.A e p.c, .slice A' (p.m - e) (p.c - e)]
  | 12 => ∃ A c, v = .slice A 2 c ∧ Fresh N 27 w A 2 c [.slice p.A e p.c, .slice A' (p.m - e) (p.c - e)]
  | 13 => v = .slice (some ⟨g, o, none⟩) nX cX
  | 14 => v = .slice (some X') (nX - 1) (cX - 1)
  | 16 => v = .slice none 0 0
  | _ => True
theorem txFacts_stab (N g o nX cX : Nat) (p : Pb) (e : Nat) (A' : Option Addr) (X' : Addr) : ∀ j v w w', Below w.heap.size w w' → txFacts N g o nX cX p e A' X' j v w → txFacts N g o nX cX p e A' X' j v w' := by
  intro j v w w' hb h
  unfold txFacts at *
  split at h
  all_goals first
    | exact h
    | (obtain ⟨g1, h1, h2⟩ := h; exact ⟨g1, h1, h2.step hb⟩)
    | (obtain ⟨A, c, h1, h2⟩ := h; exact ⟨A, c, h1, h2.below hb⟩)
    | trivial
theorem SameBytes_is (A B : Option Addr) (c d n m : Nat) (l b : List UInt8) (w : World) (hs : Sees w w.heap.size A (cb l)) (ht : Sees w w.heap.size B (cb b)) (hl : l.length = n) (hm : b.length = m) (r : Bool) (hr : (l == b) = r) :
    Calls Try.prog 18 #[.slice A n c, .slice B m d] w fun e w' => e = .returned (.bool r) ∧ ∃ k, w' = w.drewN k := by
  subst hr
  refine (SameBytes_any A B c d n m l b w hs ht hl hm).mono ?_
  rintro e w' ⟨rfl, rfl⟩
  exact ⟨rfl, 0, rfl⟩
theorem stepOk_append {P : Program} {ops : Array Oper} {Q : Exit → Act → World → Prop} {pr : Nat → Value → World → Prop} {i : Nat} {o : Oper} {a : Act} {w : World} (hg : o.guard = none) (s x : Operand) (T e : TypeId) (z : Value) (by_ : Nat)
    (hop : o.op = .call { callee := .builtin .append, args := #[s, x], argTypes := #[T, T] }) (hT : P.underlying T = some (.slice e)) (hI : (P.info? e).map (fun i => (i.zero, i.size, i.bytes)) = some (some z, 1, by_)) (hz : z.cells.size = 1) (hby : by_ ≤ 64)
    (ad : Addr) (m d N : Nat) (news : List Value) (hs : a.eval s = .slice none 0 0) (hx : a.eval x = .slice (some ad) m d) (hc : ∀ j u, news[j]? = some u → w.cell? (ad.add j) = some u) (hl : news.length = m) (h1 : ∀ u ∈ news, u.oneCell' = true) (hm0 : 0 < m) (hm : m ≤ 1000) (hN : N ≤ w.heap.size)
    (hp : ∀ A c w', Fresh N e w' A m c news → Below w.heap.size w w' → pr i (.slice A m c) w') : StepOk P ops Q pr i o a w := by
  obtain ⟨i0, hi, h2⟩ := Option.map_eq_some_iff.1 hI
  simp only [Prod.mk.injEq] at h2
  obtain ⟨hz0, hz1, hz2⟩ := h2
  have hw : Region.wanted o (yielded ops a.tmps) = true := by simp [Region.wanted, hg]
  unfold StepOk
  rw [if_pos hw]
  refine wp_append_own w s x T hop N e i0 z 1 by_ hT hi hz0 hz1 hz2 hz (by omega) _ 0 [] hs (World.ownsRow_nil _ _ _ _) ad m d news hx (by simpa using hl) hc h1 (by unfold maxLen; omega) ?_ hN ?_
  · have : (0 + m) * by_ ≤ (0 + m) * 64 := Nat.mul_le_mul_left _ hby
    omega
  · intro v' w' hown hgr hnil
    rw [Nat.zero_add, List.nil_append] at hown
    have hB : Below w.heap.size w w' := (Below.refl _ _).grown hgr (Nat.le_refl _) (fun k hk => by simp [Value.ownBlock] at hk)
    rcases hown.2 with ⟨rfl, h0⟩ | ⟨g', cap, cu, rfl, _⟩
    · rw [h0] at hl
      simp at hl
      omega
    · exact ⟨_, rfl, hp _ _ _ hown hB, hB⟩
theorem cutE (z : UInt8) (m : Nat) (hm : m ≤ 100) : ∃ e : Nat, e ≤ m ∧ ((z.toNat : Int)).tmod ((m : Int) + 1) = (e : Int) := by
  refine ⟨z.toNat % (m + 1), by have := Nat.mod_lt z.toNat (show 0 < m + 1 by omega); omega, ?_⟩
  rw [Int.tmod_eq_emod_of_nonneg (by omega), show ((m : Int) + 1) = ((m + 1 : Nat) : Int) from by omega]
  omega
end Go.Proofs.Ytpdfalgjmeagjaa
