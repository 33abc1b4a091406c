/-
  Slices of slices of words in new memory: one more row, and what is read there.
-/
import Derived.Test.YtpdfalgjmeagjaaNorSec
namespace Go.Proofs.Ytpdfalgjmeagjaa
open Go.RowKit
set_option linter.unusedVariables false

/-- One element more. -/
theorem wpList_app1 {P : Program} {w : World} {ops : Array Oper} {rest : List Oper} {o : Oper} {a : Act} {Q : Exit → Act → World → Prop} (hg : o.guard = none) (s x : Operand) (T e : TypeId) (z : Value) (by_ : Nat)
    (hop : o.op = .call { callee := .builtin .append, args := #[s, x], argTypes := #[T, T] }) (hT : P.underlying T = some (.slice e)) (hI : (P.info? e).map (fun i => (i.zero, i.size, i.bytes)) = some (some z, 1, by_)) (hz : z.cells.size = 1) (hby : by_ ≤ 64)
    (D : Option Addr) (n c g : Nat) (cur : List Value) (u : Value) (w0 : World) (hs : a.eval s = .slice D n c) (hx : a.eval x = .slice (some ⟨g, 0, none⟩) 1 1) (hF : Fresh w0.heap.size e w D n c cur) (hc : w.cell? ⟨g, 0, none⟩ = some u) (h1 : u.oneCell' = true) (hn : n ≤ 1000000) (hb : Below w0.heap.size w0 w)
    (hK : ∀ A' c' w', Fresh w0.heap.size e w' A' (n + 1) c' (cur ++ [u]) → Below w0.heap.size w0 w' → w.grownBy w' (Value.slice D n c).ownBlock → wpList P ops Q rest (a.put o.dst (.slice A' (n + 1) c')) w') :
    wpList P ops Q (o :: rest) a w := by
  obtain ⟨i0, hi, h2⟩ := Option.map_eq_some_iff.1 hI
  simp only [Prod.mk.injEq] at h2
  obtain ⟨hz0, hz1, hz2⟩ := h2
  refine wpList_append_own w hg s x T hop w0.heap.size e i0 z 1 by_ hT hi hz0 hz1 hz2 hz (by omega) _ n cur hs hF ⟨g, 0, none⟩ 1 1 [u] hx (by simp) (fun j v hj => ?_) (by simpa using h1) (by unfold maxLen; omega) ?_ hb.size ?_
  · rcases j with _ | j
    · simp at hj
      subst hj
      exact hc
    · simp at hj
  · have : (n + 1) * by_ ≤ (n + 1) * 64 := Nat.mul_le_mul_left _ hby
    omega
  · intro v' w' hown hgr hnil
    have hB : Below w0.heap.size w0 w' := hb.grown hgr hb.size (fun k hk => (hF.lt k hk).1)
    rcases hown.2 with ⟨rfl, h0⟩ | ⟨g', cap, cu, rfl, _⟩
    · simp at h0
    · exact hK _ cap w' hown hB hgr
/-- Blocks of unlike elements are unlike. -/
theorem fresh_apart {w : World} {b1 b2 : Nat} {e1 e2 : TypeId} {A B : Option Addr} {n m c d : Nat} {xs ys : List Value} (h : Fresh b1 e1 w A n c xs) (k : Fresh b2 e2 w B m d ys) (hne : e1 ≠ e2) : (Value.slice A n c).ownBlock = none ∨ (Value.slice A n c).ownBlock ≠ (Value.slice B m d).ownBlock := by
  rcases h.2 with ⟨hv, _⟩ | ⟨g, cap, cur, hv, _, hg, _⟩
  · left; rw [hv]; rfl
  · rcases k.2 with ⟨kv, _⟩ | ⟨q, cap2, cur2, kv, _, kg, _⟩
    · right; rw [hv, kv]; simp [Value.ownBlock]
    · right
      rw [hv, kv]
      simp only [Value.ownBlock, ne_eq, Option.some.injEq]
      rintro rfl
      rw [hg] at kg
      simp at kg
      exact hne kg.2
theorem Fresh.butA {w w' : World} {base : Nat} {e : TypeId} {A : Option Addr} {n c p b : Nat} {xs : List Value} (h : Fresh base e w A n c xs) (x : But p b w w') (hp : p < base) (hb : b < base) : Fresh base e w' A n c xs := by
  refine ⟨h.1, ?_⟩
  rcases h.2 with hn | ⟨g, cap, cur, hv, hbg, hg, rest⟩
  · exact .inl hn
  · exact .inr ⟨g, cap, cur, hv, hbg, by rw [x.keep g (Array.getElem?_eq_some_iff.1 hg).1 (by omega) (by omega)]; exact hg, rest⟩
/-- A row: where it lies, and its words. -/
structure Rw where
  A : Option Addr
  c : Nat
  l : List UInt32
def Rw.cell (r : Rw) : Value := .slice r.A r.l.length r.c
structure Grid (base : Nat) (w : World) (A : Option Addr) (n c : Nat) (rs : List Rw) : Prop where
  own : Fresh base 54 w A n c (rs.map Rw.cell)
  rows : ∀ r ∈ rs, Fresh base 22 w r.A r.l.length r.c (cw r.l)
section
variable {w w' : World} {base : Nat} {A : Option Addr} {n c p b : Nat} {rs : List Rw} {S : Fl}
theorem Grid.below (h : Grid base w A n c rs) (x : Below w.heap.size w w') : Grid base w' A n c rs := ⟨h.own.below x, fun r hr => (h.rows r hr).below x⟩
theorem Grid.but (h : Grid base w A n c rs) (x : But p b w w') (hp : p < base) (hb : b < base) : Grid base w' A n c rs := ⟨h.own.butA x hp hb, fun r hr => (h.rows r hr).butA x hp hb⟩
theorem Grid.lower {base' : Nat} (h : Grid base w A n c rs) (x : base' ≤ base) : Grid base' w A n c rs := ⟨h.own.lower x, fun r hr => (h.rows r hr).lower x⟩
theorem Grid.len (h : Grid base w A n c rs) : rs.length = n := by simpa using h.own.len
/-- A row, and a word of it. -/
theorem Grid.row (h : Grid base w A n c rs) {i : Nat} {r : Rw} (hr : rs[i]? = some r) : ∃ g o, A = some ⟨g, o, none⟩ ∧ w.cell? ⟨g, o + i, none⟩ = some (.slice r.A r.l.length r.c) := by
  have hi : i < (rs.map Rw.cell).length := by simpa using (List.getElem?_eq_some_iff.1 hr).1
  obtain ⟨g, o, rfl, _, hc⟩ := h.own.sees.at_ hi
  refine ⟨g, o, rfl, ?_⟩
  rw [hc]
  have := (List.getElem?_eq_some_iff.1 hr).2
  simp [this, Rw.cell]
theorem Grid.word (h : Grid base w A n c rs) {i j : Nat} {r : Rw} {x : UInt32} (hr : rs[i]? = some r) (hx : r.l[j]? = some x) : ∃ g o, r.A = some ⟨g, o, none⟩ ∧ w.cell? ⟨g, o + j, none⟩ = some (.int .u32 (x.toNat : Int)) := by
  have hf := h.rows r (List.mem_of_getElem? hr)
  obtain ⟨hj, hxe⟩ := List.getElem?_eq_some_iff.1 hx
  obtain ⟨g, o, e, _, hc⟩ := hf.sees.at_ (k := j) (by simpa using hj)
  exact ⟨g, o, e, by rw [hc]; simp [hxe]⟩
set_option maxHeartbeats 1000000 in
set_option maxRecDepth 100000 in
/-- All sectors' words. -/
theorem all_any (h : NorAt base w p b S) : Calls Try.prog 31 #[.pointer (some ⟨p, 0, none⟩)] w fun e w' => ∃ (A : Option Addr) (c : Nat) (rs : List Rw), e = .returned (.slice A S.n c) ∧ Grid w.heap.size w' A S.n c rs ∧ rs.map Rw.l = (List.range S.n).map S.words ∧ Below w.heap.size w w' := by
  have hn := h.n_le
  go_enter Try.func31, Try.ntmps31
  go_wp2_with fail
  go_loopw [3, 4] (fun v i wr => ∃ (k : Nat) (A : Option Addr) (c : Nat) (rs : List Rw), k ≤ S.n ∧ i = .int .i64 k ∧ v = .slice A k c ∧ Grid w.heap.size wr A k c rs ∧ rs.map Rw.l = (List.range k).map S.words ∧ Below w.heap.size w wr) (fun _ i _ => S.n - (intOf i).toNat)
  case atStart => exact ⟨0, none, 0, [], by omega, rfl, rfl, ⟨fresh_nil _ _ _, by simp⟩, rfl, Below.refl _ _⟩
  case round =>
    obtain ⟨k, A, c, rs, hk, rfl, rfl, hG, hrs, hB⟩ := hrel
    have HRS := Lib.hid hrs
    clear hrs
    go_wp2_with fail
    refine (Sectors_any (h.below hB)).mono ?_
    rintro e w1 ⟨rfl, rfl⟩
    by_cases hlt : k < S.n
    · obtain ⟨L, hL⟩ : ∃ L, S.words k = L := ⟨_, rfl⟩
      obtain ⟨N, hN⟩ : ∃ N, L.length = N := ⟨_, rfl⟩
      have HL := Lib.hid hL
      have HN := Lib.hid hN
      clear hL hN
      go_wp2_with fail
      refine (Sector_any (h.below hB) k N (by omega) (by rw [HL.out]; exact HN.out)).mono ?_
      rw [HL.out]
      rintro e w2 ⟨A1, c1, rfl, hF1, hB1⟩
      have hB2 := Below.then_ hB hB1
      have hG2 := hG.below hB1
      have hz := hB2.size
      have hba := below_alloc w2 (.cells #[.slice A1 N c1] 54)
      have hG3 := hG2.below hba
      have hF3 := (hF1.below hba).lower hB.size
      have hcell : (w2.alloc (.cells #[.slice A1 N c1] 54)).cell? ⟨w2.heap.size, 0, none⟩ = some (.slice A1 N c1) := by
        rw [World.cell?_alloc_mark]; rfl
      go_wp2_with (at_builtin; refine wpList_app1 rfl (.tmp 11) (.tmp 15) 60 54 (.slice none 0 0) 24 rfl Try.underlying60 (by kernel_rfl) rfl (by omega) A k c w2.heap.size _ (.slice A1 N c1) w rfl rfl hG3.own hcell rfl (by omega) (Below.then_ hB2 hba) ?_; intro A' c' w3 hF4 hB4 hgr)
      go_roundw
      case rel =>
        refine ⟨k + 1, A', c', rs ++ [⟨A1, c1, L⟩], by omega, by go_num, rfl, ⟨?_, fun r hr => ?_⟩, ?_, hB4⟩
        · rw [List.map_append]
          have e1 : [Rw.mk A1 c1 L].map Rw.cell = [.slice A1 N c1] := by simp [Rw.cell, HN.out]
          rw [e1]
          exact hF4
        · have hfr : Fresh w.heap.size 22 (w2.alloc (.cells #[.slice A1 N c1] 54)) r.A r.l.length r.c (cw r.l) := by
            rcases List.mem_append.1 hr with h1 | h1
            · exact hG3.rows r h1
            · simp at h1
              subst h1
              rw [HN.out]
              exact hF3
          exact World.ownsRow.kept hfr hgr (fresh_apart hfr hG3.own (by decide))
        · rw [List.map_append, HRS.out, List.range_succ, List.map_append]
          simp [HL.out]
      case measure => simp [intOf]; omega
    · obtain rfl : k = S.n := by omega
      go_wp2_with fail
      go_ret
      exact ⟨A, c, rs, rfl, hG, HRS.out, hB⟩
end
end Go.Proofs.Ytpdfalgjmeagjaa
