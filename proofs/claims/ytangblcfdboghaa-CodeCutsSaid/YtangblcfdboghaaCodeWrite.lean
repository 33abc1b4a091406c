/-
  Numbers written behind bytes that a captured variable holds: the closure of code.Bytes.
-/
import Derived.Test.YtangblcfdboghaaCodeMem
import Derived.Test.YtangblcfdboghaaApp1
import Derived.Test.YtangblcfdboghaaWriteU
import Derived.Test.YtangblcfdboghaaPut
import Derived.Test.YtangblcfdboghaaRegion
namespace Go.Proofs.Ytangblcfdboghaa
open Go.RowKit
set_option linter.unusedVariables false

/-- The cells of numbers of 64 bits. -/
abbrev cu (l : List Nat) : List Value := l.map fun (n : Nat) => .int .u64 (n : Int)
/-- A variable in block g holds a slice of these bytes, in memory that was made behind it. -/
def BufAt (g : Nat) (w : World) (l : List UInt8) : Prop :=
  ∃ A n c, l.length = n ∧ Fresh g 27 w (some ⟨g, 0, none⟩) 1 1 [.slice A n c] ∧ Fresh (g + 1) 5 w A n c (cb l)
theorem BufAt.below {g : Nat} {w w' : World} {l : List UInt8} (h : BufAt g w l) (x : Below w.heap.size w w') : BufAt g w' l := by
  obtain ⟨A, n, c, hl, h1, h2⟩ := h
  exact ⟨A, n, c, hl, h1.below x, h2.below x⟩
theorem digl_step {xs : List Nat} {j x : Nat} (h : xs[j]? = some x) : digl (xs.take (j + 1)) = digl (xs.take j) ++ digs x := by
  rw [List.take_add_one, h]
  simp [digl]
theorem len_digl : ∀ xs : List Nat, (digl xs).length ≤ 10 * xs.length
  | [] => by simp [digl]
  | x :: xs => by
    have h1 := len_digl xs
    have h2 := (nd_bd x).2
    simp only [digl, List.flatMap_cons, List.length_append, len_digs, List.length_cons] at h1 ⊢
    omega
/-- 'append(dst, src...)', dst in new memory (or nil), src whatever slice of bytes; what else has turned. -/
theorem wpList_app8g {w : World} {ops : Array Oper} {rest : List Oper} {o : Oper} {a : Act} {Q : Exit → Act → World → Prop} (hg : o.guard = none) (s x : Operand)
    (hop : o.op = .call { callee := .builtin .append, args := #[s, x], argTypes := #[27, 27] })
    (D A : Option Addr) (n c m d base : Nat) (cur l : List UInt8) (hs : a.eval s = .slice D n c) (hx : a.eval x = .slice A m d)
    (hF : Fresh base 5 w D n c (cb cur)) (hS : Sees w w.heap.size A (cb l)) (hl : l.length = m) (hn : n + m ≤ 1099511627776) (hb : base ≤ w.heap.size)
    (hK : ∀ A' c' w', Fresh base 5 w' A' (n + m) c' (cb (cur ++ l)) → w.grownBy w' (Value.slice D n c).ownBlock → wpList Try.prog ops Q rest (a.put o.dst (.slice A' (n + m) c')) w') :
    wpList Try.prog ops Q (o :: rest) a w := by
  obtain ⟨i0, hi, hz0, hz1, hz2⟩ := info_parts info8
  have h1 : ∀ u ∈ cb l, u.oneCell' = true := cb_one l
  have main : ∀ ad, A = some ad → (∀ j u, (cb l)[j]? = some u → w.cell? (ad.add j) = some u) → wpList Try.prog ops Q (o :: rest) a w := by
    intro ad hA hc
    refine wpList_append_own w hg s x 27 hop base 5 i0 (.int .u8 0) 1 1 Try.underlying27 hi hz0 hz1 hz2 rfl (by omega) _ n (cb cur) hs hF ad m d (cb l) (by rw [hx, hA]) (by simp [hl]) hc h1 (by unfold maxLen; omega) (by omega) hb ?_
    intro v' w' hown hgr hnil
    rw [show cb cur ++ cb l = cb (cur ++ l) from by simp [cb]] at hown
    rcases hown.2 with ⟨rfl, h0⟩ | ⟨g, cap, cu, rfl, _⟩
    · rw [h0] at hown hK
      exact hK none 0 w' hown hgr
    · exact hK _ cap w' hown hgr
  by_cases h0 : m = 0
  · subst h0
    obtain rfl : l = [] := List.eq_nil_of_length_eq_zero hl
    cases hA : A with
    | none =>
      rw [hA] at hx
      refine wpList_plain hg fun K hK' => ?_
      have hrun := none_app (d := d) (ty := o.type) hF
      unfold Oper.wp
      simp [execOp, hop, resolve, invoke, builtin, hs, hx, hrun, Result.andThen]
      have := hK D c w (by simpa using hF) ⟨rfl, rfl, rfl, Nat.le_refl _, fun _ _ _ => rfl⟩
      exact hK' _ _ (by simpa using this)
    | some ad => exact main ad hA (fun j u hj => by simp at hj)
  · obtain ⟨b, off, hA, _, hc⟩ := hS (by simp; omega)
    exact main _ hA (fun j u hj => by rw [Addr.add_lit]; exact hc j u hj)

theorem Fresh.grow_row {w w' : World} {base : Nat} {e : TypeId} {g n : Nat} {xs : List Value} {row : Option Nat} (h : Fresh base e w (some ⟨g, 0, none⟩) n n xs) (hg : w.grownBy w' row) (hne : row ≠ some g) : Fresh base e w' (some ⟨g, 0, none⟩) n n xs :=
  Fresh.of_block (by rw [hg.block g (Array.getElem?_eq_some_iff.1 h.block.1).1 (fun e => hne e.symm)]; exact h.block.1) h.block.2 h.len h.cap.2
theorem row_ne {w : World} {base : Nat} {e : TypeId} {A : Option Addr} {g n c : Nat} {xs : List Value} (h : Fresh base e w A n c xs) (hg : g < base) : (Value.slice A n c).ownBlock ≠ some g := by
  intro he
  have := (h.lt g he).1
  omega
theorem Fresh.heap {w w' : World} {base : Nat} {e : TypeId} {A : Option Addr} {n c : Nat} {xs : List Value} (h : Fresh base e w A n c xs) (hk : ∀ k, base ≤ k → w'.heap[k]? = w.heap[k]?) : Fresh base e w' A n c xs := by
  refine ⟨h.1, ?_⟩
  rcases h.2 with hn | ⟨g, cap, cur, hv, hbg, hg, rest⟩
  · exact .inl hn
  · exact .inr ⟨g, cap, cur, hv, hbg, by rw [hk g hbg]; exact hg, rest⟩

/-- What the operations of one round yield. -/
def wrFacts (base : Nat) (A : Option Addr) (n c x : Nat) (k : Nat) (v : Value) (w : World) : Prop :=
  match k with
  | 0 => v = .slice A n c
  | 1 => v = .int .u64 (x : Int)
  | 2 => ∃ B d, v = .slice B (nd x) d ∧ Fresh base 5 w B (nd x) d (cb (digs x))
  | _ => True
theorem wrFacts_stab (base : Nat) (A : Option Addr) (n c x : Nat) : ∀ j v w w', Below w.heap.size w w' → wrFacts base A n c x j v w → wrFacts base A n c x j v w' := by
  intro j v w w' hb h
  match j with
  | 0 => exact h
  | 1 => exact h
  | 2 => obtain ⟨B, d, h1, h2⟩ := h; exact ⟨B, d, h1, h2.below hb⟩
  | _ + 3 => trivial

set_option maxHeartbeats 4000000 in
set_option maxRecDepth 100000 in
theorem write_any (g bn k : Nat) (xs : List Nat) (l : List UInt8) (w : World) (hX : Fresh (g + 1) 74 w (some ⟨bn, 0, none⟩) k k (cu xs)) (hxs : ∀ x ∈ xs, x < 18446744073709551616) (hB : BufAt g w l) (hl : l.length + 10 * k ≤ 549755813888) :
    Calls Try.prog 37 #[.slice (some ⟨bn, 0, none⟩) k k, .pointer (some ⟨g, 0, none⟩)] w fun e w' => e = .returned (.tuple #[]) ∧ BufAt g w' (l ++ digl xs) ∧ Below g w w' := by
  have hk : xs.length = k := by simpa using hX.len
  have HK := Lib.hid hk
  clear hk
  go_enter Try.func37, Try.ntmps37
  go_wp2
  go_loopw [4, 7] (fun s4 i wr => ∃ j : Nat, j ≤ k ∧ i = .int .i64 j ∧ BufAt g wr (l ++ digl (xs.take j)) ∧ Fresh (g + 1) 74 wr (some ⟨bn, 0, none⟩) k k (cu xs) ∧ Below g w wr) (fun _ i _ => k - (intOf i).toNat)
  case atStart => exact ⟨0, by omega, rfl, by simpa [digl] using hB, hX, Below.refl _ _⟩
  case round =>
    obtain ⟨j, hj, rfl, ⟨A, n, c, hn, hG, hA⟩, hXr, hBr⟩ := hrel
    have HN := Lib.hid hn
    clear hn
    by_cases hlt : j < k
    · have hjx : j < xs.length := by rw [HK.out]; exact hlt
      obtain ⟨x, hx⟩ : ∃ x, xs[j]? = some x := ⟨_, List.getElem?_eq_getElem hjx⟩
      have HX := Lib.hid hx
      have hx64 := hxs x (List.mem_of_getElem? hx)
      have hcx : wr.cell? ⟨bn, j, none⟩ = some (.int .u64 (x : Int)) := by
        exact hXr.cell_ (by simp [hx])
      clear hx
      have hnb : n ≤ 549755813888 - 10 := by
        have h1 := len_digl (xs.take j)
        have h2 := HN.out
        rw [List.length_append] at h2
        rw [List.length_take] at h1
        omega
      have hbs : g + 1 ≤ wr.heap.size := hG.lt_size
      go_wp2_with fail
      refine region_all_tail 3 (wrFacts (g + 1) A n c x) (by kernel_rfl) (by kernel_rfl) (by kernel_rfl) (wrFacts_stab _ _ _ _ _) ?_ ?_
      · intro w0 hb0
        simp only [List.take_succ_cons, List.take_zero]
        refine ⟨?_, ?_, ?_, trivial⟩
        all_goals intro listed a1 w' hk hd
        · have f1 : a1.eval (.tmp 1) = .pointer (some ⟨g, 0, none⟩) := hk.ev_old 1 (by kernel_rfl)
          have g1 : a1.tmps[1]?.getD undef = .pointer (some ⟨g, 0, none⟩) := by simpa [Act.eval] using f1
          have c1 := ((hG.below hb0).below hk.below).cell_ (k := 0) rfl
          exact stepOk_value rfl (v := .slice A n c) (by go_simp) rfl
        · have f1 : a1.eval (.tmp 4) = .int .u64 (x : Int) := hk.ev_old 4 (by kernel_rfl)
          have g1 : a1.tmps[4]?.getD undef = .int .u64 (x : Int) := by simpa [Act.eval] using f1
          exact stepOk_value rfl (v := .int .u64 (x : Int)) (by go_simp) rfl
        · obtain ⟨v1, e1, q1, rfl⟩ := hk.ev_new hd 1 12 (by kernel_rfl) rfl
          refine stepOk_enter rfl (f := 38) (args := #[.slice none 0 0, .int .u64 (x : Int)]) (by go_simp) ?_
          refine (Uint_any none 0 0 x [] _ Sees.nil rfl (by omega) hx64).mono ?_
          rintro e w5 ⟨rfl, hF5, hB5⟩
          rw [Nat.zero_add, List.nil_append] at hF5
          exact ⟨_, rfl, ⟨_, _, by rw [Nat.zero_add], hF5.lower (by have h2 := hb0.size; have h3 := hk.below.size; omega)⟩, hB5⟩
      · intro a1 w' hbw hp
        obtain ⟨v0, p0, v1, p1, v2, p2, rfl⟩ := hp
        simp only [wrFacts] at p0 p1 p2
        subst p0 p1
        obtain ⟨B, d, rfl, hFd⟩ := p2
        simp only [List.drop_succ_cons, List.drop_zero, Act.put, List.setIfInBounds_toArray, List.set_cons_succ, List.set_cons_zero]
        have hG1 := hG.below hbw
        have hA1 := hA.below hbw
        have hX1 := hXr.below hbw
        have hB1 := hBr.trans (hbw.mono (Nat.le_trans (Nat.le_succ g) hbs))
        have hbs1 : g + 1 ≤ w'.heap.size := Nat.le_trans hbs hbw.size
        go_wp2_with (refine wpList_app8g rfl (.tmp 11) (.tmp 13) rfl A B n c (nd x) d (g + 1) (l ++ digl (xs.take j)) (digs x) rfl rfl hA1 hFd.sees (len_digs x) (by have := (nd_bd x).2; omega) hbs1 ?_; intro A' c' w2 hA2 hgr2; have hG2 := hG1.grow_row hgr2 (row_ne hA1 (Nat.lt_succ_self g)); have cg := hG2.cell_ (k := 0) rfl; have fg := hG2.frozenAt (j := 0))
        have hXg := fresh_unlike hA1 hX1 (by decide)
        have hX2 := hX1.grow_row hgr2 (hXg.elim (fun h => (by rw [h]; simp)) (fun h => h))
        have hbg : bn ≠ g := by have := hX1.block.2; omega
        have hB2 := hB1.grown hgr2 (by omega) (fun q hq => (by have := (hA1.lt q hq).1; omega))
        refine ⟨⟨j + 1, by omega, by go_num, ⟨A', n + nd x, c', ?_, hG2.store 0 _, ?_⟩, ?_, ?_⟩, ?_⟩
        · rw [digl_step HX.out, ← List.append_assoc, List.length_append, HN.out, len_digs]
        · rw [digl_step HX.out, ← List.append_assoc]
          exact hA2.heap (fun q hq => heap_setCell_other _ _ _ _ (by simp; omega))
        · exact hX2.heap (fun q hq => heap_setCell_other _ _ _ _ (by simp; omega))
        · exact hB2.setCell (Nat.le_refl _) _
        · simp [intOf]; omega
    · have hjk : j = k := by omega
      go_wp2_with fail
      refine bodyPost_end (results_none rfl _ _ _) rfl ?_
      refine ⟨rfl, ?_, hBr⟩
      rw [List.take_of_length_le (by rw [HK.out]; omega)] at hA HN
      exact ⟨A, n, c, HN.out, hG, hA⟩
end Go.Proofs.Ytangblcfdboghaa
