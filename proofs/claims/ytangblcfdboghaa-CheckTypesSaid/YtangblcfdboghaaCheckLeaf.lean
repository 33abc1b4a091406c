/-
  What the small functions of package check answer (top, isJump, isEnd, onward), and those of package slices over types (Equal, Clone), for every input.
-/
import Derived.Test.YtangblcfdboghaaCheckPure
import Derived.Test.YtangblcfdboghaaCodeRight
import Derived.Test.YtangblcfdboghaaLow
namespace Go.Proofs.Ytangblcfdboghaa
open Go.RowKit
set_option linter.unusedVariables false

/-- Whole numbers as they lie in memory. -/
def ic (l : List Nat) : List Value := l.map fun (q : Nat) => .int .i64 (q : Int)
theorem jn_get {p : Pg} {k : Nat} {x : Jn} (h : p.ins[k]? = some x) : jn p k = x := by simp [jn, h]
theorem top_at {st : List UInt8} {n : Nat} {x : UInt8} (hl : st.length = n + 1) (h : st[n]? = some x) : topF st = x := by
  unfold topF
  rw [List.getLastD_eq_getLast?, List.getLast?_eq_getElem?, hl]
  simp [h]
set_option maxHeartbeats 1000000 in
theorem cTop_any (A : Option Addr) (c n : Nat) (st : List UInt8) (w : World) (hs : Sees w w.heap.size A (cb st)) (hl : st.length = n) (hn : n ≤ 1099511627776) :
    Calls Try.prog 100 #[.slice A n c] w fun e w' => e = .returned (.int .u8 ((topF st).toNat : Int)) ∧ w = w' := by
  rcases n with _ | n
  · obtain rfl : st = [] := List.eq_nil_of_length_eq_zero hl
    go_enter Try.func100, Try.ntmps100
    go_wp2_with fail
    go_ret
    exact ⟨rfl, rfl⟩
  · obtain ⟨b, o, rfl, hb, x, HX, hx, hc⟩ := hs.byte hl (Nat.lt_succ_self n)
    rw [top_at hl HX.out]
    have h0 : (((n + 1 : Nat) : Int) == 0) = false := by simp; omega
    have h1 : ((n + 1 : Nat) : Int) - 1 = (n : Int) := by omega
    have h2 : IntKind.i64.wrap (n : Int) = (n : Int) := by rw [IntKind.wrap_i64]; omega
    clear hs
    go_enter Try.func100, Try.ntmps100
    go_wp2_with fail
    go_ret
    exact ⟨rfl, rfl⟩
theorem isJump_any (o : Nat) (w : World) :
    Calls Try.prog 77 #[.int .u8 (o : Int)] w fun e w' => e = .returned (.bool (decide (o = 18 ∨ o = 19))) ∧ w = w' := by
  have h : o = 18 ∨ o = 19 ∨ (o ≠ 18 ∧ o ≠ 19) := by omega
  rcases h with rfl | rfl | ⟨h1, h2⟩
  · go_enter Try.func77, Try.ntmps77
    go_wp2_with fail
    go_ret
    exact ⟨rfl, rfl⟩
  · go_enter Try.func77, Try.ntmps77
    go_wp2_with fail
    go_ret
    exact ⟨rfl, rfl⟩
  · have e1 : ((o : Int) == 18) = false := by simp; omega
    have e2 : ((o : Int) == 19) = false := by simp; omega
    have e3 : decide (o = 18 ∨ o = 19) = false := by simp [h1, h2]
    rw [e3]
    go_enter Try.func77, Try.ntmps77
    go_wp2_with fail
    go_ret
    exact ⟨rfl, rfl⟩
set_option maxHeartbeats 1000000 in
set_option maxRecDepth 100000 in
theorem isEnd_any (m : Pm) (k : Nat) (w : World) (hm : PmAt w.heap.size w m) (hk : k ≤ m.ni) :
    Calls Try.prog 76 #[.agg m.cells.toArray, .int .i64 (k : Int)] w fun e w' => e = .returned (.bool (decide (k = m.ni ∨ (jn m.p k).op = 22))) ∧ Below w.heap.size w w' := by
  by_cases h : k = m.ni
  · have er : decide (k = m.ni ∨ (jn m.p k).op = 22) = true := by simp [h]
    rw [er]
    have e1 : ((k : Int) == (m.ni : Int)) = true := by simp [h]
    go_enter Try.func76, Try.ntmps76
    go_wp2_with (first | (with_reducible refine wpList_box (o := ⟨some 2, _, _, _, _, _⟩) rfl (.tmp 0) 26 rfl m.cells rfl 4 (pm4 m) (by decide) ?_; intro g w1 hg hF hB1; have f3 := hF.cell_ (k := 3) rfl))
    go_ret
    exact ⟨rfl, hB1⟩
  · have hlt : k < m.ni := by omega
    obtain ⟨b, o, hA, hb, x, HX, hx, hc⟩ := hm.ins.quad jn4 hm.ni hlt
    have e0 : jn m.p k = x := jn_get HX.out
    rw [e0]
    have e1 : ((k : Int) == (m.ni : Int)) = false := by simp; omega
    obtain ⟨r, hr⟩ : ∃ r, ((x.op : Int) == 22) = r := ⟨_, rfl⟩
    have er : decide (k = m.ni ∨ x.op = 22) = r := by
      rw [← hr, Bool.eq_iff_iff]
      simp [h]
      omega
    rw [er]
    have hbw : ∀ w', Below w.heap.size w w' → Sees w' w'.heap.size (some ⟨b, o + k * 4, none⟩) x.cells := fun w' hw => (hc.below hw).more hw.size
    have hq : ∀ w', Below w.heap.size w w' → w'.cell? ⟨b, o + k * 4, none⟩ = some (.int .u8 (x.op : Int)) := fun w' hw => (hbw w' hw).cell4 0 _ rfl
    have hni := hm.small.2.2
    have hcc : m.cells = [sv m.p.name, .slice m.av m.nv m.cv, .slice m.ab m.nb m.cb, .slice (some ⟨b, o, none⟩) m.ni m.ci] := by rw [Pm.cells, hA]
    clear hm hc hbw er e0 HX hA
    go_enter Try.func76, Try.ntmps76
    go_wp2_with (first | (with_reducible refine wpList_box (o := ⟨some 2, _, _, _, _, _⟩) rfl (.tmp 0) 26 rfl m.cells rfl 4 (pm4 m) (by decide) ?_; intro g w1 hg hF hB1; rw [hcc] at hF; have f3 := hF.cell_ (k := 3) rfl; have hq1 := hq _ hB1))
    go_ret
    exact ⟨rfl, hB1⟩
set_option maxHeartbeats 1000000 in
theorem onward_any (j : Jn) (k : Nat) (w : World) (hk : k ≤ 1099511627776) (ha : j.op = 18 ∨ j.op = 19 → 0 ≤ j.a) :
    Calls Try.prog 79 #[.agg j.cells.toArray, .int .i64 (k : Int)] w fun e w' => ∃ g, e = .returned (.slice (some ⟨g, 0, none⟩) (onF j k).length (onF j k).length) ∧ Fresh w.heap.size 3 w' (some ⟨g, 0, none⟩) (onF j k).length (onF j k).length (ic (onF j k)) ∧ Below w.heap.size w w' := by
  unfold onF
  obtain ⟨k1, hk1⟩ : ∃ k1, k + 1 = k1 := ⟨_, rfl⟩
  rw [hk1]
  have h3 : IntKind.i64.wrap (k1 : Int) = (k1 : Int) := by rw [IntKind.wrap_i64]; omega
  have h4 : (k : Int) + 1 = (k1 : Int) := by omega
  have H1 := Lib.hid hk1
  clear hk1
  by_cases c18 : j.op = 18
  · obtain ⟨z, hz⟩ : ∃ z : Nat, j.a = z := ⟨j.a.toNat, by have := ha (.inl c18); omega⟩
    have hz2 : j.a.toNat = z := by omega
    have e1 : ((j.op : Int) == 18) = true := by simp; omega
    rw [if_pos c18, hz2]
    have HZ := Lib.hid hz
    clear hz hz2
    go_enter Try.func79, Try.ntmps79
    go_wp2_with (first | (with_reducible refine wpList_box (o := ⟨some 2, _, _, _, _, _⟩) rfl (.tmp 0) 53 rfl j.cells rfl 4 (jn4 j) (by decide) ?_; intro g w1 hg hF hB1; have f0 := hF.cell_ (k := 0) rfl; have f2 := hF.cell_ (k := 2) rfl))
    go_ret
    refine ⟨_, rfl, ?_, Below.then_ hB1 (below_alloc _ _)⟩
    rw [ic, List.map_cons, List.map_nil, ← HZ.out]
    exact (Fresh.new w1 3 [.int .i64 j.a] 1 rfl (by decide)).lower hB1.size
  · have e1 : ((j.op : Int) == 18) = false := by simp; omega
    rw [if_neg c18]
    by_cases c19 : j.op = 19
    · obtain ⟨z, hz⟩ : ∃ z : Nat, j.a = z := ⟨j.a.toNat, by have := ha (.inr c19); omega⟩
      have hz2 : j.a.toNat = z := by omega
      have e2 : ((j.op : Int) == 19) = true := by simp; omega
      rw [if_pos c19, hz2]
      have HZ := Lib.hid hz
      clear hz hz2
      go_enter Try.func79, Try.ntmps79
      go_wp2_with (first | (with_reducible refine wpList_box (o := ⟨some 2, _, _, _, _, _⟩) rfl (.tmp 0) 53 rfl j.cells rfl 4 (jn4 j) (by decide) ?_; intro g w1 hg hF hB1; have f0 := hF.cell_ (k := 0) rfl; have f2 := hF.cell_ (k := 2) rfl))
      go_ret
      refine ⟨_, rfl, ?_, Below.then_ hB1 (below_alloc _ _)⟩
      rw [ic, List.map_cons, List.map_cons, List.map_nil, ← HZ.out]
      exact (Fresh.new w1 3 [.int .i64 j.a, .int .i64 (k1 : Int)] 2 rfl (by decide)).lower hB1.size
    · have e2 : ((j.op : Int) == 19) = false := by simp; omega
      rw [if_neg c19]
      go_enter Try.func79, Try.ntmps79
      go_wp2_with (first | (with_reducible refine wpList_box (o := ⟨some 2, _, _, _, _, _⟩) rfl (.tmp 0) 53 rfl j.cells rfl 4 (jn4 j) (by decide) ?_; intro g w1 hg hF hB1; have f0 := hF.cell_ (k := 0) rfl; have f2 := hF.cell_ (k := 2) rfl))
      go_ret
      refine ⟨_, rfl, ?_, Below.then_ hB1 (below_alloc _ _)⟩
      rw [ic, List.map_cons, List.map_nil]
      exact (Fresh.new w1 3 [.int .i64 (k1 : Int)] 1 rfl (by decide)).lower hB1.size

/-! ### Lists of types -/
theorem infoT : (Try.prog.info? 28).map (fun i => (i.zero, i.size, i.bytes)) = some (some (.int .u8 0), 1, 1) := by kernel_rfl
theorem isnilT (A : Option Addr) (n c : Nat) (w : World) : (binOp .eql 41 (.slice A n c) (.slice none 0 0)).run Try.prog w = .ok (.bool A.isNone) w := by
  have he : Try.prog.underlying 41 = some (.slice (Try.prog.elem 41)) := by kernel_rfl
  simp only [binOp]
  simp [Op.equal, Op.maxDepth, Lib.run_equalIn_slice_nil w 9999 41 _ A n c 0 0 he]
theorem drop_at8 {l : List UInt8} {k : Nat} {x : UInt8} (h : l[k]? = some x) : l.drop k = x :: l.drop (k + 1) := by
  obtain ⟨hk, rfl⟩ := List.getElem?_eq_some_iff.1 h
  exact List.drop_eq_getElem_cons hk
set_option maxHeartbeats 1000000 in
set_option maxRecDepth 100000 in
theorem EqualT_any (A B : Option Addr) (c d n m : Nat) (a l : List UInt8) (w : World) (hs : Sees w w.heap.size A (cb a)) (ht : Sees w w.heap.size B (cb l)) (ha : a.length = n) (hb : l.length = m) (hn : n ≤ 1099511627776) (hm : m ≤ 1099511627776) (r : Bool) (hr : (a == l) = r) :
    Calls Try.prog 97 #[.slice A n c, .slice B m d] w fun e w' => e = .returned (.bool r) ∧ ∃ k, w' = w.drewN k := by
  have HA := Lib.hid ha
  have HB := Lib.hid hb
  have HR := Lib.hid hr
  clear ha hb hr
  go_enter Try.func97, Try.ntmps97
  by_cases hnm : n = m
  · subst hnm
    go_wp2_with fail
    go_loopw [13] (fun i wr => ∃ k : Nat, k ≤ n ∧ i = .int .i64 (k : Int) ∧ Hid ((a.drop k == l.drop k) = r) ∧ ∃ q, wr = w.drewN q) (fun i _ => n - (intOf i).toNat)
    case atStart => exact ⟨0, Nat.zero_le _, rfl, Lib.hid (by simpa using HR.out), 0, rfl⟩
    case round =>
      obtain ⟨k, hk, rfl, hu, q, rfl⟩ := hrel
      by_cases hlt : k < n
      · obtain ⟨g, o, rfl, hg, y, HY, hy', hcy⟩ := hs.byte HA.out hlt
        obtain ⟨g', o', rfl, hg', x, HX, hx', hcx⟩ := ht.byte HB.out hlt
        have hu2 := hu.out
        rw [drop_at8 HY.out, drop_at8 HX.out, List.cons_beq_cons] at hu2
        clear hs ht hu HR
        by_cases hxy : y = x
        · subst hxy
          rw [beq_self_eq_true, Bool.true_and] at hu2
          have HU := Lib.hid hu2
          clear hu2
          go_wp2_with fail
          go_quiet (fail)
          go_wp2_with fail
          go_roundw
          case rel => exact ⟨k + 1, by omega, by go_num, HU, q + nq, (by first | rfl | rw [World.drewN_drewN])⟩
          case measure => simp [intOf]; omega
        · obtain rfl : r = false := by rw [← hu2]; simp [hxy]
          have h0 : ¬ ((y.toNat : Int) = (x.toNat : Int)) := by
            intro e
            exact hxy (UInt8.toNat_inj.1 (by omega))
          clear hu2 hxy
          go_wp2_with fail
          go_quiet (fail)
          go_wp2_with fail
          go_ret
          exact ⟨rfl, q + nq, (by first | rfl | rw [World.drewN_drewN])⟩
      · obtain rfl : k = n := by omega
        have hu2 := hu.out
        rw [List.drop_of_length_le (by rw [HA.out]; exact Nat.le_refl _), List.drop_of_length_le (by rw [HB.out]; exact Nat.le_refl _)] at hu2
        obtain rfl : r = true := by rw [← hu2]; rfl
        clear hs ht hu HR hu2
        go_wp2_with fail
        go_ret
        exact ⟨rfl, q, rfl⟩
  · obtain rfl : r = false := by
      rw [← HR.out]
      have : a ≠ l := fun e => hnm (by rw [← HA.out, ← HB.out, e])
      simp [this]
    have h0 : ¬ ((n : Int) = (m : Int)) := by omega
    clear hs ht HR
    go_wp2_with fail
    go_ret
    exact ⟨rfl, 0, rfl⟩
theorem none_appT {w : World} {base : Nat} {A : Option Addr} {n c d : Nat} {xs : List Value} {ty : TypeId} (hF : Fresh base 28 w A n c xs) :
    (Builtin.append_ #[41, 41] ty #[.slice A n c, .slice none 0 d]).run Try.prog w = .ok (.slice A n c) w := by
  obtain ⟨i0, hi, hz0, hz1, hz2⟩ := info_parts infoT
  rcases hF.2 with ⟨hv, rfl⟩ | ⟨g, cap, cur, hv, _, _, hnc, _⟩
  · rw [hv]
    simp [Builtin.append_, run_underlying Try.underlying41, sizeOf, typeInfo, hi, Builtin.lenOf, Builtin.firstCells]
  · rw [hv]
    simp [Builtin.append_, run_underlying Try.underlying41, sizeOf, typeInfo, hi, Builtin.lenOf, Builtin.firstCells, hnc, storeCells]
/-- 'append(dst, src...)' of types, dst in new memory (or nil), src whatever slice. -/
theorem wpList_appT {w : World} {ops : Array Oper} {rest : List Oper} {o : Oper} {a : Act} {Q : Exit → Act → World → Prop} (hg : o.guard = none) (s x : Operand)
    (hop : o.op = .call { callee := .builtin .append, args := #[s, x], argTypes := #[41, 41] })
    (D A : Option Addr) (n c m d : Nat) (cur l : List UInt8) (w0 : World) (hs : a.eval s = .slice D n c) (hx : a.eval x = .slice A m d)
    (hF : Fresh w0.heap.size 28 w D n c (cb cur)) (hS : Sees w w.heap.size A (cb l)) (hl : l.length = m) (hn : n + m ≤ 1099511627776) (hb : Below w0.heap.size w0 w)
    (hK : ∀ A' c' w', Fresh w0.heap.size 28 w' A' (n + m) c' (cb (cur ++ l)) → Below w0.heap.size w0 w' → wpList Try.prog ops Q rest (a.put o.dst (.slice A' (n + m) c')) w') :
    wpList Try.prog ops Q (o :: rest) a w := by
  obtain ⟨i0, hi, hz0, hz1, hz2⟩ := info_parts infoT
  have h1 : ∀ u ∈ cb l, u.oneCell' = true := cb_one l
  have main : ∀ ad, A = some ad → (∀ j u, (cb l)[j]? = some u → w.cell? (ad.add j) = some u) → wpList Try.prog ops Q (o :: rest) a w := by
    intro ad hA hc
    refine wpList_append_own w hg s x 41 hop w0.heap.size 28 i0 (.int .u8 0) 1 1 Try.underlying41 hi hz0 hz1 hz2 rfl (by omega) _ n (cb cur) hs hF ad m d (cb l) (by rw [hx, hA]) (by simp [hl]) hc h1 (by unfold maxLen; omega) (by omega) hb.size ?_
    intro v' w' hown hgr hnil
    have hB : Below w0.heap.size w0 w' := hb.grown hgr hb.size (fun k hk => (hF.lt k hk).1)
    rw [show cb cur ++ cb l = cb (cur ++ l) from by simp [cb]] at hown
    rcases hown.2 with ⟨rfl, h0⟩ | ⟨g, cap, cu, rfl, _⟩
    · rw [h0] at hown hK
      exact hK none 0 w' hown hB
    · exact hK _ cap w' hown hB
  by_cases h0 : m = 0
  · subst h0
    obtain rfl : l = [] := List.eq_nil_of_length_eq_zero hl
    cases hA : A with
    | none =>
      rw [hA] at hx
      refine wpList_plain hg fun K hK' => ?_
      have hrun := none_appT (d := d) (ty := o.type) hF
      unfold Oper.wp
      simp [execOp, hop, resolve, invoke, builtin, hs, hx, hrun, Result.andThen]
      have := hK D c w (by simpa using hF) hb
      exact hK' _ _ (by simpa using this)
    | some ad => exact main ad hA (fun j u hj => by simp at hj)
  · obtain ⟨b, off, hA, _, hc⟩ := hS (by simp; omega)
    exact main _ hA (fun j u hj => by rw [Addr.add_lit]; exact hc j u hj)
/-- A list of types in new memory. -/
def MadeT (w : World) (l : List UInt8) (e : Ending) (w' : World) : Prop := ∃ A c, e = .returned (.slice A l.length c) ∧ Fresh w.heap.size 28 w' A l.length c (cb l) ∧ Below w.heap.size w w'
set_option maxRecDepth 100000 in
theorem CloneT_any (A : Option Addr) (c : Nat) (l : List UInt8) (w : World) (hs : Sees w w.heap.size A (cb l)) (hn : l.length ≤ 1099511627776) :
    Calls Try.prog 99 #[.slice A l.length c] w (MadeT w l) := by
  obtain ⟨n, hl⟩ : ∃ n, l.length = n := ⟨_, rfl⟩
  unfold MadeT
  rw [hl] at hn ⊢
  have HL := Lib.hid hl
  cases A with
  | none =>
    obtain rfl : l = [] := by
      cases l with
      | nil => rfl
      | cons a l =>
        obtain ⟨b, o, h, _⟩ := hs (by simp)
        cases h
    obtain rfl : n = 0 := hl.symm
    clear hl
    have hq := isnilT none 0 c w
    go_enter Try.func99, Try.ntmps99
    go_wp2_with fail
    go_ret
    exact ⟨none, 0, rfl, fresh_nil _ _ _, Below.refl _ _⟩
  | some ad =>
    clear hl
    have hq := isnilT (some ad) n c w
    go_enter Try.func99, Try.ntmps99
    go_wp2_with (at_builtin; refine wpList_appT rfl (.tmp 5) (.tmp 6) rfl (some ⟨w.heap.size, 0, none⟩) (some ad) 0 0 n c [] l w rfl rfl (Fresh.new w 28 [] 0 rfl (by decide)) (hs.step (below_alloc _ _)) HL.out (by omega) (below_alloc _ _) ?_; intro A' c' w1 hF1 hB1)
    go_ret
    exact ⟨A', c', by simp, by simpa using hF1, hB1⟩
end Go.Proofs.Ytangblcfdboghaa
