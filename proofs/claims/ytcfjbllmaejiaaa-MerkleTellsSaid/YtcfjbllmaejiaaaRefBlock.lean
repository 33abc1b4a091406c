/-
  What the document's own Block of layer 2 answers: the state by a block, for every table, state and block.
-/
import Derived.Test.YtcfjbllmaejiaaaBlock
import Derived.Test.YtcfjbllmaejiaaaLow
import Derived.Test.YtcfjbllmaejiaaaRegion
namespace Go.Proofs.Ytcfjbllmaejiaaa
open Go.RowKit
set_option linter.unusedVariables false
theorem sees_one32 (w : World) (e : TypeId) (C : Array Value) (c : UInt32) (hC : C = (cw [c]).toArray) : Sees (w.alloc (.cells C e)) (w.alloc (.cells C e)).heap.size (some ⟨w.heap.size, 0, none⟩) (cw [c]) := fun _ => by
  subst hC
  exact ⟨w.heap.size, 0, rfl, by simp, fun j u hu => by rw [Nat.zero_add, World.cell?_alloc_mark]; simpa using hu⟩
theorem cell_one32 {v : Int} {c : UInt32} (h : v = (c.toNat : Int)) : #[Value.int .u32 v] = (cw [c]).toArray := by subst h; rfl
theorem rr_nat2 (x : UInt32) (n m k : Nat) (hm : 2 ^ (32 - n) = m) (hk : 2 ^ n = k) (hp : 0 < k) : bits .or .u32 ((x.toNat : Int) / (k : Int)) ((x.toNat : Int) * (m : Int) % 4294967296) = ((rr x n).toNat : Int) := by
  rw [← rr_nat x n m k hm hk hp]
  have e1 : (x.toNat : Int) * (m : Int) % 4294967296 = ((x.toNat * m % 4294967296 : Nat) : Int) := by rw [Int.natCast_emod, Int.natCast_mul]; rfl
  have e2 : (x.toNat : Int) / (k : Int) = ((x.toNat / k : Nat) : Int) := by rw [Int.natCast_ediv]
  have h1 : x.toNat * m % 4294967296 < 4294967296 := Nat.mod_lt _ (by omega)
  have h2 : x.toNat / k < 4294967296 := Nat.lt_of_le_of_lt (Nat.div_le_self _ _) x.toNat_lt
  rw [e1, e2, u32_or_nat _ _ h2 h1, u32_or_nat _ _ h1 h2, Nat.or_comm]
set_option maxRecDepth 100000 in
theorem rror_any (x : UInt32) (K : Int) (n : Nat) (hK : K = (n : Int)) (hn : rotOk n = true) (w : World) :
    Calls Try.prog 164 #[.int .u32 (x.toNat : Int), .int .i64 K] w fun e w' => e = .returned (.int .u32 ((rr x n).toNat : Int)) ∧ ∃ n, w' = w.drewN n := by
  subst hK
  have hx : x.toNat < 4294967296 := x.toNat_lt
  simp only [rotOk, List.contains_cons, List.contains_nil, Bool.or_false, Bool.or_eq_true, beq_iff_eq] at hn
  rcases hn with rfl | rfl | rfl | rfl | rfl | rfl | rfl | rfl | rfl | rfl
  all_goals
    go_enter Try.func164, Try.ntmps164
    go_wp2
    go_quiet (fail)
    go_wp2
    go_ret
    exact ⟨ret_int (rr_nat2 x _ _ _ rfl rfl (by decide)), nq, rfl⟩
theorem rshr_any (x : UInt32) (K : Int) (n : Nat) (hK : K = (n : Int)) (hn : n = 3 ∨ n = 10) (w : World) :
    Calls Try.prog 166 #[.int .u32 (x.toNat : Int), .int .i64 K] w fun e w' => e = .returned (.int .u32 ((sh x n).toNat : Int)) ∧ w' = w := by
  subst hK
  rcases hn with rfl | rfl
  all_goals
    go_enter Try.func166, Try.ntmps166
    go_wp2
    go_ret
  · exact ⟨ret_int (u32_sh x 3), rfl⟩
  · exact ⟨ret_int (u32_sh x 10), rfl⟩
theorem info32w : (Try.prog.info? 75).map (fun i => (i.zero, i.size, i.bytes)) = some (some (.int .u32 0), 1, 4) := by kernel_rfl
/-- 'make([]uint32, 0, n)'. -/
theorem wpList_mk032 {w : World} {ops : Array Oper} {rest : List Oper} {o : Oper} {a : Act} {Q : Exit → Act → World → Prop} (hg : o.guard = none) (l x : Operand) (hop : o.op = Op.makeSlice 28 l x)
    (n : Nat) (hl : a.eval l = .int .i64 0) (hx : a.eval x = .int .i64 (n : Int)) (hn : n ≤ 1099511627776)
    (hK : ∀ w', Fresh w.heap.size 75 w' (some ⟨w.heap.size, 0, none⟩) 0 n (cw []) → Below w.heap.size w w' → wpList Try.prog ops Q rest (a.put o.dst (.slice (some ⟨w.heap.size, 0, none⟩) 0 n)) w') :
    wpList Try.prog ops Q (o :: rest) a w := by
  obtain ⟨i0, hi, hz0, hz1, hz2⟩ := info_parts info32w
  refine wpList_make_own w hg l x 28 hop w.heap.size 75 i0 (.int .u32 0) 1 Try.underlying28 hi hz0 hz1 .i64 .i64 (n : Int) n hl hx rfl (by rw [hz2]; omega) (by unfold maxLen; omega) (Nat.le_refl _) ?_
  intro w' h1 h2
  exact hK w' h1 ((Below.refl _ _).grown h2 (Nat.le_refl _) (by simp))
theorem take_next (l : List UInt32) (k : Nat) (x : UInt32) (h : l[k]? = some x) : l.take k ++ [x] = l.take (k + 1) := by
  rw [List.take_add_one, h]; rfl
theorem be_nat2 (b : List UInt8) (j : Nat) (c0 c1 c2 c3 : UInt8) (h0 : b[j]? = some c0) (h1 : b[j + 1]? = some c1) (h2 : b[j + 2]? = some c2) (h3 : b[j + 3]? = some c3) :
    ((c0.toNat : Int) * 16777216 + (c1.toNat : Int) * 65536 + (c2.toNat : Int) * 256 + (c3.toNat : Int)) = ((be b j).toNat : Int) := by
  have l0 := c0.toNat_lt
  have l1 := c1.toNat_lt
  have l2 := c2.toNat_lt
  have l3 := c3.toNat_lt
  unfold be
  rw [List.getD_eq_getElem?_getD, List.getD_eq_getElem?_getD, List.getD_eq_getElem?_getD, List.getD_eq_getElem?_getD, h0, h1, h2, h3]
  simp only [Option.getD_some]
  rw [ofNat_toNat32]
  all_goals omega
theorem wrap32_ (x : Int) (h : 0 ≤ x) (h' : x < 4294967296) : IntKind.u32.wrap x = x := by rw [IntKind.wrap_u32]; omega
theorem wrap64_ (x : Int) (h : 0 ≤ x) (h' : x < 1000000) : IntKind.i64.wrap x = x := wrap_small x h (by omega)
theorem run_ld1 {P : Program} {o : Oper} {a : Act} {w : World} (x : Operand) (T : TypeId) (hop : o.op = .load T x) (k : IntKind) (hT : P.underlying T = some (.int k)) {ad : Addr} (hx : a.eval x = .pointer (some ad)) (v : Value) (hc : w.cell? ad = some v) : (execOp a.eval o).run P w = .ok (.value v) w := by
  have hagg : (isAgg T).run P w = .ok false w := by
    unfold isAgg
    rw [Sem.run_bind, run_underlying hT w]
    rfl
  have hl : (loadVar T ad).run P w = .ok v w := by
    simp [loadVar, Sem.run_bind, hagg, hc]
  unfold execOp
  simp only [hop, hx, Instr.loadAt, Instr.sureAddr, Sem.run_bind, Sem.run_pure, Result.andThen_ok, hl]
theorem run_ix1 {P : Program} {o : Oper} {a : Act} {w : World} {T e : TypeId} (x y : Operand) (hop : o.op = .indexAddr T x y) (hT : P.underlying T = some (.slice e)) (hz : (P.info? e).map (·.size) = some 1) {b of' n c j : Nat} {I : Int} (hx : a.eval x = .slice (some ⟨b, of', none⟩) n c) (hy : a.eval y = .int .i64 I) (hI : I = (j : Int)) (hj : j < n) : (execOp a.eval o).run P w = .ok (.value (.pointer (some ⟨b, of' + j, none⟩))) w := by
  subst hI
  obtain ⟨i, hi, hsz⟩ := Option.map_eq_some_iff.1 hz
  unfold execOp
  simp [hop, hx, hy, Instr.indexAt, asIntOf, run_underlying hT, hj, sizeOf, typeInfo, hi, hsz, Addr.add_lit, Sem.run_bind]
theorem Kept.ev_old2 {P : Program} {ops : Array Oper} {pr : Nat → Value → World → Prop} {a0 a : Act} {w0 w : World} {listed : Array Bool} (hk : Kept ops pr a0 w0 listed a w) (t : Tmp) (j0 : Nat) (hd : ((ops[j0]?).bind (·.dst)) = some t) (h : ((List.range ops.size).all fun j => j == j0 || ((ops[j]?).bind (·.dst)) != some t) = true) (v : Value) (hv : a0.eval (.tmp t) = v) (hp : ∀ u, pr j0 u w → u = v) : a.eval (.tmp t) = v := by
  obtain ⟨oj, hoj, hdj⟩ := Option.bind_eq_some_iff.1 hd
  by_cases hl : listed.getD j0 false = true
  · obtain ⟨u, hu, hpu⟩ := hk.new j0 oj t hoj hdj hl
    rw [← hp u hpu]
    simp [Act.eval, Array.getD_eq_getD_getElem?, hu]
  · have := hk.old t (fun j o hj hlj hdo => by
      rw [List.all_eq_true] at h
      have hlt := (Array.getElem?_eq_some_iff.1 hj).1
      have := h j (List.mem_range.2 hlt)
      simp only [Bool.or_eq_true, beq_iff_eq, bne_iff_ne, ne_eq, hj, Option.bind_some, hdo, not_true_eq_false, or_false] at this
      subst this
      exact hl hlj)
    rw [← hv]
    simp [Act.eval, Array.getD_eq_getD_getElem?, this]
def wFacts (b : List UInt8) (ba bo c k d : Nat) (B : Option Addr) (c0 c1 c2 c3 : UInt8) (j : Nat) (v : Value) (w : World) : Prop :=
  match j with
  | 0 => v = Value.slice B k d
  | 1 => v = Value.slice (some ⟨ba, bo, none⟩) 64 c
  | 2 => v = Value.int .i64 (4 * (k : Int))
  | 3 => v = Value.pointer (some ⟨ba, bo + (4 * k), none⟩)
  | 4 => v = Value.int .u8 (c0.toNat : Int)
  | 5 => v = Value.int .u32 (c0.toNat : Int)
  | 6 => v = Value.int .u32 ((c0.toNat : Int) * 16777216)
  | 7 => v = Value.slice (some ⟨ba, bo, none⟩) 64 c
  | 8 => v = Value.int .i64 (4 * (k : Int))
  | 9 => v = Value.int .i64 (4 * (k : Int) + 1)
  | 10 => v = Value.pointer (some ⟨ba, bo + (4 * k + 1), none⟩)
  | 11 => v = Value.int .u8 (c1.toNat : Int)
  | 12 => v = Value.int .u32 (c1.toNat : Int)
  | 13 => v = Value.int .u32 ((c1.toNat : Int) * 65536)
  | 14 => v = Value.int .u32 ((c0.toNat : Int) * 16777216 + (c1.toNat : Int) * 65536)
  | 15 => v = Value.slice (some ⟨ba, bo, none⟩) 64 c
  | 16 => v = Value.int .i64 (4 * (k : Int))
  | 17 => v = Value.int .i64 (4 * (k : Int) + 2)
  | 18 => v = Value.pointer (some ⟨ba, bo + (4 * k + 2), none⟩)
  | 19 => v = Value.int .u8 (c2.toNat : Int)
  | 20 => v = Value.int .u32 (c2.toNat : Int)
  | 21 => v = Value.int .u32 ((c2.toNat : Int) * 256)
  | 22 => v = Value.int .u32 ((c0.toNat : Int) * 16777216 + (c1.toNat : Int) * 65536 + (c2.toNat : Int) * 256)
  | 23 => v = Value.slice (some ⟨ba, bo, none⟩) 64 c
  | 24 => v = Value.int .i64 (4 * (k : Int))
  | 25 => v = Value.int .i64 (4 * (k : Int) + 3)
  | 26 => v = Value.pointer (some ⟨ba, bo + (4 * k + 3), none⟩)
  | 27 => v = Value.int .u8 (c3.toNat : Int)
  | 28 => v = Value.int .u32 (c3.toNat : Int)
  | 29 => v = Value.int .u32 ((be b (4 * k)).toNat : Int)
  | 30 => ∃ g, v = .slice (some ⟨g, 0, none⟩) 1 1 ∧ Sees w w.heap.size (some ⟨g, 0, none⟩) (cw [be b (4 * k)])
  | 32 => v = .slice B k d
  | _ => True
theorem wFacts_stab (b : List UInt8) (ba bo c k d : Nat) (B : Option Addr) (c0 c1 c2 c3 : UInt8) : ∀ j v w w', Below w.heap.size w w' → wFacts b ba bo c k d B c0 c1 c2 c3 j v w → wFacts b ba bo c k d B c0 c1 c2 c3 j v w' := by
  intro j v w w' hb h
  unfold wFacts at *
  split at h <;> first | exact h | (obtain ⟨g, h1, h2⟩ := h; exact ⟨g, h1, h2.step hb⟩) | trivial
def wFacts2 (b1 o1 m d : Nat) (x0 x1 x9 x14 : UInt32) (j : Nat) (v : Value) (w : World) : Prop :=
  match j with
  | 0 => v = Value.slice (some ⟨b1, o1, none⟩) (16 + m) d
  | 1 => v = Value.int .u32 ((sg1 x14).toNat : Int)
  | 2 => v = Value.slice (some ⟨b1, o1, none⟩) (16 + m) d
  | 3 => v = Value.int .i64 (16 + (m : Int))
  | 4 => v = Value.int .i64 ((m + 9 : Nat) : Int)
  | 5 => v = Value.pointer (some ⟨b1, o1 + (m + 9), none⟩)
  | 6 => v = Value.int .u32 (x9.toNat : Int)
  | 7 => v = Value.int .u32 ((sg1 x14 + x9).toNat : Int)
  | 8 => v = Value.int .u32 ((sg0 x1).toNat : Int)
  | 9 => v = Value.int .u32 ((sg1 x14 + x9 + sg0 x1).toNat : Int)
  | 10 => v = Value.slice (some ⟨b1, o1, none⟩) (16 + m) d
  | 11 => v = Value.int .i64 (16 + (m : Int))
  | 12 => v = Value.int .i64 (m : Int)
  | 13 => v = Value.pointer (some ⟨b1, o1 + m, none⟩)
  | 14 => v = Value.int .u32 (x0.toNat : Int)
  | 15 => v = Value.int .u32 ((sg1 x14 + x9 + sg0 x1 + x0).toNat : Int)
  | 16 => ∃ g, v = .slice (some ⟨g, 0, none⟩) 1 1 ∧ Sees w w.heap.size (some ⟨g, 0, none⟩) (cw [sg1 x14 + x9 + sg0 x1 + x0])
  | 18 => v = Value.slice (some ⟨b1, o1, none⟩) (16 + m) d
  | _ => True
theorem wFacts2_stab (b1 o1 m d : Nat) (x0 x1 x9 x14 : UInt32) : ∀ j v w w', Below w.heap.size w w' → wFacts2 b1 o1 m d x0 x1 x9 x14 j v w → wFacts2 b1 o1 m d x0 x1 x9 x14 j v w' := by
  intro j v w w' hb h
  unfold wFacts2 at *
  split at h <;> first | exact h | (obtain ⟨g, h1, h2⟩ := h; exact ⟨g, h1, h2.step hb⟩) | trivial
theorem next_is (l : List UInt32) (m : Nat) (x14 x9 x1 x0 : UInt32) (h14 : l[m + 14]? = some x14) (h9 : l[m + 9]? = some x9) (h1 : l[m + 1]? = some x1) (h0 : l[m]? = some x0) : sg1 x14 + x9 + sg0 x1 + x0 = nextW l m := by
  unfold nextW
  simp only [List.getD_eq_getElem?_getD, h14, h9, h1, h0, Option.getD_some]
set_option maxHeartbeats 2000000 in
set_option maxRecDepth 100000 in
theorem rwords2_any (A : Option Addr) (c : Nat) (b : List UInt8) (w : World) (hs : Sees w w.heap.size A (cb b)) (hb : b.length = 64) :
    Calls Try.prog 163 #[.slice A 64 c] w fun e w' => ∃ B c', e = .returned (.slice B 64 c') ∧ Fresh w.heap.size 75 w' B 64 c' (cw (sched b)) ∧ Below w.heap.size w w' := by
  have HB := Lib.hid hb
  clear hb
  obtain ⟨ba, bo, rfl, hba, _⟩ := hs.at_ (k := 0) (by simp [HB.out])
  go_enter Try.func163, Try.ntmps163
  go_wp2_with (with_reducible refine wpList_mk032 rfl _ _ rfl 64 rfl rfl (by omega) ?_; intro w1 hF1 hB1)
  go_loopw [3, 4] (fun v i wr => ∃ (k d : Nat) (B : Option Addr), k ≤ 16 ∧ v = .slice B k d ∧ i = .int .i64 (4 * k) ∧ Fresh w.heap.size 75 wr B k d (cw ((sch16 b).take k)) ∧ Below w.heap.size w wr) (fun v i _ => 64 - (intOf i).toNat)
  case atStart => exact ⟨0, 64, _, by omega, rfl, rfl, hF1, hB1⟩
  case round =>
    obtain ⟨k, d, B, hk, rfl, rfl, hF, hBel⟩ := hrel
    clear hF1 hB1
    by_cases hlt : k < 16
    · have hS := hs.below hBel
      have hba1 : ba < wr.heap.size := Nat.lt_of_lt_of_le hba hBel.size
      obtain ⟨b0, o0, he0, hb0, c0, H0, l0, r0⟩ := hS.byte (k := 4 * k) HB.out (by omega)
      obtain ⟨b1, o1, he1, hb1, c1, H1, l1, r1⟩ := hS.byte (k := 4 * k + 1) HB.out (by omega)
      obtain ⟨b2, o2, he2, hb2, c2, H2, l2, r2⟩ := hS.byte (k := 4 * k + 2) HB.out (by omega)
      obtain ⟨b3, o3, he3, hb3, c3, H3, l3, r3⟩ := hS.byte (k := 4 * k + 3) HB.out (by omega)
      obtain ⟨rfl, rfl⟩ : ba = b0 ∧ bo = o0 := by simpa using he0
      obtain ⟨rfl, rfl⟩ : ba = b1 ∧ bo = o1 := by simpa using he1
      obtain ⟨rfl, rfl⟩ : ba = b2 ∧ bo = o2 := by simpa using he2
      obtain ⟨rfl, rfl⟩ : ba = b3 ∧ bo = o3 := by simpa using he3
      clear he0 he1 he2 he3 hS hb0 hb1 hb2 hb3
      go_wp2
      refine region_all_tail 31 (wFacts b ba bo c k d B c0 c1 c2 c3) (by kernel_rfl) (by kernel_rfl) (by kernel_rfl) (wFacts_stab _ _ _ _ _ _ _ _ _ _ _) ?_ ?_
      · intro w0 hb0
        have hsz0 : wr.heap.size ≤ w0.heap.size := hb0.size
        simp only [List.take_succ_cons, List.take_zero]
        refine ⟨?_, ?_, ?_, ?_, ?_, ?_, ?_, ?_, ?_, ?_, ?_, ?_, ?_, ?_, ?_, ?_, ?_, ?_, ?_, ?_, ?_, ?_, ?_, ?_, ?_, ?_, ?_, ?_, ?_, ?_, ?_, trivial⟩
        all_goals intro listed a1 w' hk hd
        · have f2 := hk.ev_old2 (P := Try.prog) 3 32 (by kernel_rfl) (by kernel_rfl) (.slice B k d) rfl (fun u hu => hu)
          exact stepOk_value rfl (v := .slice B k d) (by simp [execOp]; exact f2) rfl
        · have f2 := hk.ev_old 0 (by kernel_rfl)
          exact stepOk_value rfl (v := Value.slice (some ⟨ba, bo, none⟩) 64 c) (by simp [execOp]; exact f2) rfl
        · have f2 := hk.ev_old 4 (by kernel_rfl)
          exact stepOk_value rfl (v := Value.int .i64 (4 * (k : Int))) (by simp [execOp]; exact f2) rfl
        · obtain ⟨v0, e0, _, rfl⟩ := hk.ev_new hd 1 16 (by kernel_rfl) rfl
          obtain ⟨v1, e1, _, rfl⟩ := hk.ev_new hd 2 17 (by kernel_rfl) rfl
          exact stepOk_value rfl (v := Value.pointer (some ⟨ba, bo + (4 * k), none⟩)) (run_ix1 _ _ rfl Try.underlying62 (by kernel_rfl) e0 e1 (by omega) (by omega)) rfl
        · obtain ⟨v0, e0, _, rfl⟩ := hk.ev_new hd 3 18 (by kernel_rfl) rfl
          exact stepOk_value rfl (v := Value.int .u8 (c0.toNat : Int)) (run_ld1 _ _ rfl .u8 Try.underlying5 e0 _ (by rw [hk.below.cell (p := ⟨ba, _, none⟩) (Nat.lt_of_lt_of_le hba1 hsz0), hb0.cell (p := ⟨ba, _, none⟩) hba1]; exact r0)) rfl
        · obtain ⟨v0, e0, _, rfl⟩ := hk.ev_new hd 4 19 (by kernel_rfl) rfl
          exact stepOk_value rfl (v := Value.int .u32 (c0.toNat : Int)) (by go_simp; all_goals first | exact wrap32_ _ (by omega) (by omega) | exact wrap64_ _ (by omega) (by omega)) rfl
        · obtain ⟨v0, e0, _, rfl⟩ := hk.ev_new hd 5 20 (by kernel_rfl) rfl
          exact stepOk_value rfl (v := Value.int .u32 ((c0.toNat : Int) * 16777216)) (by go_simp; all_goals first | exact wrap32_ _ (by omega) (by omega) | exact wrap64_ _ (by omega) (by omega)) rfl
        · have f2 := hk.ev_old 0 (by kernel_rfl)
          exact stepOk_value rfl (v := Value.slice (some ⟨ba, bo, none⟩) 64 c) (by simp [execOp]; exact f2) rfl
        · have f2 := hk.ev_old 4 (by kernel_rfl)
          exact stepOk_value rfl (v := Value.int .i64 (4 * (k : Int))) (by simp [execOp]; exact f2) rfl
        · obtain ⟨v0, e0, _, rfl⟩ := hk.ev_new hd 8 23 (by kernel_rfl) rfl
          exact stepOk_value rfl (v := Value.int .i64 (4 * (k : Int) + 1)) (by go_simp; all_goals first | exact wrap32_ _ (by omega) (by omega) | exact wrap64_ _ (by omega) (by omega)) rfl
        · obtain ⟨v0, e0, _, rfl⟩ := hk.ev_new hd 7 22 (by kernel_rfl) rfl
          obtain ⟨v1, e1, _, rfl⟩ := hk.ev_new hd 9 24 (by kernel_rfl) rfl
          exact stepOk_value rfl (v := Value.pointer (some ⟨ba, bo + (4 * k + 1), none⟩)) (run_ix1 _ _ rfl Try.underlying62 (by kernel_rfl) e0 e1 (by omega) (by omega)) rfl
        · obtain ⟨v0, e0, _, rfl⟩ := hk.ev_new hd 10 25 (by kernel_rfl) rfl
          exact stepOk_value rfl (v := Value.int .u8 (c1.toNat : Int)) (run_ld1 _ _ rfl .u8 Try.underlying5 e0 _ (by rw [hk.below.cell (p := ⟨ba, _, none⟩) (Nat.lt_of_lt_of_le hba1 hsz0), hb0.cell (p := ⟨ba, _, none⟩) hba1]; exact r1)) rfl
        · obtain ⟨v0, e0, _, rfl⟩ := hk.ev_new hd 11 26 (by kernel_rfl) rfl
          exact stepOk_value rfl (v := Value.int .u32 (c1.toNat : Int)) (by go_simp; all_goals first | exact wrap32_ _ (by omega) (by omega) | exact wrap64_ _ (by omega) (by omega)) rfl
        · obtain ⟨v0, e0, _, rfl⟩ := hk.ev_new hd 12 27 (by kernel_rfl) rfl
          exact stepOk_value rfl (v := Value.int .u32 ((c1.toNat : Int) * 65536)) (by go_simp; all_goals first | exact wrap32_ _ (by omega) (by omega) | exact wrap64_ _ (by omega) (by omega)) rfl
        · obtain ⟨v0, e0, _, rfl⟩ := hk.ev_new hd 6 21 (by kernel_rfl) rfl
          obtain ⟨v1, e1, _, rfl⟩ := hk.ev_new hd 13 28 (by kernel_rfl) rfl
          exact stepOk_value rfl (v := Value.int .u32 ((c0.toNat : Int) * 16777216 + (c1.toNat : Int) * 65536)) (by go_simp; all_goals first | exact wrap32_ _ (by omega) (by omega) | exact wrap64_ _ (by omega) (by omega)) rfl
        · have f2 := hk.ev_old 0 (by kernel_rfl)
          exact stepOk_value rfl (v := Value.slice (some ⟨ba, bo, none⟩) 64 c) (by simp [execOp]; exact f2) rfl
        · have f2 := hk.ev_old 4 (by kernel_rfl)
          exact stepOk_value rfl (v := Value.int .i64 (4 * (k : Int))) (by simp [execOp]; exact f2) rfl
        · obtain ⟨v0, e0, _, rfl⟩ := hk.ev_new hd 16 31 (by kernel_rfl) rfl
          exact stepOk_value rfl (v := Value.int .i64 (4 * (k : Int) + 2)) (by go_simp; all_goals first | exact wrap32_ _ (by omega) (by omega) | exact wrap64_ _ (by omega) (by omega)) rfl
        · obtain ⟨v0, e0, _, rfl⟩ := hk.ev_new hd 15 30 (by kernel_rfl) rfl
          obtain ⟨v1, e1, _, rfl⟩ := hk.ev_new hd 17 32 (by kernel_rfl) rfl
          exact stepOk_value rfl (v := Value.pointer (some ⟨ba, bo + (4 * k + 2), none⟩)) (run_ix1 _ _ rfl Try.underlying62 (by kernel_rfl) e0 e1 (by omega) (by omega)) rfl
        · obtain ⟨v0, e0, _, rfl⟩ := hk.ev_new hd 18 33 (by kernel_rfl) rfl
          exact stepOk_value rfl (v := Value.int .u8 (c2.toNat : Int)) (run_ld1 _ _ rfl .u8 Try.underlying5 e0 _ (by rw [hk.below.cell (p := ⟨ba, _, none⟩) (Nat.lt_of_lt_of_le hba1 hsz0), hb0.cell (p := ⟨ba, _, none⟩) hba1]; exact r2)) rfl
        · obtain ⟨v0, e0, _, rfl⟩ := hk.ev_new hd 19 34 (by kernel_rfl) rfl
          exact stepOk_value rfl (v := Value.int .u32 (c2.toNat : Int)) (by go_simp; all_goals first | exact wrap32_ _ (by omega) (by omega) | exact wrap64_ _ (by omega) (by omega)) rfl
        · obtain ⟨v0, e0, _, rfl⟩ := hk.ev_new hd 20 35 (by kernel_rfl) rfl
          exact stepOk_value rfl (v := Value.int .u32 ((c2.toNat : Int) * 256)) (by go_simp; all_goals first | exact wrap32_ _ (by omega) (by omega) | exact wrap64_ _ (by omega) (by omega)) rfl
        · obtain ⟨v0, e0, _, rfl⟩ := hk.ev_new hd 14 29 (by kernel_rfl) rfl
          obtain ⟨v1, e1, _, rfl⟩ := hk.ev_new hd 21 36 (by kernel_rfl) rfl
          exact stepOk_value rfl (v := Value.int .u32 ((c0.toNat : Int) * 16777216 + (c1.toNat : Int) * 65536 + (c2.toNat : Int) * 256)) (by go_simp; all_goals first | exact wrap32_ _ (by omega) (by omega) | exact wrap64_ _ (by omega) (by omega)) rfl
        · have f2 := hk.ev_old 0 (by kernel_rfl)
          exact stepOk_value rfl (v := Value.slice (some ⟨ba, bo, none⟩) 64 c) (by simp [execOp]; exact f2) rfl
        · have f2 := hk.ev_old 4 (by kernel_rfl)
          exact stepOk_value rfl (v := Value.int .i64 (4 * (k : Int))) (by simp [execOp]; exact f2) rfl
        · obtain ⟨v0, e0, _, rfl⟩ := hk.ev_new hd 24 39 (by kernel_rfl) rfl
          exact stepOk_value rfl (v := Value.int .i64 (4 * (k : Int) + 3)) (by go_simp; all_goals first | exact wrap32_ _ (by omega) (by omega) | exact wrap64_ _ (by omega) (by omega)) rfl
        · obtain ⟨v0, e0, _, rfl⟩ := hk.ev_new hd 23 38 (by kernel_rfl) rfl
          obtain ⟨v1, e1, _, rfl⟩ := hk.ev_new hd 25 40 (by kernel_rfl) rfl
          exact stepOk_value rfl (v := Value.pointer (some ⟨ba, bo + (4 * k + 3), none⟩)) (run_ix1 _ _ rfl Try.underlying62 (by kernel_rfl) e0 e1 (by omega) (by omega)) rfl
        · obtain ⟨v0, e0, _, rfl⟩ := hk.ev_new hd 26 41 (by kernel_rfl) rfl
          exact stepOk_value rfl (v := Value.int .u8 (c3.toNat : Int)) (run_ld1 _ _ rfl .u8 Try.underlying5 e0 _ (by rw [hk.below.cell (p := ⟨ba, _, none⟩) (Nat.lt_of_lt_of_le hba1 hsz0), hb0.cell (p := ⟨ba, _, none⟩) hba1]; exact r3)) rfl
        · obtain ⟨v0, e0, _, rfl⟩ := hk.ev_new hd 27 42 (by kernel_rfl) rfl
          exact stepOk_value rfl (v := Value.int .u32 (c3.toNat : Int)) (by go_simp; all_goals first | exact wrap32_ _ (by omega) (by omega) | exact wrap64_ _ (by omega) (by omega)) rfl
        · obtain ⟨v0, e0, _, rfl⟩ := hk.ev_new hd 22 37 (by kernel_rfl) rfl
          obtain ⟨v1, e1, _, rfl⟩ := hk.ev_new hd 28 43 (by kernel_rfl) rfl
          refine stepOk_value rfl (v := Value.int .u32 ((be b (4 * k)).toNat : Int)) ?_ rfl
          rw [← be_nat2 b (4 * k) c0 c1 c2 c3 H0.out H1.out H2.out H3.out]
          go_simp
          exact wrap32_ _ (by omega) (by omega)
        · obtain ⟨v0, e0, _, rfl⟩ := hk.ev_new hd 29 44 (by kernel_rfl) rfl
          refine stepOk_run rfl (v := .slice (some ⟨w'.heap.size, 0, none⟩) 1 1) (w' := w'.alloc (.cells (cw [be b (4 * k)]).toArray 75)) ?_ ⟨_, rfl, sees_one32 w' 75 _ _ rfl⟩ (below_alloc _ _)
          go_simp
      · intro a1 w' hbw hp
        obtain ⟨v0, p0, v1, p1, v2, p2, v3, p3, v4, p4, v5, p5, v6, p6, v7, p7, v8, p8, v9, p9, v10, p10, v11, p11, v12, p12, v13, p13, v14, p14, v15, p15, v16, p16, v17, p17, v18, p18, v19, p19, v20, p20, v21, p21, v22, p22, v23, p23, v24, p24, v25, p25, v26, p26, v27, p27, v28, p28, v29, p29, v30, p30, rfl⟩ := hp
        simp only [wFacts] at p0 p1 p2 p3 p4 p5 p6 p7 p8 p9 p10 p11 p12 p13 p14 p15 p16 p17 p18 p19 p20 p21 p22 p23 p24 p25 p26 p27 p28 p29 p30
        subst p0 p1 p2 p3 p4 p5 p6 p7 p8 p9 p10 p11 p12 p13 p14 p15 p16 p17 p18 p19 p20 p21 p22 p23 p24 p25 p26 p27 p28 p29
        obtain ⟨g1, rfl, hS1⟩ := p30
        simp only [List.drop_succ_cons, List.drop_zero, Act.put, List.setIfInBounds_toArray, List.set_cons_succ, List.set_cons_zero]
        go_wp2_with (at_builtin; refine wpList_app32 rfl (.tmp 15) (.tmp 45) rfl B (some ⟨g1, 0, none⟩) k d 1 1 ((sch16 b).take k) [be b (4 * k)] w rfl rfl (hF.below hbw) hS1 rfl (by omega) (Below.then_ hBel hbw) ?_; intro B' d' w2 hF2 hB2)
        go_roundw
        case rel =>
          rw [take_next _ _ _ (sch16_get b k hlt)] at hF2
          exact ⟨k + 1, d', B', by omega, rfl, by go_num, hF2, hB2⟩
        case measure => simp [intOf]; omega
    · obtain rfl : k = 16 := by omega
      have hF0 : Fresh w.heap.size 75 wr B 16 d (cw (schN b 0)) := by
        rw [List.take_of_length_le (by rw [len_sch16]; omega)] at hF
        exact hF
      clear hF
      go_wp2
      go_loopw [3, 5, 6, 7, 8, 9] (fun v i _ _ _ _ wr => ∃ (m d : Nat) (B : Option Addr), m ≤ 48 ∧ v = .slice B (16 + m) d ∧ i = .int .i64 (16 + (m : Int)) ∧ Fresh w.heap.size 75 wr B (16 + m) d (cw (schN b m)) ∧ Below w.heap.size w wr) (fun v i _ _ _ _ _ => 64 - (intOf i).toNat)
      case atStart => exact ⟨0, d, B, by omega, rfl, rfl, hF0, hBel⟩
      case round =>
        clear hF0 hBel
        obtain ⟨m, d, B, hm, rfl, rfl, hF, hBel⟩ := hrel
        by_cases hlm : m < 48
        · have hl := len_schN b m
          obtain ⟨b1, o1, rfl, hb1, x1, H1, l1, r1⟩ := hF.sees.word (k := m + 1) hl (by omega)
          obtain ⟨b2, o2, he2, hb2, x14, H14, l14, r14⟩ := hF.sees.word (k := m + 14) hl (by omega)
          obtain ⟨b3, o3, he3, hb3, x9, H9, l9, r9⟩ := hF.sees.word (k := m + 9) hl (by omega)
          obtain ⟨b4, o4, he4, hb4, x0, H0, l0, r0⟩ := hF.sees.word (k := m) hl (by omega)
          obtain ⟨rfl, rfl⟩ : b1 = b2 ∧ o1 = o2 := by simpa using he2
          obtain ⟨rfl, rfl⟩ : b1 = b3 ∧ o1 = o3 := by simpa using he3
          obtain ⟨rfl, rfl⟩ : b1 = b4 ∧ o1 = o4 := by simpa using he4
          clear he2 he3 he4 hb2 hb3 hb4
          have w15 : IntKind.i64.wrap (16 + (m : Int) - 15) = ((m + 1 : Nat) : Int) := by rw [wrap64_ _ (by omega) (by omega)]; omega
          have w2 : IntKind.i64.wrap (16 + (m : Int) - 2) = ((m + 14 : Nat) : Int) := by rw [wrap64_ _ (by omega) (by omega)]; omega
          have w7 : IntKind.i64.wrap (16 + (m : Int) - 7) = ((m + 9 : Nat) : Int) := by rw [wrap64_ _ (by omega) (by omega)]; omega
          have w16 : IntKind.i64.wrap (16 + (m : Int) - 16) = ((m : Nat) : Int) := by rw [wrap64_ _ (by omega) (by omega)]; omega
          go_wp2
          go_quiet (fail)
          have s0 : bits BinOp.xor IntKind.u32 (bits BinOp.xor IntKind.u32 ((rr x1 7).toNat : Int) ((rr x1 18).toNat : Int)) ((sh x1 3).toNat : Int) = ((sg0 x1).toNat : Int) := by rw [u32_xor, u32_xor]; rfl
          have s1 : bits BinOp.xor IntKind.u32 (bits BinOp.xor IntKind.u32 ((rr x14 17).toNat : Int) ((rr x14 19).toNat : Int)) ((sh x14 10).toNat : Int) = ((sg1 x14).toNat : Int) := by rw [u32_xor, u32_xor]; rfl
          go_wp2_with (first
            | (go_at_call 164; refine (rror_any _ _ _ rfl (by decide) _).mono ?_; rintro e w' ⟨rfl, nr, rfl⟩)
            | (go_at_call 166; refine (rshr_any _ _ _ rfl (by decide) _).mono ?_; rintro e w' ⟨rfl, rfl⟩))
          try rw [s0]
          try rw [s1]
          refine region_all_tail 17 (wFacts2 b1 o1 m d x0 x1 x9 x14) (by kernel_rfl) (by kernel_rfl) (by kernel_rfl) (wFacts2_stab _ _ _ _ _ _ _ _) ?_ ?_
          · intro w0 hb0
            have hsz0 : wr.heap.size ≤ w0.heap.size := hb0.size
            simp only [List.take_succ_cons, List.take_zero]
            refine ⟨?_, ?_, ?_, ?_, ?_, ?_, ?_, ?_, ?_, ?_, ?_, ?_, ?_, ?_, ?_, ?_, ?_, trivial⟩
            all_goals intro listed a1 w' hk hd
            · have f2 := hk.ev_old2 (P := Try.prog) 3 18 (by kernel_rfl) (by kernel_rfl) (Value.slice (some ⟨b1, o1, none⟩) (16 + m) d) rfl (fun u hu => hu)
              exact stepOk_value rfl (v := Value.slice (some ⟨b1, o1, none⟩) (16 + m) d) (by simp [execOp]; exact f2) rfl
            · have f2 := hk.ev_old 9 (by kernel_rfl)
              exact stepOk_value rfl (v := Value.int .u32 ((sg1 x14).toNat : Int)) (by simp [execOp]; exact f2) rfl
            · have f2 := hk.ev_old2 (P := Try.prog) 3 18 (by kernel_rfl) (by kernel_rfl) (Value.slice (some ⟨b1, o1, none⟩) (16 + m) d) rfl (fun u hu => hu)
              exact stepOk_value rfl (v := Value.slice (some ⟨b1, o1, none⟩) (16 + m) d) (by simp [execOp]; exact f2) rfl
            · have f2 := hk.ev_old 5 (by kernel_rfl)
              exact stepOk_value rfl (v := Value.int .i64 (16 + (m : Int))) (by simp [execOp]; exact f2) rfl
            · obtain ⟨v0, e0, _, rfl⟩ := hk.ev_new hd 3 80 (by kernel_rfl) rfl
              exact stepOk_value rfl (v := Value.int .i64 ((m + 9 : Nat) : Int)) (by go_simp) rfl
            · obtain ⟨v0, e0, _, rfl⟩ := hk.ev_new hd 2 79 (by kernel_rfl) rfl
              obtain ⟨v1, e1, _, rfl⟩ := hk.ev_new hd 4 81 (by kernel_rfl) rfl
              exact stepOk_value rfl (v := Value.pointer (some ⟨b1, o1 + (m + 9), none⟩)) (run_ix1 _ _ rfl Try.underlying28 (by kernel_rfl) e0 e1 rfl (by omega)) rfl
            · obtain ⟨v0, e0, _, rfl⟩ := hk.ev_new hd 5 82 (by kernel_rfl) rfl
              exact stepOk_value rfl (v := Value.int .u32 (x9.toNat : Int)) (run_ld1 _ _ rfl .u32 Try.underlying75 e0 _ (by rw [hk.below.cell (p := ⟨b1, _, none⟩) (Nat.lt_of_lt_of_le hb1 hsz0), hb0.cell (p := ⟨b1, _, none⟩) hb1]; exact r9)) rfl
            · obtain ⟨v0, e0, _, rfl⟩ := hk.ev_new hd 1 78 (by kernel_rfl) rfl
              obtain ⟨v1, e1, _, rfl⟩ := hk.ev_new hd 6 83 (by kernel_rfl) rfl
              refine stepOk_value rfl (v := Value.int .u32 ((sg1 x14 + x9).toNat : Int)) ?_ rfl
              rw [← u32_add]
              go_simp
              all_goals rw [IntKind.wrap_u32]
            · have f2 := hk.ev_old 8 (by kernel_rfl)
              exact stepOk_value rfl (v := Value.int .u32 ((sg0 x1).toNat : Int)) (by simp [execOp]; exact f2) rfl
            · obtain ⟨v0, e0, _, rfl⟩ := hk.ev_new hd 7 84 (by kernel_rfl) rfl
              obtain ⟨v1, e1, _, rfl⟩ := hk.ev_new hd 8 85 (by kernel_rfl) rfl
              refine stepOk_value rfl (v := Value.int .u32 ((sg1 x14 + x9 + sg0 x1).toNat : Int)) ?_ rfl
              rw [← u32_add]
              go_simp
              all_goals rw [IntKind.wrap_u32]
              all_goals omega
            · have f2 := hk.ev_old2 (P := Try.prog) 3 18 (by kernel_rfl) (by kernel_rfl) (Value.slice (some ⟨b1, o1, none⟩) (16 + m) d) rfl (fun u hu => hu)
              exact stepOk_value rfl (v := Value.slice (some ⟨b1, o1, none⟩) (16 + m) d) (by simp [execOp]; exact f2) rfl
            · have f2 := hk.ev_old 5 (by kernel_rfl)
              exact stepOk_value rfl (v := Value.int .i64 (16 + (m : Int))) (by simp [execOp]; exact f2) rfl
            · obtain ⟨v0, e0, _, rfl⟩ := hk.ev_new hd 11 88 (by kernel_rfl) rfl
              exact stepOk_value rfl (v := Value.int .i64 (m : Int)) (by go_simp) rfl
            · obtain ⟨v0, e0, _, rfl⟩ := hk.ev_new hd 10 87 (by kernel_rfl) rfl
              obtain ⟨v1, e1, _, rfl⟩ := hk.ev_new hd 12 89 (by kernel_rfl) rfl
              exact stepOk_value rfl (v := Value.pointer (some ⟨b1, o1 + m, none⟩)) (run_ix1 _ _ rfl Try.underlying28 (by kernel_rfl) e0 e1 rfl (by omega)) rfl
            · obtain ⟨v0, e0, _, rfl⟩ := hk.ev_new hd 13 90 (by kernel_rfl) rfl
              exact stepOk_value rfl (v := Value.int .u32 (x0.toNat : Int)) (run_ld1 _ _ rfl .u32 Try.underlying75 e0 _ (by rw [hk.below.cell (p := ⟨b1, _, none⟩) (Nat.lt_of_lt_of_le hb1 hsz0), hb0.cell (p := ⟨b1, _, none⟩) hb1]; exact r0)) rfl
            · obtain ⟨v0, e0, _, rfl⟩ := hk.ev_new hd 9 86 (by kernel_rfl) rfl
              obtain ⟨v1, e1, _, rfl⟩ := hk.ev_new hd 14 91 (by kernel_rfl) rfl
              refine stepOk_value rfl (v := Value.int .u32 ((sg1 x14 + x9 + sg0 x1 + x0).toNat : Int)) ?_ rfl
              rw [← u32_add]
              go_simp
              all_goals rw [IntKind.wrap_u32]
              all_goals omega
            · obtain ⟨v0, e0, _, rfl⟩ := hk.ev_new hd 15 92 (by kernel_rfl) rfl
              refine stepOk_run rfl (v := .slice (some ⟨w'.heap.size, 0, none⟩) 1 1) (w' := w'.alloc (.cells (cw [sg1 x14 + x9 + sg0 x1 + x0]).toArray 75)) ?_ ⟨_, rfl, sees_one32 w' 75 _ _ rfl⟩ (below_alloc _ _)
              go_simp
          · intro a1 w' hbw hp
            obtain ⟨v0, p0, v1, p1, v2, p2, v3, p3, v4, p4, v5, p5, v6, p6, v7, p7, v8, p8, v9, p9, v10, p10, v11, p11, v12, p12, v13, p13, v14, p14, v15, p15, v16, p16, rfl⟩ := hp
            simp only [wFacts2] at p0 p1 p2 p3 p4 p5 p6 p7 p8 p9 p10 p11 p12 p13 p14 p15 p16
            subst p0 p1 p2 p3 p4 p5 p6 p7 p8 p9 p10 p11 p12 p13 p14 p15
            obtain ⟨g1, rfl, hS1⟩ := p16
            simp only [List.drop_succ_cons, List.drop_zero, Act.put, List.setIfInBounds_toArray, List.set_cons_succ, List.set_cons_zero]
            have hbw' : Below wr.heap.size wr w' := ⟨hbw.os, hbw.tape, hbw.output, hbw.size, hbw.block⟩
            go_wp2_with (at_builtin; refine wpList_app32 rfl (.tmp 77) (.tmp 93) rfl (some ⟨b1, o1, none⟩) (some ⟨g1, 0, none⟩) (16 + m) d 1 1 (schN b m) [sg1 x14 + x9 + sg0 x1 + x0] w rfl rfl (hF.below hbw') hS1 rfl (by omega) (Below.then_ hBel hbw') ?_; intro B' d' w3 hF3 hB3)
            go_roundw
            case rel =>
              rw [next_is _ _ _ _ _ _ H14.out H9.out H1.out H0.out, ← schN_succ] at hF3
              (repeat apply Exists.intro)
              exact ⟨⟨m + 1, d', B', by omega, rfl, by go_num, hF3, hB3⟩, rfl⟩
            case measure => simp [intOf]; omega
        · obtain rfl : m = 48 := by omega
          go_wp2
          go_ret
          exact ⟨B, d, rfl, hF, hBel⟩
end Go.Proofs.Ytcfjbllmaejiaaa

namespace Go.Proofs.Ytcfjbllmaejiaaa
open Go.RowKit
set_option linter.unusedVariables false
theorem t_nat2 (e f g h k w : UInt32) : ((h.toNat : Int) + bits BinOp.xor IntKind.u32 (bits BinOp.xor IntKind.u32 ((rr e 6).toNat : Int) ((rr e 11).toNat : Int)) ((rr e 25).toNat : Int) +
    bits BinOp.xor IntKind.u32 (bits BinOp.and IntKind.u32 (e.toNat : Int) (f.toNat : Int)) (bits BinOp.and IntKind.u32 ((4294967295 - (e.toNat : Int)) % 4294967296) (g.toNat : Int)) +
    (k.toNat : Int) + (w.toNat : Int)) % 4294967296 = ((tOf e f g h k w).toNat : Int) := by
  have h0 : (4294967295 - (e.toNat : Int)) % 4294967296 = ((~~~e).toNat : Int) := by
    rw [← u32_not]
    have := e.toNat_lt
    omega
  rw [h0, u32_xor, u32_xor, u32_and, u32_and, u32_xor, u32_sum5]
  rfl
def RBlkRel (keys ws s tab : List UInt32) (gt gs gr : Nat) (B : Option Addr) (d : Nat) (W : World) (a b c e f g h i k : Value) (wr : World) : Prop :=
  ∃ (n : Nat) (x0 x1 x2 x3 x4 x5 x6 x7 : UInt32), n ≤ 64 ∧ k = .int .i64 n ∧ a = .int .u32 (x0.toNat : Int) ∧ b = .int .u32 (x1.toNat : Int) ∧ c = .int .u32 (x2.toNat : Int) ∧ e = .int .u32 (x3.toNat : Int) ∧
    f = .int .u32 (x4.toNat : Int) ∧ g = .int .u32 (x5.toNat : Int) ∧ h = .int .u32 (x6.toNat : Int) ∧ i = .int .u32 (x7.toNat : Int) ∧ Hid (((keys.zip ws).take n).foldl rnd s = [x0, x1, x2, x3, x4, x5, x6, x7]) ∧
    Fresh W.heap.size 75 wr B 64 d (cw ws) ∧ Fresh W.heap.size 79 wr (some ⟨gt, 0, none⟩) 72 72 (cw tab) ∧ Fresh W.heap.size 76 wr (some ⟨gs, 0, none⟩) 8 8 (cw s) ∧ Fresh W.heap.size 76 wr (some ⟨gr, 0, none⟩) 8 8 (cw (List.replicate 8 0)) ∧ Below W.heap.size W wr
set_option maxHeartbeats 2000000 in
set_option maxRecDepth 100000 in
theorem rBlock_eight (first keys : List UInt32) (s0 s1 s2 s3 s4 s5 s6 s7 : UInt32) (A : Option Addr) (c : Nat) (b : List UInt8) (w : World) (hfl : first.length = 8) (hkl : keys.length = 64) (hb : b.length = 64) (hsee : Sees w w.heap.size A (cb b)) :
    Calls Try.prog 160 #[.agg (cw (first ++ keys)).toArray, .agg (cw [s0, s1, s2, s3, s4, s5, s6, s7]).toArray, .slice A 64 c] w fun e w' => e = .returned (.agg (cw (blockF keys [s0, s1, s2, s3, s4, s5, s6, s7] b)).toArray) ∧ Below w.heap.size w w' := by
  have hTL : (first ++ keys).length = 72 := by simp [hfl, hkl]
  have HT := Lib.hid hTL
  have HF := Lib.hid hfl
  have HK := Lib.hid hkl
  have HB := Lib.hid hb
  have hcut : ∀ k, k < 64 → (first ++ keys)[8 + k]? = keys[k]? := fun k hk => by
    rw [List.getElem?_append_right (by omega), hfl]
    congr 1
    omega
  have HC := Lib.hid hcut
  clear hTL hfl hkl hb hcut
  generalize htab : first ++ keys = tab at *
  clear htab
  go_enter Try.func160, Try.ntmps160
  go_wp2_with (first
    | (with_reducible refine wpList_box (o := ⟨some 3, _, _, _, _, _⟩) rfl (.tmp 0) 79 rfl (cw tab) rfl 72 (by simp [HT.out]) (by decide) ?_; intro gt w1 hgt hFt hBt)
    | (with_reducible refine wpList_box (o := ⟨some 4, _, _, _, _, _⟩) rfl (.tmp 1) 76 rfl (cw [s0, s1, s2, s3, s4, s5, s6, s7]) rfl 8 (by simp) (by decide) ?_; intro gs w2 hgs hFs hBs)
    | (with_reducible refine wpList_alloc (o := ⟨some 6, _, _, _, _, _⟩) rfl 76 rfl (cw (List.replicate 8 0)) (by kernel_rfl) 8 (by simp) (by decide) ?_; intro gr w3 hgr hFr hBr))
  have d1 := hFt.lt_size
  have d2 := hFs.lt_size
  have d3 := hFr.lt_size
  have hz1 := hBt.size
  have hz2 := hBs.size
  have hB3 := Below.then_ (Below.then_ hBt hBs) hBr
  have hFt3 := (hFt.below hBs).below hBr
  have hFs3 := (hFs.below hBr).lower hz1
  have hFr3 := hFr.lower (Nat.le_trans hz1 hz2)
  have hS3 := hsee.step hB3
  clear hFt hFs hFr hBt hBs hBr hsee
  go_wp2_with (go_at_call 163; refine (rwords2_any A c b _ hS3 HB.out).mono ?_; rintro e w4 ⟨B, d, rfl, hW4, hB4⟩)
  have hFt4 := hFt3.below hB4
  have hFs4 := hFs3.below hB4
  have hFr4 := hFr3.below hB4
  have hBel4 := Below.then_ hB3 hB4
  have hW4' := hW4.lower hB3.size
  clear hFt3 hFs3 hFr3 hB3 hB4 hW4 hS3
  have c0 := hFs4.cell32 (k := 0) rfl
  have c1 := hFs4.cell32 (k := 1) rfl
  have c2 := hFs4.cell32 (k := 2) rfl
  have c3 := hFs4.cell32 (k := 3) rfl
  have c4 := hFs4.cell32 (k := 4) rfl
  have c5 := hFs4.cell32 (k := 5) rfl
  have c6 := hFs4.cell32 (k := 6) rfl
  have c7 := hFs4.cell32 (k := 7) rfl
  go_quiet (fail)
  clear c0 c1 c2 c3 c4 c5 c6 c7
  go_wp2
  have hq := below_drewN' (Below.refl w4.heap.size w4) nq
  have hwl := len_sched b
  have HW := Lib.hid hwl
  clear hwl
  have hbf : blockF keys [s0, s1, s2, s3, s4, s5, s6, s7] b = sums (turn keys (sched b) [s0, s1, s2, s3, s4, s5, s6, s7]) [s0, s1, s2, s3, s4, s5, s6, s7] := rfl
  have HBF := Lib.hid hbf
  clear hbf
  obtain ⟨blk, hblk⟩ : ∃ x, x = blockF keys [s0, s1, s2, s3, s4, s5, s6, s7] b := ⟨_, rfl⟩
  rw [← hblk] at HBF
  have HBLK := Lib.hid hblk
  clear hblk
  generalize sched b = ws at *
  go_loopw [8, 9, 10, 11, 12, 13, 14, 15, 16] (RBlkRel keys ws [s0, s1, s2, s3, s4, s5, s6, s7] tab gt gs gr B d w) (fun _ _ _ _ _ _ _ _ i _ => 64 - (intOf i).toNat)
  case atStart => exact ⟨0, s0, s1, s2, s3, s4, s5, s6, s7, by omega, rfl, rfl, rfl, rfl, rfl, rfl, rfl, rfl, rfl, rfl, hW4'.below hq, hFt4.below hq, hFs4.below hq, hFr4.below hq, Below.then_ hBel4 hq⟩
  case round =>
    obtain ⟨k, x0, x1, x2, x3, x4, x5, x6, x7, hk, rfl, rfl, rfl, rfl, rfl, rfl, rfl, rfl, rfl, HR, hW, hT, hS, hR, hBel⟩ := hrel
    clear hFt4 hFs4 hFr4 hBel4 hW4' hq
    by_cases hlt : k < 64
    · obtain ⟨wb, wo, rfl, hwb, wk, H1, l1, r1⟩ := hW.sees.word HW.out hlt
      obtain ⟨kk, H2, l2, r2⟩ := hT.word (k := 8 + k) (by omega)
      have hkk : keys[k]? = some kk := by rw [← HC.out k hlt]; exact H2.out
      have HKK := Lib.hid hkk
      clear hkk
      go_wp2
      go_quiet ((go_at_call 164; exact Calls.quiet_of (rror_any _ _ _ rfl (by decide) _)))
      go_wp2_with (go_at_call 164; refine (rror_any _ _ _ rfl (by decide) _).mono ?_; rintro e w' ⟨rfl, nr, rfl⟩)
      go_roundw
      case rel =>
        have hb9 : ∀ n, Below wr.heap.size wr (wr.drewN n) := fun n => below_drewN' (Below.refl _ _) n
        refine ⟨k + 1, tOf x4 x5 x6 x7 kk wk + uOf x0 x1 x2, x0, x1, x2, x3 + tOf x4 x5 x6 x7 kk wk, x4, x5, x6, by omega, by go_num, ?_, rfl, rfl, rfl, ?_, rfl, rfl, rfl, ?_, hW.below (hb9 _), hT.below (hb9 _), hS.below (hb9 _), hR.below (hb9 _), Below.then_ hBel (hb9 _)⟩
        · rw [t_nat2, u_nat, u32_add]
        · rw [t_nat2, u32_add]
        · exact Lib.hid (by rw [foldl_take_succ _ _ _ _ (zip_get keys ws k kk wk HKK.out H1.out), HR.out]; rfl)
      case measure => simp [intOf]; omega
    · obtain rfl : k = 64 := by omega
      have hfin : turn keys ws [s0, s1, s2, s3, s4, s5, s6, s7] = [x0, x1, x2, x3, x4, x5, x6, x7] := by
        have h := HR.out
        rwa [List.take_of_length_le (by rw [List.length_zip, HK.out, HW.out]; decide)] at h
      have HT' := Lib.hid hfin
      clear hfin
      have c0 := hS.cell32 (k := 0) rfl
      have c1 := hS.cell32 (k := 1) rfl
      have c2 := hS.cell32 (k := 2) rfl
      have c3 := hS.cell32 (k := 3) rfl
      have c4 := hS.cell32 (k := 4) rfl
      have c5 := hS.cell32 (k := 5) rfl
      have c6 := hS.cell32 (k := 6) rfl
      have c7 := hS.cell32 (k := 7) rfl
      have hraw : [Value.int .u32 (((x0.toNat : Int) + (s0.toNat : Int)) % 4294967296), .int .u32 (((x1.toNat : Int) + (s1.toNat : Int)) % 4294967296), .int .u32 (((x2.toNat : Int) + (s2.toNat : Int)) % 4294967296), .int .u32 (((x3.toNat : Int) + (s3.toNat : Int)) % 4294967296), .int .u32 (((x4.toNat : Int) + (s4.toNat : Int)) % 4294967296), .int .u32 (((x5.toNat : Int) + (s5.toNat : Int)) % 4294967296), .int .u32 (((x6.toNat : Int) + (s6.toNat : Int)) % 4294967296), .int .u32 (((x7.toNat : Int) + (s7.toNat : Int)) % 4294967296)] = cw [x0 + s0, x1 + s1, x2 + s2, x3 + s3, x4 + s4, x5 + s5, x6 + s6, x7 + s7] := by
        simp only [u32_add]
        rfl
      have HRAW := Lib.hid hraw
      clear hraw
      have hone : ∀ u ∈ [Value.int .u32 (((x0.toNat : Int) + (s0.toNat : Int)) % 4294967296), .int .u32 (((x1.toNat : Int) + (s1.toNat : Int)) % 4294967296), .int .u32 (((x2.toNat : Int) + (s2.toNat : Int)) % 4294967296), .int .u32 (((x3.toNat : Int) + (s3.toNat : Int)) % 4294967296), .int .u32 (((x4.toNat : Int) + (s4.toNat : Int)) % 4294967296), .int .u32 (((x5.toNat : Int) + (s5.toNat : Int)) % 4294967296), .int .u32 (((x6.toNat : Int) + (s6.toNat : Int)) % 4294967296), .int .u32 (((x7.toNat : Int) + (s7.toNat : Int)) % 4294967296)], u.oneCell' = true := by
        rw [HRAW.out]
        exact cw_one _
      have HO := Lib.hid hone
      clear hone
      go_wp2_with (with_reducible refine wpList_store rfl rfl (.tmp 6) (.tmp 134) 76 rfl gr 0 w.heap.size 76 8 (cw (List.replicate 8 0)) [Value.int .u32 (((x0.toNat : Int) + (s0.toNat : Int)) % 4294967296), .int .u32 (((x1.toNat : Int) + (s1.toNat : Int)) % 4294967296), .int .u32 (((x2.toNat : Int) + (s2.toNat : Int)) % 4294967296), .int .u32 (((x3.toNat : Int) + (s3.toNat : Int)) % 4294967296), .int .u32 (((x4.toNat : Int) + (s4.toNat : Int)) % 4294967296), .int .u32 (((x5.toNat : Int) + (s5.toNat : Int)) % 4294967296), .int .u32 (((x6.toNat : Int) + (s6.toNat : Int)) % 4294967296), .int .u32 (((x7.toNat : Int) + (s7.toNat : Int)) % 4294967296)] rfl rfl 8 (by simp) (by kernel_rfl) hR (by omega) HO.out w hBel (by omega) ?_; intro w9 hF9 hB9 _ _)
      have e : splice (cw (List.replicate 8 0)) 0 [Value.int .u32 (((x0.toNat : Int) + (s0.toNat : Int)) % 4294967296), .int .u32 (((x1.toNat : Int) + (s1.toNat : Int)) % 4294967296), .int .u32 (((x2.toNat : Int) + (s2.toNat : Int)) % 4294967296), .int .u32 (((x3.toNat : Int) + (s3.toNat : Int)) % 4294967296), .int .u32 (((x4.toNat : Int) + (s4.toNat : Int)) % 4294967296), .int .u32 (((x5.toNat : Int) + (s5.toNat : Int)) % 4294967296), .int .u32 (((x6.toNat : Int) + (s6.toNat : Int)) % 4294967296), .int .u32 (((x7.toNat : Int) + (s7.toNat : Int)) % 4294967296)] = cw blk := by
        rw [HRAW.out, HBF.out, HT'.out]
        simp [splice, sums]
      rw [e] at hF9
      have hl : blk.length = 8 := by rw [HBF.out, HT'.out]; simp [sums]
      exact bodyPost_cell rfl rfl (cw blk) 8 (by simp [hl]) (by kernel_rfl) hF9.sees rfl ⟨by rw [HBLK.out], hB9⟩
theorem rBlock_any (first keys s : List UInt32) (A : Option Addr) (c : Nat) (b : List UInt8) (w : World) (hfl : first.length = 8) (hkl : keys.length = 64) (hs : s.length = 8) (hb : b.length = 64) (hsee : Sees w w.heap.size A (cb b)) :
    Calls Try.prog 160 #[.agg (cw (first ++ keys)).toArray, .agg (cw s).toArray, .slice A 64 c] w fun e w' => e = .returned (.agg (cw (blockF keys s b)).toArray) ∧ Below w.heap.size w w' := by
  obtain ⟨s0, s1, s2, s3, s4, s5, s6, s7, rfl⟩ := eight s hs
  exact rBlock_eight first keys s0 s1 s2 s3 s4 s5 s6 s7 A c b w hfl hkl hb hsee
end Go.Proofs.Ytcfjbllmaejiaaa
