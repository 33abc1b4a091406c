/-
  What the document's own Block of layer 2 answers: the state by a block, for every table, state and block.
-/
import Derived.Test.YtpdfalgjmeagjaaBlock
import Derived.Test.YtpdfalgjmeagjaaLow
import Derived.Test.YtpdfalgjmeagjaaRegion
namespace Go.Proofs.Ytpdfalgjmeagjaa
open Go.RowKit
set_option linter.unusedVariables false
theorem sees_one32 (w : World) (e : TypeId) (C : Array Value) (c : UInt32) (hC : C = (cw [c]).toArray) : Sees (w.alloc (.cells C e)) (w.alloc (.cells C e)).heap.size (some ⟨w.heap.size, 0, none⟩) (cw [c]) := fun _ => by
  subst hC
  exact ⟨w.heap.size, 0, rfl, by simp, fun j u hu => by rw [Nat.zero_add, World.cell?_alloc_mark]; simpa using hu⟩
theorem cell_one32 {v : Int} {c : UInt32} (h : v = (c.toNat : Int)) : #[Value.int .u32 v] = (cw [c]).toArray := by subst h; rfl
theorem rr_nat2 (x : UInt32) (n m k : Nat) (hm : 2 ^ (32 - n) = m) (hk : 2 ^ n = k) (hp : 0 < k) : bits .or .u32 ((x.toNat : Int) / (k : Int)) ((x.toNat : Int) * (m : Int) % 4294967296) = ((rr x n).toNat : Int) := by
  rw [← rr_nat x n m k hm hk hp]
  have e1 : (x.toNat : Int) * (m : Int) % 4294967296 = ((x.toNat * m % 4294967296 : Nat) : Int) := by rw [Int.natCast_emod, Int.natCast_mul]; rfl
  have e2 : (x.toNat : Int) / (k : Int) = ((x.toNat / k : Nat) : Int) := by rw [Int.natCast_ediv]
  have h1 : x.toNat * m % 4294967296 < 4294967296 := Nat.mod_lt _ (by omega)
  have h2 : x.toNat / k < 4294967296 := Nat.lt_of_le_of_lt (Nat.div_le_self _ _) x.toNat_lt
  rw [e1, e2, u32_or_nat _ _ h2 h1, u32_or_nat _ _ h1 h2, Nat.or_comm]
theorem info32w : (Try.prog.info? 22).map (fun i => (i.zero, i.size, i.bytes)) = some (some (.int .u32 0), 1, 4) := by kernel_rfl
/-- 'make([]uint32, 0, n)'. -/
theorem wpList_mk032 {w : World} {ops : Array Oper} {rest : List Oper} {o : Oper} {a : Act} {Q : Exit → Act → World → Prop} (hg : o.guard = none) (l x : Operand) (hop : o.op = Op.makeSlice 54 l x)
    (n : Nat) (hl : a.eval l = .int .i64 0) (hx : a.eval x = .int .i64 (n : Int)) (hn : n ≤ 1099511627776)
    (hK : ∀ w', Fresh w.heap.size 22 w' (some ⟨w.heap.size, 0, none⟩) 0 n (cw []) → Below w.heap.size w w' → wpList Try.prog ops Q rest (a.put o.dst (.slice (some ⟨w.heap.size, 0, none⟩) 0 n)) w') :
    wpList Try.prog ops Q (o :: rest) a w := by
  obtain ⟨i0, hi, hz0, hz1, hz2⟩ := info_parts info32w
  refine wpList_make_own w hg l x 54 hop w.heap.size 22 i0 (.int .u32 0) 1 Try.underlying54 hi hz0 hz1 .i64 .i64 (n : Int) n hl hx rfl (by rw [hz2]; omega) (by unfold maxLen; omega) (Nat.le_refl _) ?_
  intro w' h1 h2
  exact hK w' h1 ((Below.refl _ _).grown h2 (Nat.le_refl _) (by simp))
theorem take_next (l : List UInt32) (k : Nat) (x : UInt32) (h : l[k]? = some x) : l.take k ++ [x] = l.take (k + 1) := by
  rw [List.take_add_one, h]; rfl
theorem be_nat2 (b : List UInt8) (j : Nat) (c0 c1 c2 c3 : UInt8) (h0 : b[j]? = some c0) (h1 : b[j + 1]? = some c1) (h2 : b[j + 2]? = some c2) (h3 : b[j + 3]? = some c3) :
    ((c0.toNat : Int) * 16777216 + (c1.toNat : Int) * 65536 + (c2.toNat : Int) * 256 + (c3.toNat : Int)) = ((be b j).toNat : Int) := by
  have l0 := c0.toNat_lt
  have l1 := c1.toNat_lt
  have l2 := c2.toNat_lt
  have l3 := c3.toNat_lt
  unfold be
  rw [List.getD_eq_getElem?_getD, List.getD_eq_getElem?_getD, List.getD_eq_getElem?_getD, List.getD_eq_getElem?_getD, h0, h1, h2, h3]
  simp only [Option.getD_some]
  rw [ofNat_toNat32]
  all_goals omega
theorem wrap32_ (x : Int) (h : 0 ≤ x) (h' : x < 4294967296) : IntKind.u32.wrap x = x := by rw [IntKind.wrap_u32]; omega
theorem wrap64_ (x : Int) (h : 0 ≤ x) (h' : x < 1000000) : IntKind.i64.wrap x = x := wrap_small x h (by omega)
theorem run_ld1 {P : Program} {o : Oper} {a : Act} {w : World} (x : Operand) (T : TypeId) (hop : o.op = .load T x) (k : IntKind) (hT : P.underlying T = some (.int k)) {ad : Addr} (hx : a.eval x = .pointer (some ad)) (v : Value) (hc : w.cell? ad = some v) : (execOp a.eval o).run P w = .ok (.value v) w := by
  have hagg : (isAgg T).run P w = .ok false w := by
    unfold isAgg
    rw [Sem.run_bind, run_underlying hT w]
    rfl
  have hl : (loadVar T ad).run P w = .ok v w := by
    simp [loadVar, Sem.run_bind, hagg, hc]
  unfold execOp
  simp only [hop, hx, Instr.loadAt, Instr.sureAddr, Sem.run_bind, Sem.run_pure, Result.andThen_ok, hl]
theorem run_ix1 {P : Program} {o : Oper} {a : Act} {w : World} {T e : TypeId} (x y : Operand) (hop : o.op = .indexAddr T x y) (hT : P.underlying T = some (.slice e)) (hz : (P.info? e).map (·.size) = some 1) {b of' n c j : Nat} {I : Int} (hx : a.eval x = .slice (some ⟨b, of', none⟩) n c) (hy : a.eval y = .int .i64 I) (hI : I = (j : Int)) (hj : j < n) : (execOp a.eval o).run P w = .ok (.value (.pointer (some ⟨b, of' + j, none⟩))) w := by
  subst hI
  obtain ⟨i, hi, hsz⟩ := Option.map_eq_some_iff.1 hz
  unfold execOp
  simp [hop, hx, hy, Instr.indexAt, asIntOf, run_underlying hT, hj, sizeOf, typeInfo, hi, hsz, Addr.add_lit, Sem.run_bind]
theorem Kept.ev_old2 {P : Program} {ops : Array Oper} {pr : Nat → Value → World → Prop} {a0 a : Act} {w0 w : World} {listed : Array Bool} (hk : Kept ops pr a0 w0 listed a w) (t : Tmp) (j0 : Nat) (hd : ((ops[j0]?).bind (·.dst)) = some t) (h : ((List.range ops.size).all fun j => j == j0 || ((ops[j]?).bind (·.dst)) != some t) = true) (v : Value) (hv : a0.eval (.tmp t) = v) (hp : ∀ u, pr j0 u w → u = v) : a.eval (.tmp t) = v := by
  obtain ⟨oj, hoj, hdj⟩ := Option.bind_eq_some_iff.1 hd
  by_cases hl : listed.getD j0 false = true
  · obtain ⟨u, hu, hpu⟩ := hk.new j0 oj t hoj hdj hl
    rw [← hp u hpu]
    simp [Act.eval, Array.getD_eq_getD_getElem?, hu]
  · have := hk.old t (fun j o hj hlj hdo => by
      rw [List.all_eq_true] at h
      have hlt := (Array.getElem?_eq_some_iff.1 hj).1
      have := h j (List.mem_range.2 hlt)
      simp only [Bool.or_eq_true, beq_iff_eq, bne_iff_ne, ne_eq, hj, Option.bind_some, hdo, not_true_eq_false, or_false] at this
      subst this
      exact hl hlj)
    rw [← hv]
    simp [Act.eval, Array.getD_eq_getD_getElem?, this]
def wFacts (b : List UInt8) (ba bo c k d : Nat) (B : Option Addr) (c0 c1 c2 c3 : UInt8) (j : Nat) (v : Value) (w : World) : Prop :=
  match j with
  | 0 => v = Value.slice B k d
  | 1 => v = Value.slice (some ⟨ba, bo, none⟩) 64 c
  | 2 => v = Value.int .i64 (4 * (k : Int))
  | 3 => v = Value.pointer (some ⟨ba, bo + (4 * k), none⟩)
  | 4 => v = Value.int .u8 (c0.toNat : Int)
  | 5 => v = Value.int .u32 (c0.toNat : Int)
  | 6 => v = Value.int .u32 ((c0.toNat : Int) * 16777216)
  | 7 => v = Value.slice (some ⟨ba, bo, none⟩) 64 c
  | 8 => v = Value.int .i64 (4 * (k : Int))
  | 9 => v = Value.int .i64 (4 * (k : Int) + 1)
  | 10 => v = Value.pointer (some ⟨ba, bo + (4 * k + 1), none⟩)
  | 11 => v = Value.int .u8 (c1.toNat : Int)
  | 12 => v = Value.int .u32 (c1.toNat : Int)
  | 13 => v = Value.int .u32 ((c1.toNat : Int) * 65536)
  | 14 => v = Value.int .u32 ((c0.toNat : Int) * 16777216 + (c1.toNat : Int) * 65536)
  | 15 => v = Value.slice (some ⟨ba, bo, none⟩) 64 c
  | 16 => v = Value.int .i64 (4 * (k : Int))
  | 17 => v = Value.int .i64 (4 * (k : Int) + 2)
  | 18 => v = Value.pointer (some ⟨ba, bo + (4 * k + 2), none⟩)
  | 19 => v = Value.int .u8 (c2.toNat : Int)
  | 20 => v = Value.int .u32 (c2.toNat : Int)
  | 21 => v = Value.int .u32 ((c2.toNat : Int) * 256)
  | 22 => v = Value.int .u32 ((c0.toNat : Int) * 16777216 + (c1.toNat : Int) * 65536 + (c2.toNat : Int) * 256)
  | 23 => v = Value.slice (some ⟨ba, bo, none⟩) 64 c
  | 24 => v = Value.int .i64 (4 * (k : Int))
  | 25 => v = Value.int .i64 (4 * (k : Int) + 3)
  | 26 => v = Value.pointer (some ⟨ba, bo + (4 * k + 3), none⟩)
  | 27 => v = Value.int .u8 (c3.toNat : Int)
  | 28 => v = Value.int .u32 (c3.toNat : Int)
  | 29 => v = Value.int .u32 ((be b (4 * k)).toNat : Int)
  | 30 => ∃ g, v = .slice (some ⟨g, 0, none⟩) 1 1 ∧ Sees w w.heap.size (some ⟨g, 0, none⟩) (cw [be b (4 * k)])
  | 32 => v = .slice B k d
  | _ => True
theorem wFacts_stab (b : List UInt8) (ba bo c k d : Nat) (B : Option Addr) (c0 c1 c2 c3 : UInt8) : ∀ j v w w', Below w.heap.size w w' → wFacts b ba bo c k d B c0 c1 c2 c3 j v w → wFacts b ba bo c k d B c0 c1 c2 c3 j v w' := by
  intro j v w w' hb h
  unfold wFacts at *
  split at h <;> first | exact h | (obtain ⟨g, h1, h2⟩ := h; exact ⟨g, h1, h2.step hb⟩) | trivial
def wFacts2 (b1 o1 m d : Nat) (x0 x1 x9 x14 : UInt32) (j : Nat) (v : Value) (w : World) : Prop :=
  match j with
  | 0 => v = Value.slice (some ⟨b1, o1, none⟩) (16 + m) d
  | 1 => v = Value.int .u32 ((sg1 x14).toNat : Int)
  | 2 => v = Value.slice (some ⟨b1, o1, none⟩) (16 + m) d
  | 3 => v = Value.int .i64 (16 + (m : Int))
  | 4 => v = Value.int .i64 ((m + 9 : Nat) : Int)
  | 5 => v = Value.pointer (some ⟨b1, o1 + (m + 9), none⟩)
  | 6 => v = Value.int .u32 (x9.toNat : Int)
  | 7 => v = Value.int .u32 ((sg1 x14 + x9).toNat : Int)
  | 8 => v = Value.int .u32 ((sg0 x1).toNat : Int)
  | 9 => v = Value.int .u32 ((sg1 x14 + x9 + sg0 x1).toNat : Int)
  | 10 => v = Value.slice (some ⟨b1, o1, none⟩) (16 + m) d
  | 11 => v = Value.int .i64 (16 + (m : Int))
  | 12 => v = Value.int .i64 (m : Int)
  | 13 => v = Value.pointer (some ⟨b1, o1 + m, none⟩)
  | 14 => v = Value.int .u32 (x0.toNat : Int)
  | 15 => v = Value.int .u32 ((sg1 x14 + x9 + sg0 x1 + x0).toNat : Int)
  | 16 => ∃ g, v = .slice (some ⟨g, 0, none⟩) 1 1 ∧ Sees w w.heap.size (some ⟨g, 0, none⟩) (cw [sg1 x14 + x9 + sg0 x1 + x0])
  | 18 => v = Value.slice (some ⟨b1, o1, none⟩) (16 + m) d
  | _ => True
theorem wFacts2_stab (b1 o1 m d : Nat) (x0 x1 x9 x14 : UInt32) : ∀ j v w w', Below w.heap.size w w' → wFacts2 b1 o1 m d x0 x1 x9 x14 j v w → wFacts2 b1 o1 m d x0 x1 x9 x14 j v w' := by
  intro j v w w' hb h
  unfold wFacts2 at *
  split at h <;> first | exact h | (obtain ⟨g, h1, h2⟩ := h; exact ⟨g, h1, h2.step hb⟩) | trivial
theorem next_is (l : List UInt32) (m : Nat) (x14 x9 x1 x0 : UInt32) (h14 : l[m + 14]? = some x14) (h9 : l[m + 9]? = some x9) (h1 : l[m + 1]? = some x1) (h0 : l[m]? = some x0) : sg1 x14 + x9 + sg0 x1 + x0 = nextW l m := by
  unfold nextW
  simp only [List.getD_eq_getElem?_getD, h14, h9, h1, h0, Option.getD_some]
end Go.Proofs.Ytpdfalgjmeagjaa

namespace Go.Proofs.Ytpdfalgjmeagjaa
open Go.RowKit
set_option linter.unusedVariables false
theorem t_nat2 (e f g h k w : UInt32) : ((h.toNat : Int) + bits BinOp.xor IntKind.u32 (bits BinOp.xor IntKind.u32 ((rr e 6).toNat : Int) ((rr e 11).toNat : Int)) ((rr e 25).toNat : Int) +
    bits BinOp.xor IntKind.u32 (bits BinOp.and IntKind.u32 (e.toNat : Int) (f.toNat : Int)) (bits BinOp.and IntKind.u32 ((4294967295 - (e.toNat : Int)) % 4294967296) (g.toNat : Int)) +
    (k.toNat : Int) + (w.toNat : Int)) % 4294967296 = ((tOf e f g h k w).toNat : Int) := by
  have h0 : (4294967295 - (e.toNat : Int)) % 4294967296 = ((~~~e).toNat : Int) := by
    rw [← u32_not]
    have := e.toNat_lt
    omega
  rw [h0, u32_xor, u32_xor, u32_and, u32_and, u32_xor, u32_sum5]
  rfl
def RBlkRel (keys ws s tab : List UInt32) (gt gs gr : Nat) (B : Option Addr) (d : Nat) (W : World) (a b c e f g h i k : Value) (wr : World) : Prop :=
  ∃ (n : Nat) (x0 x1 x2 x3 x4 x5 x6 x7 : UInt32), n ≤ 64 ∧ k = .int .i64 n ∧ a = .int .u32 (x0.toNat : Int) ∧ b = .int .u32 (x1.toNat : Int) ∧ c = .int .u32 (x2.toNat : Int) ∧ e = .int .u32 (x3.toNat : Int) ∧
    f = .int .u32 (x4.toNat : Int) ∧ g = .int .u32 (x5.toNat : Int) ∧ h = .int .u32 (x6.toNat : Int) ∧ i = .int .u32 (x7.toNat : Int) ∧ Hid (((keys.zip ws).take n).foldl rnd s = [x0, x1, x2, x3, x4, x5, x6, x7]) ∧
    Fresh W.heap.size 22 wr B 64 d (cw ws) ∧ Fresh W.heap.size 26 wr (some ⟨gt, 0, none⟩) 72 72 (cw tab) ∧ Fresh W.heap.size 23 wr (some ⟨gs, 0, none⟩) 8 8 (cw s) ∧ Fresh W.heap.size 23 wr (some ⟨gr, 0, none⟩) 8 8 (cw (List.replicate 8 0)) ∧ Below W.heap.size W wr
end Go.Proofs.Ytpdfalgjmeagjaa
