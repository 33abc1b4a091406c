/-
  Arrays held against each other; two hashers that are the same.
-/
import Derived.Test.YtpdfalgjmeagjaaShaAwake
import Derived.Laws.StructEq
namespace Go.Proofs.Ytpdfalgjmeagjaa
open Go.RowKit
set_option linter.unusedVariables false
def eqElems (d : Nat) (e : TypeId) (n : Nat) (xs ys : Array Value) : List Nat → Sem Bool
  | [] => pure true
  | i :: l => do
    let a ← part e xs (i * n)
    let b ← part e ys (i * n)
    let r ← Op.equalIn d e a b
    if (!r) = true then pure false else eqElems d e n xs ys l
section
variable {P : Program} (w : World)
theorem run_equalIn_array (d : Nat) (t e : TypeId) (len n : Nat) (xs ys : Array Value) (ht : P.underlying t = some (.array len e)) (hn : ∀ w, (sizeOf e).run P w = .ok n w) :
    (Op.equalIn (d + 1) t (.agg xs) (.agg ys)).run P w = (eqElems d e n xs ys (List.range' 0 len)).run P w := by
  simp only [Op.equalIn, Sem.run_bind, run_underlying ht, Result.andThen_ok, hn]
  rw [← Sem.run_bind]
  refine congrArg (fun m : Sem Bool => m.run P w) ?_
  rw [Std.Legacy.Range.forIn_eq_forIn_range', show ([:len] : Std.Legacy.Range).size = len by simp [Std.Legacy.Range.size]]
  show forIn (List.range' 0 len) _ _ >>= _ = _
  generalize List.range' 0 len = fs
  induction fs with
  | nil => rfl
  | cons f fs ih =>
    rw [List.forIn_cons, eqElems]
    simp only [bind_assoc]
    refine bind_congr fun a => bind_congr fun b => bind_congr fun r => ?_
    cases r with
    | false => rfl
    | true =>
      rw [← ih]
      rfl
theorem eqElems_ints (d : Nat) (e : TypeId) (k : IntKind) (he : P.underlying e = some (.int k)) (xs ys : List Int) (hl : xs.length = ys.length) : ∀ (m i : Nat), i + m = xs.length →
    (eqElems (d + 1) e 1 (xs.map (Value.int k)).toArray (ys.map (Value.int k)).toArray (List.range' i m)).run P w = .ok (xs.drop i == ys.drop i) w
  | 0, i, h => by
    rw [List.drop_of_length_le (by omega), List.drop_of_length_le (by omega)]
    rfl
  | m + 1, i, h => by
    have hx : i < xs.length := by omega
    have hy : i < ys.length := by omega
    have hagg : ∀ w, (isAgg e).run P w = .ok false w := fun w => by
      unfold isAgg
      rw [Sem.run_bind, run_underlying he]
      rfl
    have px : ∀ w, (part e (xs.map (Value.int k)).toArray (i * 1)).run P w = .ok (.int k xs[i]) w := fun w => by
      unfold part
      rw [Sem.run_bind, hagg]
      simp [hx]
    have py : ∀ w, (part e (ys.map (Value.int k)).toArray (i * 1)).run P w = .ok (.int k ys[i]) w := fun w => by
      unfold part
      rw [Sem.run_bind, hagg]
      simp [hy]
    have ex : xs.drop i = xs[i] :: xs.drop (i + 1) := List.drop_eq_getElem_cons hx
    have ey : ys.drop i = ys[i] :: ys.drop (i + 1) := List.drop_eq_getElem_cons hy
    rw [List.range'_succ, eqElems, Sem.run_bind, px, Result.andThen_ok, Sem.run_bind, py, Result.andThen_ok, Sem.run_bind, run_equalIn_int w d e k k xs[i] ys[i] he, Result.andThen_ok, Sem.run_ite,
      ex, ey, List.cons_beq_cons]
    by_cases h0 : xs[i] = ys[i]
    · have h1 : (xs[i] == ys[i]) = true := by simpa using h0
      rw [h1, if_neg (by decide), eqElems_ints d e k he xs ys hl m (i + 1) (by omega), Bool.true_and]
    · have h1 : (xs[i] == ys[i]) = false := by simpa using h0
      rw [h1, if_pos (by decide), Bool.false_and]
      rfl
theorem run_equal_ints (t e : TypeId) (k : IntKind) (n : Nat) (ht : P.underlying t = some (.array n e)) (he : P.underlying e = some (.int k)) (hn : ∀ w, (sizeOf e).run P w = .ok 1 w) (xs ys : List Int) (hx : xs.length = n) (hy : ys.length = n) :
    (Op.equal t (.agg (xs.map (Value.int k)).toArray) (.agg (ys.map (Value.int k)).toArray)).run P w = .ok (xs == ys) w := by
  unfold Op.equal
  have hd : Op.maxDepth = (Op.maxDepth - 2) + 1 + 1 := rfl
  rw [hd, run_equalIn_array w _ t e n 1 _ _ ht hn, eqElems_ints w _ e k he xs ys (by omega) n 0 (by omega)]
  rfl
theorem run_eql_ints {o : Oper} {a : Act} (x y : Operand) (t t' e : TypeId) (k : IntKind) (n : Nat) (hop : o.op = .binOp .eql t x y t') (ht : P.underlying t = some (.array n e)) (he : P.underlying e = some (.int k)) (hn : ∀ w, (sizeOf e).run P w = .ok 1 w) (hg : P.eqGuardType P.depth t = false)
    (xs ys : List Int) (hx : a.eval x = .agg (xs.map (Value.int k)).toArray) (hy : a.eval y = .agg (ys.map (Value.int k)).toArray) (lx : xs.length = n) (ly : ys.length = n) : (execOp a.eval o).run P w = .ok (.value (.bool (xs == ys))) w := by
  have h := run_equal_ints w t e k n ht he hn xs ys lx ly
  unfold execOp
  simp [hop, hx, hy, eqGuard, hg, binOp, h]
end
theorem map_beq32 (s t : List UInt32) : ((s.map fun c => (c.toNat : Int)) == t.map fun c => (c.toNat : Int)) = (s == t) := by
  rw [Bool.eq_iff_iff, beq_iff_eq, beq_iff_eq]
  refine ⟨fun h => ?_, fun h => by rw [h]⟩
  exact (List.map_inj_right (fun x y hxy => UInt32.toNat_inj.1 (by omega))).1 h
theorem map_beq8 (s t : List UInt8) : ((s.map fun c => (c.toNat : Int)) == t.map fun c => (c.toNat : Int)) = (s == t) := by
  rw [Bool.eq_iff_iff, beq_iff_eq, beq_iff_eq]
  refine ⟨fun h => ?_, fun h => by rw [h]⟩
  exact (List.map_inj_right (fun x y hxy => UInt8.toNat_inj.1 (by omega))).1 h
section
variable {w : World} {o : Oper} {a : Act}
/-- Two arrays are held against each other. -/
theorem run_eq8w (x y : Operand) (t' : TypeId) (hop : o.op = .binOp .eql 23 x y t') (s t : List UInt32) (hx : a.eval x = .agg (cw s).toArray) (hy : a.eval y = .agg (cw t).toArray) (ls : s.length = 8) (lt : t.length = 8) : (execOp a.eval o).run Try.prog w = .ok (.value (.bool (s == t))) w := by
  rw [← map_beq32]
  exact run_eql_ints w x y 23 t' 22 .u32 8 hop Try.underlying23 Try.underlying22 (fun w => by kernel_rfl) (by kernel_rfl) _ _ (by rw [hx]; simp [cw]) (by rw [hy]; simp [cw]) (by simpa using ls) (by simpa using lt)
theorem run_eq32b (x y : Operand) (t' : TypeId) (hop : o.op = .binOp .eql 38 x y t') (s t : List UInt8) (hx : a.eval x = .agg (cb s).toArray) (hy : a.eval y = .agg (cb t).toArray) (ls : s.length = 32) (lt : t.length = 32) : (execOp a.eval o).run Try.prog w = .ok (.value (.bool (s == t))) w := by
  rw [← map_beq8]
  exact run_eql_ints w x y 38 t' 5 .u8 32 hop Try.underlying38 Try.underlying5 (fun w => by kernel_rfl) (by kernel_rfl) _ _ (by rw [hx]; simp [cb]) (by rw [hy]; simp [cb]) (by simpa using ls) (by simpa using lt)
end
set_option maxHeartbeats 400000 in
theorem SameHasher_true (s : List UInt32) (A B : Option Addr) (n c d : Nat) (L : Int) (l : List UInt8) (w : World) (hs : s.length = 8) (hA : Sees w w.heap.size A (cb l)) (hB : Sees w w.heap.size B (cb l)) (hl : l.length = n) :
    Calls Try.prog 21 #[.agg (hz s (.slice A n c) L).toArray, .agg (hz s (.slice B n d) L).toArray] w fun e w' => e = .returned (.bool true) ∧ Below w.heap.size w w' := by
  have HS := Lib.hid hs
  have HL := Lib.hid hl
  clear hs hl
  go_enter Try.func21, Try.ntmps21
  go_wp2_with (first
    | (with_reducible refine wpList_box (o := ⟨some 2, _, _, _, _, _⟩) rfl (.tmp 0) 31 rfl (hz s (.slice A n c) L) rfl 10 (hz_len _ _ _ HS.out) (by decide) ?_; intro g1 w1 hg1 hF1 hB1)
    | (with_reducible refine wpList_box (o := ⟨some 3, _, _, _, _, _⟩) rfl (.tmp 1) 31 rfl (hz s (.slice B n d) L) rfl 10 (hz_len _ _ _ HS.out) (by decide) ?_; intro g2 w2 hg2 hF2 hB2; have hF12 := hF1.below hB2; have hB02 := Below.then_ hB1 hB2
       have c8 := hF12.cell_ (hz_rest s (.slice A n c) L HS.out); have c9 := hF12.cell_ (hz_n s (.slice A n c) L HS.out); have d8 := hF2.cell_ (hz_rest s (.slice B n d) L HS.out); have d9 := hF2.cell_ (hz_n s (.slice B n d) L HS.out)
       have hL1 := Sees.of_fresh hF12 0 8; have hL2 := Sees.of_fresh hF2 0 8; rw [hz_take _ _ _ HS.out] at hL1 hL2)
    | (with_reducible refine wpList_load (o := ⟨some 6, _, _, _, _, _⟩) rfl (.tmp 5) 23 rfl g1 0 _ rfl (cw s) 8 (by rw [List.length_map]; exact HS.out) (by kernel_rfl) hL1 ?_)
    | (with_reducible refine wpList_load (o := ⟨some 8, _, _, _, _, _⟩) rfl (.tmp 7) 23 rfl g2 0 _ rfl (cw s) 8 (by rw [List.length_map]; exact HS.out) (by kernel_rfl) hL2 ?_)
    | (with_reducible refine wpList_run (o := ⟨some 9, _, _, _, _, _⟩) rfl (run_eq8w (.tmp 6) (.tmp 8) _ rfl s s rfl rfl HS.out HS.out) ?_; rw [beq_self_eq_true])
    | (go_at_call 18; refine (SameBytes_any A B c d n n l l _ (hA.step hB02) (hB.step hB02) HL.out HL.out).mono ?_; rintro e w3 ⟨rfl, rfl⟩; rw [beq_self_eq_true]))
  go_ret
  exact ⟨ret_bool (by simp), hB02⟩
end Go.Proofs.Ytpdfalgjmeagjaa
