/-
  What MacKeys asks: noughts put behind bytes in place ('append(b, make(..)...)'), and which keys make the same Mac.
-/
import Derived.Test.YthigepkcgijbbaaMacMac
import Derived.Test.YthigepkcgijbbaaGrow
import Derived.Lib.AppendZeros
namespace Go.Proofs.Ythigepkcgijbbaa
open Go.RowKit
set_option linter.unusedVariables false

theorem zeroCells8 (k : Nat) : Builtin.zeroCells (Value.int .u8 0).cells k = (cb (List.replicate k 0)).toArray := by
  apply Array.toList_inj.1
  apply List.ext_getElem?
  intro i
  by_cases hi : i < k
  · simp [Builtin.zeroCells, Value.cells, cb, hi, Nat.mod_one]
  · simp [Builtin.zeroCells, Value.cells, cb, hi]
set_option maxHeartbeats 1000000 in
theorem run_zeros8 (base : Nat) (ty : TypeId) (A : Option Addr) (n c k : Nat) (l : List UInt8) (w : World) (hF : Fresh base 5 w A n c (cb l)) (hb : base ≤ w.heap.size) (hn : n ≤ 1000000) (hk : k ≤ 1000000) :
    ∃ A' c' w', (Builtin.append_ #[27, 3] ty #[.slice A n c, .int .i64 (k : Int)]).run Try.prog w = .ok (.slice A' (n + k) c') w' ∧ Fresh base 5 w' A' (n + k) c' (cb (l ++ List.replicate k 0)) ∧ Below base w w' := by
  obtain ⟨i0, hi, hz0, hz1, hz2⟩ := info_parts info8
  have ht := Try.underlying27
  have htn := Try.underlying3
  have hw : IntKind.i64.wrap (k : Int) = k := by rw [IntKind.wrap_i64]; omega
  have hneg : ¬ ((k : Int) < 0) := by omega
  have h48 : ¬ (281474976710656 < (k : Int) * ((1 : Nat) : Int)) := by omega
  have h48b : ¬ (281474976710656 < (k : Int)) := by omega
  have hll : l.length = n := by simpa using hF.len
  have e1 : cb (l ++ List.replicate k 0) = cb l ++ cb (List.replicate k 0) := by simp [cb]
  have app : ∀ w1 : World, (if k * 1 = 0 then (pure #[] : Sem (Array Value)) else do pure (Builtin.zeroCells (← zeroValue 5).cells k)).run Try.prog w1 = .ok (cb (List.replicate k 0)).toArray w1 := by
    intro w1
    by_cases h0 : k = 0
    · subst h0
      simp [cb]
    · rw [if_neg (by omega)]
      simp [zeroValue, typeInfo, hi, hz0, zeroCells8]
  have grown : ∀ cap, n + k ≤ cap → cap ≤ maxLen → Fresh base 5 (w.drew.alloc (.cells ((cb l ++ cb (List.replicate k 0)).toArray ++ Builtin.zeroCells (Value.int .u8 0).cells (cap - (n + k))) 5)) (some ⟨w.heap.size, 0, none⟩) (n + k) cap (cb (l ++ List.replicate k 0)) := by
    intro cap h1 h2
    have hlen : (cb l ++ cb (List.replicate k 0)).length = n + k := by simp [hll]
    refine ⟨by rw [e1]; simpa using hlen, .inr ⟨w.heap.size, cap, _, rfl, hb, heap_alloc_new w.drew _, h1, h2, ?_, ?_⟩⟩
    · rw [Array.size_append, zeroCells8]
      simp [hll]
      omega
    · rw [e1, Array.toList_append, Nat.mul_one, ← hlen]
      exact List.take_left
  have hcapm : ∀ old, grownCap w (n + k) old 5 ≤ maxLen := fun old => grownCap_le_maxLen w _ _ _ (by unfold maxLen; omega)
  have hbel : ∀ o, Below base w (w.drew.alloc o) := fun o => ((below_drewN' (Below.refl w.heap.size w) 1).alloc (Nat.le_refl _) o).mono hb
  rcases hF.2 with ⟨hv, rfl⟩ | ⟨g, cap, cur, hv, hbg, hg, hnc, hcm, hcs, htake⟩
  · simp at hv
    obtain ⟨rfl, rfl⟩ := hv
    obtain rfl : l = [] := List.eq_nil_of_length_eq_zero hll
    by_cases h0 : k = 0
    · subst h0
      have hw0 : IntKind.i64.wrap 0 = 0 := by decide
      exact ⟨none, 0, w, by simp [Builtin.append_, run_underlying ht, run_underlying htn, sizeOf, typeInfo, zeroValue, hi, asInt, asIntOf, hw0], fresh_nil _ _ _, Below.refl _ _⟩
    · have hr := Lib.run_append_nil_zeros (P := Try.prog) w 27 3 ty 5 i0 (.int .u8 0) .i64 .i64 ht htn hi hz0 k (by omega) (by omega) (by omega) (by rw [hz2]; omega)
      have hg := grown (grownCap w (0 + k) 0 5) (grownCap_ge _ _ _ _) (hcapm 0)
      rw [zeroCells8 k] at hr
      simp only [Nat.zero_add] at hg hr ⊢
      exact ⟨_, _, _, hr, by simpa [cb] using hg, hbel _⟩
  · simp at hv
    obtain ⟨rfl, rfl⟩ := hv
    by_cases hroom : n + k ≤ c
    · have hst := run_storeCells_at Try.prog g (n * 1) 5 (cb (List.replicate k 0)) 0 cur w hg (by simp; omega) (cb_one _)
      refine ⟨some ⟨g, 0, none⟩, c, w.setRow g (cur.toList.take n ++ cb (List.replicate k 0) ++ cur.toList.drop (n + k)).toArray, ?_, ?_, ?_⟩
      · simp [Builtin.append_, run_underlying ht, run_underlying htn, sizeOf, typeInfo, zeroValue, hi, hz0, hz1, hz2, asInt, asIntOf, hw, hneg, h48b, hroom, zeroCells8]
        have hst' : (storeCells ⟨g, n, none⟩ (List.replicate k (Value.int .u8 0))).run Try.prog w = .ok () (w.setRow g (List.take n cur.toList ++ (List.replicate k (Value.int .u8 0) ++ List.drop (n + k) cur.toList)).toArray) := by simpa [cb] using hst
        by_cases h0 : k = 0
        · subst h0
          simp only [List.replicate_zero] at hst'
          simp [Addr.add_lit, hst']
        · simp [h0, Addr.add_lit, hst']
      · refine ⟨by simp [hll], .inr ⟨g, c, _, rfl, hbg, setRow_heap w g cur _ 5 _ hg, hroom, hcm, ?_, ?_⟩⟩
        · simp
          omega
        · rw [Nat.mul_one] at htake hcs
          rw [htake, e1, Nat.mul_one]
          have hlen : (cb l ++ cb (List.replicate k 0)).length = n + k := by simp [hll]
          rw [← hlen]
          exact List.take_left
      · exact Below.setRow' (Below.refl base w) hbg _
    · have holds : ∀ j u, (cb l)[j]? = some u → w.cell? ((⟨g, 0, none⟩ : Addr).add j) = some u := World.ownsRow.cells hF (g := g) rfl
      have hf := run_firstCells_some (P := Try.prog) w.drew 1 n ⟨g, 0, none⟩ n c (cb l) (by simp [hll]) (by simpa using holds)
      have hfit : ¬ (281474976710656 < Builtin.nextslicecap (n + k) c * 1) := by
        have := growslice_fits (need := n + k) (old := c) (bytes := 1) (by omega) (by omega)
        omega
      have hfit' : ¬ (281474976710656 < Builtin.nextslicecap (n + k) c) := by omega
      have h63' : ¬ (9223372036854775807 < (n : Int) + (k : Int)) := by omega
      have hgr := grown (grownCap w (n + k) c 5) (grownCap_ge _ _ _ _) (hcapm c)
      refine ⟨_, _, _, ?_, hgr, hbel _⟩
      simp [Builtin.append_, run_underlying ht, run_underlying htn, sizeOf, typeInfo, zeroValue, hi, hz0, hz1, hz2, asInt, asIntOf, hw, hneg, h48b, hroom, zeroCells8, hf, h63', hfit', Question.forced, newRow, grownCap]
      by_cases h0 : k = 0
      · subst h0
        simp
      · rw [if_neg h0]
        have harr : ∀ r, (cb l).toArray ++ Array.replicate (k + r) (Value.int .u8 0) = (cb l ++ List.replicate k (Value.int .u8 0)).toArray ++ Array.replicate r (Value.int .u8 0) := fun r => by
          apply Array.ext'
          simp [← List.replicate_append_replicate, List.append_assoc]
        rw [harr]
/-- Noughts behind a key, up to 64 bytes, change nothing. -/
theorem keyF_zeros (first keys : List UInt32) (key : List UInt8) (k : Nat) (h : key.length + k ≤ 64) : keyF first keys (key ++ List.replicate k 0) = keyF first keys key := by
  unfold keyF
  have h1 : decide ((key ++ List.replicate k (0 : UInt8)).length ≤ 64) = true := decide_eq_true (by simp; omega)
  have h2 : decide (key.length ≤ 64) = true := decide_eq_true (by omega)
  rw [h1, h2]
  simp only [splice, List.length_append, List.length_replicate, List.take_zero, List.nil_append, Nat.zero_add, List.drop_replicate, List.append_assoc]
  congr 1
  rw [List.replicate_append_replicate]
  congr 1
  omega
theorem macF_zeros (first keys : List UInt32) (key b : List UInt8) (k : Nat) (h : key.length + k ≤ 64) : macF first keys (key ++ List.replicate k 0) b = macF first keys key b := by
  unfold macF
  rw [keyF_zeros _ _ _ _ h]
/-- A key of more bytes is as its digest. -/
theorem keyF_long (first keys : List UInt32) (key : List UInt8) (h8 : first.length = 8) (h : 64 < key.length) : keyF first keys (ofF first keys key) = keyF first keys key := by
  have h32 := len_ofF first keys key h8
  unfold keyF
  have h1 : decide ((ofF first keys key).length ≤ 64) = true := decide_eq_true (by omega)
  have h2 : decide (key.length ≤ 64) = false := decide_eq_false (by omega)
  rw [h1, h2]
theorem macF_long (first keys : List UInt32) (key b : List UInt8) (h8 : first.length = 8) (h : 64 < key.length) : macF first keys (ofF first keys key) b = macF first keys key b := by
  unfold macF
  rw [keyF_long _ _ _ h8 h]
theorem keyF_short (first keys : List UInt32) (key : List UInt8) (h : key.length ≤ 64) : keyF first keys key = splice (List.replicate 64 0) 0 key := by
  unfold keyF
  have h1 : decide (key.length ≤ 64) = true := decide_eq_true h
  rw [h1]
end Go.Proofs.Ythigepkcgijbbaa
