/-
  What New answers: a flash of ones.
-/
import Derived.Test.YtpdfalgjmeagjaaNorCrash
namespace Go.Proofs.Ytpdfalgjmeagjaa
open Go.RowKit
set_option linter.unusedVariables false

def Fl.made (n : Nat) (g : Int) : Fl := ⟨n, List.replicate (64 * n) 4294967295, g, false, 0, false, -1⟩
/-- A flash may be. -/
def mayBe (s g : Int) : Bool := decide (1 ≤ s) && decide (s ≤ 1024) && decide (0 ≤ g) && decide (g ≤ s)
section
variable {w : World}
theorem New_no (s g : Int) (h : mayBe s g = false) : Calls Try.prog 44 #[.int .i64 s, .int .i64 g] w fun e w' => e = .returned (.tuple #[.pointer none, .int .i64 2]) ∧ w' = w := by
  have key : (s < 1) ∨ (1 ≤ s ∧ 1024 < s) ∨ (1 ≤ s ∧ s ≤ 1024 ∧ g < 0) ∨ (1 ≤ s ∧ s ≤ 1024 ∧ 0 ≤ g ∧ s < g) := by
    simp [mayBe] at h
    omega
  clear h
  rcases key with h | ⟨h1, h2⟩ | ⟨h1, h2, h3⟩ | ⟨h1, h2, h3, h4⟩
  all_goals
    go_enter Try.func44, Try.ntmps44
    go_wp2_with fail
    go_ret2
    exact ⟨rfl, rfl⟩
theorem wpList_mkW {ops : Array Oper} {rest : List Oper} {o : Oper} {a : Act} {Q : Exit → Act → World → Prop} (hg : o.guard = none) (x : Operand) (hop : o.op = .makeSlice 171 x x) (n : Nat) (hl : a.eval x = .int .i64 (n : Int)) (hn : n ≤ 1024)
    (hK : ∀ w' b ys, w.heap.size ≤ b → ys.length = 64 * n → Fresh w.heap.size 175 w' (some ⟨b, 0, none⟩) (64 * n) (64 * n) ys → Below w.heap.size w w' → wpList Try.prog ops Q rest (a.put o.dst (.slice (some ⟨b, 0, none⟩) n n)) w') :
    wpList Try.prog ops Q (o :: rest) a w := by
  obtain ⟨i, z, hi, hz, hs, hb⟩ : ∃ i z, Try.prog.info? 175 = some i ∧ i.zero = some z ∧ i.size = 64 ∧ i.bytes = 256 := by
    have h1 : ((Try.prog.info? 175).map fun i => (i.zero.isSome, i.size, i.bytes)) = some (true, 64, 256) := by kernel_rfl
    obtain ⟨i, hi, h2⟩ := Option.map_eq_some_iff.1 h1
    simp only [Prod.mk.injEq] at h2
    obtain ⟨z, hz⟩ := Option.isSome_iff_exists.1 h2.1
    exact ⟨i, z, hi, hz, h2.2.1, h2.2.2⟩
  have hr := run_make (P := Try.prog) w 171 175 i z (by kernel_rfl) hi hz .i64 .i64 (n : Int) (n : Int) (by omega) (Int.le_refl _) (by rw [hb]; omega) (by omega)
  rw [Int.toNat_natCast, hs] at hr
  obtain ⟨ys, hy⟩ : ∃ ys : List Value, madeCells z.cells (n * 64) = ys.toArray := ⟨(madeCells z.cells (n * 64)).toList, rfl⟩
  have hyl : ys.length = 64 * n := by
    have h1 := size_madeCells z.cells (n * 64)
    rw [hy] at h1
    simp at h1
    omega
  rw [hy] at hr
  have hF : Fresh w.heap.size 175 (w.alloc (.cells ys.toArray 175)) (some ⟨w.heap.size, 0, none⟩) (64 * n) (64 * n) ys := Fresh.of_block (heap_alloc_new _ _) (Nat.le_refl _) hyl (by unfold maxLen; omega)
  refine wpList_plain hg fun K hK' => ?_
  have hrun : (execOp a.eval o).run Try.prog w = .ok (.value (.slice (some ⟨w.heap.size, 0, none⟩) n n)) (w.alloc (.cells ys.toArray 175)) := by
    simp only [execOp, hop, hl]
    rw [Sem.run_bind, hr]
    rfl
  unfold Oper.wp
  rw [hrun]
  exact hK' _ _ (hK _ w.heap.size ys (Nat.le_refl _) hyl hF (below_alloc _ _))
set_option maxHeartbeats 1000000 in
set_option maxRecDepth 100000 in
theorem New_yes (n : Nat) (g : Int) (h1 : 1 ≤ n) (h2 : n ≤ 1024) (h3 : 0 ≤ g) (h4 : g ≤ n) : Calls Try.prog 44 #[.int .i64 (n : Int), .int .i64 g] w fun e w' => ∃ p b, e = .returned (.tuple #[.pointer (some ⟨p, 0, none⟩), .int .i64 0]) ∧ NorAt w.heap.size w' p b (Fl.made n g) ∧ Below w.heap.size w w' := by
  have dA : decide ((n : Int) < 1) = false := by simp; omega
  have dB : decide (1024 < (n : Int)) = false := by simp; omega
  have dC : decide (g < 0) = false := by simp; omega
  have dD : decide ((n : Int) < g) = false := by simp; omega
  have H4 := Lib.hid h4
  clear h4
  go_enter Try.func44, Try.ntmps44
  go_wp2_with (first
    | (with_reducible refine wpList_mkW (o := ⟨some 24, _, _, _, _, _⟩) rfl (.tmp 23) rfl n rfl h2 ?_; intro w1 b ys hb hyl hFb hB1)
    | (with_reducible refine wpList_box (o := ⟨some 27, _, _, _, _, _⟩) rfl (.tmp 26) 173 rfl [.pointer none, .slice (some ⟨b, 0, none⟩) n n, .int .i64 g, .bool false, .int .i64 0, .bool false, .int .i64 (-1)] rfl 7 rfl (by decide) ?_; intro p w2 hp hFp hB2; have cp := hFp.cell (j := 0) rfl; have zp := hFp.frozenAt (j := 0)))
  have hpb : p ≠ b := by have := hFb.lt_size; omega
  have hF3 := hFp.store 0 (.pointer (some ⟨p, 0, none⟩))
  have hb3 : (w2.setCell ⟨p, 0, none⟩ (.pointer (some ⟨p, 0, none⟩))).heap[b]? = w2.heap[b]? := by
    simp only [World.setCell, Array.getElem?_modify]
    rw [if_neg hpb]
  have hFb3 := (hFb.below hB2).kept hb3
  have hB12 := Below.then_ hB1 hB2
  have hB3 : Below w.heap.size w (w2.setCell ⟨p, 0, none⟩ (.pointer (some ⟨p, 0, none⟩))) := hB12.setCell (Nat.le_trans hB1.size hFp.block.2) _
  have hF3' := hF3.lower hB1.size
  have hbs := hB1.size
  clear hFp hFb hB1 hB2 hB12 hF3 cp zp
  generalize (w2.setCell ⟨p, 0, none⟩ (.pointer (some ⟨p, 0, none⟩))) = w3 at *
  clear hb3
  go_loopw [33] (fun i wr => ∃ (k : Nat) (zs : List Value), k ≤ n ∧ i = .int .i64 k ∧ zs.length + 64 * k = 64 * n ∧ Fresh w.heap.size 173 wr (some ⟨p, 0, none⟩) 7 7 ((Fl.made n g).obj p b) ∧ Fresh w.heap.size 175 wr (some ⟨b, 0, none⟩) (64 * n) (64 * n) (cw (List.replicate (64 * k) 4294967295) ++ zs) ∧ Below w.heap.size w wr) (fun i _ => n - (intOf i).toNat)
  case atStart => exact ⟨0, ys, by omega, rfl, by omega, hF3', by simpa using hFb3, hB3⟩
  case round =>
    obtain ⟨k, zs, hk, rfl, hzl, hO, hR, hBr⟩ := hrel
    by_cases hlt : k < n
    · go_wp2_with fail
      refine region_all_tail 7 (eraFacts p b n (k : Int)) (by kernel_rfl) (by kernel_rfl) (by kernel_rfl) (eraFacts_stab _ _ _ _) ?_ ?_
      · intro w0 hb0
        simp only [List.take_succ_cons, List.take_zero]
        refine ⟨?_, ?_, ?_, ?_, ?_, ?_, ?_, trivial⟩
        all_goals intro listed a1 w' hk hd
        · have f2 := hk.ev_old 6 (by kernel_rfl)
          exact stepOk_value rfl (v := .pointer (some ⟨p, 0, none⟩)) (by simp [execOp]; exact f2) rfl
        · obtain ⟨v, e0, _, rfl⟩ := hk.ev_new hd 0 36 (by kernel_rfl) rfl
          exact stepOk_value rfl (v := .pointer (some ⟨p, 0, none⟩)) (by go_simp) rfl
        · obtain ⟨v, e0, _, rfl⟩ := hk.ev_new hd 1 37 (by kernel_rfl) rfl
          exact stepOk_value rfl (v := .pointer (some ⟨p, 1, none⟩)) (by go_simp) rfl
        · obtain ⟨v, e0, _, rfl⟩ := hk.ev_new hd 2 38 (by kernel_rfl) rfl
          have c1 : w'.cell? ⟨p, 1, none⟩ = some (.slice (some ⟨b, 0, none⟩) n n) := ((hO.below hb0).below hk.below).cell (j := 1) rfl
          exact stepOk_value rfl (v := .slice (some ⟨b, 0, none⟩) n n) (by go_simp) rfl
        · have f2 := hk.ev_old 7 (by kernel_rfl)
          exact stepOk_value rfl (v := .int .i64 (k : Int)) (by simp [execOp]; exact f2) rfl
        · refine stepOk_enter rfl (f := 108) (args := #[]) (by go_simp) ?_
          refine (erased_any _).mono ?_
          rintro e w5 ⟨rfl, hB5⟩
          exact ⟨_, rfl, rfl, hB5⟩
        · obtain ⟨v, e0, _, rfl⟩ := hk.ev_new hd 3 39 (by kernel_rfl) rfl
          obtain ⟨v, e1, _, rfl⟩ := hk.ev_new hd 4 40 (by kernel_rfl) rfl
          exact stepOk_value rfl (v := .pointer (some ⟨b, k * 64, none⟩)) (by go_simp) (by simp [eraFacts])
      · intro a1 w' hbw hp'
        obtain ⟨v0, p0, v1, p1, v2, p2, v3, p3, v4, p4, v5, p5, v6, p6, rfl⟩ := hp'
        simp only [eraFacts] at p0 p1 p2 p3 p4 p5 p6
        subst p0 p1 p2 p3 p4 p5 p6
        simp only [List.drop_succ_cons, List.drop_zero, Act.put, List.setIfInBounds_toArray, List.set_cons_succ, List.set_cons_zero, Int.toNat_natCast]
        refine wpList_storeN rfl rfl (.tmp 42) (.tmp 41) 175 rfl b (k * 64) w.heap.size 175 (64 * n) _ (cw ones64) rfl rfl 64 (by simp) (by kernel_rfl) (hR.below hbw) (by omega) (cw_one _) ?_
        intro w7 hF7 o1 o2 o3 o4 o5
        have e7 : splice (cw (List.replicate (64 * k) 4294967295) ++ zs) (k * 64) (cw ones64) = cw (List.replicate (64 * (k + 1)) 4294967295) ++ zs.drop 64 := by
          have e1 : (cw (List.replicate (64 * k) (4294967295 : UInt32))).length = k * 64 := by simp [Nat.mul_comm]
          unfold splice
          rw [← e1, List.take_left, List.drop_append]
          simp only [e1]
          rw [show k * 64 + (cw ones64).length - k * 64 = 64 from by simp, List.drop_of_length_le (by simp; omega), List.nil_append, ← List.append_assoc]
          congr 1
          simp only [cw, ones64, List.map_replicate, List.replicate_append_replicate]
          congr 1
        rw [e7] at hF7
        have hO7 := (hO.below hbw).kept (o5 p hpb)
        have hB7 : Below w.heap.size w w7 := by
          have h1 := Below.then_ hBr hbw
          exact ⟨o1.trans h1.os, o2.trans h1.tape, o3.trans h1.output, Nat.le_trans h1.size o4, fun q hq => (o5 q (by have := hFb3.block.2; omega)).trans (h1.block q hq)⟩
        go_wp2_with fail
        go_roundw
        case rel => exact ⟨k + 1, zs.drop 64, by omega, by go_num, by simp; omega, hO7, hF7, hB7⟩
        case measure => simp [intOf]; omega
    · obtain rfl : k = n := by omega
      obtain rfl : zs = [] := List.eq_nil_of_length_eq_zero (by omega)
      rw [List.append_nil] at hR
      go_wp2_with fail
      go_ret2
      exact ⟨p, b, rfl, ⟨hO, hR, hpb, h2, by show (0 : Nat) < _; omega⟩, hBr⟩
end
end Go.Proofs.Ytpdfalgjmeagjaa
