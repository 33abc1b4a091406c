/-
  The words of a cell's sector, and which sector is the next one: content.words and content.other.
-/
import Derived.Test.YtdilpalggoapnaaCellNew
import Derived.Test.YtdilpalggoapnaaRegion
namespace Go.Proofs.Ytdilpalggoapnaa
open Go.RowKit
set_option linter.unusedVariables false

def wordsFacts (g base : Nat) (A : Option Addr) (cp : Nat) (x : Co) (k : Nat) (v : Value) (w : World) : Prop :=
  match k with
  | 0 => v = .pointer (some ⟨g, 1, none⟩)
  | 1 => v = .int .i64 (x.t : Int)
  | 2 => v = .int .u32 (x.t : Int)
  | 3 => v = .pointer (some ⟨g, 2, none⟩)
  | 4 => v = .slice A x.b.length cp
  | 5 => v = .int .i64 (x.b.length : Int)
  | 6 => v = .int .u32 (x.b.length : Int)
  | 7 => ∃ q, v = .slice (some ⟨q, 0, none⟩) 2 2 ∧ Fresh base 22 w (some ⟨q, 0, none⟩) 2 2 (cw (headC x.t x.b.length))
  | 8 => v = .pointer (some ⟨g, 2, none⟩)
  | 9 => v = .slice A x.b.length cp
  | 10 => ∃ q c, v = .slice q ((x.b.length + 3) / 4) c ∧ Fresh base 22 w q ((x.b.length + 3) / 4) c (cw (words x.b))
  | _ => True
theorem wordsFacts_stab (g base : Nat) (A : Option Addr) (cp : Nat) (x : Co) : ∀ k v w w', Below w.heap.size w w' → wordsFacts g base A cp x k v w → wordsFacts g base A cp x k v w' := by
  intro k v w w' hb h
  unfold wordsFacts at *
  split at h <;> first | exact h | (obtain ⟨q, h1, h2⟩ := h; exact ⟨q, h1, h2.below hb⟩) | (obtain ⟨q, c, h1, h2⟩ := h; exact ⟨q, c, h1, h2.below hb⟩) | trivial
section
variable {w : World}
set_option maxHeartbeats 2000000 in
set_option maxRecDepth 100000 in
theorem cwords_any (x : Co) (A : Option Addr) (cp : Nat) (ht : x.t ≤ 2147483648) (hb : x.b.length ≤ 244) (hS : Sees w w.heap.size A (cb x.b)) :
    Calls Try.prog 133 #[.agg (coL x A cp).toArray] w fun e w' => ∃ B c, e = .returned (.slice B (2 + (x.b.length + 3) / 4) c) ∧ Fresh w.heap.size 22 w' B (2 + (x.b.length + 3) / 4) c (cw (wordsC x.t x.b)) ∧ Below w.heap.size w w' := by
  have ewt : IntKind.u32.wrap (x.t : Int) = (x.t : Int) := by rw [IntKind.wrap_u32]; omega
  have ewl : IntKind.u32.wrap (x.b.length : Int) = (x.b.length : Int) := by rw [IntKind.wrap_u32]; omega
  have hcw : cw (headC x.t x.b.length) = [.int .u32 (x.t : Int), .int .u32 (x.b.length : Int)] := by
    simp only [headC, cw, List.map_cons, List.map_nil]
    rw [ofNat_toNat32 _ (by omega), ofNat_toNat32 _ (by omega)]
  have HBL := Lib.hid hb
  have hS0 := hS
  clear hb ht
  go_enter Try.func133, Try.ntmps133
  go_wp2_with (with_reducible refine wpList_box (o := ⟨some 1, _, _, _, _, _⟩) rfl (.tmp 0) 95 rfl (coL x A cp) rfl 3 rfl (by decide) ?_; intro g w1 hg1 hF hB1)
  have hS := hS0.step hB1
  have hbl := HBL.out
  (try simp only [Act.put, List.setIfInBounds_toArray, List.set_cons_succ, List.set_cons_zero])
  refine region_all_tail 11 (wordsFacts g w.heap.size A cp x) (by kernel_rfl) (by kernel_rfl) (by kernel_rfl) (wordsFacts_stab _ _ _ _ _) ?_ ?_
  · intro w0 hb0
    have hsz0 : w.heap.size ≤ w0.heap.size := Nat.le_trans hB1.size hb0.size
    simp only [List.take_succ_cons, List.take_zero]
    refine ⟨?_, ?_, ?_, ?_, ?_, ?_, ?_, ?_, ?_, ?_, ?_, trivial⟩
    all_goals intro listed a1 w' hk hd
    · have f1_ : a1.eval (.tmp 1) = .pointer (some ⟨g, 0, none⟩) := hk.ev_old 1 (by kernel_rfl)
      have g1_ : a1.tmps[1]?.getD undef = .pointer (some ⟨g, 0, none⟩) := by simpa [Act.eval] using f1_
      exact stepOk_value rfl (v := .pointer (some ⟨g, 1, none⟩)) (by go_simp) rfl
    · obtain ⟨v0, e0, q0, rfl⟩ := hk.ev_new hd 0 3 (by kernel_rfl) rfl
      have c1 : w'.cell? ⟨g, 1, none⟩ = some (.int .i64 (x.t : Int)) := ((hF.below hb0).below hk.below).cell rfl
      exact stepOk_value rfl (v := .int .i64 (x.t : Int)) (by go_simp) rfl
    · obtain ⟨v1, e1, q1, rfl⟩ := hk.ev_new hd 1 4 (by kernel_rfl) rfl
      exact stepOk_value rfl (v := .int .u32 (x.t : Int)) (by go_simp; try exact ewt) rfl
    · have f1_ : a1.eval (.tmp 1) = .pointer (some ⟨g, 0, none⟩) := hk.ev_old 1 (by kernel_rfl)
      have g1_ : a1.tmps[1]?.getD undef = .pointer (some ⟨g, 0, none⟩) := by simpa [Act.eval] using f1_
      exact stepOk_value rfl (v := .pointer (some ⟨g, 2, none⟩)) (by go_simp) rfl
    · obtain ⟨v3, e3, q3, rfl⟩ := hk.ev_new hd 3 6 (by kernel_rfl) rfl
      have c1 : w'.cell? ⟨g, 2, none⟩ = some (.slice A x.b.length cp) := ((hF.below hb0).below hk.below).cell rfl
      exact stepOk_value rfl (v := .slice A x.b.length cp) (by go_simp) rfl
    · obtain ⟨v4, e4, q4, rfl⟩ := hk.ev_new hd 4 7 (by kernel_rfl) rfl
      exact stepOk_value rfl (v := .int .i64 (x.b.length : Int)) (by go_simp) rfl
    · obtain ⟨v5, e5, q5, rfl⟩ := hk.ev_new hd 5 8 (by kernel_rfl) rfl
      exact stepOk_value rfl (v := .int .u32 (x.b.length : Int)) (by go_simp; try exact ewl) rfl
    · obtain ⟨v2, e2, q2, rfl⟩ := hk.ev_new hd 2 5 (by kernel_rfl) rfl
      obtain ⟨v6, e6, q6, rfl⟩ := hk.ev_new hd 6 9 (by kernel_rfl) rfl
      refine stepOk_run rfl (v := .slice (some ⟨w'.heap.size, 0, none⟩) 2 2) (w' := w'.alloc (.cells (cw (headC x.t x.b.length)).toArray 22)) ?_ ⟨_, rfl, (Fresh.new w' 22 (cw (headC x.t x.b.length)) 2 rfl (by decide)).lower (Nat.le_trans hsz0 hk.below.size)⟩ (below_alloc _ _)
      rw [hcw]
      go_simp
    · have f1_ : a1.eval (.tmp 1) = .pointer (some ⟨g, 0, none⟩) := hk.ev_old 1 (by kernel_rfl)
      have g1_ : a1.tmps[1]?.getD undef = .pointer (some ⟨g, 0, none⟩) := by simpa [Act.eval] using f1_
      exact stepOk_value rfl (v := .pointer (some ⟨g, 2, none⟩)) (by go_simp) rfl
    · obtain ⟨v8, e8, q8, rfl⟩ := hk.ev_new hd 8 11 (by kernel_rfl) rfl
      have c1 : w'.cell? ⟨g, 2, none⟩ = some (.slice A x.b.length cp) := ((hF.below hb0).below hk.below).cell rfl
      exact stepOk_value rfl (v := .slice A x.b.length cp) (by go_simp) rfl
    · obtain ⟨v9, e9, q9, rfl⟩ := hk.ev_new hd 9 12 (by kernel_rfl) rfl
      refine stepOk_enter rfl (f := 152) (args := #[.slice A x.b.length cp]) (by go_simp) ?_
      refine (Words_made (w := w') ((hS.step hb0).step hk.below) rfl rfl rfl (by omega)).mono ?_
      rintro e w5 ⟨q, c, rfl, hq, hB5⟩
      exact ⟨_, rfl, ⟨q, c, rfl, hq.lower (Nat.le_trans hsz0 hk.below.size)⟩, hB5⟩
  · intro a1 w' hbw hp
    obtain ⟨v0, p0, v1, p1, v2, p2, v3, p3, v4, p4, v5, p5, v6, p6, v7, p7, v8, p8, v9, p9, v10, p10, rfl⟩ := hp
    simp only [wordsFacts] at p0 p1 p2 p3 p4 p5 p6 p7 p8 p9 p10
    subst p0 p1 p2 p3 p4 p5 p6 p8 p9
    obtain ⟨q1, rfl, hF1⟩ := p7
    obtain ⟨q2, c2, rfl, hF2⟩ := p10
    have hB0 := Below.then_ hB1 hbw
    simp only [List.drop_succ_cons, List.drop_zero, Act.put, List.setIfInBounds_toArray, List.set_cons_succ, List.set_cons_zero]
    go_wp2_with (at_builtin; refine wpList_app32 rfl (.tmp 10) (.tmp 13) rfl (some ⟨q1, 0, none⟩) q2 2 2 ((x.b.length + 3) / 4) c2 (headC x.t x.b.length) (words x.b) w rfl rfl hF1 hF2.sees (by rw [len_words]) (by omega) hB0 ?_; intro B c w2 hF3 hB3)
    go_ret
    exact ⟨B, c, rfl, hF3, hB3⟩
set_option maxRecDepth 100000 in
theorem other_any (x : Co) (hx : x.Ok) (A : Option Addr) (cp : Nat) : Calls Try.prog 92 #[.agg (coL x A cp).toArray] w fun e w' => e = .returned (.int .i64 (x.other : Int)) ∧ Below w.heap.size w w' := by
  by_cases h1 : x.s = -1
  · have q1 : (x.s == -1) = true := by simp; exact h1
    have e0 : (x.other : Int) = 0 := by simp [Co.other, h1]
    rw [e0]
    clear hx
    go_enter Try.func92, Try.ntmps92
    go_wp2_with (with_reducible refine wpList_box (o := ⟨some 1, _, _, _, _, _⟩) rfl (.tmp 0) 95 rfl (coL x A cp) rfl 3 rfl (by decide) ?_; intro g w1 hg1 hF hB1; have x0 : w1.cell? ⟨g, 0, none⟩ = some (.int .i64 x.s) := hF.cell rfl)
    go_ret
    exact ⟨rfl, hB1⟩
  · have q1 : (x.s == -1) = false := by simp; exact h1
    have e0 := (Co.other_of hx h1).1
    have ew : IntKind.i64.wrap (1 - x.s) = 1 - x.s := wrapI _ (by rcases hx.s with e | e | e <;> omega) (by rcases hx.s with e | e | e <;> omega)
    rw [e0]
    clear hx e0
    go_enter Try.func92, Try.ntmps92
    go_wp2_with (with_reducible refine wpList_box (o := ⟨some 1, _, _, _, _, _⟩) rfl (.tmp 0) 95 rfl (coL x A cp) rfl 3 rfl (by decide) ?_; intro g w1 hg1 hF hB1; have x0 : w1.cell? ⟨g, 0, none⟩ = some (.int .i64 x.s) := hF.cell rfl)
    go_ret
    exact ⟨rfl, hB1⟩
end
end Go.Proofs.Ytdilpalggoapnaa
