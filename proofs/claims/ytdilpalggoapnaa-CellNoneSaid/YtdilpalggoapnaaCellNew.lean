/-
  Which of two counts, which sector is the next one, and the words of a sector: the calls newer, other and words of package cell.
-/
import Derived.Test.YtdilpalggoapnaaCellMem
namespace Go.Proofs.Ytdilpalggoapnaa
open Go.RowKit
set_option linter.unusedVariables false

section
variable {w : World}
set_option maxHeartbeats 1000000 in
set_option maxRecDepth 100000 in
theorem newer_any (x y : Co) (hx : x.Ok) (hy : y.Ok) (A B : Option Addr) (cp cq : Nat) : Calls Try.prog 128 #[.agg (coL x A cp).toArray, .agg (coL y B cq).toArray] w fun e w' =>
    ((newC x y = x ∧ e = .returned (.agg (coL x A cp).toArray)) ∨ (newC x y = y ∧ e = .returned (.agg (coL y B cq).toArray))) ∧ Below w.heap.size w w' := by
  have hxt := hx.t
  have hyt := hy.t
  have ew : IntKind.i64.wrap ((x.t : Int) + 1) = (x.t : Int) + 1 := wrapI _ (by omega) (by omega)
  clear hx hy
  obtain ⟨z, hz⟩ : ∃ z, newC x y = z := ⟨_, rfl⟩
  rw [hz]
  unfold newC at hz
  by_cases h1 : x.s = -1
  · have q1 : (x.s == -1) = true := by simp; exact h1
    rw [if_pos (.inl h1)] at hz
    subst hz
    go_enter Try.func128, Try.ntmps128
    go_wp2_with (first
      | (with_reducible refine wpList_box (o := ⟨some 2, _, _, _, _, _⟩) rfl (.tmp 0) 95 rfl (coL x A cp) rfl 3 rfl (by decide) ?_; intro g1 w1 hg1 hF1 hB1; have l1 := hF1.lt_size)
      | (with_reducible refine wpList_box (o := ⟨some 3, _, _, _, _, _⟩) rfl (.tmp 1) 95 rfl (coL y B cq) rfl 3 rfl (by decide) ?_; intro g2 w2 hg2 hF2 hB2; have l2 := hF2.lt_size; have hF12 := hF1.below hB2; have hB02 := Below.then_ hB1 hB2)
      | (with_reducible refine wpList_alloc (o := ⟨some 4, _, _, _, _, _⟩) rfl 95 rfl [.int .i64 0, .int .i64 0, .slice none 0 0] (by kernel_rfl) 3 rfl (by decide) ?_; intro g3 w3 hg3 hF3 hB3; have hF13 := hF12.below hB3; have hF23 := hF2.below hB3; have hB03 := Below.then_ hB02 hB3; have x0 : w3.cell? ⟨g1, 0, none⟩ = some (.int .i64 x.s) := hF13.cell rfl; have x1 : w3.cell? ⟨g1, 1, none⟩ = some (.int .i64 (x.t : Int)) := hF13.cell rfl; have y0 : w3.cell? ⟨g2, 0, none⟩ = some (.int .i64 y.s) := hF23.cell rfl; have y1 : w3.cell? ⟨g2, 1, none⟩ = some (.int .i64 (y.t : Int)) := hF23.cell rfl; have hw0 := hB02.size)
      | (with_reducible refine wpList_load (o := ⟨some 21, _, _, _, _, _⟩) rfl (.tmp 3) 95 rfl g2 0 _ rfl (coL y B cq) 3 rfl (by kernel_rfl) hF23.sees ?_)
      | (with_reducible refine wpList_load (o := ⟨some 22, _, _, _, _, _⟩) rfl (.tmp 2) 95 rfl g1 0 _ rfl (coL x A cp) 3 rfl (by kernel_rfl) hF13.sees ?_)
      | (with_reducible refine wpList_store rfl rfl (.tmp 4) (.tmp 21) 95 rfl g3 0 w2.heap.size 95 3 [.int .i64 0, .int .i64 0, .slice none 0 0] (coL y B cq) rfl rfl 3 rfl (by kernel_rfl) hF3 (by omega) (coL_one _ _ _) w hB03 (by omega) ?_; intro w4 hF4 hB4 hoth4 hz4))
    refine bodyPost_cell rfl rfl (coL y B cq) 3 rfl (by kernel_rfl) hF4.sees rfl ⟨.inr ⟨trivial, rfl⟩, hB4⟩
  · have q1 : (x.s == -1) = false := by simp; exact h1
    by_cases h2 : y.s = -1
    · have q2 : (y.s == -1) = true := by simp; exact h2
      rw [if_neg (fun h => h.elim h1 (fun h => h.1 h2))] at hz
      subst hz
      go_enter Try.func128, Try.ntmps128
      go_wp2_with (first
        | (with_reducible refine wpList_box (o := ⟨some 2, _, _, _, _, _⟩) rfl (.tmp 0) 95 rfl (coL x A cp) rfl 3 rfl (by decide) ?_; intro g1 w1 hg1 hF1 hB1; have l1 := hF1.lt_size)
        | (with_reducible refine wpList_box (o := ⟨some 3, _, _, _, _, _⟩) rfl (.tmp 1) 95 rfl (coL y B cq) rfl 3 rfl (by decide) ?_; intro g2 w2 hg2 hF2 hB2; have l2 := hF2.lt_size; have hF12 := hF1.below hB2; have hB02 := Below.then_ hB1 hB2)
        | (with_reducible refine wpList_alloc (o := ⟨some 4, _, _, _, _, _⟩) rfl 95 rfl [.int .i64 0, .int .i64 0, .slice none 0 0] (by kernel_rfl) 3 rfl (by decide) ?_; intro g3 w3 hg3 hF3 hB3; have hF13 := hF12.below hB3; have hF23 := hF2.below hB3; have hB03 := Below.then_ hB02 hB3; have x0 : w3.cell? ⟨g1, 0, none⟩ = some (.int .i64 x.s) := hF13.cell rfl; have x1 : w3.cell? ⟨g1, 1, none⟩ = some (.int .i64 (x.t : Int)) := hF13.cell rfl; have y0 : w3.cell? ⟨g2, 0, none⟩ = some (.int .i64 y.s) := hF23.cell rfl; have y1 : w3.cell? ⟨g2, 1, none⟩ = some (.int .i64 (y.t : Int)) := hF23.cell rfl; have hw0 := hB02.size)
        | (with_reducible refine wpList_load (o := ⟨some 21, _, _, _, _, _⟩) rfl (.tmp 3) 95 rfl g2 0 _ rfl (coL y B cq) 3 rfl (by kernel_rfl) hF23.sees ?_)
        | (with_reducible refine wpList_load (o := ⟨some 22, _, _, _, _, _⟩) rfl (.tmp 2) 95 rfl g1 0 _ rfl (coL x A cp) 3 rfl (by kernel_rfl) hF13.sees ?_)
        | (with_reducible refine wpList_store rfl rfl (.tmp 4) (.tmp 22) 95 rfl g3 0 w2.heap.size 95 3 [.int .i64 0, .int .i64 0, .slice none 0 0] (coL x A cp) rfl rfl 3 rfl (by kernel_rfl) hF3 (by omega) (coL_one _ _ _) w hB03 (by omega) ?_; intro w4 hF4 hB4 hoth4 hz4))
      refine bodyPost_cell rfl rfl (coL x A cp) 3 rfl (by kernel_rfl) hF4.sees rfl ⟨.inl ⟨trivial, rfl⟩, hB4⟩
    · have q2 : (y.s == -1) = false := by simp; exact h2
      by_cases h3 : y.t = x.t + 1
      · have q3 : ((y.t : Int) == (x.t : Int) + 1) = true := by simp; omega
        rw [if_pos (.inr ⟨h2, h3⟩)] at hz
        subst hz
        go_enter Try.func128, Try.ntmps128
        go_wp2_with (first
          | (with_reducible refine wpList_box (o := ⟨some 2, _, _, _, _, _⟩) rfl (.tmp 0) 95 rfl (coL x A cp) rfl 3 rfl (by decide) ?_; intro g1 w1 hg1 hF1 hB1; have l1 := hF1.lt_size)
          | (with_reducible refine wpList_box (o := ⟨some 3, _, _, _, _, _⟩) rfl (.tmp 1) 95 rfl (coL y B cq) rfl 3 rfl (by decide) ?_; intro g2 w2 hg2 hF2 hB2; have l2 := hF2.lt_size; have hF12 := hF1.below hB2; have hB02 := Below.then_ hB1 hB2)
          | (with_reducible refine wpList_alloc (o := ⟨some 4, _, _, _, _, _⟩) rfl 95 rfl [.int .i64 0, .int .i64 0, .slice none 0 0] (by kernel_rfl) 3 rfl (by decide) ?_; intro g3 w3 hg3 hF3 hB3; have hF13 := hF12.below hB3; have hF23 := hF2.below hB3; have hB03 := Below.then_ hB02 hB3; have x0 : w3.cell? ⟨g1, 0, none⟩ = some (.int .i64 x.s) := hF13.cell rfl; have x1 : w3.cell? ⟨g1, 1, none⟩ = some (.int .i64 (x.t : Int)) := hF13.cell rfl; have y0 : w3.cell? ⟨g2, 0, none⟩ = some (.int .i64 y.s) := hF23.cell rfl; have y1 : w3.cell? ⟨g2, 1, none⟩ = some (.int .i64 (y.t : Int)) := hF23.cell rfl; have hw0 := hB02.size)
          | (with_reducible refine wpList_load (o := ⟨some 21, _, _, _, _, _⟩) rfl (.tmp 3) 95 rfl g2 0 _ rfl (coL y B cq) 3 rfl (by kernel_rfl) hF23.sees ?_)
          | (with_reducible refine wpList_load (o := ⟨some 22, _, _, _, _, _⟩) rfl (.tmp 2) 95 rfl g1 0 _ rfl (coL x A cp) 3 rfl (by kernel_rfl) hF13.sees ?_)
          | (with_reducible refine wpList_store rfl rfl (.tmp 4) (.tmp 21) 95 rfl g3 0 w2.heap.size 95 3 [.int .i64 0, .int .i64 0, .slice none 0 0] (coL y B cq) rfl rfl 3 rfl (by kernel_rfl) hF3 (by omega) (coL_one _ _ _) w hB03 (by omega) ?_; intro w4 hF4 hB4 hoth4 hz4))
        refine bodyPost_cell rfl rfl (coL y B cq) 3 rfl (by kernel_rfl) hF4.sees rfl ⟨.inr ⟨trivial, rfl⟩, hB4⟩
      · have q3 : ((y.t : Int) == (x.t : Int) + 1) = false := by simp; omega
        rw [if_neg (fun h => h.elim h1 (fun h => h3 h.2))] at hz
        subst hz
        go_enter Try.func128, Try.ntmps128
        go_wp2_with (first
          | (with_reducible refine wpList_box (o := ⟨some 2, _, _, _, _, _⟩) rfl (.tmp 0) 95 rfl (coL x A cp) rfl 3 rfl (by decide) ?_; intro g1 w1 hg1 hF1 hB1; have l1 := hF1.lt_size)
          | (with_reducible refine wpList_box (o := ⟨some 3, _, _, _, _, _⟩) rfl (.tmp 1) 95 rfl (coL y B cq) rfl 3 rfl (by decide) ?_; intro g2 w2 hg2 hF2 hB2; have l2 := hF2.lt_size; have hF12 := hF1.below hB2; have hB02 := Below.then_ hB1 hB2)
          | (with_reducible refine wpList_alloc (o := ⟨some 4, _, _, _, _, _⟩) rfl 95 rfl [.int .i64 0, .int .i64 0, .slice none 0 0] (by kernel_rfl) 3 rfl (by decide) ?_; intro g3 w3 hg3 hF3 hB3; have hF13 := hF12.below hB3; have hF23 := hF2.below hB3; have hB03 := Below.then_ hB02 hB3; have x0 : w3.cell? ⟨g1, 0, none⟩ = some (.int .i64 x.s) := hF13.cell rfl; have x1 : w3.cell? ⟨g1, 1, none⟩ = some (.int .i64 (x.t : Int)) := hF13.cell rfl; have y0 : w3.cell? ⟨g2, 0, none⟩ = some (.int .i64 y.s) := hF23.cell rfl; have y1 : w3.cell? ⟨g2, 1, none⟩ = some (.int .i64 (y.t : Int)) := hF23.cell rfl; have hw0 := hB02.size)
          | (with_reducible refine wpList_load (o := ⟨some 21, _, _, _, _, _⟩) rfl (.tmp 3) 95 rfl g2 0 _ rfl (coL y B cq) 3 rfl (by kernel_rfl) hF23.sees ?_)
          | (with_reducible refine wpList_load (o := ⟨some 22, _, _, _, _, _⟩) rfl (.tmp 2) 95 rfl g1 0 _ rfl (coL x A cp) 3 rfl (by kernel_rfl) hF13.sees ?_)
          | (with_reducible refine wpList_store rfl rfl (.tmp 4) (.tmp 22) 95 rfl g3 0 w2.heap.size 95 3 [.int .i64 0, .int .i64 0, .slice none 0 0] (coL x A cp) rfl rfl 3 rfl (by kernel_rfl) hF3 (by omega) (coL_one _ _ _) w hB03 (by omega) ?_; intro w4 hF4 hB4 hoth4 hz4))
        refine bodyPost_cell rfl rfl (coL x A cp) 3 rfl (by kernel_rfl) hF4.sees rfl ⟨.inl ⟨trivial, rfl⟩, hB4⟩
end
end Go.Proofs.Ytdilpalggoapnaa
