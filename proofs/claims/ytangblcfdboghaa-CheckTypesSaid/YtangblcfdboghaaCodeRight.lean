/-
  What Right of package code answers, for every input.
-/
import Derived.Test.YtangblcfdboghaaCodeIns
namespace Go.Proofs.Ytangblcfdboghaa
open Go.RowKit
set_option linter.unusedVariables false
theorem pm4 (m : Pm) : m.cells.length = 4 := rfl
theorem aggCode : aggB Try.prog 26 4 = true := by kernel_rfl
set_option maxHeartbeats 4000000 in
set_option maxRecDepth 100000 in
theorem Right_any (m : Pm) (w : World) (hm : PmAt w.heap.size w m) :
    Calls Try.prog 26 #[.agg m.cells.toArray] w fun e w' => e = .returned (.bool m.p.right) ∧ Below w.heap.size w w' := by
  obtain ⟨b0, h0⟩ : ∃ b, nameOk m.p.name = b := ⟨_, rfl⟩
  obtain ⟨b1, h1⟩ : ∃ b, varsOk m.p.vars = b := ⟨_, rfl⟩
  obtain ⟨b2, h2⟩ : ∃ b, blocksOk m.p.blocks = b := ⟨_, rfl⟩
  obtain ⟨b3, h3⟩ : ∃ b, insOk m.p = b := ⟨_, rfl⟩
  have er : m.p.right = (b0 && (b1 && (b2 && b3))) := by rw [Pg.right, h0, h1, h2, h3]
  rw [er]
  have S0 := fun w => cName_any m.p.name w
  have S1 := fun w => areVars_any m.av m.nv m.cv m.p.vars w
  have S2 := fun w => areBlocks_any m.ab m.nb m.cb m.p.blocks w
  have S3 := fun w => areIns_any m w
  have hsm := hm.small
  have hnv := Lib.hid hm.nv
  have hnb := Lib.hid hm.nb
  have hok := Lib.hid hm.okv
  simp only [h0] at S0
  simp only [h1] at S1
  simp only [h2] at S2
  simp only [h3] at S3
  clear h0 h1 h2 h3 er
  cases b0 <;> cases b1 <;> cases b2
  all_goals go_enter Try.func26, Try.ntmps26
  all_goals go_wp2_with (first
    | (with_reducible refine wpList_box (o := ⟨some 1, _, _, _, _, _⟩) rfl (.tmp 0) 26 rfl m.cells rfl 4 (pm4 m) (by decide) ?_; intro g w1 hg hG hB; have f0 := hG.cell_ (k := 0) rfl; have f1 := hG.cell_ (k := 1) rfl; have f2 := hG.cell_ (k := 2) rfl; have hm1 := hm.step hB)
    | (go_at_call 52; refine (S0 _).mono ?_; rintro e w' ⟨rfl, rfl⟩)
    | (go_at_call 53; refine (S1 _ hm1.vars hnv.out hsm.1 hok.out).mono ?_; rintro e w2 ⟨rfl, hB2⟩; have hG := hG.below hB2; have f0 := hG.cell_ (k := 0) rfl; have f1 := hG.cell_ (k := 1) rfl; have f2 := hG.cell_ (k := 2) rfl; have hm1 := hm1.step hB2; have hB := Below.then_ hB hB2)
    | (go_at_call 54; refine (S2 _ hm1.blocks hnb.out hsm.2.1).mono ?_; rintro e w' ⟨rfl, rfl⟩)
    | (with_reducible refine wpList_load_g (.tmp 1) 26 rfl g 0 _ rfl m.cells 4 (pm4 m) aggCode hG.sees rfl ?_)
    | (go_at_call 55; refine (S3 _ hm1).mono ?_; rintro e w3 ⟨rfl, hB3⟩; have hB := Below.then_ hB hB3))
  all_goals go_ret
  all_goals refine ⟨ret_bool ?_, hB⟩
  all_goals simp [*]
end Go.Proofs.Ytangblcfdboghaa
