/-
  What isVar, areBlocks and areVars of package code answer, for every input.
-/
import Derived.Test.YtangblcfdboghaaCodeMem
import Derived.Maps.OwnSet
namespace Go.Proofs.Ytangblcfdboghaa
open Go.RowKit Go.Maps
set_option linter.unusedVariables false

theorem Vr.right_is (v : Vr) : v.right = (nameOk v.name && (decide (1 ≤ (v.cls : Int)) && (decide ((v.cls : Int) ≤ 4) && (isTy v.typ && inR v.typ v.first)))) := by
  simp [Vr.right, Bool.and_assoc]
  congr 2
  · simp; omega
  · congr 1
    simp; omega
set_option maxHeartbeats 4000000 in
set_option maxRecDepth 100000 in
theorem isVar_any (v : Vr) (w : World) (hv : v.Ok) :
    Calls Try.prog 72 #[.agg v.cells.toArray] w fun e w' => e = .returned (.bool v.right) ∧ Below w.heap.size w w' := by
  have ht := hv.typ
  obtain ⟨b0, h0⟩ : ∃ b, nameOk v.name = b := ⟨_, rfl⟩
  obtain ⟨b1, h1⟩ : ∃ b, decide (1 ≤ (v.cls : Int)) = b := ⟨_, rfl⟩
  obtain ⟨b2, h2⟩ : ∃ b, decide ((v.cls : Int) ≤ 4) = b := ⟨_, rfl⟩
  obtain ⟨b3, h3⟩ : ∃ b, isTy v.typ = b := ⟨_, rfl⟩
  obtain ⟨b4, h4⟩ : ∃ b, inR v.typ v.first = b := ⟨_, rfl⟩
  have er : v.right = (b0 && (b1 && (b2 && (b3 && b4)))) := by rw [Vr.right_is, h0, h1, h2, h3, h4]
  rw [er]
  have S0 := fun w => cName_any v.name w
  have S3 := fun w => cType_any (v.typ : Int) w
  have S4 := fun w => cOf_any v.typ v.first w
  simp only [h0] at S0
  simp only [h3] at S3
  simp only [h4] at S4
  clear h0 h3 h4 er hv
  cases b0
  all_goals go_enter Try.func72, Try.ntmps72
  all_goals go_wp2_with (first
    | (with_reducible refine wpList_box (o := ⟨some 1, _, _, _, _, _⟩) rfl (.tmp 0) 56 rfl v.cells rfl 4 (vr4 v) (by decide) ?_; intro g w1 hg hF hB1; have f0 := hF.cell_ (k := 0) rfl; have f1 := hF.cell_ (k := 1) rfl; have f2 := hF.cell_ (k := 2) rfl; have f3 := hF.cell_ (k := 3) rfl; clear hF hg)
    | (go_at_call 52; refine (S0 _).mono ?_; rintro e w' ⟨rfl, rfl⟩)
    | (go_at_call 83; refine (S3 _).mono ?_; rintro e w' ⟨rfl, rfl⟩)
    | (go_at_call 84; refine (S4 _).mono ?_; rintro e w' ⟨rfl, rfl⟩))
  all_goals go_ret
  all_goals refine ⟨ret_bool ?_, hB1⟩
  all_goals simp [*]
set_option maxHeartbeats 4000000 in
set_option maxRecDepth 100000 in
theorem areBlocks_any (A : Option Addr) (n c : Nat) (l : List UInt8) (w : World) (hs : Sees w w.heap.size A (cb l)) (hl : l.length = n) (hn : n ≤ 9223372036854775807) :
    Calls Try.prog 54 #[.slice A n c] w fun e w' => e = .returned (.bool (blocksOk l)) ∧ w = w' := by
  have HL := Lib.hid hl
  clear hl
  by_cases h : 100 < n
  · have g : decide ((100 : Int) < n) = true := by simp; omega
    go_enter Try.func54, Try.ntmps54
    go_wp2
    go_ret
    exact ⟨ret_bool (by rw [blocksOk, HL.out, show decide (n ≤ 100) = false from by simp; omega, Bool.false_and]), rfl⟩
  · have g : decide ((100 : Int) < n) = false := by simp; omega
    go_enter Try.func54, Try.ntmps54
    go_wp2
    go_loopw [4, 10] (fun k i wr => ∃ k : Nat, k ≤ n ∧ i = .int .i64 k ∧ (∀ x ∈ l.take k, blockOk x = true) ∧ w = wr) (fun _ i _ => n - (intOf i).toNat)
    case atStart => exact ⟨0, by omega, rfl, by simp, rfl⟩
    case round =>
      obtain ⟨k, hk, rfl, hall, rfl⟩ := hrel
      have HA := Lib.hid hall
      clear hall
      by_cases hlt : k < n
      · obtain ⟨b, o, rfl, hb, x, HX, hx, hc⟩ := hs.byte HL.out hlt
        by_cases hx1 : x.toNat < 1
        · have g1 : decide ((x.toNat : Int) < 1) = true := by simp; omega
          go_wp2_with fail
          go_ret
          refine ⟨ret_bool ?_, rfl⟩
          have hm : x ∈ l := List.mem_of_getElem? HX.out
          rw [eq_comm, Bool.eq_false_iff]
          intro hh
          simp only [blocksOk, Bool.and_eq_true, List.all_eq_true, decide_eq_true_eq] at hh
          have := hh.2 x hm
          simp [blockOk] at this
          omega
        · have g1 : decide ((x.toNat : Int) < 1) = false := by simp; omega
          by_cases hx2 : 11 < x.toNat
          · have g2 : decide ((11 : Int) < x.toNat) = true := by simp; omega
            go_wp2_with fail
            go_ret
            refine ⟨ret_bool ?_, rfl⟩
            have hm : x ∈ l := List.mem_of_getElem? HX.out
            rw [eq_comm, Bool.eq_false_iff]
            intro hh
            simp only [blocksOk, Bool.and_eq_true, List.all_eq_true, decide_eq_true_eq] at hh
            have := hh.2 x hm
            simp [blockOk] at this
            omega
          · have g2 : decide ((11 : Int) < x.toNat) = false := by simp; omega
            go_wp2_with fail
            go_roundw
            case rel =>
              refine ⟨k + 1, by omega, by go_num, fun d hd => ?_, trivial⟩
              rw [List.take_add_one, HX.out] at hd
              simp at hd
              rcases hd with hd | rfl
              · exact HA.out d hd
              · simp [blockOk]; omega
            case measure => simp [intOf]; omega
      · go_wp2_with fail
        go_ret
        refine ⟨ret_bool ?_, rfl⟩
        have hall := HA.out
        rw [List.take_of_length_le (by rw [HL.out]; omega)] at hall
        have h2 : l.all blockOk = true := by
          rw [List.all_eq_true]
          exact hall
        rw [blocksOk, h2, HL.out, show decide (n ≤ 100) = true from by simp; omega]
        rfl
end Go.Proofs.Ytangblcfdboghaa
