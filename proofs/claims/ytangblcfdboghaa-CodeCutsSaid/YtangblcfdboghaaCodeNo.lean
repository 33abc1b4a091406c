/-
  Bytes of what is no right program: none, and the mark.
-/
import Derived.Test.YtangblcfdboghaaCodeRight
import Derived.Test.YtangblcfdboghaaCodeBytes
import Derived.Test.YtangblcfdboghaaCodeAwake
namespace Go.Proofs.Ytangblcfdboghaa
open Go.RowKit
set_option linter.unusedVariables false

set_option maxHeartbeats 8000000 in
set_option maxRecDepth 100000 in
theorem Bytes_no (m : Pm) (w : World) (hm : PmAt w.heap.size w m) (hr : m.p.right = false) :
    Calls Try.prog 14 #[.agg m.cells.toArray] w fun e w' => e = .returned (.tuple #[.slice none 0 0, .int .i64 130]) ∧ Below w.heap.size w w' := by
  have SR := fun wq h => Right_any m wq h
  simp only [hr] at SR
  go_enter Try.func14, Try.ntmps14
  go_wp2_with (first
    | (with_reducible refine wpList_box (o := ⟨some 1, _, _, _, _, _⟩) rfl (.tmp 0) 26 rfl m.cells rfl 4 (pm4' m) (by decide) ?_; intro g w1 hg hG hB)
    | (with_reducible refine wpList_load rfl (.tmp 1) 26 rfl g 0 _ rfl m.cells 4 (pm4' m) aggCode' hG.sees ?_)
    | (go_at_call 26; refine (SR _ (hm.step hB)).mono ?_; rintro e w2 ⟨rfl, hB2⟩))
  go_ret2
  exact ⟨rfl, Below.then_ hB hB2⟩

/-- What Great answers: false of no program with more than is looked at. -/
def GreatOut (m : Pm) (e : Ending) : Prop := ∃ b, e = .returned (.bool b) ∧ (b = false → m.nv ≤ 220 ∧ m.nb ≤ 120 ∧ m.ni ≤ 2100 ∧ m.p.name.length ≤ 3000)

set_option maxHeartbeats 8000000 in
set_option maxRecDepth 100000 in
theorem Great_any (m : Pm) (w : World) (hm : PmAt w.heap.size w m) :
    Calls Try.prog 12 #[.agg m.cells.toArray] w fun e w' => GreatOut m e ∧ Below w.heap.size w w' := by
  have hnm := hm.name
  have hsm := hm.small
  unfold maxLen at hnm
  go_enter Try.func12, Try.ntmps12
  have NV := Lib.hid hm.nv
  by_cases q : m.nv ≤ 220 ∧ m.nb ≤ 120 ∧ m.ni ≤ 2100 ∧ m.p.name.length ≤ 3000
  · obtain ⟨q1, q2, q3, q4⟩ := q
    go_wp2_with (first
        | (with_reducible refine wpList_box (o := ⟨some 1, _, _, _, _, _⟩) rfl (.tmp 0) 26 rfl m.cells rfl 4 (pm4' m) (by decide) ?_; intro g w1 hg hG hB; have c0 := hG.cell_ (k := 0) rfl; have c1 := hG.cell_ (k := 1) rfl; have c2 := hG.cell_ (k := 2) rfl; have c3 := hG.cell_ (k := 3) rfl))
    go_loopw [3, 4, 30] (fun z v i wr => ∃ k : Nat, ∃ y : Int, k ≤ m.nv ∧ i = .int .i64 k ∧ z = .int .i64 y ∧ (-9223372036854775808 ≤ y ∧ y < 9223372036854775808) ∧ wr = w1) (fun _ _ i _ => m.nv - (intOf i).toNat)
    case atStart => exact ⟨0, 0, by omega, rfl, rfl, by omega, rfl⟩
    case round =>
      obtain ⟨k, y, hk, rfl, rfl, hy, rfl⟩ := hrel
      by_cases hlt : k < m.nv
      · obtain ⟨b, o, hA, hb, v, HX, hx, hc⟩ := (hm.vars.below hB).quad vr4 NV.out hlt
        have d0 := hc.cell4 0 _ rfl
        simp only [Nat.add_zero] at d0
        have hvn := (hm.okv v hx).name
        unfold maxLen at hvn
        rw [hA]
        go_wp2_with fail
        go_roundw
        case rel => exact ⟨k + 1, wrap64 (y + v.name.length), by omega, by go_num, rfl, by unfold wrap64; omega, trivial⟩
        case measure => simp [intOf]; omega
      · go_wp2_with fail
        go_ret
        exact ⟨⟨_, rfl, fun _ => ⟨q1, q2, q3, q4⟩⟩, hB⟩
  · by_cases q1 : m.nv ≤ 220
    · by_cases q2 : m.nb ≤ 120
      · by_cases q3 : m.ni ≤ 2100
        · have q4 : ¬ m.p.name.length ≤ 3000 := fun h => q ⟨q1, q2, q3, h⟩
          go_wp2_with (first
              | (with_reducible refine wpList_box (o := ⟨some 1, _, _, _, _, _⟩) rfl (.tmp 0) 26 rfl m.cells rfl 4 (pm4' m) (by decide) ?_; intro g w1 hg hG hB; have c0 := hG.cell_ (k := 0) rfl; have c1 := hG.cell_ (k := 1) rfl; have c2 := hG.cell_ (k := 2) rfl; have c3 := hG.cell_ (k := 3) rfl))
          go_ret
          exact ⟨⟨true, rfl, fun h => by cases h⟩, hB⟩
        · go_wp2_with (first
              | (with_reducible refine wpList_box (o := ⟨some 1, _, _, _, _, _⟩) rfl (.tmp 0) 26 rfl m.cells rfl 4 (pm4' m) (by decide) ?_; intro g w1 hg hG hB; have c0 := hG.cell_ (k := 0) rfl; have c1 := hG.cell_ (k := 1) rfl; have c2 := hG.cell_ (k := 2) rfl; have c3 := hG.cell_ (k := 3) rfl))
          go_ret
          exact ⟨⟨true, rfl, fun h => by cases h⟩, hB⟩
      · go_wp2_with (first
            | (with_reducible refine wpList_box (o := ⟨some 1, _, _, _, _, _⟩) rfl (.tmp 0) 26 rfl m.cells rfl 4 (pm4' m) (by decide) ?_; intro g w1 hg hG hB; have c0 := hG.cell_ (k := 0) rfl; have c1 := hG.cell_ (k := 1) rfl; have c2 := hG.cell_ (k := 2) rfl; have c3 := hG.cell_ (k := 3) rfl))
        go_ret
        exact ⟨⟨true, rfl, fun h => by cases h⟩, hB⟩
    · go_wp2_with (first
          | (with_reducible refine wpList_box (o := ⟨some 1, _, _, _, _, _⟩) rfl (.tmp 0) 26 rfl m.cells rfl 4 (pm4' m) (by decide) ?_; intro g w1 hg hG hB; have c0 := hG.cell_ (k := 0) rfl; have c1 := hG.cell_ (k := 1) rfl; have c2 := hG.cell_ (k := 2) rfl; have c3 := hG.cell_ (k := 3) rfl))
      go_ret
      exact ⟨⟨true, rfl, fun h => by cases h⟩, hB⟩
end Go.Proofs.Ytangblcfdboghaa
