/-
  Same: are two programs one?
-/
import Derived.Test.YtangblcfdboghaaCodeRight
import Derived.Test.YtangblcfdboghaaCodeBytes
import Derived.Test.YtangblcfdboghaaCodeAwake
import Derived.Test.YtangblcfdboghaaQuietLoad
namespace Go.Proofs.Ytangblcfdboghaa
open Go.RowKit
set_option linter.unusedVariables false

/-- What Same answers. -/
def SameOut (p q : Pg) (e : Ending) : Prop := ∃ b, e = .returned (.bool b) ∧ (b = true ↔ p = q)
theorem SameOut.no {p q : Pg} (h : p ≠ q) : SameOut p q (.returned (.bool false)) := ⟨false, rfl, by simp [h]⟩
theorem SameOut.yes {p q : Pg} (h : p = q) : SameOut p q (.returned (.bool true)) := ⟨true, rfl, by simp [h]⟩
theorem take_both {α : Type} {l b : List α} {k : Nat} {x y : α} (h : l.take k = b.take k) (hx : l[k]? = some x) (hy : b[k]? = some y) (he : x = y) : l.take (k + 1) = b.take (k + 1) := by
  subst he
  rw [List.take_add_one, List.take_add_one, h, hx, hy]
theorem same_at {α : Type} {l b : List α} {k : Nat} {x y : α} (e : l = b) (hx : l[k]? = some x) (hy : b[k]? = some y) : x = y := by
  subst e
  rw [hx] at hy
  injection hy
theorem same_all {α : Type} {l b : List α} {k : Nat} (h : l.take k = b.take k) (hl : l.length ≤ k) (hb : b.length ≤ k) : l = b := by
  rwa [List.take_of_length_le hl, List.take_of_length_le hb] at h
theorem pg_same {p q : Pg} (h1 : p.name = q.name) (h2 : p.vars = q.vars) (h3 : p.blocks = q.blocks) (h4 : p.ins = q.ins) : p = q := by
  obtain ⟨_, _, _, _⟩ := p
  obtain ⟨_, _, _, _⟩ := q
  simp only [] at h1 h2 h3 h4
  subst h1 h2 h3 h4
  rfl

set_option maxHeartbeats 16000000 in
set_option maxRecDepth 100000 in
theorem Same_any (a b : Pm) (w : World) (ha : PmAt w.heap.size w a) (hb : PmAt w.heap.size w b) :
    Calls Try.prog 22 #[.agg a.cells.toArray, .agg b.cells.toArray] w fun e w' => SameOut a.p b.p e ∧ Below w.heap.size w w' := by
  have sa := ha.small
  have sb := hb.small
  have na := ha.name
  have nb := hb.name
  unfold maxLen at na nb
  have NVa := Lib.hid ha.nv
  have NVb := Lib.hid hb.nv
  have NBa := Lib.hid ha.nb
  have NBb := Lib.hid hb.nb
  have NIa := Lib.hid ha.ni
  have NIb := Lib.hid hb.ni
  go_enter Try.func22, Try.ntmps22
  by_cases hnm : a.p.name = b.p.name
  · have NM := Lib.hid hnm
    by_cases hv : a.nv = b.nv
    · by_cases hbk : a.nb = b.nb
      · by_cases hi : a.ni = b.ni
        · have HV := Lib.hid hv
          have HBK := Lib.hid hbk
          have HI := Lib.hid hi
          go_wp2_with (first
          | (with_reducible refine wpList_box (o := ⟨some 2, _, _, _, _, _⟩) rfl (.tmp 0) 26 rfl a.cells rfl 4 (pm4' a) (by decide) ?_; intro g w1 hg hG hB)
          | (with_reducible refine wpList_box (o := ⟨some 3, _, _, _, _, _⟩) rfl (.tmp 1) 26 rfl b.cells rfl 4 (pm4' b) (by decide) ?_; intro k w2 hk hK hB2; have hG2 := hG.below hB2; have hBw := Below.then_ hB hB2; have c0 := hG2.cell_ (k := 0) rfl; have c1 := hG2.cell_ (k := 1) rfl; have c2 := hG2.cell_ (k := 2) rfl; have c3 := hG2.cell_ (k := 3) rfl; have d0 := hK.cell_ (k := 0) rfl; have d1 := hK.cell_ (k := 1) rfl; have d2 := hK.cell_ (k := 2) rfl; have d3 := hK.cell_ (k := 3) rfl))
          have hPa := ha.below hBw
          have hPb := hb.below hBw
          go_loopw [5, 43] (fun s i wr => ∃ j : Nat, j ≤ b.nv ∧ i = .int .i64 j ∧ a.p.vars.take j = b.p.vars.take j ∧ ∃ q, wr = w2.drewN q) (fun _ i _ => b.nv - (intOf i).toNat)
          case atStart => exact ⟨0, by omega, rfl, rfl, by first | exact ⟨_, rfl⟩ | exact ⟨0, rfl⟩⟩
          case round =>
            obtain ⟨j, hj, rfl, htk, q, rfl⟩ := hrel
            have HT := Lib.hid htk
            clear htk
            by_cases hlt : j < b.nv
            · obtain ⟨b1, o1, hA1, hb1, x, HX, hx, hcx⟩ := hPa.vars.quad (k := j) vr4 NVa.out (by have := HV.out; omega)
              obtain ⟨b2, o2, hA2, hb2, y, HY, hy, hcy⟩ := hPb.vars.quad vr4 NVb.out hlt
              have hnq := neq_var x y
              rw [hA1] at c1 ⊢
              rw [hA2] at d1 ⊢
              rw [HV.out] at c1
              by_cases he : x = y
              · have hdc : decide (x = y) = true := by simp [he]
                simp only [hdc, Bool.not_true] at hnq
                have HE := Lib.hid he
                clear he hdc
                go_wp2
                refine wp_region_quiet_lit (by kernel_rfl) (by kernel_rfl) ?_
                repeat (first
                  | go_big_quiet_skip
                  | (go_big_quiet_want; first
                      | (
                          with_reducible refine quiet_load (B := w.heap.size) (.tmp 49) 56 rfl rfl x.cells 4 (vr4 x) aggVar (fun w hw => ?_) ?_
                          · obtain ⟨n, rfl⟩ := hw
                            exact (hcx.drewN _).drewN _
                          simp only [Act.put, List.setIfInBounds_toArray, List.set_cons_succ, List.set_cons_zero]
                          go_big_quiet_on)
                      | (
                          with_reducible refine quiet_load (B := w.heap.size) (.tmp 54) 56 rfl rfl y.cells 4 (vr4 y) aggVar (fun w hw => ?_) ?_
                          · obtain ⟨n, rfl⟩ := hw
                            exact (hcy.drewN _).drewN _
                          simp only [Act.put, List.setIfInBounds_toArray, List.set_cons_succ, List.set_cons_zero]
                          go_big_quiet_on)
                      | (
                          with_reducible refine quiet_neq (.tmp 50) (.tmp 55) 56 _ rfl rfl rfl guard_var _ hnq ?_
                          simp only [Act.put, List.setIfInBounds_toArray, List.set_cons_succ, List.set_cons_zero]
                          go_big_quiet_on)
                      | (go_big_quiet_op; go_big_quiet_on)))
                refine wpQuiet_nil ?_
                intro _ hw'
                obtain ⟨nq, hw''⟩ := hw'
                subst hw''
                go_wp2
                go_roundw
                case rel => exact ⟨j + 1, by omega, by go_num, take_both HT.out HX.out HY.out HE.out, _, rfl⟩
                case measure => simp [intOf]; omega
              · have hdc : decide (x = y) = false := by simp [he]
                simp only [hdc, Bool.not_false] at hnq
                have HE := Lib.hid he
                clear he hdc
                go_wp2
                refine wp_region_quiet_lit (by kernel_rfl) (by kernel_rfl) ?_
                repeat (first
                  | go_big_quiet_skip
                  | (go_big_quiet_want; first
                      | (
                          with_reducible refine quiet_load (B := w.heap.size) (.tmp 49) 56 rfl rfl x.cells 4 (vr4 x) aggVar (fun w hw => ?_) ?_
                          · obtain ⟨n, rfl⟩ := hw
                            exact (hcx.drewN _).drewN _
                          simp only [Act.put, List.setIfInBounds_toArray, List.set_cons_succ, List.set_cons_zero]
                          go_big_quiet_on)
                      | (
                          with_reducible refine quiet_load (B := w.heap.size) (.tmp 54) 56 rfl rfl y.cells 4 (vr4 y) aggVar (fun w hw => ?_) ?_
                          · obtain ⟨n, rfl⟩ := hw
                            exact (hcy.drewN _).drewN _
                          simp only [Act.put, List.setIfInBounds_toArray, List.set_cons_succ, List.set_cons_zero]
                          go_big_quiet_on)
                      | (
                          with_reducible refine quiet_neq (.tmp 50) (.tmp 55) 56 _ rfl rfl rfl guard_var _ hnq ?_
                          simp only [Act.put, List.setIfInBounds_toArray, List.set_cons_succ, List.set_cons_zero]
                          go_big_quiet_on)
                      | (go_big_quiet_op; go_big_quiet_on)))
                refine wpQuiet_nil ?_
                intro _ hw'
                obtain ⟨nq, hw''⟩ := hw'
                subst hw''
                go_wp2
                go_ret
                exact ⟨SameOut.no (fun e => HE.out (same_at (congrArg Pg.vars e) HX.out HY.out)), below_drewN' (below_drewN' hBw _) _⟩
            · have evars : a.p.vars = b.p.vars := same_all HT.out (by rw [NVa.out, HV.out]; omega) (by rw [NVb.out]; omega)
              have Evars := Lib.hid evars
              clear evars
              go_wp2
              go_loopw [6, 61] (fun s i wr => ∃ j : Nat, j ≤ b.nb ∧ i = .int .i64 j ∧ a.p.blocks.take j = b.p.blocks.take j ∧ ∃ q, wr = w2.drewN q) (fun _ i _ => b.nb - (intOf i).toNat)
              case atStart => exact ⟨0, by omega, rfl, rfl, by first | exact ⟨_, rfl⟩ | exact ⟨0, rfl⟩⟩
              case round =>
                obtain ⟨j, hj, rfl, htk, q, rfl⟩ := hrel
                have HT := Lib.hid htk
                clear htk
                by_cases hlt : j < b.nb
                · obtain ⟨b1, o1, hA1, hb1, x, HX, hx, hcx⟩ := hPa.blocks.byte (k := j) NBa.out (by have := HBK.out; omega)
                  obtain ⟨b2, o2, hA2, hb2, y, HY, hy, hcy⟩ := hPb.blocks.byte NBb.out hlt
                  rw [hA1] at c2 ⊢
                  rw [hA2] at d2 ⊢
                  rw [HBK.out] at c2
                  by_cases he : x.toNat = y.toNat
                  · have hne : ((x.toNat : Int) != (y.toNat : Int)) = false := by simp [he]
                    have HE := Lib.hid he
                    clear he
                    go_wp2
                    go_quiet (fail)
                    go_wp2
                    go_roundw
                    case rel => exact ⟨j + 1, by omega, by go_num, take_both HT.out HX.out HY.out (UInt8.toNat_inj.1 HE.out), _, rfl⟩
                    case measure => simp [intOf]; omega
                  · have hne : ((x.toNat : Int) != (y.toNat : Int)) = true := by simp; omega
                    have HE := Lib.hid he
                    clear he
                    go_wp2
                    go_quiet (fail)
                    go_wp2
                    go_ret
                    exact ⟨SameOut.no (fun e => HE.out (congrArg UInt8.toNat (same_at (congrArg Pg.blocks e) HX.out HY.out))), below_drewN' (below_drewN' hBw _) _⟩
                · have eblocks : a.p.blocks = b.p.blocks := same_all HT.out (by rw [NBa.out, HBK.out]; omega) (by rw [NBb.out]; omega)
                  have Eblocks := Lib.hid eblocks
                  clear eblocks
                  go_wp2
                  go_loopw [7, 79] (fun s i wr => ∃ j : Nat, j ≤ b.ni ∧ i = .int .i64 j ∧ a.p.ins.take j = b.p.ins.take j ∧ ∃ q, wr = w2.drewN q) (fun _ i _ => b.ni - (intOf i).toNat)
                  case atStart => exact ⟨0, by omega, rfl, rfl, by first | exact ⟨_, rfl⟩ | exact ⟨0, rfl⟩⟩
                  case round =>
                    obtain ⟨j, hj, rfl, htk, q, rfl⟩ := hrel
                    have HT := Lib.hid htk
                    clear htk
                    by_cases hlt : j < b.ni
                    · obtain ⟨b1, o1, hA1, hb1, x, HX, hx, hcx⟩ := hPa.ins.quad (k := j) jn4 NIa.out (by have := HI.out; omega)
                      obtain ⟨b2, o2, hA2, hb2, y, HY, hy, hcy⟩ := hPb.ins.quad jn4 NIb.out hlt
                      have hnq := neq_ins x y
                      rw [hA1] at c3 ⊢
                      rw [hA2] at d3 ⊢
                      rw [HI.out] at c3
                      by_cases he : x = y
                      · have hdc : decide (x = y) = true := by simp [he]
                        simp only [hdc, Bool.not_true] at hnq
                        have HE := Lib.hid he
                        clear he hdc
                        go_wp2
                        refine wp_region_quiet_lit (by kernel_rfl) (by kernel_rfl) ?_
                        repeat (first
                          | go_big_quiet_skip
                          | (go_big_quiet_want; first
                              | (
                                  with_reducible refine quiet_load (B := w.heap.size) (.tmp 85) 53 rfl rfl x.cells 4 (jn4 x) aggIns (fun w hw => ?_) ?_
                                  · obtain ⟨n, rfl⟩ := hw
                                    exact (hcx.drewN _).drewN _
                                  simp only [Act.put, List.setIfInBounds_toArray, List.set_cons_succ, List.set_cons_zero]
                                  go_big_quiet_on)
                              | (
                                  with_reducible refine quiet_load (B := w.heap.size) (.tmp 90) 53 rfl rfl y.cells 4 (jn4 y) aggIns (fun w hw => ?_) ?_
                                  · obtain ⟨n, rfl⟩ := hw
                                    exact (hcy.drewN _).drewN _
                                  simp only [Act.put, List.setIfInBounds_toArray, List.set_cons_succ, List.set_cons_zero]
                                  go_big_quiet_on)
                              | (
                                  with_reducible refine quiet_neq (.tmp 86) (.tmp 91) 53 _ rfl rfl rfl guard_ins _ hnq ?_
                                  simp only [Act.put, List.setIfInBounds_toArray, List.set_cons_succ, List.set_cons_zero]
                                  go_big_quiet_on)
                              | (go_big_quiet_op; go_big_quiet_on)))
                        refine wpQuiet_nil ?_
                        intro _ hw'
                        obtain ⟨nq, hw''⟩ := hw'
                        subst hw''
                        go_wp2
                        go_roundw
                        case rel => exact ⟨j + 1, by omega, by go_num, take_both HT.out HX.out HY.out HE.out, _, rfl⟩
                        case measure => simp [intOf]; omega
                      · have hdc : decide (x = y) = false := by simp [he]
                        simp only [hdc, Bool.not_false] at hnq
                        have HE := Lib.hid he
                        clear he hdc
                        go_wp2
                        refine wp_region_quiet_lit (by kernel_rfl) (by kernel_rfl) ?_
                        repeat (first
                          | go_big_quiet_skip
                          | (go_big_quiet_want; first
                              | (
                                  with_reducible refine quiet_load (B := w.heap.size) (.tmp 85) 53 rfl rfl x.cells 4 (jn4 x) aggIns (fun w hw => ?_) ?_
                                  · obtain ⟨n, rfl⟩ := hw
                                    exact (hcx.drewN _).drewN _
                                  simp only [Act.put, List.setIfInBounds_toArray, List.set_cons_succ, List.set_cons_zero]
                                  go_big_quiet_on)
                              | (
                                  with_reducible refine quiet_load (B := w.heap.size) (.tmp 90) 53 rfl rfl y.cells 4 (jn4 y) aggIns (fun w hw => ?_) ?_
                                  · obtain ⟨n, rfl⟩ := hw
                                    exact (hcy.drewN _).drewN _
                                  simp only [Act.put, List.setIfInBounds_toArray, List.set_cons_succ, List.set_cons_zero]
                                  go_big_quiet_on)
                              | (
                                  with_reducible refine quiet_neq (.tmp 86) (.tmp 91) 53 _ rfl rfl rfl guard_ins _ hnq ?_
                                  simp only [Act.put, List.setIfInBounds_toArray, List.set_cons_succ, List.set_cons_zero]
                                  go_big_quiet_on)
                              | (go_big_quiet_op; go_big_quiet_on)))
                        refine wpQuiet_nil ?_
                        intro _ hw'
                        obtain ⟨nq, hw''⟩ := hw'
                        subst hw''
                        go_wp2
                        go_ret
                        exact ⟨SameOut.no (fun e => HE.out (same_at (congrArg Pg.ins e) HX.out HY.out)), below_drewN' (below_drewN' hBw _) _⟩
                    · have eins : a.p.ins = b.p.ins := same_all HT.out (by rw [NIa.out, HI.out]; omega) (by rw [NIb.out]; omega)
                      have Eins := Lib.hid eins
                      clear eins
                      go_wp2
                      go_ret
                      exact ⟨SameOut.yes (pg_same NM.out Evars.out Eblocks.out Eins.out), below_drewN' hBw _⟩
        · go_wp2_with (first
          | (with_reducible refine wpList_box (o := ⟨some 2, _, _, _, _, _⟩) rfl (.tmp 0) 26 rfl a.cells rfl 4 (pm4' a) (by decide) ?_; intro g w1 hg hG hB)
          | (with_reducible refine wpList_box (o := ⟨some 3, _, _, _, _, _⟩) rfl (.tmp 1) 26 rfl b.cells rfl 4 (pm4' b) (by decide) ?_; intro k w2 hk hK hB2; have hG2 := hG.below hB2; have hBw := Below.then_ hB hB2; have c0 := hG2.cell_ (k := 0) rfl; have c1 := hG2.cell_ (k := 1) rfl; have c2 := hG2.cell_ (k := 2) rfl; have c3 := hG2.cell_ (k := 3) rfl; have d0 := hK.cell_ (k := 0) rfl; have d1 := hK.cell_ (k := 1) rfl; have d2 := hK.cell_ (k := 2) rfl; have d3 := hK.cell_ (k := 3) rfl))
          go_ret
          exact ⟨SameOut.no (fun e => hi (by rw [← NIa.out, ← NIb.out, e])), hBw⟩
      · go_wp2_with (first
        | (with_reducible refine wpList_box (o := ⟨some 2, _, _, _, _, _⟩) rfl (.tmp 0) 26 rfl a.cells rfl 4 (pm4' a) (by decide) ?_; intro g w1 hg hG hB)
        | (with_reducible refine wpList_box (o := ⟨some 3, _, _, _, _, _⟩) rfl (.tmp 1) 26 rfl b.cells rfl 4 (pm4' b) (by decide) ?_; intro k w2 hk hK hB2; have hG2 := hG.below hB2; have hBw := Below.then_ hB hB2; have c0 := hG2.cell_ (k := 0) rfl; have c1 := hG2.cell_ (k := 1) rfl; have c2 := hG2.cell_ (k := 2) rfl; have c3 := hG2.cell_ (k := 3) rfl; have d0 := hK.cell_ (k := 0) rfl; have d1 := hK.cell_ (k := 1) rfl; have d2 := hK.cell_ (k := 2) rfl; have d3 := hK.cell_ (k := 3) rfl))
        go_ret
        exact ⟨SameOut.no (fun e => hbk (by rw [← NBa.out, ← NBb.out, e])), hBw⟩
    · go_wp2_with (first
      | (with_reducible refine wpList_box (o := ⟨some 2, _, _, _, _, _⟩) rfl (.tmp 0) 26 rfl a.cells rfl 4 (pm4' a) (by decide) ?_; intro g w1 hg hG hB)
      | (with_reducible refine wpList_box (o := ⟨some 3, _, _, _, _, _⟩) rfl (.tmp 1) 26 rfl b.cells rfl 4 (pm4' b) (by decide) ?_; intro k w2 hk hK hB2; have hG2 := hG.below hB2; have hBw := Below.then_ hB hB2; have c0 := hG2.cell_ (k := 0) rfl; have c1 := hG2.cell_ (k := 1) rfl; have c2 := hG2.cell_ (k := 2) rfl; have c3 := hG2.cell_ (k := 3) rfl; have d0 := hK.cell_ (k := 0) rfl; have d1 := hK.cell_ (k := 1) rfl; have d2 := hK.cell_ (k := 2) rfl; have d3 := hK.cell_ (k := 3) rfl))
      go_ret
      exact ⟨SameOut.no (fun e => hv (by rw [← NVa.out, ← NVb.out, e])), hBw⟩
  · go_wp2_with (first
    | (with_reducible refine wpList_box (o := ⟨some 2, _, _, _, _, _⟩) rfl (.tmp 0) 26 rfl a.cells rfl 4 (pm4' a) (by decide) ?_; intro g w1 hg hG hB)
    | (with_reducible refine wpList_box (o := ⟨some 3, _, _, _, _, _⟩) rfl (.tmp 1) 26 rfl b.cells rfl 4 (pm4' b) (by decide) ?_; intro k w2 hk hK hB2; have hG2 := hG.below hB2; have hBw := Below.then_ hB hB2; have c0 := hG2.cell_ (k := 0) rfl; have c1 := hG2.cell_ (k := 1) rfl; have c2 := hG2.cell_ (k := 2) rfl; have c3 := hG2.cell_ (k := 3) rfl; have d0 := hK.cell_ (k := 0) rfl; have d1 := hK.cell_ (k := 1) rfl; have d2 := hK.cell_ (k := 2) rfl; have d3 := hK.cell_ (k := 3) rfl))
    go_ret
    exact ⟨SameOut.no (fun e => hnm (by rw [e])), hBw⟩
end Go.Proofs.Ytangblcfdboghaa
