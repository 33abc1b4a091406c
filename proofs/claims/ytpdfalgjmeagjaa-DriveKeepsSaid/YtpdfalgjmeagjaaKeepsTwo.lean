/-
  DriveKeeps, case by case: the power failing behind some steps, or not; some bit to be set, or none (second part).
-/
import Derived.Test.YtpdfalgjmeagjaaLowCopy
import Derived.Test.YtpdfalgjmeagjaaKeepsPure
import Derived.Test.YtpdfalgjmeagjaaDrAwake
namespace Go.Proofs.Ytpdfalgjmeagjaa
open Go.RowKit
set_option linter.unusedVariables false

set_option maxHeartbeats 4000000 in
set_option maxRecDepth 100000 in
theorem keeps_t1a (A : Option Addr) (N c : Nat) (o : List Oc) (z : Int) (B : Option Addr) (n q : Nat) (l7 : List UInt32) (t : Nat) (W : World) (hs : Sees W W.heap.size A (ocs o)) (hl : o.length = N) (hok : ∀ x ∈ o, x.Ok W.heap.size W) (k K M : Nat) (hPick : ∀ w, Calls Try.prog 30 #[.int .i64 z, .int .i64 (193 : Int)] w fun e w' => e = .returned (.int .i64 (k : Int)) ∧ w' = w) (hk : k < 193) (hK : k + K = 192)
    (hsM : Sees W W.heap.size B (cw l7)) (HL7 : Hid (l7.length = M)) (hM1 : M ≤ q) (hM2 : k + M ≤ 192) (hm : n ≤ K ∧ M = n) (ht8 : t < 256) (htm : t ≤ M) (hsets : sets32 ((made5 o).at_ 1 k M) l7 = true) :
    Calls Try.prog 8 #[.slice A N c, .int .i64 z, .slice B n q, .int .u8 (t : Int), .bool true] W fun e w' => e = .returned (.bool true) ∧ Below W.heap.size W w' := by
  have hMade := made5_any A N c o hs hl hok
  clear hs hl hok
  go_enter Try.func8, Try.ntmps8
  go_wp2_with fail
  refine hMade.mono ?_
  rintro e w1 ⟨p, b, d, rfl, hD, hB1⟩
  clear hMade
  go_wp2_with fail
  refine (hPick _).mono ?_
  rintro e w2 ⟨rfl, rfl⟩
  have up := made5_up5' hD
  have hhalf : (made5 o).half = -1 := (Fl.crash_up _ _).2.2.1
  obtain ⟨hp1, hb1, hp2, hb2⟩ := hD.nor.lt
  have hd1 := hD.obj.lt_size
  have hwk : IntKind.i64.wrap ((192 : Int) - (k : Int)) = (K : Int) := by rw [wrapI _ (by omega) (by omega)]; omega
  have hwk' : wrap64 ((192 : Int) - (k : Int)) = (K : Int) := by rw [wrap64I _ (by omega) (by omega)]; omega
  have hcut := fun w => run_cut32 (w := w) B n q M hM1
  obtain ⟨T, D, F, dn, hW, hTn, hTok, hTd, hTat, K3⟩ := keeps_pure up hhalf k M t hM2 l7 HL7.out true true hsets
  have HW := Lib.hid hW
  have HS := Lib.hid hsets
  have HTA := Lib.hid hTat
  have HTD := Lib.hid hTd
  have HTN := Lib.hid hTn
  have HB1 := hB1.size
  clear hW hsets hTat hTd hTn
  have hwas := hD.at_len (at_ := 0) (many := 192) (by omega)
  have hwk2 := hD.at_len (at_ := k) (many := M) (by omega)
  have hrest : ∀ j, j < M → ∀ x, ((made5 o).at_ 1 0 192)[k + j]? = some x → ((made5 o).at_ 1 k M)[j]? = some x := fun j hj x hx => by
    unfold Fl.at_ at hx ⊢
    rw [List.getElem?_take, List.getElem?_drop] at hx ⊢
    rw [if_pos (by omega)] at hx
    rw [if_pos hj, ← hx]
    congr 1
    omega
  obtain ⟨hm, rfl⟩ := hm
  go_wp2_with fail
  refine (dRead_at hD up.down 0 192 (by omega)).mono ?_
  rintro e w3 ⟨G, rfl, hFw, hB2⟩
  have hD3 := hD.below hB2
  have hGb := hFw.block.2
  have hGl := hFw.lt_size
  have hwasL := hwas
  go_wp2_with fail
  refine (CopyWords_any (some ⟨G, 0, none⟩) 192 192 ((made5 o).at_ 1 0 192) w3 hFw.sees hwas (by omega)).mono ?_
  rintro e w4 ⟨Aq, cq, rfl, hFc, hB3⟩
  have hD4 := hD3.below hB3
  obtain ⟨gq, rfl, hgq, hgql⟩ := hFc.spot_ (by omega)
  have sw := (hFw.sees.step hB3)
  have hBW4 : Below W.heap.size W w4 := (hB1.trans (hB2.mono HB1)).trans (hB3.mono (Nat.le_trans HB1 hB2.size))
  have sl := hsM.below hBW4
  have z23 := hB2.size
  have z34 := hB3.size
  clear hB2 hB3 hD hD3 hFw
  have HWS := Lib.hid hwas
  have HWK := Lib.hid hwk2
  clear hwas hwasL hwk2 hcut
  revert sw HWS HWK HS HTA hFc hrest
  generalize (made5 o).at_ 1 0 192 = was
  generalize (made5 o).at_ 1 k _ = wk
  intro HS HTA hrest hFc sw HWS HWK
  go_wp2_with fail
  go_loopw [18, 59] (fun v i wr => ∃ (j : Nat) (bb : Bool), j ≤ M ∧ i = .int .i64 (j : Int) ∧ v = .bool bb ∧ Hid ((bb || sets32 (wk.drop j) (l7.drop j)) = true) ∧ wr = w4) (fun _ i _ => M - (intOf i).toNat)
  case atStart => exact ⟨0, false, Nat.zero_le _, rfl, rfl, Lib.hid (by simpa using HS.out), rfl⟩
  case round =>
    obtain ⟨j, bb, hj, rfl, rfl, hu, rfl⟩ := hrel
    by_cases hlt : j < M
    · obtain ⟨gl, ol, rfl, hgl, x, HX, hx', hcx⟩ := sl.word HL7.out hlt
      obtain ⟨gw, ow, hgw, hgwl, y, HY, hy', hcy⟩ := sw.word HWS.out (show k + j < 192 by omega)
      simp only [Option.some.injEq, Addr.mk.injEq] at hgw
      obtain ⟨rfl, rfl, -⟩ := hgw
      rw [Nat.zero_add] at hcy
      have hy2 := hrest j hlt y HY.out
      have hu2 := hu.out
      rw [drop_at32 hy2, drop_at32 HX.out] at hu2
      simp only [sets32] at hu2
      have hwa := wrapI ((k : Int) + (j : Int)) (by omega) (by omega)
      have hraw := andNot32 x y
      revert hu2 hraw
      generalize nset x y = Nn
      intro hu2 hraw
      clear hy2 hu HS HTA hrest sl sw hFc HW
      cases bb
      · rcases Nn with _ | Nn
        · have HU : Hid ((false || sets32 (wk.drop (j + 1)) (l7.drop (j + 1))) = true) := Lib.hid (by first | (simp; done) | (simp at hu2; done) | (simpa using hu2))
          clear hu2
          go_wp2_with fail
          go_roundw
          case rel => exact ⟨j + 1, false, by omega, by go_num, (by first | rfl | simp), HU, (by first | rfl | trivial)⟩
          case measure => simp [intOf]; omega
        · have HU : Hid ((true || sets32 (wk.drop (j + 1)) (l7.drop (j + 1))) = true) := Lib.hid (by first | (simp; done) | (simp at hu2; done) | (simpa using hu2))
          have h0 : ¬ (((Nn + 1 : Nat) : Int) = 0) := by omega
          clear hu2
          go_wp2_with fail
          go_roundw
          case rel => exact ⟨j + 1, true, by omega, by go_num, (by first | rfl | simp | (simp; omega)), HU, (by first | rfl | trivial)⟩
          case measure => simp [intOf]; omega
      · have HU : Hid ((true || sets32 (wk.drop (j + 1)) (l7.drop (j + 1))) = true) := Lib.hid (by first | (simp; done) | (simp at hu2; done) | (simpa using hu2))
        clear hu2
        go_wp2_with fail
        go_roundw
        case rel => exact ⟨j + 1, true, by omega, by go_num, (by first | rfl | simp), HU, (by first | rfl | trivial)⟩
        case measure => simp [intOf]; omega
    · obtain rfl : M = j := by omega
      obtain rfl : bb = true := by
        have hu2 := hu.out
        rw [List.drop_of_length_le (l := l7) (by rw [HL7.out]; exact Nat.le_refl _)] at hu2
        rw [← hu2]
        cases wk.drop M <;> simp [sets32]
      clear hu hrest sw sl hj hlt
      have HK3 := Lib.hid K3
      clear K3
      have HW2 := Lib.hid (show ((made5 o).arm (t : Int)).dwrite 1 3 (k : Int) l7 = (T, F) from by simpa using HW.out)
      clear HW
      obtain ⟨rfl, rfl, rfl⟩ := HK3.out.set_ rfl
      clear HK3
      go_wp2_with fail
      refine (Arm_any hD4.nor (t : Int) (by omega)).mono ?_
      rintro e w5 ⟨rfl, hN5, hT5⟩
      have hD5 := hD4.turn hT5 hN5 (by unfold Fl.arm; split <;> rfl)
      go_wp2_with fail
      have hBW5 := hBW4.trans (hT5.below hp2 hb2 hBW4.size)
      have hOff5 : Off p b w5 B (cw l7) := Off.of hD5.nor hBW5.size (hsM.below hBW5)
      refine (dWrite_any hD5 (k : Int) (by omega) _ q B l7 hOff5 HL7.out hM1 T _ HW2.out).mono ?_
      rintro e w6 ⟨rfl, hD6, hT6⟩
      have hT46 := hT5.then_ hT6
      have hFc6 := hFc.butC hT46 (by omega) (by omega)
      have hBW6 := hBW4.trans (hT46.below hp2 hb2 hBW4.size)
      have hdg : d ≠ gq := by omega
      clear hD4 hD5 hT5 hT6 hBW5 hOff5 hFc hT46 HW2
      go_wp2_with fail
      go_loopw [23] (fun i wr => ∃ j : Nat, j ≤ 0 ∧ i = .int .i64 (j : Int) ∧ Fresh w3.heap.size 22 wr (some ⟨gq, 0, none⟩) 192 cq (cw (splice was k (l7.take j))) ∧ But gq gq w6 wr) (fun i _ => 0 - (intOf i).toNat)
      case atStart => exact ⟨0, Nat.zero_le _, rfl, by simpa [splice] using hFc6, But.refl _ _ _⟩
      case round =>
        obtain ⟨j, hj, rfl, hFj, hTj⟩ := hrel
        have hBr := hBW6.trans (hTj.below (by omega) (by omega) hBW6.size)
        by_cases hlt : j < 0
        · omega
        · obtain rfl : 0 = j := by omega
          have hDr := hD6.other hTj (by omega) (by omega) hdg
          have hDown := Down_any hDr.nor
          rw [HTD.out] at hDown
          have hlen : (splice was k (l7.take 0)).length = 192 := by simpa using hFj.len
          clear hlt hj
          go_wp2_with fail
          refine hDown.mono ?_
          rintro e w7 ⟨rfl, rfl⟩
          go_wp2_with fail
          refine (Crash_any hDr.nor hTok none 0 0 [] hBr.size Sees.nil rfl).mono ?_
          rintro e w8 ⟨rfl, hN8, hT8⟩
          have hD8 := hDr.turn hT8 hN8 (Fl.crash_up _ _).2.2.2
          go_wp2_with fail
          refine (dRead_at hD8 (Fl.crash_up _ _).1 0 192 (by omega)).mono ?_
          rintro e w9 ⟨G9, rfl, hF9, hB9⟩
          rw [HTA.out] at hF9
          have sq := ((hFj.butC hT8 (by omega) (by omega)).sees.step hB9)
          go_wp2_with fail
          refine (SameWords_is (r := true) (by simp) hF9.sees sq hlen hlen (by omega)).mono ?_
          rintro e w10 ⟨rfl, hB10⟩
          go_wp2_with fail
          refine (awake5_any w10).mono ?_
          rintro e w11 ⟨rfl, hB11⟩
          go_wp2_with fail
          go_ret
          have y1 := hBr.trans (hT8.below hp2 hb2 hBr.size)
          have y2 := y1.trans (hB9.mono y1.size)
          have y3 := y2.trans (hB10.mono y2.size)
          exact ⟨rfl, y3.trans (hB11.mono y3.size)⟩
set_option maxHeartbeats 4000000 in
set_option maxRecDepth 100000 in
theorem keeps_t1b (A : Option Addr) (N c : Nat) (o : List Oc) (z : Int) (B : Option Addr) (n q : Nat) (l7 : List UInt32) (t : Nat) (W : World) (hs : Sees W W.heap.size A (ocs o)) (hl : o.length = N) (hok : ∀ x ∈ o, x.Ok W.heap.size W) (k K M : Nat) (hPick : ∀ w, Calls Try.prog 30 #[.int .i64 z, .int .i64 (193 : Int)] w fun e w' => e = .returned (.int .i64 (k : Int)) ∧ w' = w) (hk : k < 193) (hK : k + K = 192)
    (hsM : Sees W W.heap.size B (cw l7)) (HL7 : Hid (l7.length = M)) (hM1 : M ≤ q) (hM2 : k + M ≤ 192) (hm : ¬ n ≤ K ∧ M = K) (ht8 : t < 256) (htm : t ≤ M) (hsets : sets32 ((made5 o).at_ 1 k M) l7 = true) :
    Calls Try.prog 8 #[.slice A N c, .int .i64 z, .slice B n q, .int .u8 (t : Int), .bool true] W fun e w' => e = .returned (.bool true) ∧ Below W.heap.size W w' := by
  have hMade := made5_any A N c o hs hl hok
  clear hs hl hok
  go_enter Try.func8, Try.ntmps8
  go_wp2_with fail
  refine hMade.mono ?_
  rintro e w1 ⟨p, b, d, rfl, hD, hB1⟩
  clear hMade
  go_wp2_with fail
  refine (hPick _).mono ?_
  rintro e w2 ⟨rfl, rfl⟩
  have up := made5_up5' hD
  have hhalf : (made5 o).half = -1 := (Fl.crash_up _ _).2.2.1
  obtain ⟨hp1, hb1, hp2, hb2⟩ := hD.nor.lt
  have hd1 := hD.obj.lt_size
  have hwk : IntKind.i64.wrap ((192 : Int) - (k : Int)) = (K : Int) := by rw [wrapI _ (by omega) (by omega)]; omega
  have hwk' : wrap64 ((192 : Int) - (k : Int)) = (K : Int) := by rw [wrap64I _ (by omega) (by omega)]; omega
  have hcut := fun w => run_cut32 (w := w) B n q M hM1
  obtain ⟨T, D, F, dn, hW, hTn, hTok, hTd, hTat, K3⟩ := keeps_pure up hhalf k M t hM2 l7 HL7.out true true hsets
  have HW := Lib.hid hW
  have HS := Lib.hid hsets
  have HTA := Lib.hid hTat
  have HTD := Lib.hid hTd
  have HTN := Lib.hid hTn
  have HB1 := hB1.size
  clear hW hsets hTat hTd hTn
  have hwas := hD.at_len (at_ := 0) (many := 192) (by omega)
  have hwk2 := hD.at_len (at_ := k) (many := M) (by omega)
  have hrest : ∀ j, j < M → ∀ x, ((made5 o).at_ 1 0 192)[k + j]? = some x → ((made5 o).at_ 1 k M)[j]? = some x := fun j hj x hx => by
    unfold Fl.at_ at hx ⊢
    rw [List.getElem?_take, List.getElem?_drop] at hx ⊢
    rw [if_pos (by omega)] at hx
    rw [if_pos hj, ← hx]
    congr 1
    omega
  obtain ⟨hm, rfl⟩ := hm
  go_wp2_with fail
  refine (dRead_at hD up.down 0 192 (by omega)).mono ?_
  rintro e w3 ⟨G, rfl, hFw, hB2⟩
  have hD3 := hD.below hB2
  have hGb := hFw.block.2
  have hGl := hFw.lt_size
  have hwasL := hwas
  go_wp2_with fail
  refine (CopyWords_any (some ⟨G, 0, none⟩) 192 192 ((made5 o).at_ 1 0 192) w3 hFw.sees hwas (by omega)).mono ?_
  rintro e w4 ⟨Aq, cq, rfl, hFc, hB3⟩
  have hD4 := hD3.below hB3
  obtain ⟨gq, rfl, hgq, hgql⟩ := hFc.spot_ (by omega)
  have sw := (hFw.sees.step hB3)
  have hBW4 : Below W.heap.size W w4 := (hB1.trans (hB2.mono HB1)).trans (hB3.mono (Nat.le_trans HB1 hB2.size))
  have sl := hsM.below hBW4
  have z23 := hB2.size
  have z34 := hB3.size
  clear hB2 hB3 hD hD3 hFw
  have HWS := Lib.hid hwas
  have HWK := Lib.hid hwk2
  clear hwas hwasL hwk2 hcut
  revert sw HWS HWK HS HTA hFc hrest
  generalize (made5 o).at_ 1 0 192 = was
  generalize (made5 o).at_ 1 k _ = wk
  intro HS HTA hrest hFc sw HWS HWK
  go_wp2_with fail
  go_loopw [18, 59] (fun v i wr => ∃ (j : Nat) (bb : Bool), j ≤ M ∧ i = .int .i64 (j : Int) ∧ v = .bool bb ∧ Hid ((bb || sets32 (wk.drop j) (l7.drop j)) = true) ∧ wr = w4) (fun _ i _ => M - (intOf i).toNat)
  case atStart => exact ⟨0, false, Nat.zero_le _, rfl, rfl, Lib.hid (by simpa using HS.out), rfl⟩
  case round =>
    obtain ⟨j, bb, hj, rfl, rfl, hu, rfl⟩ := hrel
    by_cases hlt : j < M
    · obtain ⟨gl, ol, rfl, hgl, x, HX, hx', hcx⟩ := sl.word HL7.out hlt
      obtain ⟨gw, ow, hgw, hgwl, y, HY, hy', hcy⟩ := sw.word HWS.out (show k + j < 192 by omega)
      simp only [Option.some.injEq, Addr.mk.injEq] at hgw
      obtain ⟨rfl, rfl, -⟩ := hgw
      rw [Nat.zero_add] at hcy
      have hy2 := hrest j hlt y HY.out
      have hu2 := hu.out
      rw [drop_at32 hy2, drop_at32 HX.out] at hu2
      simp only [sets32] at hu2
      have hwa := wrapI ((k : Int) + (j : Int)) (by omega) (by omega)
      have hraw := andNot32 x y
      revert hu2 hraw
      generalize nset x y = Nn
      intro hu2 hraw
      clear hy2 hu HS HTA hrest sl sw hFc HW
      cases bb
      · rcases Nn with _ | Nn
        · have HU : Hid ((false || sets32 (wk.drop (j + 1)) (l7.drop (j + 1))) = true) := Lib.hid (by first | (simp; done) | (simp at hu2; done) | (simpa using hu2))
          clear hu2
          go_wp2_with fail
          go_roundw
          case rel => exact ⟨j + 1, false, by omega, by go_num, (by first | rfl | simp), HU, (by first | rfl | trivial)⟩
          case measure => simp [intOf]; omega
        · have HU : Hid ((true || sets32 (wk.drop (j + 1)) (l7.drop (j + 1))) = true) := Lib.hid (by first | (simp; done) | (simp at hu2; done) | (simpa using hu2))
          have h0 : ¬ (((Nn + 1 : Nat) : Int) = 0) := by omega
          clear hu2
          go_wp2_with fail
          go_roundw
          case rel => exact ⟨j + 1, true, by omega, by go_num, (by first | rfl | simp | (simp; omega)), HU, (by first | rfl | trivial)⟩
          case measure => simp [intOf]; omega
      · have HU : Hid ((true || sets32 (wk.drop (j + 1)) (l7.drop (j + 1))) = true) := Lib.hid (by first | (simp; done) | (simp at hu2; done) | (simpa using hu2))
        clear hu2
        go_wp2_with fail
        go_roundw
        case rel => exact ⟨j + 1, true, by omega, by go_num, (by first | rfl | simp), HU, (by first | rfl | trivial)⟩
        case measure => simp [intOf]; omega
    · obtain rfl : M = j := by omega
      obtain rfl : bb = true := by
        have hu2 := hu.out
        rw [List.drop_of_length_le (l := l7) (by rw [HL7.out]; exact Nat.le_refl _)] at hu2
        rw [← hu2]
        cases wk.drop M <;> simp [sets32]
      clear hu hrest sw sl hj hlt
      have HK3 := Lib.hid K3
      clear K3
      have HW2 := Lib.hid (show ((made5 o).arm (t : Int)).dwrite 1 3 (k : Int) l7 = (T, F) from by simpa using HW.out)
      clear HW
      obtain ⟨rfl, rfl, rfl⟩ := HK3.out.set_ rfl
      clear HK3
      go_wp2_with fail
      refine (Arm_any hD4.nor (t : Int) (by omega)).mono ?_
      rintro e w5 ⟨rfl, hN5, hT5⟩
      have hD5 := hD4.turn hT5 hN5 (by unfold Fl.arm; split <;> rfl)
      go_wp2_with fail
      have hBW5 := hBW4.trans (hT5.below hp2 hb2 hBW4.size)
      have hOff5 : Off p b w5 B (cw l7) := Off.of hD5.nor hBW5.size (hsM.below hBW5)
      refine (dWrite_any hD5 (k : Int) (by omega) _ q B l7 hOff5 HL7.out hM1 T _ HW2.out).mono ?_
      rintro e w6 ⟨rfl, hD6, hT6⟩
      have hT46 := hT5.then_ hT6
      have hFc6 := hFc.butC hT46 (by omega) (by omega)
      have hBW6 := hBW4.trans (hT46.below hp2 hb2 hBW4.size)
      have hdg : d ≠ gq := by omega
      clear hD4 hD5 hT5 hT6 hBW5 hOff5 hFc hT46 HW2
      go_wp2_with fail
      go_loopw [23] (fun i wr => ∃ j : Nat, j ≤ 0 ∧ i = .int .i64 (j : Int) ∧ Fresh w3.heap.size 22 wr (some ⟨gq, 0, none⟩) 192 cq (cw (splice was k (l7.take j))) ∧ But gq gq w6 wr) (fun i _ => 0 - (intOf i).toNat)
      case atStart => exact ⟨0, Nat.zero_le _, rfl, by simpa [splice] using hFc6, But.refl _ _ _⟩
      case round =>
        obtain ⟨j, hj, rfl, hFj, hTj⟩ := hrel
        have hBr := hBW6.trans (hTj.below (by omega) (by omega) hBW6.size)
        by_cases hlt : j < 0
        · omega
        · obtain rfl : 0 = j := by omega
          have hDr := hD6.other hTj (by omega) (by omega) hdg
          have hDown := Down_any hDr.nor
          rw [HTD.out] at hDown
          have hlen : (splice was k (l7.take 0)).length = 192 := by simpa using hFj.len
          clear hlt hj
          go_wp2_with fail
          refine hDown.mono ?_
          rintro e w7 ⟨rfl, rfl⟩
          go_wp2_with fail
          refine (Crash_any hDr.nor hTok none 0 0 [] hBr.size Sees.nil rfl).mono ?_
          rintro e w8 ⟨rfl, hN8, hT8⟩
          have hD8 := hDr.turn hT8 hN8 (Fl.crash_up _ _).2.2.2
          go_wp2_with fail
          refine (dRead_at hD8 (Fl.crash_up _ _).1 0 192 (by omega)).mono ?_
          rintro e w9 ⟨G9, rfl, hF9, hB9⟩
          rw [HTA.out] at hF9
          have sq := ((hFj.butC hT8 (by omega) (by omega)).sees.step hB9)
          go_wp2_with fail
          refine (SameWords_is (r := true) (by simp) hF9.sees sq hlen hlen (by omega)).mono ?_
          rintro e w10 ⟨rfl, hB10⟩
          go_wp2_with fail
          refine (awake5_any w10).mono ?_
          rintro e w11 ⟨rfl, hB11⟩
          go_wp2_with fail
          go_ret
          have y1 := hBr.trans (hT8.below hp2 hb2 hBr.size)
          have y2 := y1.trans (hB9.mono y1.size)
          have y3 := y2.trans (hB10.mono y2.size)
          exact ⟨rfl, y3.trans (hB11.mono y3.size)⟩
set_option maxHeartbeats 4000000 in
set_option maxRecDepth 100000 in
theorem keeps_t2a (A : Option Addr) (N c : Nat) (o : List Oc) (z : Int) (B : Option Addr) (n q : Nat) (l7 : List UInt32) (t : Nat) (W : World) (hs : Sees W W.heap.size A (ocs o)) (hl : o.length = N) (hok : ∀ x ∈ o, x.Ok W.heap.size W) (k K M : Nat) (hPick : ∀ w, Calls Try.prog 30 #[.int .i64 z, .int .i64 (193 : Int)] w fun e w' => e = .returned (.int .i64 (k : Int)) ∧ w' = w) (hk : k < 193) (hK : k + K = 192)
    (hsM : Sees W W.heap.size B (cw l7)) (HL7 : Hid (l7.length = M)) (hM1 : M ≤ q) (hM2 : k + M ≤ 192) (hm : n ≤ K ∧ M = n) (ht8 : t < 256) (htm : t = M) (hsets : sets32 ((made5 o).at_ 1 k M) l7 = false) :
    Calls Try.prog 8 #[.slice A N c, .int .i64 z, .slice B n q, .int .u8 (t : Int), .bool true] W fun e w' => e = .returned (.bool true) ∧ Below W.heap.size W w' := by
  obtain rfl := htm
  have hMade := made5_any A N c o hs hl hok
  clear hs hl hok
  go_enter Try.func8, Try.ntmps8
  go_wp2_with fail
  refine hMade.mono ?_
  rintro e w1 ⟨p, b, d, rfl, hD, hB1⟩
  clear hMade
  go_wp2_with fail
  refine (hPick _).mono ?_
  rintro e w2 ⟨rfl, rfl⟩
  have up := made5_up5' hD
  have hhalf : (made5 o).half = -1 := (Fl.crash_up _ _).2.2.1
  obtain ⟨hp1, hb1, hp2, hb2⟩ := hD.nor.lt
  have hd1 := hD.obj.lt_size
  have hwk : IntKind.i64.wrap ((192 : Int) - (k : Int)) = (K : Int) := by rw [wrapI _ (by omega) (by omega)]; omega
  have hwk' : wrap64 ((192 : Int) - (k : Int)) = (K : Int) := by rw [wrap64I _ (by omega) (by omega)]; omega
  have hcut := fun w => run_cut32 (w := w) B n q t hM1
  obtain ⟨T, D, F, dn, hW, hTn, hTok, hTd, hTat, K3⟩ := keeps_pure up hhalf k t t hM2 l7 HL7.out true false hsets
  have HW := Lib.hid hW
  have HS := Lib.hid hsets
  have HTA := Lib.hid hTat
  have HTD := Lib.hid hTd
  have HTN := Lib.hid hTn
  have HB1 := hB1.size
  clear hW hsets hTat hTd hTn
  have hwas := hD.at_len (at_ := 0) (many := 192) (by omega)
  have hwk2 := hD.at_len (at_ := k) (many := t) (by omega)
  have hrest : ∀ j, j < t → ∀ x, ((made5 o).at_ 1 0 192)[k + j]? = some x → ((made5 o).at_ 1 k t)[j]? = some x := fun j hj x hx => by
    unfold Fl.at_ at hx ⊢
    rw [List.getElem?_take, List.getElem?_drop] at hx ⊢
    rw [if_pos (by omega)] at hx
    rw [if_pos hj, ← hx]
    congr 1
    omega
  obtain ⟨hm, rfl⟩ := hm
  go_wp2_with fail
  refine (dRead_at hD up.down 0 192 (by omega)).mono ?_
  rintro e w3 ⟨G, rfl, hFw, hB2⟩
  have hD3 := hD.below hB2
  have hGb := hFw.block.2
  have hGl := hFw.lt_size
  have hwasL := hwas
  go_wp2_with fail
  refine (CopyWords_any (some ⟨G, 0, none⟩) 192 192 ((made5 o).at_ 1 0 192) w3 hFw.sees hwas (by omega)).mono ?_
  rintro e w4 ⟨Aq, cq, rfl, hFc, hB3⟩
  have hD4 := hD3.below hB3
  obtain ⟨gq, rfl, hgq, hgql⟩ := hFc.spot_ (by omega)
  have sw := (hFw.sees.step hB3)
  have hBW4 : Below W.heap.size W w4 := (hB1.trans (hB2.mono HB1)).trans (hB3.mono (Nat.le_trans HB1 hB2.size))
  have sl := hsM.below hBW4
  have z23 := hB2.size
  have z34 := hB3.size
  clear hB2 hB3 hD hD3 hFw
  have HWS := Lib.hid hwas
  have HWK := Lib.hid hwk2
  clear hwas hwasL hwk2 hcut
  revert sw HWS HWK HS HTA hFc hrest
  generalize (made5 o).at_ 1 0 192 = was
  generalize (made5 o).at_ 1 k _ = wk
  intro HS HTA hrest hFc sw HWS HWK
  go_wp2_with fail
  go_loopw [18, 59] (fun v i wr => ∃ (j : Nat) (bb : Bool), j ≤ t ∧ i = .int .i64 (j : Int) ∧ v = .bool bb ∧ Hid ((bb || sets32 (wk.drop j) (l7.drop j)) = false) ∧ wr = w4) (fun _ i _ => t - (intOf i).toNat)
  case atStart => exact ⟨0, false, Nat.zero_le _, rfl, rfl, Lib.hid (by simpa using HS.out), rfl⟩
  case round =>
    obtain ⟨j, bb, hj, rfl, rfl, hu, rfl⟩ := hrel
    by_cases hlt : j < t
    · obtain ⟨gl, ol, rfl, hgl, x, HX, hx', hcx⟩ := sl.word HL7.out hlt
      obtain ⟨gw, ow, hgw, hgwl, y, HY, hy', hcy⟩ := sw.word HWS.out (show k + j < 192 by omega)
      simp only [Option.some.injEq, Addr.mk.injEq] at hgw
      obtain ⟨rfl, rfl, -⟩ := hgw
      rw [Nat.zero_add] at hcy
      have hy2 := hrest j hlt y HY.out
      have hu2 := hu.out
      rw [drop_at32 hy2, drop_at32 HX.out] at hu2
      simp only [sets32] at hu2
      have hwa := wrapI ((k : Int) + (j : Int)) (by omega) (by omega)
      have hraw := andNot32 x y
      revert hu2 hraw
      generalize nset x y = Nn
      intro hu2 hraw
      clear hy2 hu HS HTA hrest sl sw hFc HW
      cases bb
      · rcases Nn with _ | Nn
        · have HU : Hid ((false || sets32 (wk.drop (j + 1)) (l7.drop (j + 1))) = false) := Lib.hid (by first | (simp; done) | (simp at hu2; done) | (simpa using hu2))
          clear hu2
          go_wp2_with fail
          go_roundw
          case rel => exact ⟨j + 1, false, by omega, by go_num, (by first | rfl | simp), HU, (by first | rfl | trivial)⟩
          case measure => simp [intOf]; omega
        · have HU : Hid ((true || sets32 (wk.drop (j + 1)) (l7.drop (j + 1))) = false) := Lib.hid (by first | (simp; done) | (simp at hu2; done) | (simpa using hu2))
          have h0 : ¬ (((Nn + 1 : Nat) : Int) = 0) := by omega
          clear hu2
          go_wp2_with fail
          go_roundw
          case rel => exact ⟨j + 1, true, by omega, by go_num, (by first | rfl | simp | (simp; omega)), HU, (by first | rfl | trivial)⟩
          case measure => simp [intOf]; omega
      · have HU : Hid ((true || sets32 (wk.drop (j + 1)) (l7.drop (j + 1))) = false) := Lib.hid (by first | (simp; done) | (simp at hu2; done) | (simpa using hu2))
        clear hu2
        go_wp2_with fail
        go_roundw
        case rel => exact ⟨j + 1, true, by omega, by go_num, (by first | rfl | simp), HU, (by first | rfl | trivial)⟩
        case measure => simp [intOf]; omega
    · obtain rfl : t = j := by omega
      obtain rfl : bb = false := by
        have hu2 := hu.out
        rw [List.drop_of_length_le (l := l7) (by rw [HL7.out]; exact Nat.le_refl _)] at hu2
        rw [← hu2]
        cases wk.drop t <;> simp [sets32]
      clear hu hrest sw sl hj hlt
      have HK3 := Lib.hid K3
      clear K3
      have HW2 := Lib.hid (show ((made5 o).arm (t : Int)).dwrite 1 3 (k : Int) l7 = (T, F) from by simpa using HW.out)
      clear HW
      obtain ⟨hDM, _, h0⟩ := HK3.out.no rfl
      obtain rfl : t = D := by simp at hDM; omega
      obtain ⟨rfl, rfl⟩ := h0 rfl
      clear hDM h0 HK3
      go_wp2_with fail
      refine (Arm_any hD4.nor (t : Int) (by omega)).mono ?_
      rintro e w5 ⟨rfl, hN5, hT5⟩
      have hD5 := hD4.turn hT5 hN5 (by unfold Fl.arm; split <;> rfl)
      go_wp2_with fail
      have hBW5 := hBW4.trans (hT5.below hp2 hb2 hBW4.size)
      have hOff5 : Off p b w5 B (cw l7) := Off.of hD5.nor hBW5.size (hsM.below hBW5)
      refine (dWrite_any hD5 (k : Int) (by omega) _ q B l7 hOff5 HL7.out hM1 T _ HW2.out).mono ?_
      rintro e w6 ⟨rfl, hD6, hT6⟩
      have hT46 := hT5.then_ hT6
      have hFc6 := hFc.butC hT46 (by omega) (by omega)
      have hBW6 := hBW4.trans (hT46.below hp2 hb2 hBW4.size)
      have hdg : d ≠ gq := by omega
      clear hD4 hD5 hT5 hT6 hBW5 hOff5 hFc hT46 HW2
      go_wp2_with fail
      go_loopw [23] (fun i wr => ∃ j : Nat, j ≤ t ∧ i = .int .i64 (j : Int) ∧ Fresh w3.heap.size 22 wr (some ⟨gq, 0, none⟩) 192 cq (cw (splice was k (l7.take j))) ∧ But gq gq w6 wr) (fun i _ => t - (intOf i).toNat)
      case atStart => exact ⟨0, Nat.zero_le _, rfl, by simpa [splice] using hFc6, But.refl _ _ _⟩
      case round =>
        obtain ⟨j, hj, rfl, hFj, hTj⟩ := hrel
        have hBr := hBW6.trans (hTj.below (by omega) (by omega) hBW6.size)
        by_cases hlt : j < t
        · obtain ⟨gl, ol, rfl, hgl, x, HX, hx', hcx⟩ := Sees.word (k := j) (hsM.below hBr) HL7.out (by omega)
          obtain ⟨old, hold⟩ : ∃ old, wr.cell? ⟨gq, k + j, none⟩ = some old := by
            rw [World.ownsRow.cellAt hFj (k + j) (by omega)]
            exact ⟨_, List.getElem?_eq_getElem (by have := hFj.len; omega)⟩
          have hzf := World.ownsRow.frozenAt hFj (k + j)
          skip
          have hwa := wrapI ((k : Int) + (j : Int)) (by omega) (by omega)
          go_wp2_with fail
          go_roundw
          case rel =>
            have hF2 := (World.ownsRow.stored hFj (k + j) (.int .u32 (x.toNat : Int))).1
            have hj2 : j < l7.length := by rw [HL7.out]; omega
            have hv2 : l7[j] = x := by
              have := HX.out
              rw [List.getElem?_eq_getElem hj2] at this
              simpa using this
            have e1 : (cw (splice was k (l7.take j))).set (k + j) (.int .u32 (x.toNat : Int)) = cw (splice was k (l7.take (j + 1))) := by
              rw [← splice_step was l7 k j hj2 (by rw [HWS.out, HL7.out]; omega), hv2]
              simp [cw, List.map_set]
            rw [e1] at hF2
            exact ⟨j + 1, by omega, by go_num, hF2, hTj.then_ (But.set _ _ _ _ _ (.inl rfl))⟩
          case measure => simp [intOf]; omega
        · obtain rfl : t = j := by omega
          have hDr := hD6.other hTj (by omega) (by omega) hdg
          have hDown := Down_any hDr.nor
          rw [HTD.out] at hDown
          have hlen : (splice was k (l7.take t)).length = 192 := by simpa using hFj.len
          clear hlt hj
          go_wp2_with fail
          refine hDown.mono ?_
          rintro e w7 ⟨rfl, rfl⟩
          go_wp2_with fail
          refine (Crash_any hDr.nor hTok none 0 0 [] hBr.size Sees.nil rfl).mono ?_
          rintro e w8 ⟨rfl, hN8, hT8⟩
          have hD8 := hDr.turn hT8 hN8 (Fl.crash_up _ _).2.2.2
          go_wp2_with fail
          refine (dRead_at hD8 (Fl.crash_up _ _).1 0 192 (by omega)).mono ?_
          rintro e w9 ⟨G9, rfl, hF9, hB9⟩
          rw [HTA.out] at hF9
          have sq := ((hFj.butC hT8 (by omega) (by omega)).sees.step hB9)
          go_wp2_with fail
          refine (SameWords_is (r := true) (by simp) hF9.sees sq hlen hlen (by omega)).mono ?_
          rintro e w10 ⟨rfl, hB10⟩
          go_wp2_with fail
          refine (awake5_any w10).mono ?_
          rintro e w11 ⟨rfl, hB11⟩
          go_wp2_with fail
          go_ret
          have y1 := hBr.trans (hT8.below hp2 hb2 hBr.size)
          have y2 := y1.trans (hB9.mono y1.size)
          have y3 := y2.trans (hB10.mono y2.size)
          exact ⟨rfl, y3.trans (hB11.mono y3.size)⟩
set_option maxHeartbeats 4000000 in
set_option maxRecDepth 100000 in
theorem keeps_t2b (A : Option Addr) (N c : Nat) (o : List Oc) (z : Int) (B : Option Addr) (n q : Nat) (l7 : List UInt32) (t : Nat) (W : World) (hs : Sees W W.heap.size A (ocs o)) (hl : o.length = N) (hok : ∀ x ∈ o, x.Ok W.heap.size W) (k K M : Nat) (hPick : ∀ w, Calls Try.prog 30 #[.int .i64 z, .int .i64 (193 : Int)] w fun e w' => e = .returned (.int .i64 (k : Int)) ∧ w' = w) (hk : k < 193) (hK : k + K = 192)
    (hsM : Sees W W.heap.size B (cw l7)) (HL7 : Hid (l7.length = M)) (hM1 : M ≤ q) (hM2 : k + M ≤ 192) (hm : ¬ n ≤ K ∧ M = K) (ht8 : t < 256) (htm : t = M) (hsets : sets32 ((made5 o).at_ 1 k M) l7 = false) :
    Calls Try.prog 8 #[.slice A N c, .int .i64 z, .slice B n q, .int .u8 (t : Int), .bool true] W fun e w' => e = .returned (.bool true) ∧ Below W.heap.size W w' := by
  obtain rfl := htm
  have hMade := made5_any A N c o hs hl hok
  clear hs hl hok
  go_enter Try.func8, Try.ntmps8
  go_wp2_with fail
  refine hMade.mono ?_
  rintro e w1 ⟨p, b, d, rfl, hD, hB1⟩
  clear hMade
  go_wp2_with fail
  refine (hPick _).mono ?_
  rintro e w2 ⟨rfl, rfl⟩
  have up := made5_up5' hD
  have hhalf : (made5 o).half = -1 := (Fl.crash_up _ _).2.2.1
  obtain ⟨hp1, hb1, hp2, hb2⟩ := hD.nor.lt
  have hd1 := hD.obj.lt_size
  have hwk : IntKind.i64.wrap ((192 : Int) - (k : Int)) = (K : Int) := by rw [wrapI _ (by omega) (by omega)]; omega
  have hwk' : wrap64 ((192 : Int) - (k : Int)) = (K : Int) := by rw [wrap64I _ (by omega) (by omega)]; omega
  have hcut := fun w => run_cut32 (w := w) B n q t hM1
  obtain ⟨T, D, F, dn, hW, hTn, hTok, hTd, hTat, K3⟩ := keeps_pure up hhalf k t t hM2 l7 HL7.out true false hsets
  have HW := Lib.hid hW
  have HS := Lib.hid hsets
  have HTA := Lib.hid hTat
  have HTD := Lib.hid hTd
  have HTN := Lib.hid hTn
  have HB1 := hB1.size
  clear hW hsets hTat hTd hTn
  have hwas := hD.at_len (at_ := 0) (many := 192) (by omega)
  have hwk2 := hD.at_len (at_ := k) (many := t) (by omega)
  have hrest : ∀ j, j < t → ∀ x, ((made5 o).at_ 1 0 192)[k + j]? = some x → ((made5 o).at_ 1 k t)[j]? = some x := fun j hj x hx => by
    unfold Fl.at_ at hx ⊢
    rw [List.getElem?_take, List.getElem?_drop] at hx ⊢
    rw [if_pos (by omega)] at hx
    rw [if_pos hj, ← hx]
    congr 1
    omega
  obtain ⟨hm, rfl⟩ := hm
  go_wp2_with fail
  refine (dRead_at hD up.down 0 192 (by omega)).mono ?_
  rintro e w3 ⟨G, rfl, hFw, hB2⟩
  have hD3 := hD.below hB2
  have hGb := hFw.block.2
  have hGl := hFw.lt_size
  have hwasL := hwas
  go_wp2_with fail
  refine (CopyWords_any (some ⟨G, 0, none⟩) 192 192 ((made5 o).at_ 1 0 192) w3 hFw.sees hwas (by omega)).mono ?_
  rintro e w4 ⟨Aq, cq, rfl, hFc, hB3⟩
  have hD4 := hD3.below hB3
  obtain ⟨gq, rfl, hgq, hgql⟩ := hFc.spot_ (by omega)
  have sw := (hFw.sees.step hB3)
  have hBW4 : Below W.heap.size W w4 := (hB1.trans (hB2.mono HB1)).trans (hB3.mono (Nat.le_trans HB1 hB2.size))
  have sl := hsM.below hBW4
  have z23 := hB2.size
  have z34 := hB3.size
  clear hB2 hB3 hD hD3 hFw
  have HWS := Lib.hid hwas
  have HWK := Lib.hid hwk2
  clear hwas hwasL hwk2 hcut
  revert sw HWS HWK HS HTA hFc hrest
  generalize (made5 o).at_ 1 0 192 = was
  generalize (made5 o).at_ 1 k _ = wk
  intro HS HTA hrest hFc sw HWS HWK
  go_wp2_with fail
  go_loopw [18, 59] (fun v i wr => ∃ (j : Nat) (bb : Bool), j ≤ t ∧ i = .int .i64 (j : Int) ∧ v = .bool bb ∧ Hid ((bb || sets32 (wk.drop j) (l7.drop j)) = false) ∧ wr = w4) (fun _ i _ => t - (intOf i).toNat)
  case atStart => exact ⟨0, false, Nat.zero_le _, rfl, rfl, Lib.hid (by simpa using HS.out), rfl⟩
  case round =>
    obtain ⟨j, bb, hj, rfl, rfl, hu, rfl⟩ := hrel
    by_cases hlt : j < t
    · obtain ⟨gl, ol, rfl, hgl, x, HX, hx', hcx⟩ := sl.word HL7.out hlt
      obtain ⟨gw, ow, hgw, hgwl, y, HY, hy', hcy⟩ := sw.word HWS.out (show k + j < 192 by omega)
      simp only [Option.some.injEq, Addr.mk.injEq] at hgw
      obtain ⟨rfl, rfl, -⟩ := hgw
      rw [Nat.zero_add] at hcy
      have hy2 := hrest j hlt y HY.out
      have hu2 := hu.out
      rw [drop_at32 hy2, drop_at32 HX.out] at hu2
      simp only [sets32] at hu2
      have hwa := wrapI ((k : Int) + (j : Int)) (by omega) (by omega)
      have hraw := andNot32 x y
      revert hu2 hraw
      generalize nset x y = Nn
      intro hu2 hraw
      clear hy2 hu HS HTA hrest sl sw hFc HW
      cases bb
      · rcases Nn with _ | Nn
        · have HU : Hid ((false || sets32 (wk.drop (j + 1)) (l7.drop (j + 1))) = false) := Lib.hid (by first | (simp; done) | (simp at hu2; done) | (simpa using hu2))
          clear hu2
          go_wp2_with fail
          go_roundw
          case rel => exact ⟨j + 1, false, by omega, by go_num, (by first | rfl | simp), HU, (by first | rfl | trivial)⟩
          case measure => simp [intOf]; omega
        · have HU : Hid ((true || sets32 (wk.drop (j + 1)) (l7.drop (j + 1))) = false) := Lib.hid (by first | (simp; done) | (simp at hu2; done) | (simpa using hu2))
          have h0 : ¬ (((Nn + 1 : Nat) : Int) = 0) := by omega
          clear hu2
          go_wp2_with fail
          go_roundw
          case rel => exact ⟨j + 1, true, by omega, by go_num, (by first | rfl | simp | (simp; omega)), HU, (by first | rfl | trivial)⟩
          case measure => simp [intOf]; omega
      · have HU : Hid ((true || sets32 (wk.drop (j + 1)) (l7.drop (j + 1))) = false) := Lib.hid (by first | (simp; done) | (simp at hu2; done) | (simpa using hu2))
        clear hu2
        go_wp2_with fail
        go_roundw
        case rel => exact ⟨j + 1, true, by omega, by go_num, (by first | rfl | simp), HU, (by first | rfl | trivial)⟩
        case measure => simp [intOf]; omega
    · obtain rfl : t = j := by omega
      obtain rfl : bb = false := by
        have hu2 := hu.out
        rw [List.drop_of_length_le (l := l7) (by rw [HL7.out]; exact Nat.le_refl _)] at hu2
        rw [← hu2]
        cases wk.drop t <;> simp [sets32]
      clear hu hrest sw sl hj hlt
      have HK3 := Lib.hid K3
      clear K3
      have HW2 := Lib.hid (show ((made5 o).arm (t : Int)).dwrite 1 3 (k : Int) l7 = (T, F) from by simpa using HW.out)
      clear HW
      obtain ⟨hDM, _, h0⟩ := HK3.out.no rfl
      obtain rfl : t = D := by simp at hDM; omega
      obtain ⟨rfl, rfl⟩ := h0 rfl
      clear hDM h0 HK3
      go_wp2_with fail
      refine (Arm_any hD4.nor (t : Int) (by omega)).mono ?_
      rintro e w5 ⟨rfl, hN5, hT5⟩
      have hD5 := hD4.turn hT5 hN5 (by unfold Fl.arm; split <;> rfl)
      go_wp2_with fail
      have hBW5 := hBW4.trans (hT5.below hp2 hb2 hBW4.size)
      have hOff5 : Off p b w5 B (cw l7) := Off.of hD5.nor hBW5.size (hsM.below hBW5)
      refine (dWrite_any hD5 (k : Int) (by omega) _ q B l7 hOff5 HL7.out hM1 T _ HW2.out).mono ?_
      rintro e w6 ⟨rfl, hD6, hT6⟩
      have hT46 := hT5.then_ hT6
      have hFc6 := hFc.butC hT46 (by omega) (by omega)
      have hBW6 := hBW4.trans (hT46.below hp2 hb2 hBW4.size)
      have hdg : d ≠ gq := by omega
      clear hD4 hD5 hT5 hT6 hBW5 hOff5 hFc hT46 HW2
      go_wp2_with fail
      go_loopw [23] (fun i wr => ∃ j : Nat, j ≤ t ∧ i = .int .i64 (j : Int) ∧ Fresh w3.heap.size 22 wr (some ⟨gq, 0, none⟩) 192 cq (cw (splice was k (l7.take j))) ∧ But gq gq w6 wr) (fun i _ => t - (intOf i).toNat)
      case atStart => exact ⟨0, Nat.zero_le _, rfl, by simpa [splice] using hFc6, But.refl _ _ _⟩
      case round =>
        obtain ⟨j, hj, rfl, hFj, hTj⟩ := hrel
        have hBr := hBW6.trans (hTj.below (by omega) (by omega) hBW6.size)
        by_cases hlt : j < t
        · obtain ⟨gl, ol, rfl, hgl, x, HX, hx', hcx⟩ := Sees.word (k := j) (hsM.below hBr) HL7.out (by omega)
          obtain ⟨old, hold⟩ : ∃ old, wr.cell? ⟨gq, k + j, none⟩ = some old := by
            rw [World.ownsRow.cellAt hFj (k + j) (by omega)]
            exact ⟨_, List.getElem?_eq_getElem (by have := hFj.len; omega)⟩
          have hzf := World.ownsRow.frozenAt hFj (k + j)
          skip
          have hwa := wrapI ((k : Int) + (j : Int)) (by omega) (by omega)
          go_wp2_with fail
          go_roundw
          case rel =>
            have hF2 := (World.ownsRow.stored hFj (k + j) (.int .u32 (x.toNat : Int))).1
            have hj2 : j < l7.length := by rw [HL7.out]; omega
            have hv2 : l7[j] = x := by
              have := HX.out
              rw [List.getElem?_eq_getElem hj2] at this
              simpa using this
            have e1 : (cw (splice was k (l7.take j))).set (k + j) (.int .u32 (x.toNat : Int)) = cw (splice was k (l7.take (j + 1))) := by
              rw [← splice_step was l7 k j hj2 (by rw [HWS.out, HL7.out]; omega), hv2]
              simp [cw, List.map_set]
            rw [e1] at hF2
            exact ⟨j + 1, by omega, by go_num, hF2, hTj.then_ (But.set _ _ _ _ _ (.inl rfl))⟩
          case measure => simp [intOf]; omega
        · obtain rfl : t = j := by omega
          have hDr := hD6.other hTj (by omega) (by omega) hdg
          have hDown := Down_any hDr.nor
          rw [HTD.out] at hDown
          have hlen : (splice was k (l7.take t)).length = 192 := by simpa using hFj.len
          clear hlt hj
          go_wp2_with fail
          refine hDown.mono ?_
          rintro e w7 ⟨rfl, rfl⟩
          go_wp2_with fail
          refine (Crash_any hDr.nor hTok none 0 0 [] hBr.size Sees.nil rfl).mono ?_
          rintro e w8 ⟨rfl, hN8, hT8⟩
          have hD8 := hDr.turn hT8 hN8 (Fl.crash_up _ _).2.2.2
          go_wp2_with fail
          refine (dRead_at hD8 (Fl.crash_up _ _).1 0 192 (by omega)).mono ?_
          rintro e w9 ⟨G9, rfl, hF9, hB9⟩
          rw [HTA.out] at hF9
          have sq := ((hFj.butC hT8 (by omega) (by omega)).sees.step hB9)
          go_wp2_with fail
          refine (SameWords_is (r := true) (by simp) hF9.sees sq hlen hlen (by omega)).mono ?_
          rintro e w10 ⟨rfl, hB10⟩
          go_wp2_with fail
          refine (awake5_any w10).mono ?_
          rintro e w11 ⟨rfl, hB11⟩
          go_wp2_with fail
          go_ret
          have y1 := hBr.trans (hT8.below hp2 hb2 hBr.size)
          have y2 := y1.trans (hB9.mono y1.size)
          have y3 := y2.trans (hB10.mono y2.size)
          exact ⟨rfl, y3.trans (hB11.mono y3.size)⟩
set_option maxHeartbeats 4000000 in
set_option maxRecDepth 100000 in
theorem keeps_t3a (A : Option Addr) (N c : Nat) (o : List Oc) (z : Int) (B : Option Addr) (n q : Nat) (l7 : List UInt32) (t : Nat) (W : World) (hs : Sees W W.heap.size A (ocs o)) (hl : o.length = N) (hok : ∀ x ∈ o, x.Ok W.heap.size W) (k K M : Nat) (hPick : ∀ w, Calls Try.prog 30 #[.int .i64 z, .int .i64 (193 : Int)] w fun e w' => e = .returned (.int .i64 (k : Int)) ∧ w' = w) (hk : k < 193) (hK : k + K = 192)
    (hsM : Sees W W.heap.size B (cw l7)) (HL7 : Hid (l7.length = M)) (hM1 : M ≤ q) (hM2 : k + M ≤ 192) (hm : n ≤ K ∧ M = n) (ht8 : t < 256) (htm : M < t) (hsets : sets32 ((made5 o).at_ 1 k M) l7 = false) :
    Calls Try.prog 8 #[.slice A N c, .int .i64 z, .slice B n q, .int .u8 (t : Int), .bool true] W fun e w' => e = .returned (.bool true) ∧ Below W.heap.size W w' := by
  have hMade := made5_any A N c o hs hl hok
  clear hs hl hok
  go_enter Try.func8, Try.ntmps8
  go_wp2_with fail
  refine hMade.mono ?_
  rintro e w1 ⟨p, b, d, rfl, hD, hB1⟩
  clear hMade
  go_wp2_with fail
  refine (hPick _).mono ?_
  rintro e w2 ⟨rfl, rfl⟩
  have up := made5_up5' hD
  have hhalf : (made5 o).half = -1 := (Fl.crash_up _ _).2.2.1
  obtain ⟨hp1, hb1, hp2, hb2⟩ := hD.nor.lt
  have hd1 := hD.obj.lt_size
  have hwk : IntKind.i64.wrap ((192 : Int) - (k : Int)) = (K : Int) := by rw [wrapI _ (by omega) (by omega)]; omega
  have hwk' : wrap64 ((192 : Int) - (k : Int)) = (K : Int) := by rw [wrap64I _ (by omega) (by omega)]; omega
  have hcut := fun w => run_cut32 (w := w) B n q M hM1
  obtain ⟨T, D, F, dn, hW, hTn, hTok, hTd, hTat, K3⟩ := keeps_pure up hhalf k M t hM2 l7 HL7.out true false hsets
  have HW := Lib.hid hW
  have HS := Lib.hid hsets
  have HTA := Lib.hid hTat
  have HTD := Lib.hid hTd
  have HTN := Lib.hid hTn
  have HB1 := hB1.size
  clear hW hsets hTat hTd hTn
  have hwas := hD.at_len (at_ := 0) (many := 192) (by omega)
  have hwk2 := hD.at_len (at_ := k) (many := M) (by omega)
  have hrest : ∀ j, j < M → ∀ x, ((made5 o).at_ 1 0 192)[k + j]? = some x → ((made5 o).at_ 1 k M)[j]? = some x := fun j hj x hx => by
    unfold Fl.at_ at hx ⊢
    rw [List.getElem?_take, List.getElem?_drop] at hx ⊢
    rw [if_pos (by omega)] at hx
    rw [if_pos hj, ← hx]
    congr 1
    omega
  obtain ⟨hm, rfl⟩ := hm
  go_wp2_with fail
  refine (dRead_at hD up.down 0 192 (by omega)).mono ?_
  rintro e w3 ⟨G, rfl, hFw, hB2⟩
  have hD3 := hD.below hB2
  have hGb := hFw.block.2
  have hGl := hFw.lt_size
  have hwasL := hwas
  go_wp2_with fail
  refine (CopyWords_any (some ⟨G, 0, none⟩) 192 192 ((made5 o).at_ 1 0 192) w3 hFw.sees hwas (by omega)).mono ?_
  rintro e w4 ⟨Aq, cq, rfl, hFc, hB3⟩
  have hD4 := hD3.below hB3
  obtain ⟨gq, rfl, hgq, hgql⟩ := hFc.spot_ (by omega)
  have sw := (hFw.sees.step hB3)
  have hBW4 : Below W.heap.size W w4 := (hB1.trans (hB2.mono HB1)).trans (hB3.mono (Nat.le_trans HB1 hB2.size))
  have sl := hsM.below hBW4
  have z23 := hB2.size
  have z34 := hB3.size
  clear hB2 hB3 hD hD3 hFw
  have HWS := Lib.hid hwas
  have HWK := Lib.hid hwk2
  clear hwas hwasL hwk2 hcut
  revert sw HWS HWK HS HTA hFc hrest
  generalize (made5 o).at_ 1 0 192 = was
  generalize (made5 o).at_ 1 k _ = wk
  intro HS HTA hrest hFc sw HWS HWK
  go_wp2_with fail
  go_loopw [18, 59] (fun v i wr => ∃ (j : Nat) (bb : Bool), j ≤ M ∧ i = .int .i64 (j : Int) ∧ v = .bool bb ∧ Hid ((bb || sets32 (wk.drop j) (l7.drop j)) = false) ∧ wr = w4) (fun _ i _ => M - (intOf i).toNat)
  case atStart => exact ⟨0, false, Nat.zero_le _, rfl, rfl, Lib.hid (by simpa using HS.out), rfl⟩
  case round =>
    obtain ⟨j, bb, hj, rfl, rfl, hu, rfl⟩ := hrel
    by_cases hlt : j < M
    · obtain ⟨gl, ol, rfl, hgl, x, HX, hx', hcx⟩ := sl.word HL7.out hlt
      obtain ⟨gw, ow, hgw, hgwl, y, HY, hy', hcy⟩ := sw.word HWS.out (show k + j < 192 by omega)
      simp only [Option.some.injEq, Addr.mk.injEq] at hgw
      obtain ⟨rfl, rfl, -⟩ := hgw
      rw [Nat.zero_add] at hcy
      have hy2 := hrest j hlt y HY.out
      have hu2 := hu.out
      rw [drop_at32 hy2, drop_at32 HX.out] at hu2
      simp only [sets32] at hu2
      have hwa := wrapI ((k : Int) + (j : Int)) (by omega) (by omega)
      have hraw := andNot32 x y
      revert hu2 hraw
      generalize nset x y = Nn
      intro hu2 hraw
      clear hy2 hu HS HTA hrest sl sw hFc HW
      cases bb
      · rcases Nn with _ | Nn
        · have HU : Hid ((false || sets32 (wk.drop (j + 1)) (l7.drop (j + 1))) = false) := Lib.hid (by first | (simp; done) | (simp at hu2; done) | (simpa using hu2))
          clear hu2
          go_wp2_with fail
          go_roundw
          case rel => exact ⟨j + 1, false, by omega, by go_num, (by first | rfl | simp), HU, (by first | rfl | trivial)⟩
          case measure => simp [intOf]; omega
        · have HU : Hid ((true || sets32 (wk.drop (j + 1)) (l7.drop (j + 1))) = false) := Lib.hid (by first | (simp; done) | (simp at hu2; done) | (simpa using hu2))
          have h0 : ¬ (((Nn + 1 : Nat) : Int) = 0) := by omega
          clear hu2
          go_wp2_with fail
          go_roundw
          case rel => exact ⟨j + 1, true, by omega, by go_num, (by first | rfl | simp | (simp; omega)), HU, (by first | rfl | trivial)⟩
          case measure => simp [intOf]; omega
      · have HU : Hid ((true || sets32 (wk.drop (j + 1)) (l7.drop (j + 1))) = false) := Lib.hid (by first | (simp; done) | (simp at hu2; done) | (simpa using hu2))
        clear hu2
        go_wp2_with fail
        go_roundw
        case rel => exact ⟨j + 1, true, by omega, by go_num, (by first | rfl | simp), HU, (by first | rfl | trivial)⟩
        case measure => simp [intOf]; omega
    · obtain rfl : M = j := by omega
      obtain rfl : bb = false := by
        have hu2 := hu.out
        rw [List.drop_of_length_le (l := l7) (by rw [HL7.out]; exact Nat.le_refl _)] at hu2
        rw [← hu2]
        cases wk.drop M <;> simp [sets32]
      clear hu hrest sw sl hj hlt
      have HK3 := Lib.hid K3
      clear K3
      have HW2 := Lib.hid (show ((made5 o).arm (t : Int)).dwrite 1 3 (k : Int) l7 = (T, F) from by simpa using HW.out)
      clear HW
      obtain ⟨hDM, _, h0⟩ := HK3.out.no rfl
      obtain rfl : M = D := by simp at hDM; omega
      obtain ⟨rfl, rfl⟩ := h0 rfl
      clear hDM h0 HK3
      go_wp2_with fail
      refine (Arm_any hD4.nor (t : Int) (by omega)).mono ?_
      rintro e w5 ⟨rfl, hN5, hT5⟩
      have hD5 := hD4.turn hT5 hN5 (by unfold Fl.arm; split <;> rfl)
      go_wp2_with fail
      have hBW5 := hBW4.trans (hT5.below hp2 hb2 hBW4.size)
      have hOff5 : Off p b w5 B (cw l7) := Off.of hD5.nor hBW5.size (hsM.below hBW5)
      refine (dWrite_any hD5 (k : Int) (by omega) _ q B l7 hOff5 HL7.out hM1 T _ HW2.out).mono ?_
      rintro e w6 ⟨rfl, hD6, hT6⟩
      have hT46 := hT5.then_ hT6
      have hFc6 := hFc.butC hT46 (by omega) (by omega)
      have hBW6 := hBW4.trans (hT46.below hp2 hb2 hBW4.size)
      have hdg : d ≠ gq := by omega
      clear hD4 hD5 hT5 hT6 hBW5 hOff5 hFc hT46 HW2
      go_wp2_with fail
      go_loopw [23] (fun i wr => ∃ j : Nat, j ≤ M ∧ i = .int .i64 (j : Int) ∧ Fresh w3.heap.size 22 wr (some ⟨gq, 0, none⟩) 192 cq (cw (splice was k (l7.take j))) ∧ But gq gq w6 wr) (fun i _ => M - (intOf i).toNat)
      case atStart => exact ⟨0, Nat.zero_le _, rfl, by simpa [splice] using hFc6, But.refl _ _ _⟩
      case round =>
        obtain ⟨j, hj, rfl, hFj, hTj⟩ := hrel
        have hBr := hBW6.trans (hTj.below (by omega) (by omega) hBW6.size)
        by_cases hlt : j < M
        · obtain ⟨gl, ol, rfl, hgl, x, HX, hx', hcx⟩ := Sees.word (k := j) (hsM.below hBr) HL7.out (by omega)
          obtain ⟨old, hold⟩ : ∃ old, wr.cell? ⟨gq, k + j, none⟩ = some old := by
            rw [World.ownsRow.cellAt hFj (k + j) (by omega)]
            exact ⟨_, List.getElem?_eq_getElem (by have := hFj.len; omega)⟩
          have hzf := World.ownsRow.frozenAt hFj (k + j)
          skip
          have hwa := wrapI ((k : Int) + (j : Int)) (by omega) (by omega)
          go_wp2_with fail
          go_roundw
          case rel =>
            have hF2 := (World.ownsRow.stored hFj (k + j) (.int .u32 (x.toNat : Int))).1
            have hj2 : j < l7.length := by rw [HL7.out]; omega
            have hv2 : l7[j] = x := by
              have := HX.out
              rw [List.getElem?_eq_getElem hj2] at this
              simpa using this
            have e1 : (cw (splice was k (l7.take j))).set (k + j) (.int .u32 (x.toNat : Int)) = cw (splice was k (l7.take (j + 1))) := by
              rw [← splice_step was l7 k j hj2 (by rw [HWS.out, HL7.out]; omega), hv2]
              simp [cw, List.map_set]
            rw [e1] at hF2
            exact ⟨j + 1, by omega, by go_num, hF2, hTj.then_ (But.set _ _ _ _ _ (.inl rfl))⟩
          case measure => simp [intOf]; omega
        · obtain rfl : M = j := by omega
          have hDr := hD6.other hTj (by omega) (by omega) hdg
          have hDown := Down_any hDr.nor
          rw [HTD.out] at hDown
          have hlen : (splice was k (l7.take M)).length = 192 := by simpa using hFj.len
          clear hlt hj
          go_wp2_with fail
          refine hDown.mono ?_
          rintro e w7 ⟨rfl, rfl⟩
          go_wp2_with fail
          refine (Crash_any hDr.nor hTok none 0 0 [] hBr.size Sees.nil rfl).mono ?_
          rintro e w8 ⟨rfl, hN8, hT8⟩
          have hD8 := hDr.turn hT8 hN8 (Fl.crash_up _ _).2.2.2
          go_wp2_with fail
          refine (dRead_at hD8 (Fl.crash_up _ _).1 0 192 (by omega)).mono ?_
          rintro e w9 ⟨G9, rfl, hF9, hB9⟩
          rw [HTA.out] at hF9
          have sq := ((hFj.butC hT8 (by omega) (by omega)).sees.step hB9)
          go_wp2_with fail
          refine (SameWords_is (r := true) (by simp) hF9.sees sq hlen hlen (by omega)).mono ?_
          rintro e w10 ⟨rfl, hB10⟩
          go_wp2_with fail
          refine (awake5_any w10).mono ?_
          rintro e w11 ⟨rfl, hB11⟩
          go_wp2_with fail
          go_ret
          have y1 := hBr.trans (hT8.below hp2 hb2 hBr.size)
          have y2 := y1.trans (hB9.mono y1.size)
          have y3 := y2.trans (hB10.mono y2.size)
          exact ⟨rfl, y3.trans (hB11.mono y3.size)⟩
set_option maxHeartbeats 4000000 in
set_option maxRecDepth 100000 in
theorem keeps_t3b (A : Option Addr) (N c : Nat) (o : List Oc) (z : Int) (B : Option Addr) (n q : Nat) (l7 : List UInt32) (t : Nat) (W : World) (hs : Sees W W.heap.size A (ocs o)) (hl : o.length = N) (hok : ∀ x ∈ o, x.Ok W.heap.size W) (k K M : Nat) (hPick : ∀ w, Calls Try.prog 30 #[.int .i64 z, .int .i64 (193 : Int)] w fun e w' => e = .returned (.int .i64 (k : Int)) ∧ w' = w) (hk : k < 193) (hK : k + K = 192)
    (hsM : Sees W W.heap.size B (cw l7)) (HL7 : Hid (l7.length = M)) (hM1 : M ≤ q) (hM2 : k + M ≤ 192) (hm : ¬ n ≤ K ∧ M = K) (ht8 : t < 256) (htm : M < t) (hsets : sets32 ((made5 o).at_ 1 k M) l7 = false) :
    Calls Try.prog 8 #[.slice A N c, .int .i64 z, .slice B n q, .int .u8 (t : Int), .bool true] W fun e w' => e = .returned (.bool true) ∧ Below W.heap.size W w' := by
  have hMade := made5_any A N c o hs hl hok
  clear hs hl hok
  go_enter Try.func8, Try.ntmps8
  go_wp2_with fail
  refine hMade.mono ?_
  rintro e w1 ⟨p, b, d, rfl, hD, hB1⟩
  clear hMade
  go_wp2_with fail
  refine (hPick _).mono ?_
  rintro e w2 ⟨rfl, rfl⟩
  have up := made5_up5' hD
  have hhalf : (made5 o).half = -1 := (Fl.crash_up _ _).2.2.1
  obtain ⟨hp1, hb1, hp2, hb2⟩ := hD.nor.lt
  have hd1 := hD.obj.lt_size
  have hwk : IntKind.i64.wrap ((192 : Int) - (k : Int)) = (K : Int) := by rw [wrapI _ (by omega) (by omega)]; omega
  have hwk' : wrap64 ((192 : Int) - (k : Int)) = (K : Int) := by rw [wrap64I _ (by omega) (by omega)]; omega
  have hcut := fun w => run_cut32 (w := w) B n q M hM1
  obtain ⟨T, D, F, dn, hW, hTn, hTok, hTd, hTat, K3⟩ := keeps_pure up hhalf k M t hM2 l7 HL7.out true false hsets
  have HW := Lib.hid hW
  have HS := Lib.hid hsets
  have HTA := Lib.hid hTat
  have HTD := Lib.hid hTd
  have HTN := Lib.hid hTn
  have HB1 := hB1.size
  clear hW hsets hTat hTd hTn
  have hwas := hD.at_len (at_ := 0) (many := 192) (by omega)
  have hwk2 := hD.at_len (at_ := k) (many := M) (by omega)
  have hrest : ∀ j, j < M → ∀ x, ((made5 o).at_ 1 0 192)[k + j]? = some x → ((made5 o).at_ 1 k M)[j]? = some x := fun j hj x hx => by
    unfold Fl.at_ at hx ⊢
    rw [List.getElem?_take, List.getElem?_drop] at hx ⊢
    rw [if_pos (by omega)] at hx
    rw [if_pos hj, ← hx]
    congr 1
    omega
  obtain ⟨hm, rfl⟩ := hm
  go_wp2_with fail
  refine (dRead_at hD up.down 0 192 (by omega)).mono ?_
  rintro e w3 ⟨G, rfl, hFw, hB2⟩
  have hD3 := hD.below hB2
  have hGb := hFw.block.2
  have hGl := hFw.lt_size
  have hwasL := hwas
  go_wp2_with fail
  refine (CopyWords_any (some ⟨G, 0, none⟩) 192 192 ((made5 o).at_ 1 0 192) w3 hFw.sees hwas (by omega)).mono ?_
  rintro e w4 ⟨Aq, cq, rfl, hFc, hB3⟩
  have hD4 := hD3.below hB3
  obtain ⟨gq, rfl, hgq, hgql⟩ := hFc.spot_ (by omega)
  have sw := (hFw.sees.step hB3)
  have hBW4 : Below W.heap.size W w4 := (hB1.trans (hB2.mono HB1)).trans (hB3.mono (Nat.le_trans HB1 hB2.size))
  have sl := hsM.below hBW4
  have z23 := hB2.size
  have z34 := hB3.size
  clear hB2 hB3 hD hD3 hFw
  have HWS := Lib.hid hwas
  have HWK := Lib.hid hwk2
  clear hwas hwasL hwk2 hcut
  revert sw HWS HWK HS HTA hFc hrest
  generalize (made5 o).at_ 1 0 192 = was
  generalize (made5 o).at_ 1 k _ = wk
  intro HS HTA hrest hFc sw HWS HWK
  go_wp2_with fail
  go_loopw [18, 59] (fun v i wr => ∃ (j : Nat) (bb : Bool), j ≤ M ∧ i = .int .i64 (j : Int) ∧ v = .bool bb ∧ Hid ((bb || sets32 (wk.drop j) (l7.drop j)) = false) ∧ wr = w4) (fun _ i _ => M - (intOf i).toNat)
  case atStart => exact ⟨0, false, Nat.zero_le _, rfl, rfl, Lib.hid (by simpa using HS.out), rfl⟩
  case round =>
    obtain ⟨j, bb, hj, rfl, rfl, hu, rfl⟩ := hrel
    by_cases hlt : j < M
    · obtain ⟨gl, ol, rfl, hgl, x, HX, hx', hcx⟩ := sl.word HL7.out hlt
      obtain ⟨gw, ow, hgw, hgwl, y, HY, hy', hcy⟩ := sw.word HWS.out (show k + j < 192 by omega)
      simp only [Option.some.injEq, Addr.mk.injEq] at hgw
      obtain ⟨rfl, rfl, -⟩ := hgw
      rw [Nat.zero_add] at hcy
      have hy2 := hrest j hlt y HY.out
      have hu2 := hu.out
      rw [drop_at32 hy2, drop_at32 HX.out] at hu2
      simp only [sets32] at hu2
      have hwa := wrapI ((k : Int) + (j : Int)) (by omega) (by omega)
      have hraw := andNot32 x y
      revert hu2 hraw
      generalize nset x y = Nn
      intro hu2 hraw
      clear hy2 hu HS HTA hrest sl sw hFc HW
      cases bb
      · rcases Nn with _ | Nn
        · have HU : Hid ((false || sets32 (wk.drop (j + 1)) (l7.drop (j + 1))) = false) := Lib.hid (by first | (simp; done) | (simp at hu2; done) | (simpa using hu2))
          clear hu2
          go_wp2_with fail
          go_roundw
          case rel => exact ⟨j + 1, false, by omega, by go_num, (by first | rfl | simp), HU, (by first | rfl | trivial)⟩
          case measure => simp [intOf]; omega
        · have HU : Hid ((true || sets32 (wk.drop (j + 1)) (l7.drop (j + 1))) = false) := Lib.hid (by first | (simp; done) | (simp at hu2; done) | (simpa using hu2))
          have h0 : ¬ (((Nn + 1 : Nat) : Int) = 0) := by omega
          clear hu2
          go_wp2_with fail
          go_roundw
          case rel => exact ⟨j + 1, true, by omega, by go_num, (by first | rfl | simp | (simp; omega)), HU, (by first | rfl | trivial)⟩
          case measure => simp [intOf]; omega
      · have HU : Hid ((true || sets32 (wk.drop (j + 1)) (l7.drop (j + 1))) = false) := Lib.hid (by first | (simp; done) | (simp at hu2; done) | (simpa using hu2))
        clear hu2
        go_wp2_with fail
        go_roundw
        case rel => exact ⟨j + 1, true, by omega, by go_num, (by first | rfl | simp), HU, (by first | rfl | trivial)⟩
        case measure => simp [intOf]; omega
    · obtain rfl : M = j := by omega
      obtain rfl : bb = false := by
        have hu2 := hu.out
        rw [List.drop_of_length_le (l := l7) (by rw [HL7.out]; exact Nat.le_refl _)] at hu2
        rw [← hu2]
        cases wk.drop M <;> simp [sets32]
      clear hu hrest sw sl hj hlt
      have HK3 := Lib.hid K3
      clear K3
      have HW2 := Lib.hid (show ((made5 o).arm (t : Int)).dwrite 1 3 (k : Int) l7 = (T, F) from by simpa using HW.out)
      clear HW
      obtain ⟨hDM, _, h0⟩ := HK3.out.no rfl
      obtain rfl : M = D := by simp at hDM; omega
      obtain ⟨rfl, rfl⟩ := h0 rfl
      clear hDM h0 HK3
      go_wp2_with fail
      refine (Arm_any hD4.nor (t : Int) (by omega)).mono ?_
      rintro e w5 ⟨rfl, hN5, hT5⟩
      have hD5 := hD4.turn hT5 hN5 (by unfold Fl.arm; split <;> rfl)
      go_wp2_with fail
      have hBW5 := hBW4.trans (hT5.below hp2 hb2 hBW4.size)
      have hOff5 : Off p b w5 B (cw l7) := Off.of hD5.nor hBW5.size (hsM.below hBW5)
      refine (dWrite_any hD5 (k : Int) (by omega) _ q B l7 hOff5 HL7.out hM1 T _ HW2.out).mono ?_
      rintro e w6 ⟨rfl, hD6, hT6⟩
      have hT46 := hT5.then_ hT6
      have hFc6 := hFc.butC hT46 (by omega) (by omega)
      have hBW6 := hBW4.trans (hT46.below hp2 hb2 hBW4.size)
      have hdg : d ≠ gq := by omega
      clear hD4 hD5 hT5 hT6 hBW5 hOff5 hFc hT46 HW2
      go_wp2_with fail
      go_loopw [23] (fun i wr => ∃ j : Nat, j ≤ M ∧ i = .int .i64 (j : Int) ∧ Fresh w3.heap.size 22 wr (some ⟨gq, 0, none⟩) 192 cq (cw (splice was k (l7.take j))) ∧ But gq gq w6 wr) (fun i _ => M - (intOf i).toNat)
      case atStart => exact ⟨0, Nat.zero_le _, rfl, by simpa [splice] using hFc6, But.refl _ _ _⟩
      case round =>
        obtain ⟨j, hj, rfl, hFj, hTj⟩ := hrel
        have hBr := hBW6.trans (hTj.below (by omega) (by omega) hBW6.size)
        by_cases hlt : j < M
        · obtain ⟨gl, ol, rfl, hgl, x, HX, hx', hcx⟩ := Sees.word (k := j) (hsM.below hBr) HL7.out (by omega)
          obtain ⟨old, hold⟩ : ∃ old, wr.cell? ⟨gq, k + j, none⟩ = some old := by
            rw [World.ownsRow.cellAt hFj (k + j) (by omega)]
            exact ⟨_, List.getElem?_eq_getElem (by have := hFj.len; omega)⟩
          have hzf := World.ownsRow.frozenAt hFj (k + j)
          skip
          have hwa := wrapI ((k : Int) + (j : Int)) (by omega) (by omega)
          go_wp2_with fail
          go_roundw
          case rel =>
            have hF2 := (World.ownsRow.stored hFj (k + j) (.int .u32 (x.toNat : Int))).1
            have hj2 : j < l7.length := by rw [HL7.out]; omega
            have hv2 : l7[j] = x := by
              have := HX.out
              rw [List.getElem?_eq_getElem hj2] at this
              simpa using this
            have e1 : (cw (splice was k (l7.take j))).set (k + j) (.int .u32 (x.toNat : Int)) = cw (splice was k (l7.take (j + 1))) := by
              rw [← splice_step was l7 k j hj2 (by rw [HWS.out, HL7.out]; omega), hv2]
              simp [cw, List.map_set]
            rw [e1] at hF2
            exact ⟨j + 1, by omega, by go_num, hF2, hTj.then_ (But.set _ _ _ _ _ (.inl rfl))⟩
          case measure => simp [intOf]; omega
        · obtain rfl : M = j := by omega
          have hDr := hD6.other hTj (by omega) (by omega) hdg
          have hDown := Down_any hDr.nor
          rw [HTD.out] at hDown
          have hlen : (splice was k (l7.take M)).length = 192 := by simpa using hFj.len
          clear hlt hj
          go_wp2_with fail
          refine hDown.mono ?_
          rintro e w7 ⟨rfl, rfl⟩
          go_wp2_with fail
          refine (Crash_any hDr.nor hTok none 0 0 [] hBr.size Sees.nil rfl).mono ?_
          rintro e w8 ⟨rfl, hN8, hT8⟩
          have hD8 := hDr.turn hT8 hN8 (Fl.crash_up _ _).2.2.2
          go_wp2_with fail
          refine (dRead_at hD8 (Fl.crash_up _ _).1 0 192 (by omega)).mono ?_
          rintro e w9 ⟨G9, rfl, hF9, hB9⟩
          rw [HTA.out] at hF9
          have sq := ((hFj.butC hT8 (by omega) (by omega)).sees.step hB9)
          go_wp2_with fail
          refine (SameWords_is (r := true) (by simp) hF9.sees sq hlen hlen (by omega)).mono ?_
          rintro e w10 ⟨rfl, hB10⟩
          go_wp2_with fail
          refine (awake5_any w10).mono ?_
          rintro e w11 ⟨rfl, hB11⟩
          go_wp2_with fail
          go_ret
          have y1 := hBr.trans (hT8.below hp2 hb2 hBr.size)
          have y2 := y1.trans (hB9.mono y1.size)
          have y3 := y2.trans (hB10.mono y2.size)
          exact ⟨rfl, y3.trans (hB11.mono y3.size)⟩
set_option maxHeartbeats 4000000 in
set_option maxRecDepth 100000 in
theorem keeps_t4a (A : Option Addr) (N c : Nat) (o : List Oc) (z : Int) (B : Option Addr) (n q : Nat) (l7 : List UInt32) (t : Nat) (W : World) (hs : Sees W W.heap.size A (ocs o)) (hl : o.length = N) (hok : ∀ x ∈ o, x.Ok W.heap.size W) (k K M : Nat) (hPick : ∀ w, Calls Try.prog 30 #[.int .i64 z, .int .i64 (193 : Int)] w fun e w' => e = .returned (.int .i64 (k : Int)) ∧ w' = w) (hk : k < 193) (hK : k + K = 192)
    (hsM : Sees W W.heap.size B (cw l7)) (HL7 : Hid (l7.length = M)) (hM1 : M ≤ q) (hM2 : k + M ≤ 192) (hm : n ≤ K ∧ M = n) (ht8 : t < 256) (htm : M < t) (hsets : sets32 ((made5 o).at_ 1 k M) l7 = true) :
    Calls Try.prog 8 #[.slice A N c, .int .i64 z, .slice B n q, .int .u8 (t : Int), .bool true] W fun e w' => e = .returned (.bool true) ∧ Below W.heap.size W w' := by
  have hMade := made5_any A N c o hs hl hok
  clear hs hl hok
  go_enter Try.func8, Try.ntmps8
  go_wp2_with fail
  refine hMade.mono ?_
  rintro e w1 ⟨p, b, d, rfl, hD, hB1⟩
  clear hMade
  go_wp2_with fail
  refine (hPick _).mono ?_
  rintro e w2 ⟨rfl, rfl⟩
  have up := made5_up5' hD
  have hhalf : (made5 o).half = -1 := (Fl.crash_up _ _).2.2.1
  obtain ⟨hp1, hb1, hp2, hb2⟩ := hD.nor.lt
  have hd1 := hD.obj.lt_size
  have hwk : IntKind.i64.wrap ((192 : Int) - (k : Int)) = (K : Int) := by rw [wrapI _ (by omega) (by omega)]; omega
  have hwk' : wrap64 ((192 : Int) - (k : Int)) = (K : Int) := by rw [wrap64I _ (by omega) (by omega)]; omega
  have hcut := fun w => run_cut32 (w := w) B n q M hM1
  obtain ⟨T, D, F, dn, hW, hTn, hTok, hTd, hTat, K3⟩ := keeps_pure up hhalf k M t hM2 l7 HL7.out true true hsets
  have HW := Lib.hid hW
  have HS := Lib.hid hsets
  have HTA := Lib.hid hTat
  have HTD := Lib.hid hTd
  have HTN := Lib.hid hTn
  have HB1 := hB1.size
  clear hW hsets hTat hTd hTn
  have hwas := hD.at_len (at_ := 0) (many := 192) (by omega)
  have hwk2 := hD.at_len (at_ := k) (many := M) (by omega)
  have hrest : ∀ j, j < M → ∀ x, ((made5 o).at_ 1 0 192)[k + j]? = some x → ((made5 o).at_ 1 k M)[j]? = some x := fun j hj x hx => by
    unfold Fl.at_ at hx ⊢
    rw [List.getElem?_take, List.getElem?_drop] at hx ⊢
    rw [if_pos (by omega)] at hx
    rw [if_pos hj, ← hx]
    congr 1
    omega
  obtain ⟨hm, rfl⟩ := hm
  go_wp2_with fail
  refine (dRead_at hD up.down 0 192 (by omega)).mono ?_
  rintro e w3 ⟨G, rfl, hFw, hB2⟩
  have hD3 := hD.below hB2
  have hGb := hFw.block.2
  have hGl := hFw.lt_size
  have hwasL := hwas
  go_wp2_with fail
  refine (CopyWords_any (some ⟨G, 0, none⟩) 192 192 ((made5 o).at_ 1 0 192) w3 hFw.sees hwas (by omega)).mono ?_
  rintro e w4 ⟨Aq, cq, rfl, hFc, hB3⟩
  have hD4 := hD3.below hB3
  obtain ⟨gq, rfl, hgq, hgql⟩ := hFc.spot_ (by omega)
  have sw := (hFw.sees.step hB3)
  have hBW4 : Below W.heap.size W w4 := (hB1.trans (hB2.mono HB1)).trans (hB3.mono (Nat.le_trans HB1 hB2.size))
  have sl := hsM.below hBW4
  have z23 := hB2.size
  have z34 := hB3.size
  clear hB2 hB3 hD hD3 hFw
  have HWS := Lib.hid hwas
  have HWK := Lib.hid hwk2
  clear hwas hwasL hwk2 hcut
  revert sw HWS HWK HS HTA hFc hrest
  generalize (made5 o).at_ 1 0 192 = was
  generalize (made5 o).at_ 1 k _ = wk
  intro HS HTA hrest hFc sw HWS HWK
  go_wp2_with fail
  go_loopw [18, 59] (fun v i wr => ∃ (j : Nat) (bb : Bool), j ≤ M ∧ i = .int .i64 (j : Int) ∧ v = .bool bb ∧ Hid ((bb || sets32 (wk.drop j) (l7.drop j)) = true) ∧ wr = w4) (fun _ i _ => M - (intOf i).toNat)
  case atStart => exact ⟨0, false, Nat.zero_le _, rfl, rfl, Lib.hid (by simpa using HS.out), rfl⟩
  case round =>
    obtain ⟨j, bb, hj, rfl, rfl, hu, rfl⟩ := hrel
    by_cases hlt : j < M
    · obtain ⟨gl, ol, rfl, hgl, x, HX, hx', hcx⟩ := sl.word HL7.out hlt
      obtain ⟨gw, ow, hgw, hgwl, y, HY, hy', hcy⟩ := sw.word HWS.out (show k + j < 192 by omega)
      simp only [Option.some.injEq, Addr.mk.injEq] at hgw
      obtain ⟨rfl, rfl, -⟩ := hgw
      rw [Nat.zero_add] at hcy
      have hy2 := hrest j hlt y HY.out
      have hu2 := hu.out
      rw [drop_at32 hy2, drop_at32 HX.out] at hu2
      simp only [sets32] at hu2
      have hwa := wrapI ((k : Int) + (j : Int)) (by omega) (by omega)
      have hraw := andNot32 x y
      revert hu2 hraw
      generalize nset x y = Nn
      intro hu2 hraw
      clear hy2 hu HS HTA hrest sl sw hFc HW
      cases bb
      · rcases Nn with _ | Nn
        · have HU : Hid ((false || sets32 (wk.drop (j + 1)) (l7.drop (j + 1))) = true) := Lib.hid (by first | (simp; done) | (simp at hu2; done) | (simpa using hu2))
          clear hu2
          go_wp2_with fail
          go_roundw
          case rel => exact ⟨j + 1, false, by omega, by go_num, (by first | rfl | simp), HU, (by first | rfl | trivial)⟩
          case measure => simp [intOf]; omega
        · have HU : Hid ((true || sets32 (wk.drop (j + 1)) (l7.drop (j + 1))) = true) := Lib.hid (by first | (simp; done) | (simp at hu2; done) | (simpa using hu2))
          have h0 : ¬ (((Nn + 1 : Nat) : Int) = 0) := by omega
          clear hu2
          go_wp2_with fail
          go_roundw
          case rel => exact ⟨j + 1, true, by omega, by go_num, (by first | rfl | simp | (simp; omega)), HU, (by first | rfl | trivial)⟩
          case measure => simp [intOf]; omega
      · have HU : Hid ((true || sets32 (wk.drop (j + 1)) (l7.drop (j + 1))) = true) := Lib.hid (by first | (simp; done) | (simp at hu2; done) | (simpa using hu2))
        clear hu2
        go_wp2_with fail
        go_roundw
        case rel => exact ⟨j + 1, true, by omega, by go_num, (by first | rfl | simp), HU, (by first | rfl | trivial)⟩
        case measure => simp [intOf]; omega
    · obtain rfl : M = j := by omega
      obtain rfl : bb = true := by
        have hu2 := hu.out
        rw [List.drop_of_length_le (l := l7) (by rw [HL7.out]; exact Nat.le_refl _)] at hu2
        rw [← hu2]
        cases wk.drop M <;> simp [sets32]
      clear hu hrest sw sl hj hlt
      have HK3 := Lib.hid K3
      clear K3
      have HW2 := Lib.hid (show ((made5 o).arm (t : Int)).dwrite 1 3 (k : Int) l7 = (T, F) from by simpa using HW.out)
      clear HW
      obtain ⟨rfl, rfl, rfl⟩ := HK3.out.set_ rfl
      clear HK3
      go_wp2_with fail
      refine (Arm_any hD4.nor (t : Int) (by omega)).mono ?_
      rintro e w5 ⟨rfl, hN5, hT5⟩
      have hD5 := hD4.turn hT5 hN5 (by unfold Fl.arm; split <;> rfl)
      go_wp2_with fail
      have hBW5 := hBW4.trans (hT5.below hp2 hb2 hBW4.size)
      have hOff5 : Off p b w5 B (cw l7) := Off.of hD5.nor hBW5.size (hsM.below hBW5)
      refine (dWrite_any hD5 (k : Int) (by omega) _ q B l7 hOff5 HL7.out hM1 T _ HW2.out).mono ?_
      rintro e w6 ⟨rfl, hD6, hT6⟩
      have hT46 := hT5.then_ hT6
      have hFc6 := hFc.butC hT46 (by omega) (by omega)
      have hBW6 := hBW4.trans (hT46.below hp2 hb2 hBW4.size)
      have hdg : d ≠ gq := by omega
      clear hD4 hD5 hT5 hT6 hBW5 hOff5 hFc hT46 HW2
      go_wp2_with fail
      go_loopw [23] (fun i wr => ∃ j : Nat, j ≤ 0 ∧ i = .int .i64 (j : Int) ∧ Fresh w3.heap.size 22 wr (some ⟨gq, 0, none⟩) 192 cq (cw (splice was k (l7.take j))) ∧ But gq gq w6 wr) (fun i _ => 0 - (intOf i).toNat)
      case atStart => exact ⟨0, Nat.zero_le _, rfl, by simpa [splice] using hFc6, But.refl _ _ _⟩
      case round =>
        obtain ⟨j, hj, rfl, hFj, hTj⟩ := hrel
        have hBr := hBW6.trans (hTj.below (by omega) (by omega) hBW6.size)
        by_cases hlt : j < 0
        · omega
        · obtain rfl : 0 = j := by omega
          have hDr := hD6.other hTj (by omega) (by omega) hdg
          have hDown := Down_any hDr.nor
          rw [HTD.out] at hDown
          have hlen : (splice was k (l7.take 0)).length = 192 := by simpa using hFj.len
          clear hlt hj
          go_wp2_with fail
          refine hDown.mono ?_
          rintro e w7 ⟨rfl, rfl⟩
          go_wp2_with fail
          refine (Crash_any hDr.nor hTok none 0 0 [] hBr.size Sees.nil rfl).mono ?_
          rintro e w8 ⟨rfl, hN8, hT8⟩
          have hD8 := hDr.turn hT8 hN8 (Fl.crash_up _ _).2.2.2
          go_wp2_with fail
          refine (dRead_at hD8 (Fl.crash_up _ _).1 0 192 (by omega)).mono ?_
          rintro e w9 ⟨G9, rfl, hF9, hB9⟩
          rw [HTA.out] at hF9
          have sq := ((hFj.butC hT8 (by omega) (by omega)).sees.step hB9)
          go_wp2_with fail
          refine (SameWords_is (r := true) (by simp) hF9.sees sq hlen hlen (by omega)).mono ?_
          rintro e w10 ⟨rfl, hB10⟩
          go_wp2_with fail
          refine (awake5_any w10).mono ?_
          rintro e w11 ⟨rfl, hB11⟩
          go_wp2_with fail
          go_ret
          have y1 := hBr.trans (hT8.below hp2 hb2 hBr.size)
          have y2 := y1.trans (hB9.mono y1.size)
          have y3 := y2.trans (hB10.mono y2.size)
          exact ⟨rfl, y3.trans (hB11.mono y3.size)⟩
set_option maxHeartbeats 4000000 in
set_option maxRecDepth 100000 in
theorem keeps_t4b (A : Option Addr) (N c : Nat) (o : List Oc) (z : Int) (B : Option Addr) (n q : Nat) (l7 : List UInt32) (t : Nat) (W : World) (hs : Sees W W.heap.size A (ocs o)) (hl : o.length = N) (hok : ∀ x ∈ o, x.Ok W.heap.size W) (k K M : Nat) (hPick : ∀ w, Calls Try.prog 30 #[.int .i64 z, .int .i64 (193 : Int)] w fun e w' => e = .returned (.int .i64 (k : Int)) ∧ w' = w) (hk : k < 193) (hK : k + K = 192)
    (hsM : Sees W W.heap.size B (cw l7)) (HL7 : Hid (l7.length = M)) (hM1 : M ≤ q) (hM2 : k + M ≤ 192) (hm : ¬ n ≤ K ∧ M = K) (ht8 : t < 256) (htm : M < t) (hsets : sets32 ((made5 o).at_ 1 k M) l7 = true) :
    Calls Try.prog 8 #[.slice A N c, .int .i64 z, .slice B n q, .int .u8 (t : Int), .bool true] W fun e w' => e = .returned (.bool true) ∧ Below W.heap.size W w' := by
  have hMade := made5_any A N c o hs hl hok
  clear hs hl hok
  go_enter Try.func8, Try.ntmps8
  go_wp2_with fail
  refine hMade.mono ?_
  rintro e w1 ⟨p, b, d, rfl, hD, hB1⟩
  clear hMade
  go_wp2_with fail
  refine (hPick _).mono ?_
  rintro e w2 ⟨rfl, rfl⟩
  have up := made5_up5' hD
  have hhalf : (made5 o).half = -1 := (Fl.crash_up _ _).2.2.1
  obtain ⟨hp1, hb1, hp2, hb2⟩ := hD.nor.lt
  have hd1 := hD.obj.lt_size
  have hwk : IntKind.i64.wrap ((192 : Int) - (k : Int)) = (K : Int) := by rw [wrapI _ (by omega) (by omega)]; omega
  have hwk' : wrap64 ((192 : Int) - (k : Int)) = (K : Int) := by rw [wrap64I _ (by omega) (by omega)]; omega
  have hcut := fun w => run_cut32 (w := w) B n q M hM1
  obtain ⟨T, D, F, dn, hW, hTn, hTok, hTd, hTat, K3⟩ := keeps_pure up hhalf k M t hM2 l7 HL7.out true true hsets
  have HW := Lib.hid hW
  have HS := Lib.hid hsets
  have HTA := Lib.hid hTat
  have HTD := Lib.hid hTd
  have HTN := Lib.hid hTn
  have HB1 := hB1.size
  clear hW hsets hTat hTd hTn
  have hwas := hD.at_len (at_ := 0) (many := 192) (by omega)
  have hwk2 := hD.at_len (at_ := k) (many := M) (by omega)
  have hrest : ∀ j, j < M → ∀ x, ((made5 o).at_ 1 0 192)[k + j]? = some x → ((made5 o).at_ 1 k M)[j]? = some x := fun j hj x hx => by
    unfold Fl.at_ at hx ⊢
    rw [List.getElem?_take, List.getElem?_drop] at hx ⊢
    rw [if_pos (by omega)] at hx
    rw [if_pos hj, ← hx]
    congr 1
    omega
  obtain ⟨hm, rfl⟩ := hm
  go_wp2_with fail
  refine (dRead_at hD up.down 0 192 (by omega)).mono ?_
  rintro e w3 ⟨G, rfl, hFw, hB2⟩
  have hD3 := hD.below hB2
  have hGb := hFw.block.2
  have hGl := hFw.lt_size
  have hwasL := hwas
  go_wp2_with fail
  refine (CopyWords_any (some ⟨G, 0, none⟩) 192 192 ((made5 o).at_ 1 0 192) w3 hFw.sees hwas (by omega)).mono ?_
  rintro e w4 ⟨Aq, cq, rfl, hFc, hB3⟩
  have hD4 := hD3.below hB3
  obtain ⟨gq, rfl, hgq, hgql⟩ := hFc.spot_ (by omega)
  have sw := (hFw.sees.step hB3)
  have hBW4 : Below W.heap.size W w4 := (hB1.trans (hB2.mono HB1)).trans (hB3.mono (Nat.le_trans HB1 hB2.size))
  have sl := hsM.below hBW4
  have z23 := hB2.size
  have z34 := hB3.size
  clear hB2 hB3 hD hD3 hFw
  have HWS := Lib.hid hwas
  have HWK := Lib.hid hwk2
  clear hwas hwasL hwk2 hcut
  revert sw HWS HWK HS HTA hFc hrest
  generalize (made5 o).at_ 1 0 192 = was
  generalize (made5 o).at_ 1 k _ = wk
  intro HS HTA hrest hFc sw HWS HWK
  go_wp2_with fail
  go_loopw [18, 59] (fun v i wr => ∃ (j : Nat) (bb : Bool), j ≤ M ∧ i = .int .i64 (j : Int) ∧ v = .bool bb ∧ Hid ((bb || sets32 (wk.drop j) (l7.drop j)) = true) ∧ wr = w4) (fun _ i _ => M - (intOf i).toNat)
  case atStart => exact ⟨0, false, Nat.zero_le _, rfl, rfl, Lib.hid (by simpa using HS.out), rfl⟩
  case round =>
    obtain ⟨j, bb, hj, rfl, rfl, hu, rfl⟩ := hrel
    by_cases hlt : j < M
    · obtain ⟨gl, ol, rfl, hgl, x, HX, hx', hcx⟩ := sl.word HL7.out hlt
      obtain ⟨gw, ow, hgw, hgwl, y, HY, hy', hcy⟩ := sw.word HWS.out (show k + j < 192 by omega)
      simp only [Option.some.injEq, Addr.mk.injEq] at hgw
      obtain ⟨rfl, rfl, -⟩ := hgw
      rw [Nat.zero_add] at hcy
      have hy2 := hrest j hlt y HY.out
      have hu2 := hu.out
      rw [drop_at32 hy2, drop_at32 HX.out] at hu2
      simp only [sets32] at hu2
      have hwa := wrapI ((k : Int) + (j : Int)) (by omega) (by omega)
      have hraw := andNot32 x y
      revert hu2 hraw
      generalize nset x y = Nn
      intro hu2 hraw
      clear hy2 hu HS HTA hrest sl sw hFc HW
      cases bb
      · rcases Nn with _ | Nn
        · have HU : Hid ((false || sets32 (wk.drop (j + 1)) (l7.drop (j + 1))) = true) := Lib.hid (by first | (simp; done) | (simp at hu2; done) | (simpa using hu2))
          clear hu2
          go_wp2_with fail
          go_roundw
          case rel => exact ⟨j + 1, false, by omega, by go_num, (by first | rfl | simp), HU, (by first | rfl | trivial)⟩
          case measure => simp [intOf]; omega
        · have HU : Hid ((true || sets32 (wk.drop (j + 1)) (l7.drop (j + 1))) = true) := Lib.hid (by first | (simp; done) | (simp at hu2; done) | (simpa using hu2))
          have h0 : ¬ (((Nn + 1 : Nat) : Int) = 0) := by omega
          clear hu2
          go_wp2_with fail
          go_roundw
          case rel => exact ⟨j + 1, true, by omega, by go_num, (by first | rfl | simp | (simp; omega)), HU, (by first | rfl | trivial)⟩
          case measure => simp [intOf]; omega
      · have HU : Hid ((true || sets32 (wk.drop (j + 1)) (l7.drop (j + 1))) = true) := Lib.hid (by first | (simp; done) | (simp at hu2; done) | (simpa using hu2))
        clear hu2
        go_wp2_with fail
        go_roundw
        case rel => exact ⟨j + 1, true, by omega, by go_num, (by first | rfl | simp), HU, (by first | rfl | trivial)⟩
        case measure => simp [intOf]; omega
    · obtain rfl : M = j := by omega
      obtain rfl : bb = true := by
        have hu2 := hu.out
        rw [List.drop_of_length_le (l := l7) (by rw [HL7.out]; exact Nat.le_refl _)] at hu2
        rw [← hu2]
        cases wk.drop M <;> simp [sets32]
      clear hu hrest sw sl hj hlt
      have HK3 := Lib.hid K3
      clear K3
      have HW2 := Lib.hid (show ((made5 o).arm (t : Int)).dwrite 1 3 (k : Int) l7 = (T, F) from by simpa using HW.out)
      clear HW
      obtain ⟨rfl, rfl, rfl⟩ := HK3.out.set_ rfl
      clear HK3
      go_wp2_with fail
      refine (Arm_any hD4.nor (t : Int) (by omega)).mono ?_
      rintro e w5 ⟨rfl, hN5, hT5⟩
      have hD5 := hD4.turn hT5 hN5 (by unfold Fl.arm; split <;> rfl)
      go_wp2_with fail
      have hBW5 := hBW4.trans (hT5.below hp2 hb2 hBW4.size)
      have hOff5 : Off p b w5 B (cw l7) := Off.of hD5.nor hBW5.size (hsM.below hBW5)
      refine (dWrite_any hD5 (k : Int) (by omega) _ q B l7 hOff5 HL7.out hM1 T _ HW2.out).mono ?_
      rintro e w6 ⟨rfl, hD6, hT6⟩
      have hT46 := hT5.then_ hT6
      have hFc6 := hFc.butC hT46 (by omega) (by omega)
      have hBW6 := hBW4.trans (hT46.below hp2 hb2 hBW4.size)
      have hdg : d ≠ gq := by omega
      clear hD4 hD5 hT5 hT6 hBW5 hOff5 hFc hT46 HW2
      go_wp2_with fail
      go_loopw [23] (fun i wr => ∃ j : Nat, j ≤ 0 ∧ i = .int .i64 (j : Int) ∧ Fresh w3.heap.size 22 wr (some ⟨gq, 0, none⟩) 192 cq (cw (splice was k (l7.take j))) ∧ But gq gq w6 wr) (fun i _ => 0 - (intOf i).toNat)
      case atStart => exact ⟨0, Nat.zero_le _, rfl, by simpa [splice] using hFc6, But.refl _ _ _⟩
      case round =>
        obtain ⟨j, hj, rfl, hFj, hTj⟩ := hrel
        have hBr := hBW6.trans (hTj.below (by omega) (by omega) hBW6.size)
        by_cases hlt : j < 0
        · omega
        · obtain rfl : 0 = j := by omega
          have hDr := hD6.other hTj (by omega) (by omega) hdg
          have hDown := Down_any hDr.nor
          rw [HTD.out] at hDown
          have hlen : (splice was k (l7.take 0)).length = 192 := by simpa using hFj.len
          clear hlt hj
          go_wp2_with fail
          refine hDown.mono ?_
          rintro e w7 ⟨rfl, rfl⟩
          go_wp2_with fail
          refine (Crash_any hDr.nor hTok none 0 0 [] hBr.size Sees.nil rfl).mono ?_
          rintro e w8 ⟨rfl, hN8, hT8⟩
          have hD8 := hDr.turn hT8 hN8 (Fl.crash_up _ _).2.2.2
          go_wp2_with fail
          refine (dRead_at hD8 (Fl.crash_up _ _).1 0 192 (by omega)).mono ?_
          rintro e w9 ⟨G9, rfl, hF9, hB9⟩
          rw [HTA.out] at hF9
          have sq := ((hFj.butC hT8 (by omega) (by omega)).sees.step hB9)
          go_wp2_with fail
          refine (SameWords_is (r := true) (by simp) hF9.sees sq hlen hlen (by omega)).mono ?_
          rintro e w10 ⟨rfl, hB10⟩
          go_wp2_with fail
          refine (awake5_any w10).mono ?_
          rintro e w11 ⟨rfl, hB11⟩
          go_wp2_with fail
          go_ret
          have y1 := hBr.trans (hT8.below hp2 hb2 hBr.size)
          have y2 := y1.trans (hB9.mono y1.size)
          have y3 := y2.trans (hB10.mono y2.size)
          exact ⟨rfl, y3.trans (hB11.mono y3.size)⟩
end Go.Proofs.Ytpdfalgjmeagjaa
