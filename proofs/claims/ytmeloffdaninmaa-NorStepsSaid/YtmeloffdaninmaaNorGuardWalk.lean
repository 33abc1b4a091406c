/-
  NorGuard returns true for every input, and writes nothing that was there: the walk.
-/
import Derived.Test.YtmeloffdaninmaaNorTwin
import Derived.Test.YtmeloffdaninmaaNorAwake
namespace Go.Proofs.Ytmeloffdaninmaa
open Go.RowKit
set_option linter.unusedVariables false

theorem Oc.one (o : Oc) : ∀ u ∈ o.cells, u.oneCell' = true := by
  intro u hu
  simp only [Oc.cells, List.mem_cons, List.not_mem_nil, or_false] at hu
  rcases hu with rfl | rfl | rfl | rfl | rfl <;> rfl
/-- An empty call. -/
def noOc : List Value := [.int .i64 0, .int .i64 0, .int .i64 0, .slice none 0 0, .slice none 0 0]
theorem noOc_splice (o : Oc) : splice noOc 0 o.cells = o.cells := by simp [splice, noOc, Oc.cells]
theorem reads_any {w : World} {base p b : Nat} {S : Fl} (h : NorAt base w p b S) (s a : Int) (ha : -9223372036854775808 ≤ a ∧ a < 9223372036854775808) (v : UInt32) (hr : S.read s a = (v, 0)) :
    Calls Try.prog 75 #[.pointer (some ⟨p, 0, none⟩), .int .i64 s, .int .i64 a, .int .u32 (v.toNat : Int)] w fun e w' => e = .returned (.bool true) ∧ ∃ k, w' = w.drewN k := by
  have hq : (((v.toNat : Nat) : Int) == (v.toNat : Int)) = true := by simp
  go_enter Try.func75, Try.ntmps75
  go_wp2_with fail
  refine (Read_any h s a ha v 0 hr).mono ?_
  rintro e w1 ⟨rfl, rfl⟩
  go_wp2_with fail
  go_ret
  exact ⟨rfl, 0, rfl⟩
theorem kind7 (o : Oc) : o.kind = 3 ↔ o.k = 7 := by
  unfold Oc.kind
  constructor
  · intro h
    split at h
    · cases h
    · split at h
      · cases h
      · split at h
        · assumption
        · split at h
          · cases h
          · split at h <;> cases h
  · intro h
    rw [h]
    decide
set_option maxHeartbeats 4000000 in
set_option maxRecDepth 100000 in
theorem guard_walk (A0 : Option Addr) (N0 c0 : Nat) (l0 : List Oc) (w : World) (hs0 : Sees w w.heap.size A0 (ocs l0)) (hl0 : l0.length = N0) (hok : ∀ o ∈ l0, o.Ok w.heap.size w) :
    Calls Try.prog 17 #[.slice A0 N0 c0] w fun e w' => e = .returned (.bool true) ∧ Below w.heap.size w w' := by
  have H0 := Lib.hid hl0
  have HO := Lib.hid hok
  clear hl0 hok
  go_enter Try.func17, Try.ntmps17
  go_wp2_with fail
  refine (New_yes 4 2 (by omega) (by omega) (by omega) (by omega)).mono ?_
  rintro e w1 ⟨p, b, rfl, hA1, hB1⟩
  go_wp2_with fail
  refine (New_yes 4 2 (by omega) (by omega) (by omega) (by omega)).mono ?_
  rintro e w2 ⟨q, d, rfl, hC2, hB2⟩
  obtain ⟨x1, x2, g1, g2⟩ := hA1.lt
  obtain ⟨y1, y2, y3, y4⟩ := hC2.lt
  have z1 := hB1.size
  have g3 : w.heap.size ≤ q := Nat.le_trans z1 y3
  have g4 : w.heap.size ≤ d := Nat.le_trans z1 y4
  have ne1 : p ≠ q := by omega
  have ne2 : p ≠ d := by omega
  have ne3 : b ≠ q := by omega
  have ne4 : b ≠ d := by omega
  have hA2 := hA1.below hB2
  have hC2' := hC2.lower z1
  have hB02 := Below.then_ hB1 hB2
  clear hA1 hC2 hB1 hB2 x1 x2 y1 y2 y3 y4 z1
  go_wp2_with fail
  go_loopw [7] (fun i wr => ∃ (k : Nat) (S T : Fl), k ≤ N0 ∧ k ≤ 40 ∧ i = .int .i64 k ∧ NorAt w.heap.size wr p b S ∧ NorAt w.heap.size wr q d T ∧ S.Ok ∧ T.Ok ∧ Twin S T ∧ Below w.heap.size w wr) (fun i _ => 41 - (intOf i).toNat)
  case atStart => exact ⟨0, _, _, by omega, by omega, rfl, hA2, hC2', .inl rfl, .inl rfl, Twin.start, hB02⟩
  case round =>
    obtain ⟨k, S, T, hk, hk2, rfl, hA, hC, hSok, hTok, hTw, hB⟩ := hrel
    clear hA2 hC2' hB02
    by_cases hlt : k < N0
    · by_cases hlt2 : k < 40
      · obtain ⟨g, o, rfl, hg, x, HX, hx⟩ := (hs0.below hB).op H0.out hlt
        have hxo := (HO.out x (List.mem_of_getElem? HX.out)).below hB
        have HTW := Lib.hid hTw
        clear hTw
        go_wp2_with (first
          | (with_reducible refine wpList_load (o := ⟨some 39, _, _, _, _, _⟩) rfl (.tmp 38) 111 rfl g (o + k * 5) w.heap.size rfl x.cells 5 rfl (by kernel_rfl) hx ?_)
          | (with_reducible refine wpList_alloc (o := ⟨some 8, _, _, _, _, _⟩) rfl 111 rfl noOc (by kernel_rfl) 5 rfl (by decide) ?_; intro ga wa hga hFa hBa)
          | (with_reducible refine wpList_store (o := ⟨none, _, _, _, _, _⟩) rfl rfl (.tmp 8) (.tmp 39) 111 rfl ga 0 wr.heap.size 111 5 noOc x.cells rfl rfl 5 rfl (by kernel_rfl) hFa (by omega) x.one wr hBa hga ?_; intro wb hFb hBb hob hsb; rw [noOc_splice] at hFb)
          | (with_reducible refine wpList_load (o := ⟨some 41, _, _, _, _, _⟩) rfl (.tmp 8) 111 rfl ga 0 wb.heap.size rfl x.cells 5 rfl (by kernel_rfl) hFb.sees ?_))
        have hA3 := hA.below hBb
        have hC3 := hC.below hBb
        have hB3 := hB.trans (hBb.mono hB.size)
        have hxo3 := hxo.below (hBb.mono hB.size)
        obtain ⟨lp, lb, -, -⟩ := hA.lt
        obtain ⟨lq, ld, -, -⟩ := hC.lt
        have na : ga ≠ p := by omega
        have nb : ga ≠ b := by omega
        have nq : ga ≠ q := by omega
        have nd : ga ≠ d := by omega
        obtain ⟨S', r, hr⟩ : ∃ S' r, S.does x = (S', r) := ⟨_, _, rfl⟩
        have HR := Lib.hid hr
        have hSok' : S'.Ok := by have := (Fl.does_ok S x hSok).2; rw [hr] at this; exact this
        refine (does_any hA3 hSok x hxo3 hB3.size S' r hr).mono ?_
        rintro e w5 ⟨rfl, hA5, hu5⟩
        have hF5 := hFb.but hu5 na nb
        have hC5 := hC3.but hu5 (Ne.symm ne1) (Ne.symm ne3) (Ne.symm ne2) (Ne.symm ne4)
        have hB5 := hB3.trans (hu5.below g1 g2 hB3.size)
        have hxo5 := hxo3.below (hu5.below g1 g2 hB3.size)
        have f0 : w5.cell? ⟨ga, 0, none⟩ = some (.int .i64 x.k) := hF5.cell (j := 0) rfl
        have f1 : w5.cell? ⟨ga, 1, none⟩ = some (.int .i64 x.s) := hF5.cell (j := 1) rfl
        have f3 : w5.cell? ⟨ga, 3, none⟩ = some (.slice x.A x.m x.c) := hF5.cell (j := 3) rfl
        clear hr hA hC hA3 hC3 hxo hxo3 hFa hFb hBa hBb hob hsb hB3 hx hu5 lp lb lq ld
        by_cases hk7 : x.k = 7
        · have hkind := (kind7 x).2 hk7
          have hth := HTW.out.hand x hkind
          rw [HR.out] at hth
          simp only at hth
          obtain ⟨hTw2, hth2⟩ := hth
          have HTH := Lib.hid hth2
          clear hth2
          have k7 : (x.k != 7) = false := by simp [hk7]
          have k7' : (x.k == 7) = true := by simp [hk7]
          have HK := Lib.hid hk7
          clear hk7
          by_cases hr0 : r = 0
          · subst hr0
            have h2s : decide (x.s < 2) = false := by have := (HTH.out rfl).1; simp; omega
            have HT3 := Lib.hid (HTH.out rfl).2
            clear HTH
            go_wp2_with fail
            refine (Down_any hA5).mono ?_
            rintro e wx ⟨rfl, rfl⟩
            go_wp2_with fail
            refine (Down_any hC5).mono ?_
            rintro e wx ⟨rfl, rfl⟩
            rw [← hTw2.down]
            have hdd : (S'.down != S'.down) = false := by simp
            go_wp2_with fail
            refine (Down_any hA5).mono ?_
            rintro e wx ⟨rfl, rfl⟩
            cases hdn : S'.down
            · have HDN := Lib.hid hdn
              clear hdn
              go_wp2_with fail
              go_loopw [10] (fun i wi => ∃ s : Nat, s ≤ 2 ∧ i = .int .i64 s ∧ Below wx.heap.size wx wi) (fun i _ => 2 - (intOf i).toNat)
              case atStart => exact ⟨0, by omega, rfl, Below.refl _ _⟩
              case round =>
                obtain ⟨s, hs, rfl, hBi⟩ := hrel
                obtain ⟨wi, hwi⟩ : ∃ wi, wi = wr := ⟨_, rfl⟩
                subst hwi
                have hAi := hA5.below hBi
                have hCi := hC5.below hBi
                by_cases hs2 : s < 2
                · obtain ⟨L, hL⟩ : ∃ L, S'.words s = L := ⟨_, rfl⟩
                  have hL' : T.words s = L := by rw [← hL]; exact (hTw2.words_same s hs2).symm
                  obtain ⟨N, hN⟩ : ∃ N, L.length = N := ⟨_, rfl⟩
                  have hNl : N ≤ 64 := by
                    rw [← hN, ← hL]
                    unfold Fl.words
                    split <;> simp
                    omega
                  have HN := Lib.hid hN
                  clear hN
                  go_wp2_with fail
                  refine (Sector_any hAi s N (by omega) (by rw [hL]; exact HN.out)).mono ?_
                  rw [hL]
                  rintro e w7 ⟨A1, c1, rfl, hF1, hBj⟩
                  go_wp2_with fail
                  refine (Sector_any (hCi.below hBj) s N (by omega) (by rw [hL']; exact HN.out)).mono ?_
                  rw [hL']
                  rintro e w8 ⟨A2, c2, rfl, hF2, hBk⟩
                  have hBl := Below.then_ (Below.then_ hBi hBj) hBk
                  have hs1 := (hF1.below hBk).sees
                  have hs2 := hF2.sees
                  clear hF1 hF2 hBj hBk
                  go_wp2_with fail
                  refine (SameWords_any A1 A2 c1 c2 N N L L w8 hs1 hs2 HN.out HN.out (by omega)).mono ?_
                  rintro e w9 ⟨rfl, m, rfl⟩
                  rw [beq_self_eq_true]
                  go_wp2_with fail
                  go_roundw
                  case rel => exact ⟨s + 1, by omega, by go_num, below_drewN' hBl m⟩
                  case measure => simp [intOf]; omega
                · have hBw := Below.then_ hB5 hBi
                  have hFi := hF5.below hBi
                  have e0 : wi.cell? ⟨ga, 0, none⟩ = some (.int .i64 x.k) := hFi.cell (j := 0) rfl
                  have e1 : wi.cell? ⟨ga, 1, none⟩ = some (.int .i64 x.s) := hFi.cell (j := 1) rfl
                  have e2 : wi.cell? ⟨ga, 2, none⟩ = some (.int .i64 x.a) := hFi.cell (j := 2) rfl
                  have e3 : wi.cell? ⟨ga, 3, none⟩ = some (.slice x.A x.m x.c) := hFi.cell (j := 3) rfl
                  have rel : ∀ wz, Below wi.heap.size wi wz → ∃ (k_1 : Nat) (S T : Fl), k_1 ≤ N0 ∧ k_1 ≤ 40 ∧ Value.int .i64 ((k : Int) + 1) = .int .i64 k_1 ∧ NorAt w.heap.size wz p b S ∧ NorAt w.heap.size wz q d T ∧ S.Ok ∧ T.Ok ∧ Twin S T ∧ Below w.heap.size w wz :=
                    fun wz hz => ⟨k + 1, S', T, by omega, by omega, by go_num, hAi.below hz, hCi.below hz, hSok', hTok, hTw2, Below.then_ hBw hz⟩
                  clear f0 f3
                  go_wp2_with fail
                  have hsx := hxo5.sees.below (hBi.mono hB5.size)
                  go_loopw [11] (fun i wz => ∃ j : Nat, j ≤ x.m ∧ i = .int .i64 j ∧ Below wi.heap.size wi wz) (fun i _ => x.m - (intOf i).toNat)
                  case atStart => exact ⟨0, by omega, rfl, Below.refl _ _⟩
                  case round =>
                    obtain ⟨j, hj, rfl, hBz⟩ := hrel
                    by_cases hjm : j < x.m
                    · obtain ⟨gx, ox, hAx, hgx, y, HY, hy, hcy⟩ := (hsx.below (hBz.mono (Nat.le_trans hB5.size hBi.size))).word hxo5.len hjm
                      obtain ⟨hrd, hra, hj64⟩ := HT3.out j y HY.out
                      have hrd := hrd HDN.out
                      have hwj := wrapI (x.a + (j : Int)) (by have := hxo5.ha; omega) (by omega)
                      have hFz := hFi.below hBz
                      have i0 : wr.cell? ⟨ga, 0, none⟩ = some (.int .i64 x.k) := hFz.cell (j := 0) rfl
                      have i1 : wr.cell? ⟨ga, 1, none⟩ = some (.int .i64 x.s) := hFz.cell (j := 1) rfl
                      have i2 : wr.cell? ⟨ga, 2, none⟩ = some (.int .i64 x.a) := hFz.cell (j := 2) rfl
                      have i3 : wr.cell? ⟨ga, 3, none⟩ = some (.slice (some ⟨gx, ox, none⟩) x.m x.c) := by rw [← hAx]; exact hFz.cell (j := 3) rfl
                      have hAz := hAi.below hBz
                      clear e0 e1 e2 e3
                      go_wp2_with fail
                      go_quiet ((go_at_call 75; exact Calls.quiet_of (reads_any (hAz.below (below_drewN' (Below.refl _ _) _)) x.s (x.a + (j : Int)) (by have := hxo5.ha; omega) y hrd)))
                      have hjw := wrapI ((j : Int) + 1) (by omega) (by omega)
                      go_wp2_with fail
                      go_roundw
                      case rel => exact ⟨j + 1, by omega, by go_num, below_drewN' hBz _⟩
                      case measure => simp [intOf]; omega
                    · have hFz := hFi.below hBz
                      have i0 : wr.cell? ⟨ga, 0, none⟩ = some (.int .i64 x.k) := hFz.cell (j := 0) rfl
                      have i3 : wr.cell? ⟨ga, 3, none⟩ = some (.slice x.A x.m x.c) := hFz.cell (j := 3) rfl
                      clear e0 e1 e2 e3
                      go_wp2_with fail
                      go_roundw
                      case rel => exact rel _ hBz
                      case measure => simp [intOf]; omega
            · clear f0 f3
              go_wp2_with fail
              go_roundw
              case rel => exact ⟨k + 1, S', T, by omega, by omega, by go_num, hA5, hC5, hSok', hTok, hTw2, hB5⟩
              case measure => simp [intOf]; omega
          · have r0 : (((r : Nat) : Int) == 0) = false := by simp; exact hr0
            go_wp2_with fail
            refine (Down_any hA5).mono ?_
            rintro e wx ⟨rfl, rfl⟩
            go_wp2_with fail
            refine (Down_any hC5).mono ?_
            rintro e wx ⟨rfl, rfl⟩
            rw [← hTw2.down]
            have hdd : (S'.down != S'.down) = false := by simp
            go_wp2_with fail
            refine (Down_any hA5).mono ?_
            rintro e wx ⟨rfl, rfl⟩
            cases hdn : S'.down
            · have HDN := Lib.hid hdn
              clear hdn
              go_wp2_with fail
              go_loopw [10] (fun i wi => ∃ s : Nat, s ≤ 2 ∧ i = .int .i64 s ∧ Below wx.heap.size wx wi) (fun i _ => 2 - (intOf i).toNat)
              case atStart => exact ⟨0, by omega, rfl, Below.refl _ _⟩
              case round =>
                obtain ⟨s, hs, rfl, hBi⟩ := hrel
                obtain ⟨wi, hwi⟩ : ∃ wi, wi = wr := ⟨_, rfl⟩
                subst hwi
                have hAi := hA5.below hBi
                have hCi := hC5.below hBi
                by_cases hs2 : s < 2
                · obtain ⟨L, hL⟩ : ∃ L, S'.words s = L := ⟨_, rfl⟩
                  have hL' : T.words s = L := by rw [← hL]; exact (hTw2.words_same s hs2).symm
                  obtain ⟨N, hN⟩ : ∃ N, L.length = N := ⟨_, rfl⟩
                  have hNl : N ≤ 64 := by
                    rw [← hN, ← hL]
                    unfold Fl.words
                    split <;> simp
                    omega
                  have HN := Lib.hid hN
                  clear hN
                  go_wp2_with fail
                  refine (Sector_any hAi s N (by omega) (by rw [hL]; exact HN.out)).mono ?_
                  rw [hL]
                  rintro e w7 ⟨A1, c1, rfl, hF1, hBj⟩
                  go_wp2_with fail
                  refine (Sector_any (hCi.below hBj) s N (by omega) (by rw [hL']; exact HN.out)).mono ?_
                  rw [hL']
                  rintro e w8 ⟨A2, c2, rfl, hF2, hBk⟩
                  have hBl := Below.then_ (Below.then_ hBi hBj) hBk
                  have hs1 := (hF1.below hBk).sees
                  have hs2 := hF2.sees
                  clear hF1 hF2 hBj hBk
                  go_wp2_with fail
                  refine (SameWords_any A1 A2 c1 c2 N N L L w8 hs1 hs2 HN.out HN.out (by omega)).mono ?_
                  rintro e w9 ⟨rfl, m, rfl⟩
                  rw [beq_self_eq_true]
                  go_wp2_with fail
                  go_roundw
                  case rel => exact ⟨s + 1, by omega, by go_num, below_drewN' hBl m⟩
                  case measure => simp [intOf]; omega
                · have hBw := Below.then_ hB5 hBi
                  have hFi := hF5.below hBi
                  have e0 : wi.cell? ⟨ga, 0, none⟩ = some (.int .i64 x.k) := hFi.cell (j := 0) rfl
                  have e1 : wi.cell? ⟨ga, 1, none⟩ = some (.int .i64 x.s) := hFi.cell (j := 1) rfl
                  have e2 : wi.cell? ⟨ga, 2, none⟩ = some (.int .i64 x.a) := hFi.cell (j := 2) rfl
                  have e3 : wi.cell? ⟨ga, 3, none⟩ = some (.slice x.A x.m x.c) := hFi.cell (j := 3) rfl
                  have rel : ∀ wz, Below wi.heap.size wi wz → ∃ (k_1 : Nat) (S T : Fl), k_1 ≤ N0 ∧ k_1 ≤ 40 ∧ Value.int .i64 ((k : Int) + 1) = .int .i64 k_1 ∧ NorAt w.heap.size wz p b S ∧ NorAt w.heap.size wz q d T ∧ S.Ok ∧ T.Ok ∧ Twin S T ∧ Below w.heap.size w wz :=
                    fun wz hz => ⟨k + 1, S', T, by omega, by omega, by go_num, hAi.below hz, hCi.below hz, hSok', hTok, hTw2, Below.then_ hBw hz⟩
                  clear f0 f3
                  go_wp2_with fail
                  go_loopw [11] (fun i wz => i = .int .i64 0 ∧ wz = wi) (fun _ _ => 0)
                  case atStart => exact ⟨rfl, rfl⟩
                  case round =>
                    obtain ⟨rfl, rfl⟩ := hrel
                    by_cases hm0 : 0 < x.m
                    · go_wp2_with fail
                      go_roundw
                      case rel => exact rel _ (Below.refl _ _)
                      case measure => simp [intOf]; omega
                    · go_wp2_with fail
                      go_roundw
                      case rel => exact rel _ (Below.refl _ _)
                      case measure => simp [intOf]; omega
            · clear f0 f3
              go_wp2_with fail
              go_roundw
              case rel => exact ⟨k + 1, S', T, by omega, by omega, by go_num, hA5, hC5, hSok', hTok, hTw2, hB5⟩
              case measure => simp [intOf]; omega
        · have hkind : x.kind ≠ 3 := fun e => hk7 ((kind7 x).1 e)
          have hth := HTW.out.does x hkind
          have k7 : (x.k != 7) = true := by simp [hk7]
          have k7' : (x.k == 7) = false := by simp [hk7]
          obtain ⟨T', r', hr'⟩ : ∃ T' r', T.does x = (T', r') := ⟨_, _, rfl⟩
          rw [HR.out, hr'] at hth
          simp only at hth
          obtain ⟨-, hTw2⟩ := hth
          have hTok' : T'.Ok := by have := (Fl.does_ok T x hTok).2; rw [hr'] at this; exact this
          go_wp2_with (with_reducible refine wpList_load (o := ⟨some 47, _, _, _, _, _⟩) rfl (.tmp 8) 111 rfl ga 0 w5.heap.size rfl x.cells 5 rfl (by kernel_rfl) hF5.sees ?_)
          refine (does_any hC5 hTok x hxo5 hB5.size T' r' hr').mono ?_
          rintro e w6 ⟨rfl, hC6, hu6⟩
          have hF6 := hF5.but hu6 nq nd
          have hA6 := hA5.but hu6 ne1 ne2 ne3 ne4
          have hB6 := hB5.trans (hu6.below g3 g4 hB5.size)
          have f0 : w6.cell? ⟨ga, 0, none⟩ = some (.int .i64 x.k) := hF6.cell (j := 0) rfl
          have f3 : w6.cell? ⟨ga, 3, none⟩ = some (.slice x.A x.m x.c) := hF6.cell (j := 3) rfl
          clear hr' hA5 hC5 hF5 hB5 hxo5 hu6 f1
          go_wp2_with fail
          refine (Down_any hA6).mono ?_
          rintro e wx ⟨rfl, rfl⟩
          go_wp2_with fail
          refine (Down_any hC6).mono ?_
          rintro e wx ⟨rfl, rfl⟩
          rw [← hTw2.down]
          have hdd : (S'.down != S'.down) = false := by simp
          go_wp2_with fail
          refine (Down_any hA6).mono ?_
          rintro e wx ⟨rfl, rfl⟩
          cases hdn : S'.down
          · have HDN := Lib.hid hdn
            clear hdn
            go_wp2_with fail
            go_loopw [10] (fun i wi => ∃ s : Nat, s ≤ 2 ∧ i = .int .i64 s ∧ Below wx.heap.size wx wi) (fun i _ => 2 - (intOf i).toNat)
            case atStart => exact ⟨0, by omega, rfl, Below.refl _ _⟩
            case round =>
              obtain ⟨s, hs, rfl, hBi⟩ := hrel
              obtain ⟨wi, hwi⟩ : ∃ wi, wi = wr := ⟨_, rfl⟩
              subst hwi
              have hAi := hA6.below hBi
              have hCi := hC6.below hBi
              by_cases hs2 : s < 2
              · obtain ⟨L, hL⟩ : ∃ L, S'.words s = L := ⟨_, rfl⟩
                have hL' : T'.words s = L := by rw [← hL]; exact (hTw2.words_same s hs2).symm
                obtain ⟨N, hN⟩ : ∃ N, L.length = N := ⟨_, rfl⟩
                have hNl : N ≤ 64 := by
                  rw [← hN, ← hL]
                  unfold Fl.words
                  split <;> simp
                  omega
                have HN := Lib.hid hN
                clear hN
                go_wp2_with fail
                refine (Sector_any hAi s N (by omega) (by rw [hL]; exact HN.out)).mono ?_
                rw [hL]
                rintro e w7 ⟨A1, c1, rfl, hF1, hBj⟩
                go_wp2_with fail
                refine (Sector_any (hCi.below hBj) s N (by omega) (by rw [hL']; exact HN.out)).mono ?_
                rw [hL']
                rintro e w8 ⟨A2, c2, rfl, hF2, hBk⟩
                have hBl := Below.then_ (Below.then_ hBi hBj) hBk
                have hs1 := (hF1.below hBk).sees
                have hs2 := hF2.sees
                clear hF1 hF2 hBj hBk
                go_wp2_with fail
                refine (SameWords_any A1 A2 c1 c2 N N L L w8 hs1 hs2 HN.out HN.out (by omega)).mono ?_
                rintro e w9 ⟨rfl, m, rfl⟩
                rw [beq_self_eq_true]
                go_wp2_with fail
                go_roundw
                case rel => exact ⟨s + 1, by omega, by go_num, below_drewN' hBl m⟩
                case measure => simp [intOf]; omega
              · have hBw := Below.then_ hB6 hBi
                have hFi := hF6.below hBi
                have e0 : wi.cell? ⟨ga, 0, none⟩ = some (.int .i64 x.k) := hFi.cell (j := 0) rfl
                have e1 : wi.cell? ⟨ga, 1, none⟩ = some (.int .i64 x.s) := hFi.cell (j := 1) rfl
                have e2 : wi.cell? ⟨ga, 2, none⟩ = some (.int .i64 x.a) := hFi.cell (j := 2) rfl
                have e3 : wi.cell? ⟨ga, 3, none⟩ = some (.slice x.A x.m x.c) := hFi.cell (j := 3) rfl
                have rel : ∀ wz, Below wi.heap.size wi wz → ∃ (k_1 : Nat) (S T : Fl), k_1 ≤ N0 ∧ k_1 ≤ 40 ∧ Value.int .i64 ((k : Int) + 1) = .int .i64 k_1 ∧ NorAt w.heap.size wz p b S ∧ NorAt w.heap.size wz q d T ∧ S.Ok ∧ T.Ok ∧ Twin S T ∧ Below w.heap.size w wz :=
                  fun wz hz => ⟨k + 1, S', T', by omega, by omega, by go_num, hAi.below hz, hCi.below hz, hSok', hTok', hTw2, Below.then_ hBw hz⟩
                clear f0 f3
                go_wp2_with fail
                go_loopw [11] (fun i wz => i = .int .i64 0 ∧ wz = wi) (fun _ _ => 0)
                case atStart => exact ⟨rfl, rfl⟩
                case round =>
                  obtain ⟨rfl, rfl⟩ := hrel
                  by_cases hm0 : 0 < x.m
                  · go_wp2_with fail
                    go_roundw
                    case rel => exact rel _ (Below.refl _ _)
                    case measure => simp [intOf]; omega
                  · go_wp2_with fail
                    go_roundw
                    case rel => exact rel _ (Below.refl _ _)
                    case measure => simp [intOf]; omega
          · clear f0 f3
            go_wp2_with fail
            go_roundw
            case rel => exact ⟨k + 1, S', T', by omega, by omega, by go_num, hA6, hC6, hSok', hTok', hTw2, hB6⟩
            case measure => simp [intOf]; omega
      · go_wp2_with fail
        refine (awake4_any _).mono ?_
        rintro e w3 ⟨rfl, hB3⟩
        go_wp2_with fail
        go_ret
        exact ⟨rfl, Below.then_ hB hB3⟩
    · go_wp2_with fail
      refine (awake4_any _).mono ?_
      rintro e w3 ⟨rfl, hB3⟩
      go_wp2_with fail
      go_ret
      exact ⟨rfl, Below.then_ hB hB3⟩
end Go.Proofs.Ytmeloffdaninmaa
