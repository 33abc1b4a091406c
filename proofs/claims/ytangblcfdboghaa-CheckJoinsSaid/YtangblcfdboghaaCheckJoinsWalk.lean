/-
  Whichever way one takes through a program that passes: the walk of CheckJoins.
-/
import Derived.Test.YtangblcfdboghaaCheckAwake
namespace Go.Proofs.Ytangblcfdboghaa
open Go.RowKit
set_option linter.unusedVariables false
set_option linter.constructorNameAsVariable false

theorem mem_onF_18 {j : Jn} {k : Nat} (h : j.op = 18) : j.a.toNat ∈ onF j k := by simp [onF, h]
theorem mem_onF_19 {j : Jn} {k : Nat} (h : j.op = 19) : j.a.toNat ∈ onF j k ∧ k + 1 ∈ onF j k := by simp [onF, h]
theorem mem_onF_on {j : Jn} {k : Nat} (h : j.op ≠ 18) : k + 1 ∈ onF j k := by
  unfold onF
  rw [if_neg h]
  split <;> simp
set_option maxHeartbeats 8000000 in
set_option maxRecDepth 100000 in
theorem checkJoins_any (w : World) (m : Pm) (hm : PmAt w.heap.size w m) (T : Option Addr) (n tc : Nat) (bs : List Bool) (hb : bs.length = n) (hT : Sees w w.heap.size T (bs.map Value.bool)) :
    Calls Try.prog 7 #[.agg m.cells.toArray, .slice T n tc] w fun e w' => e = .returned (.bool true) ∧ Below w.heap.size w w' := by
  have quit : ∀ wq, Below w.heap.size w wq → Calls Try.prog 28 #[] wq fun e w' => e = .returned (.bool true) ∧ Below w.heap.size w w' := fun wq hq => (awake14_any wq).mono (fun e w' h => ⟨h.1, Below.then_ hq h.2⟩)
  have hSp : ∀ w', Below w.heap.size w w' → Calls Try.prog 29 #[.agg m.cells.toArray] w' (SpotsOut m.p w') := fun w' hw => Spots_any m w' (hm.step hw)
  have hSt : ∀ w', Below w.heap.size w w' → Calls Try.prog 31 #[.agg m.cells.toArray] w' fun e w2 => e = .returned (.int .i64 (stepsF m.p : Int)) ∧ Below w'.heap.size w' w2 := fun w' hw => Steps_any m w' (hm.step hw)
  have HST := Lib.hid hSt
  have HSP := Lib.hid hSp
  clear hSt hSp
  go_enter Try.func7, Try.ntmps7
  go_wp2_with (first
    | (with_reducible refine wpList_box (o := ⟨some 2, _, _, _, _, _⟩) rfl (.tmp 0) 26 rfl m.cells rfl 4 (pm4 m) (by decide) ?_; intro gc w1 hgc hC hB1; have hm1 := hm.step hB1)
    | (with_reducible refine wpList_load (o := ⟨some 13, _, _, _, _, _⟩) rfl (.tmp 2) 26 rfl gc 0 _ rfl m.cells 4 (pm4 m) aggCode hC.sees ?_)
    | (go_at_call 12; refine (GreatC_any m _ hm1).mono ?_))
  rintro e w2 ⟨⟨b, rfl, hgt⟩, hB2⟩
  have hC2 := hC.below hB2
  have hBw2 := Below.then_ hB1 hB2
  clear hB1 hB2 hC hgt hm1
  cases b
  rotate_left
  · go_wp2_with (first
      | (go_at_call 28; refine (quit _ hBw2).mono ?_; rintro e wz ⟨rfl, hBz⟩))
    go_ret
    exact ⟨rfl, hBz⟩
  cases hs : spotsF m.p with
  | error x =>
    obtain ⟨q, er⟩ := x
    have hst0 : stepsF m.p = 0 := by simp [stepsF, hs]
    have her := spots_err hs
    have hne : ((er : Int) != 0) = true := by simp; omega
    have hne2 : ((er : Int) == 0) = false := by simp; omega
    have hsp := HSP.out
    unfold SpotsOut at hsp
    rw [hs] at hsp
    simp only at hsp
    have hst := HST.out
    rw [hst0] at hst
    have HSP := Lib.hid hsp
    have HST := Lib.hid hst
    clear hsp hst hst0 hs her
    go_wp2_with (first
      | (with_reducible refine wpList_load (o := ⟨some 17, _, _, _, _, _⟩) rfl (.tmp 2) 26 rfl gc 0 _ rfl m.cells 4 (pm4 m) aggCode hC2.sees ?_)
      | (go_at_call 29; refine (HSP.out _ hBw2).mono ?_; rintro e w3 ⟨hB3, rfl⟩; have hBw3 := Below.then_ hBw2 hB3; have hC3 := hC2.below hB3)
      | (with_reducible refine wpList_load_g (.tmp 2) 26 rfl gc 0 _ rfl m.cells 4 (pm4 m) aggCode hC3.sees rfl ?_)
      | (go_at_call 31; refine (HST.out _ hBw3).mono ?_; rintro e w4 ⟨rfl, hB4⟩; have hBw4 := Below.then_ hBw3 hB4)
      | (go_at_call 28; refine (quit _ hBw4).mono ?_; rintro e wz ⟨rfl, hBz⟩))
    go_ret
    exact ⟨rfl, hBz⟩
  | ok l =>
    have hll := spots_len hs
    have hr := spots_right hs
    have hmo := most_small hs
    have hni := (right_ins hr).2
    rw [hm.ni] at hll hni
    have hst0 : stepsF m.p = mostF l := by simp [stepsF, hs]
    have hsp := HSP.out
    unfold SpotsOut at hsp
    rw [hs] at hsp
    simp only at hsp
    have hst := HST.out
    rw [hst0] at hst
    obtain ⟨M, hM⟩ : ∃ M, l.length = M := ⟨_, rfl⟩
    rw [hM] at hsp hll
    have hM2 : (m.ni : Int) + 1 = (M : Int) := by omega
    have hM3 : IntKind.i64.wrap (M : Int) = (M : Int) := by rw [IntKind.wrap_i64]; omega
    have HFIT : Hid (∀ q, q < m.ni + 1 → Fit m.p l q) := Lib.hid (fun q hq => spots_fit hs (by rw [hm.ni]; exact hq))
    have HON : Hid (∀ q, q < m.ni → ¬ (((jn m.p q).op = 18 ∨ (jn m.p q).op = 19) ∧ (jn m.p q).a ≤ q) → ∀ x ∈ onF (jn m.p q) q, q < x ∧ x < m.ni + 1) := Lib.hid (fun q hq hf => by
      have := onF_in (k := q) hr (by rw [hm.ni]; exact hq) hf
      rw [hm.ni] at this
      exact this)
    have hfirst := spots_first hs
    have hlow := spots_low hs
    rw [hm.ni] at hlow
    have HNI := Lib.hid hm.ni
    have HMOST : Hid (∀ q, q < m.ni → (sp l q).r = true → (sp l q).k + 1 ≤ mostF l) := Lib.hid (fun q hq hr => most_at (n := m.ni) (by omega) hq hr)
    have HOK : Hid (∀ j ∈ m.p.ins, jnOk m.p j = true) := Lib.hid (fun j hj => by
      simp only [Pg.right, insOk, Bool.and_eq_true] at hr
      exact List.all_eq_true.1 hr.2.2.2.2 _ hj)
    obtain ⟨mo, hmo2⟩ : ∃ mo, mostF l = mo := ⟨_, rfl⟩
    rw [hmo2] at hst hmo HMOST
    have HSP := Lib.hid hsp
    have HST := Lib.hid hst
    have HM := Lib.hid hM
    have HLL := Lib.hid hll
    clear hsp hst hst0 hs hmo2 hM hll hr
    go_wp2_with (first
      | (with_reducible refine wpList_load (o := ⟨some 17, _, _, _, _, _⟩) rfl (.tmp 2) 26 rfl gc 0 _ rfl m.cells 4 (pm4 m) aggCode hC2.sees ?_)
      | (go_at_call 29; refine (HSP.out _ hBw2).mono ?_; rintro e w3 ⟨hB3, g, rfl, hS⟩; have hBw3 := Below.then_ hBw2 hB3; have hC3 := hC2.below hB3; have u3 := hC3.cell_ (k := 3) (u := .slice m.ai m.ni m.ci) rfl))
    have hsml := hm.small.2.2
    go_loopw [8, 9, 10, 11, 12] (fun at_ st s10 s11 s12 wr => ∃ k q : Nat, k ≤ m.ni ∧ at_ = .int .i64 (k : Int) ∧ st = .int .i64 (q : Int) ∧ Hid ((sp l k).r = true ∧ q ≤ (sp l k).k ∧ q ≤ mo) ∧ Below w3.heap.size w3 wr) (fun at_ _ _ _ _ _ => m.ni - (intOf at_).toNat)
    case atStart => exact ⟨0, 0, Nat.zero_le _, rfl, rfl, Lib.hid ⟨hfirst.1, Nat.zero_le _, Nat.zero_le _⟩, Below.refl _ _⟩
    case round =>
      obtain ⟨k, q, hk, rfl, rfl, HK, hBr⟩ := hrel
      have hSr := hS.below hBr
      have hCr := hC3.below hBr
      have u3 := hCr.cell_ (k := 3) (u := .slice m.ai m.ni m.ci) rfl
      have hBwr := Below.then_ hBw3 hBr
      obtain ⟨A, c, hc, hFA⟩ := hSr.get (x := k) (by rw [HM.out]; have := HLL.out; omega)
      obtain ⟨hl64, hk2⟩ := hlow.sp k
      have hkr := HK.out
      have hfit := HFIT.out k (by omega) hkr.1
      have hmost := HMOST.out
      obtain ⟨⟨r, st, k0⟩, hs0⟩ : ∃ s, sp l k = s := ⟨_, rfl⟩
      have hmk := fun h => hmost k h hkr.1
      rw [hs0] at hc hFA hl64 hk2 hkr hfit hmk
      simp only at hFA hl64 hk2 hkr hfit hmk
      obtain ⟨rfl, hq1, hq2⟩ := hkr
      clear hmost hs0 HK
      by_cases hlt : k < m.ni
      · obtain ⟨bi, oi, hA, hbi, j, HX, hxj, hX0⟩ := (hm.step hBwr).ins.quad jn4 hm.ni hlt
        have ej : jn m.p k = j := jn_get HX.out
        have hoj := hm.oki j hxj
        have hon := HON.out k hlt
        have hjok := HOK.out j hxj
        rw [ej] at hfit hon
        have hcc : m.cells = [sv m.p.name, .slice m.av m.nv m.cv, .slice m.ab m.nb m.cb, .slice (some ⟨bi, oi, none⟩) m.ni m.ci] := by rw [Pm.cells, hA]
        have u3 := hCr.cell_ (k := 3) (u := .slice (some ⟨bi, oi, none⟩) m.ni m.ci) (by rw [hcc]; rfl)
        obtain ⟨N, hN⟩ : ∃ N, st.length = N := ⟨_, rfl⟩
        have HN := Lib.hid hN
        rw [hN] at hl64 hFA
        have hmk := hmk hlt
        have hgt : decide ((k0 : Int) < (q : Int)) = false := by simp; omega
        have hgt2 : decide ((q : Int) > (k0 : Int)) = false := by simp; omega
        have h64 : decide ((64 : Int) < (N : Int)) = false := by simp; omega
        have h64b : decide ((N : Int) > 64) = false := by simp; omega
        have hnl : ¬ (k = m.p.ins.length) := by rw [HNI.out]; omega
        have HCC := Lib.hid hcc
        clear hcc hA ej HX hFA hN hxj
        by_cases h22 : j.op = 22
        · rw [if_pos (.inr h22)] at hfit
          have hN0 : N = 0 := by rw [← HN.out, hfit]; rfl
          have eN : ((N : Int) == 0) = true := by simp [hN0]
          have eo : ((j.op : Int) == 22) = true := by simp; omega
          have hle : decide ((q : Int) + 1 ≤ (mo : Int)) = true := by simp; omega
          clear hfit hN0 hon
          go_wp2_with (first
            | (with_reducible refine wpList_load (o := ⟨some 50, _, _, _, _, _⟩) rfl (.tmp 49) 64 rfl g (k * 3) _ rfl (c3 (⟨true, st, k0⟩, A, c)) 3 rfl aggSp hc ?_)
            | (with_reducible refine wpList_alloc (o := ⟨some 10, _, _, _, _, _⟩) rfl 64 rfl (c3 (default, none, 0)) zeroSp 3 rfl (by decide) ?_; intro bv10 wa hgwa hFwa hBwa)
            | (
                with_reducible refine wpList_store rfl rfl (.tmp 10) (.tmp 50) 64 rfl bv10 0 wr.heap.size 64 3 (c3 (default, none, 0)) (c3 (⟨true, st, k0⟩, A, c)) ?_ ?_ 3 ?_ ?_ ?_ ?_ ?_ wr ?_ ?_ ?_
                · rfl
                · rfl
                · rfl
                · exact aggSp
                · exact hFwa
                · omega
                · exact c3_one _
                · exact hBwa
                · exact hgwa
                intro wb hFwb hBwb hkwb hswb
                rw [splice_c3] at hFwb; have v0 := hFwb.cell_ (k := 0) (u := .bool true) rfl; have v1 := hFwb.cell_ (k := 1) (u := .slice A N c) (by rw [← HN.out]; rfl); have v2 := hFwb.cell_ (k := 2) (u := .int .i64 (k0 : Int)) rfl; have hCb := hCr.below hBwb; have u3 := hCb.cell_ (k := 3) (u := .slice (some ⟨bi, oi, none⟩) m.ni m.ci) (by rw [HCC.out]; rfl); have hX1 := hX0.step hBwb)
            | (with_reducible refine wpList_load (o := ⟨some 70, _, _, _, _, _⟩) rfl (.tmp 69) 53 rfl bi (oi + k * 4) _ rfl j.cells 4 (jn4 j) aggIns hX1 ?_)
            | (with_reducible refine wpList_alloc (o := ⟨some 11, _, _, _, _, _⟩) rfl 53 rfl (Jn.cells default) zeroIns 4 rfl (by decide) ?_; intro bj wd hgwd hFwd hBwd)
            | (
                with_reducible refine wpList_store rfl rfl (.tmp 11) (.tmp 70) 53 rfl bj 0 wb.heap.size 53 4 (Jn.cells default) j.cells ?_ ?_ 4 ?_ ?_ ?_ ?_ ?_ wb ?_ ?_ ?_
                · rfl
                · rfl
                · rfl
                · exact aggIns
                · exact hFwd
                · omega
                · exact jn_one j
                · exact hBwd
                · exact hgwd
                intro we hFwe hBwe hkwe hswe
                rw [splice_jn] at hFwe; have j0 := hFwe.cell_ (k := 0) rfl; have hVe := hFwb.below hBwe; have v0 := hVe.cell_ (k := 0) (u := .bool true) rfl; have v1 := hVe.cell_ (k := 1) (u := .slice A N c) (by rw [← HN.out]; rfl); have hB2v := Below.then_ hBwb hBwe; have hCe := hCb.below hBwe; have hBwe2 := Below.then_ hBwr hB2v)
            | (with_reducible refine wpList_load_g (.tmp 2) 26 rfl gc 0 _ rfl m.cells 4 (pm4 m) aggCode hCe.sees rfl ?_)
            | (go_at_call 31; refine (HST.out _ hBwe2).mono ?_; rintro e w4 ⟨rfl, hB4⟩; have hBw4 := Below.then_ hBwe2 hB4)
            | (go_at_call 28; refine (quit _ hBw4).mono ?_; rintro e wz ⟨rfl, hBz⟩))
          go_ret
          exact ⟨rfl, hBz⟩
        · have e22 : ((j.op : Int) == 22) = false := by simp; omega
          rw [if_neg (fun h => h.elim hnl h22)] at hfit
          obtain ⟨hnf, s9, -, hfit⟩ := hfit
          have hon := hon hnf
          have hjmp : ∀ x, x ∈ onF j k → k < x ∧ x < m.ni + 1 ∧ (sp l x).r = true ∧ k0 + 1 ≤ (sp l x).k := fun x hx => ⟨(hon x hx).1, (hon x hx).2, (hfit x hx).1, (hfit x hx).2.2⟩
          clear hfit hon hnf h22
          by_cases h18 : j.op = 18
          · have e18 : ((j.op : Int) == 18) = true := by simp; omega
            obtain ⟨ja, hja⟩ : ∃ ja : Nat, j.a = ja := by
              rw [jnOk_some (show letF j.op = some (48, 106, 48) by rw [h18]; rfl)] at hjok
              simp [mayF, isPl] at hjok
              exact ⟨j.a.toNat, by omega⟩
            obtain ⟨x1, x2, x3, x4⟩ := hjmp ja (by have := mem_onF_18 (k := k) h18; rw [hja, Int.toNat_natCast] at this; exact this)
            have HJA := Lib.hid hja
            have hgo : decide ((ja : Int) ≤ (k : Int)) = false := by simp; omega
            clear hja hjmp
            go_wp2_with (first
              | (with_reducible refine wpList_load (o := ⟨some 50, _, _, _, _, _⟩) rfl (.tmp 49) 64 rfl g (k * 3) _ rfl (c3 (⟨true, st, k0⟩, A, c)) 3 rfl aggSp hc ?_)
              | (with_reducible refine wpList_alloc (o := ⟨some 10, _, _, _, _, _⟩) rfl 64 rfl (c3 (default, none, 0)) zeroSp 3 rfl (by decide) ?_; intro bv10 wa hgwa hFwa hBwa)
              | (
                  with_reducible refine wpList_store rfl rfl (.tmp 10) (.tmp 50) 64 rfl bv10 0 wr.heap.size 64 3 (c3 (default, none, 0)) (c3 (⟨true, st, k0⟩, A, c)) ?_ ?_ 3 ?_ ?_ ?_ ?_ ?_ wr ?_ ?_ ?_
                  · rfl
                  · rfl
                  · rfl
                  · exact aggSp
                  · exact hFwa
                  · omega
                  · exact c3_one _
                  · exact hBwa
                  · exact hgwa
                  intro wb hFwb hBwb hkwb hswb
                  rw [splice_c3] at hFwb; have v0 := hFwb.cell_ (k := 0) (u := .bool true) rfl; have v1 := hFwb.cell_ (k := 1) (u := .slice A N c) (by rw [← HN.out]; rfl); have v2 := hFwb.cell_ (k := 2) (u := .int .i64 (k0 : Int)) rfl; have hCb := hCr.below hBwb; have u3 := hCb.cell_ (k := 3) (u := .slice (some ⟨bi, oi, none⟩) m.ni m.ci) (by rw [HCC.out]; rfl); have hX1 := hX0.step hBwb)
              | (with_reducible refine wpList_load (o := ⟨some 70, _, _, _, _, _⟩) rfl (.tmp 69) 53 rfl bi (oi + k * 4) _ rfl j.cells 4 (jn4 j) aggIns hX1 ?_)
              | (with_reducible refine wpList_alloc (o := ⟨some 11, _, _, _, _, _⟩) rfl 53 rfl (Jn.cells default) zeroIns 4 rfl (by decide) ?_; intro bj wd hgwd hFwd hBwd)
              | (
                  with_reducible refine wpList_store rfl rfl (.tmp 11) (.tmp 70) 53 rfl bj 0 wb.heap.size 53 4 (Jn.cells default) j.cells ?_ ?_ 4 ?_ ?_ ?_ ?_ ?_ wb ?_ ?_ ?_
                  · rfl
                  · rfl
                  · rfl
                  · exact aggIns
                  · exact hFwd
                  · omega
                  · exact jn_one j
                  · exact hBwd
                  · exact hgwd
                  intro we hFwe hBwe hkwe hswe
                  rw [splice_jn] at hFwe; have j0 := hFwe.cell_ (k := 0) rfl; have hVe := hFwb.below hBwe; have v0 := hVe.cell_ (k := 0) (u := .bool true) rfl; have v1 := hVe.cell_ (k := 1) (u := .slice A N c) (by rw [← HN.out]; rfl); have hB2v := Below.then_ hBwb hBwe; have hCe := hCb.below hBwe; have hBwe2 := Below.then_ hBwr hB2v; have j2 := hFwe.cell_ (k := 2) (u := .int .i64 (ja : Int)) (by rw [← HJA.out]; rfl)))
            go_roundw
            case rel => exact ⟨ja, q + 1, by omega, rfl, by go_num, Lib.hid ⟨x3, by omega, by omega⟩, Below.then_ hBr hB2v⟩
            case measure => simp [intOf]; omega
          · have e18 : ((j.op : Int) == 18) = false := by simp; omega
            by_cases h19 : j.op = 19
            · have e19 : ((j.op : Int) == 19) = true := by simp; omega
              obtain ⟨ja, hja⟩ : ∃ ja : Nat, j.a = ja := by
                rw [jnOk_some (show letF j.op = some (48, 106, 48) by rw [h19]; rfl)] at hjok
                simp [mayF, isPl] at hjok
                exact ⟨j.a.toNat, by omega⟩
              have hmem := mem_onF_19 (k := k) h19
              rw [hja, Int.toNat_natCast] at hmem
              obtain ⟨x1, x2, x3, x4⟩ := hjmp ja hmem.1
              obtain ⟨y1, y2, y3, y4⟩ := hjmp (k + 1) hmem.2
              have HJA := Lib.hid hja
              have hgo : decide ((ja : Int) ≤ (k : Int)) = false := by simp; omega
              have hgo1 : decide ((k : Int) + 1 ≤ (k : Int)) = false := by simp; omega
              obtain ⟨z, hz⟩ : ∃ z, (q + 1) % 7 = z := ⟨_, rfl⟩
              have hz1 : ((q : Int) + 1).tmod 7 = (z : Int) := by rw [Int.tmod_eq_emod_of_nonneg (by omega)]; omega
              have hz2 : ((q : Int) + 1) % 7 = (z : Int) := by omega
              have hz3 : z < 7 := by omega
              clear hja hjmp hmem hz
              by_cases hzn : z < n
              · have ezn : decide ((z : Int) < (n : Int)) = true := by simp; omega
                obtain ⟨tb, to, rfl, htb, hct⟩ := hT.step hBwr (by rw [List.length_map, hb]; omega)
                obtain ⟨bv, hbv⟩ : ∃ bv, bs[z]? = some bv := ⟨_, List.getElem?_eq_getElem (by omega)⟩
                have hct := hct z (.bool bv) (by rw [List.getElem?_map, hbv]; rfl)
                clear hbv
                cases bv
                · go_wp2_with (first
                    | (with_reducible refine wpList_load (o := ⟨some 50, _, _, _, _, _⟩) rfl (.tmp 49) 64 rfl g (k * 3) _ rfl (c3 (⟨true, st, k0⟩, A, c)) 3 rfl aggSp hc ?_)
                    | (with_reducible refine wpList_alloc (o := ⟨some 10, _, _, _, _, _⟩) rfl 64 rfl (c3 (default, none, 0)) zeroSp 3 rfl (by decide) ?_; intro bv10 wa hgwa hFwa hBwa)
                    | (
                        with_reducible refine wpList_store rfl rfl (.tmp 10) (.tmp 50) 64 rfl bv10 0 wr.heap.size 64 3 (c3 (default, none, 0)) (c3 (⟨true, st, k0⟩, A, c)) ?_ ?_ 3 ?_ ?_ ?_ ?_ ?_ wr ?_ ?_ ?_
                        · rfl
                        · rfl
                        · rfl
                        · exact aggSp
                        · exact hFwa
                        · omega
                        · exact c3_one _
                        · exact hBwa
                        · exact hgwa
                        intro wb hFwb hBwb hkwb hswb
                        rw [splice_c3] at hFwb; have v0 := hFwb.cell_ (k := 0) (u := .bool true) rfl; have v1 := hFwb.cell_ (k := 1) (u := .slice A N c) (by rw [← HN.out]; rfl); have v2 := hFwb.cell_ (k := 2) (u := .int .i64 (k0 : Int)) rfl; have hCb := hCr.below hBwb; have u3 := hCb.cell_ (k := 3) (u := .slice (some ⟨bi, oi, none⟩) m.ni m.ci) (by rw [HCC.out]; rfl); have hX1 := hX0.step hBwb)
                    | (with_reducible refine wpList_load (o := ⟨some 70, _, _, _, _, _⟩) rfl (.tmp 69) 53 rfl bi (oi + k * 4) _ rfl j.cells 4 (jn4 j) aggIns hX1 ?_)
                    | (with_reducible refine wpList_alloc (o := ⟨some 11, _, _, _, _, _⟩) rfl 53 rfl (Jn.cells default) zeroIns 4 rfl (by decide) ?_; intro bj wd hgwd hFwd hBwd)
                    | (
                        with_reducible refine wpList_store rfl rfl (.tmp 11) (.tmp 70) 53 rfl bj 0 wb.heap.size 53 4 (Jn.cells default) j.cells ?_ ?_ 4 ?_ ?_ ?_ ?_ ?_ wb ?_ ?_ ?_
                        · rfl
                        · rfl
                        · rfl
                        · exact aggIns
                        · exact hFwd
                        · omega
                        · exact jn_one j
                        · exact hBwd
                        · exact hgwd
                        intro we hFwe hBwe hkwe hswe
                        rw [splice_jn] at hFwe; have j0 := hFwe.cell_ (k := 0) rfl; have hVe := hFwb.below hBwe; have v0 := hVe.cell_ (k := 0) (u := .bool true) rfl; have v1 := hVe.cell_ (k := 1) (u := .slice A N c) (by rw [← HN.out]; rfl); have hB2v := Below.then_ hBwb hBwe; have hCe := hCb.below hBwe; have hBwe2 := Below.then_ hBwr hB2v; have j2 := hFwe.cell_ (k := 2) (u := .int .i64 (ja : Int)) (by rw [← HJA.out]; rfl); have hct := (hB2v.cell (p := ⟨tb, to + z, none⟩) htb).trans hct))
                  go_roundw
                  case rel => exact ⟨k + 1, q + 1, by omega, by go_num, by go_num, Lib.hid ⟨y3, by omega, by omega⟩, Below.then_ hBr hB2v⟩
                  case measure => simp [intOf]; omega
                · go_wp2_with (first
                    | (with_reducible refine wpList_load (o := ⟨some 50, _, _, _, _, _⟩) rfl (.tmp 49) 64 rfl g (k * 3) _ rfl (c3 (⟨true, st, k0⟩, A, c)) 3 rfl aggSp hc ?_)
                    | (with_reducible refine wpList_alloc (o := ⟨some 10, _, _, _, _, _⟩) rfl 64 rfl (c3 (default, none, 0)) zeroSp 3 rfl (by decide) ?_; intro bv10 wa hgwa hFwa hBwa)
                    | (
                        with_reducible refine wpList_store rfl rfl (.tmp 10) (.tmp 50) 64 rfl bv10 0 wr.heap.size 64 3 (c3 (default, none, 0)) (c3 (⟨true, st, k0⟩, A, c)) ?_ ?_ 3 ?_ ?_ ?_ ?_ ?_ wr ?_ ?_ ?_
                        · rfl
                        · rfl
                        · rfl
                        · exact aggSp
                        · exact hFwa
                        · omega
                        · exact c3_one _
                        · exact hBwa
                        · exact hgwa
                        intro wb hFwb hBwb hkwb hswb
                        rw [splice_c3] at hFwb; have v0 := hFwb.cell_ (k := 0) (u := .bool true) rfl; have v1 := hFwb.cell_ (k := 1) (u := .slice A N c) (by rw [← HN.out]; rfl); have v2 := hFwb.cell_ (k := 2) (u := .int .i64 (k0 : Int)) rfl; have hCb := hCr.below hBwb; have u3 := hCb.cell_ (k := 3) (u := .slice (some ⟨bi, oi, none⟩) m.ni m.ci) (by rw [HCC.out]; rfl); have hX1 := hX0.step hBwb)
                    | (with_reducible refine wpList_load (o := ⟨some 70, _, _, _, _, _⟩) rfl (.tmp 69) 53 rfl bi (oi + k * 4) _ rfl j.cells 4 (jn4 j) aggIns hX1 ?_)
                    | (with_reducible refine wpList_alloc (o := ⟨some 11, _, _, _, _, _⟩) rfl 53 rfl (Jn.cells default) zeroIns 4 rfl (by decide) ?_; intro bj wd hgwd hFwd hBwd)
                    | (
                        with_reducible refine wpList_store rfl rfl (.tmp 11) (.tmp 70) 53 rfl bj 0 wb.heap.size 53 4 (Jn.cells default) j.cells ?_ ?_ 4 ?_ ?_ ?_ ?_ ?_ wb ?_ ?_ ?_
                        · rfl
                        · rfl
                        · rfl
                        · exact aggIns
                        · exact hFwd
                        · omega
                        · exact jn_one j
                        · exact hBwd
                        · exact hgwd
                        intro we hFwe hBwe hkwe hswe
                        rw [splice_jn] at hFwe; have j0 := hFwe.cell_ (k := 0) rfl; have hVe := hFwb.below hBwe; have v0 := hVe.cell_ (k := 0) (u := .bool true) rfl; have v1 := hVe.cell_ (k := 1) (u := .slice A N c) (by rw [← HN.out]; rfl); have hB2v := Below.then_ hBwb hBwe; have hCe := hCb.below hBwe; have hBwe2 := Below.then_ hBwr hB2v; have j2 := hFwe.cell_ (k := 2) (u := .int .i64 (ja : Int)) (by rw [← HJA.out]; rfl); have hct := (hB2v.cell (p := ⟨tb, to + z, none⟩) htb).trans hct))
                  go_roundw
                  case rel => exact ⟨ja, q + 1, by omega, rfl, by go_num, Lib.hid ⟨x3, by omega, by omega⟩, Below.then_ hBr hB2v⟩
                  case measure => simp [intOf]; omega
              · have ezn : decide ((z : Int) < (n : Int)) = false := by simp; omega
                go_wp2_with (first
                  | (with_reducible refine wpList_load (o := ⟨some 50, _, _, _, _, _⟩) rfl (.tmp 49) 64 rfl g (k * 3) _ rfl (c3 (⟨true, st, k0⟩, A, c)) 3 rfl aggSp hc ?_)
                  | (with_reducible refine wpList_alloc (o := ⟨some 10, _, _, _, _, _⟩) rfl 64 rfl (c3 (default, none, 0)) zeroSp 3 rfl (by decide) ?_; intro bv10 wa hgwa hFwa hBwa)
                  | (
                      with_reducible refine wpList_store rfl rfl (.tmp 10) (.tmp 50) 64 rfl bv10 0 wr.heap.size 64 3 (c3 (default, none, 0)) (c3 (⟨true, st, k0⟩, A, c)) ?_ ?_ 3 ?_ ?_ ?_ ?_ ?_ wr ?_ ?_ ?_
                      · rfl
                      · rfl
                      · rfl
                      · exact aggSp
                      · exact hFwa
                      · omega
                      · exact c3_one _
                      · exact hBwa
                      · exact hgwa
                      intro wb hFwb hBwb hkwb hswb
                      rw [splice_c3] at hFwb; have v0 := hFwb.cell_ (k := 0) (u := .bool true) rfl; have v1 := hFwb.cell_ (k := 1) (u := .slice A N c) (by rw [← HN.out]; rfl); have v2 := hFwb.cell_ (k := 2) (u := .int .i64 (k0 : Int)) rfl; have hCb := hCr.below hBwb; have u3 := hCb.cell_ (k := 3) (u := .slice (some ⟨bi, oi, none⟩) m.ni m.ci) (by rw [HCC.out]; rfl); have hX1 := hX0.step hBwb)
                  | (with_reducible refine wpList_load (o := ⟨some 70, _, _, _, _, _⟩) rfl (.tmp 69) 53 rfl bi (oi + k * 4) _ rfl j.cells 4 (jn4 j) aggIns hX1 ?_)
                  | (with_reducible refine wpList_alloc (o := ⟨some 11, _, _, _, _, _⟩) rfl 53 rfl (Jn.cells default) zeroIns 4 rfl (by decide) ?_; intro bj wd hgwd hFwd hBwd)
                  | (
                      with_reducible refine wpList_store rfl rfl (.tmp 11) (.tmp 70) 53 rfl bj 0 wb.heap.size 53 4 (Jn.cells default) j.cells ?_ ?_ 4 ?_ ?_ ?_ ?_ ?_ wb ?_ ?_ ?_
                      · rfl
                      · rfl
                      · rfl
                      · exact aggIns
                      · exact hFwd
                      · omega
                      · exact jn_one j
                      · exact hBwd
                      · exact hgwd
                      intro we hFwe hBwe hkwe hswe
                      rw [splice_jn] at hFwe; have j0 := hFwe.cell_ (k := 0) rfl; have hVe := hFwb.below hBwe; have v0 := hVe.cell_ (k := 0) (u := .bool true) rfl; have v1 := hVe.cell_ (k := 1) (u := .slice A N c) (by rw [← HN.out]; rfl); have hB2v := Below.then_ hBwb hBwe; have hCe := hCb.below hBwe; have hBwe2 := Below.then_ hBwr hB2v; have j2 := hFwe.cell_ (k := 2) (u := .int .i64 (ja : Int)) (by rw [← HJA.out]; rfl)))
                go_roundw
                case rel => exact ⟨k + 1, q + 1, by omega, by go_num, by go_num, Lib.hid ⟨y3, by omega, by omega⟩, Below.then_ hBr hB2v⟩
                case measure => simp [intOf]; omega
            · have e19 : ((j.op : Int) == 19) = false := by simp; omega
              obtain ⟨y1, y2, y3, y4⟩ := hjmp (k + 1) (mem_onF_on h18)
              have hgo1 : decide ((k : Int) + 1 ≤ (k : Int)) = false := by simp; omega
              clear hjmp
              go_wp2_with (first
                | (with_reducible refine wpList_load (o := ⟨some 50, _, _, _, _, _⟩) rfl (.tmp 49) 64 rfl g (k * 3) _ rfl (c3 (⟨true, st, k0⟩, A, c)) 3 rfl aggSp hc ?_)
                | (with_reducible refine wpList_alloc (o := ⟨some 10, _, _, _, _, _⟩) rfl 64 rfl (c3 (default, none, 0)) zeroSp 3 rfl (by decide) ?_; intro bv10 wa hgwa hFwa hBwa)
                | (
                    with_reducible refine wpList_store rfl rfl (.tmp 10) (.tmp 50) 64 rfl bv10 0 wr.heap.size 64 3 (c3 (default, none, 0)) (c3 (⟨true, st, k0⟩, A, c)) ?_ ?_ 3 ?_ ?_ ?_ ?_ ?_ wr ?_ ?_ ?_
                    · rfl
                    · rfl
                    · rfl
                    · exact aggSp
                    · exact hFwa
                    · omega
                    · exact c3_one _
                    · exact hBwa
                    · exact hgwa
                    intro wb hFwb hBwb hkwb hswb
                    rw [splice_c3] at hFwb; have v0 := hFwb.cell_ (k := 0) (u := .bool true) rfl; have v1 := hFwb.cell_ (k := 1) (u := .slice A N c) (by rw [← HN.out]; rfl); have v2 := hFwb.cell_ (k := 2) (u := .int .i64 (k0 : Int)) rfl; have hCb := hCr.below hBwb; have u3 := hCb.cell_ (k := 3) (u := .slice (some ⟨bi, oi, none⟩) m.ni m.ci) (by rw [HCC.out]; rfl); have hX1 := hX0.step hBwb)
                | (with_reducible refine wpList_load (o := ⟨some 70, _, _, _, _, _⟩) rfl (.tmp 69) 53 rfl bi (oi + k * 4) _ rfl j.cells 4 (jn4 j) aggIns hX1 ?_)
                | (with_reducible refine wpList_alloc (o := ⟨some 11, _, _, _, _, _⟩) rfl 53 rfl (Jn.cells default) zeroIns 4 rfl (by decide) ?_; intro bj wd hgwd hFwd hBwd)
                | (
                    with_reducible refine wpList_store rfl rfl (.tmp 11) (.tmp 70) 53 rfl bj 0 wb.heap.size 53 4 (Jn.cells default) j.cells ?_ ?_ 4 ?_ ?_ ?_ ?_ ?_ wb ?_ ?_ ?_
                    · rfl
                    · rfl
                    · rfl
                    · exact aggIns
                    · exact hFwd
                    · omega
                    · exact jn_one j
                    · exact hBwd
                    · exact hgwd
                    intro we hFwe hBwe hkwe hswe
                    rw [splice_jn] at hFwe; have j0 := hFwe.cell_ (k := 0) rfl; have hVe := hFwb.below hBwe; have v0 := hVe.cell_ (k := 0) (u := .bool true) rfl; have v1 := hVe.cell_ (k := 1) (u := .slice A N c) (by rw [← HN.out]; rfl); have hB2v := Below.then_ hBwb hBwe; have hCe := hCb.below hBwe; have hBwe2 := Below.then_ hBwr hB2v))
              go_roundw
              case rel => exact ⟨k + 1, q + 1, by omega, by go_num, by go_num, Lib.hid ⟨y3, by omega, by omega⟩, Below.then_ hBr hB2v⟩
              case measure => simp [intOf]; omega
      · obtain rfl : k = m.ni := by omega
        rw [if_pos (.inl HNI.out.symm)] at hfit
        subst hfit
        have v0 : wr.cell? ⟨g, m.ni * 3, none⟩ = some (.bool true) := hc.cell4 0 _ rfl
        have v1 := hc.cell4 1 (.slice A 0 c) rfl
        have hle : decide ((q : Int) ≤ (mo : Int)) = true := by simp; omega
        have hM4 : (m.ni : Int) < (M : Int) := by omega
        clear hc hFA hmk
        go_wp2_with (first
          | (with_reducible refine wpList_load_g (.tmp 2) 26 rfl gc 0 _ rfl m.cells 4 (pm4 m) aggCode hCr.sees rfl ?_)
          | (go_at_call 31; refine (HST.out _ hBwr).mono ?_; rintro e w4 ⟨rfl, hB4⟩; have hBw4 := Below.then_ hBwr hB4)
          | (go_at_call 28; refine (quit _ hBw4).mono ?_; rintro e wz ⟨rfl, hBz⟩))
        go_ret
        exact ⟨rfl, hBz⟩
end Go.Proofs.Ytangblcfdboghaa
