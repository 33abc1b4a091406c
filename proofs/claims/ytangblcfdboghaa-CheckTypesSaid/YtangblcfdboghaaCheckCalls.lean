/-
  check.most, Steps and Check, for every program.
-/
import Derived.Test.YtangblcfdboghaaCheckSpots
namespace Go.Proofs.Ytangblcfdboghaa
open Go.RowKit
set_option linter.unusedVariables false

theorem elemS : Try.prog.underlying 58 = some (.slice (Try.prog.elem 58)) := by kernel_rfl
theorem run_cutS {w : World} (A : Option Addr) (n c k : Nat) (hk : k ≤ c) : (Instr.slice 58 (.slice A n c) none (some (.int .i64 (k : Int))) none).run Try.prog w = .ok (.slice A k c) w := by
  have hz : (sizeOf (Try.prog.elem 58)).run Try.prog w = .ok 3 w := by kernel_rfl
  rw [run_slice_h w 58 A n c elemS .i64 (k : Int) (by omega) (by omega), hz]
  simp only [Result.andThen, sliced, Int.toNat_natCast, Nat.zero_mul, Nat.sub_zero]
  cases A <;> simp [Addr.add]
set_option maxHeartbeats 4000000 in
set_option maxRecDepth 100000 in
theorem most_any (base g : Nat) (l : List Sp) (w : World) (h : SpAt base g w l) (N : Nat) (hl : l.length = N + 1) (hN : N ≤ 100000) (hk : ∀ s ∈ l, s.k ≤ 100000) :
    Calls Try.prog 62 #[.slice (some ⟨g, 0, none⟩) l.length l.length] w fun e w' => e = .returned (.int .i64 (mostF l : Int)) ∧ Below w.heap.size w w' := by
  obtain ⟨M, hM⟩ : ∃ M, l.length = M := ⟨_, rfl⟩
  obtain ⟨mo, hmo⟩ : ∃ mo, mostF l = mo := ⟨_, rfl⟩
  rw [hM, hmo]
  have hMN : M = N + 1 := hM.symm.trans hl
  have hi : (M : Int) - 1 = (N : Int) := by omega
  have hi2 : IntKind.i64.wrap (N : Int) = (N : Int) := by rw [IntKind.wrap_i64]; omega
  have hcut : ∀ w', (Instr.slice 58 (.slice (some ⟨g, 0, none⟩) M M) none (some (.int .i64 (N : Int))) none).run Try.prog w' = .ok (.slice (some ⟨g, 0, none⟩) N M) w' := fun w' => run_cutS (some ⟨g, 0, none⟩) M M N (by omega)
  have hd : l.dropLast.length = N := by rw [List.length_dropLast]; omega
  have HD := Lib.hid hd
  have HM := Lib.hid hM
  have HMO := Lib.hid hmo
  have HMN := Lib.hid hMN
  have hmost : mostL l.dropLast 0 = mo := hmo
  clear hd hmo hl hM hMN
  go_enter Try.func62, Try.ntmps62
  go_wp2_with fail
  go_loopw [3, 5, 12] (fun n s5 i wr => ∃ k x : Nat, k ≤ N ∧ i = .int .i64 (k : Int) ∧ n = .int .i64 (x : Int) ∧ Hid (mostL (l.dropLast.drop k) x = mo) ∧ x ≤ 100001 ∧ Below w.heap.size w wr) (fun _ _ i _ => N - (intOf i).toNat)
  case atStart => exact ⟨0, 0, Nat.zero_le _, rfl, rfl, Lib.hid (by simpa using hmost), by decide, Below.refl _ _⟩
  case round =>
    obtain ⟨k, x, hkn, rfl, rfl, HMo, hx, hB⟩ := hrel
    have hS := h.below hB
    by_cases hlt : k < N
    · have hkl : k < l.length := by rw [HM.out, HMN.out]; omega
      obtain ⟨A, c, hc, _⟩ := hS.get hkl
      have hsk := hk (sp l k) (by
        unfold sp
        rw [List.getD_eq_getElem?_getD, List.getElem?_eq_getElem hkl]
        exact List.getElem_mem hkl)
      have hkd : k < l.dropLast.length := by rw [HD.out]; exact hlt
      have hdr : l.dropLast.drop k = sp l k :: l.dropLast.drop (k + 1) := by
        rw [List.drop_eq_getElem_cons hkd]
        congr 1
        rw [List.getElem_dropLast]
        simp [sp, hkl]
      have hmo := HMo.out
      rw [hdr] at hmo
      obtain ⟨⟨r, st, k0⟩, hs⟩ : ∃ s, sp l k = s := ⟨_, rfl⟩
      rw [hs] at hc hmo hsk
      simp only [mostL] at hmo hsk
      obtain ⟨mx, hmx⟩ : ∃ mx, max x (k0 + 1) = mx := ⟨_, rfl⟩
      rw [hmx] at hmo
      have hmi : (if (x : Int) < (k0 : Int) + 1 then (k0 : Int) + 1 else (x : Int)) = (mx : Int) := by split <;> omega
      have hmx2 : mx ≤ 100001 := by omega
      have HMI := Lib.hid hmi
      have HMX := Lib.hid hmo
      clear hmx hmo hdr hkd hs HMo
      cases r with
      | false =>
        go_wp2_with (first
          | (with_reducible refine wpList_load (o := ⟨some 15, _, _, _, _, _⟩) rfl (.tmp 14) 64 rfl g (k * 3) _ rfl (c3 (⟨false, st, k0⟩, A, c)) 3 rfl aggSp hc ?_)
          | (with_reducible refine wpList_alloc (o := ⟨some 5, _, _, _, _, _⟩) rfl 64 rfl (c3 (default, none, 0)) zeroSp 3 rfl (by decide) ?_; intro b w2 hgw2 hFw2 hBw2)
          | (
              with_reducible refine wpList_store rfl rfl (.tmp 5) (.tmp 15) 64 rfl b 0 wr.heap.size 64 3 (c3 (default, none, 0)) (c3 (⟨false, st, k0⟩, A, c)) ?_ ?_ 3 ?_ ?_ ?_ ?_ ?_ wr ?_ ?_ ?_
              · rfl
              · rfl
              · rfl
              · exact aggSp
              · exact hFw2
              · omega
              · exact c3_one _
              · exact hBw2
              · exact hgw2
              intro w3 hFw3 hBw3 hkw3 hsw3
              rw [splice_c3] at hFw3; have v0 := hFw3.cell_ (k := 0) (u := .bool false) rfl; have v2 := hFw3.cell_ (k := 2) (u := .int .i64 (k0 : Int)) rfl))
        go_roundw
        case rel => exact ⟨k + 1, x, by omega, by go_num, rfl, Lib.hid (by simpa using HMX.out), hx, Below.then_ hB hBw3⟩
        case measure => simp [intOf]; omega
      | true =>
        have hmi2 := HMI.out
        go_wp2_with (first
          | (with_reducible refine wpList_load (o := ⟨some 15, _, _, _, _, _⟩) rfl (.tmp 14) 64 rfl g (k * 3) _ rfl (c3 (⟨true, st, k0⟩, A, c)) 3 rfl aggSp hc ?_)
          | (with_reducible refine wpList_alloc (o := ⟨some 5, _, _, _, _, _⟩) rfl 64 rfl (c3 (default, none, 0)) zeroSp 3 rfl (by decide) ?_; intro b w2 hgw2 hFw2 hBw2)
          | (
              with_reducible refine wpList_store rfl rfl (.tmp 5) (.tmp 15) 64 rfl b 0 wr.heap.size 64 3 (c3 (default, none, 0)) (c3 (⟨true, st, k0⟩, A, c)) ?_ ?_ 3 ?_ ?_ ?_ ?_ ?_ wr ?_ ?_ ?_
              · rfl
              · rfl
              · rfl
              · exact aggSp
              · exact hFw2
              · omega
              · exact c3_one _
              · exact hBw2
              · exact hgw2
              intro w3 hFw3 hBw3 hkw3 hsw3
              rw [splice_c3] at hFw3; have v0 := hFw3.cell_ (k := 0) (u := .bool true) rfl; have v2 := hFw3.cell_ (k := 2) (u := .int .i64 (k0 : Int)) rfl))
        go_roundw
        case rel => exact ⟨k + 1, mx, by omega, by go_num, rfl, Lib.hid (by simpa using HMX.out), hmx2, Below.then_ hB hBw3⟩
        case measure => simp [intOf]; omega
    · obtain rfl : k = N := by omega
      have hmo := HMo.out
      rw [List.drop_of_length_le (by rw [HD.out]; exact Nat.le_refl _)] at hmo
      obtain rfl : x = mo := hmo
      go_wp2_with fail
      go_ret
      exact ⟨rfl, hB⟩
theorem spots_err {p : Pg} {k er : Nat} (h : spotsF p = .error (k, er)) : er = 130 ∨ er = 140 ∨ er = 141 := by
  have key : ∀ (f k : Nat) (l : List Sp) (q er : Nat), spRun p f k l = .error (q, er) → er = 140 ∨ er = 141 := by
    intro f
    induction f with
    | zero => intro k l q er h; cases h
    | succ f ih =>
      intro k l q er h
      unfold spRun at h
      split at h
      · rename_i hg
        injection h with h
        injection h with _ h
        rw [← h]
        exact goF_err hg
      · exact ih _ _ _ _ h
  unfold spotsF at h
  split at h
  · exact .inr (key _ _ _ _ _ h)
  · injection h with h
    injection h with _ h
    exact .inl h.symm
theorem right_ins {p : Pg} (h : p.right = true) : 1 ≤ p.ins.length ∧ p.ins.length ≤ 2000 := by
  simp only [Pg.right, insOk, Bool.and_eq_true, decide_eq_true_eq] at h
  exact ⟨h.2.2.2.1.1, h.2.2.2.1.2⟩
theorem most_small {p : Pg} {l : List Sp} (h : spotsF p = .ok l) : mostF l ≤ 2002 := by
  refine most_le _ _ _ (Nat.zero_le _) (fun s hs => ?_)
  have h1 := (spots_low h s (List.dropLast_subset _ hs)).2
  have h2 := (right_ins (spots_right h)).2
  omega
set_option maxRecDepth 100000 in
theorem Steps_any (m : Pm) (w : World) (hm : PmAt w.heap.size w m) :
    Calls Try.prog 31 #[.agg m.cells.toArray] w fun e w' => e = .returned (.int .i64 (stepsF m.p : Int)) ∧ Below w.heap.size w w' := by
  have hSp : ∀ w', Below w.heap.size w w' → Calls Try.prog 29 #[.agg m.cells.toArray] w' (SpotsOut m.p w') := fun w' hw => Spots_any m w' (hm.step hw)
  unfold stepsF
  unfold SpotsOut at hSp
  cases hs : spotsF m.p with
  | error x =>
    obtain ⟨k, er⟩ := x
    rw [hs] at hSp
    simp only at hSp ⊢
    have her := spots_err hs
    have hne : ((er : Int) != 0) = true := by simp; omega
    have hne2 : ((er : Int) == 0) = false := by simp; omega
    have HSP := Lib.hid hSp
    clear hSp hs her
    go_enter Try.func31, Try.ntmps31
    go_wp2_with (first
      | (with_reducible refine wpList_box (o := ⟨some 1, _, _, _, _, _⟩) rfl (.tmp 0) 26 rfl m.cells rfl 4 (pm4 m) (by decide) ?_; intro gc w1 hgc hC hB1)
      | (with_reducible refine wpList_load (o := ⟨some 7, _, _, _, _, _⟩) rfl (.tmp 1) 26 rfl gc 0 _ rfl m.cells 4 (pm4 m) aggCode hC.sees ?_)
      | (go_at_call 29; refine (HSP.out _ hB1).mono ?_; rintro e w2 ⟨hB2, rfl⟩))
    go_ret
    exact ⟨rfl, Below.then_ hB1 hB2⟩
  | ok l =>
    rw [hs] at hSp
    simp only at hSp ⊢
    have hlen := spots_len hs
    have hsm := right_ins (spots_right hs)
    have hmo : ∀ (g : Nat) (base : Nat) (w' : World), SpAt base g w' l → Calls Try.prog 62 #[.slice (some ⟨g, 0, none⟩) l.length l.length] w' fun e w2 => e = .returned (.int .i64 (mostF l : Int)) ∧ Below w'.heap.size w' w2 := fun g base w' h => most_any base g l w' h m.p.ins.length hlen (by omega) (fun s hx => by have := (spots_low hs s hx).2; omega)
    have HSP := Lib.hid hSp
    have HMO := Lib.hid hmo
    clear hSp hmo hs hlen hsm
    obtain ⟨M, hM⟩ : ∃ M, l.length = M := ⟨_, rfl⟩
    rw [hM] at HSP HMO
    clear hM
    go_enter Try.func31, Try.ntmps31
    go_wp2_with (first
      | (with_reducible refine wpList_box (o := ⟨some 1, _, _, _, _, _⟩) rfl (.tmp 0) 26 rfl m.cells rfl 4 (pm4 m) (by decide) ?_; intro gc w1 hgc hC hB1)
      | (with_reducible refine wpList_load (o := ⟨some 7, _, _, _, _, _⟩) rfl (.tmp 1) 26 rfl gc 0 _ rfl m.cells 4 (pm4 m) aggCode hC.sees ?_)
      | (go_at_call 29; refine (HSP.out _ hB1).mono ?_; rintro e w2 ⟨hB2, g, rfl, hS⟩)
      | (go_at_call 62; refine (HMO.out _ _ _ hS).mono ?_; rintro e w3 ⟨rfl, hB3⟩))
    go_ret
    exact ⟨rfl, Below.then_ (Below.then_ hB1 hB2) hB3⟩
set_option maxRecDepth 100000 in
theorem Check_any (m : Pm) (bu : Int) (w : World) (hm : PmAt w.heap.size w m) :
    Calls Try.prog 33 #[.agg m.cells.toArray, .int .i64 bu] w fun e w' => e = .returned (.int .i64 (checkF m.p bu : Int)) ∧ Below w.heap.size w w' := by
  have hSp : ∀ w', Below w.heap.size w w' → Calls Try.prog 29 #[.agg m.cells.toArray] w' (SpotsOut m.p w') := fun w' hw => Spots_any m w' (hm.step hw)
  unfold checkF
  unfold SpotsOut at hSp
  cases hs : spotsF m.p with
  | error x =>
    obtain ⟨k, er⟩ := x
    rw [hs] at hSp
    simp only at hSp ⊢
    have her := spots_err hs
    have hne : ((er : Int) != 0) = true := by simp; omega
    have hne2 : ((er : Int) == 0) = false := by simp; omega
    have HSP := Lib.hid hSp
    clear hSp hs her
    go_enter Try.func33, Try.ntmps33
    go_wp2_with (first
      | (with_reducible refine wpList_box (o := ⟨some 2, _, _, _, _, _⟩) rfl (.tmp 0) 26 rfl m.cells rfl 4 (pm4 m) (by decide) ?_; intro gc w1 hgc hC hB1)
      | (with_reducible refine wpList_load (o := ⟨some 9, _, _, _, _, _⟩) rfl (.tmp 2) 26 rfl gc 0 _ rfl m.cells 4 (pm4 m) aggCode hC.sees ?_)
      | (go_at_call 29; refine (HSP.out _ hB1).mono ?_; rintro e w2 ⟨hB2, rfl⟩))
    go_ret
    exact ⟨rfl, Below.then_ hB1 hB2⟩
  | ok l =>
    rw [hs] at hSp
    simp only at hSp ⊢
    have hlen := spots_len hs
    have hsm := right_ins (spots_right hs)
    have hmo : ∀ (g : Nat) (base : Nat) (w' : World), SpAt base g w' l → Calls Try.prog 62 #[.slice (some ⟨g, 0, none⟩) l.length l.length] w' fun e w2 => e = .returned (.int .i64 (mostF l : Int)) ∧ Below w'.heap.size w' w2 := fun g base w' h => most_any base g l w' h m.p.ins.length hlen (by omega) (fun s hx => by have := (spots_low hs s hx).2; omega)
    have HSP := Lib.hid hSp
    have HMO := Lib.hid hmo
    clear hSp hmo hs hlen hsm
    obtain ⟨M, hM⟩ : ∃ M, l.length = M := ⟨_, rfl⟩
    obtain ⟨mo, hmo⟩ : ∃ mo, mostF l = mo := ⟨_, rfl⟩
    rw [hM] at HSP HMO
    rw [hmo] at HMO ⊢
    clear hM hmo
    by_cases hlt : bu < (mo : Int)
    · have hd : decide (bu < (mo : Int)) = true := by simp [hlt]
      have hd2 : decide ((mo : Int) > bu) = true := by simp [hlt]
      rw [if_pos hlt]
      go_enter Try.func33, Try.ntmps33
      go_wp2_with (first
        | (with_reducible refine wpList_box (o := ⟨some 2, _, _, _, _, _⟩) rfl (.tmp 0) 26 rfl m.cells rfl 4 (pm4 m) (by decide) ?_; intro gc w1 hgc hC hB1)
        | (with_reducible refine wpList_load (o := ⟨some 9, _, _, _, _, _⟩) rfl (.tmp 2) 26 rfl gc 0 _ rfl m.cells 4 (pm4 m) aggCode hC.sees ?_)
        | (go_at_call 29; refine (HSP.out _ hB1).mono ?_; rintro e w2 ⟨hB2, g, rfl, hS⟩)
        | (go_at_call 62; refine (HMO.out _ _ _ hS).mono ?_; rintro e w3 ⟨rfl, hB3⟩))
      go_ret
      exact ⟨rfl, Below.then_ (Below.then_ hB1 hB2) hB3⟩
    · have hd : decide (bu < (mo : Int)) = false := by simp [hlt]
      have hd2 : decide ((mo : Int) > bu) = false := by simp [hlt]
      rw [if_neg hlt]
      go_enter Try.func33, Try.ntmps33
      go_wp2_with (first
        | (with_reducible refine wpList_box (o := ⟨some 2, _, _, _, _, _⟩) rfl (.tmp 0) 26 rfl m.cells rfl 4 (pm4 m) (by decide) ?_; intro gc w1 hgc hC hB1)
        | (with_reducible refine wpList_load (o := ⟨some 9, _, _, _, _, _⟩) rfl (.tmp 2) 26 rfl gc 0 _ rfl m.cells 4 (pm4 m) aggCode hC.sees ?_)
        | (go_at_call 29; refine (HSP.out _ hB1).mono ?_; rintro e w2 ⟨hB2, g, rfl, hS⟩)
        | (go_at_call 62; refine (HMO.out _ _ _ hS).mono ?_; rintro e w3 ⟨rfl, hB3⟩))
      go_ret
      exact ⟨rfl, Below.then_ (Below.then_ hB1 hB2) hB3⟩
end Go.Proofs.Ytangblcfdboghaa
