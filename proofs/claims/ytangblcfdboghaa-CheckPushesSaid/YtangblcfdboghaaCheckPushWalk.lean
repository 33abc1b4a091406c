/-
  A program that pushes so many values and drops them: the walk of CheckPushes.
-/
import Derived.Test.YtangblcfdboghaaCheckCopy
import Derived.Test.YtangblcfdboghaaCheckPushPure
namespace Go.Proofs.Ytangblcfdboghaa
open Go.RowKit
set_option linter.unusedVariables false
set_option linter.constructorNameAsVariable false

theorem right_J {js : List Jn} {A : Option Addr} {n c : Nat} {w : World} (hs : Sees w w.heap.size A (jcs js)) (hl : js.length = n) (ho : ∀ j ∈ js, j.Ok) (hc : n ≤ c ∧ c ≤ maxLen) :
    Calls Try.prog 26 #[.agg #[.string ⟨#[112]⟩, .slice none 0 0, .slice none 0 0, .slice A n c]] w fun e w' => e = .returned (.bool (pgJ js).right) ∧ Below w.heap.size w w' := by
  subst hl
  exact Right_ok (pmJ js A c) w (pmJ_at hs ho hc) _ rfl
theorem rep_next (k : Nat) (x : Jn) : List.replicate k x ++ [x] = List.replicate (k + 1) x := by rw [List.replicate_succ']
set_option maxHeartbeats 8000000 in
set_option maxRecDepth 100000 in
theorem checkPushes_any (w : World) (a b : Nat) (ha : a < 256) (hb : b < 256) :
    Calls Try.prog 11 #[.int .u8 (a : Int), .int .u8 (b : Int)] w fun e w' => e = .returned (.bool true) ∧ Below w.heap.size w w' := by
  have quit : ∀ wq, Below w.heap.size w wq → Calls Try.prog 28 #[] wq fun e w' => e = .returned (.bool true) ∧ Below w.heap.size w w' := fun wq hq => (awake14_any wq).mono (fun e w' h => ⟨h.1, Below.then_ hq h.2⟩)
  obtain ⟨a1, ha1⟩ : ∃ a1, a % 100 = a1 := ⟨_, rfl⟩
  obtain ⟨n, hn⟩ : ∃ n, 1 + a1 = n := ⟨_, rfl⟩
  obtain ⟨b1, hb1⟩ : ∃ b1, b % 5 = b1 := ⟨_, rfl⟩
  obtain ⟨t, ht⟩ : ∃ t, 1 + b1 = t := ⟨_, rfl⟩
  have e1 : (a : Int).tmod 100 = (a1 : Int) := by rw [Int.tmod_eq_emod_of_nonneg (by omega)]; omega
  have e2 : (a : Int) % 100 = (a1 : Int) := by omega
  have e3 : (1 : Int) + (a1 : Int) = (n : Int) := by omega
  have e4 : (b : Int).tmod 5 = (b1 : Int) := by rw [Int.tmod_eq_emod_of_nonneg (by omega)]; omega
  have e5 : (b : Int) % 5 = (b1 : Int) := by omega
  have e6 : (1 : Int) + (b1 : Int) = (t : Int) := by omega
  have n1 : 1 ≤ n ∧ n ≤ 100 := by omega
  have t1 : 1 ≤ t ∧ t ≤ 5 := by omega
  have e7 : IntKind.u8.wrap (t : Int) = (t : Int) := by rw [IntKind.wrap_u8]; omega
  have a1s : a1 < 256 := by omega
  have b1s : b1 < 256 := by omega
  clear ha1 hn hb1 ht
  go_enter Try.func11, Try.ntmps11
  go_wp2_with fail
  go_loopw [6, 16] (fun lst i wr => ∃ (k : Nat) (A : Option Addr) (c : Nat), k ≤ n ∧ i = .int .i64 (k : Int) ∧ lst = .slice A k c ∧ OwnJ w.heap.size wr A k c (List.replicate k (pushJ t)) ∧ Below w.heap.size w wr) (fun _ i _ => n - (intOf i).toNat)
  case atStart => exact ⟨0, none, 0, Nat.zero_le _, rfl, rfl, World.ownsRow_nil _ _ _ _, Below.refl _ _⟩
  case round =>
    obtain ⟨k, A, c, hk, rfl, rfl, hJ, hB⟩ := hrel
    by_cases hlt : k < n
    · go_wp2_with (first
        | (
            at_builtin
            with_reducible refine wpList_appJ (o := ⟨some 24, _, _, _, _, _⟩) (A := A) (n := k) (c := c) (l := List.replicate k (pushJ t)) rfl (.tmp 18) (.tmp 23) rfl w (some ⟨wr.heap.size, 0, none⟩) 1 1 [pushJ t] ?_ ?_ ?_ ?_ ?_ ?_ ?_ ?_ ?_
            · rfl
            · rfl
            · exact hJ.below (below_alloc _ _)
            · exact sees_new wr 53 (jcs [pushJ t])
            · rfl
            · omega
            · omega
            · exact Below.then_ hB (below_alloc _ _)
            intro A2 c2 w2 hJ2 hB2))
      rw [rep_next] at hJ2
      go_roundw
      case rel => exact ⟨k + 1, A2, c2, by omega, by go_num, rfl, hJ2, hB2⟩
      case measure => simp [intOf]; omega
    · obtain rfl : k = n := by omega
      go_wp2_with fail
      obtain ⟨w8, rfl⟩ : ∃ z, z = wr := ⟨_, rfl⟩
      go_loopw [6, 27] (fun lst i wr => ∃ (q : Nat) (A : Option Addr) (c : Nat), q ≤ k ∧ i = .int .i64 (q : Int) ∧ lst = .slice A (k + q) c ∧ OwnJ w.heap.size wr A (k + q) c (List.replicate k (pushJ t) ++ List.replicate q dropJ) ∧ Below w.heap.size w wr) (fun _ i _ => k - (intOf i).toNat)
      case atStart => exact ⟨0, A, c, Nat.zero_le _, rfl, rfl, by rw [List.replicate_zero, List.append_nil, Nat.add_zero]; exact hJ, hB⟩
      case round =>
        clear hJ hB
        obtain ⟨q, A, c, hq, rfl, rfl, hJ, hB⟩ := hrel
        by_cases hlt : q < k
        · go_wp2_with (first
            | (
                at_builtin
                with_reducible refine wpList_appJ (o := ⟨some 32, _, _, _, _, _⟩) (A := A) (n := k + q) (c := c) (l := List.replicate k (pushJ t) ++ List.replicate q dropJ) rfl (.tmp 29) (.tmp 31) rfl w (some ⟨wr.heap.size, 0, none⟩) 1 1 [dropJ] ?_ ?_ ?_ ?_ ?_ ?_ ?_ ?_ ?_
                · rfl
                · rfl
                · exact hJ.below (below_alloc _ _)
                · exact sees_new wr 53 (jcs [dropJ])
                · rfl
                · omega
                · omega
                · exact Below.then_ hB (below_alloc _ _)
                intro A2 c2 w2 hJ2 hB2))
          rw [List.append_assoc, rep_next] at hJ2
          go_roundw
          case rel => exact ⟨q + 1, A2, c2, by omega, by go_num, rfl, hJ2, hB2⟩
          case measure => simp [intOf]; omega
        · obtain rfl : q = k := by omega
          obtain ⟨N, hN⟩ : ∃ N, q + q = N := ⟨_, rfl⟩
          rw [hN] at hJ ⊢
          obtain ⟨js, hjs⟩ : ∃ js, List.replicate q (pushJ t) ++ List.replicate q dropJ = js := ⟨_, rfl⟩
          rw [hjs] at hJ
          have hpg : pgJ js = pushP q t := by rw [← hjs]; rfl
          have hS := hJ.sees
          have HLN : Hid (js.length = N) := Lib.hid hJ.len
          have hcap := hJ.cap
          have hok : ∀ j ∈ js, j.Ok := by
            intro j hj
            rw [← hjs] at hj
            rcases List.mem_append.1 hj with hj | hj
            · rw [List.eq_of_mem_replicate hj]
              exact ⟨by simp [pushJ], by show t < 256; omega, by simp [pushJ], by simp [pushJ]⟩
            · rw [List.eq_of_mem_replicate hj]
              exact ⟨by decide, by decide, by decide, by decide⟩
          have HRT : Hid ((pgJ js).right = true) := Lib.hid (by rw [hpg]; exact push_right n1.1 (by omega) t1)
          have h2n : (2 : Int) * (q : Int) = (N : Int) := by omega
          obtain ⟨N1, hN1⟩ : ∃ N1, N - 1 = N1 := ⟨_, rfl⟩
          have h2n1 : (N : Int) - 1 = (N1 : Int) := by omega
          have hNs : N ≤ 200 := by omega
          by_cases hbig : 64 < q
          · have hb1 : decide ((64 : Int) < (q : Int)) = true := by simp; omega
            have hb2 : decide ((q : Int) > 64) = true := by simp; omega
            have HSP : Hid (spotsF (pgJ js) = .error (64, 140)) := Lib.hid (by rw [hpg]; exact push_err hbig (by omega) t1)
            clear hpg hjs hJ hN hN1
            go_wp2_with (first
              | (go_at_call 36; refine (prog_any A N c wr).mono ?_; rintro e w3 ⟨rfl, hBp⟩; have hB3 := Below.then_ hB hBp; have hS3 := hS.step hBp)
              | (with_reducible refine wpList_alloc (o := ⟨some 7, _, _, _, _, _⟩) rfl 26 rfl noC zeroC 4 rfl (by decide) ?_; intro b7 w4 hgw4 hFw4 hBw4)
              | (
                  with_reducible refine wpList_store rfl rfl (.tmp 7) (.tmp 35) 26 rfl b7 0 w3.heap.size 26 4 noC [.string ⟨#[112]⟩, .slice none 0 0, .slice none 0 0, .slice A N c] ?_ ?_ 4 ?_ ?_ ?_ ?_ ?_ w3 ?_ ?_ ?_
                  · rfl
                  · rfl
                  · rfl
                  · exact aggCode
                  · exact hFw4
                  · omega
                  · exact cd1 _ _ _ _ _ _ _ _ _ _
                  · exact hBw4
                  · exact hgw4
                  intro w5 hFw5 hBw5 hkw5 hsw5
                  rw [show splice noC 0 [.string ⟨#[112]⟩, .slice none 0 0, .slice none 0 0, .slice A N c] = [.string ⟨#[112]⟩, .slice none 0 0, .slice none 0 0, .slice A N c] from rfl] at hFw5; have hB5 := Below.then_ hB3 hBw5; have hS5 := hS3.step hBw5; have hF7 := hFw5)
              | (with_reducible refine wpList_load (o := ⟨some 36, _, _, _, _, _⟩) rfl (.tmp 7) 26 rfl b7 0 _ rfl [.string ⟨#[112]⟩, .slice none 0 0, .slice none 0 0, .slice A N c] 4 rfl aggCode hF7.sees ?_)
              | (with_reducible refine wpList_load (o := ⟨some 42, _, _, _, _, _⟩) rfl (.tmp 7) 26 rfl b7 0 _ rfl [.string ⟨#[112]⟩, .slice none 0 0, .slice none 0 0, .slice A N c] 4 rfl aggCode hF7.sees ?_)
              | (go_at_call 26; refine (right_J hS5 HLN.out hok hcap).mono ?_; rw [HRT.out]; rintro e wx ⟨rfl, hBx⟩; have hF7 := hF7.below hBx; have hS5 := hS5.step hBx; have hB5 := Below.then_ hB5 hBx)
              | (go_at_call 29; refine (spots_e 64 140 HSP.out hS5 HLN.out hok hcap).mono ?_; rintro e wx ⟨rfl, hBx⟩; have hF7 := hF7.below hBx; have hS5 := hS5.step hBx; have hB5 := Below.then_ hB5 hBx)
              | (go_at_call 28; refine (quit _ hB5).mono ?_; rintro e wz ⟨rfl, hBz⟩))
            go_ret
            exact ⟨rfl, hBz⟩
          · have hb1 : decide ((64 : Int) < (q : Int)) = false := by simp; omega
            have hb2 : decide ((q : Int) > 64) = false := by simp; omega
            have hsp : spotsF (pgJ js) = .ok (pushL q t (2 * q)) := by rw [hpg]; exact push_spots n1.1 (by omega) t1
            have hmo : mostF (pushL q t (2 * q)) = N := by rw [push_most n1.1]; omega
            have hc1 : checkF (pgJ js) (N : Int) = 0 := by simp only [checkF, hsp, hmo]; rw [if_neg (by omega)]
            have hc2 : checkF (pgJ js) (N1 : Int) = 142 := by simp only [checkF, hsp, hmo]; rw [if_pos (by omega)]
            have HLN2 := HLN.out
            have hk1 : ∀ (w' : World) (_ : True), Sees w' w'.heap.size A (jcs js) → Calls Try.prog 33 #[.agg #[.string ⟨#[112]⟩, .slice none 0 0, .slice none 0 0, .slice A N c], .int .i64 (N : Int)] w' fun e w2 => e = .returned (.int .i64 0) ∧ Below w'.heap.size w' w2 := fun w' _ hs => check_is (N : Int) 0 hc1 hs HLN.out hok hcap
            have hk2 : ∀ (w' : World) (_ : True), Sees w' w'.heap.size A (jcs js) → Calls Try.prog 33 #[.agg #[.string ⟨#[112]⟩, .slice none 0 0, .slice none 0 0, .slice A N c], .int .i64 (N1 : Int)] w' fun e w2 => e = .returned (.int .i64 142) ∧ Below w'.heap.size w' w2 := fun w' _ hs => check_is (N1 : Int) 142 hc2 hs HLN.out hok hcap
            have HK1 := Lib.hid hk1
            have HK2 := Lib.hid hk2
            clear hpg hjs hJ hN hN1 hsp hmo hc1 hc2 HLN2 hk1 hk2
            go_wp2_with (first
              | (go_at_call 36; refine (prog_any A N c wr).mono ?_; rintro e w3 ⟨rfl, hBp⟩; have hB3 := Below.then_ hB hBp; have hS3 := hS.step hBp)
              | (with_reducible refine wpList_alloc (o := ⟨some 7, _, _, _, _, _⟩) rfl 26 rfl noC zeroC 4 rfl (by decide) ?_; intro b7 w4 hgw4 hFw4 hBw4)
              | (
                  with_reducible refine wpList_store rfl rfl (.tmp 7) (.tmp 35) 26 rfl b7 0 w3.heap.size 26 4 noC [.string ⟨#[112]⟩, .slice none 0 0, .slice none 0 0, .slice A N c] ?_ ?_ 4 ?_ ?_ ?_ ?_ ?_ w3 ?_ ?_ ?_
                  · rfl
                  · rfl
                  · rfl
                  · exact aggCode
                  · exact hFw4
                  · omega
                  · exact cd1 _ _ _ _ _ _ _ _ _ _
                  · exact hBw4
                  · exact hgw4
                  intro w5 hFw5 hBw5 hkw5 hsw5
                  rw [show splice noC 0 [.string ⟨#[112]⟩, .slice none 0 0, .slice none 0 0, .slice A N c] = [.string ⟨#[112]⟩, .slice none 0 0, .slice none 0 0, .slice A N c] from rfl] at hFw5; have hB5 := Below.then_ hB3 hBw5; have hS5 := hS3.step hBw5; have hF7 := hFw5)
              | (with_reducible refine wpList_load (o := ⟨some 36, _, _, _, _, _⟩) rfl (.tmp 7) 26 rfl b7 0 _ rfl [.string ⟨#[112]⟩, .slice none 0 0, .slice none 0 0, .slice A N c] 4 rfl aggCode hF7.sees ?_)
              | (with_reducible refine wpList_load (o := ⟨some 56, _, _, _, _, _⟩) rfl (.tmp 7) 26 rfl b7 0 _ rfl [.string ⟨#[112]⟩, .slice none 0 0, .slice none 0 0, .slice A N c] 4 rfl aggCode hF7.sees ?_)
              | (with_reducible refine wpList_load_g (.tmp 7) 26 rfl b7 0 _ rfl [.string ⟨#[112]⟩, .slice none 0 0, .slice none 0 0, .slice A N c] 4 rfl aggCode hF7.sees rfl ?_)
              | (go_at_call 26; refine (right_J hS5 HLN.out hok hcap).mono ?_; rw [HRT.out]; rintro e wx ⟨rfl, hBx⟩; have hF7 := hF7.below hBx; have hS5 := hS5.step hBx; have hB5 := Below.then_ hB5 hBx)
              | (go_at_call 33; with_reducible refine (HK1.out _ trivial hS5).mono ?_; (rintro e wx ⟨rfl, hBx⟩; have hF7 := hF7.below hBx; have hS5 := hS5.step hBx; have hB5 := Below.then_ hB5 hBx))
              | (go_at_call 33; with_reducible refine (HK2.out _ trivial hS5).mono ?_; (rintro e wx ⟨rfl, hBx⟩; have hF7 := hF7.below hBx; have hS5 := hS5.step hBx; have hB5 := Below.then_ hB5 hBx))
              | (go_at_call 28; refine (quit _ hB5).mono ?_; rintro e wz ⟨rfl, hBz⟩))
            go_ret
            exact ⟨rfl, hBz⟩
end Go.Proofs.Ytangblcfdboghaa
