/-
  What the document's own Put and Open of layer 7 tell, by value.
-/
import Derived.Test.YtpdfalgjmeagjaaCpB15
namespace Go.Proofs.Ytpdfalgjmeagjaa
open Go.RowKit
set_option linter.unusedVariables false
theorem dwrite7_left (S : Fl) (f : Nat) (a : Int) (l : List UInt32) : (S.dwrite f 2 a l).1.left ≤ S.left := by
  unfold Fl.dwrite
  split
  · exact Nat.le_refl _
  · exact Nat.le_refl _
  · split
    · exact Nat.le_refl _
    · have hn := Fl.prog_left l S (64 * f + a.toNat)
      split
      · rename_i hs
        rw [hs] at hn
        exact hn
      · rename_i hs
        rw [hs] at hn
        exact hn
def Fl.rcput (S : Fl) (f : Nat) (b : List UInt8) : Fl × Nat := if 244 < b.length then (S, 3) else if 2147483648 ≤ (S.clook f).t then (S, 5) else S.cwrite f (S.clook f).other ((S.clook f).t + 1) b
section
variable {w : World} {A : Option Addr} {c : Nat} {S : Fl}
set_option maxHeartbeats 8000000 in
set_option maxRecDepth 100000 in
theorem rCPut_any (h : RnAt w A c S) (hd : S.down = false) (hl2 : S.left < 9223372036854775808) (f : Nat) (hf : f + 2 ≤ S.n) (A8 : Option Addr) (N c8 : Nat) (b : List UInt8) (hb8 : Sees w w.heap.size A8 (cb b)) (hlb : b.length = N) (hN : N ≤ 300) (T : Fl) (r : Nat) (hr : S.rcput f b = (T, r)) :
    Calls Try.prog 58 #[.agg (rdL (f : Int) 2).toArray, .agg (S.rL A c).toArray, .slice A8 N c8] w fun e w' => ∃ B c2, e = .returned (.tuple #[.agg (T.rL B c2).toArray, .int .i64 (r : Int)]) ∧ RnTo w w' A B c c2 S T ∧ Below w.heap.size w w' := by
  have hn := h.n_le
  have NO : ∀ w', Below w.heap.size w w' → RnTo w w' A A c c S S := fun w' x => ⟨h.step x, .inl ⟨rfl, rfl, rfl, rfl⟩⟩
  have HL2 := Lib.hid hl2
  have HLB := Lib.hid hlb
  obtain ⟨X, hX⟩ : ∃ X, S.clook f = X := ⟨_, rfl⟩
  have hok := clook_ok S f
  rw [hX] at hok
  have HL : Hid (∀ w', Below w.heap.size w w' → Calls Try.prog 64 #[.agg (rdL (f : Int) 2).toArray, .agg (S.rL A c).toArray] w' fun e w2 => ∃ A2 n2 c2, e = .returned (.tuple #[.int .i64 X.s, .int .i64 (X.t : Int), .slice A2 n2 c2]) ∧ Below w'.heap.size w' w2) := Lib.hid fun w' x => (rCLook_any (h.step x) f hf X (by simp [Fl.rclook, hd, hX])).mono fun e w2 ⟨A2, n2, c2, h1, _, _, h2⟩ => ⟨A2, n2, c2, h1, h2⟩
  unfold Fl.rcput at hr
  rw [hX, hlb] at hr
  clear hl2 hd hX hlb
  by_cases hlong : 244 < N
  · rw [if_pos hlong] at hr
    obtain ⟨rfl, rfl⟩ : S = T ∧ 3 = r := by simpa using hr
    clear hr
    as_aux_lemma =>
      have d0 : decide ((244 : Int) < (N : Int)) = true := by simp; omega
      go_enter Try.func58, Try.ntmps58
      go_wp2_with (first
        | (with_reducible refine wpList_box (o := ⟨some 3, _, _, _, _, _⟩) rfl (.tmp 0) 109 rfl (rdL (f : Int) 2) rfl 2 rfl (by decide) ?_; intro g w1 hg hF hB; have z1 := hB.size; have lg := hF.lt_size)
        | (with_reducible refine wpList_box (o := ⟨some 4, _, _, _, _, _⟩) rfl (.tmp 1) 105 rfl (S.rL A c) rfl 5 rfl (by decide) ?_; intro gn w2 hgn hFn hBn; have z2 := hBn.size; have lgn := hFn.lt_size; have hF2 := hF.below hBn; have hB2 := Below.then_ hB hBn)
        | (with_reducible refine wpList_alloc (o := ⟨some 6, _, _, _, _, _⟩) rfl 105 rfl (rnL none 0 0 0 0 false 0) (by kernel_rfl) 5 rfl (by decide) ?_; intro gr w3 hgr hFr hBr; have z3 := hBr.size; have lgr := hFr.lt_size; have hF3 := hF2.below hBr; have hFn3 := hFn.below hBr; have hB3 := Below.then_ hB2 hBr)
        | (with_reducible refine wpList_load (o := ⟨some 17, _, _, _, _, _⟩) rfl (.tmp 4) 105 rfl gn 0 _ rfl (S.rL A c) 5 rfl (by kernel_rfl) hFn3.sees ?_)
        | (with_reducible refine wpList_store rfl rfl (.tmp 6) (.tmp 17) 105 rfl gr 0 _ 105 5 (rnL none 0 0 0 0 false 0) (S.rL A c) rfl rfl 5 rfl (by kernel_rfl) hFr (by omega) (allOne_out (by kernel_rfl)) w hB3 (by omega) ?_; intro w9 hF9 hB9 ho9 _))
      exact bodyPost_cellt rfl rfl (.int .i64 3) rfl (S.rL A c) 5 rfl (by kernel_rfl) hF9.sees rfl ⟨A, c, rfl, NO _ hB9, hB9⟩
  · rw [if_neg hlong] at hr
    have d0 : decide ((244 : Int) < (N : Int)) = false := by simp; omega
    obtain ⟨xs, xt, xb⟩ := X
    obtain ⟨hs3, htl, -, hno⟩ := hok
    simp only at hr HL hs3 htl hno
    by_cases hfull : 2147483648 ≤ xt
    · rw [if_pos hfull] at hr
      obtain ⟨rfl, rfl⟩ : S = T ∧ 5 = r := by simpa using hr
      clear hr
      as_aux_lemma =>
        have d1 : decide ((2147483648 : Int) ≤ (xt : Int)) = true := by simp; omega
        go_enter Try.func58, Try.ntmps58
        go_wp2_with (first
          | (with_reducible refine wpList_box (o := ⟨some 3, _, _, _, _, _⟩) rfl (.tmp 0) 109 rfl (rdL (f : Int) 2) rfl 2 rfl (by decide) ?_; intro g w1 hg hF hB; have z1 := hB.size; have lg := hF.lt_size)
          | (with_reducible refine wpList_box (o := ⟨some 4, _, _, _, _, _⟩) rfl (.tmp 1) 105 rfl (S.rL A c) rfl 5 rfl (by decide) ?_; intro gn w2 hgn hFn hBn; have z2 := hBn.size; have lgn := hFn.lt_size; have hF2 := hF.below hBn; have hB2 := Below.then_ hB hBn)
          | (with_reducible refine wpList_alloc (o := ⟨some 6, _, _, _, _, _⟩) rfl 105 rfl (rnL none 0 0 0 0 false 0) (by kernel_rfl) 5 rfl (by decide) ?_; intro gr w3 hgr hFr hBr; have z3 := hBr.size; have lgr := hFr.lt_size; have hF3 := hF2.below hBr; have hFn3 := hFn.below hBr; have hB3 := Below.then_ hB2 hBr)
          | (with_reducible refine wpList_load (o := ⟨some 19, _, _, _, _, _⟩) rfl (.tmp 3) 109 rfl g 0 _ rfl (rdL (f : Int) 2) 2 rfl (by kernel_rfl) hF3.sees ?_)
          | (with_reducible refine wpList_load (o := ⟨some 20, _, _, _, _, _⟩) rfl (.tmp 4) 105 rfl gn 0 _ rfl (S.rL A c) 5 rfl (by kernel_rfl) hFn3.sees ?_)
          | (go_at_call 64; refine (HL.out _ hB3).mono ?_; rintro e w4 ⟨A2, n2, c2, rfl, hB4⟩; have z4 := hB4.size; have hF4 := hF3.below hB4; have hFn4 := hFn3.below hB4; have hR4 := hFr.below hB4; have hB04 := Below.then_ hB3 hB4; have hng : gn ≠ g := (by omega); have hnr : gn ≠ gr := (by omega); have hrg : gr ≠ g := (by omega))
          | (with_reducible refine wpList_load (o := ⟨some 27, _, _, _, _, _⟩) rfl (.tmp 4) 105 rfl gn 0 _ rfl (S.rL A c) 5 rfl (by kernel_rfl) hFn4.sees ?_)
          | (with_reducible refine wpList_store rfl rfl (.tmp 6) (.tmp 27) 105 rfl gr 0 _ 105 5 (rnL none 0 0 0 0 false 0) (S.rL A c) rfl rfl 5 rfl (by kernel_rfl) hR4 (by omega) (allOne_out (by kernel_rfl)) w hB04 (by omega) ?_; intro w9 hF9 hB9 ho9 _))
        exact bodyPost_cellt rfl rfl (.int .i64 5) rfl (S.rL A c) 5 rfl (by kernel_rfl) hF9.sees rfl ⟨A, c, rfl, NO _ hB9, hB9⟩
    · rw [if_neg hfull] at hr
      have d1 : decide ((2147483648 : Int) ≤ (xt : Int)) = false := by simp; omega
      obtain ⟨t1, ht1⟩ : ∃ t1, xt + 1 = t1 := ⟨_, rfl⟩
      obtain ⟨m, hm⟩ : ∃ m, (N + 3) / 4 = m := ⟨_, rfl⟩
      have HM := Lib.hid hm
      have hm2 : m ≤ 62 := by omega
      have HLW : Hid ((words b).length = m) := Lib.hid (by rw [len_words, HLB.out, hm])
      have HLX : Hid ((headC t1 N ++ words b).length = 2 + m) := Lib.hid (by rw [List.length_append, HLW.out]; rfl)
      have HCW : Hid (cw (headC t1 N) = [.int .u32 (t1 : Int), .int .u32 (N : Int)]) := Lib.hid (by
        simp only [headC, cw, List.map_cons, List.map_nil, ofNat_toNat32 t1 (by omega), ofNat_toNat32 N (by omega)])
      have e1 : IntKind.i64.wrap ((xt : Int) + 1) = (t1 : Int) := by rw [IntKind.wrap_i64]; omega
      have e2 : IntKind.u32.wrap (t1 : Int) = (t1 : Int) := by rw [IntKind.wrap_u32]; omega
      have e3 : IntKind.u32.wrap (N : Int) = (N : Int) := by rw [IntKind.wrap_u32]; omega
      clear hm hno NO
      by_cases hs0 : xs = 0
      · obtain rfl := hs0
        have e4 : IntKind.i64.wrap ((1 : Int) * 64) = 64 := by decide
        have e5 : IntKind.i64.wrap ((64 : Int) + 63) = 127 := by decide
        rw [show (Co.other ⟨0, xt, xb⟩) = 1 from rfl] at hr
        clear hs3
        obtain ⟨T1, q, hT1⟩ : ∃ T1 q, S.derase f 2 (1 : Int) = (T1, q) := ⟨_, _, rfl⟩
        have hdn := derase6_n S f (1 : Int)
        have hdl := derase6_left S f (1 : Int)
        rw [hT1] at hdn hdl
        replace hdn : T1.n = S.n := hdn
        replace hdl : T1.left ≤ S.left := hdl
        have HE : Hid (∀ w', Below w.heap.size w w' → Calls Try.prog 139 #[.agg (rdL (f : Int) 2).toArray, .agg (S.rL A c).toArray, .int .i64 1] w' fun e w2 => ∃ B c2, e = .returned (.tuple #[.agg (T1.rL B c2).toArray, .int .i64 (q : Int)]) ∧ RnTo w' w2 A B c c2 S T1 ∧ Below w'.heap.size w' w2) := Lib.hid fun w' x => rdErase_any (h.step x) HL2.out f 2 (by omega) (1 : Int) (by omega) T1 q hT1
        have HTN : Hid (T1.n = S.n) := Lib.hid hdn
        have HTL : Hid (T1.left < 9223372036854775808) := Lib.hid (by have := HL2.out; omega)
        have hr2 : (∃ z, q = z + 1 ∧ T1 = T ∧ z + 1 = r) ∨ (q = 0 ∧ ∃ T2 q2, T1.dwrite f 2 (64 : Int) (headC t1 N ++ words b) = (T2, q2) ∧ ((∃ z, q2 = z + 1 ∧ T2 = T ∧ z + 1 = r) ∨ (q2 = 0 ∧ T2.dwrite f 2 (127 : Int) [0] = (T, r)))) := by
          unfold Fl.cwrite at hr
          rw [show (((1 : Nat) : Int)) = (1 : Int) from rfl, hT1] at hr
          cases q with
          | succ z =>
            left
            simp only [Prod.mk.injEq] at hr
            exact ⟨z, rfl, hr.1, hr.2⟩
          | zero =>
            right
            refine ⟨rfl, ?_⟩
            simp only at hr
            rw [show (64 : Int) * 1 = (64 : Int) from by decide] at hr
            unfold wordsC at hr
            rw [ht1, HLB.out] at hr
            obtain ⟨T2, q2, hq⟩ : ∃ T2 q2, T1.dwrite f 2 (64 : Int) (headC t1 N ++ words b) = (T2, q2) := ⟨_, _, rfl⟩
            rw [hq] at hr
            refine ⟨T2, q2, hq, ?_⟩
            cases q2 with
            | succ z =>
              left
              simp only [Prod.mk.injEq] at hr
              exact ⟨z, rfl, hr.1, hr.2⟩
            | zero =>
              right
              exact ⟨rfl, hr⟩
        clear hr hT1 hdn hdl
        rcases hr2 with ⟨z, rfl, rfl, rfl⟩ | ⟨rfl, T2, q2, hq2, hr2⟩
        · have b0 : ((((z + 1 : Nat) : Int)) != 0) = true := by simp; omega
          as_aux_lemma =>
            go_enter Try.func58, Try.ntmps58
            go_wp2_with (first
              | (with_reducible refine wpList_box (o := ⟨some 3, _, _, _, _, _⟩) rfl (.tmp 0) 109 rfl (rdL (f : Int) 2) rfl 2 rfl (by decide) ?_; intro g w1 hg hF hB; have z1 := hB.size; have lg := hF.lt_size)
              | (with_reducible refine wpList_box (o := ⟨some 4, _, _, _, _, _⟩) rfl (.tmp 1) 105 rfl (S.rL A c) rfl 5 rfl (by decide) ?_; intro gn w2 hgn hFn hBn; have z2 := hBn.size; have lgn := hFn.lt_size; have hF2 := hF.below hBn; have hB2 := Below.then_ hB hBn)
              | (with_reducible refine wpList_alloc (o := ⟨some 6, _, _, _, _, _⟩) rfl 105 rfl (rnL none 0 0 0 0 false 0) (by kernel_rfl) 5 rfl (by decide) ?_; intro gr w3 hgr hFr hBr; have z3 := hBr.size; have lgr := hFr.lt_size; have hF3 := hF2.below hBr; have hFn3 := hFn.below hBr; have hB3 := Below.then_ hB2 hBr)
              | (with_reducible refine wpList_load (o := ⟨some 19, _, _, _, _, _⟩) rfl (.tmp 3) 109 rfl g 0 _ rfl (rdL (f : Int) 2) 2 rfl (by kernel_rfl) hF3.sees ?_)
              | (with_reducible refine wpList_load (o := ⟨some 20, _, _, _, _, _⟩) rfl (.tmp 4) 105 rfl gn 0 _ rfl (S.rL A c) 5 rfl (by kernel_rfl) hFn3.sees ?_)
              | (go_at_call 64; refine (HL.out _ hB3).mono ?_; rintro e w4 ⟨A2, n2, c2, rfl, hB4⟩; have z4 := hB4.size; have hF4 := hF3.below hB4; have hFn4 := hFn3.below hB4; have hR4 := hFr.below hB4; have hB04 := Below.then_ hB3 hB4; have hng : gn ≠ g := (by omega); have hnr : gn ≠ gr := (by omega); have hrg : gr ≠ g := (by omega))
              | (with_reducible refine wpList_load (o := ⟨some 31, _, _, _, _, _⟩) rfl (.tmp 3) 109 rfl g 0 _ rfl (rdL (f : Int) 2) 2 rfl (by kernel_rfl) hF4.sees ?_)
              | (with_reducible refine wpList_load (o := ⟨some 32, _, _, _, _, _⟩) rfl (.tmp 4) 105 rfl gn 0 _ rfl (S.rL A c) 5 rfl (by kernel_rfl) hFn4.sees ?_)
              | (go_at_call 139; refine (HE.out _ hB04).mono ?_; rintro e we ⟨Be, ce, rfl, hTe, hBe⟩; have hFe := hF4.below hBe; have hFne := hFn4.below hBe; have hRe := hR4.below hBe; have hB0e := Below.then_ hB04 hBe; have ze := hBe.size; have ze0 := hB04.size)
              | (with_reducible refine wpList_store rfl rfl (.tmp 4) (.tmp 35) 105 rfl gn 0 _ 105 5 (S.rL A c) (T1.rL Be ce) rfl rfl 5 rfl (by kernel_rfl) hFne (by omega) (allOne_out (by kernel_rfl)) w hB0e (by omega) ?_; intro ws hFns hB0s hos _; have hFs := hFe.other (Ne.symm hng) hos; have hRs := hRe.other (Ne.symm hnr) hos; have hTs := RnTo.over h hB0s hTe (by omega) hos)
              | (with_reducible refine wpList_load (o := ⟨some 39, _, _, _, _, _⟩) rfl (.tmp 4) 105 rfl gn 0 _ rfl (T1.rL Be ce) 5 rfl (by kernel_rfl) hFns.sees ?_)
              | (with_reducible refine wpList_store rfl rfl (.tmp 6) (.tmp 39) 105 rfl gr 0 _ 105 5 (rnL none 0 0 0 0 false 0) (T1.rL Be ce) rfl rfl 5 rfl (by kernel_rfl) hRs (by omega) (allOne_out (by kernel_rfl)) w hB0s (by omega) ?_; intro w9 hF9 hB9 ho9 _))
            exact bodyPost_cellt rfl rfl (.int .i64 ((z + 1 : Nat) : Int)) rfl (T1.rL Be ce) 5 rfl (by kernel_rfl) hF9.sees rfl ⟨Be, ce, rfl, RnTo.shut h hTs hB9 hB04.size (by omega) ho9, hB9⟩
        · have HQ2 := Lib.hid hq2
          have HTN2 : Hid (T2.n = S.n) := Lib.hid (by
            have := (Fl.dwrite_half T1 f 2 (64 : Int) (headC t1 N ++ words b)).1
            rw [hq2] at this
            exact (show T2.n = T1.n from this).trans HTN.out)
          have HTL2 : Hid (T2.left < 9223372036854775808) := Lib.hid (by
            have := dwrite7_left T1 f (64 : Int) (headC t1 N ++ words b)
            rw [hq2] at this
            have h2 : T2.left ≤ T1.left := this
            have := HTL.out
            omega)
          clear hq2
          rcases hr2 with ⟨z, rfl, rfl, rfl⟩ | ⟨rfl, hr3⟩
          · have b0 : ((((z + 1 : Nat) : Int)) != 0) = true := by simp; omega
            as_aux_lemma =>
              go_enter Try.func58, Try.ntmps58
              go_wp2_with (first
                | (with_reducible refine wpList_box (o := ⟨some 3, _, _, _, _, _⟩) rfl (.tmp 0) 109 rfl (rdL (f : Int) 2) rfl 2 rfl (by decide) ?_; intro g w1 hg hF hB; have z1 := hB.size; have lg := hF.lt_size)
                | (with_reducible refine wpList_box (o := ⟨some 4, _, _, _, _, _⟩) rfl (.tmp 1) 105 rfl (S.rL A c) rfl 5 rfl (by decide) ?_; intro gn w2 hgn hFn hBn; have z2 := hBn.size; have lgn := hFn.lt_size; have hF2 := hF.below hBn; have hB2 := Below.then_ hB hBn)
                | (with_reducible refine wpList_alloc (o := ⟨some 6, _, _, _, _, _⟩) rfl 105 rfl (rnL none 0 0 0 0 false 0) (by kernel_rfl) 5 rfl (by decide) ?_; intro gr w3 hgr hFr hBr; have z3 := hBr.size; have lgr := hFr.lt_size; have hF3 := hF2.below hBr; have hFn3 := hFn.below hBr; have hB3 := Below.then_ hB2 hBr)
                | (with_reducible refine wpList_load (o := ⟨some 19, _, _, _, _, _⟩) rfl (.tmp 3) 109 rfl g 0 _ rfl (rdL (f : Int) 2) 2 rfl (by kernel_rfl) hF3.sees ?_)
                | (with_reducible refine wpList_load (o := ⟨some 20, _, _, _, _, _⟩) rfl (.tmp 4) 105 rfl gn 0 _ rfl (S.rL A c) 5 rfl (by kernel_rfl) hFn3.sees ?_)
                | (go_at_call 64; refine (HL.out _ hB3).mono ?_; rintro e w4 ⟨A2, n2, c2, rfl, hB4⟩; have z4 := hB4.size; have hF4 := hF3.below hB4; have hFn4 := hFn3.below hB4; have hR4 := hFr.below hB4; have hB04 := Below.then_ hB3 hB4; have hng : gn ≠ g := (by omega); have hnr : gn ≠ gr := (by omega); have hrg : gr ≠ g := (by omega))
                | (with_reducible refine wpList_load (o := ⟨some 31, _, _, _, _, _⟩) rfl (.tmp 3) 109 rfl g 0 _ rfl (rdL (f : Int) 2) 2 rfl (by kernel_rfl) hF4.sees ?_)
                | (with_reducible refine wpList_load (o := ⟨some 32, _, _, _, _, _⟩) rfl (.tmp 4) 105 rfl gn 0 _ rfl (S.rL A c) 5 rfl (by kernel_rfl) hFn4.sees ?_)
                | (go_at_call 139; refine (HE.out _ hB04).mono ?_; rintro e we ⟨Be, ce, rfl, hTe, hBe⟩; have hFe := hF4.below hBe; have hFne := hFn4.below hBe; have hRe := hR4.below hBe; have hB0e := Below.then_ hB04 hBe; have ze := hBe.size; have ze0 := hB04.size)
                | (with_reducible refine wpList_store rfl rfl (.tmp 4) (.tmp 35) 105 rfl gn 0 _ 105 5 (S.rL A c) (T1.rL Be ce) rfl rfl 5 rfl (by kernel_rfl) hFne (by omega) (allOne_out (by kernel_rfl)) w hB0e (by omega) ?_; intro ws hFns hB0s hos _; have hFs := hFe.other (Ne.symm hng) hos; have hRs := hRe.other (Ne.symm hnr) hos; have hTs := RnTo.over h hB0s hTe (by omega) hos))
              have hFw0 := Fresh.new ws 22 [.int .u32 (t1 : Int), .int .u32 (N : Int)] 2 rfl (by decide)
              have hFw : Fresh ws.heap.size 22 (ws.alloc (.cells #[.int .u32 (t1 : Int), .int .u32 (N : Int)] 22 (0, 0))) (some ⟨ws.heap.size, 0, none⟩) 2 2 (cw (headC t1 N)) := by
                rw [HCW.out]
                exact hFw0
              have hBw := below_alloc ws (.cells #[.int .u32 (t1 : Int), .int .u32 (N : Int)] 22 (0, 0))
              clear hFw0
              have hB0w := Below.then_ hB0s hBw
              have zs0 := hB0s.size
              go_wp2_with (first
                | (go_at_call 140; refine (rWords_any A8 c8 N m b _ (hb8.step hB0w) HLB.out (by omega) HM.out).mono ?_; rintro e wd ⟨A5, c5, rfl, hF5, hB5⟩; have hFw5 := hFw.below hB5; have hBw5 := Below.then_ hBw hB5)
                | (at_builtin; refine wpList_app32 rfl (.tmp 48) (.tmp 50) rfl (some ⟨ws.heap.size, 0, none⟩) A5 2 2 m c5 (headC t1 N) (words b) ws rfl rfl hFw5 hF5.sees HLW.out (by omega) hBw5 ?_; intro A6 c6 wx hF6 hBx; have hcap6 := hF6.cap.1; have hFx := hFs.below hBx; have hFnx := hFns.below hBx; have hRx := hRs.below hBx; have hTx := hTs.after hBx; have hB0x := Below.then_ hB0s hBx; have zx := hBx.size; have hWr := rdWrite_any hTx.at_ HTL.out f 2 (by rw [HTN.out]; exact hf) (64 : Int) (by omega) A6 (2 + m) c6 hcap6 (by omega) (headC t1 N ++ words b) hF6.sees HLX.out T2 _ HQ2.out)
                | (with_reducible refine wpList_load (o := ⟨some 53, _, _, _, _, _⟩) rfl (.tmp 3) 109 rfl g 0 _ rfl (rdL (f : Int) 2) 2 rfl (by kernel_rfl) hFx.sees ?_)
                | (with_reducible refine wpList_load (o := ⟨some 54, _, _, _, _, _⟩) rfl (.tmp 4) 105 rfl gn 0 _ rfl (T1.rL Be ce) 5 rfl (by kernel_rfl) hFnx.sees ?_)
                | (go_at_call 141; refine hWr.mono ?_; rintro e w8 ⟨B8, c8b, rfl, hT8, hB8⟩; clear hWr; have hF8 := hFx.below hB8; have hFn8 := hFnx.below hB8; have hR8 := hRx.below hB8; have hB08 := Below.then_ hB0x hB8; have hT48 := RnTo.then_ hTx hB8 (by omega) hT8; have z8 := hB8.size)
                | (with_reducible refine wpList_store rfl rfl (.tmp 4) (.tmp 59) 105 rfl gn 0 _ 105 5 (T1.rL Be ce) (T2.rL B8 c8b) rfl rfl 5 rfl (by kernel_rfl) hFn8 (by omega) (allOne_out (by kernel_rfl)) w hB08 (by omega) ?_; intro wt hFnt hB0t hot _; have hFt := hF8.other (Ne.symm hng) hot; have hRt := hR8.other (Ne.symm hnr) hot; have hTt := RnTo.over h hB0t hT48 (by omega) hot)
                | (with_reducible refine wpList_load (o := ⟨some 63, _, _, _, _, _⟩) rfl (.tmp 4) 105 rfl gn 0 _ rfl (T2.rL B8 c8b) 5 rfl (by kernel_rfl) hFnt.sees ?_)
                | (with_reducible refine wpList_store rfl rfl (.tmp 6) (.tmp 63) 105 rfl gr 0 _ 105 5 (rnL none 0 0 0 0 false 0) (T2.rL B8 c8b) rfl rfl 5 rfl (by kernel_rfl) hRt (by omega) (allOne_out (by kernel_rfl)) w hB0t (by omega) ?_; intro w9 hF9 hB9 ho9 _))
              exact bodyPost_cellt rfl rfl (.int .i64 ((z + 1 : Nat) : Int)) rfl (T2.rL B8 c8b) 5 rfl (by kernel_rfl) hF9.sees rfl ⟨B8, c8b, rfl, RnTo.shut h hTt hB9 hB04.size (by omega) ho9, hB9⟩
          · have HR := Lib.hid hr3
            clear hr3
            as_aux_lemma =>
              go_enter Try.func58, Try.ntmps58
              go_wp2_with (first
                | (with_reducible refine wpList_box (o := ⟨some 3, _, _, _, _, _⟩) rfl (.tmp 0) 109 rfl (rdL (f : Int) 2) rfl 2 rfl (by decide) ?_; intro g w1 hg hF hB; have z1 := hB.size; have lg := hF.lt_size)
                | (with_reducible refine wpList_box (o := ⟨some 4, _, _, _, _, _⟩) rfl (.tmp 1) 105 rfl (S.rL A c) rfl 5 rfl (by decide) ?_; intro gn w2 hgn hFn hBn; have z2 := hBn.size; have lgn := hFn.lt_size; have hF2 := hF.below hBn; have hB2 := Below.then_ hB hBn)
                | (with_reducible refine wpList_alloc (o := ⟨some 6, _, _, _, _, _⟩) rfl 105 rfl (rnL none 0 0 0 0 false 0) (by kernel_rfl) 5 rfl (by decide) ?_; intro gr w3 hgr hFr hBr; have z3 := hBr.size; have lgr := hFr.lt_size; have hF3 := hF2.below hBr; have hFn3 := hFn.below hBr; have hB3 := Below.then_ hB2 hBr)
                | (with_reducible refine wpList_load (o := ⟨some 19, _, _, _, _, _⟩) rfl (.tmp 3) 109 rfl g 0 _ rfl (rdL (f : Int) 2) 2 rfl (by kernel_rfl) hF3.sees ?_)
                | (with_reducible refine wpList_load (o := ⟨some 20, _, _, _, _, _⟩) rfl (.tmp 4) 105 rfl gn 0 _ rfl (S.rL A c) 5 rfl (by kernel_rfl) hFn3.sees ?_)
                | (go_at_call 64; refine (HL.out _ hB3).mono ?_; rintro e w4 ⟨A2, n2, c2, rfl, hB4⟩; have z4 := hB4.size; have hF4 := hF3.below hB4; have hFn4 := hFn3.below hB4; have hR4 := hFr.below hB4; have hB04 := Below.then_ hB3 hB4; have hng : gn ≠ g := (by omega); have hnr : gn ≠ gr := (by omega); have hrg : gr ≠ g := (by omega))
                | (with_reducible refine wpList_load (o := ⟨some 31, _, _, _, _, _⟩) rfl (.tmp 3) 109 rfl g 0 _ rfl (rdL (f : Int) 2) 2 rfl (by kernel_rfl) hF4.sees ?_)
                | (with_reducible refine wpList_load (o := ⟨some 32, _, _, _, _, _⟩) rfl (.tmp 4) 105 rfl gn 0 _ rfl (S.rL A c) 5 rfl (by kernel_rfl) hFn4.sees ?_)
                | (go_at_call 139; refine (HE.out _ hB04).mono ?_; rintro e we ⟨Be, ce, rfl, hTe, hBe⟩; have hFe := hF4.below hBe; have hFne := hFn4.below hBe; have hRe := hR4.below hBe; have hB0e := Below.then_ hB04 hBe; have ze := hBe.size; have ze0 := hB04.size)
                | (with_reducible refine wpList_store rfl rfl (.tmp 4) (.tmp 35) 105 rfl gn 0 _ 105 5 (S.rL A c) (T1.rL Be ce) rfl rfl 5 rfl (by kernel_rfl) hFne (by omega) (allOne_out (by kernel_rfl)) w hB0e (by omega) ?_; intro ws hFns hB0s hos _; have hFs := hFe.other (Ne.symm hng) hos; have hRs := hRe.other (Ne.symm hnr) hos; have hTs := RnTo.over h hB0s hTe (by omega) hos))
              have hFw0 := Fresh.new ws 22 [.int .u32 (t1 : Int), .int .u32 (N : Int)] 2 rfl (by decide)
              have hFw : Fresh ws.heap.size 22 (ws.alloc (.cells #[.int .u32 (t1 : Int), .int .u32 (N : Int)] 22 (0, 0))) (some ⟨ws.heap.size, 0, none⟩) 2 2 (cw (headC t1 N)) := by
                rw [HCW.out]
                exact hFw0
              have hBw := below_alloc ws (.cells #[.int .u32 (t1 : Int), .int .u32 (N : Int)] 22 (0, 0))
              clear hFw0
              have hB0w := Below.then_ hB0s hBw
              have zs0 := hB0s.size
              go_wp2_with (first
                | (go_at_call 140; refine (rWords_any A8 c8 N m b _ (hb8.step hB0w) HLB.out (by omega) HM.out).mono ?_; rintro e wd ⟨A5, c5, rfl, hF5, hB5⟩; have hFw5 := hFw.below hB5; have hBw5 := Below.then_ hBw hB5)
                | (at_builtin; refine wpList_app32 rfl (.tmp 48) (.tmp 50) rfl (some ⟨ws.heap.size, 0, none⟩) A5 2 2 m c5 (headC t1 N) (words b) ws rfl rfl hFw5 hF5.sees HLW.out (by omega) hBw5 ?_; intro A6 c6 wx hF6 hBx; have hcap6 := hF6.cap.1; have hFx := hFs.below hBx; have hFnx := hFns.below hBx; have hRx := hRs.below hBx; have hTx := hTs.after hBx; have hB0x := Below.then_ hB0s hBx; have zx := hBx.size; have hWr := rdWrite_any hTx.at_ HTL.out f 2 (by rw [HTN.out]; exact hf) (64 : Int) (by omega) A6 (2 + m) c6 hcap6 (by omega) (headC t1 N ++ words b) hF6.sees HLX.out T2 _ HQ2.out)
                | (with_reducible refine wpList_load (o := ⟨some 53, _, _, _, _, _⟩) rfl (.tmp 3) 109 rfl g 0 _ rfl (rdL (f : Int) 2) 2 rfl (by kernel_rfl) hFx.sees ?_)
                | (with_reducible refine wpList_load (o := ⟨some 54, _, _, _, _, _⟩) rfl (.tmp 4) 105 rfl gn 0 _ rfl (T1.rL Be ce) 5 rfl (by kernel_rfl) hFnx.sees ?_)
                | (go_at_call 141; refine hWr.mono ?_; rintro e w8 ⟨B8, c8b, rfl, hT8, hB8⟩; clear hWr; have hF8 := hFx.below hB8; have hFn8 := hFnx.below hB8; have hR8 := hRx.below hB8; have hB08 := Below.then_ hB0x hB8; have hT48 := RnTo.then_ hTx hB8 (by omega) hT8; have z8 := hB8.size)
                | (with_reducible refine wpList_store rfl rfl (.tmp 4) (.tmp 59) 105 rfl gn 0 _ 105 5 (T1.rL Be ce) (T2.rL B8 c8b) rfl rfl 5 rfl (by kernel_rfl) hFn8 (by omega) (allOne_out (by kernel_rfl)) w hB08 (by omega) ?_; intro wt hFnt hB0t hot _; have hFt := hF8.other (Ne.symm hng) hot; have hRt := hR8.other (Ne.symm hnr) hot; have hTt := RnTo.over h hB0t hT48 (by omega) hot)
                | (with_reducible refine wpList_load (o := ⟨some 65, _, _, _, _, _⟩) rfl (.tmp 3) 109 rfl g 0 _ rfl (rdL (f : Int) 2) 2 rfl (by kernel_rfl) hFt.sees ?_)
                | (with_reducible refine wpList_load (o := ⟨some 66, _, _, _, _, _⟩) rfl (.tmp 4) 105 rfl gn 0 _ rfl (T2.rL B8 c8b) 5 rfl (by kernel_rfl) hFnt.sees ?_))
              have hcz : cw [0] = [.int .u32 0] := by kernel_rfl
              have hFz : Fresh wt.heap.size 22 (wt.alloc (.cells #[.int .u32 0] 22 (0, 0))) (some ⟨wt.heap.size, 0, none⟩) 1 1 (cw [0]) := by
                rw [hcz]
                exact Fresh.new wt 22 [.int .u32 0] 1 rfl (by decide)
              have hBz := below_alloc wt (.cells #[.int .u32 0] 22 (0, 0))
              have hRz := hRt.below hBz
              have hTz := hTt.after hBz
              have hB0z := Below.then_ hB0t hBz
              have zz := hBz.size
              have zt := hB0t.size
              have hW2 := rdWrite_any hTz.at_ HTL2.out f 2 (by rw [HTN2.out]; exact hf) (127 : Int) (by omega) (some ⟨wt.heap.size, 0, none⟩) 1 1 (Nat.le_refl _) (by decide) [0] hFz.sees rfl T r HR.out
              clear hFz hcz
              go_wp2_with (first
                | (go_at_call 141; refine hW2.mono ?_; rintro e wy ⟨By, cy, rfl, hTy, hBy⟩; clear hW2; have hRy := hRz.below hBy; have hB0y := Below.then_ hB0z hBy; have hTy4 := RnTo.then_ hTz hBy (by omega) hTy; have zy := hBy.size)
                | (with_reducible refine wpList_store rfl rfl (.tmp 6) (.tmp 72) 105 rfl gr 0 _ 105 5 (rnL none 0 0 0 0 false 0) (T.rL By cy) rfl rfl 5 rfl (by kernel_rfl) hRy (by omega) (allOne_out (by kernel_rfl)) w hB0y (by omega) ?_; intro w9 hF9 hB9 ho9 _))
              exact bodyPost_cellt rfl rfl (.int .i64 (r : Int)) rfl (T.rL By cy) 5 rfl (by kernel_rfl) hF9.sees rfl ⟨By, cy, rfl, RnTo.shut h hTy4 hB9 hB04.size (by omega) ho9, hB9⟩
      · have hq0 : (xs == 0) = false := by simp [hs0]
        have e4 : IntKind.i64.wrap ((0 : Int) * 64) = 0 := by decide
        have e5 : IntKind.i64.wrap ((0 : Int) + 63) = 63 := by decide
        rw [show (Co.other ⟨xs, xt, xb⟩) = 0 from by rcases hs3 with e | e | e <;> simp_all [Co.other]] at hr
        clear hs3 hs0
        obtain ⟨T1, q, hT1⟩ : ∃ T1 q, S.derase f 2 (0 : Int) = (T1, q) := ⟨_, _, rfl⟩
        have hdn := derase6_n S f (0 : Int)
        have hdl := derase6_left S f (0 : Int)
        rw [hT1] at hdn hdl
        replace hdn : T1.n = S.n := hdn
        replace hdl : T1.left ≤ S.left := hdl
        have HE : Hid (∀ w', Below w.heap.size w w' → Calls Try.prog 139 #[.agg (rdL (f : Int) 2).toArray, .agg (S.rL A c).toArray, .int .i64 0] w' fun e w2 => ∃ B c2, e = .returned (.tuple #[.agg (T1.rL B c2).toArray, .int .i64 (q : Int)]) ∧ RnTo w' w2 A B c c2 S T1 ∧ Below w'.heap.size w' w2) := Lib.hid fun w' x => rdErase_any (h.step x) HL2.out f 2 (by omega) (0 : Int) (by omega) T1 q hT1
        have HTN : Hid (T1.n = S.n) := Lib.hid hdn
        have HTL : Hid (T1.left < 9223372036854775808) := Lib.hid (by have := HL2.out; omega)
        have hr2 : (∃ z, q = z + 1 ∧ T1 = T ∧ z + 1 = r) ∨ (q = 0 ∧ ∃ T2 q2, T1.dwrite f 2 (0 : Int) (headC t1 N ++ words b) = (T2, q2) ∧ ((∃ z, q2 = z + 1 ∧ T2 = T ∧ z + 1 = r) ∨ (q2 = 0 ∧ T2.dwrite f 2 (63 : Int) [0] = (T, r)))) := by
          unfold Fl.cwrite at hr
          rw [show (((0 : Nat) : Int)) = (0 : Int) from rfl, hT1] at hr
          cases q with
          | succ z =>
            left
            simp only [Prod.mk.injEq] at hr
            exact ⟨z, rfl, hr.1, hr.2⟩
          | zero =>
            right
            refine ⟨rfl, ?_⟩
            simp only at hr
            rw [show (64 : Int) * 0 = (0 : Int) from by decide] at hr
            unfold wordsC at hr
            rw [ht1, HLB.out] at hr
            obtain ⟨T2, q2, hq⟩ : ∃ T2 q2, T1.dwrite f 2 (0 : Int) (headC t1 N ++ words b) = (T2, q2) := ⟨_, _, rfl⟩
            rw [hq] at hr
            refine ⟨T2, q2, hq, ?_⟩
            cases q2 with
            | succ z =>
              left
              simp only [Prod.mk.injEq] at hr
              exact ⟨z, rfl, hr.1, hr.2⟩
            | zero =>
              right
              exact ⟨rfl, hr⟩
        clear hr hT1 hdn hdl
        rcases hr2 with ⟨z, rfl, rfl, rfl⟩ | ⟨rfl, T2, q2, hq2, hr2⟩
        · have b0 : ((((z + 1 : Nat) : Int)) != 0) = true := by simp; omega
          as_aux_lemma =>
            go_enter Try.func58, Try.ntmps58
            go_wp2_with (first
              | (with_reducible refine wpList_box (o := ⟨some 3, _, _, _, _, _⟩) rfl (.tmp 0) 109 rfl (rdL (f : Int) 2) rfl 2 rfl (by decide) ?_; intro g w1 hg hF hB; have z1 := hB.size; have lg := hF.lt_size)
              | (with_reducible refine wpList_box (o := ⟨some 4, _, _, _, _, _⟩) rfl (.tmp 1) 105 rfl (S.rL A c) rfl 5 rfl (by decide) ?_; intro gn w2 hgn hFn hBn; have z2 := hBn.size; have lgn := hFn.lt_size; have hF2 := hF.below hBn; have hB2 := Below.then_ hB hBn)
              | (with_reducible refine wpList_alloc (o := ⟨some 6, _, _, _, _, _⟩) rfl 105 rfl (rnL none 0 0 0 0 false 0) (by kernel_rfl) 5 rfl (by decide) ?_; intro gr w3 hgr hFr hBr; have z3 := hBr.size; have lgr := hFr.lt_size; have hF3 := hF2.below hBr; have hFn3 := hFn.below hBr; have hB3 := Below.then_ hB2 hBr)
              | (with_reducible refine wpList_load (o := ⟨some 19, _, _, _, _, _⟩) rfl (.tmp 3) 109 rfl g 0 _ rfl (rdL (f : Int) 2) 2 rfl (by kernel_rfl) hF3.sees ?_)
              | (with_reducible refine wpList_load (o := ⟨some 20, _, _, _, _, _⟩) rfl (.tmp 4) 105 rfl gn 0 _ rfl (S.rL A c) 5 rfl (by kernel_rfl) hFn3.sees ?_)
              | (go_at_call 64; refine (HL.out _ hB3).mono ?_; rintro e w4 ⟨A2, n2, c2, rfl, hB4⟩; have z4 := hB4.size; have hF4 := hF3.below hB4; have hFn4 := hFn3.below hB4; have hR4 := hFr.below hB4; have hB04 := Below.then_ hB3 hB4; have hng : gn ≠ g := (by omega); have hnr : gn ≠ gr := (by omega); have hrg : gr ≠ g := (by omega))
              | (with_reducible refine wpList_load (o := ⟨some 31, _, _, _, _, _⟩) rfl (.tmp 3) 109 rfl g 0 _ rfl (rdL (f : Int) 2) 2 rfl (by kernel_rfl) hF4.sees ?_)
              | (with_reducible refine wpList_load (o := ⟨some 32, _, _, _, _, _⟩) rfl (.tmp 4) 105 rfl gn 0 _ rfl (S.rL A c) 5 rfl (by kernel_rfl) hFn4.sees ?_)
              | (go_at_call 139; refine (HE.out _ hB04).mono ?_; rintro e we ⟨Be, ce, rfl, hTe, hBe⟩; have hFe := hF4.below hBe; have hFne := hFn4.below hBe; have hRe := hR4.below hBe; have hB0e := Below.then_ hB04 hBe; have ze := hBe.size; have ze0 := hB04.size)
              | (with_reducible refine wpList_store rfl rfl (.tmp 4) (.tmp 35) 105 rfl gn 0 _ 105 5 (S.rL A c) (T1.rL Be ce) rfl rfl 5 rfl (by kernel_rfl) hFne (by omega) (allOne_out (by kernel_rfl)) w hB0e (by omega) ?_; intro ws hFns hB0s hos _; have hFs := hFe.other (Ne.symm hng) hos; have hRs := hRe.other (Ne.symm hnr) hos; have hTs := RnTo.over h hB0s hTe (by omega) hos)
              | (with_reducible refine wpList_load (o := ⟨some 39, _, _, _, _, _⟩) rfl (.tmp 4) 105 rfl gn 0 _ rfl (T1.rL Be ce) 5 rfl (by kernel_rfl) hFns.sees ?_)
              | (with_reducible refine wpList_store rfl rfl (.tmp 6) (.tmp 39) 105 rfl gr 0 _ 105 5 (rnL none 0 0 0 0 false 0) (T1.rL Be ce) rfl rfl 5 rfl (by kernel_rfl) hRs (by omega) (allOne_out (by kernel_rfl)) w hB0s (by omega) ?_; intro w9 hF9 hB9 ho9 _))
            exact bodyPost_cellt rfl rfl (.int .i64 ((z + 1 : Nat) : Int)) rfl (T1.rL Be ce) 5 rfl (by kernel_rfl) hF9.sees rfl ⟨Be, ce, rfl, RnTo.shut h hTs hB9 hB04.size (by omega) ho9, hB9⟩
        · have HQ2 := Lib.hid hq2
          have HTN2 : Hid (T2.n = S.n) := Lib.hid (by
            have := (Fl.dwrite_half T1 f 2 (0 : Int) (headC t1 N ++ words b)).1
            rw [hq2] at this
            exact (show T2.n = T1.n from this).trans HTN.out)
          have HTL2 : Hid (T2.left < 9223372036854775808) := Lib.hid (by
            have := dwrite7_left T1 f (0 : Int) (headC t1 N ++ words b)
            rw [hq2] at this
            have h2 : T2.left ≤ T1.left := this
            have := HTL.out
            omega)
          clear hq2
          rcases hr2 with ⟨z, rfl, rfl, rfl⟩ | ⟨rfl, hr3⟩
          · have b0 : ((((z + 1 : Nat) : Int)) != 0) = true := by simp; omega
            as_aux_lemma =>
              go_enter Try.func58, Try.ntmps58
              go_wp2_with (first
                | (with_reducible refine wpList_box (o := ⟨some 3, _, _, _, _, _⟩) rfl (.tmp 0) 109 rfl (rdL (f : Int) 2) rfl 2 rfl (by decide) ?_; intro g w1 hg hF hB; have z1 := hB.size; have lg := hF.lt_size)
                | (with_reducible refine wpList_box (o := ⟨some 4, _, _, _, _, _⟩) rfl (.tmp 1) 105 rfl (S.rL A c) rfl 5 rfl (by decide) ?_; intro gn w2 hgn hFn hBn; have z2 := hBn.size; have lgn := hFn.lt_size; have hF2 := hF.below hBn; have hB2 := Below.then_ hB hBn)
                | (with_reducible refine wpList_alloc (o := ⟨some 6, _, _, _, _, _⟩) rfl 105 rfl (rnL none 0 0 0 0 false 0) (by kernel_rfl) 5 rfl (by decide) ?_; intro gr w3 hgr hFr hBr; have z3 := hBr.size; have lgr := hFr.lt_size; have hF3 := hF2.below hBr; have hFn3 := hFn.below hBr; have hB3 := Below.then_ hB2 hBr)
                | (with_reducible refine wpList_load (o := ⟨some 19, _, _, _, _, _⟩) rfl (.tmp 3) 109 rfl g 0 _ rfl (rdL (f : Int) 2) 2 rfl (by kernel_rfl) hF3.sees ?_)
                | (with_reducible refine wpList_load (o := ⟨some 20, _, _, _, _, _⟩) rfl (.tmp 4) 105 rfl gn 0 _ rfl (S.rL A c) 5 rfl (by kernel_rfl) hFn3.sees ?_)
                | (go_at_call 64; refine (HL.out _ hB3).mono ?_; rintro e w4 ⟨A2, n2, c2, rfl, hB4⟩; have z4 := hB4.size; have hF4 := hF3.below hB4; have hFn4 := hFn3.below hB4; have hR4 := hFr.below hB4; have hB04 := Below.then_ hB3 hB4; have hng : gn ≠ g := (by omega); have hnr : gn ≠ gr := (by omega); have hrg : gr ≠ g := (by omega))
                | (with_reducible refine wpList_load (o := ⟨some 31, _, _, _, _, _⟩) rfl (.tmp 3) 109 rfl g 0 _ rfl (rdL (f : Int) 2) 2 rfl (by kernel_rfl) hF4.sees ?_)
                | (with_reducible refine wpList_load (o := ⟨some 32, _, _, _, _, _⟩) rfl (.tmp 4) 105 rfl gn 0 _ rfl (S.rL A c) 5 rfl (by kernel_rfl) hFn4.sees ?_)
                | (go_at_call 139; refine (HE.out _ hB04).mono ?_; rintro e we ⟨Be, ce, rfl, hTe, hBe⟩; have hFe := hF4.below hBe; have hFne := hFn4.below hBe; have hRe := hR4.below hBe; have hB0e := Below.then_ hB04 hBe; have ze := hBe.size; have ze0 := hB04.size)
                | (with_reducible refine wpList_store rfl rfl (.tmp 4) (.tmp 35) 105 rfl gn 0 _ 105 5 (S.rL A c) (T1.rL Be ce) rfl rfl 5 rfl (by kernel_rfl) hFne (by omega) (allOne_out (by kernel_rfl)) w hB0e (by omega) ?_; intro ws hFns hB0s hos _; have hFs := hFe.other (Ne.symm hng) hos; have hRs := hRe.other (Ne.symm hnr) hos; have hTs := RnTo.over h hB0s hTe (by omega) hos))
              have hFw0 := Fresh.new ws 22 [.int .u32 (t1 : Int), .int .u32 (N : Int)] 2 rfl (by decide)
              have hFw : Fresh ws.heap.size 22 (ws.alloc (.cells #[.int .u32 (t1 : Int), .int .u32 (N : Int)] 22 (0, 0))) (some ⟨ws.heap.size, 0, none⟩) 2 2 (cw (headC t1 N)) := by
                rw [HCW.out]
                exact hFw0
              have hBw := below_alloc ws (.cells #[.int .u32 (t1 : Int), .int .u32 (N : Int)] 22 (0, 0))
              clear hFw0
              have hB0w := Below.then_ hB0s hBw
              have zs0 := hB0s.size
              go_wp2_with (first
                | (go_at_call 140; refine (rWords_any A8 c8 N m b _ (hb8.step hB0w) HLB.out (by omega) HM.out).mono ?_; rintro e wd ⟨A5, c5, rfl, hF5, hB5⟩; have hFw5 := hFw.below hB5; have hBw5 := Below.then_ hBw hB5)
                | (at_builtin; refine wpList_app32 rfl (.tmp 48) (.tmp 50) rfl (some ⟨ws.heap.size, 0, none⟩) A5 2 2 m c5 (headC t1 N) (words b) ws rfl rfl hFw5 hF5.sees HLW.out (by omega) hBw5 ?_; intro A6 c6 wx hF6 hBx; have hcap6 := hF6.cap.1; have hFx := hFs.below hBx; have hFnx := hFns.below hBx; have hRx := hRs.below hBx; have hTx := hTs.after hBx; have hB0x := Below.then_ hB0s hBx; have zx := hBx.size; have hWr := rdWrite_any hTx.at_ HTL.out f 2 (by rw [HTN.out]; exact hf) (0 : Int) (by omega) A6 (2 + m) c6 hcap6 (by omega) (headC t1 N ++ words b) hF6.sees HLX.out T2 _ HQ2.out)
                | (with_reducible refine wpList_load (o := ⟨some 53, _, _, _, _, _⟩) rfl (.tmp 3) 109 rfl g 0 _ rfl (rdL (f : Int) 2) 2 rfl (by kernel_rfl) hFx.sees ?_)
                | (with_reducible refine wpList_load (o := ⟨some 54, _, _, _, _, _⟩) rfl (.tmp 4) 105 rfl gn 0 _ rfl (T1.rL Be ce) 5 rfl (by kernel_rfl) hFnx.sees ?_)
                | (go_at_call 141; refine hWr.mono ?_; rintro e w8 ⟨B8, c8b, rfl, hT8, hB8⟩; clear hWr; have hF8 := hFx.below hB8; have hFn8 := hFnx.below hB8; have hR8 := hRx.below hB8; have hB08 := Below.then_ hB0x hB8; have hT48 := RnTo.then_ hTx hB8 (by omega) hT8; have z8 := hB8.size)
                | (with_reducible refine wpList_store rfl rfl (.tmp 4) (.tmp 59) 105 rfl gn 0 _ 105 5 (T1.rL Be ce) (T2.rL B8 c8b) rfl rfl 5 rfl (by kernel_rfl) hFn8 (by omega) (allOne_out (by kernel_rfl)) w hB08 (by omega) ?_; intro wt hFnt hB0t hot _; have hFt := hF8.other (Ne.symm hng) hot; have hRt := hR8.other (Ne.symm hnr) hot; have hTt := RnTo.over h hB0t hT48 (by omega) hot)
                | (with_reducible refine wpList_load (o := ⟨some 63, _, _, _, _, _⟩) rfl (.tmp 4) 105 rfl gn 0 _ rfl (T2.rL B8 c8b) 5 rfl (by kernel_rfl) hFnt.sees ?_)
                | (with_reducible refine wpList_store rfl rfl (.tmp 6) (.tmp 63) 105 rfl gr 0 _ 105 5 (rnL none 0 0 0 0 false 0) (T2.rL B8 c8b) rfl rfl 5 rfl (by kernel_rfl) hRt (by omega) (allOne_out (by kernel_rfl)) w hB0t (by omega) ?_; intro w9 hF9 hB9 ho9 _))
              exact bodyPost_cellt rfl rfl (.int .i64 ((z + 1 : Nat) : Int)) rfl (T2.rL B8 c8b) 5 rfl (by kernel_rfl) hF9.sees rfl ⟨B8, c8b, rfl, RnTo.shut h hTt hB9 hB04.size (by omega) ho9, hB9⟩
          · have HR := Lib.hid hr3
            clear hr3
            as_aux_lemma =>
              go_enter Try.func58, Try.ntmps58
              go_wp2_with (first
                | (with_reducible refine wpList_box (o := ⟨some 3, _, _, _, _, _⟩) rfl (.tmp 0) 109 rfl (rdL (f : Int) 2) rfl 2 rfl (by decide) ?_; intro g w1 hg hF hB; have z1 := hB.size; have lg := hF.lt_size)
                | (with_reducible refine wpList_box (o := ⟨some 4, _, _, _, _, _⟩) rfl (.tmp 1) 105 rfl (S.rL A c) rfl 5 rfl (by decide) ?_; intro gn w2 hgn hFn hBn; have z2 := hBn.size; have lgn := hFn.lt_size; have hF2 := hF.below hBn; have hB2 := Below.then_ hB hBn)
                | (with_reducible refine wpList_alloc (o := ⟨some 6, _, _, _, _, _⟩) rfl 105 rfl (rnL none 0 0 0 0 false 0) (by kernel_rfl) 5 rfl (by decide) ?_; intro gr w3 hgr hFr hBr; have z3 := hBr.size; have lgr := hFr.lt_size; have hF3 := hF2.below hBr; have hFn3 := hFn.below hBr; have hB3 := Below.then_ hB2 hBr)
                | (with_reducible refine wpList_load (o := ⟨some 19, _, _, _, _, _⟩) rfl (.tmp 3) 109 rfl g 0 _ rfl (rdL (f : Int) 2) 2 rfl (by kernel_rfl) hF3.sees ?_)
                | (with_reducible refine wpList_load (o := ⟨some 20, _, _, _, _, _⟩) rfl (.tmp 4) 105 rfl gn 0 _ rfl (S.rL A c) 5 rfl (by kernel_rfl) hFn3.sees ?_)
                | (go_at_call 64; refine (HL.out _ hB3).mono ?_; rintro e w4 ⟨A2, n2, c2, rfl, hB4⟩; have z4 := hB4.size; have hF4 := hF3.below hB4; have hFn4 := hFn3.below hB4; have hR4 := hFr.below hB4; have hB04 := Below.then_ hB3 hB4; have hng : gn ≠ g := (by omega); have hnr : gn ≠ gr := (by omega); have hrg : gr ≠ g := (by omega))
                | (with_reducible refine wpList_load (o := ⟨some 31, _, _, _, _, _⟩) rfl (.tmp 3) 109 rfl g 0 _ rfl (rdL (f : Int) 2) 2 rfl (by kernel_rfl) hF4.sees ?_)
                | (with_reducible refine wpList_load (o := ⟨some 32, _, _, _, _, _⟩) rfl (.tmp 4) 105 rfl gn 0 _ rfl (S.rL A c) 5 rfl (by kernel_rfl) hFn4.sees ?_)
                | (go_at_call 139; refine (HE.out _ hB04).mono ?_; rintro e we ⟨Be, ce, rfl, hTe, hBe⟩; have hFe := hF4.below hBe; have hFne := hFn4.below hBe; have hRe := hR4.below hBe; have hB0e := Below.then_ hB04 hBe; have ze := hBe.size; have ze0 := hB04.size)
                | (with_reducible refine wpList_store rfl rfl (.tmp 4) (.tmp 35) 105 rfl gn 0 _ 105 5 (S.rL A c) (T1.rL Be ce) rfl rfl 5 rfl (by kernel_rfl) hFne (by omega) (allOne_out (by kernel_rfl)) w hB0e (by omega) ?_; intro ws hFns hB0s hos _; have hFs := hFe.other (Ne.symm hng) hos; have hRs := hRe.other (Ne.symm hnr) hos; have hTs := RnTo.over h hB0s hTe (by omega) hos))
              have hFw0 := Fresh.new ws 22 [.int .u32 (t1 : Int), .int .u32 (N : Int)] 2 rfl (by decide)
              have hFw : Fresh ws.heap.size 22 (ws.alloc (.cells #[.int .u32 (t1 : Int), .int .u32 (N : Int)] 22 (0, 0))) (some ⟨ws.heap.size, 0, none⟩) 2 2 (cw (headC t1 N)) := by
                rw [HCW.out]
                exact hFw0
              have hBw := below_alloc ws (.cells #[.int .u32 (t1 : Int), .int .u32 (N : Int)] 22 (0, 0))
              clear hFw0
              have hB0w := Below.then_ hB0s hBw
              have zs0 := hB0s.size
              go_wp2_with (first
                | (go_at_call 140; refine (rWords_any A8 c8 N m b _ (hb8.step hB0w) HLB.out (by omega) HM.out).mono ?_; rintro e wd ⟨A5, c5, rfl, hF5, hB5⟩; have hFw5 := hFw.below hB5; have hBw5 := Below.then_ hBw hB5)
                | (at_builtin; refine wpList_app32 rfl (.tmp 48) (.tmp 50) rfl (some ⟨ws.heap.size, 0, none⟩) A5 2 2 m c5 (headC t1 N) (words b) ws rfl rfl hFw5 hF5.sees HLW.out (by omega) hBw5 ?_; intro A6 c6 wx hF6 hBx; have hcap6 := hF6.cap.1; have hFx := hFs.below hBx; have hFnx := hFns.below hBx; have hRx := hRs.below hBx; have hTx := hTs.after hBx; have hB0x := Below.then_ hB0s hBx; have zx := hBx.size; have hWr := rdWrite_any hTx.at_ HTL.out f 2 (by rw [HTN.out]; exact hf) (0 : Int) (by omega) A6 (2 + m) c6 hcap6 (by omega) (headC t1 N ++ words b) hF6.sees HLX.out T2 _ HQ2.out)
                | (with_reducible refine wpList_load (o := ⟨some 53, _, _, _, _, _⟩) rfl (.tmp 3) 109 rfl g 0 _ rfl (rdL (f : Int) 2) 2 rfl (by kernel_rfl) hFx.sees ?_)
                | (with_reducible refine wpList_load (o := ⟨some 54, _, _, _, _, _⟩) rfl (.tmp 4) 105 rfl gn 0 _ rfl (T1.rL Be ce) 5 rfl (by kernel_rfl) hFnx.sees ?_)
                | (go_at_call 141; refine hWr.mono ?_; rintro e w8 ⟨B8, c8b, rfl, hT8, hB8⟩; clear hWr; have hF8 := hFx.below hB8; have hFn8 := hFnx.below hB8; have hR8 := hRx.below hB8; have hB08 := Below.then_ hB0x hB8; have hT48 := RnTo.then_ hTx hB8 (by omega) hT8; have z8 := hB8.size)
                | (with_reducible refine wpList_store rfl rfl (.tmp 4) (.tmp 59) 105 rfl gn 0 _ 105 5 (T1.rL Be ce) (T2.rL B8 c8b) rfl rfl 5 rfl (by kernel_rfl) hFn8 (by omega) (allOne_out (by kernel_rfl)) w hB08 (by omega) ?_; intro wt hFnt hB0t hot _; have hFt := hF8.other (Ne.symm hng) hot; have hRt := hR8.other (Ne.symm hnr) hot; have hTt := RnTo.over h hB0t hT48 (by omega) hot)
                | (with_reducible refine wpList_load (o := ⟨some 65, _, _, _, _, _⟩) rfl (.tmp 3) 109 rfl g 0 _ rfl (rdL (f : Int) 2) 2 rfl (by kernel_rfl) hFt.sees ?_)
                | (with_reducible refine wpList_load (o := ⟨some 66, _, _, _, _, _⟩) rfl (.tmp 4) 105 rfl gn 0 _ rfl (T2.rL B8 c8b) 5 rfl (by kernel_rfl) hFnt.sees ?_))
              have hcz : cw [0] = [.int .u32 0] := by kernel_rfl
              have hFz : Fresh wt.heap.size 22 (wt.alloc (.cells #[.int .u32 0] 22 (0, 0))) (some ⟨wt.heap.size, 0, none⟩) 1 1 (cw [0]) := by
                rw [hcz]
                exact Fresh.new wt 22 [.int .u32 0] 1 rfl (by decide)
              have hBz := below_alloc wt (.cells #[.int .u32 0] 22 (0, 0))
              have hRz := hRt.below hBz
              have hTz := hTt.after hBz
              have hB0z := Below.then_ hB0t hBz
              have zz := hBz.size
              have zt := hB0t.size
              have hW2 := rdWrite_any hTz.at_ HTL2.out f 2 (by rw [HTN2.out]; exact hf) (63 : Int) (by omega) (some ⟨wt.heap.size, 0, none⟩) 1 1 (Nat.le_refl _) (by decide) [0] hFz.sees rfl T r HR.out
              clear hFz hcz
              go_wp2_with (first
                | (go_at_call 141; refine hW2.mono ?_; rintro e wy ⟨By, cy, rfl, hTy, hBy⟩; clear hW2; have hRy := hRz.below hBy; have hB0y := Below.then_ hB0z hBy; have hTy4 := RnTo.then_ hTz hBy (by omega) hTy; have zy := hBy.size)
                | (with_reducible refine wpList_store rfl rfl (.tmp 6) (.tmp 72) 105 rfl gr 0 _ 105 5 (rnL none 0 0 0 0 false 0) (T.rL By cy) rfl rfl 5 rfl (by kernel_rfl) hRy (by omega) (allOne_out (by kernel_rfl)) w hB0y (by omega) ?_; intro w9 hF9 hB9 ho9 _))
              exact bodyPost_cellt rfl rfl (.int .i64 (r : Int)) rfl (T.rL By cy) 5 rfl (by kernel_rfl) hF9.sees rfl ⟨By, cy, rfl, RnTo.shut h hTy4 hB9 hB04.size (by omega) ho9, hB9⟩
set_option maxRecDepth 100000 in
theorem rCOpen_any (h : RnAt w A c S) (f : Nat) (hf : f + 2 ≤ S.n) (r : Int) (hr : (if S.down then 40 else 0) = r) :
    Calls Try.prog 63 #[.agg (rdL (f : Int) 2).toArray, .agg (S.rL A c).toArray] w fun e w' => e = .returned (.int .i64 r) ∧ Below w.heap.size w w' := by
  have hn := h.n_le
  have hR : ∀ w', Below w.heap.size w w' → Calls Try.prog 144 #[.agg (rdL (f : Int) 2).toArray, .agg (S.rL A c).toArray, .int .i64 0, .int .i64 128] w' fun e w2 => ∃ B n d, e = .returned (.tuple #[.slice B n d, .int .i64 r]) ∧ Below w'.heap.size w' w2 := fun w' x => by
    cases hd : S.down with
    | true =>
      obtain rfl : 40 = r := by simpa [hd] using hr
      refine (rdRead_no (h.step x) f 2 (by omega) 0 128 (by decide) (.inr hd)).mono ?_
      rintro e w2 ⟨rfl, hB⟩
      exact ⟨none, 0, 0, rfl, hB⟩
    | false =>
      obtain rfl : 0 = r := by simpa [hd] using hr
      refine (rdRead_ok (h.step x) hd f 2 0 128 hf (by decide)).mono ?_
      rintro e w2 ⟨B, d, rfl, _, hB⟩
      exact ⟨B, 128, d, rfl, hB⟩
  have HR := Lib.hid hR
  clear hR hr
  go_enter Try.func63, Try.ntmps63
  go_wp2_with (first
    | (with_reducible refine wpList_box (o := ⟨some 2, _, _, _, _, _⟩) rfl (.tmp 0) 109 rfl (rdL (f : Int) 2) rfl 2 rfl (by decide) ?_; intro g w1 hg hF hB; have z1 := hB.size)
    | (with_reducible refine wpList_box (o := ⟨some 3, _, _, _, _, _⟩) rfl (.tmp 1) 105 rfl (S.rL A c) rfl 5 rfl (by decide) ?_; intro gn w2 hgn hFn hBn; have z2 := hBn.size; have hF2 := hF.below hBn; have hB2 := Below.then_ hB hBn; have kc1 : w2.cell? ⟨g, 1, none⟩ = some (.int .i64 2) := hF2.cell_ rfl)
    | (with_reducible refine wpList_box (o := ⟨some 2, _, _, _, _, _⟩) rfl (.tmp 0) 109 rfl (rdL (f : Int) 2) rfl 2 rfl (by decide) ?_; intro g w1 hg hF hB; have z1 := hB.size)
    | (with_reducible refine wpList_load (o := ⟨some 11, _, _, _, _, _⟩) rfl (.tmp 2) 109 rfl g 0 _ rfl (rdL (f : Int) 2) 2 rfl (by kernel_rfl) hF2.sees ?_)
    | (with_reducible refine wpList_load (o := ⟨some 12, _, _, _, _, _⟩) rfl (.tmp 3) 105 rfl gn 0 _ rfl (S.rL A c) 5 rfl (by kernel_rfl) hFn.sees ?_)
    | (go_at_call 144; refine (HR.out _ hB2).mono ?_; rintro e w3 ⟨Bq, nq, dq, rfl, hB3⟩))
  go_ret
  exact ⟨rfl, Below.then_ hB2 hB3⟩
end
end Go.Proofs.Ytpdfalgjmeagjaa
