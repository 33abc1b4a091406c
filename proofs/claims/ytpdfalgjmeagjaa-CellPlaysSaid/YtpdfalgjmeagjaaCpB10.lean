/-
  The document's own drive, by value: Write, word by word.
-/
import Derived.Test.YtpdfalgjmeagjaaCpB09
import Derived.Test.YtpdfalgjmeagjaaCpB06
import Derived.Test.YtpdfalgjmeagjaaCpB07
import Derived.Test.YtpdfalgjmeagjaaCpB01
import Derived.Laws.ResultCell
namespace Go.Proofs.Ytpdfalgjmeagjaa
open Go.RowKit
set_option linter.unusedVariables false

theorem Fl.step_leftLe (S : Fl) : S.step.1.left ≤ S.left := by
  obtain ⟨n, ws, g, ar, l, d, hf⟩ := S
  cases ar
  · exact Nat.le_refl _
  · cases l
    · exact Nat.le_refl _
    · exact Nat.le_succ _
theorem Fl.prog_left : ∀ (l : List UInt32) (S : Fl) (j : Nat), (S.prog j l).1.left ≤ S.left
  | [], S, j => Nat.le_refl _
  | x :: l, S, j => by
    have h1 := S.step_leftLe
    simp only [Fl.prog]
    revert h1
    rcases S.step with ⟨T, _ | _⟩
    · intro h1; exact h1
    · intro h1; exact Nat.le_trans (Fl.prog_left l (T.put1 j x) (j + 1)) h1
/-- No bit is to be set just where the words, masked, are as they are asked. -/
theorem nset_zero (y x : UInt32) : nset x y = 0 ↔ y &&& x = x := by
  have e : nset x y = (x &&& ~~~y).toNat := by
    unfold nset
    rw [UInt32.toNat_and, UInt32.toNat_not]
    rfl
  rw [e]
  constructor
  · intro h
    have h2 : x &&& ~~~y = 0 := UInt32.toNat_inj.1 (by rw [h]; rfl)
    apply UInt32.toBitVec_inj.1
    apply BitVec.eq_of_getLsbD_eq
    intro i hi
    have h3 := congrArg (fun z : UInt32 => z.toBitVec.getLsbD i) h2
    simp [hi] at h3 ⊢
    exact h3
  · intro h
    have h2 : x &&& ~~~y = 0 := by
      apply UInt32.toBitVec_inj.1
      apply BitVec.eq_of_getLsbD_eq
      intro i hi
      have h3 := congrArg (fun z : UInt32 => z.toBitVec.getLsbD i) h
      simp [hi] at h3 ⊢
      exact h3
    rw [h2]
    rfl
/-- What a call within a call leaves, behind a store into a block that was there. -/
theorem RnTo.over {w w3 w6 w7 : World} {A B : Option Addr} {c c2 g : Nat} {S T : Fl} (h : RnAt w A c S) (x : Below w.heap.size w w7) (hT : RnTo w3 w6 A B c c2 S T) (hg : g < w3.heap.size) (ho : ∀ k, k ≠ g → w7.heap[k]? = w6.heap[k]?) : RnTo w3 w7 A B c c2 S T := by
  rcases hT.from_ with ⟨rfl, rfl, hw, hn⟩ | hR
  · have h9 := h.step x
    exact ⟨⟨by rw [hw]; exact h9.sees, by rw [hw, hn]; exact h9.len, by rw [hn]; exact h9.n_le, by rw [hn]; exact h9.cap⟩, .inl ⟨rfl, rfl, hw, hn⟩⟩
  · have hR9 := hR.apart fun k hk => ho k (by omega)
    exact ⟨⟨hR9.sees, hT.at_.len, hT.at_.n_le, hT.at_.cap⟩, .inr hR9⟩
theorem RnTo.then_ {w3 w4 w6 : World} {A B D : Option Addr} {c c2 c3 : Nat} {S T U : Fl} (h1 : RnTo w3 w4 A B c c2 S T) (y : Below w4.heap.size w4 w6) (z : w3.heap.size ≤ w4.heap.size) (h2 : RnTo w4 w6 B D c2 c3 T U) : RnTo w3 w6 A D c c3 S U := by
  refine ⟨h2.at_, ?_⟩
  rcases h2.from_ with ⟨rfl, rfl, hw, hn⟩ | hR
  · rcases h1.from_ with ⟨rfl, rfl, hw1, hn1⟩ | hR1
    · exact .inl ⟨rfl, rfl, hw.trans hw1, hn.trans hn1⟩
    · exact .inr (by rw [hw, hn]; exact hR1.below y)
  · exact .inr (hR.lower z)
theorem RnTo.after {w3 w4 w5 : World} {A B : Option Addr} {c c2 : Nat} {S T : Fl} (h : RnTo w3 w4 A B c c2 S T) (y : Below w4.heap.size w4 w5) : RnTo w3 w5 A B c c2 S T := by
  refine ⟨h.at_.step y, ?_⟩
  rcases h.from_ with h1 | hR
  · exact .inl h1
  · exact .inr (hR.below y)
def wdFacts (w5 : World) (g f at_ j n d : Nat) (C C' A : Option Addr) (c c2 z : Nat) (B2 : Option Addr) (S T2 T3 : Fl) (k : Nat) (v : Value) (w : World) : Prop :=
  match k with
  | 0 => v = .agg (T2.rL B2 c2).toArray
  | 1 => v = .pointer (some ⟨g, 0, none⟩)
  | 2 => v = .int .i64 (f : Int)
  | 3 => v = .int .i64 (at_ : Int)
  | 4 => v = .int .i64 (j : Int)
  | 5 => v = .int .i64 ((at_ : Int) + (j : Int))
  | 6 => v = .int .i64 (((at_ : Int) + (j : Int)) / 64)
  | 7 => v = .int .i64 ((f : Int) + ((at_ : Int) + (j : Int)) / 64)
  | 8 => v = .int .i64 (at_ : Int)
  | 9 => v = .int .i64 (j : Int)
  | 10 => v = .int .i64 ((at_ : Int) + (j : Int))
  | 11 => v = .int .i64 (((at_ : Int) + (j : Int)) % 64)
  | 12 => v = .slice C n d
  | 13 => v = .int .i64 (j : Int)
  | 14 => v = .int .i64 (j : Int)
  | 15 => v = .int .i64 ((j : Int) + 1)
  | 16 => v = .slice C' 1 (d - j)
  | 17 => ∃ B3 c3, v = .tuple #[.agg (T3.rL B3 c3).toArray, .int .i64 (z : Int)] ∧ RnTo w5 w A B3 c c3 S T3
  | 18 => ∃ B3 c3, v = .tuple #[.agg (T3.rL B3 c3).toArray, .int .i64 (z : Int)] ∧ RnTo w5 w A B3 c c3 S T3
  | 19 => ∃ B3 c3, v = .agg (T3.rL B3 c3).toArray ∧ RnTo w5 w A B3 c c3 S T3
  | 20 => v = .int .i64 (z : Int)
  | 22 => v = .int .i64 (z : Int)
  | _ => True
theorem wdFacts_move {w5 : World} {g f at_ j n d : Nat} {C C' A : Option Addr} {c c2 z : Nat} {B2 : Option Addr} {S T2 T3 : Fl} {w w' : World} (hm : ∀ B3 c3, RnTo w5 w A B3 c c3 S T3 → RnTo w5 w' A B3 c c3 S T3) : ∀ k v, wdFacts w5 g f at_ j n d C C' A c c2 z B2 S T2 T3 k v w → wdFacts w5 g f at_ j n d C C' A c c2 z B2 S T2 T3 k v w' := fun k v h =>
  match k, h with
  | 17, ⟨B3, c3, e, ht⟩ => ⟨B3, c3, e, hm _ _ ht⟩
  | 18, ⟨B3, c3, e, ht⟩ => ⟨B3, c3, e, hm _ _ ht⟩
  | 19, ⟨B3, c3, e, ht⟩ => ⟨B3, c3, e, hm _ _ ht⟩
  | 0, h => h
  | 1, h => h
  | 2, h => h
  | 3, h => h
  | 4, h => h
  | 5, h => h
  | 6, h => h
  | 7, h => h
  | 8, h => h
  | 9, h => h
  | 10, h => h
  | 11, h => h
  | 12, h => h
  | 13, h => h
  | 14, h => h
  | 15, h => h
  | 16, h => h
  | 20, h => h
  | 21, h => h
  | 22, h => h
  | (_ + 23), h => h
def wdJ (w w5 : World) (g gn gr f m : Nat) (A : Option Addr) (c : Nat) (S T2 T3 : Fl) (B2 : Option Addr) (c2 : Nat) (listed : Array Bool) (W : World) : Prop :=
  Below w.heap.size w W ∧ w5.heap.size ≤ W.heap.size ∧ Fresh w.heap.size 109 W (some ⟨g, 0, none⟩) 2 2 (rdL (f : Int) (m : Int)) ∧ Fresh w.heap.size 105 W (some ⟨gr, 0, none⟩) 5 5 (rnL none 0 0 0 0 false 0) ∧
  ((listed.getD 21 false = false ∧ Fresh w.heap.size 105 W (some ⟨gn, 0, none⟩) 5 5 (T2.rL B2 c2) ∧ RnTo w5 W A B2 c c2 S T2) ∨
   ((∀ k, k < 20 → listed.getD k false = true) ∧ listed.getD 21 false = true ∧ ∃ B3 c3, Fresh w.heap.size 105 W (some ⟨gn, 0, none⟩) 5 5 (T3.rL B3 c3) ∧ RnTo w5 W A B3 c c3 S T3))
section
variable {w w5 : World} {g gn gr f m : Nat} {A : Option Addr} {c : Nat} {S T2 T3 : Fl} {B2 : Option Addr} {c2 : Nat} {listed : Array Bool} {W W' : World}
theorem wdJ.below (h : wdJ w w5 g gn gr f m A c S T2 T3 B2 c2 listed W) (x : Below W.heap.size W W') : wdJ w w5 g gn gr f m A c S T2 T3 B2 c2 listed W' := by
  obtain ⟨h1, h2, h3, h4, h5⟩ := h
  refine ⟨Below.then_ h1 x, Nat.le_trans h2 x.size, h3.below x, h4.below x, ?_⟩
  rcases h5 with ⟨e, h6, h7⟩ | ⟨e, e2, B3, c3, h6, h7⟩
  · exact .inl ⟨e, h6.below x, h7.after x⟩
  · exact .inr ⟨e, e2, B3, c3, h6.below x, h7.after x⟩
theorem getD_set_true (listed : Array Bool) (i k : Nat) (h : listed.getD k false = true) : (listed.setIfInBounds i true).getD k false = true := by
  by_cases e : i = k
  · subst e
    by_cases hl : i < listed.size
    · simp [hl]
    · simp [Array.getD, hl] at h
  · simp only [Array.getD_eq_getD_getElem?, Array.getElem?_setIfInBounds_ne e] at h ⊢
    exact h
theorem wdJ.other (h : wdJ w w5 g gn gr f m A c S T2 T3 B2 c2 listed W) (i : Nat) (hi : i ≠ 21) : wdJ w w5 g gn gr f m A c S T2 T3 B2 c2 (listed.setIfInBounds i true) W := by
  obtain ⟨h1, h2, h3, h4, h5⟩ := h
  refine ⟨h1, h2, h3, h4, ?_⟩
  rcases h5 with ⟨e, h6⟩ | ⟨e, e2, h6⟩
  · exact .inl ⟨by simp only [Array.getD_eq_getD_getElem?, Array.getElem?_setIfInBounds_ne hi] at e ⊢; exact e, h6⟩
  · exact .inr ⟨fun k hk => getD_set_true _ _ _ (e k hk), getD_set_true _ _ _ e2, h6⟩
/-- Ahead of the store. -/
theorem wdJ.early (h : wdJ w w5 g gn gr f m A c S T2 T3 B2 c2 listed W) (i : Nat) (hi : i < 20) (h1 : listed.getD i true = false) : Fresh w.heap.size 105 W (some ⟨gn, 0, none⟩) 5 5 (T2.rL B2 c2) ∧ RnTo w5 W A B2 c c2 S T2 := by
  rcases h.2.2.2.2 with ⟨e, h6, h7⟩ | ⟨e, _⟩
  · exact ⟨h6, h7⟩
  · have h2 := e i hi
    simp only [Array.getD_eq_getD_getElem?] at h1 h2
    cases hx : listed[i]? with
    | none => rw [hx] at h1; simp at h1
    | some b => rw [hx] at h1 h2; simp at h1 h2; rw [h1] at h2; cases h2
end
/-- The call's own blocks within a round of the writing. -/
structure WDr (w wr : World) (g gn gr f m : Nat) (A : Option Addr) (c : Nat) (S : Fl) (J : Nat) (l : List UInt32) (j : Nat) (T : Fl) (B : Option Addr) (c2 : Nat) (wq : World) : Prop where
  dr : Fresh w.heap.size 109 wq (some ⟨g, 0, none⟩) 2 2 (rdL (f : Int) (m : Int))
  box : Fresh w.heap.size 105 wq (some ⟨gn, 0, none⟩) 5 5 (T.rL B c2)
  res : Fresh w.heap.size 105 wq (some ⟨gr, 0, none⟩) 5 5 (rnL none 0 0 0 0 false 0)
  to : RnTo wr wq A B c c2 S T
  prog : S.prog J (l.take j) = (T, true)
  below : Below w.heap.size w wq
  size : wr.heap.size ≤ wq.heap.size
section
variable {w : World} {A : Option Addr} {c : Nat} {S : Fl}
set_option maxHeartbeats 4000000 in
set_option maxRecDepth 100000 in
theorem rdWrite_any (h : RnAt w A c S) (hl2 : S.left < 9223372036854775808) (f m : Nat) (hfm : f + m ≤ S.n) (a : Int) (ha : a < 9223372036854775808) (C : Option Addr) (n d : Nat) (hc : n ≤ d) (hm : n ≤ 1099511627776) (l : List UInt32) (hs : Sees w w.heap.size C (cw l)) (hl : l.length = n) (T : Fl) (r : Nat) (hr : S.dwrite f m a l = (T, r)) :
    Calls Try.prog 141 #[.agg (rdL (f : Int) (m : Int)).toArray, .agg (S.rL A c).toArray, .int .i64 a, .slice C n d] w fun e w' => ∃ B c2, e = .returned (.tuple #[.agg (T.rL B c2).toArray, .int .i64 (r : Int)]) ∧ RnTo w w' A B c c2 S T ∧ Below w.heap.size w w' := by
  have NO : ∀ w', Below w.heap.size w w' → RnTo w w' A A c c S S := fun w' x => ⟨h.step x, .inl ⟨rfl, rfl, rfl, rfl⟩⟩
  have hn := h.n_le
  have HC := Lib.hid hc
  clear hc
  by_cases hno : wordsOk m a (n : Int) = false ∨ S.down = true
  · have hR := fun (w' : World) (x : Below w.heap.size w w') => rdRead_no (h.step x) f m (by omega) a (n : Int) ha hno
    obtain ⟨z, hz⟩ : ∃ z, readErr S m a (n : Int) = z + 1 := by
      unfold readErr
      split
      · exact ⟨1, rfl⟩
      · exact ⟨39, rfl⟩
    obtain ⟨rfl, rfl⟩ : S = T ∧ z + 1 = r := by
      rw [← hz]
      unfold Fl.dwrite at hr
      rw [hl] at hr
      revert hr
      unfold readErr
      rcases hw : wordsOk m a (n : Int) with _ | _
      · intro hr; simpa using hr
      · obtain hd : S.down = true := by
          rcases hno with h1 | h1
          · rw [hw] at h1; cases h1
          · exact h1
        rw [hd]
        intro hr; simpa using hr
    rw [hz] at hR
    have h0 : ¬ (((z + 1 : Nat) : Int) = 0) := by omega
    clear hr hno ha hz hl2 hs hl
    go_enter Try.func141, Try.ntmps141
    go_wp2_with (first | ((with_reducible refine wpList_box (o := ⟨some 4, _, _, _, _, _⟩) rfl (.tmp 0) 109 rfl (rdL (f : Int) (m : Int)) rfl 2 rfl (by decide) ?_); intro g w1 hg hF hB; have z1 := hB.size; have lg := hF.lt_size) | ((with_reducible refine wpList_box (o := ⟨some 5, _, _, _, _, _⟩) rfl (.tmp 1) 105 rfl (S.rL A c) rfl 5 rfl (by decide) ?_); intro gn w2 hgn hFn hBn; have z2 := hBn.size; have lgn := hFn.lt_size; have hF2 := hF.below hBn; have hB2 := Below.then_ hB hBn) | ((with_reducible refine wpList_alloc (o := ⟨some 8, _, _, _, _, _⟩) rfl 105 rfl (rnL none 0 0 0 0 false 0) (by kernel_rfl) 5 rfl (by decide) ?_); intro gr w3 hgr hFr hBr; have z3 := hBr.size; have lgr := hFr.lt_size; have hF3 := hF2.below hBr; have hFn3 := hFn.below hBr; have hB3 := Below.then_ hB2 hBr) | (with_reducible refine wpList_load (o := ⟨some 15, _, _, _, _, _⟩) rfl (.tmp 4) 109 rfl g 0 _ rfl (rdL (f : Int) (m : Int)) 2 rfl (by kernel_rfl) hF3.sees ?_) | (with_reducible refine wpList_load (o := ⟨some 16, _, _, _, _, _⟩) rfl (.tmp 5) 105 rfl gn 0 _ rfl (S.rL A c) 5 rfl (by kernel_rfl) hFn3.sees ?_))
    refine (hR w3 hB3).mono ?_
    rintro e w4 ⟨rfl, hB4⟩
    have hFn4 := hFn3.below hB4
    have hR4 := hFr.below hB4
    have hB34 := Below.then_ hB3 hB4
    clear hR
    go_wp2_with (first | (with_reducible refine wpList_load (o := ⟨some 25, _, _, _, _, _⟩) rfl (.tmp 5) 105 rfl gn 0 _ rfl (S.rL A c) 5 rfl (by kernel_rfl) hFn4.sees ?_) | ((with_reducible refine wpList_store rfl rfl (.tmp 8) (.tmp 25) 105 rfl gr 0 _ 105 5 (rnL none 0 0 0 0 false 0) (S.rL A c) rfl rfl 5 rfl (by kernel_rfl) hR4 (by omega) (allOne_out (by kernel_rfl)) w hB34 (by omega) ?_); intro w9 hF9 hB9 ho9 hz9))
    exact bodyPost_cellt rfl rfl (.int .i64 ((z + 1 : Nat) : Int)) rfl (S.rL A c) 5 rfl (by kernel_rfl) hF9.sees rfl ⟨A, c, rfl, NO _ hB9, hB9⟩
  · have h1 : wordsOk m a (n : Int) = true := by
      cases h1 : wordsOk m a (n : Int)
      · exact absurd (.inl h1) hno
      · rfl
    have h2 : S.down = false := by
      cases h2 : S.down
      · rfl
      · exact absurd (.inr h2) hno
    obtain ⟨at_, n2, rfl, en, hok⟩ := wordsOk_out h1
    obtain rfl : n = n2 := by omega
    have hR := fun (w' : World) (x : Below w.heap.size w w') => rdRead_ok (h.step x) h2 f m at_ n hfm hok
    have hal : (S.at_ f at_ n).length = n := by simp [Fl.at_, h.len]; omega
    unfold Fl.dwrite at hr
    rw [hl, h1, h2] at hr
    simp only [Int.toNat_natCast] at hr
    have HH := Lib.hid h
    have HD := Lib.hid h2
    have HL := Lib.hid hl
    have HLE := Lib.hid hl2
    generalize hL : S.at_ f at_ n = L at *
    have HAL := Lib.hid hal
    have HRR := Lib.hid hr
    obtain ⟨b, hb⟩ : ∃ b, sets32 L l = b := ⟨_, rfl⟩
    have HBB := Lib.hid hb
    clear hal hr hno h1 h2 ha hL hb hl hl2 h en
    go_enter Try.func141, Try.ntmps141
    go_wp2_with (first | ((with_reducible refine wpList_box (o := ⟨some 4, _, _, _, _, _⟩) rfl (.tmp 0) 109 rfl (rdL (f : Int) (m : Int)) rfl 2 rfl (by decide) ?_); intro g w1 hg hF hB; have z1 := hB.size; have lg := hF.lt_size) | ((with_reducible refine wpList_box (o := ⟨some 5, _, _, _, _, _⟩) rfl (.tmp 1) 105 rfl (S.rL A c) rfl 5 rfl (by decide) ?_); intro gn w2 hgn hFn hBn; have z2 := hBn.size; have lgn := hFn.lt_size; have hF2 := hF.below hBn; have hB2 := Below.then_ hB hBn) | ((with_reducible refine wpList_alloc (o := ⟨some 8, _, _, _, _, _⟩) rfl 105 rfl (rnL none 0 0 0 0 false 0) (by kernel_rfl) 5 rfl (by decide) ?_); intro gr w3 hgr hFr hBr; have z3 := hBr.size; have lgr := hFr.lt_size; have hF3 := hF2.below hBr; have hFn3 := hFn.below hBr; have hB3 := Below.then_ hB2 hBr) | (with_reducible refine wpList_load (o := ⟨some 15, _, _, _, _, _⟩) rfl (.tmp 4) 109 rfl g 0 _ rfl (rdL (f : Int) (m : Int)) 2 rfl (by kernel_rfl) hF3.sees ?_) | (with_reducible refine wpList_load (o := ⟨some 16, _, _, _, _, _⟩) rfl (.tmp 5) 105 rfl gn 0 _ rfl (S.rL A c) 5 rfl (by kernel_rfl) hFn3.sees ?_))
    refine (hR w3 hB3).mono ?_
    rintro e w4 ⟨B0, d0, rfl, hW4, hB4⟩
    have hF4 := hF3.below hB4
    have hFn4 := hFn3.below hB4
    have hR4 := hFr.below hB4
    have hB34 := Below.then_ hB3 hB4
    have hsW := hW4.sees
    have hs4 := (hs.below hB34).more hB34.size
    have z4 := hB4.size
    clear hR hF hB hFn hBn hF2 hB2 hFr hBr hF3 hFn3 hB4 hW4
    go_wp2_with fail
    go_loopw [12] (fun i wr => ∃ k : Nat, k ≤ n ∧ i = .int .i64 (k : Int) ∧ Hid (sets32 (L.drop k) (l.drop k) = b) ∧ Below w4.heap.size w4 wr) (fun i _ => n - (intOf i).toNat)
    case atStart => exact ⟨0, Nat.zero_le _, rfl, Lib.hid (by simpa using HBB.out), Below.refl _ _⟩
    case round =>
      obtain ⟨k, hk, rfl, hu, hBk⟩ := hrel
      have hFk := hF4.below hBk
      have hFnk := hFn4.below hBk
      have hRk := hR4.below hBk
      have hB0k := Below.then_ hB34 hBk
      by_cases hlt : k < n
      · obtain ⟨gy, oy, rfl, hgy, y, HY, hy', hcy⟩ := (hsW.step hBk).word HAL.out hlt
        obtain ⟨gx, ox, rfl, hgx, x, HX, hx', hcx⟩ := (hs4.step hBk).word HL.out hlt
        have hu2 := hu.out
        rw [drop_at32 HY.out, drop_at32 HX.out] at hu2
        simp only [sets32] at hu2
        have hraw := and32 y x
        have hz0 := nset_zero y x
        revert hraw hu2 hz0
        generalize nset x y = N
        generalize hyx : y &&& x = v at *
        intro hu2 hraw hz0
        clear hu
        by_cases hv : v = x
        · subst hv
          obtain rfl : N = 0 := hz0.2 rfl
          simp at hu2
          have HU := Lib.hid hu2
          have HV := Lib.hid hyx
          clear hu2 hz0 hyx
          go_wp2_with fail
          go_quiet (fail)
          go_wp2_with fail
          go_roundw
          case rel => exact ⟨k + 1, by omega, by go_num, HU, below_drewN' hBk nq⟩
          case measure => simp [intOf]; omega
        · have h0 : ¬ ((v.toNat : Int) = (x.toNat : Int)) := fun e => hv (UInt32.toNat_inj.1 (by omega))
          have hN0 : N ≠ 0 := fun e => hv (hz0.1 e)
          obtain rfl : b = true := by rw [← hu2]; simp [hN0]
          have hrr := HRR.out
          rw [HBB.out] at hrr
          obtain ⟨rfl, rfl⟩ : S = T ∧ 50 = r := by simpa using hrr
          clear hu2 hz0 hv hN0 hrr
          go_wp2_with fail
          go_quiet (fail)
          have hFnq := hFnk.below (below_drewN' (Below.refl wr.heap.size wr) nq)
          have hRq := hRk.below (below_drewN' (Below.refl wr.heap.size wr) nq)
          have hBq := below_drewN' hB0k nq
          go_wp2_with (first | (with_reducible refine wpList_load (o := ⟨some 47, _, _, _, _, _⟩) rfl (.tmp 5) 105 rfl gn 0 _ rfl (S.rL A c) 5 rfl (by kernel_rfl) hFnq.sees ?_) | ((with_reducible refine wpList_store rfl rfl (.tmp 8) (.tmp 47) 105 rfl gr 0 _ 105 5 (rnL none 0 0 0 0 false 0) (S.rL A c) rfl rfl 5 rfl (by kernel_rfl) hRq (by omega) (allOne_out (by kernel_rfl)) w hBq (by omega) ?_); intro w9 hF9 hB9 ho9 hz9))
          exact bodyPost_cellt rfl rfl (.int .i64 50) rfl (S.rL A c) 5 rfl (by kernel_rfl) hF9.sees rfl ⟨A, c, rfl, NO _ hB9, hB9⟩
      · obtain rfl : n = k := by omega
        rename World => w5
        obtain rfl : b = false := by have := hu.out; rw [List.drop_of_length_le (by rw [HAL.out]; exact Nat.le_refl _)] at this; rw [← this]; rfl
        have hrr := HRR.out
        rw [HBB.out] at hrr
        simp only at hrr
        have HRS := Lib.hid hrr
        clear hu hrr hsW hs4 hF4 hFn4 hR4 hB34 HRR HBB
        go_wp2_with fail
        obtain ⟨J, hJ⟩ : ∃ J, 64 * f + at_ = J := ⟨_, rfl⟩
        rw [hJ] at HRS
        have hgN : g < w5.heap.size := hFk.lt_size
        have hgnN : gn < w5.heap.size := hFnk.lt_size
        have hgrN : gr < w5.heap.size := hRk.lt_size
        have hsk := (hs.below hB0k).more hB0k.size
        have zk := hB0k.size
        have hW0 : WDr w w5 g gn gr f m A c S J l 0 S A c w5 := ⟨hFk, hFnk.lower z1, hRk.lower (by omega), ⟨HH.out.step hB0k, .inl ⟨rfl, rfl, rfl, rfl⟩⟩, rfl, hB0k, Nat.le_refl _⟩
        have ngn : g ≠ gn := by omega
        have nrn : gr ≠ gn := by omega
        have nrg : gr ≠ g := by omega
        clear hFk hFnk hRk hB0k hBk
        go_loopw [11, 13] (fun ev i wq => ∃ (j : Nat) (T2 : Fl) (B2 : Option Addr) (c2 : Nat), j ≤ n ∧ i = .int .i64 (j : Int) ∧ WDr w w5 g gn gr f m A c S J l j T2 B2 c2 wq) (fun _ i _ => n - (intOf i).toNat)
        case atStart => exact ⟨0, S, A, c, by omega, rfl, hW0⟩
        case round =>
          obtain ⟨j, T2, B2, c2, hj, rfl, hQ⟩ := hrel
          clear hW0
          by_cases hlt2 : j < n
          · have k0 : wr.cell? ⟨g, 0, none⟩ = some (.int .i64 (f : Int)) := hQ.dr.cell (j := 0) rfl
            obtain ⟨C', hrun, hsee⟩ := run_between32 C n d j (j + 1) (by omega) (by omega) HC.out
            have hq : ∀ W, (Instr.slice 54 (.slice C n d) (some (.int .i64 (j : Int))) (some (.int .i64 ((j : Int) + 1))) none).run Try.prog W = .ok (.slice C' 1 (d - j)) W := fun W => by
              have := hrun W
              rw [show j + 1 - j = 1 from by omega] at this
              exact this
            have hlq := fun nq => (hQ.box.below (below_drewN' (Below.refl wr.heap.size wr) nq)).sees
            have ej : IntKind.i64.wrap ((j : Int) + 1) = (j : Int) + 1 := wrapI _ (by omega) (by omega)
            have ea : IntKind.i64.wrap ((at_ : Int) + (j : Int)) = (at_ : Int) + (j : Int) := wrapI _ (by omega) (by omega)
            have ef : IntKind.i64.wrap ((f : Int) + ((at_ : Int) + (j : Int)) / 64) = (f : Int) + ((at_ : Int) + (j : Int)) / 64 := wrapI _ (by omega) (by omega)
            obtain ⟨T3, z, hpr⟩ : ∃ T3 z, T2.program ((f : Int) + ((at_ : Int) + (j : Int)) / 64) (((at_ : Int) + (j : Int)) % 64) ((l.drop j).take (j + 1 - j)) = (T3, z) := ⟨_, _, rfl⟩
            have hst := hpr
            rw [show (f : Int) + ((at_ : Int) + (j : Int)) / 64 = ((f + (at_ + j) / 64 : Nat) : Int) from by omega, show ((at_ : Int) + (j : Int)) % 64 = (((at_ + j) % 64 : Nat) : Int) from by omega] at hst
            have hps := piece_step hQ.prog HD.out (Nat.le_succ j) (by rw [HL.out]; omega) (show (f + (at_ + j) / 64) * 64 + (at_ + j) % 64 = J + j by omega) (by omega) (by omega) hst
            have hlf : T2.left < 9223372036854775808 := by have h1 := Fl.prog_left (l.take j) S J; rw [hQ.prog] at h1; have := HLE.out; have h2 : T2.left ≤ S.left := h1; omega
            have hplen : ((l.drop j).take (j + 1 - j)).length = 1 := by have := HL.out; simp; omega
            have HPR := Lib.hid hpr
            have HPS := Lib.hid hps
            have HRT := HRS
            clear hrun hpr hst hps HRS
            go_wp2_with fail
            have hwg : w.heap.size ≤ gn := by omega
            have eq1 : ((at_ : Int) + (j : Int)).tdiv 64 = ((at_ : Int) + (j : Int)) / 64 := Int.tdiv_eq_ediv_of_nonneg (by omega)
            have eq2 : ((at_ : Int) + (j : Int)).tmod 64 = ((at_ : Int) + (j : Int)) % 64 := Int.tmod_eq_emod_of_nonneg (by omega)
            have eq3 : IntKind.i64.wrap (((at_ : Int) + (j : Int)) / 64) = ((at_ : Int) + (j : Int)) / 64 := wrapI _ (by omega) (by omega)
            have eq4 : IntKind.i64.wrap (((at_ : Int) + (j : Int)) % 64) = ((at_ : Int) + (j : Int)) % 64 := wrapI _ (by omega) (by omega)
            refine region_K (wdFacts w5 g f at_ j n d C C' A c c2 z B2 S T2 T3) (wdJ w w5 g gn gr f m A c S T2 T3 B2 c2) (by kernel_rfl) (by kernel_rfl) (wdJ.below (W := wr) ⟨hQ.below, hQ.size, hQ.dr, hQ.res, .inl ⟨rfl, hQ.box, hQ.to⟩⟩ ⟨rfl, rfl, rfl, Nat.le_refl _, fun _ _ => rfl⟩) ?_ ?_
            · refine ⟨?_, ?_, ?_, ?_, ?_, ?_, ?_, ?_, ?_, ?_, ?_, ?_, ?_, ?_, ?_, ?_, ?_, ?_, ?_, ?_, ?_, ?_, ?_, trivial⟩
              all_goals intro listed a1 w' hk h1 hd
              · have f2 : a1.eval (.tmp 5) = .pointer (some ⟨gn, 0, none⟩) := hk.ev_old 5 (by kernel_rfl)
                exact stepK_value rfl (run_load_agg (.tmp 5) 105 rfl f2 (T2.rL B2 c2) 5 rfl (by kernel_rfl) (hk.inv.early 0 (by omega) h1).1.sees) rfl (hk.inv.other 0 (by omega))
              · have f2 : a1.eval (.tmp 4) = .pointer (some ⟨g, 0, none⟩) := hk.ev_old 4 (by kernel_rfl)
                have f3 : a1.tmps[4]?.getD undef = .pointer (some ⟨g, 0, none⟩) := by simpa [Act.eval] using f2
                exact stepK_value rfl (v := .pointer (some ⟨g, 0, none⟩)) (by go_simp) rfl (hk.inv.other 1 (by omega))
              · obtain ⟨v1, e1, q1, rfl, l1⟩ := hk.ev_new hd 1 56 (by kernel_rfl) rfl
                have k1 : w'.cell? ⟨g, 0, none⟩ = some (.int .i64 (f : Int)) := hk.inv.2.2.1.cell (j := 0) rfl
                exact stepK_value rfl (v := .int .i64 (f : Int)) (by go_simp) rfl (hk.inv.other 2 (by omega))
              · have f2 : a1.eval (.tmp 2) = .int .i64 (at_ : Int) := hk.ev_old 2 (by kernel_rfl)
                have f3 : a1.tmps[2]?.getD undef = .int .i64 (at_ : Int) := by simpa [Act.eval] using f2
                exact stepK_value rfl (v := .int .i64 (at_ : Int)) (by go_simp) rfl (hk.inv.other 3 (by omega))
              · have f2 : a1.eval (.tmp 13) = .int .i64 (j : Int) := hk.ev_old 13 (by kernel_rfl)
                have f3 : a1.tmps[13]?.getD undef = .int .i64 (j : Int) := by simpa [Act.eval] using f2
                exact stepK_value rfl (v := .int .i64 (j : Int)) (by go_simp) rfl (hk.inv.other 4 (by omega))
              · obtain ⟨v3, e3, q3, rfl, l3⟩ := hk.ev_new hd 3 58 (by kernel_rfl) rfl
                obtain ⟨v4, e4, q4, rfl, l4⟩ := hk.ev_new hd 4 59 (by kernel_rfl) rfl
                exact stepK_value rfl (v := .int .i64 ((at_ : Int) + (j : Int))) (by go_simp) rfl (hk.inv.other 5 (by omega))
              · obtain ⟨v5, e5, q5, rfl, l5⟩ := hk.ev_new hd 5 60 (by kernel_rfl) rfl
                exact stepK_value rfl (v := .int .i64 (((at_ : Int) + (j : Int)) / 64)) (by go_simp) rfl (hk.inv.other 6 (by omega))
              · obtain ⟨v2, e2, q2, rfl, l2⟩ := hk.ev_new hd 2 57 (by kernel_rfl) rfl
                obtain ⟨v6, e6, q6, rfl, l6⟩ := hk.ev_new hd 6 61 (by kernel_rfl) rfl
                exact stepK_value rfl (v := .int .i64 ((f : Int) + ((at_ : Int) + (j : Int)) / 64)) (by go_simp) rfl (hk.inv.other 7 (by omega))
              · have f2 : a1.eval (.tmp 2) = .int .i64 (at_ : Int) := hk.ev_old 2 (by kernel_rfl)
                have f3 : a1.tmps[2]?.getD undef = .int .i64 (at_ : Int) := by simpa [Act.eval] using f2
                exact stepK_value rfl (v := .int .i64 (at_ : Int)) (by go_simp) rfl (hk.inv.other 8 (by omega))
              · have f2 : a1.eval (.tmp 13) = .int .i64 (j : Int) := hk.ev_old 13 (by kernel_rfl)
                have f3 : a1.tmps[13]?.getD undef = .int .i64 (j : Int) := by simpa [Act.eval] using f2
                exact stepK_value rfl (v := .int .i64 (j : Int)) (by go_simp) rfl (hk.inv.other 9 (by omega))
              · obtain ⟨v8, e8, q8, rfl, l8⟩ := hk.ev_new hd 8 63 (by kernel_rfl) rfl
                obtain ⟨v9, e9, q9, rfl, l9⟩ := hk.ev_new hd 9 64 (by kernel_rfl) rfl
                exact stepK_value rfl (v := .int .i64 ((at_ : Int) + (j : Int))) (by go_simp) rfl (hk.inv.other 10 (by omega))
              · obtain ⟨v10, e10, q10, rfl, l10⟩ := hk.ev_new hd 10 65 (by kernel_rfl) rfl
                exact stepK_value rfl (v := .int .i64 (((at_ : Int) + (j : Int)) % 64)) (by go_simp) rfl (hk.inv.other 11 (by omega))
              · have f2 : a1.eval (.tmp 3) = .slice C n d := hk.ev_old 3 (by kernel_rfl)
                have f3 : a1.tmps[3]?.getD undef = .slice C n d := by simpa [Act.eval] using f2
                exact stepK_value rfl (v := .slice C n d) (by go_simp) rfl (hk.inv.other 12 (by omega))
              · have f2 : a1.eval (.tmp 13) = .int .i64 (j : Int) := hk.ev_old 13 (by kernel_rfl)
                have f3 : a1.tmps[13]?.getD undef = .int .i64 (j : Int) := by simpa [Act.eval] using f2
                exact stepK_value rfl (v := .int .i64 (j : Int)) (by go_simp) rfl (hk.inv.other 13 (by omega))
              · have f2 : a1.eval (.tmp 13) = .int .i64 (j : Int) := hk.ev_old 13 (by kernel_rfl)
                have f3 : a1.tmps[13]?.getD undef = .int .i64 (j : Int) := by simpa [Act.eval] using f2
                exact stepK_value rfl (v := .int .i64 (j : Int)) (by go_simp) rfl (hk.inv.other 14 (by omega))
              · obtain ⟨v14, e14, q14, rfl, l14⟩ := hk.ev_new hd 14 69 (by kernel_rfl) rfl
                exact stepK_value rfl (v := .int .i64 ((j : Int) + 1)) (by go_simp) rfl (hk.inv.other 15 (by omega))
              · obtain ⟨v12, e12, q12, rfl, l12⟩ := hk.ev_new hd 12 67 (by kernel_rfl) rfl
                obtain ⟨v13, e13, q13, rfl, l13⟩ := hk.ev_new hd 13 68 (by kernel_rfl) rfl
                obtain ⟨v15, e15, q15, rfl, l15⟩ := hk.ev_new hd 15 70 (by kernel_rfl) rfl
                exact stepK_value rfl (v := .slice C' 1 (d - j)) (by go_simp) rfl (hk.inv.other 16 (by omega))
              · obtain ⟨v0, e0, q0, rfl, l0⟩ := hk.ev_new hd 0 55 (by kernel_rfl) rfl
                obtain ⟨v7, e7, q7, rfl, l7⟩ := hk.ev_new hd 7 62 (by kernel_rfl) rfl
                obtain ⟨v11, e11, q11, rfl, l11⟩ := hk.ev_new hd 11 66 (by kernel_rfl) rfl
                obtain ⟨v16, e16, q16, rfl, l16⟩ := hk.ev_new hd 16 71 (by kernel_rfl) rfl
                have hTo := (hk.inv.early 17 (by omega) h1).2
                have hsq := (hs.below hk.inv.1).more hk.inv.1.size
                refine stepK_enter rfl (f := 191) (args := #[.agg (T2.rL B2 c2).toArray, .int .i64 ((f : Int) + ((at_ : Int) + (j : Int)) / 64), .int .i64 (((at_ : Int) + (j : Int)) % 64), .slice C' 1 (d - j)]) (by go_simp) ?_
                refine (rProgram_any hTo.at_ hlf _ _ (by omega) 1 (d - j) (by omega) C' _ (hsee _ _ l HL.out hsq) hplen T3 z HPR.out).mono ?_
                rintro e w6 ⟨B3, c3, rfl, hT6, hB6⟩
                exact ⟨_, rfl, ⟨B3, c3, rfl, hTo.then_ hB6 hk.inv.2.1 hT6⟩, (hk.inv.below hB6).other 17 (by omega), wdFacts_move fun _ _ h => h.after hB6⟩
              · obtain ⟨v17, e17, q17, ⟨B3, c3, rfl, ht⟩, l17⟩ := hk.ev_new hd 17 72 (by kernel_rfl) rfl
                exact stepK_value rfl (v := .tuple #[.agg (T3.rL B3 c3).toArray, .int .i64 (z : Int)]) (by go_simp) ⟨B3, c3, rfl, ht⟩ (hk.inv.other 18 (by omega))
              · obtain ⟨v18, e18, q18, ⟨B3, c3, rfl, ht⟩, l18⟩ := hk.ev_new hd 18 54 (by kernel_rfl) rfl
                exact stepK_value rfl (v := .agg (T3.rL B3 c3).toArray) (by go_simp) ⟨B3, c3, rfl, ht⟩ (hk.inv.other 19 (by omega))
              · obtain ⟨v18, e18, q18, ⟨B3, c3, rfl, ht⟩, l18⟩ := hk.ev_new hd 18 54 (by kernel_rfl) rfl
                exact stepK_value rfl (v := .int .i64 (z : Int)) (by go_simp) rfl (hk.inv.other 20 (by omega))
              · have hall := deps_all hd 20 (by kernel_rfl)
                obtain ⟨v19, e19, q19, ⟨B3, c3, rfl, ht⟩, l19⟩ := hk.ev_new hd 19 73 (by kernel_rfl) rfl
                have f2 : a1.eval (.tmp 5) = .pointer (some ⟨gn, 0, none⟩) := hk.ev_old 5 (by kernel_rfl)
                obtain ⟨j1, j2, j3, j4, j5⟩ := hk.inv
                have hbx : Fresh w.heap.size 105 w' (some ⟨gn, 0, none⟩) 5 5 (T2.rL B2 c2) := by
                  rcases j5 with ⟨_, h6, _⟩ | ⟨_, e2, _⟩
                  · exact h6
                  · simp only [Array.getD_eq_getD_getElem?] at h1 e2
                    cases hx : listed[21]? with
                    | none => rw [hx] at h1; simp at h1
                    | some b => rw [hx] at h1 e2; simp at h1 e2; rw [h1] at e2; cases e2
                have hF7 : Fresh w.heap.size 105 (w'.setRow gn (splice (T2.rL B2 c2) 0 (T3.rL B3 c3)).toArray) (some ⟨gn, 0, none⟩) 5 5 (T3.rL B3 c3) := hbx.setRow (ys := splice (T2.rL B2 c2) 0 (T3.rL B3 c3)) rfl
                have ho : ∀ k, k ≠ gn → (w'.setRow gn (splice (T2.rL B2 c2) 0 (T3.rL B3 c3)).toArray).heap[k]? = w'.heap[k]? := fun k hk => setRow_other w' gn k _ hk
                have hB7 : Below w.heap.size w (w'.setRow gn (splice (T2.rL B2 c2) 0 (T3.rL B3 c3)).toArray) := Below.setRow' j1 hwg _
                have hl21 : 21 < listed.size := by
                  rcases Nat.lt_or_ge 21 listed.size with h | h
                  · exact h
                  · simp [Array.getElem?_eq_none h] at h1
                have hov : ∀ B4 c4, RnTo w5 w' A B4 c c4 S T3 → RnTo w5 (w'.setRow gn (splice (T2.rL B2 c2) 0 (T3.rL B3 c3)).toArray) A B4 c c4 S T3 := fun B4 c4 h => h.over HH.out hB7 hgnN ho
                refine stepK_skip rfl rfl (run_store_agg (.tmp 5) (.tmp 73) 105 rfl f2 (T3.rL B3 c3) e19 (by kernel_rfl) hbx (by show 0 + 5 ≤ 5; omega) (allOne_out (by kernel_rfl))) trivial ⟨hB7, by simpa using j2, j3.other ngn ho, j4.other nrn ho, .inr ⟨fun k hk => getD_set_true _ _ _ (hall k hk), by simp [hl21], B3, c3, hF7, hov _ _ ht⟩⟩ (wdFacts_move hov)
              · obtain ⟨v20, e20, q20, rfl, l20⟩ := hk.ev_new hd 20 74 (by kernel_rfl) rfl
                exact stepK_value rfl (v := .int .i64 (z : Int)) (by simp [execOp]; exact e20) rfl (hk.inv.other 22 (by omega))
            · intro listed a1 w6 hJ hall hp
              obtain ⟨v0, p0, v1, p1, v2, p2, v3, p3, v4, p4, v5, p5, v6, p6, v7, p7, v8, p8, v9, p9, v10, p10, v11, p11, v12, p12, v13, p13, v14, p14, v15, p15, v16, p16, v17, p17, v18, p18, v19, p19, v20, p20, v22, p22, rfl⟩ := hp
              simp only [wdFacts] at p0 p1 p2 p3 p4 p5 p6 p7 p8 p9 p10 p11 p12 p13 p14 p15 p16 p17 p18 p19 p20 p22
              obtain ⟨_, _, rfl, -⟩ := p17
              obtain ⟨_, _, rfl, -⟩ := p18
              obtain ⟨_, _, rfl, -⟩ := p19
              subst p0 p1 p2 p3 p4 p5 p6 p7 p8 p9 p10 p11 p12 p13 p14 p15 p16 p20 p22
              simp only [Act.put, List.setIfInBounds_toArray, List.set_cons_succ, List.set_cons_zero]
              obtain ⟨hB06, hsz6, hdr6, hrs6, hj5⟩ := hJ
              obtain ⟨B3, c3, hbx6, hTo6⟩ : ∃ B3 c3, Fresh w.heap.size 105 w6 (some ⟨gn, 0, none⟩) 5 5 (T3.rL B3 c3) ∧ RnTo w5 w6 A B3 c c3 S T3 := by
                rcases hj5 with ⟨e, _⟩ | ⟨_, _, h⟩
                · rw [hall 21 (by decide)] at e; cases e
                · exact h
              clear hsee hplen hQ hq hall hj5
              obtain ⟨rfl, hp3⟩ | ⟨rfl, hp3⟩ := HPS.out
              · have HP3 := Lib.hid hp3
                clear hp3
                go_wp2_with fail
                go_roundw
                case rel => exact ⟨j + 1, T3, B3, c3, by omega, by go_num, ⟨hdr6, hbx6, hrs6, hTo6, HP3.out, hB06, hsz6⟩⟩
                case measure => simp [intOf]; omega
              · have HP3 := Lib.hid hp3
                obtain ⟨rfl, rfl⟩ : T3 = T ∧ 40 = r := by have := HRT.out; rw [hp3] at this; simpa using this
                clear hp3
                go_wp2_with (first | (with_reducible refine wpList_load (o := ⟨some 77, _, _, _, _, _⟩) rfl (.tmp 5) 105 rfl gn 0 _ rfl (T3.rL B3 c3) 5 rfl (by kernel_rfl) hbx6.sees ?_) | ((with_reducible refine wpList_store rfl rfl (.tmp 8) (.tmp 77) 105 rfl gr 0 w.heap.size 105 5 (rnL none 0 0 0 0 false 0) (T3.rL B3 c3) rfl rfl 5 rfl (by kernel_rfl) hrs6 (by omega) (allOne_out (by kernel_rfl)) w hB06 (by omega) ?_); intro w9 hF9 hB9 ho9 hz9))
                exact bodyPost_cellt rfl rfl (.int .i64 40) rfl (T3.rL B3 c3) 5 rfl (by kernel_rfl) hF9.sees rfl ⟨B3, c3, rfl, RnTo.shut HH.out hTo6 hB9 zk hgrN ho9, hB9⟩
          · obtain rfl : j = n := by omega
            have hp := hQ.prog
            rw [List.take_of_length_le (by rw [HL.out]; exact Nat.le_refl _)] at hp
            obtain ⟨rfl, rfl⟩ : T2 = T ∧ 0 = r := by have := HRS.out; rw [hp] at this; simpa using this
            clear hp
            go_wp2_with (first | (with_reducible refine wpList_load (o := ⟨some 79, _, _, _, _, _⟩) rfl (.tmp 5) 105 rfl gn 0 _ rfl (T2.rL B2 c2) 5 rfl (by kernel_rfl) hQ.box.sees ?_) | ((with_reducible refine wpList_store rfl rfl (.tmp 8) (.tmp 79) 105 rfl gr 0 w.heap.size 105 5 (rnL none 0 0 0 0 false 0) (T2.rL B2 c2) rfl rfl 5 rfl (by kernel_rfl) hQ.res (by omega) (allOne_out (by kernel_rfl)) w hQ.below (by omega) ?_); intro w9 hF9 hB9 ho9 hz9))
            exact bodyPost_cellt rfl rfl (.int .i64 0) rfl (T2.rL B2 c2) 5 rfl (by kernel_rfl) hF9.sees rfl ⟨B2, c2, rfl, RnTo.shut HH.out hQ.to hB9 zk hgrN ho9, hB9⟩
end
end Go.Proofs.Ytpdfalgjmeagjaa

/-
  Open and Part of a drive.
-/
namespace Go.Proofs.Ytpdfalgjmeagjaa
open Go.RowKit
set_option linter.unusedVariables false

section
variable {w : World} {base d p b f m : Nat} {S : Fl}
theorem dmade_any (p f m : Nat) (w : World) : Calls Try.prog 123 #[.pointer (some ⟨p, 0, none⟩), .int .i64 (f : Int), .int .i64 (m : Int)] w fun e w' =>
    ∃ d, e = .returned (.pointer (some ⟨d, 0, none⟩)) ∧ Fresh w.heap.size 184 w' (some ⟨d, 0, none⟩) 4 4 (drObj d p f m) ∧ Below w.heap.size w w' := by
  go_enter Try.func123, Try.ntmps123
  go_wp2_with (with_reducible refine wpList_box (o := ⟨some 12, _, _, _, _, _⟩) rfl (.tmp 11) 184 rfl [.pointer none, .pointer (some ⟨p, 0, none⟩), .int .i64 (f : Int), .int .i64 (m : Int)] rfl 4 rfl (by decide) ?_; intro d w1 hd hF hB; have c0 := hF.cell (j := 0) rfl; have z0 : w1.frozen? ⟨d, 0, none⟩ = false := hF.frozenAt)
  go_ret
  have hF2 := hF.store 0 (.pointer (some ⟨d, 0, none⟩))
  exact ⟨d, rfl, hF2, hB.setCell (p := ⟨d, 0, none⟩) hF.block.2 _⟩
theorem Open_yes_at (h : NorAt base w p b S) (f m : Nat) (hf : f + m ≤ S.n) (h1 : 1 ≤ m) : Calls Try.prog 45 #[.pointer (some ⟨p, 0, none⟩), .int .i64 (f : Int), .int .i64 (m : Int)] w fun e w' =>
    ∃ d, e = .returned (.tuple #[.pointer (some ⟨d, 0, none⟩), .int .i64 0]) ∧ Fresh w.heap.size 184 w' (some ⟨d, 0, none⟩) 4 4 (drObj d p f m) ∧ Below w.heap.size w w' := by
  have hn := h.n_le
  have hS := Sectors_any h
  have hH := hasSectors_any S.n hn (f : Int) (m : Int) (by omega) true (by simp [secsOk]; omega) w
  have hM := dmade_any p f m w
  have h0 : ¬ ((S.n : Int) = 0) := by omega
  have HN := Lib.hid hf
  clear hf
  go_enter Try.func45, Try.ntmps45
  go_wp2_with fail
  refine hS.mono ?_
  rintro e w1 ⟨rfl, rfl⟩
  go_wp2_with fail
  refine hH.mono ?_
  rintro e w2 ⟨rfl, rfl⟩
  go_wp2_with fail
  refine hM.mono ?_
  rintro e w3 ⟨d, rfl, hF, hB⟩
  go_wp2_with fail
  go_ret2
  exact ⟨d, rfl, hF, hB⟩
theorem Open_yes (h : NorAt base w p b S) (f m : Nat) (hf : f + m ≤ S.n) (h1 : 1 ≤ m) (hb : base ≤ w.heap.size) : Calls Try.prog 45 #[.pointer (some ⟨p, 0, none⟩), .int .i64 (f : Int), .int .i64 (m : Int)] w fun e w' =>
    ∃ d, e = .returned (.tuple #[.pointer (some ⟨d, 0, none⟩), .int .i64 0]) ∧ DrAt base w' d p b f m S ∧ Below w.heap.size w w' :=
  (Open_yes_at h f m hf h1).mono fun e w' ⟨d, e1, hF, hB⟩ => ⟨d, e1, ⟨h.below hB, hF.lower hb, hf, h1⟩, hB⟩
end
end Go.Proofs.Ytpdfalgjmeagjaa

/-
  What a drive's calls leave of its flash: as many sectors, what is half erased; the error that Read ends with.
-/
namespace Go.Proofs.Ytpdfalgjmeagjaa
open Go.RowKit
set_option linter.unusedVariables false

section
variable {w : World} {base d p b f m : Nat} {S : Fl}
theorem Fl.dwrite_half (S : Fl) (f m : Nat) (a : Int) (l : List UInt32) : (S.dwrite f m a l).1.n = S.n ∧ (S.dwrite f m a l).1.half = S.half := by
  unfold Fl.dwrite
  split
  · exact ⟨rfl, rfl⟩
  · exact ⟨rfl, rfl⟩
  · split
    · exact ⟨rfl, rfl⟩
    · have h1 := Fl.prog_half l S (64 * f + a.toNat)
      revert h1
      rcases S.prog (64 * f + a.toNat) l with ⟨T, _ | _⟩ <;> intro h1 <;> exact h1
theorem Fl.derase_ok (S : Fl) (f m : Nat) (s : Int) (h : S.Ok) : (S.derase f m s).1.n = S.n ∧ (S.derase f m s).1.Ok := by
  unfold Fl.derase
  split
  · exact ⟨rfl, h⟩
  · unfold Fl.erase
    split
    · exact ⟨rfl, h⟩
    · exact ⟨rfl, h⟩
    · rename_i hs
      have h1 := S.step_half
      revert h1
      rcases S.step with ⟨T, _ | _⟩
      · intro h1
        refine ⟨h1.1, .inr ?_⟩
        simp [Fl.sector] at hs
        obtain ⟨σ, hσ⟩ := Int.eq_ofNat_of_zero_le hs.1
        refine ⟨σ, hσ, ?_⟩
        have h2 : T.n = S.n := h1.1
        show σ < T.n
        omega
      · intro h1
        refine ⟨h1.1, ?_⟩
        unfold Fl.Ok at *
        have h2 : T.n = S.n := h1.1
        have h3 : T.half = S.half := h1.2
        show T.half = -1 ∨ ∃ σ : Nat, T.half = (σ : Int) ∧ σ < T.n
        rw [h2, h3]
        exact h
end
end Go.Proofs.Ytpdfalgjmeagjaa

/-
  A drive of a flash beside the document's own drive, and flash; what reading tells on both sides.
-/
namespace Go.Proofs.Ytpdfalgjmeagjaa
open Go.RowKit
set_option linter.unusedVariables false

/-- Two worlds above one, the later with all that the earlier has. -/
theorem below_of {B : Nat} {W w w2 : World} (h : Below B W w) (hB : Below B W w2) (hs : w.heap.size ≤ w2.heap.size) (hk : ∀ k, k < w.heap.size → w2.heap[k]? = w.heap[k]?) : Below w.heap.size w w2 := ⟨hB.os.trans h.os.symm, hB.tape.trans h.tape.symm, hB.output.trans h.output.symm, hs, hk⟩
structure BesideD (W w : World) (p b g gb c d gv f m : Nat) (S : Fl) : Prop where
  bs : Beside W w p b g gb c S
  obj : Fresh W.heap.size 184 w (some ⟨d, 0, none⟩) 4 4 (drObj d p f m)
  v : Fresh W.heap.size 109 w (some ⟨gv, 0, none⟩) 2 2 (rdL (f : Int) (m : Int))
  fits : f + m ≤ S.n
  some_ : 1 ≤ m
  dg : d ≠ g
  vg : gv ≠ g
  vp : gv ≠ p
  vb : gv ≠ b
section
variable {W w w1 w2 w3 : World} {p b g gb c c3 d gv f m : Nat} {S T : Fl}
theorem BesideD.at_ (h : BesideD W w p b g gb c d gv f m S) : DrAt W.heap.size w d p b f m S := ⟨h.bs.nor, h.obj, h.fits, h.some_⟩
theorem BesideD.step (h : BesideD W w p b g gb c d gv f m S) (x : Below w.heap.size w w1) : BesideD W w1 p b g gb c d gv f m S :=
  ⟨h.bs.step x, h.obj.below x, h.v.below x, h.fits, h.some_, h.dg, h.vg, h.vp, h.vb⟩
theorem BesideD.small (h : BesideD W w p b g gb c d gv f m S) : f + m ≤ 1024 := Nat.le_trans h.fits h.bs.nor.n_le
theorem BesideD.half (h : BesideD W w p b g gb c d gv f m S) (x : But p b w w1) : Fresh W.heap.size 109 w1 (some ⟨gv, 0, none⟩) 2 2 (rdL (f : Int) (m : Int)) := h.v.but x h.vp h.vb
theorem BesideD.then_ (h : BesideD W w p b g gb c d gv f m S) (x : But p b w w1) (hN : NorAt W.heap.size w1 p b T) (hn : T.n = S.n) {B : Option Addr} (hT : RnTo w1 w2 (some ⟨gb, 0, none⟩) B c c3 S T) (y : Below w1.heap.size w1 w2)
    (hF : Fresh W.heap.size 105 w3 (some ⟨g, 0, none⟩) 5 5 (T.rL B c3)) (ho : ∀ k, k ≠ g → w3.heap[k]? = w2.heap[k]?) (hB : Below W.heap.size W w3) : ∃ gb2, B = some ⟨gb2, 0, none⟩ ∧ BesideD W w3 p b g gb2 c3 d gv f m T := by
  obtain ⟨gb2, rfl, hJ⟩ := h.bs.then_ x hN hn hT y hF ho hB
  have h1 := h.at_.turn x hN hn
  exact ⟨gb2, rfl, hJ, (h1.obj.below y).other h.dg ho, ((h.half x).below y).other h.vg ho, by rw [hn]; exact h.fits, h.some_, h.dg, h.vg, h.vp, h.vb⟩
end
end Go.Proofs.Ytpdfalgjmeagjaa

/-
  Calls that write three blocks alone; a drive beside a block that is written; two results of which one is a block of its own.
-/
namespace Go.Proofs.Ytpdfalgjmeagjaa
open Go.RowKit Go.Shelf
set_option linter.unusedVariables false

/-- Writes nothing that was there but these three blocks. -/
structure But3 (t p b : Nat) (w w' : World) : Prop where
  os : w'.os = w.os
  tape : w'.tape = w.tape
  output : w'.output = w.output
  size : w.heap.size ≤ w'.heap.size
  keep : ∀ k, k < w.heap.size → k ≠ t → k ≠ p → k ≠ b → w'.heap[k]? = w.heap[k]?
section
variable {w w' w'' : World} {base t d p b f : Nat} {S : Fl}
theorem But3.of_but (x : But p b w w') (t : Nat) : But3 t p b w w' := ⟨x.os, x.tape, x.output, x.size, fun k h _ h2 h3 => x.keep k h h2 h3⟩
theorem But3.of_own (x : But t t w w') (p b : Nat) : But3 t p b w w' := ⟨x.os, x.tape, x.output, x.size, fun k h h1 _ _ => x.keep k h h1 h1⟩
theorem But3.of_below (x : Below w.heap.size w w') (t p b : Nat) : But3 t p b w w' := ⟨x.os, x.tape, x.output, x.size, fun k h _ _ _ => x.block k h⟩
theorem But3.then_ (x : But3 t p b w w') (y : But3 t p b w' w'') : But3 t p b w w'' :=
  ⟨y.os.trans x.os, y.tape.trans x.tape, y.output.trans x.output, Nat.le_trans x.size y.size, fun k h h1 h2 h3 => (y.keep k (Nat.lt_of_lt_of_le h x.size) h1 h2 h3).trans (x.keep k h h1 h2 h3)⟩
theorem But3.below {B : Nat} (x : But3 t p b w w') (ht : B ≤ t) (hp : B ≤ p) (hb : B ≤ b) (hB : B ≤ w.heap.size) : Below B w w' := ⟨x.os, x.tape, x.output, x.size, fun k h => x.keep k (by omega) (by omega) (by omega) (by omega)⟩
theorem DrAt.other6 {g m : Nat} (h : DrAt base w d p b f m S) (x : But g g w w') (h1 : p ≠ g) (h2 : b ≠ g) (h3 : d ≠ g) : DrAt base w' d p b f m S := ⟨h.nor.but x h1 h1 h2 h2, h.obj.but x h3 h3, h.fits, h.some_⟩
end
theorem results_four {fn : Func} {p q r s : Tmp} (h : fn.results = #[.tmp p, .tmp q, .tmp r, .tmp s]) (tmps : Array Value) (P : Program) (w : World) : (results fn tmps).run P w = .ok (.tuple #[tmps.getD p undef, tmps.getD q undef, tmps.getD r undef, tmps.getD s undef]) w := by
  simp [results, h]
end Go.Proofs.Ytpdfalgjmeagjaa
