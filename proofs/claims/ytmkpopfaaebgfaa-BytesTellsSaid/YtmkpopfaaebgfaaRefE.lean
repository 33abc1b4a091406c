/-
  What the document's own Words answer (layer 1).
-/
import Derived.Test.YtmkpopfaaebgfaaRefD
namespace Go.Proofs.Ytmkpopfaaebgfaa
open Go.RowKit
set_option linter.unusedVariables false

/-- The four bytes from a place on, the first j of them taken over. -/
def four (l : List UInt8) (p j : Nat) : List UInt8 := (List.range 4).map fun t => if t < j then l.getD (p + t) 255 else 255
theorem len_four (l : List UInt8) (p j : Nat) : (four l p j).length = 4 := by simp [four]
theorem four_step (l : List UInt8) (p j : Nat) (x : UInt8) (hj : j < 4) (h : l[p + j]? = some x) : (four l p j).set j x = four l p (j + 1) := by
  apply List.ext_getElem
  · simp [four]
  · intro t h1 h2
    rw [List.getElem_set]
    simp only [four, List.getElem_map, List.getElem_range]
    by_cases e : j = t
    · subst e; simp [h]
    · rw [if_neg e]
      by_cases ht : t < j
      · rw [if_pos ht, if_pos (by omega)]
      · rw [if_neg ht, if_neg (by omega)]
theorem four_end (l : List UInt8) (p j : Nat) (h : j = 4 ∨ l.length ≤ p + j) (hj : j ≤ 4) : getW (four l p j) 0 = (wAt l p, 4, 0) := by
  have ho : ∀ t, t < 4 → oct (four l p j) t = oct l (p + t) := by
    intro t ht
    have e : (four l p j)[t]? = some (if t < j then l.getD (p + t) 255 else 255) := by simp [four, ht]
    rw [oct_get _ _ _ e, oct]
    by_cases htj : t < j
    · rw [if_pos htj]
    · rw [if_neg htj]
      have hn : l[p + t]? = none := List.getElem?_eq_none (by omega)
      simp [List.getD, hn]
  have hw : wAt (four l p j) 0 = wAt l p := by
    unfold wAt
    have h0 := ho 0 (by omega)
    rw [Nat.add_zero] at h0
    rw [h0, ho (0 + 1) (by omega), ho (0 + 2) (by omega), ho (0 + 3) (by omega)]
  have ha : isAt (four l p j).length 0 = true := by simp [isAt]
  unfold getW
  rw [ha, if_pos rfl, len_four]
  simp [hw]
theorem words_take (l : List UInt8) (k : Nat) (h : k < (words l).length) : (words l).take (k + 1) = (words l).take k ++ [UInt32.ofNat (wAt l (4 * k))] := by
  rw [List.take_succ_eq_append_getElem h, words_get]
theorem sees_one32 (w : World) (e : TypeId) (C : Array Value) (c : UInt32) (hC : C = (cw [c]).toArray) : Sees (w.alloc (.cells C e)) (w.alloc (.cells C e)).heap.size (some ⟨w.heap.size, 0, none⟩) (cw [c]) := fun _ => by
  subst hC
  exact ⟨w.heap.size, 0, rfl, by simp, fun j u hu => by rw [Nat.zero_add, World.cell?_alloc_mark]; simpa using hu⟩

set_option maxRecDepth 100000 in
set_option maxHeartbeats 1000000 in
theorem rWords_any (A : Option Addr) (c n m : Nat) (l : List UInt8) (w : World) (hs : Sees w w.heap.size A (cb l)) (hl : l.length = n) (hn : n ≤ 1000) (hm : (n + 3) / 4 = m) :
    Calls Try.prog 32 #[.slice A n c] w (Made32 w m (words l)) := by
  have HL := Lib.hid hl
  have HW := Lib.hid (show (words l).length = m by rw [len_words, hl, hm])
  have hm1 : 4 * m ≤ n + 3 := by omega
  have hm2 : n ≤ 4 * m := by omega
  clear hl hm
  go_enter Try.func32, Try.ntmps32
  go_wp2_with fail
  go_loopw [3, 4] (fun v i wr => ∃ (k c' : Nat) (A' : Option Addr), k ≤ m ∧ i = .int .i64 (4 * (k : Int)) ∧ v = .slice A' k c' ∧ Fresh w.heap.size 31 wr A' k c' (cw ((words l).take k)) ∧ Below w.heap.size w wr) (fun _ i _ => n + 4 - (intOf i).toNat)
  case atStart => exact ⟨0, 0, none, by omega, by simp, rfl, fresh_nil _ _ _, Below.refl _ _⟩
  case round =>
    obtain ⟨k, c', A', hk, rfl, rfl, hF, hB⟩ := hrel
    by_cases hlt : k < m
    · obtain ⟨wo, hwo⟩ : ∃ wo, wo = wr := ⟨_, rfl⟩
      rw [← hwo] at hF hB ⊢
      clear hwo
      have hbs := hB.size
      have hd0 : decide (4 * (k : Int) < (n : Int)) = true := by simp; omega
      have hd00 : decide (4 * k < n) = true := by simp; omega
      go_wp2_with fail
      go_loopw [6] (fun i wr => ∃ j : Nat, j ≤ 4 ∧ i = .int .i64 j ∧ (j = 0 ∨ 4 * k + j ≤ n) ∧ Fresh wo.heap.size 5 wr (some ⟨wo.heap.size, 0, none⟩) 4 4 (cb (four l (4 * k) j)) ∧ Below wo.heap.size wo wr) (fun i _ => 4 - (intOf i).toNat)
      case atStart =>
        refine ⟨0, by omega, rfl, .inl rfl, ?_, (Below.refl _ _).alloc (Nat.le_refl _) _⟩
        exact Fresh.of_block (heap_alloc_new wo _) (Nat.le_refl _) (by simp [len_four]) (by unfold maxLen; omega)
      case round =>
        obtain ⟨j, hj, rfl, hj0, hF4, hB4⟩ := hrel
        by_cases hj2 : j < 4 ∧ 4 * k + j < n
        · obtain ⟨hj3, hj4⟩ := hj2
          obtain ⟨b, o, rfl, hb, x, HX, hx, hc⟩ := (hs.step (Below.then_ hB hB4)).byte HL.out hj4
          obtain ⟨u, hcu⟩ := hF4.cellAt (j := j) (by omega)
          have hz := hF4.frozenAt (j := j)
          have hd1 : decide (4 * (k : Int) + (j : Int) < (n : Int)) = true := by simp; omega
          have hd2 : decide (4 * k + j < n) = true := by simp; omega
          clear hj0
          go_wp2_with fail
          have hst := hF4.store8 j x
          rw [four_step l (4 * k) j x hj3 HX.out] at hst
          go_roundw
          case rel =>
            exact ⟨j + 1, by omega, by go_num, .inr (by omega), hst, hB4.setCell (p := ⟨wo.heap.size, j, none⟩) (Nat.le_refl _) _⟩
          case measure => simp [intOf]; omega
        · have hfe := four_end l (4 * k) j (by rw [HL.out]; omega) hj
          have HFE := Lib.hid hfe
          have hB04 := Below.then_ hB hB4
          have hF04 := hF.below hB4
          have hz4 := hB4.size
          clear hfe hj0
          by_cases hj3 : j < 4
          · have hj4 : n ≤ 4 * k + j := by omega
            have hd1 : decide (4 * (k : Int) + (j : Int) < (n : Int)) = false := by simp; omega
            have hd2 : decide (4 * k + j < n) = false := by simp; omega
            clear hj2
            go_wp2_with fail
            refine (rGetWord_any _ 4 4 0 (four l (4 * k) j) _ hF4.sees (len_four _ _ _) (by omega) (by omega) _ _ _ HFE.out).mono ?_
            rintro e w1 ⟨rfl, rfl⟩
            have hx1 : wAt l (4 * k) < 4294967296 := wAt_lt _ _
            obtain ⟨x1, hx1e⟩ : ∃ x1 : UInt32, wAt l (4 * k) = x1.toNat := ⟨UInt32.ofNat (wAt l (4 * k)), (ofNat_toNat32 _ hx1).symm⟩
            have hst2 := words_take l k (by rw [HW.out]; exact hlt)
            rw [hx1e, UInt32.ofNat_toNat] at hst2
            have HST2 := Lib.hid hst2
            clear hst2
            rw [hx1e]
            have hba := below_alloc wr (.cells #[.int .u32 (x1.toNat : Int)] 31)
            have hF05 := hF04.below hba
            have hs5 := sees_one32 wr 31 #[.int .u32 (x1.toNat : Int)] x1 rfl
            have hB5 := Below.then_ hB04 hba
            clear hF4 hB4 hF04
            go_wp2_with (at_builtin; refine wpList_app32 rfl (.tmp 44) (.tmp 46) rfl A' (some ⟨wr.heap.size, 0, none⟩) k c' 1 1 ((words l).take k) [x1] w rfl rfl hF05 hs5 rfl (by omega) hB5 ?_; intro A2 c2 w5 hF6 hB6)
            rw [← HST2.out] at hF6
            go_roundw
            case rel => exact ⟨k + 1, c2, A2, by omega, by go_num, rfl, hF6, hB6⟩
            case measure => simp [intOf]; omega
          · obtain rfl : j = 4 := by omega
            clear hj2
            go_wp2_with fail
            refine (rGetWord_any _ 4 4 0 (four l (4 * k) 4) _ hF4.sees (len_four _ _ _) (by omega) (by omega) _ _ _ HFE.out).mono ?_
            rintro e w1 ⟨rfl, rfl⟩
            have hx1 : wAt l (4 * k) < 4294967296 := wAt_lt _ _
            obtain ⟨x1, hx1e⟩ : ∃ x1 : UInt32, wAt l (4 * k) = x1.toNat := ⟨UInt32.ofNat (wAt l (4 * k)), (ofNat_toNat32 _ hx1).symm⟩
            have hst2 := words_take l k (by rw [HW.out]; exact hlt)
            rw [hx1e, UInt32.ofNat_toNat] at hst2
            have HST2 := Lib.hid hst2
            clear hst2
            rw [hx1e]
            have hba := below_alloc wr (.cells #[.int .u32 (x1.toNat : Int)] 31)
            have hF05 := hF04.below hba
            have hs5 := sees_one32 wr 31 #[.int .u32 (x1.toNat : Int)] x1 rfl
            have hB5 := Below.then_ hB04 hba
            clear hF4 hB4 hF04
            go_wp2_with (at_builtin; refine wpList_app32 rfl (.tmp 44) (.tmp 46) rfl A' (some ⟨wr.heap.size, 0, none⟩) k c' 1 1 ((words l).take k) [x1] w rfl rfl hF05 hs5 rfl (by omega) hB5 ?_; intro A2 c2 w5 hF6 hB6)
            rw [← HST2.out] at hF6
            go_roundw
            case rel => exact ⟨k + 1, c2, A2, by omega, by go_num, rfl, hF6, hB6⟩
            case measure => simp [intOf]; omega
    · go_wp2_with fail
      go_ret
      have hk' : k = m := by omega
      subst hk'
      rw [List.take_of_length_le (by rw [HW.out]; omega)] at hF
      exact ⟨A', c', rfl, hF, hB⟩
end Go.Proofs.Ytmkpopfaaebgfaa
