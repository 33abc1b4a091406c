/-
  What parts, Word, Uint, Blob and GetWord of the document's own answer, for every input.
-/
import Derived.Test.YtpdfalgjmeagjaaCpB12
import Derived.Test.YtpdfalgjmeagjaaCpB01
import GoSem.Op.String
import Derived.Test.YtpdfalgjmeagjaaCpB05
import Derived.Test.YtpdfalgjmeagjaaCpB04
import Derived.Maps.AppendAt
import Derived.Deep.CutBlock
import Derived.Laws.Concat
import Derived.Laws.Strings2
import Derived.Lib.ConvBytes
import Derived.IntWalk
namespace Go.Proofs.Ytpdfalgjmeagjaa
open Go.RowKit
set_option linter.unusedVariables false

theorem pow256 (j : Nat) : (2 : Nat) ^ (8 * j) = 256 ^ j := by rw [Nat.pow_mul]
theorem unit_lt (j : Nat) (h : j ≤ 3) : 256 ^ j ≤ 16777216 := by
  have : 256 ^ j ≤ 256 ^ 3 := Nat.pow_le_pow_right (by omega) h
  omega
theorem part_byte (x i : Nat) (hi : i < 4) : (x % 256 ^ (4 - i)) / 256 ^ (3 - i) = (byteAt x i).toNat := by
  unfold byteAt
  rw [ofNat_toNat _ (Nat.mod_lt _ (by omega)), pow256]
  rw [show 4 - i = (3 - i) + 1 from by omega, Nat.pow_succ, Nat.mod_mul_right_div_self]
theorem part_rest (x i : Nat) (hi : i < 4) : (x % 256 ^ (4 - i)) % 256 ^ (3 - i) = x % 256 ^ (4 - (i + 1)) := by
  rw [show 4 - (i + 1) = 3 - i from by omega, show 4 - i = (3 - i) + 1 from by omega, Nat.pow_succ, Nat.mod_mul_right_mod]

set_option maxRecDepth 100000 in
set_option maxHeartbeats 1000000 in
theorem parts_any (x : Nat) (w : World) (hx : x < 4294967296) : Calls Try.prog 206 #[.int .u32 (x : Int)] w (Made8 w 4 (wd x)) := by
  go_enter Try.func206, Try.ntmps206
  go_wp2_with (at_make; refine wpList_mk8 rfl (.const (.int .i64 4)) rfl _ 4 rfl rfl (by omega) ?_; intro w1 hF1 hB1)
  go_loopw [0, 4] (fun n i wr => ∃ k y : Nat, k ≤ 4 ∧ i = .int .i64 k ∧ n = .int .u32 (y : Int) ∧ y = x % 256 ^ (4 - k) ∧ Fresh w.heap.size 5 wr (some ⟨w.heap.size, 0, none⟩) 4 4 (cb (splice (List.replicate 4 0) 0 ((wd x).take k))) ∧ Below w.heap.size w wr) (fun _ i _ => 4 - (intOf i).toNat)
  case atStart => exact ⟨0, x, by omega, rfl, rfl, (Nat.mod_eq_of_lt (by simpa using hx)).symm, by simpa [splice] using hF1, hB1⟩
  case round =>
    obtain ⟨k, y, hk, rfl, rfl, hy, hFr, hbr⟩ := hrel
    have hy2 : y < 4294967296 := by
      have := Nat.mod_le x (256 ^ (4 - k))
      omega
    have HY := Lib.hid hy
    clear hy
    by_cases hlt : k < 4
    · obtain ⟨wo, hwo⟩ : ∃ wo, wo = wr := ⟨_, rfl⟩
      rw [← hwo] at hFr hbr ⊢
      clear hwo
      go_wp2_with fail
      go_loop [5, 6] (fun u i => ∃ j v : Nat, k ≤ j ∧ j ≤ 3 ∧ i = .int .i64 j ∧ u = .int .u32 (v : Int) ∧ v = 256 ^ (j - k)) (fun _ i => 3 - (intOf i).toNat)
      case atStart => exact ⟨k, 1, by omega, by omega, rfl, rfl, by simp⟩
      case round =>
        obtain ⟨j, v, hj1, hj2, rfl, rfl, hv⟩ := hrel
        have hv1 : v ≤ 16777216 := by rw [hv]; exact unit_lt _ (by omega)
        have hv0 : 1 ≤ v := by rw [hv]; exact Nat.pos_of_ne_zero (by simp)
        have HV := Lib.hid hv
        clear hv
        by_cases hj3 : j < 3
        · have hv2 : v ≤ 65536 := by
            rw [HV.out]
            have : 256 ^ (j - k) ≤ 256 ^ 2 := Nat.pow_le_pow_right (by omega) (by omega)
            omega
          go_wp2_with fail
          go_round
          case rel => exact ⟨j + 1, v * 256, by omega, by omega, by go_num, by go_num, by rw [HV.out, show j + 1 - k = (j - k) + 1 from by omega, Nat.pow_succ]⟩
          case measure => simp [intOf]; omega
        · have hj' : j = 3 := by omega
          have hq : y / v = (byteAt x k).toNat := by rw [HY.out, HV.out, hj']; exact part_byte x k hlt
          have hr : y % v = x % 256 ^ (4 - (k + 1)) := by rw [HY.out, HV.out, hj']; exact part_rest x k hlt
          have HQ := Lib.hid hq
          have HR := Lib.hid hr
          clear hq hr hj'
          obtain ⟨u, hc⟩ := hFr.cellAt (j := k) (by omega)
          have hz := hFr.frozenAt (j := k)
          have hdz : ((v : Int) == 0) = false := by simp; omega
          go_wp2_with fail
          have hst := hFr.store8 (0 + k) (byteAt x k)
          rw [← wd_get x k hlt, splice_step _ _ _ _ (by rw [len_wd]; exact hlt) (by simp [len_wd]), wd_get x k hlt, Nat.zero_add, ← HQ.out] at hst
          have hbt := UInt8.toNat_lt (byteAt x k)
          have e8 : (y : Int) / (v : Int) % 256 = ((y / v : Nat) : Int) := by
            rw [← HQ.out] at hbt
            rw [← Int.natCast_ediv]
            generalize y / v = t at hbt ⊢
            omega
          rw [← e8] at hst
          go_roundw
          case rel => exact ⟨k + 1, y % v, by omega, by go_num, rfl, HR.out, hst, hbr.setCell (Nat.le_refl _) _⟩
          case measure => simp [intOf]; omega
    · go_wp2_with fail
      go_ret
      have h := hFr
      rw [splice_all _ _ _ _ (by rw [len_wd]; omega), splice_zero _ _ _ (len_wd x)] at h
      exact ⟨_, _, rfl, h, hbr⟩

set_option maxRecDepth 100000 in
set_option maxHeartbeats 1000000 in
theorem rWord_any (A : Option Addr) (c n x : Nat) (l : List UInt8) (w : World) (hs : Sees w w.heap.size A (cb l)) (hl : l.length = n) (hn : n ≤ 1000000) (hx : x < 4294967296) :
    Calls Try.prog 192 #[.slice A n c, .int .u32 (x : Int)] w (Made8 w (n + 4) (l ++ wd x)) := by
  have HL := Lib.hid hl
  clear hl
  go_enter Try.func192, Try.ntmps192
  go_wp2_with fail
  refine (parts_any x w hx).mono ?_
  rintro e w1 ⟨A1, c1, rfl, hF1, hB1⟩
  go_wp2_with fail
  refine (behind_any A A1 c c1 n 4 l (wd x) w1 (hs.step hB1) hF1.sees HL.out (len_wd x) (by omega) (by omega)).mono ?_
  rintro e w2 ⟨A2, c2, rfl, hF2, hB2⟩
  go_wp2
  go_ret
  exact ⟨A2, c2, rfl, hF2.lower hB1.size, Below.then_ hB1 hB2⟩

set_option maxRecDepth 100000 in
set_option maxHeartbeats 1000000 in
theorem rGetWord_any (A : Option Addr) (c n : Nat) (P : Int) (l : List UInt8) (w : World) (hs : Sees w w.heap.size A (cb l)) (hl : l.length = n) (hn : n ≤ 1000) (hP : P ≤ 9223372036854775807) (x q r : Nat) (hR : getW l P = (x, q, r)) :
    Calls Try.prog 190 #[.slice A n c, .int .i64 P] w fun e w' => e = .returned (.tuple #[.int .u32 (x : Int), .int .i64 (q : Int), .int .i64 (r : Int)]) ∧ w = w' := by
  have HL := Lib.hid hl
  have HR := Lib.hid hR
  clear hl hR
  by_cases h0 : P < 0
  · have e : getW l P = (0, 0, 2) := getW_no (by simp [isAt]; omega)
    have HE := Lib.hid (HR.out.symm.trans e)
    clear e
    go_enter Try.func190, Try.ntmps190
    go_wp2
    go_ret3
    have h := HE.out
    simp only [Prod.mk.injEq] at h
    obtain ⟨rfl, rfl, rfl⟩ := h
    exact ⟨rfl, rfl⟩
  · obtain ⟨p, rfl⟩ := Int.eq_ofNat_of_zero_le (show 0 ≤ P by omega)
    by_cases h1 : n < p
    · have e : getW l (p : Int) = (0, 0, 2) := getW_no (by simp [isAt, HL.out]; omega)
      have HE := Lib.hid (HR.out.symm.trans e)
      clear e
      go_enter Try.func190, Try.ntmps190
      go_wp2
      go_ret3
      have h := HE.out
      simp only [Prod.mk.injEq] at h
      obtain ⟨rfl, rfl, rfl⟩ := h
      exact ⟨rfl, rfl⟩
    · have ha : isAt l.length (p : Int) = true := by simp [isAt, HL.out]; omega
      have hd0 : decide ((p : Int) < 0) = false := by simp
      have hd1 : decide (n < p) = false := by simp; omega
      by_cases h2 : n < p + 4
      · have e : getW l (p : Int) = (0, 0, 10) := by
          unfold getW
          rw [ha, if_pos rfl, HL.out, Int.toNat_natCast, if_pos h2]
        have HE := Lib.hid (HR.out.symm.trans e)
        clear e
        go_enter Try.func190, Try.ntmps190
        go_wp2
        go_ret3
        have h := HE.out
        simp only [Prod.mk.injEq] at h
        obtain ⟨rfl, rfl, rfl⟩ := h
        exact ⟨rfl, rfl⟩
      · have e : getW l (p : Int) = (wAt l p, p + 4, 0) := by
          unfold getW
          rw [ha, if_pos rfl, HL.out, Int.toNat_natCast, if_neg h2]
        have HE := Lib.hid (HR.out.symm.trans e)
        have hd2 : decide ((n : Int) < (p : Int) + 4) = false := by simp; omega
        clear e
        go_enter Try.func190, Try.ntmps190
        go_wp2_with fail
        go_loop [7, 8] (fun v i => ∃ k y : Nat, k ≤ 4 ∧ i = .int .i64 ((p : Int) + (k : Int)) ∧ v = .int .u32 (y : Int) ∧ y = wP l p k) (fun _ i => p + 4 - (intOf i).toNat)
        case atStart => exact ⟨0, 0, by omega, by simp, rfl, rfl⟩
        case round =>
          obtain ⟨k, y, hk, rfl, rfl, hy⟩ := hrel
          have HY := Lib.hid hy
          clear hy
          by_cases hlt : k < 4
          · have hy4 : y < 16777216 := by rw [HY.out]; exact wP_lt4 l p k hlt
            obtain ⟨b, o, rfl, hb, d, HD, hd, hc⟩ := hs.byte HL.out (show p + k < n by omega)
            go_wp2_with fail
            go_round
            case rel => exact ⟨k + 1, y * 256 + d.toNat, by omega, by go_num, by go_num, by rw [wP, HY.out, oct_get l (p + k) d HD.out]⟩
            case measure => simp [intOf]; omega
          · have hk4 : k = 4 := by omega
            have hw : y = wAt l p := by rw [HY.out, hk4, wP_four]
            have HW := Lib.hid hw
            clear hw hk4
            go_wp2_with fail
            go_ret3
            have h := HE.out
            simp only [Prod.mk.injEq] at h
            obtain ⟨rfl, rfl, rfl⟩ := h
            exact ⟨by rw [← HW.out]; rfl, rfl⟩
end Go.Proofs.Ytpdfalgjmeagjaa

/-
  What the document's own Bytes and Words answer (layer 1).
-/
namespace Go.Proofs.Ytpdfalgjmeagjaa
open Go.RowKit
set_option linter.unusedVariables false

theorem told2_nil {w w' : World} {r : Nat} (hB : Below w.heap.size w w') : Told2 w 0 [] r (.returned (.tuple #[.slice none 0 0, .int .i64 (r : Int)])) w' := ⟨none, 0, rfl, fresh_nil _ _ _, hB⟩
theorem bytesOf_take (l : List UInt32) (k : Nat) (x : UInt32) (h : l[k]? = some x) : bytesOf (l.take (k + 1)) = bytesOf (l.take k) ++ wd x.toNat := by
  simp [bytesOf, List.take_add_one, h]

set_option maxRecDepth 100000 in
set_option maxHeartbeats 1000000 in
theorem rBytes_any (A : Option Addr) (c n : Nat) (P : Int) (l : List UInt32) (w : World) (hs : Sees w w.heap.size A (cw l)) (hl : l.length = n) (hn : n ≤ 300) (L : List UInt8) (N r0 : Nat) (hR : getBytes l P = (L, r0)) (hN : L.length = N) :
    Calls Try.prog 146 #[.slice A n c, .int .i64 P] w (Told2 w N L r0) := by
  have HL := Lib.hid hl
  clear hl
  by_cases h0 : P < 0
  · have e : getBytes l P = ([], 2) := by simp [getBytes, h0]
    rw [e] at hR
    simp only [Prod.mk.injEq] at hR
    obtain ⟨rfl, rfl⟩ := hR
    subst hN
    clear e
    go_enter Try.func146, Try.ntmps146
    go_wp2
    go_ret2
    exact told2_nil (Below.refl _ _)
  · obtain ⟨m, rfl⟩ := Int.eq_ofNat_of_zero_le (show 0 ≤ P by omega)
    have hd0 : decide ((m : Int) < 0) = false := by simp
    have HR := Lib.hid hR
    have HN := Lib.hid hN
    clear hR hN
    go_enter Try.func146, Try.ntmps146
    go_wp2_with fail
    go_loopw [6, 7] (fun v i wr => ∃ (k c' : Nat) (A' : Option Addr), k ≤ n ∧ i = .int .i64 k ∧ v = .slice A' (4 * k) c' ∧ Fresh w.heap.size 5 wr A' (4 * k) c' (cb (bytesOf (l.take k))) ∧ Below w.heap.size w wr) (fun _ i _ => n - (intOf i).toNat)
    case atStart => exact ⟨0, 0, none, by omega, rfl, rfl, fresh_nil _ _ _, Below.refl _ _⟩
    case round =>
      obtain ⟨k, c', A', hk, rfl, rfl, hF, hB⟩ := hrel
      have hlk : (bytesOf (l.take k)).length = 4 * k := by rw [len_bytesOf, List.length_take, HL.out]; omega
      have HLK := Lib.hid hlk
      clear hlk
      have hbs := hB.size
      by_cases hlt : k < n
      · obtain ⟨b, o, rfl, hb, x, HX, hx, hc⟩ := (hs.step hB).word HL.out hlt
        go_wp2_with fail
        refine (rWord_any A' c' (4 * k) x.toNat (bytesOf (l.take k)) wr hF.sees HLK.out (by omega) hx).mono ?_
        rintro e w1 ⟨A1, c1, rfl, hF1, hB1⟩
        have hF2 : Fresh w.heap.size 5 w1 A1 (4 * (k + 1)) c1 (cb (bytesOf (l.take (k + 1)))) := by
          rw [bytesOf_take l k x HX.out]
          exact hF1.lower hbs
        have hB2 := Below.then_ hB hB1
        clear hF1 hB1 hc
        go_wp2_with fail
        go_roundw
        case rel => exact ⟨k + 1, c1, A1, by omega, by go_num, rfl, hF2, hB2⟩
        case measure => simp [intOf]; omega
      · have hk' : k = n := by omega
        have hall : l.take k = l := List.take_of_length_le (by rw [HL.out]; omega)
        rw [hall] at hF HLK
        have hcap := hF.cap.1
        by_cases hm : 4 * k < m
        · have e : getBytes l (m : Int) = ([], 10) := getBytes_past l _ (by rw [HL.out]; omega)
          have h := HR.out
          rw [e] at h
          simp only [Prod.mk.injEq] at h
          obtain ⟨rfl, rfl⟩ := h
          have h2 := HN.out
          simp at h2
          subst h2
          clear e hall hk'
          go_wp2_with fail
          go_ret2
          exact told2_nil hB
        · have e : getBytes l (m : Int) = ((bytesOf l).take m, 0) := getBytes_some l m (by rw [HL.out]; omega)
          have h := HR.out
          rw [e] at h
          simp only [Prod.mk.injEq] at h
          obtain ⟨rfl, rfl⟩ := h
          have hlm : ((bytesOf l).take m).length = m := by rw [List.length_take, HLK.out]; omega
          have hmN : m = N := hlm.symm.trans HN.out
          subst hmN
          have HLM := Lib.hid hlm
          have hS := hF.sees.take_ m
          rw [show (cb (bytesOf l)).take m = cb ((bytesOf l).take m) from by simp only [cb, List.map_take]] at hS
          have hcut := fun W => run_cut (w := W) A' (4 * k) c' m (by omega)
          clear e hlm hk' hall
          go_wp2_with fail
          refine (behind_any none A' 0 c' 0 m [] ((bytesOf l).take m) wr Sees.nil hS rfl HLM.out (by omega) (by omega)).mono ?_
          rintro e w2 ⟨A2, c2, rfl, hF2, hB2⟩
          go_wp2_with fail
          go_ret2
          refine ⟨A2, c2, rfl, ?_, Below.then_ hB hB2⟩
          have h := hF2.lower hbs
          simpa using h

end Go.Proofs.Ytpdfalgjmeagjaa

/-
  What the document's own Words answer (layer 1).
-/
namespace Go.Proofs.Ytpdfalgjmeagjaa
open Go.RowKit
set_option linter.unusedVariables false

/-- The four bytes from a place on, the first j of them taken over. -/
def four (l : List UInt8) (p j : Nat) : List UInt8 := (List.range 4).map fun t => if t < j then l.getD (p + t) 255 else 255
theorem len_four (l : List UInt8) (p j : Nat) : (four l p j).length = 4 := by simp [four]
theorem four_step (l : List UInt8) (p j : Nat) (x : UInt8) (hj : j < 4) (h : l[p + j]? = some x) : (four l p j).set j x = four l p (j + 1) := by
  apply List.ext_getElem
  · simp [four]
  · intro t h1 h2
    rw [List.getElem_set]
    simp only [four, List.getElem_map, List.getElem_range]
    by_cases e : j = t
    · subst e; simp [h]
    · rw [if_neg e]
      by_cases ht : t < j
      · rw [if_pos ht, if_pos (by omega)]
      · rw [if_neg ht, if_neg (by omega)]
theorem four_end (l : List UInt8) (p j : Nat) (h : j = 4 ∨ l.length ≤ p + j) (hj : j ≤ 4) : getW (four l p j) 0 = (wAt l p, 4, 0) := by
  have ho : ∀ t, t < 4 → oct (four l p j) t = oct l (p + t) := by
    intro t ht
    have e : (four l p j)[t]? = some (if t < j then l.getD (p + t) 255 else 255) := by simp [four, ht]
    rw [oct_get _ _ _ e, oct]
    by_cases htj : t < j
    · rw [if_pos htj]
    · rw [if_neg htj]
      have hn : l[p + t]? = none := List.getElem?_eq_none (by omega)
      simp [List.getD, hn]
  have hw : wAt (four l p j) 0 = wAt l p := by
    unfold wAt
    have h0 := ho 0 (by omega)
    rw [Nat.add_zero] at h0
    rw [h0, ho (0 + 1) (by omega), ho (0 + 2) (by omega), ho (0 + 3) (by omega)]
  have ha : isAt (four l p j).length 0 = true := by simp [isAt]
  unfold getW
  rw [ha, if_pos rfl, len_four]
  simp [hw]
theorem words_take (l : List UInt8) (k : Nat) (h : k < (words l).length) : (words l).take (k + 1) = (words l).take k ++ [UInt32.ofNat (wAt l (4 * k))] := by
  rw [List.take_succ_eq_append_getElem h, words_get]
theorem sees_one32E (w : World) (e : TypeId) (C : Array Value) (c : UInt32) (hC : C = (cw [c]).toArray) : Sees (w.alloc (.cells C e)) (w.alloc (.cells C e)).heap.size (some ⟨w.heap.size, 0, none⟩) (cw [c]) := fun _ => by
  subst hC
  exact ⟨w.heap.size, 0, rfl, by simp, fun j u hu => by rw [Nat.zero_add, World.cell?_alloc_mark]; simpa using hu⟩

set_option maxRecDepth 100000 in
set_option maxHeartbeats 1000000 in
theorem rWords_any (A : Option Addr) (c n m : Nat) (l : List UInt8) (w : World) (hs : Sees w w.heap.size A (cb l)) (hl : l.length = n) (hn : n ≤ 1000) (hm : (n + 3) / 4 = m) :
    Calls Try.prog 140 #[.slice A n c] w (Made32 w m (words l)) := by
  have HL := Lib.hid hl
  have HW := Lib.hid (show (words l).length = m by rw [len_words, hl, hm])
  have hm1 : 4 * m ≤ n + 3 := by omega
  have hm2 : n ≤ 4 * m := by omega
  clear hl hm
  go_enter Try.func140, Try.ntmps140
  go_wp2_with fail
  go_loopw [3, 4] (fun v i wr => ∃ (k c' : Nat) (A' : Option Addr), k ≤ m ∧ i = .int .i64 (4 * (k : Int)) ∧ v = .slice A' k c' ∧ Fresh w.heap.size 22 wr A' k c' (cw ((words l).take k)) ∧ Below w.heap.size w wr) (fun _ i _ => n + 4 - (intOf i).toNat)
  case atStart => exact ⟨0, 0, none, by omega, by simp, rfl, fresh_nil _ _ _, Below.refl _ _⟩
  case round =>
    obtain ⟨k, c', A', hk, rfl, rfl, hF, hB⟩ := hrel
    by_cases hlt : k < m
    · obtain ⟨wo, hwo⟩ : ∃ wo, wo = wr := ⟨_, rfl⟩
      rw [← hwo] at hF hB ⊢
      clear hwo
      have hbs := hB.size
      have hd0 : decide (4 * (k : Int) < (n : Int)) = true := by simp; omega
      have hd00 : decide (4 * k < n) = true := by simp; omega
      go_wp2_with fail
      go_loopw [6] (fun i wr => ∃ j : Nat, j ≤ 4 ∧ i = .int .i64 j ∧ (j = 0 ∨ 4 * k + j ≤ n) ∧ Fresh wo.heap.size 5 wr (some ⟨wo.heap.size, 0, none⟩) 4 4 (cb (four l (4 * k) j)) ∧ Below wo.heap.size wo wr) (fun i _ => 4 - (intOf i).toNat)
      case atStart =>
        refine ⟨0, by omega, rfl, .inl rfl, ?_, (Below.refl _ _).alloc (Nat.le_refl _) _⟩
        exact Fresh.of_block (heap_alloc_new wo _) (Nat.le_refl _) (by simp [len_four]) (by unfold maxLen; omega)
      case round =>
        obtain ⟨j, hj, rfl, hj0, hF4, hB4⟩ := hrel
        by_cases hj2 : j < 4 ∧ 4 * k + j < n
        · obtain ⟨hj3, hj4⟩ := hj2
          obtain ⟨b, o, rfl, hb, x, HX, hx, hc⟩ := (hs.step (Below.then_ hB hB4)).byte HL.out hj4
          obtain ⟨u, hcu⟩ := hF4.cellAt (j := j) (by omega)
          have hz := hF4.frozenAt (j := j)
          have hd1 : decide (4 * (k : Int) + (j : Int) < (n : Int)) = true := by simp; omega
          have hd2 : decide (4 * k + j < n) = true := by simp; omega
          clear hj0
          go_wp2_with fail
          have hst := hF4.store8 j x
          rw [four_step l (4 * k) j x hj3 HX.out] at hst
          go_roundw
          case rel =>
            exact ⟨j + 1, by omega, by go_num, .inr (by omega), hst, hB4.setCell (p := ⟨wo.heap.size, j, none⟩) (Nat.le_refl _) _⟩
          case measure => simp [intOf]; omega
        · have hfe := four_end l (4 * k) j (by rw [HL.out]; omega) hj
          have HFE := Lib.hid hfe
          have hB04 := Below.then_ hB hB4
          have hF04 := hF.below hB4
          have hz4 := hB4.size
          clear hfe hj0
          by_cases hj3 : j < 4
          · have hj4 : n ≤ 4 * k + j := by omega
            have hd1 : decide (4 * (k : Int) + (j : Int) < (n : Int)) = false := by simp; omega
            have hd2 : decide (4 * k + j < n) = false := by simp; omega
            clear hj2
            go_wp2_with fail
            refine (rGetWord_any _ 4 4 0 (four l (4 * k) j) _ hF4.sees (len_four _ _ _) (by omega) (by omega) _ _ _ HFE.out).mono ?_
            rintro e w1 ⟨rfl, rfl⟩
            have hx1 : wAt l (4 * k) < 4294967296 := wAt_lt _ _
            obtain ⟨x1, hx1e⟩ : ∃ x1 : UInt32, wAt l (4 * k) = x1.toNat := ⟨UInt32.ofNat (wAt l (4 * k)), (ofNat_toNat32 _ hx1).symm⟩
            have hst2 := words_take l k (by rw [HW.out]; exact hlt)
            rw [hx1e, UInt32.ofNat_toNat] at hst2
            have HST2 := Lib.hid hst2
            clear hst2
            rw [hx1e]
            have hba := below_alloc wr (.cells #[.int .u32 (x1.toNat : Int)] 22)
            have hF05 := hF04.below hba
            have hs5 := sees_one32E wr 22 #[.int .u32 (x1.toNat : Int)] x1 rfl
            have hB5 := Below.then_ hB04 hba
            clear hF4 hB4 hF04
            go_wp2_with (at_builtin; refine wpList_app32 rfl (.tmp 44) (.tmp 46) rfl A' (some ⟨wr.heap.size, 0, none⟩) k c' 1 1 ((words l).take k) [x1] w rfl rfl hF05 hs5 rfl (by omega) hB5 ?_; intro A2 c2 w5 hF6 hB6)
            rw [← HST2.out] at hF6
            go_roundw
            case rel => exact ⟨k + 1, c2, A2, by omega, by go_num, rfl, hF6, hB6⟩
            case measure => simp [intOf]; omega
          · obtain rfl : j = 4 := by omega
            clear hj2
            go_wp2_with fail
            refine (rGetWord_any _ 4 4 0 (four l (4 * k) 4) _ hF4.sees (len_four _ _ _) (by omega) (by omega) _ _ _ HFE.out).mono ?_
            rintro e w1 ⟨rfl, rfl⟩
            have hx1 : wAt l (4 * k) < 4294967296 := wAt_lt _ _
            obtain ⟨x1, hx1e⟩ : ∃ x1 : UInt32, wAt l (4 * k) = x1.toNat := ⟨UInt32.ofNat (wAt l (4 * k)), (ofNat_toNat32 _ hx1).symm⟩
            have hst2 := words_take l k (by rw [HW.out]; exact hlt)
            rw [hx1e, UInt32.ofNat_toNat] at hst2
            have HST2 := Lib.hid hst2
            clear hst2
            rw [hx1e]
            have hba := below_alloc wr (.cells #[.int .u32 (x1.toNat : Int)] 22)
            have hF05 := hF04.below hba
            have hs5 := sees_one32E wr 22 #[.int .u32 (x1.toNat : Int)] x1 rfl
            have hB5 := Below.then_ hB04 hba
            clear hF4 hB4 hF04
            go_wp2_with (at_builtin; refine wpList_app32 rfl (.tmp 44) (.tmp 46) rfl A' (some ⟨wr.heap.size, 0, none⟩) k c' 1 1 ((words l).take k) [x1] w rfl rfl hF05 hs5 rfl (by omega) hB5 ?_; intro A2 c2 w5 hF6 hB6)
            rw [← HST2.out] at hF6
            go_roundw
            case rel => exact ⟨k + 1, c2, A2, by omega, by go_num, rfl, hF6, hB6⟩
            case measure => simp [intOf]; omega
    · go_wp2_with fail
      go_ret
      have hk' : k = m := by omega
      subst hk'
      rw [List.take_of_length_le (by rw [HW.out]; omega)] at hF
      exact ⟨A', c', rfl, hF, hB⟩
end Go.Proofs.Ytpdfalgjmeagjaa

/-
  What a cell has, as the document's own answer of layer 7 looks at it.
-/
namespace Go.Proofs.Ytpdfalgjmeagjaa
open Go.RowKit
set_option linter.unusedVariables false
theorem sees_first {w : World} {B G off : Nat} {l : List UInt32} {x : UInt32} (h : Sees w B (some ⟨G, off, none⟩) (cw l)) (hx : l[0]? = some x) : w.cell? ⟨G, off, none⟩ = some (.int .u32 (x.toNat : Int)) := by
  have hp := (List.getElem?_eq_some_iff.1 hx).1
  obtain ⟨g, o, e, _, hc⟩ := h (by rw [List.length_map]; omega)
  obtain ⟨rfl, rfl⟩ : G = g ∧ off = o := by simpa using e
  exact hc 0 _ (by rw [List.getElem?_map, hx]; rfl)
theorem sees_at {w : World} {B G off k : Nat} {l : List UInt32} {x : UInt32} (h : Sees w B (some ⟨G, off, none⟩) (cw l)) (hx : l[k]? = some x) : w.cell? ⟨G, off + k, none⟩ = some (.int .u32 (x.toNat : Int)) := by
  have hp := (List.getElem?_eq_some_iff.1 hx).1
  obtain ⟨g, o, e, _, hc⟩ := h (by rw [List.length_map]; omega)
  obtain ⟨rfl, rfl⟩ : G = g ∧ off = o := by simpa using e
  exact hc k _ (by rw [List.getElem?_map, hx]; rfl)
section
variable {w : World}
set_option maxRecDepth 100000 in
theorem rWhole_any {g off c : Nat} {l : List UInt32} (hs : Sees w w.heap.size (some ⟨g, off, none⟩) (cw l)) (hl : l.length = 64) (bo : Bool) (hb : (secC l).isSome = bo) :
    Calls Try.prog 145 #[.slice (some ⟨g, off, none⟩) 64 c] w fun e w' => e = .returned (.bool bo) ∧ Below w.heap.size w w' := by
  match l, hl with
  | t :: n :: r, hl =>
  simp only [List.length_cons] at hl
  obtain ⟨z, hz⟩ : ∃ z, r[61]? = some z := ⟨_, List.getElem?_eq_getElem (by omega)⟩
  have c0 : w.cell? ⟨g, off, none⟩ = some (.int .u32 (t.toNat : Int)) := sees_first hs rfl
  have c1 : w.cell? ⟨g, off + 1, none⟩ = some (.int .u32 (n.toNat : Int)) := sees_at hs rfl
  have c63 : w.cell? ⟨g, off + 63, none⟩ = some (.int .u32 (z.toNat : Int)) := sees_at (k := 63) hs hz
  simp only [secC, hz, Option.some.injEq] at hb
  by_cases kz : z = 0
  · have ez : ((z.toNat : Int) == 0) = true := by rw [kz]; rfl
    by_cases kt : t.toNat ≤ 2147483648
    · have et : decide ((t.toNat : Int) ≤ 2147483648) = true := by simp; omega
      by_cases kn : n.toNat ≤ 244
      · have en : decide ((n.toNat : Int) ≤ 244) = true := by simp; omega
        obtain rfl : true = bo := by simpa [kz, kt, kn] using hb
        clear hb hs hl hz
        go_enter Try.func145, Try.ntmps145
        go_wp2_with fail
        go_ret
        exact ⟨rfl, Below.refl _ _⟩
      · have en : decide ((n.toNat : Int) ≤ 244) = false := by simp; omega
        obtain rfl : false = bo := by simpa [kz, kt, kn] using hb
        clear hb hs hl hz
        go_enter Try.func145, Try.ntmps145
        go_wp2_with fail
        go_ret
        exact ⟨rfl, Below.refl _ _⟩
    · have et : decide ((t.toNat : Int) ≤ 2147483648) = false := by simp; omega
      obtain rfl : false = bo := by simpa [kz, kt] using hb
      clear hb hs hl hz
      go_enter Try.func145, Try.ntmps145
      go_wp2_with fail
      go_ret
      exact ⟨rfl, Below.refl _ _⟩
  · have ez : ((z.toNat : Int) == 0) = false := by
      have : z.toNat ≠ 0 := fun e => kz (UInt32.toNat_inj.1 (by rw [e]; rfl))
      simp; omega
    obtain rfl : false = bo := by simpa [kz] using hb
    clear hb hs hl hz
    go_enter Try.func145, Try.ntmps145
    go_wp2_with fail
    go_ret
    exact ⟨rfl, Below.refl _ _⟩
end
end Go.Proofs.Ytpdfalgjmeagjaa

/-
  A region that draws its order: reads ahead of one operation that may do anything (a call that makes memory, most often), and reads behind it, in whatever order these come up: walked once, in the order of the text. No program is named here.
-/
namespace Go.Proofs.Ytpdfalgjmeagjaa
open Go.RowKit
set_option linter.unusedVariables false

section
variable {P : Program} {ops : Array Oper} {md : Region.Mode} {C : World → Prop}
/-- Whatever stands behind the operation n waits for one of those, from n on, that stand ahead of it. -/
def behindB (md : Region.Mode) (ops : Array Oper) (n : Nat) : Bool :=
  (List.range ops.size).all fun t => decide (t ≤ n) || (List.range t).any fun j => decide (n ≤ j) && Region.waitsFor md ops t j
def setN : Nat → Nat → Array Bool → Array Bool
  | 0, _, l => l
  | f + 1, k, l => setN f (k + 1) (l.setIfInBounds k true)
/-- The head in the order of the text; then the operation n alone is ready. -/
def headN (md : Region.Mode) (ops : Array Oper) : Nat → Nat → Array Bool → Bool
  | 0, k, listed => decide (Region.ready md ops listed = [k])
  | f + 1, k, listed => (Region.ready md ops listed).contains k && Region.free md ops listed k && headN md ops f (k + 1) (listed.setIfInBounds k true)
def qcallB (md : Region.Mode) (ops : Array Oper) (n : Nat) : Bool :=
  Region.noSelect ops && decide (n < ops.size) && Region.sinkB md ops n && behindB md ops n && headN md ops n 0 (Array.replicate ops.size false) &&
    Region.lexFrom md ops (ops.size - (n + 1)) (n + 1) (setN (n + 1) 0 (Array.replicate ops.size false))

/-- All orders of the head, from here on, come to the array T. -/
def wpHead (P : Program) (md : Region.Mode) (ops : Array Oper) (C : World → Prop) (n : Nat) (T : Array Bool) (L : Act → Prop) : Nat → Array Bool → Act → Prop
  | 0, listed, a => listed = T ∧ L a
  | f + 1, listed, a => Region.ready md ops listed ≠ [] ∧ ∀ i ∈ Region.ready md ops listed, i < n ∧ qOp P ops C i (wpHead P md ops C n T L f (listed.setIfInBounds i true)) a

theorem wpAny_of_head {n g : Nat} {T : Array Bool} {L : Act → Prop} {Q' : Exit → Act → World → Prop} (hL : ∀ a w, C w → L a → wpAny P md ops Q' g T a w) :
    ∀ (f : Nat) (listed : Array Bool) (a : Act) (w : World), C w → wpHead P md ops C n T L f listed a → wpAny P md ops Q' (f + g) listed a w
  | 0, listed, a, w, hw, h => by
    rw [Nat.zero_add, h.1]
    exact hL _ _ hw h.2
  | f + 1, listed, a, w, hw, h => by
    rw [show f + 1 + g = (f + g) + 1 by omega]
    exact ⟨fun h0 => absurd h0 h.1, fun i hi => wpOp_of_qOp hw (fun a' w' hw' h' => wpAny_of_head hL f _ a' w' hw' h') (h.2 i hi).2⟩

/-- While one of the head is not listed, nothing from n on is ready. -/
theorem behind_waits {n : Nat} {listed : Array Bool} (hs : Region.sinkB md ops n = true) (hb : behindB md ops n = true) (hn : n < ops.size) (inv : HeadInv md ops n listed) :
    ∀ (d i : Nat), n - i = d → i < n → listed.getD i true = false → ∀ t, n ≤ t → t ∉ Region.ready md ops listed := by
  intro d
  induction d using Nat.strongRecOn with
  | _ d ih =>
    intro i hd hi hun t ht hr
    obtain ⟨_, ot, hot, hall⟩ := mem_ready.1 hr
    have htlt : t < ops.size := (Array.getElem?_eq_some_iff.1 hot).1
    by_cases htn : t = n
    · obtain ⟨j, hj, hj2⟩ := List.any_eq_true.1 (List.all_eq_true.1 hs i (List.mem_range.2 hi))
      simp only [Bool.and_eq_true, decide_eq_true_eq] at hj2
      obtain ⟨oj, hoj, e, he, hbd, hon⟩ := Region.waitsFor_spec hj2.2
      have hjle : j ≤ n := by have := List.mem_range.1 hj; omega
      cases hl : listed.getD j false with
      | true =>
        have h2 := inv.closed j oj hoj hl e he hbd
        rw [hon, getD_both hun] at h2
        cases h2
      | false =>
        by_cases hjn : j = n
        · have e2 : oj = ot := Option.some.inj (hoj.symm.trans (by rw [hjn, ← htn]; exact hot))
          have h2 := hall e (by rw [← e2]; exact he) hbd
          rw [hon, getD_both hun] at h2
          cases h2
        · exact ih (n - j) (by omega) j rfl (by omega) (getD_in (by rw [inv.size]; omega) hl) t ht hr
    · have h1 := List.all_eq_true.1 hb t (List.mem_range.2 htlt)
      simp only [Bool.or_eq_true, decide_eq_true_eq] at h1
      rcases h1 with h1 | h1
      · omega
      · obtain ⟨j, hj, hj2⟩ := List.any_eq_true.1 h1
        simp only [Bool.and_eq_true, decide_eq_true_eq] at hj2
        obtain ⟨oj, hoj, e, he, hbd, hon⟩ := Region.waitsFor_spec hj2.2
        have e2 : oj = ot := Option.some.inj (hoj.symm.trans hot)
        have h2 := hall e (by rw [← e2]; exact he) hbd
        have h3 := inv.tail j hj2.1 (by have := List.mem_range.1 hj; omega)
        rw [hon, getD_both h3] at h2
        cases h2

theorem wpHead_first {n i : Nat} {oi : Oper} {v : Value} {T : Array Bool} {L : Act → Prop} (hi : ops[i]? = some oi) (hsel : ∀ (j : Nat) (o : Oper) cs b, ops[j]? = some o → o.op ≠ .select cs b)
    (hs : Region.sinkB md ops n = true) (hb : behindB md ops n = true) (hn : n < ops.size) (hin : i < n) (hT : ∀ j ∈ Region.ready md ops T, n ≤ j) :
    ∀ (f : Nat) (listed : Array Bool) (a : Act), HeadInv md ops n listed →
      (∀ j oj, ops[j]? = some oj → j ≠ i → listed.getD j true = false → (∀ e ∈ oj.after, Region.binds md e = true → e.on ≠ i) → oi.apart ops oj = true) →
      i ∈ Region.ready md ops listed → YieldsIn P ops C oi v a →
      wpHead P md ops C n T L f (listed.setIfInBounds i true) (a.put oi.dst v) → wpHead P md ops C n T L (f + 1) listed a := by
  intro f
  induction f with
  | zero =>
    intro listed a inv _ hr hy H
    have hun := (mem_ready.1 hr).1
    refine ⟨fun h => (by rw [h] at hr; cases hr), fun j hj => ?_⟩
    have hjn : j < n := by
      rcases Nat.lt_or_ge j n with h | h
      · exact h
      · exact absurd hj (behind_waits hs hb hn inv _ i rfl hin hun j h)
    refine ⟨hjn, ?_⟩
    by_cases hji : j = i
    · subst hji
      exact hy.qOp hi H
    · have h1 := hT j (by rw [← H.1]; exact ready_mono hj hji)
      omega
  | succ f ih =>
    intro listed a inv hfree hr hy H
    have hun := (mem_ready.1 hr).1
    refine ⟨fun h => (by rw [h] at hr; cases hr), fun j hj => ?_⟩
    have hjn : j < n := by
      rcases Nat.lt_or_ge j n with h | h
      · exact h
      · exact absurd hj (behind_waits hs hb hn inv _ i rfl hin hun j h)
    refine ⟨hjn, ?_⟩
    by_cases hji : j = i
    · subst hji
      exact hy.qOp hi H
    · have h1 := (H.2 j (ready_mono hj hji)).2
      obtain ⟨hjun, oj, hoj, hall⟩ := mem_ready.1 hj
      have hnot : ∀ e ∈ oj.after, Region.binds md e = true → e.on ≠ i := fun e he hbd heq => by
        have h1 := hall e he hbd
        rw [heq, getD_both hun] at h1
        cases h1
      refine qOp_mono (fun a' h3 => ih (listed.setIfInBounds j true) a' (inv.set hj hjn) (fun k ok hk hki hku hno => ?_) (ready_mono hr (Ne.symm hji)) h3.1 ?_) (qOp_put hoj (hfree j oj hoj hji hjun hnot) (fun cs b => hsel i oi cs b hi) (fun cs b => hsel j oj cs b hoj) hy h1)
      · refine hfree k ok hk hki ?_ hno
        by_cases hjk : j = k
        · subst hjk
          exact hjun
        · rw [getD_set_ne true hjk] at hku
          exact hku
      · have h5 := h3.2
        rw [Array.setIfInBounds_comm _ _ hji]
        exact h5
theorem wpHead_lex {n : Nat} {T : Array Bool} {Lq : Act → Prop} (hsel : Region.noSelect ops = true) (hs : Region.sinkB md ops n = true) (hb : behindB md ops n = true) (hn : n < ops.size) (hT : Region.ready md ops T = [n]) :
    ∀ (l : List Oper) (k : Nat) (listed : Array Bool) (a : Act), (∀ j, j < l.length → l[j]? = ops[k + j]?) → k + l.length = n → HeadInv md ops n listed → setN l.length k listed = T →
    headN md ops l.length k listed = true → wpQuiet P ops C Lq l a → wpHead P md ops C n T Lq l.length listed a
  | [], k, listed, a, _, hk, _, hT', hB, h => ⟨hT', h⟩
  | o :: l, k, listed, a, hl, hk, inv, hT', hB, h => by
    have h0 : ops[k]? = some o := by simpa using (hl 0 (by simp)).symm
    simp only [List.length_cons, headN, Bool.and_eq_true] at hB
    obtain ⟨⟨hr, hf⟩, hB'⟩ := hB
    have hkn : k < n := by simp only [List.length_cons] at hk; omega
    have hr' : k ∈ Region.ready md ops listed := by simpa using hr
    have hst : qOp P ops C k (wpQuiet P ops C Lq l) a := by unfold qOp; simp only [h0]; exact h
    obtain ⟨v, hy, hK⟩ := yieldsIn_of_qOp h0 hst
    exact wpHead_first h0 (Region.noSelect_spec hsel) hs hb hn hkn (fun j hj => by rw [hT] at hj; simp at hj; omega) l.length listed a inv (Region.free_spec h0 hf) hr' hy
      (wpHead_lex hsel hs hb hn hT l (k + 1) _ _ (fun j hj => by have := hl (j + 1) (by simp; omega); simpa [Nat.add_assoc, Nat.add_comm 1 j] using this) (by simp only [List.length_cons] at hk; omega) (inv.set hr' hkn) hT' hB' hK)
/-- What stands behind a normal end is another thing. -/
def onEnd (Q : Exit → Act → World → Prop) (R : Act → World → Prop) : Exit → Act → World → Prop
  | .normal => R
  | e => Q e
theorem wp_onEnd {Q : Exit → Act → World → Prop} {R K : Act → World → Prop} {o : Oper} {a : Act} {w : World} (hK : ∀ a w, R a w → K a w) (h : o.wp P a w R (onEnd Q R)) : o.wp P a w K Q := by
  unfold Oper.wp at *
  generalize (execOp a.eval o).run P w = r at *
  cases r with
  | ok n w' =>
    cases n <;> simp only [Oper.upon] at h ⊢
    case enter f args =>
      refine h.mono ?_
      intro e w'' he
      cases e with
      | returned v => exact hK _ _ he
      | panicked c => exact he
      | outgrown => exact he
    case row row args => exact h.mono fun v w'' hv => hK _ _ hv
    all_goals exact hK _ _ h
  | halt h' w' =>
    cases h' <;> first | exact h | cases h
theorem wpAny_one {Q : Exit → Act → World → Prop} {R : Act → World → Prop} {k g : Nat} {o : Oper} {listed : Array Bool} {a : Act} {w : World} (h0 : ops[k]? = some o) (hr : Region.ready md ops listed = [k])
    (h : wpList P ops (onEnd Q R) [o] a w) (hq : ∀ a' w', R a' w' → wpAny P md ops Q g (listed.setIfInBounds k true) a' w') : wpAny P md ops Q (g + 1) listed a w := by
  refine ⟨fun h1 => (by rw [hr] at h1; cases h1), fun i hi => ?_⟩
  rw [hr] at hi
  obtain rfl : i = k := by simpa using hi
  unfold wpOp
  simp only [h0]
  unfold wpList at h
  split at h
  · rename_i hw
    rw [if_pos hw]
    rcases h with h | h
    · exact .inl (wp_onEnd hq h)
    · exact .inr h
  · rename_i hw
    rw [if_neg hw]
    exact hq _ _ h
/-- Reads, the operation n, reads. -/
theorem region_qcall {id : Nat} {Q : Exit → Act → World → Prop} {a : Act} {w : World} {l : List Oper} (n : Nat) (hm : P.follows .mixedOrders = true) (hB : qcallB .any l.toArray n = true)
    (h : wpQuiet P l.toArray (fun w' => ∃ m, w' = w.drewN m) (fun a1 => ∀ w1, (∃ m, w1 = w.drewN m) → wpList P l.toArray (onEnd Q fun a2 w2 => wpQuiet P l.toArray (fun w' => ∃ m, w' = w2.drewN m) (fun a3 => ∀ w3, (∃ m, w3 = w2.drewN m) → Q .normal a3 w3) (l.drop (n + 1)) a2) ((l.drop n).take 1) a1 w1) (l.take n) a) : (Code.region id l.toArray true).wp P Q a w := by
  simp only [qcallB, Bool.and_eq_true, decide_eq_true_eq] at hB
  obtain ⟨⟨⟨⟨⟨hsel, hn⟩, hs⟩, hb⟩, hh⟩, hr⟩ := hB
  have hn' : n < l.length := by simpa using hn
  have htl : (l.take n).length = n := by simp; omega
  have inv0 : HeadInv .any l.toArray n (Array.replicate l.toArray.size false) :=
    ⟨by simp, fun j oj _ hl => (by rw [getD_replicate_false] at hl; cases hl), fun t _ ht => getD_in (by simpa using ht) (getD_replicate_false _ _)⟩
  have hT : ∀ (f k : Nat) (x : Array Bool), headN .any l.toArray f k x = true → Region.ready .any l.toArray (setN f k x) = [k + f] := by
    intro f
    induction f with
    | zero => intro k x hx; simpa [headN, setN] using hx
    | succ f ih =>
      intro k x hx
      simp only [headN, Bool.and_eq_true] at hx
      have := ih (k + 1) _ hx.2
      rwa [show k + 1 + f = k + (f + 1) from by omega] at this
  have hTn := hT n 0 _ hh
  rw [Nat.zero_add] at hTn
  have H := wpHead_lex (md := .any) (C := fun w' => ∃ m, w' = w.drewN m) hsel hs hb hn hTn (l.take n) 0 _ a (fun j hj => by
    have hj' : j < n := by rw [htl] at hj; exact hj
    simp [hj']) (by simpa using htl) inv0 (by rw [htl]) (by rw [htl]; exact hh) h
  have hset : ∀ (f k : Nat) (x : Array Bool), (setN f k x).setIfInBounds (k + f) true = setN (f + 1) k x := by
    intro f
    induction f with
    | zero => intro k x; rfl
    | succ f ih =>
      intro k x
      have := ih (k + 1) (x.setIfInBounds k true)
      rw [show k + 1 + f = k + (f + 1) from by omega] at this
      exact this
  have hsn := hset n 0 (Array.replicate l.toArray.size false)
  rw [Nat.zero_add] at hsn
  obtain ⟨o, hd⟩ : ∃ o, l[n]? = some o := ⟨_, List.getElem?_eq_getElem hn'⟩
  have hd1 : (l.drop n).take 1 = [o] := by rw [List.drop_eq_getElem_cons hn', (List.getElem?_eq_some_iff.1 hd).2]; rfl
  refine wp_region_any hm ?_
  have := wpAny_of_head (Q' := Q) (g := l.toArray.size - (n + 1) + 1) (fun a' w' hw' hL => by
    have h1 := hL w' hw'
    rw [hd1] at h1
    refine wpAny_one (by simpa using hd) hTn h1 fun a2 w2 h2 => ?_
    rw [hsn]
    have h3 := wpAny_of_quiet (P := P) (md := .any) (ops := l.toArray) (C := fun w' => ∃ m, w' = w2.drewN m) (Q := fun a3 => ∀ w3, (∃ m, w3 = w2.drewN m) → Q .normal a3 w3) (Q' := Q) (fun a3 w3 hw3 hq => hq w3 hw3) _ _ _ w2 ⟨0, by cases w2; rfl⟩ (wpAnyQ_lex hsel (l.drop (n + 1)) (n + 1) _ a2 (fun j => by simp [List.getElem?_drop]) (by rw [List.length_drop]; simpa using hr) h2)
    rw [List.length_drop] at h3
    simpa using h3) _ _ _ _ ⟨1, rfl⟩ H
  rw [htl, show n + (l.toArray.size - (n + 1) + 1) = l.toArray.size by omega] at this
  exact this
end
end Go.Proofs.Ytpdfalgjmeagjaa

/-
  A drawn region each of whose operations has one fact, whatever order they come up in, to its very end; edges that bind in no order of the text are not asked to go back. No program is named here.
-/
namespace Go.Proofs.Ytpdfalgjmeagjaa
open Go.RowKit
set_option linter.unusedVariables false

/-- Each slot is written once, within the frame, and each operation waits for earlier ones alone. -/
def slotsE (ops : Array Oper) (n : Nat) : Bool :=
  (List.range ops.size).all fun i => match ops[i]? with
    | none => true
    | some o => (match o.dst with | none => true | some t => decide (t < n) && (List.range i).all fun j => ((ops[j]?).bind (·.dst)) != some t) && o.after.all fun e => !Region.binds .any e || decide (e.on < i)

section
variable {P : Program} {ops : Array Oper} {Q : Exit → Act → World → Prop} {pr : Nat → Value → World → Prop} {a0 : Act} {w0 : World}

theorem slotsE_at {n i : Nat} {o : Oper} (h : slotsE ops n = true) (hi : ops[i]? = some o) :
    (∀ t, o.dst = some t → t < n ∧ ∀ j oj, j < i → ops[j]? = some oj → oj.dst ≠ some t) ∧ ∀ e ∈ o.after, Region.binds .any e = true → e.on < i := by
  have hlt : i < ops.size := (Array.getElem?_eq_some_iff.1 hi).1
  have h1 := List.all_eq_true.1 h i (List.mem_range.2 hlt)
  simp only [hi, Bool.and_eq_true] at h1
  refine ⟨fun t ht => ?_, fun e he hb => ?_⟩
  · have h2 := h1.1
    simp only [ht, Bool.and_eq_true, decide_eq_true_eq] at h2
    refine ⟨h2.1, fun j oj hj hoj hd => ?_⟩
    have h3 := List.all_eq_true.1 h2.2 j (List.mem_range.2 hj)
    simp [hoj, hd] at h3
  · have h2 := h1.2
    rw [Array.all_eq_true_iff_forall_mem] at h2
    simpa [hb] using h2 e he
theorem slotsE_ne {n i j : Nat} {o oj : Oper} {t : Tmp} (h : slotsE ops n = true) (hi : ops[i]? = some o) (hj : ops[j]? = some oj) (hne : i ≠ j) (ht : o.dst = some t) : oj.dst ≠ some t := by
  intro htj
  rcases Nat.lt_or_gt_of_ne hne with hlt | hgt
  · exact ((slotsE_at h hj).1 t htj).2 i o hlt hi ht
  · exact ((slotsE_at h hi).1 t ht).2 j oj hgt hj htj

theorem Kept.putB {listed : Array Bool} {a : Act} {w w' : World} {i : Nat} {o : Oper} {v : Value} (hs : slotsE ops a0.tmps.size = true) (stab : ∀ j v w w', Below w.heap.size w w' → pr j v w → pr j v w')
    (h : Kept ops pr a0 w0 listed a w) (hi : ops[i]? = some o) (hv : pr i v w') (hb : Below w.heap.size w w') : Kept ops pr a0 w0 (listed.setIfInBounds i true) (a.put o.dst v) w' := by
  refine ⟨by simpa using h.lsize, Below.then_ h.below hb, ?_, ?_, fun t ht => ?_, fun j oj t hj hd hl => ?_⟩
  · cases hd : o.dst <;> simpa [Act.put, hd] using h.defers
  · cases hd : o.dst <;> simpa [Act.put, hd] using h.size
  · have hlt : i < listed.size := by rw [h.lsize]; exact (Array.getElem?_eq_some_iff.1 hi).1
    have hne := ht i o hi (by simp [hlt])
    have ht' : ∀ (j : Nat) (oj : Oper), ops[j]? = some oj → listed.getD j false = true → oj.dst ≠ some t := fun j oj hj hlj => ht j oj hj (by
      by_cases e : i = j
      · subst e; simp [hlt]
      · have hjl : j < listed.size := by rw [h.lsize]; exact (Array.getElem?_eq_some_iff.1 hj).1
        simpa [Array.getElem?_setIfInBounds, e] using hlj)
    cases hd : o.dst with
    | none => simpa [Act.put] using h.old t ht'
    | some d =>
      have : d ≠ t := fun e => hne (by rw [hd, e])
      simpa [Act.put, Array.getElem?_setIfInBounds, this] using h.old t ht'
  · by_cases e : j = i
    · subst e
      obtain rfl : oj = o := Option.some.inj (hj.symm.trans hi)
      have hlt := ((slotsE_at hs hi).1 t hd).1
      refine ⟨v, ?_, hv⟩
      simp [Act.put, hd, h.size, hlt]
    · obtain ⟨u, hu, hp⟩ := h.new j oj t hj hd ((getD_listed hl).resolve_left e)
      refine ⟨u, ?_, stab j u w w' hb hp⟩
      cases hd' : o.dst with
      | none => simpa [Act.put] using hu
      | some d =>
        have : d ≠ t := fun e' => slotsE_ne hs hj hi e hd (by rw [hd', e'])
        simpa [Act.put, Array.getElem?_setIfInBounds, this] using hu

theorem wpAny_keptB (hs : slotsE ops a0.tmps.size = true) (stab : ∀ j v w w', Below w.heap.size w w' → pr j v w → pr j v w')
    (step : ∀ i o, ops[i]? = some o → ∀ listed a w, Kept ops pr a0 w0 listed a w → (∀ e ∈ o.after, Region.binds .any e = true → listed.getD e.on false = true) → StepOk P ops Q pr i o a w)
    (fin : ∀ listed a w, Kept ops pr a0 w0 listed a w → (∀ j, j < ops.size → listed.getD j false = true) → Q .normal a w) :
    ∀ (fuel : Nat) (listed : Array Bool) (a : Act) (w : World), Kept ops pr a0 w0 listed a w → listed.toList.count false ≤ fuel → wpAny P .any ops Q fuel listed a w := by
  have done : ∀ listed a w, Kept ops pr a0 w0 listed a w → Region.ready .any ops listed = [] → Q .normal a w := by
    intro listed a w hk hr
    refine fin listed a w hk fun j => ?_
    induction j using Nat.strongRecOn with
    | _ j ih =>
      intro hj
      have hjl : j < listed.size := by rw [hk.lsize]; exact hj
      cases hl : listed.getD j false
      · exfalso
        have hl' : listed.getD j true = false := by simp [hjl] at hl ⊢; exact hl
        have hm : j ∈ Region.ready .any ops listed := mem_ready.2 ⟨hl', ops[j], Array.getElem?_eq_getElem hj, fun e he hb => by
          have hon := (slotsE_at hs (Array.getElem?_eq_getElem hj)).2 e he hb
          exact ih e.on hon (by omega)⟩
        rw [hr] at hm
        cases hm
      · rfl
  intro fuel
  induction fuel with
  | zero =>
    intro listed a w hk hc
    have hr : Region.ready .any ops listed = [] := by
      rw [List.eq_nil_iff_forall_not_mem]
      intro i hi
      have h0 := (mem_ready.1 hi).1
      have hlt : i < listed.size := by
        rcases Nat.lt_or_ge i listed.size with h | h
        · exact h
        · simp [Array.getElem?_eq_none h] at h0
      have hmem : false ∈ listed.toList := by
        simp [hlt] at h0
        rw [← h0]
        simp
      have := List.count_pos_iff.2 hmem
      omega
    exact ⟨hr, done listed a w hk hr⟩
  | succ fuel ih =>
    intro listed a w hk hc
    refine ⟨done listed a w hk, fun i hi => ?_⟩
    obtain ⟨h0, o, ho, hdep⟩ := mem_ready.1 hi
    have hlt : i < listed.size := by rw [hk.lsize]; exact (Array.getElem?_eq_some_iff.1 ho).1
    have hcount : (listed.setIfInBounds i true).toList.count false ≤ fuel := by
      rw [Array.toList_setIfInBounds, List.count_set (by simpa using hlt)]
      have hf : listed.toList[i]'(by simpa using hlt) = false := by simpa [hlt] using h0
      have hp : 0 < listed.toList.count false := List.count_pos_iff.2 (by rw [← hf]; exact List.getElem_mem _)
      rw [hf]
      simp only [beq_self_eq_true, if_true]
      show _ - 1 + 0 ≤ fuel
      omega
    have hst := step i o ho listed a w hk hdep
    unfold StepOk at hst
    unfold wpOp
    simp only [ho]
    split
    · rename_i hw
      rw [if_pos hw] at hst
      refine .inl (Oper.wp_mono ?_ hst)
      rintro a' w' ⟨v, rfl, hv, hb⟩
      exact ih _ _ _ (hk.putB hs stab ho hv hb) hcount
    · rename_i hw
      rw [if_neg hw] at hst
      exact ih _ _ _ (hk.putB hs stab ho hst (Below.refl _ _)) hcount

theorem region_keptB {id : Nat} {w : World} (pr : Nat → Value → World → Prop) (hm : P.follows .mixedOrders = true) (hs : slotsE ops a0.tmps.size = true) (stab : ∀ j v w w', Below w.heap.size w w' → pr j v w → pr j v w')
    (step : ∀ w0, Below w.heap.size w w0 → ∀ i o, ops[i]? = some o → ∀ listed a w', Kept ops pr a0 w0 listed a w' → (∀ e ∈ o.after, Region.binds .any e = true → listed.getD e.on false = true) → StepOk P ops Q pr i o a w')
    (fin : ∀ w0, Below w.heap.size w w0 → ∀ listed a w', Kept ops pr a0 w0 listed a w' → (∀ j, j < ops.size → listed.getD j false = true) → Q .normal a w') : (Code.region id ops true).wp P Q a0 w := by
  refine wp_region_any hm ?_
  have hb : Below w.heap.size w { w with drawn := w.drawn + 1 } := ⟨rfl, rfl, rfl, Nat.le_refl _, fun _ _ => rfl⟩
  refine wpAny_keptB hs stab (step _ hb) (fin _ hb) ops.size _ a0 _ ⟨by simp, Below.refl _ _, rfl, rfl, fun _ _ => rfl, fun j o t _ _ hl => ?_⟩ ?_
  · have h0 : (Array.replicate ops.size false).getD j false = false := by
      rcases Nat.lt_or_ge j ops.size with h | h <;> simp [h]
    rw [h0] at hl
    cases hl
  · simp
end

theorem region_all_end {P : Program} {Q : Exit → Act → World → Prop} {a0 : Act} {id : Nat} {w : World} {l : List Oper} (pr : Nat → Value → World → Prop) (hm : P.follows .mixedOrders = true) (hs : slotsE l.toArray a0.tmps.size = true) (stab : ∀ j v w w', Below w.heap.size w w' → pr j v w → pr j v w')
    (step : ∀ w0, Below w.heap.size w w0 → AllSteps (fun i o => ∀ listed a w', Kept l.toArray pr a0 w0 listed a w' → (∀ e ∈ o.after, Region.binds .any e = true → listed.getD e.on false = true) → StepOk P l.toArray Q pr i o a w') 0 l)
    (fin : ∀ a w', Below w.heap.size w w' → PutsTo pr w' 0 l a0 a → Q .normal a w') : (Code.region id l.toArray true).wp P Q a0 w := by
  refine region_keptB pr hm hs stab (fun w0 hb i o hi => by
    have := allSteps_get l 0 (step w0 hb) i o (by simpa using hi)
    rwa [Nat.zero_add] at this) fun w0 hb listed a w' hk hall => fin a w' (Below.then_ hb hk.below) ?_
  have hsz := hk.lsize
  have h := hk.puts l.length (fun j hj => hall j (by simpa using hj)) (fun j hj => ?_)
  · rwa [List.take_length] at h
  · rw [Array.getD_eq_getD_getElem?, Array.getElem?_eq_none (by rw [hsz]; simpa using hj)]
    rfl
end Go.Proofs.Ytpdfalgjmeagjaa
