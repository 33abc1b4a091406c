/-
  What the document's own greater and times answer (layer 2).
-/
import Derived.Test.YtmkpopfaaebgfaaNumDigs
import Derived.Test.YtmkpopfaaebgfaaShaLeaf
namespace Go.Proofs.Ytmkpopfaaebgfaa
open Go.RowKit
set_option linter.unusedVariables false

theorem gt_digit (a b : List UInt32) (ha : Small a) (hb : Small b) (k : Nat) (h : dv (a.drop (k + 1)) = dv (b.drop (k + 1))) (hne : dg a k ≠ dg b k) : decide (dv b < dv a) = decide (dg b k < dg a k) := by
  have e1 := dv_drop a k
  have e2 := dv_drop b k
  rcases Nat.lt_or_ge (dg b k) (dg a k) with h1 | h1
  · rw [decide_eq_true h1, decide_eq_true (dv_gt a b ha hb k (by omega))]
  · have h2 := dv_gt b a hb ha k (by omega)
    rw [decide_eq_false (by omega), decide_eq_false (by omega)]
set_option maxHeartbeats 2000000 in
set_option maxRecDepth 100000 in
theorem rgreater_any (A B : Option Addr) (n c m d : Nat) (a b : List UInt32) (w : World) (hs : Sees w w.heap.size A (cw a)) (ht : Sees w w.heap.size B (cw b)) (hn : a.length = n) (hm : b.length = m) (ha : Small a) (hb : Small b) (hn1 : n ≤ 100) (hm1 : m ≤ 100) (r : Bool) (hr : decide (dv b < dv a) = r) :
    Calls Try.prog 158 #[.slice A n c, .slice B m d] w fun e w' => e = .returned (.bool r) ∧ w = w' := by
  have HN := Lib.hid hn
  have HM := Lib.hid hm
  have HA := Lib.hid ha
  have HB := Lib.hid hb
  have HR := Lib.hid hr
  clear hn hm ha hb hr
  by_cases hnm : n < m
  · have g1 : decide ((n : Int) < (m : Int)) = true := by simp; omega
    go_enter Try.func158, Try.ntmps158
    go_wp2_with fail
    go_loopw [6] (fun i wr => ∃ j : Nat, j ≤ m ∧ i = .int .i64 ((j : Int) - 1) ∧ Hid (dv (a.drop j) = dv (b.drop j)) ∧ w = wr) (fun i _ => (intOf i + 1).toNat)
    case atStart =>
      refine ⟨m, Nat.le_refl _, rfl, Lib.hid ?_, rfl⟩
      rw [List.drop_of_length_le (by rw [HN.out]; omega), List.drop_of_length_le (by rw [HM.out]; omega)]
    case round =>
      obtain ⟨j, hj, rfl, HD, rfl⟩ := hrel
      cases j with
      | zero =>
        have e := HD.out
        rw [List.drop_zero, List.drop_zero] at e
        obtain rfl : r = false := by rw [← HR.out]; exact decide_eq_false (by omega)
        clear e
        go_wp2_with fail
        go_ret
        exact ⟨rfl, rfl⟩
      | succ k =>
        have e0 : ((k + 1 : Nat) : Int) - 1 = (k : Int) := by omega
        rw [e0]
        clear e0
        go_wp2_with fail
        refine (rdigit_any A n c k a w hs HN.out (by omega)).mono ?_
        rintro e w1 ⟨rfl, rfl⟩
        go_wp2_with fail
        refine (rdigit_any B m d k b w ht HM.out (by omega)).mono ?_
        rintro e w1 ⟨rfl, rfl⟩
        by_cases hxy : dg a k = dg b k
        · have q1 : ((dg a k : Int) != (dg b k : Int)) = false := by rw [hxy]; simp
          have HD2 : Hid (dv (a.drop k) = dv (b.drop k)) := Lib.hid (by rw [dv_drop, dv_drop b k, hxy, HD.out])
          generalize dg a k = x at *
          generalize dg b k = y at *
          subst hxy
          go_wp2_with fail
          go_roundw
          case rel => exact ⟨k, by omega, rfl, HD2, trivial⟩
          case measure => simp [intOf]
        · have q1 : ((dg a k : Int) != (dg b k : Int)) = true := by simp; omega
          have hg := gt_digit a b HA.out HB.out k HD.out hxy
          rw [HR.out] at hg
          have HXY := Lib.hid hxy
          clear hxy
          go_wp2_with fail
          refine (rdigit_any A n c k a w hs HN.out (by omega)).mono ?_
          rintro e w1 ⟨rfl, rfl⟩
          go_wp2_with fail
          refine (rdigit_any B m d k b w ht HM.out (by omega)).mono ?_
          rintro e w1 ⟨rfl, rfl⟩
          go_wp2_with fail
          go_ret
          refine ⟨?_, rfl⟩
          rw [hg]
          simp
  · have g1 : decide ((n : Int) < (m : Int)) = false := by simp; omega
    go_enter Try.func158, Try.ntmps158
    go_wp2_with fail
    go_loopw [6] (fun i wr => ∃ j : Nat, j ≤ n ∧ i = .int .i64 ((j : Int) - 1) ∧ Hid (dv (a.drop j) = dv (b.drop j)) ∧ w = wr) (fun i _ => (intOf i + 1).toNat)
    case atStart =>
      refine ⟨n, Nat.le_refl _, rfl, Lib.hid ?_, rfl⟩
      rw [List.drop_of_length_le (by rw [HN.out]; omega), List.drop_of_length_le (by rw [HM.out]; omega)]
    case round =>
      obtain ⟨j, hj, rfl, HD, rfl⟩ := hrel
      cases j with
      | zero =>
        have e := HD.out
        rw [List.drop_zero, List.drop_zero] at e
        obtain rfl : r = false := by rw [← HR.out]; exact decide_eq_false (by omega)
        clear e
        go_wp2_with fail
        go_ret
        exact ⟨rfl, rfl⟩
      | succ k =>
        have e0 : ((k + 1 : Nat) : Int) - 1 = (k : Int) := by omega
        rw [e0]
        clear e0
        go_wp2_with fail
        refine (rdigit_any A n c k a w hs HN.out (by omega)).mono ?_
        rintro e w1 ⟨rfl, rfl⟩
        go_wp2_with fail
        refine (rdigit_any B m d k b w ht HM.out (by omega)).mono ?_
        rintro e w1 ⟨rfl, rfl⟩
        by_cases hxy : dg a k = dg b k
        · have q1 : ((dg a k : Int) != (dg b k : Int)) = false := by rw [hxy]; simp
          have HD2 : Hid (dv (a.drop k) = dv (b.drop k)) := Lib.hid (by rw [dv_drop, dv_drop b k, hxy, HD.out])
          generalize dg a k = x at *
          generalize dg b k = y at *
          subst hxy
          go_wp2_with fail
          go_roundw
          case rel => exact ⟨k, by omega, rfl, HD2, trivial⟩
          case measure => simp [intOf]
        · have q1 : ((dg a k : Int) != (dg b k : Int)) = true := by simp; omega
          have hg := gt_digit a b HA.out HB.out k HD.out hxy
          rw [HR.out] at hg
          have HXY := Lib.hid hxy
          clear hxy
          go_wp2_with fail
          refine (rdigit_any A n c k a w hs HN.out (by omega)).mono ?_
          rintro e w1 ⟨rfl, rfl⟩
          go_wp2_with fail
          refine (rdigit_any B m d k b w ht HM.out (by omega)).mono ?_
          rintro e w1 ⟨rfl, rfl⟩
          go_wp2_with fail
          go_ret
          refine ⟨?_, rfl⟩
          rw [hg]
          simp

theorem dg_set_same (l : List UInt32) (j : Nat) (v : UInt32) (h : j < l.length) : dg (l.set j v) j = v.toNat := dg_get (by rw [List.getElem?_set_self h])
theorem dg_set_ne (l : List UInt32) (j q : Nat) (v : UInt32) (h : j ≠ q) : dg (l.set j v) q = dg l q := by
  unfold dg
  rw [List.getD_eq_getElem?_getD, List.getD_eq_getElem?_getD, List.getElem?_set_ne h]
/-- One digit of a product. -/
theorem times_step (o : List UInt32) (j u cy p v cy' T : Nat) (x : UInt32) (hj : j < o.length) (hu : dg o j = u) (hx : x.toNat = v) (hv : (u + cy + p) % 65536 = v) (hc : (u + cy + p) / 65536 = cy') (h : dv o + cy * 65536 ^ j = T) : dv (o.set j x) + cy' * 65536 ^ (j + 1) = T + p * 65536 ^ j := by
  have h1 := dv_set o j x hj
  rw [hu, hx] at h1
  have h2 : u + cy + p = v + 65536 * cy' := by omega
  have h3 : 65536 ^ j * (u + cy + p) = 65536 ^ j * v + cy' * 65536 ^ (j + 1) := by
    rw [h2, Nat.mul_add, Nat.pow_succ, ← Nat.mul_assoc, Nat.mul_comm cy']
  rw [Nat.mul_add, Nat.mul_add] at h3
  rw [Nat.mul_comm p, Nat.mul_comm cy] at *
  omega
theorem times_take (V b : List UInt32) (D x q k y : Nat) (hk : k < b.length) (hy : dg b k = y) : D + x * 65536 ^ q * dv (b.take k) + x * y * 65536 ^ (q + k) = D + x * 65536 ^ q * dv (b.take (k + 1)) := by
  rw [dv_take_succ b k hk, hy, Nat.mul_add, Nat.pow_add]
  have : x * y * (65536 ^ q * 65536 ^ k) = x * 65536 ^ q * (65536 ^ k * y) := by
    rw [Nat.mul_assoc, Nat.mul_assoc]
    congr 1
    rw [← Nat.mul_assoc, Nat.mul_comm y, Nat.mul_assoc, Nat.mul_comm y]
  omega
theorem times_row (a b : List UInt32) (q x : Nat) (hq : q < a.length) (hx : dg a q = x) : dv (a.take q) * dv b + x * 65536 ^ q * dv b = dv (a.take (q + 1)) * dv b := by
  rw [dv_take_succ a q hq, hx, Nat.add_mul, Nat.mul_comm x]
set_option maxHeartbeats 4000000 in
set_option maxRecDepth 100000 in
theorem rtimes_any (A B : Option Addr) (n c m d : Nat) (a b : List UInt32) (w : World) (hs : Sees w w.heap.size A (cw a)) (ht : Sees w w.heap.size B (cw b)) (hn : a.length = n) (hm : b.length = m) (ha : Small a) (hb : Small b) (hn1 : n ≤ 20) (hm1 : m ≤ 20) (V : Nat) (hV : dv a * dv b = V) :
    Calls Try.prog 157 #[.slice A n c, .slice B m d] w fun e w' => ∃ v, e = .returned v ∧ Digs w V (n + m + 1) w' v ∧ Below w.heap.size w w' := by
  have HN := Lib.hid hn
  have HM := Lib.hid hm
  have HA := Lib.hid ha
  have HB := Lib.hid hb
  have HV := Lib.hid hV
  clear hn hm ha hb hV
  obtain ⟨N, hN⟩ : ∃ N, n + m + 1 = N := ⟨_, rfl⟩
  have hN2 : N ≤ 41 := by omega
  have eN : (n : Int) + (m : Int) + 1 = (N : Int) := by omega
  go_enter Try.func157, Try.ntmps157
  go_wp2_with (with_reducible refine wpList_mk32 (o := ⟨some 16, _, _, _, _, _⟩) rfl (.tmp 15) rfl _ N rfl (by omega) (by omega) ?_; intro w1 hF1 hB1)
  obtain ⟨g, hg⟩ : ∃ g, w.heap.size = g := ⟨_, rfl⟩
  rw [hg] at hF1
  have hgw : w.heap.size ≤ g := by omega
  have hgl := hF1.lt_size
  go_loopw [6] (fun i wr => ∃ (q : Nat) (o : List UInt32), q ≤ n ∧ i = .int .i64 (q : Int) ∧ Fresh g 31 wr (some ⟨g, 0, none⟩) N N (cw o) ∧ Hid (Small o) ∧ Hid (dv o = dv (a.take q) * dv b) ∧ Hid (∀ j, q + m ≤ j → dg o j = 0) ∧ Below g w wr) (fun i _ => n - (intOf i).toNat)
  case atStart =>
    refine ⟨0, List.replicate N 0, by omega, rfl, ?_, Lib.hid (small_zeros N), Lib.hid (by rw [dv_zeros, List.take_zero]; simp [dv]), Lib.hid (fun j _ => ?_), by rw [← hg]; exact hB1⟩
    · simpa using hF1
    · unfold dg
      rw [List.getD_eq_getElem?_getD, List.getElem?_replicate]
      split <;> rfl
  case round =>
    obtain ⟨q, o0, hq, rfl, hF0, HS0, HD0, HZ0, hB0⟩ := hrel
    by_cases hqn : q < n
    · have hA0 := hs.below (hB0.mono (by omega))
      obtain ⟨ga, oa, rfl, hga, x, HX, hx, hcx⟩ := hA0.word HN.out hqn
      have hai : dg a q = x.toNat := dg_get HX.out
      have hxs : x.toNat < 65536 := HA.out x (List.mem_of_getElem? HX.out)
      obtain ⟨wo, hwo⟩ : ∃ wo, wo = wr := ⟨_, rfl⟩
      rw [← hwo] at hF0 hB0 hcx hA0 ⊢
      clear hwo
      have HT : Hid (dv a = dv a) := Lib.hid rfl
      have hd0 : decide ((q : Int) < (n : Int)) = true := by simp; omega
      have hd00 : decide (q < n) = true := by simp; omega
      go_wp2_with fail
      go_loopw [7, 8] (fun cv kv wr => ∃ (k cy : Nat) (o : List UInt32), k ≤ m + 1 ∧ kv = .int .i64 (k : Int) ∧ cv = .int .u64 (cy : Int) ∧ cy ≤ 65535 ∧ (m < k → cy = 0) ∧ Fresh g 31 wr (some ⟨g, 0, none⟩) N N (cw o) ∧ Hid (Small o) ∧ Hid (dv o + cy * 65536 ^ (q + k) = dv (a.take q) * dv b + x.toNat * 65536 ^ q * dv (b.take k)) ∧ Hid (∀ j, q + m + 1 ≤ j → dg o j = 0) ∧ Hid (k ≤ m → dg o (q + m) = 0) ∧ Below g wo wr) (fun _ kv _ => m + 1 - (intOf kv).toNat)
      case atStart =>
        refine ⟨0, 0, o0, by omega, rfl, rfl, by omega, fun _ => rfl, hF0, HS0, Lib.hid ?_, Lib.hid fun j hj => HZ0.out j (by omega), Lib.hid fun _ => HZ0.out _ (by omega), Below.refl _ _⟩
        rw [HD0.out, List.take_zero]
        simp [dv]
      case round =>
        obtain ⟨k, cy, o, hk, rfl, rfl, hcy, hcz, hF, HS, HV1, HZ, HZm, hB⟩ := hrel
        have hBw := hB0.trans hB
        have hlo : o.length = N := by simpa using hF.len
        have HLO := Lib.hid hlo
        by_cases hkm : k < m
        · have hB1 := ht.below (hBw.mono hgw)
          obtain ⟨gb, ob, rfl, hgb, y, HY, hy, hcy2⟩ := hB1.word HM.out hkm
          have hys : y.toNat < 65536 := HB.out y (List.mem_of_getElem? HY.out)
          have hbk : dg b k = y.toNat := dg_get HY.out
          obtain ⟨u, hu⟩ : ∃ u, o[q + k]? = some u := ⟨_, List.getElem?_eq_getElem (by omega)⟩
          have hus : u.toNat < 65536 := HS.out u (List.mem_of_getElem? hu)
          have hcu : wr.cell? ⟨g, q + k, none⟩ = some (.int .u32 (u.toNat : Int)) := hF.cell_ (by rw [List.getElem?_map, hu]; rfl)
          have hfz := hF.frozenAt (j := q + k)
          have hcx3 : wr.cell? ⟨ga, oa + q, none⟩ = some (.int .u32 (x.toNat : Int)) := by
            rw [hB.cell (p := ⟨ga, _, none⟩) (by show ga < g; omega)]
            exact hcx
          have hzk := HZm.out
          obtain ⟨Pq, hPq⟩ : ∃ P, x.toNat * y.toNat = P := ⟨_, rfl⟩
          have hPl : Pq ≤ 65535 * 65535 := by rw [← hPq]; exact Nat.mul_le_mul (by omega) (by omega)
          have e1 : IntKind.u64.wrap ((x.toNat : Int) * (y.toNat : Int)) = (Pq : Int) := by
            rw [← Int.natCast_mul, hPq, IntKind.wrap_u64]; omega
          obtain ⟨v, hv⟩ : ∃ v, (u.toNat + cy + Pq) % 65536 = v := ⟨_, rfl⟩
          obtain ⟨cz, hcz2⟩ : ∃ v, (u.toNat + cy + Pq) / 65536 = v := ⟨_, rfl⟩
          have hvl : v < 65536 := by omega
          have hcl : cz ≤ 65535 := by omega
          obtain ⟨x1, hx1⟩ : ∃ x1 : UInt32, x1.toNat = v := ⟨UInt32.ofNat v, of_small hvl⟩
          have hx1l := x1.toNat_lt
          have hrem : ((u.toNat : Int) + (cy : Int) + (Pq : Int)).tmod 65536 = (x1.toNat : Int) := by rw [Int.tmod_eq_emod_of_nonneg (by omega)]; omega
          have hquo : ((u.toNat : Int) + (cy : Int) + (Pq : Int)).tdiv 65536 = (cz : Int) := by rw [Int.tdiv_eq_ediv_of_nonneg (by omega)]; omega
          have hdu : dg o (q + k) = u.toNat := dg_get hu
          have hst := times_step o (q + k) u.toNat cy Pq v cz _ x1 (by rw [HLO.out]; omega) hdu hx1 hv hcz2 HV1.out
          rw [← hPq, times_take a b _ x.toNat q k y.toNat (by rw [HM.out]; exact hkm) hbk] at hst
          have HST := Lib.hid hst
          have HS2 : Hid (Small (o.set (q + k) x1)) := Lib.hid (small_set HS.out _ _ (by omega))
          have HZ2 : Hid (∀ j, q + m + 1 ≤ j → dg (o.set (q + k) x1) j = 0) := Lib.hid fun j hj => by rw [dg_set_ne _ _ _ _ (by omega)]; exact HZ.out j hj
          have HZ3 : Hid (k + 1 ≤ m → dg (o.set (q + k) x1) (q + m) = 0) := Lib.hid fun hj => by rw [dg_set_ne _ _ _ _ (by omega)]; exact hzk (by omega)
          have hF2 := hF.store32 (q + k) x1
          have hBs : Below g wo (wr.setCell ⟨g, q + k, none⟩ (.int .u32 (x1.toNat : Int))) := hB.setCell (Nat.le_refl _) _
          have hk1 : decide ((k : Int) < (m : Int)) = true := by simp; omega
          have hk2 : decide (k < m) = true := by simp; omega
          have HPL := Lib.hid hPl
          clear hst hzk hPq hv hcz2 hdu hu hbk hai hx1 hlo
          go_wp2_with fail
          go_quiet (fail)
          go_wp2_with fail
          go_roundw
          case rel => exact ⟨k + 1, cz, _, by omega, by go_num, rfl, hcl, fun h => by omega, (hF.below (below_drewN' (Below.refl _ _) nq)).store32 (q + k) x1, HS2, HST, HZ2, HZ3, (below_drewN' hB nq).setCell (p := ⟨g, q + k, none⟩) (Nat.le_refl _) _⟩
          case measure => simp [intOf]; omega
        · have hk1 : decide ((k : Int) < (m : Int)) = false := by simp; omega
          have hk2 : decide (k < m) = false := by simp; omega
          have hbt : b.take k = b := List.take_of_length_le (by rw [HM.out]; omega)
          by_cases hc0 : cy = 0
          · subst hc0
            have h1 := HV1.out
            rw [hbt, Nat.zero_mul, Nat.add_zero, times_row a b q x.toNat (by rw [HN.out]; exact hqn) hai] at h1
            have HV2 := Lib.hid h1
            have HZ2 : Hid (∀ j, q + 1 + m ≤ j → dg o j = 0) := Lib.hid fun j hj => HZ.out j (by omega)
            have hc1 : decide ((0 : Int) < (((0 : Nat) : Int))) = false := by simp
            clear h1 hbt hai hlo
            go_wp2_with fail
            go_roundw
            case rel => exact ⟨q + 1, by omega, by go_num, o, hF, HS, HV2, HZ2⟩
            case measure => simp [intOf]; omega
          · obtain rfl : k = m := by omega
            have hu0 := HZm.out (Nat.le_refl _)
            have hc1 : decide ((0 : Int) < (cy : Int)) = true := by simp; omega
            have hc2 : decide (0 < cy) = true := by simp; omega
            obtain ⟨u, hu⟩ : ∃ u, o[q + k]? = some u := ⟨_, List.getElem?_eq_getElem (by omega)⟩
            have hcu : wr.cell? ⟨g, q + k, none⟩ = some (.int .u32 (u.toNat : Int)) := hF.cell_ (by rw [List.getElem?_map, hu]; rfl)
            have hfz := hF.frozenAt (j := q + k)
            rw [dg_get hu] at hu0
            rw [hu0] at hcu
            obtain ⟨x1, hx1⟩ : ∃ x1 : UInt32, x1.toNat = cy := ⟨UInt32.ofNat cy, of_small (by omega)⟩
            have hx1l := x1.toNat_lt
            have hrem : ((cy : Int)).tmod 65536 = (x1.toNat : Int) := by rw [Int.tmod_eq_emod_of_nonneg (by omega)]; omega
            have hquo : ((cy : Int)).tdiv 65536 = ((0 : Nat) : Int) := by rw [Int.tdiv_eq_ediv_of_nonneg (by omega)]; omega
            have hst := times_step o (q + k) 0 cy 0 cy 0 _ x1 (by rw [HLO.out]; omega) (by rw [dg_get hu, hu0]) hx1 (by omega) (by omega) HV1.out
            rw [Nat.zero_mul, Nat.add_zero, Nat.zero_mul, Nat.add_zero, hbt] at hst
            have HST : Hid (dv (o.set (q + k) x1) + 0 * 65536 ^ (q + (k + 1)) = dv (a.take q) * dv b + x.toNat * 65536 ^ q * dv (b.take (k + 1))) := Lib.hid (by
              rw [Nat.zero_mul, Nat.add_zero, show b.take (k + 1) = b from List.take_of_length_le (by rw [HM.out]; omega)]; exact hst)
            have HS2 : Hid (Small (o.set (q + k) x1)) := Lib.hid (small_set HS.out _ _ (by omega))
            have HZ2 : Hid (∀ j, q + k + 1 ≤ j → dg (o.set (q + k) x1) j = 0) := Lib.hid fun j hj => by rw [dg_set_ne _ _ _ _ (by omega)]; exact HZ.out j hj
            have HZ3 : Hid (k + 1 ≤ k → dg (o.set (q + k) x1) (q + k) = 0) := Lib.hid fun hj => by omega
            clear hst hu0 hu hbt hai hx1 hlo hc0 hcz
            go_wp2_with fail
            go_roundw
            case rel => exact ⟨k + 1, 0, _, by omega, by go_num, rfl, by omega, fun h => rfl, hF.store32 (q + k) x1, HS2, HST, HZ2, HZ3, hB.setCell (p := ⟨g, q + k, none⟩) (Nat.le_refl _) _⟩
            case measure => simp [intOf]
    · obtain rfl : q = n := by omega
      have hd0 : decide ((q : Int) < (q : Int)) = false := by simp
      have h1 := HD0.out
      rw [List.take_of_length_le (by rw [HN.out]; exact Nat.le_refl _), HV.out] at h1
      have hlo : o0.length = N := by simpa using hF0.len
      have HD2 := Lib.hid h1
      clear h1
      go_wp2_with fail
      go_ret
      exact ⟨_, rfl, ⟨_, N, N, o0, rfl, by rw [hg]; exact hF0, hlo, by omega, HS0, HD2⟩, by rw [hg]; exact hB0⟩
end Go.Proofs.Ytmkpopfaaebgfaa
