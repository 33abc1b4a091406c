/-
  LamportBits returns true for every input, and writes nothing that was there: the walk.
-/
import Derived.Test.YtehokoeajinboaaLamAwake
import Derived.Test.YtehokoeajinboaaQTail
import Derived.Test.YtehokoeajinboaaShaSame
namespace Go.Proofs.Ytehokoeajinboaa
open Go.RowKit
set_option linter.unusedVariables false

/-- The highest m bits of a byte. -/
def partN (x m : Nat) : Nat := x / 2 ^ (8 - m) * 2 ^ (8 - m)
def partB (x : UInt8) (m : Nat) : UInt8 := UInt8.ofNat (partN x.toNat m)
theorem partN_step (x r : Nat) (hr : r < 8) : partN x r + x / 2 ^ (7 - r) % 2 * 2 ^ (7 - r) = partN x (r + 1) := by
  unfold partN
  obtain ⟨P, hP⟩ : ∃ P, 2 ^ (7 - r) = P := ⟨_, rfl⟩
  have e : 2 ^ (8 - r) = 2 * P := by rw [show 8 - r = (7 - r) + 1 from by omega, Nat.pow_succ, hP]; omega
  rw [show 8 - (r + 1) = 7 - r from by omega, hP, e, Nat.mul_comm 2 P, ← Nat.div_div_eq_div_mul]
  have h := Nat.div_add_mod (x / P) 2
  obtain ⟨q, hq⟩ : ∃ q, x / P = q := ⟨_, rfl⟩
  rw [hq] at h ⊢
  rw [Nat.mul_comm P 2, ← Nat.mul_assoc, ← Nat.add_mul, Nat.mul_comm (q / 2) 2, h]
theorem partN_lt (x m : Nat) (h : x < 256) : partN x m < 256 := Nat.lt_of_le_of_lt (Nat.div_mul_le_self _ _) h
theorem part_or : ∀ r, r < 8 → ∀ x, x < 256 → bits .or .u8 ((partN x r : Nat) : Int) ((x / 2 ^ (7 - r) % 2 * 2 ^ (7 - r) : Nat) : Int) = ((partN x (r + 1) : Nat) : Int) := by decide +kernel
theorem partB_nat (x : UInt8) (m : Nat) : (partB x m).toNat = partN x.toNat m := by
  unfold partB
  have := partN_lt x.toNat m x.toNat_lt
  simp
  omega
theorem or_zero (x : UInt8) (r : Nat) (hr : r < 8) (h : x.toNat / 2 ^ (7 - r) % 2 = 0) : bits .or .u8 ((partB x r).toNat : Int) 0 = ((partB x (r + 1)).toNat : Int) := by
  have h1 := part_or r hr x.toNat x.toNat_lt
  rw [h, Nat.zero_mul] at h1
  rw [partB_nat, partB_nat]
  exact h1
theorem pow_small : ∀ r, r < 8 → ((1 * 2 ^ (7 - r) : Nat) : Int) = 2 ^ (7 - r) % 256 := by decide
theorem or_one (x : UInt8) (r : Nat) (hr : r < 8) (h : x.toNat / 2 ^ (7 - r) % 2 = 1) : bits .or .u8 ((partB x r).toNat : Int) (2 ^ (7 - r) % 256) = ((partB x (r + 1)).toNat : Int) := by
  have h1 := part_or r hr x.toNat x.toNat_lt
  rw [h, pow_small r hr] at h1
  rw [partB_nat, partB_nat]
  exact h1
theorem partB_full (x : UInt8) : partB x 8 = x := by
  unfold partB partN
  simp
theorem partB_none (x : UInt8) : partB x 0 = 0 := by
  unfold partB partN
  have := x.toNat_lt
  rw [show x.toNat / 2 ^ (8 - 0) = 0 from Nat.div_eq_of_lt (by simpa using this)]
  rfl
theorem bits_byte (x y : UInt8) (h : ∀ r, r < 8 → x.toNat / 2 ^ (7 - r) % 2 = y.toNat / 2 ^ (7 - r) % 2) : x = y := by
  have k : ∀ m, m ≤ 8 → partN x.toNat m = partN y.toNat m := by
    intro m
    induction m with
    | zero =>
      intro _
      unfold partN
      rw [Nat.div_eq_of_lt (by simpa using x.toNat_lt), Nat.div_eq_of_lt (by simpa using y.toNat_lt)]
    | succ m ih =>
      intro hm
      rw [← partN_step _ m (by omega), ← partN_step _ m (by omega), ih (by omega), h m (by omega)]
  have k8 := k 8 (by omega)
  unfold partN at k8
  simp at k8
  exact UInt8.toNat_inj.1 k8
def sameUp (d e : List UInt8) (k : Nat) : Bool := (List.range k).all fun i => bitF d i == bitF e i
theorem sameUp_step (d e : List UInt8) (k : Nat) : sameUp d e (k + 1) = (sameUp d e k && (bitF d k == bitF e k)) := by
  unfold sameUp
  rw [List.range_succ, List.all_append]
  simp
theorem sameUp_all (d e : List UInt8) (hd : d.length = 32) (he : e.length = 32) : sameUp d e 256 = (d == e) := by
  rw [Bool.eq_iff_iff]
  unfold sameUp
  rw [List.all_eq_true, beq_iff_eq]
  constructor
  · intro h
    apply List.ext_getElem (by omega)
    intro j h1 h2
    apply bits_byte
    intro r hr
    have h3 := h (8 * j + r) (List.mem_range.2 (by omega))
    rw [beq_iff_eq] at h3
    unfold bitF at h3
    rw [show (8 * j + r) / 8 = j from by omega, show (8 * j + r) % 8 = r from by omega, List.getD_eq_getElem?_getD, List.getD_eq_getElem?_getD, List.getElem?_eq_getElem h1, List.getElem?_eq_getElem h2] at h3
    exact h3
  · rintro rfl i _
    simp
def backL (d : List UInt8) (k : Nat) : List UInt8 := (List.range 32).map fun j => partB (d.getD j 0) (min 8 (k - 8 * j))
theorem len_backL (d : List UInt8) (k : Nat) : (backL d k).length = 32 := by simp [backL]
theorem backL_get (d : List UInt8) (k j : Nat) (hj : j < 32) : (backL d k)[j]? = some (partB (d.getD j 0) (min 8 (k - 8 * j))) := by
  unfold backL
  rw [List.getElem?_map, List.getElem?_range hj]
  rfl
theorem backL_none (d : List UInt8) : backL d 0 = List.replicate 32 0 := by
  apply List.ext_getElem?
  intro j
  by_cases hj : j < 32
  · rw [backL_get _ _ _ hj, List.getElem?_replicate, if_pos hj]
    rw [show min 8 (0 - 8 * j) = 0 from by omega, partB_none]
  · rw [List.getElem?_eq_none (by rw [len_backL]; omega), List.getElem?_eq_none (by rw [List.length_replicate]; omega)]
theorem backL_full (d : List UInt8) (hd : d.length = 32) : backL d 256 = d := by
  apply List.ext_getElem?
  intro j
  by_cases hj : j < 32
  · rw [backL_get _ _ _ hj, show min 8 (256 - 8 * j) = 8 from by omega, partB_full, List.getD_eq_getElem?_getD, List.getElem?_eq_getElem (by omega)]
    rfl
  · rw [List.getElem?_eq_none (by rw [len_backL]; omega), List.getElem?_eq_none (by omega)]
theorem backL_set (d : List UInt8) (k : Nat) (hk : k < 256) : (backL d k).set (k / 8) (partB (d.getD (k / 8) 0) (k % 8 + 1)) = backL d (k + 1) := by
  apply List.ext_getElem?
  intro j
  by_cases hj : j < 32
  · rw [List.getElem?_set, backL_get _ _ _ hj, backL_get _ _ _ hj, len_backL]
    by_cases h : k / 8 = j
    · rw [if_pos h, if_pos (by omega), h, show min 8 (k + 1 - 8 * j) = k % 8 + 1 from by omega]
    · rw [if_neg h, show min 8 (k + 1 - 8 * j) = min 8 (k - 8 * j) from by omega]
  · rw [List.getElem?_eq_none (by rw [List.length_set, len_backL]; omega), List.getElem?_eq_none (by rw [len_backL]; omega)]
section
variable {w : World}
set_option maxHeartbeats 2000000 in
set_option maxRecDepth 100000 in
theorem bits_walk (d e : List UInt8) (hd : d.length = 32) (he : e.length = 32) :
    Calls Try.prog 12 #[.agg (cb d).toArray, .agg (cb e).toArray] w fun e w' => e = .returned (.bool true) ∧ Below w.heap.size w w' := by
  have HD := Lib.hid hd
  have HE := Lib.hid he
  have hsame := sameUp_all d e hd he
  have hfull := backL_full d hd
  have HS := Lib.hid hsame
  have HF := Lib.hid hfull
  clear hd he hsame hfull
  go_enter Try.func12, Try.ntmps12
  go_wp2_with (first
    | (with_reducible refine wpList_box (o := ⟨some 2, _, _, _, _, _⟩) rfl (.tmp 0) 32 rfl (cb d) rfl 32 (by rw [List.length_map]; exact HD.out) (by decide) ?_; intro gd w1 hgd hFd hBd)
    | (with_reducible refine wpList_box (o := ⟨some 3, _, _, _, _, _⟩) rfl (.tmp 1) 32 rfl (cb e) rfl 32 (by rw [List.length_map]; exact HE.out) (by decide) ?_; intro ge w2 hge hFe hBe)
    | (with_reducible refine wpList_alloc (o := ⟨some 5, _, _, _, _, _⟩) rfl 32 rfl (cb (List.replicate 32 0)) (by kernel_rfl) 32 (by simp) (by decide) ?_; intro gb w3 hgb hFb hBb))
  have z1 := hBd.size
  have z2 := hBe.size
  have ld := hFd.lt_size
  have le := hFe.lt_size
  have qb := hFb.block.2
  have hB3 := Below.then_ (Below.then_ hBd hBe) hBb
  have fd := (hFd.below hBe).below hBb
  have fe := (hFe.below hBb).lower (base' := w.heap.size) (by omega)
  have fb := hFb.lower (base' := w.heap.size) (by omega)
  rw [← backL_none d] at fb
  have n1 : gd ≠ gb := by omega
  have n2 : ge ≠ gb := by omega
  have n3 : w.heap.size ≤ gb := by omega
  clear hFd hFe hFb hBd hBe hBb z1 z2 ld le qb hgd hge
  go_loopw [6, 7] (fun s i wr => ∃ k : Nat, k ≤ 256 ∧ i = .int .i64 (k : Int) ∧ s = .bool (sameUp d e k) ∧ Fresh w.heap.size 32 wr (some ⟨gd, 0, none⟩) 32 32 (cb d) ∧ Fresh w.heap.size 32 wr (some ⟨ge, 0, none⟩) 32 32 (cb e) ∧ Fresh w.heap.size 32 wr (some ⟨gb, 0, none⟩) 32 32 (cb (backL d k)) ∧ Below w.heap.size w wr) (fun _ i _ => 256 - (intOf i).toNat)
  case atStart => exact ⟨0, by omega, rfl, rfl, fd, fe, fb, hB3⟩
  case round =>
    clear fd fe fb hB3
    obtain ⟨k, hk, rfl, rfl, fd, fe, fb, hB⟩ := hrel
    by_cases hlt : k < 256
    · have hbit := Bit_any (w := wr) d (k : Int) HD.out
      rw [bitI_nat d k hlt] at hbit
      have hbite := fun w' => Bit_any (w := w') e (k : Int) HE.out
      rw [bitI_nat e k hlt] at hbite
      have hk8 : k / 8 < 32 := by omega
      have hr8 : k % 8 < 8 := by omega
      have hset := backL_set d k hlt
      have hsu := sameUp_step d e k
      obtain ⟨x, hx⟩ : ∃ x, d.getD (k / 8) 0 = x := ⟨_, rfl⟩
      have hbx : x.toNat / 2 ^ (7 - k % 8) % 2 = bitF d k := by rw [← hx]; rfl
      rw [hx] at hset
      have hv2 := bitF_lt d k
      have hu2 := bitF_lt e k
      obtain ⟨v, hv⟩ : ∃ v, bitF d k = v := ⟨_, rfl⟩
      obtain ⟨u, hu⟩ : ∃ u, bitF e k = u := ⟨_, rfl⟩
      obtain ⟨s, hs⟩ : ∃ s, sameUp d e k = s := ⟨_, rfl⟩
      rw [hv] at hbit hv2 hbx hsu
      rw [hu] at hbite hu2 hsu
      rw [hs] at hsu ⊢
      have HSU := Lib.hid hsu
      have HSET := Lib.hid hset
      have hcell0 : wr.cell? ⟨gb, k / 8, none⟩ = some (.int .u8 ((partB x (k % 8)).toNat : Int)) := fb.cell_ (by rw [cb, List.getElem?_map, backL_get _ _ _ (by omega), show min 8 (k - 8 * (k / 8)) = k % 8 from by omega, hx]; rfl)
      clear hv hu hs hsu hset hx
      have hv01 : v = 0 ∨ v = 1 := by omega
      have main : ∀ (w6 : World), Below wr.heap.size wr w6 → True := fun _ _ => trivial
      clear main
      rcases hv01 with rfl | rfl
      · have hor : bits .or .u8 ((partB x (k % 8)).toNat : Int) 0 = ((partB x (k % 8 + 1)).toNat : Int) := or_zero x (k % 8) hr8 hbx
        go_upto_region 9 with (first
          | (with_reducible refine wpList_load (o := ⟨some 13, _, _, _, _, _⟩) rfl (.tmp 2) 32 rfl gd 0 _ rfl (cb d) 32 (by rw [List.length_map]; exact HD.out) (by kernel_rfl) fd.sees ?_)
          | (go_at_call 52; refine hbit.mono ?_; rintro e w6 ⟨rfl, hB6⟩))
        have hgb2 := fb.lt_size
        have fd6 := fd.below hB6
        have fe6 := fe.below hB6
        have fb6 := fb.below hB6
        have hBw := Below.then_ hB hB6
        have hcell : w6.cell? ⟨gb, k / 8, none⟩ = some (.int .u8 ((partB x (k % 8)).toNat : Int)) := by
          rw [fb6.cell_ (k := k / 8) (u := .int .u8 ((partB x (k % 8)).toNat : Int))]
          have := World.ownsRow.cellAt fb (k / 8) (by omega)
          rw [hcell0] at this
          rw [List.getElem?_eq_getElem (by rw [List.length_map, len_backL]; exact hk8)] at this ⊢
          exact this.symm
        clear fd fe fb hB hbit hB6 hcell0
        refine region_qtail 12 (by kernel_rfl) (by kernel_rfl) ?_
        simp only [List.take_succ_cons, List.take_zero, List.drop_succ_cons, List.drop_zero]
        repeat (go_big_quiet_step (fail))
        refine wpQuiet_nil ?_
        rintro _ ⟨nq, rfl⟩
        have hz := fb6.frozenAt (j := k / 8)
        have hoth : ∀ j, j ≠ gb → ((w6.drewN nq).setCell ⟨gb, k / 8, none⟩ (.int .u8 ((partB x (k % 8 + 1)).toNat : Int))).heap[j]? = w6.heap[j]? := fun j hj => Below.heap_setCell _ _ _ _ hj
        have fd7 := fd6.other n1 hoth
        have fe7 := fe6.other n2 hoth
        have fb7 := (fb6.below (below_drewN' (Below.refl _ _) nq)).store8 (k / 8) (partB x (k % 8 + 1))
        rw [HSET.out] at fb7
        have hBw7 : Below w.heap.size w ((w6.drewN nq).setCell ⟨gb, k / 8, none⟩ (.int .u8 ((partB x (k % 8 + 1)).toNat : Int))) := (below_drewN' hBw nq).setCell (by simp; omega) _
        obtain ⟨w7, hw7⟩ : ∃ w7, (w6.drewN nq).setCell ⟨gb, k / 8, none⟩ (.int .u8 ((partB x (k % 8 + 1)).toNat : Int)) = w7 := ⟨_, rfl⟩
        rw [hw7] at fd7 fe7 fb7 hBw7
        clear fd6 fe6 fb6 hoth hBw
        cases s
        · go_wp2_with fail
          go_roundw
          case rel => exact ⟨k + 1, by omega, by go_num, by rw [HSU.out]; rfl, fd7, fe7, fb7, hBw7⟩
          case measure => simp [intOf]; omega
        · go_wp2_with (first
            | (with_reducible refine wpList_load_g (o := ⟨some 37, _, _, _, _, _⟩) (.tmp 3) 32 rfl ge 0 _ rfl (cb e) 32 (by rw [List.length_map]; exact HE.out) (by kernel_rfl) fe7.sees rfl ?_)
            | (go_at_call 52; refine (hbite _).mono ?_; rintro e w8 ⟨rfl, hB8⟩))
          go_roundw
          case rel =>
            have hu01 : u = 0 ∨ u = 1 := by omega
            refine ⟨k + 1, by omega, by go_num, ?_, fd7.below hB8, fe7.below hB8, fb7.below hB8, Below.then_ hBw7 hB8⟩
            rw [HSU.out]
            rcases hu01 with rfl | rfl <;> rfl
          case measure => simp [intOf]; omega
      · have hor : bits .or .u8 ((partB x (k % 8)).toNat : Int) (2 ^ (7 - k % 8) % 256) = ((partB x (k % 8 + 1)).toNat : Int) := or_one x (k % 8) hr8 hbx
        go_upto_region 9 with (first
          | (with_reducible refine wpList_load (o := ⟨some 13, _, _, _, _, _⟩) rfl (.tmp 2) 32 rfl gd 0 _ rfl (cb d) 32 (by rw [List.length_map]; exact HD.out) (by kernel_rfl) fd.sees ?_)
          | (go_at_call 52; refine hbit.mono ?_; rintro e w6 ⟨rfl, hB6⟩))
        have hgb2 := fb.lt_size
        have fd6 := fd.below hB6
        have fe6 := fe.below hB6
        have fb6 := fb.below hB6
        have hBw := Below.then_ hB hB6
        have hcell : w6.cell? ⟨gb, k / 8, none⟩ = some (.int .u8 ((partB x (k % 8)).toNat : Int)) := by
          rw [fb6.cell_ (k := k / 8) (u := .int .u8 ((partB x (k % 8)).toNat : Int))]
          have := World.ownsRow.cellAt fb (k / 8) (by omega)
          rw [hcell0] at this
          rw [List.getElem?_eq_getElem (by rw [List.length_map, len_backL]; exact hk8)] at this ⊢
          exact this.symm
        clear fd fe fb hB hbit hB6 hcell0
        refine region_qtail 12 (by kernel_rfl) (by kernel_rfl) ?_
        simp only [List.take_succ_cons, List.take_zero, List.drop_succ_cons, List.drop_zero]
        repeat (go_big_quiet_step (fail))
        refine wpQuiet_nil ?_
        rintro _ ⟨nq, rfl⟩
        have hz := fb6.frozenAt (j := k / 8)
        have hoth : ∀ j, j ≠ gb → ((w6.drewN nq).setCell ⟨gb, k / 8, none⟩ (.int .u8 ((partB x (k % 8 + 1)).toNat : Int))).heap[j]? = w6.heap[j]? := fun j hj => Below.heap_setCell _ _ _ _ hj
        have fd7 := fd6.other n1 hoth
        have fe7 := fe6.other n2 hoth
        have fb7 := (fb6.below (below_drewN' (Below.refl _ _) nq)).store8 (k / 8) (partB x (k % 8 + 1))
        rw [HSET.out] at fb7
        have hBw7 : Below w.heap.size w ((w6.drewN nq).setCell ⟨gb, k / 8, none⟩ (.int .u8 ((partB x (k % 8 + 1)).toNat : Int))) := (below_drewN' hBw nq).setCell (by simp; omega) _
        obtain ⟨w7, hw7⟩ : ∃ w7, (w6.drewN nq).setCell ⟨gb, k / 8, none⟩ (.int .u8 ((partB x (k % 8 + 1)).toNat : Int)) = w7 := ⟨_, rfl⟩
        rw [hw7] at fd7 fe7 fb7 hBw7
        clear fd6 fe6 fb6 hoth hBw
        cases s
        · go_wp2_with fail
          go_roundw
          case rel => exact ⟨k + 1, by omega, by go_num, by rw [HSU.out]; rfl, fd7, fe7, fb7, hBw7⟩
          case measure => simp [intOf]; omega
        · go_wp2_with (first
            | (with_reducible refine wpList_load_g (o := ⟨some 37, _, _, _, _, _⟩) (.tmp 3) 32 rfl ge 0 _ rfl (cb e) 32 (by rw [List.length_map]; exact HE.out) (by kernel_rfl) fe7.sees rfl ?_)
            | (go_at_call 52; refine (hbite _).mono ?_; rintro e w8 ⟨rfl, hB8⟩))
          go_roundw
          case rel =>
            have hu01 : u = 0 ∨ u = 1 := by omega
            refine ⟨k + 1, by omega, by go_num, ?_, fd7.below hB8, fe7.below hB8, fb7.below hB8, Below.then_ hBw7 hB8⟩
            rw [HSU.out]
            rcases hu01 with rfl | rfl <;> rfl
          case measure => simp [intOf]; omega
    · obtain rfl : k = 256 := by omega
      rw [HF.out] at fb
      rw [HS.out]
      obtain ⟨b, hb⟩ : ∃ b, (d == e) = b := ⟨_, rfl⟩
      have hdd : (d == d) = true := by simp
      have r1 : ∀ (o : Oper) (a : Act) (w' : World), o.op = .binOp .eql 32 (.tmp 42) (.tmp 43) 32 → True := fun _ _ _ _ => trivial
      clear r1
      rw [hb]
      go_wp2_with (first
        | (with_reducible refine wpList_load (o := ⟨some 42, _, _, _, _, _⟩) rfl (.tmp 5) 32 rfl gb 0 _ rfl (cb d) 32 (by rw [List.length_map]; exact HD.out) (by kernel_rfl) fb.sees ?_)
        | (with_reducible refine wpList_load (o := ⟨some 43, _, _, _, _, _⟩) rfl (.tmp 2) 32 rfl gd 0 _ rfl (cb d) 32 (by rw [List.length_map]; exact HD.out) (by kernel_rfl) fd.sees ?_)
        | (with_reducible refine wpList_gis (o := ⟨some 44, _, _, _, _, _⟩) (v := .bool (d == d)) rfl (run_eq32b (.tmp 42) (.tmp 43) 32 rfl d d rfl rfl HD.out HD.out) ?_; rw [hdd])
        | (with_reducible refine wpList_load_g (o := ⟨some 47, _, _, _, _, _⟩) (.tmp 2) 32 rfl gd 0 _ rfl (cb d) 32 (by rw [List.length_map]; exact HD.out) (by kernel_rfl) fd.sees rfl ?_)
        | (with_reducible refine wpList_load_g (o := ⟨some 48, _, _, _, _, _⟩) (.tmp 3) 32 rfl ge 0 _ rfl (cb e) 32 (by rw [List.length_map]; exact HE.out) (by kernel_rfl) fe.sees rfl ?_)
        | (with_reducible refine wpList_gis (o := ⟨some 49, _, _, _, _, _⟩) (v := .bool (d == e)) rfl (run_eq32b (.tmp 47) (.tmp 48) 32 rfl d e rfl rfl HD.out HE.out) ?_; rw [hb])
        | (go_at_call 59; refine awake9_any.mono ?_; rintro e w9 ⟨rfl, hB9⟩))
      go_ret
      exact ⟨by simp, Below.then_ hB hB9⟩
theorem bits_law (W : World) (d : List UInt8) (hd : d.length = 32) (e : List UInt8) (he : e.length = 32) :
    Calls Try.prog 12 #[.agg (cb d).toArray, .agg (cb e).toArray] W fun e w' => e = .returned (.bool true) ∧ Below W.heap.size W w' := bits_walk d e hd he
end
end Go.Proofs.Ytehokoeajinboaa
