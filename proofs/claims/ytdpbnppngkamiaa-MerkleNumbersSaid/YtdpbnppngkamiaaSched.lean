/-
  What sha.schedule answers, for every block: the sixty-four words.
-/
import Derived.Test.YtdpbnppngkamiaaShaWord
import Derived.Test.YtdpbnppngkamiaaQTail
import Derived.Test.YtdpbnppngkamiaaPut
namespace Go.Proofs.Ytdpbnppngkamiaa
open Go.RowKit
set_option linter.unusedVariables false
theorem Fresh.byte {base : Nat} {e : TypeId} {w : World} {g n k : Nat} {l : List UInt8} (h : Fresh base e w (some ⟨g, 0, none⟩) n n (cb l)) (hk : k < n) :
    ∃ c : UInt8, Hid (l[k]? = some c) ∧ c.toNat < 256 ∧ w.cell? ⟨g, k, none⟩ = some (.int .u8 (c.toNat : Int)) := by
  have hl : l.length = n := by simpa using h.len
  obtain ⟨b, o, e, hb, c, h1, h2, h3⟩ := h.sees.byte hl hk
  obtain ⟨rfl, rfl⟩ : g = b ∧ 0 = o := by simpa using e
  exact ⟨c, h1, h2, by simpa using h3⟩
theorem Fresh.word {base : Nat} {e : TypeId} {w : World} {g n k : Nat} {l : List UInt32} (h : Fresh base e w (some ⟨g, 0, none⟩) n n (cw l)) (hk : k < n) :
    ∃ c : UInt32, Hid (l[k]? = some c) ∧ c.toNat < 4294967296 ∧ w.cell? ⟨g, k, none⟩ = some (.int .u32 (c.toNat : Int)) := by
  have hl : l.length = n := by simpa using h.len
  obtain ⟨b, o, e, hb, c, h1, h2, h3⟩ := h.sees.word hl hk
  obtain ⟨rfl, rfl⟩ : g = b ∧ 0 = o := by simpa using e
  exact ⟨c, h1, h2, by simpa using h3⟩
def pad64 (l : List UInt32) : List UInt32 := l ++ List.replicate (64 - l.length) 0
theorem pad64_set (l : List UInt32) (x : UInt32) (h : l.length < 64) : (pad64 l).set l.length x = pad64 (l ++ [x]) := by
  unfold pad64
  rw [List.set_append_right _ _ (Nat.le_refl _), Nat.sub_self, show 64 - l.length = (64 - (l ++ [x]).length) + 1 from by simp; omega, List.replicate_succ]
  simp
theorem or_sum (a b i x : Nat) (hx : x = 2 ^ i * a) (hb : b < 2 ^ i) : x ||| b = x + b := by
  subst hx
  exact (Nat.two_pow_add_eq_or_of_lt hb a).symm
theorem or4 (c0 c1 c2 c3 : UInt8) : bits BinOp.or IntKind.u32 (bits BinOp.or IntKind.u32 (bits BinOp.or IntKind.u32 ((c0.toNat : Int) * 16777216) ((c1.toNat : Int) * 65536)) ((c2.toNat : Int) * 256)) (c3.toNat : Int) = (((((c0.toNat * 256 + c1.toNat) * 256 + c2.toNat) * 256 + c3.toNat : Nat)) : Int) := by
  have h0 := c0.toNat_lt
  have h1 := c1.toNat_lt
  have h2 := c2.toNat_lt
  have h3 := c3.toNat_lt
  generalize c0.toNat = a at *
  generalize c1.toNat = b at *
  generalize c2.toNat = c at *
  generalize c3.toNat = d at *
  rw [show (a : Int) * 16777216 = ((a * 16777216 : Nat) : Int) from by omega, show (b : Int) * 65536 = ((b * 65536 : Nat) : Int) from by omega, show (c : Int) * 256 = ((c * 256 : Nat) : Int) from by omega,
    u32_or_nat _ _ (by omega) (by omega), or_sum a _ 24 _ (by omega) (by omega), u32_or_nat _ _ (by omega) (by omega), or_sum (a * 256 + b) _ 16 _ (by omega) (by omega), u32_or_nat _ _ (by omega) (by omega), or_sum ((a * 256 + b) * 256 + c) _ 8 _ (by omega) (by omega)]
  omega
theorem be_nat (b : List UInt8) (j : Nat) (c0 c1 c2 c3 : UInt8) (h0 : b[j]? = some c0) (h1 : b[j + 1]? = some c1) (h2 : b[j + 2]? = some c2) (h3 : b[j + 3]? = some c3) :
    bits BinOp.or IntKind.u32 (bits BinOp.or IntKind.u32 (bits BinOp.or IntKind.u32 ((c0.toNat : Int) * 16777216) ((c1.toNat : Int) * 65536)) ((c2.toNat : Int) * 256)) (c3.toNat : Int) = ((be b j).toNat : Int) := by
  rw [or4]
  have l0 := c0.toNat_lt
  have l1 := c1.toNat_lt
  have l2 := c2.toNat_lt
  have l3 := c3.toNat_lt
  unfold be
  rw [List.getD_eq_getElem?_getD, List.getD_eq_getElem?_getD, List.getD_eq_getElem?_getD, List.getD_eq_getElem?_getD, h0, h1, h2, h3]
  simp only [Option.getD_some]
  rw [ofNat_toNat32]
  omega
theorem sch16_get (b : List UInt8) (k : Nat) (h : k < 16) : (sch16 b)[k]? = some (be b (4 * k)) := by simp [sch16, h]
theorem take_pad_set (l : List UInt32) (k : Nat) (x : UInt32) (hl : k < 64) (hk : k ≤ l.length) (h : l[k]? = some x) : (pad64 (l.take k)).set k x = pad64 (l.take (k + 1)) := by
  have e : (l.take k).length = k := by simp; omega
  have := pad64_set (l.take k) x (by omega)
  rw [e] at this
  rw [this, List.take_add_one, h]
  rfl
theorem pad_get (l : List UInt32) (j : Nat) (x : UInt32) (hj : j < l.length) (h : (pad64 l)[j]? = some x) : l.getD j 0 = x := by
  unfold pad64 at h
  rw [List.getElem?_append_left hj] at h
  rw [List.getD_eq_getElem?_getD, h]
  rfl
theorem u32_sum4 (a b c d : UInt32) : ((a.toNat : Int) + b.toNat + c.toNat + d.toNat) % 4294967296 = ((a + b + c + d).toNat : Int) := by
  rw [UInt32.toNat_add, UInt32.toNat_add, UInt32.toNat_add]
  omega
theorem next_nat (l : List UInt32) (m : Nat) (x14 x9 x1 x0 : UInt32) (hl : l.length = 16 + m) (h14 : (pad64 l)[m + 14]? = some x14) (h9 : (pad64 l)[m + 9]? = some x9) (h1 : (pad64 l)[m + 1]? = some x1) (h0 : (pad64 l)[m]? = some x0) :
    (bits BinOp.xor IntKind.u32 (bits BinOp.xor IntKind.u32 ((rr x14 17).toNat : Int) ((rr x14 19).toNat : Int)) ((x14.toNat : Int) / 1024) + (x9.toNat : Int) + bits BinOp.xor IntKind.u32 (bits BinOp.xor IntKind.u32 ((rr x1 7).toNat : Int) ((rr x1 18).toNat : Int)) ((x1.toNat : Int) / 8) + (x0.toNat : Int)) % 4294967296 = ((nextW l m).toNat : Int) := by
  unfold nextW
  rw [pad_get l _ _ (by omega) h14, pad_get l _ _ (by omega) h9, pad_get l _ _ (by omega) h1, pad_get l _ _ (by omega) h0]
  have e1 : (x14.toNat : Int) / 1024 = ((sh x14 10).toNat : Int) := u32_sh x14 10
  have e2 : (x1.toNat : Int) / 8 = ((sh x1 3).toNat : Int) := u32_sh x1 3
  rw [e1, e2, u32_xor, u32_xor, u32_xor, u32_xor, u32_sum4]
  rfl
set_option maxHeartbeats 1000000 in
set_option maxRecDepth 100000 in
theorem schedule_any (b : List UInt8) (w : World) (hb : b.length = 64) : Calls Try.prog 169 #[.agg (cb b).toArray] w fun e w' => e = .returned (.agg (cw (sched b)).toArray) ∧ Below w.heap.size w w' := by
  have HB := Lib.hid hb
  clear hb
  go_enter Try.func169, Try.ntmps169
  go_wp2_with (first
    | (with_reducible refine wpList_box (o := ⟨some 1, _, _, _, _, _⟩) rfl (.tmp 0) 211 rfl (cb b) rfl 64 (by simp [HB.out]) (by decide) ?_; intro gb w1 hgb hFb hBb)
    | (with_reducible refine wpList_alloc (o := ⟨some 2, _, _, _, _, _⟩) rfl 77 rfl (cw (List.replicate 64 0)) (by kernel_rfl) 64 (by simp) (by decide) ?_; intro gr w2 hgr hFr hBr)
    | (with_reducible refine wpList_alloc (o := ⟨some 3, _, _, _, _, _⟩) rfl 77 rfl (cw (List.replicate 64 0)) (by kernel_rfl) 64 (by simp) (by decide) ?_; intro gw w3 hgw hFw hBw))
  have d1 := hFb.lt_size
  have d2 := hFr.lt_size
  have hz1 := hBb.size
  have hz2 := hBr.size
  have hB3 := Below.then_ (Below.then_ hBb hBr) hBw
  have hFb3 := (hFb.below hBr).below hBw
  have hFr3 := (hFr.below hBw).lower hz1
  have hFw3 := hFw.lower (Nat.le_trans hz1 hz2)
  clear hFb hFr hFw hBb hBr hBw
  go_loopw [11] (fun i wr => ∃ k : Nat, k ≤ 16 ∧ i = .int .i64 k ∧ Fresh w.heap.size 77 wr (some ⟨gw, 0, none⟩) 64 64 (cw (pad64 ((sch16 b).take k))) ∧ Fresh w.heap.size 211 wr (some ⟨gb, 0, none⟩) 64 64 (cb b) ∧ Fresh w.heap.size 77 wr (some ⟨gr, 0, none⟩) 64 64 (cw (List.replicate 64 0)) ∧ Below w.heap.size w wr) (fun i _ => 16 - (intOf i).toNat)
  case atStart => exact ⟨0, by omega, rfl, hFw3, hFb3, hFr3, hB3⟩
  case round =>
    obtain ⟨k, hk, rfl, hW, hBk, hR, hBel⟩ := hrel
    by_cases hlt : k < 16
    · obtain ⟨c0, H0, l0, r0⟩ := hBk.byte (k := 4 * k) (by omega)
      obtain ⟨c1, H1, l1, r1⟩ := hBk.byte (k := 4 * k + 1) (by omega)
      obtain ⟨c2, H2, l2, r2⟩ := hBk.byte (k := 4 * k + 2) (by omega)
      obtain ⟨c3, H3, l3, r3⟩ := hBk.byte (k := 4 * k + 3) (by omega)
      go_wp2
      refine region_qtail 26 (by kernel_rfl) (by kernel_rfl) ?_
      simp only [List.take_succ_cons, List.take_zero, List.drop_succ_cons, List.drop_zero]
      repeat (go_big_quiet_step (fail))
      refine wpQuiet_nil ?_
      rintro _ ⟨nq, rfl⟩
      have hz := hW.frozenAt (j := k)
      obtain ⟨cz, _, _, hcz⟩ := hW.word (k := k) (by omega)
      go_wp2
      go_roundw
      case rel =>
        have hst := (hW.below (below_drewN' (Below.refl _ _) nq)).store32 k (be b (4 * k))
        rw [take_pad_set _ _ _ (by omega) (by rw [len_sch16]; omega) (sch16_get b k hlt)] at hst
        have hoth : ∀ j, j ≠ gw → ((wr.drewN nq).setCell ⟨gw, k, none⟩ (.int .u32 ((be b (4 * k)).toNat : Int))).heap[j]? = wr.heap[j]? := fun j hj => Below.heap_setCell _ _ _ _ hj
        refine ⟨k + 1, by omega, by go_num, ?_⟩
        rw [be_nat b (4 * k) c0 c1 c2 c3 H0.out H1.out H2.out H3.out]
        exact ⟨hst, hBk.other (by omega) hoth, hR.other (by omega) hoth, (below_drewN' hBel nq).setCell (by simp; omega) _⟩
      case measure => simp [intOf]; omega
    · have hW0 : Fresh w.heap.size 77 wr (some ⟨gw, 0, none⟩) 64 64 (cw (pad64 (schN b 0))) := by
        rw [List.take_of_length_le (by rw [len_sch16]; omega)] at hW
        exact hW
      clear hW
      go_wp2
      go_loopw [44] (fun i ws => ∃ k : Nat, k ≤ 48 ∧ i = .int .i64 k ∧ Fresh w.heap.size 77 ws (some ⟨gw, 0, none⟩) 64 64 (cw (pad64 (schN b k))) ∧ Fresh w.heap.size 77 ws (some ⟨gr, 0, none⟩) 64 64 (cw (List.replicate 64 0)) ∧ Below w.heap.size w ws) (fun i _ => 48 - (intOf i).toNat)
      case atStart => exact ⟨0, by omega, rfl, hW0, hR, hBel⟩
      case round =>
        clear hW0 hR hBel hBk
        obtain ⟨m, hm, rfl, hW, hR, hBel⟩ := hrel
        by_cases hlm : m < 48
        · obtain ⟨x1, H1, l1, r1⟩ := hW.word (k := m + 1) (by omega)
          obtain ⟨x14, H14, l14, r14⟩ := hW.word (k := m + 14) (by omega)
          obtain ⟨x9, H9, l9, r9⟩ := hW.word (k := m + 9) (by omega)
          obtain ⟨x0, H0, l0, r0⟩ := hW.word (k := m) (by omega)
          go_wp2
          go_quiet (fail)
          go_wp2_with (go_at_call 172; refine (ror_any _ _ _ rfl (by decide) _).mono ?_; rintro e w' ⟨rfl, rfl⟩)
          refine region_qtail 14 (by kernel_rfl) (by kernel_rfl) ?_
          simp only [List.take_succ_cons, List.take_zero, List.drop_succ_cons, List.drop_zero]
          repeat (go_big_quiet_step (fail))
          refine wpQuiet_nil ?_
          rintro _ ⟨nq2, rfl⟩
          have hz := hW.frozenAt (j := m + 16)
          obtain ⟨cz, _, _, hcz⟩ := hW.word (k := m + 16) (by omega)
          go_wp2
          go_roundw
          case rel =>
            have hst := (hW.below (below_drewN' (Below.refl _ _) (nq + nq2))).store32 (m + 16) (nextW (schN b m) m)
            have hlen := len_schN b m
            have hps := pad64_set (schN b m) (nextW (schN b m) m) (by omega)
            rw [hlen, show 16 + m = m + 16 from by omega, ← schN_succ] at hps
            rw [hps] at hst
            have hoth : ∀ j, j ≠ gw → ((wr.drewN (nq + nq2)).setCell ⟨gw, m + 16, none⟩ (.int .u32 ((nextW (schN b m) m).toNat : Int))).heap[j]? = wr.heap[j]? := fun j hj => Below.heap_setCell _ _ _ _ hj
            refine ⟨m + 1, by omega, by go_num, ?_⟩
            rw [next_nat (schN b m) m x14 x9 x1 x0 hlen H14.out H9.out H1.out H0.out]
            exact ⟨hst, hR.other (by omega) hoth, (below_drewN' hBel (nq + nq2)).setCell (by simp; omega) _⟩
          case measure => simp [intOf]; omega
        · obtain rfl : m = 48 := by omega
          have hp : pad64 (schN b 48) = sched b := by
            have := len_schN b 48
            simp [pad64, this, sched]
          rw [hp] at hW
          have hl := len_sched b
          have HP := Lib.hid hp
          have HL := Lib.hid hl
          clear hp hl
          go_wp2_with (first
            | (with_reducible refine wpList_load rfl (.tmp 3) 77 rfl gw 0 _ rfl (cw (sched b)) 64 (by simp [HL.out]) (by kernel_rfl) hW.sees ?_)
            | (with_reducible refine wpList_store rfl rfl (.tmp 2) (.tmp 87) 77 rfl gr 0 w.heap.size 77 64 (cw (List.replicate 64 0)) (cw (sched b)) rfl rfl 64 (by simp [HL.out]) (by kernel_rfl) hR (by omega) (cw_one _) w hBel (by omega) ?_; intro w9 hF9 hB9 _ _))
          have e : splice (cw (List.replicate 64 0)) 0 (cw (sched b)) = cw (sched b) := by
            have := HL.out
            simp [splice, this]
          rw [e] at hF9
          exact bodyPost_cell rfl rfl (cw (sched b)) 64 (by simp [HL.out]) (by kernel_rfl) hF9.sees rfl ⟨rfl, hB9⟩
end Go.Proofs.Ytdpbnppngkamiaa
