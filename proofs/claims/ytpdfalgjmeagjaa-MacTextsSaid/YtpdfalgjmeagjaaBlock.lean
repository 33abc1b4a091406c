/-
  What sha.Block answers: the state by a block, for every table, state and block.
-/
import Derived.Test.YtpdfalgjmeagjaaShaWord
import Derived.Test.YtpdfalgjmeagjaaQTail
import Derived.Test.YtpdfalgjmeagjaaPut
import Derived.Test.YtpdfalgjmeagjaaRegion
namespace Go.Proofs.Ytpdfalgjmeagjaa
open Go.RowKit
set_option linter.unusedVariables false
theorem Fresh.byte {base : Nat} {e : TypeId} {w : World} {g n k : Nat} {l : List UInt8} (h : Fresh base e w (some ⟨g, 0, none⟩) n n (cb l)) (hk : k < n) :
    ∃ c : UInt8, Hid (l[k]? = some c) ∧ c.toNat < 256 ∧ w.cell? ⟨g, k, none⟩ = some (.int .u8 (c.toNat : Int)) := by
  have hl : l.length = n := by simpa using h.len
  obtain ⟨b, o, e, hb, c, h1, h2, h3⟩ := h.sees.byte hl hk
  obtain ⟨rfl, rfl⟩ : g = b ∧ 0 = o := by simpa using e
  exact ⟨c, h1, h2, by simpa using h3⟩
theorem Fresh.word {base : Nat} {e : TypeId} {w : World} {g n k : Nat} {l : List UInt32} (h : Fresh base e w (some ⟨g, 0, none⟩) n n (cw l)) (hk : k < n) :
    ∃ c : UInt32, Hid (l[k]? = some c) ∧ c.toNat < 4294967296 ∧ w.cell? ⟨g, k, none⟩ = some (.int .u32 (c.toNat : Int)) := by
  have hl : l.length = n := by simpa using h.len
  obtain ⟨b, o, e, hb, c, h1, h2, h3⟩ := h.sees.word hl hk
  obtain ⟨rfl, rfl⟩ : g = b ∧ 0 = o := by simpa using e
  exact ⟨c, h1, h2, by simpa using h3⟩
def pad64 (l : List UInt32) : List UInt32 := l ++ List.replicate (64 - l.length) 0
theorem pad64_set (l : List UInt32) (x : UInt32) (h : l.length < 64) : (pad64 l).set l.length x = pad64 (l ++ [x]) := by
  unfold pad64
  rw [List.set_append_right _ _ (Nat.le_refl _), Nat.sub_self, show 64 - l.length = (64 - (l ++ [x]).length) + 1 from by simp; omega, List.replicate_succ]
  simp
theorem or_sum (a b i x : Nat) (hx : x = 2 ^ i * a) (hb : b < 2 ^ i) : x ||| b = x + b := by
  subst hx
  exact (Nat.two_pow_add_eq_or_of_lt hb a).symm
theorem or4 (c0 c1 c2 c3 : UInt8) : bits BinOp.or IntKind.u32 (bits BinOp.or IntKind.u32 (bits BinOp.or IntKind.u32 ((c0.toNat : Int) * 16777216) ((c1.toNat : Int) * 65536)) ((c2.toNat : Int) * 256)) (c3.toNat : Int) = (((((c0.toNat * 256 + c1.toNat) * 256 + c2.toNat) * 256 + c3.toNat : Nat)) : Int) := by
  have h0 := c0.toNat_lt
  have h1 := c1.toNat_lt
  have h2 := c2.toNat_lt
  have h3 := c3.toNat_lt
  generalize c0.toNat = a at *
  generalize c1.toNat = b at *
  generalize c2.toNat = c at *
  generalize c3.toNat = d at *
  rw [show (a : Int) * 16777216 = ((a * 16777216 : Nat) : Int) from by omega, show (b : Int) * 65536 = ((b * 65536 : Nat) : Int) from by omega, show (c : Int) * 256 = ((c * 256 : Nat) : Int) from by omega,
    u32_or_nat _ _ (by omega) (by omega), or_sum a _ 24 _ (by omega) (by omega), u32_or_nat _ _ (by omega) (by omega), or_sum (a * 256 + b) _ 16 _ (by omega) (by omega), u32_or_nat _ _ (by omega) (by omega), or_sum ((a * 256 + b) * 256 + c) _ 8 _ (by omega) (by omega)]
  omega
theorem be_nat (b : List UInt8) (j : Nat) (c0 c1 c2 c3 : UInt8) (h0 : b[j]? = some c0) (h1 : b[j + 1]? = some c1) (h2 : b[j + 2]? = some c2) (h3 : b[j + 3]? = some c3) :
    bits BinOp.or IntKind.u32 (bits BinOp.or IntKind.u32 (bits BinOp.or IntKind.u32 ((c0.toNat : Int) * 16777216) ((c1.toNat : Int) * 65536)) ((c2.toNat : Int) * 256)) (c3.toNat : Int) = ((be b j).toNat : Int) := by
  rw [or4]
  have l0 := c0.toNat_lt
  have l1 := c1.toNat_lt
  have l2 := c2.toNat_lt
  have l3 := c3.toNat_lt
  unfold be
  rw [List.getD_eq_getElem?_getD, List.getD_eq_getElem?_getD, List.getD_eq_getElem?_getD, List.getD_eq_getElem?_getD, h0, h1, h2, h3]
  simp only [Option.getD_some]
  rw [ofNat_toNat32]
  omega
theorem sch16_get (b : List UInt8) (k : Nat) (h : k < 16) : (sch16 b)[k]? = some (be b (4 * k)) := by simp [sch16, h]
theorem take_pad_set (l : List UInt32) (k : Nat) (x : UInt32) (hl : k < 64) (hk : k ≤ l.length) (h : l[k]? = some x) : (pad64 (l.take k)).set k x = pad64 (l.take (k + 1)) := by
  have e : (l.take k).length = k := by simp; omega
  have := pad64_set (l.take k) x (by omega)
  rw [e] at this
  rw [this, List.take_add_one, h]
  rfl
theorem pad_get (l : List UInt32) (j : Nat) (x : UInt32) (hj : j < l.length) (h : (pad64 l)[j]? = some x) : l.getD j 0 = x := by
  unfold pad64 at h
  rw [List.getElem?_append_left hj] at h
  rw [List.getD_eq_getElem?_getD, h]
  rfl
theorem u32_sum4 (a b c d : UInt32) : ((a.toNat : Int) + b.toNat + c.toNat + d.toNat) % 4294967296 = ((a + b + c + d).toNat : Int) := by
  rw [UInt32.toNat_add, UInt32.toNat_add, UInt32.toNat_add]
  omega
theorem next_nat (l : List UInt32) (m : Nat) (x14 x9 x1 x0 : UInt32) (hl : l.length = 16 + m) (h14 : (pad64 l)[m + 14]? = some x14) (h9 : (pad64 l)[m + 9]? = some x9) (h1 : (pad64 l)[m + 1]? = some x1) (h0 : (pad64 l)[m]? = some x0) :
    (bits BinOp.xor IntKind.u32 (bits BinOp.xor IntKind.u32 ((rr x14 17).toNat : Int) ((rr x14 19).toNat : Int)) ((x14.toNat : Int) / 1024) + (x9.toNat : Int) + bits BinOp.xor IntKind.u32 (bits BinOp.xor IntKind.u32 ((rr x1 7).toNat : Int) ((rr x1 18).toNat : Int)) ((x1.toNat : Int) / 8) + (x0.toNat : Int)) % 4294967296 = ((nextW l m).toNat : Int) := by
  unfold nextW
  rw [pad_get l _ _ (by omega) h14, pad_get l _ _ (by omega) h9, pad_get l _ _ (by omega) h1, pad_get l _ _ (by omega) h0]
  have e1 : (x14.toNat : Int) / 1024 = ((sh x14 10).toNat : Int) := u32_sh x14 10
  have e2 : (x1.toNat : Int) / 8 = ((sh x1 3).toNat : Int) := u32_sh x1 3
  rw [e1, e2, u32_xor, u32_xor, u32_xor, u32_xor, u32_sum4]
  rfl
set_option maxHeartbeats 1000000 in
set_option maxRecDepth 100000 in
theorem schedule_any (b : List UInt8) (w : World) (hb : b.length = 64) : Calls Try.prog 94 #[.agg (cb b).toArray] w fun e w' => e = .returned (.agg (cw (sched b)).toArray) ∧ Below w.heap.size w w' := by
  have HB := Lib.hid hb
  clear hb
  go_enter Try.func94, Try.ntmps94
  go_wp2_with (first
    | (with_reducible refine wpList_box (o := ⟨some 1, _, _, _, _, _⟩) rfl (.tmp 0) 43 rfl (cb b) rfl 64 (by simp [HB.out]) (by decide) ?_; intro gb w1 hgb hFb hBb)
    | (with_reducible refine wpList_alloc (o := ⟨some 2, _, _, _, _, _⟩) rfl 24 rfl (cw (List.replicate 64 0)) (by kernel_rfl) 64 (by simp) (by decide) ?_; intro gr w2 hgr hFr hBr)
    | (with_reducible refine wpList_alloc (o := ⟨some 3, _, _, _, _, _⟩) rfl 24 rfl (cw (List.replicate 64 0)) (by kernel_rfl) 64 (by simp) (by decide) ?_; intro gw w3 hgw hFw hBw))
  have d1 := hFb.lt_size
  have d2 := hFr.lt_size
  have hz1 := hBb.size
  have hz2 := hBr.size
  have hB3 := Below.then_ (Below.then_ hBb hBr) hBw
  have hFb3 := (hFb.below hBr).below hBw
  have hFr3 := (hFr.below hBw).lower hz1
  have hFw3 := hFw.lower (Nat.le_trans hz1 hz2)
  clear hFb hFr hFw hBb hBr hBw
  go_loopw [11] (fun i wr => ∃ k : Nat, k ≤ 16 ∧ i = .int .i64 k ∧ Fresh w.heap.size 24 wr (some ⟨gw, 0, none⟩) 64 64 (cw (pad64 ((sch16 b).take k))) ∧ Fresh w.heap.size 43 wr (some ⟨gb, 0, none⟩) 64 64 (cb b) ∧ Fresh w.heap.size 24 wr (some ⟨gr, 0, none⟩) 64 64 (cw (List.replicate 64 0)) ∧ Below w.heap.size w wr) (fun i _ => 16 - (intOf i).toNat)
  case atStart => exact ⟨0, by omega, rfl, hFw3, hFb3, hFr3, hB3⟩
  case round =>
    obtain ⟨k, hk, rfl, hW, hBk, hR, hBel⟩ := hrel
    by_cases hlt : k < 16
    · obtain ⟨c0, H0, l0, r0⟩ := hBk.byte (k := 4 * k) (by omega)
      obtain ⟨c1, H1, l1, r1⟩ := hBk.byte (k := 4 * k + 1) (by omega)
      obtain ⟨c2, H2, l2, r2⟩ := hBk.byte (k := 4 * k + 2) (by omega)
      obtain ⟨c3, H3, l3, r3⟩ := hBk.byte (k := 4 * k + 3) (by omega)
      go_wp2
      refine region_qtail 26 (by kernel_rfl) (by kernel_rfl) ?_
      simp only [List.take_succ_cons, List.take_zero, List.drop_succ_cons, List.drop_zero]
      repeat (go_big_quiet_step (fail))
      refine wpQuiet_nil ?_
      rintro _ ⟨nq, rfl⟩
      have hz := hW.frozenAt (j := k)
      obtain ⟨cz, _, _, hcz⟩ := hW.word (k := k) (by omega)
      go_wp2
      go_roundw
      case rel =>
        have hst := (hW.below (below_drewN' (Below.refl _ _) nq)).store32 k (be b (4 * k))
        rw [take_pad_set _ _ _ (by omega) (by rw [len_sch16]; omega) (sch16_get b k hlt)] at hst
        have hoth : ∀ j, j ≠ gw → ((wr.drewN nq).setCell ⟨gw, k, none⟩ (.int .u32 ((be b (4 * k)).toNat : Int))).heap[j]? = wr.heap[j]? := fun j hj => Below.heap_setCell _ _ _ _ hj
        refine ⟨k + 1, by omega, by go_num, ?_⟩
        rw [be_nat b (4 * k) c0 c1 c2 c3 H0.out H1.out H2.out H3.out]
        exact ⟨hst, hBk.other (by omega) hoth, hR.other (by omega) hoth, (below_drewN' hBel nq).setCell (by simp; omega) _⟩
      case measure => simp [intOf]; omega
    · have hW0 : Fresh w.heap.size 24 wr (some ⟨gw, 0, none⟩) 64 64 (cw (pad64 (schN b 0))) := by
        rw [List.take_of_length_le (by rw [len_sch16]; omega)] at hW
        exact hW
      clear hW
      go_wp2
      go_loopw [44] (fun i ws => ∃ k : Nat, k ≤ 48 ∧ i = .int .i64 k ∧ Fresh w.heap.size 24 ws (some ⟨gw, 0, none⟩) 64 64 (cw (pad64 (schN b k))) ∧ Fresh w.heap.size 24 ws (some ⟨gr, 0, none⟩) 64 64 (cw (List.replicate 64 0)) ∧ Below w.heap.size w ws) (fun i _ => 48 - (intOf i).toNat)
      case atStart => exact ⟨0, by omega, rfl, hW0, hR, hBel⟩
      case round =>
        clear hW0 hR hBel hBk
        obtain ⟨m, hm, rfl, hW, hR, hBel⟩ := hrel
        by_cases hlm : m < 48
        · obtain ⟨x1, H1, l1, r1⟩ := hW.word (k := m + 1) (by omega)
          obtain ⟨x14, H14, l14, r14⟩ := hW.word (k := m + 14) (by omega)
          obtain ⟨x9, H9, l9, r9⟩ := hW.word (k := m + 9) (by omega)
          obtain ⟨x0, H0, l0, r0⟩ := hW.word (k := m) (by omega)
          go_wp2
          go_quiet (fail)
          go_wp2_with (go_at_call 172; refine (ror_any _ _ _ rfl (by decide) _).mono ?_; rintro e w' ⟨rfl, rfl⟩)
          refine region_qtail 14 (by kernel_rfl) (by kernel_rfl) ?_
          simp only [List.take_succ_cons, List.take_zero, List.drop_succ_cons, List.drop_zero]
          repeat (go_big_quiet_step (fail))
          refine wpQuiet_nil ?_
          rintro _ ⟨nq2, rfl⟩
          have hz := hW.frozenAt (j := m + 16)
          obtain ⟨cz, _, _, hcz⟩ := hW.word (k := m + 16) (by omega)
          go_wp2
          go_roundw
          case rel =>
            have hst := (hW.below (below_drewN' (Below.refl _ _) (nq + nq2))).store32 (m + 16) (nextW (schN b m) m)
            have hlen := len_schN b m
            have hps := pad64_set (schN b m) (nextW (schN b m) m) (by omega)
            rw [hlen, show 16 + m = m + 16 from by omega, ← schN_succ] at hps
            rw [hps] at hst
            have hoth : ∀ j, j ≠ gw → ((wr.drewN (nq + nq2)).setCell ⟨gw, m + 16, none⟩ (.int .u32 ((nextW (schN b m) m).toNat : Int))).heap[j]? = wr.heap[j]? := fun j hj => Below.heap_setCell _ _ _ _ hj
            refine ⟨m + 1, by omega, by go_num, ?_⟩
            rw [next_nat (schN b m) m x14 x9 x1 x0 hlen H14.out H9.out H1.out H0.out]
            exact ⟨hst, hR.other (by omega) hoth, (below_drewN' hBel (nq + nq2)).setCell (by simp; omega) _⟩
          case measure => simp [intOf]; omega
        · obtain rfl : m = 48 := by omega
          have hp : pad64 (schN b 48) = sched b := by
            have := len_schN b 48
            simp [pad64, this, sched]
          rw [hp] at hW
          have hl := len_sched b
          have HP := Lib.hid hp
          have HL := Lib.hid hl
          clear hp hl
          go_wp2_with (first
            | (with_reducible refine wpList_load rfl (.tmp 3) 24 rfl gw 0 _ rfl (cw (sched b)) 64 (by simp [HL.out]) (by kernel_rfl) hW.sees ?_)
            | (with_reducible refine wpList_store rfl rfl (.tmp 2) (.tmp 87) 24 rfl gr 0 w.heap.size 24 64 (cw (List.replicate 64 0)) (cw (sched b)) rfl rfl 64 (by simp [HL.out]) (by kernel_rfl) hR (by omega) (cw_one _) w hBel (by omega) ?_; intro w9 hF9 hB9 _ _))
          have e : splice (cw (List.replicate 64 0)) 0 (cw (sched b)) = cw (sched b) := by
            have := HL.out
            simp [splice, this]
          rw [e] at hF9
          exact bodyPost_cell rfl rfl (cw (sched b)) 64 (by simp [HL.out]) (by kernel_rfl) hF9.sees rfl ⟨rfl, hB9⟩
end Go.Proofs.Ytpdfalgjmeagjaa

namespace Go.Proofs.Ytpdfalgjmeagjaa
open Go.RowKit
set_option linter.unusedVariables false
theorem Fresh.cell32 {base : Nat} {e : TypeId} {w : World} {g n k : Nat} {l : List UInt32} (h : Fresh base e w (some ⟨g, 0, none⟩) n n (cw l)) {c : UInt32} (hk : l[k]? = some c) : w.cell? ⟨g, k, none⟩ = some (.int .u32 (c.toNat : Int)) := by
  have hl : l.length = n := by simpa using h.len
  obtain ⟨hlt, _⟩ := List.getElem?_eq_some_iff.1 hk
  obtain ⟨d, h1, _, h3⟩ := h.word (k := k) (by omega)
  have h1' := h1.out
  rw [hk] at h1'
  injection h1' with h1'
  rw [h1']
  exact h3
theorem u32_flip (x : UInt32) : bits BinOp.xor IntKind.u32 (if IntKind.u32.signed = true then -1 else IntKind.u32.max) (x.toNat : Int) = ((~~~x).toNat : Int) := by
  have e : (if IntKind.u32.signed = true then (-1 : Int) else IntKind.u32.max) = (((4294967295 : UInt32)).toNat : Int) := by decide
  rw [e, u32_xor]
  have : (4294967295 : UInt32) ^^^ x = ~~~x := UInt32.neg_one_xor
  rw [this]
theorem u32_sum5 (a b c d e : UInt32) : ((a.toNat : Int) + b.toNat + c.toNat + d.toNat + e.toNat) % 4294967296 = ((a + b + c + d + e).toNat : Int) := by
  rw [UInt32.toNat_add, UInt32.toNat_add, UInt32.toNat_add, UInt32.toNat_add]
  omega
theorem t_nat (e f g h k w : UInt32) : ((h.toNat : Int) + bits BinOp.xor IntKind.u32 (bits BinOp.xor IntKind.u32 ((rr e 6).toNat : Int) ((rr e 11).toNat : Int)) ((rr e 25).toNat : Int) +
    bits BinOp.xor IntKind.u32 (bits BinOp.and IntKind.u32 (e.toNat : Int) (f.toNat : Int)) (bits BinOp.and IntKind.u32 (bits BinOp.xor IntKind.u32 (if IntKind.u32.signed = true then -1 else IntKind.u32.max) (e.toNat : Int)) (g.toNat : Int)) +
    (k.toNat : Int) + (w.toNat : Int)) % 4294967296 = ((tOf e f g h k w).toNat : Int) := by
  rw [u32_flip, u32_xor, u32_xor, u32_and, u32_and, u32_xor, u32_sum5]
  rfl
theorem u_nat (a b c : UInt32) : (bits BinOp.xor IntKind.u32 (bits BinOp.xor IntKind.u32 ((rr a 2).toNat : Int) ((rr a 13).toNat : Int)) ((rr a 22).toNat : Int) +
    bits BinOp.xor IntKind.u32 (bits BinOp.xor IntKind.u32 (bits BinOp.and IntKind.u32 (a.toNat : Int) (b.toNat : Int)) (bits BinOp.and IntKind.u32 (a.toNat : Int) (c.toNat : Int))) (bits BinOp.and IntKind.u32 (b.toNat : Int) (c.toNat : Int))) % 4294967296 = ((uOf a b c).toNat : Int) := by
  rw [u32_and, u32_and, u32_and, u32_xor, u32_xor, u32_xor, u32_xor, u32_add]
  rfl
theorem zip_get (keys ws : List UInt32) (k : Nat) (x y : UInt32) (hx : keys[k]? = some x) (hy : ws[k]? = some y) : (keys.zip ws)[k]? = some (x, y) := by
  rw [List.getElem?_zip_eq_some]
  exact ⟨hx, hy⟩
def RoundRel (keys ws s : List UInt32) (gs gw gr kb ko : Nat) (W : World) (a b c d e f g h i : Value) (wr : World) : Prop :=
  ∃ (k : Nat) (x0 x1 x2 x3 x4 x5 x6 x7 : UInt32), k ≤ 64 ∧ i = .int .i64 k ∧ a = .int .u32 (x0.toNat : Int) ∧ b = .int .u32 (x1.toNat : Int) ∧ c = .int .u32 (x2.toNat : Int) ∧ d = .int .u32 (x3.toNat : Int) ∧
    e = .int .u32 (x4.toNat : Int) ∧ f = .int .u32 (x5.toNat : Int) ∧ g = .int .u32 (x6.toNat : Int) ∧ h = .int .u32 (x7.toNat : Int) ∧ Hid (((keys.zip ws).take k).foldl rnd s = [x0, x1, x2, x3, x4, x5, x6, x7]) ∧
    Fresh W.heap.size 24 wr (some ⟨gw, 0, none⟩) 64 64 (cw ws) ∧ Fresh W.heap.size 23 wr (some ⟨gr, 0, none⟩) 8 8 (cw (List.replicate 8 0)) ∧ Sees wr wr.heap.size (some ⟨kb, ko, none⟩) (cw keys) ∧ Below W.heap.size W wr
set_option maxHeartbeats 2000000 in
set_option maxRecDepth 100000 in
theorem turned_any (kb ko : Nat) (keys ws : List UInt32) (s0 s1 s2 s3 s4 s5 s6 s7 : UInt32) (w : World) (hk : Sees w w.heap.size (some ⟨kb, ko, none⟩) (cw keys)) (hkl : keys.length = 64) (hwl : ws.length = 64) :
    Calls Try.prog 93 #[.pointer (some ⟨kb, ko, none⟩), .agg (cw [s0, s1, s2, s3, s4, s5, s6, s7]).toArray, .agg (cw ws).toArray] w fun e w' => e = .returned (.agg (cw (turn keys ws [s0, s1, s2, s3, s4, s5, s6, s7])).toArray) ∧ Below w.heap.size w w' := by
  have HK := Lib.hid hkl
  have HW := Lib.hid hwl
  clear hkl hwl
  go_enter Try.func93, Try.ntmps93
  go_wp2_with (first
    | (with_reducible refine wpList_box (o := ⟨some 4, _, _, _, _, _⟩) rfl (.tmp 1) 23 rfl (cw [s0, s1, s2, s3, s4, s5, s6, s7]) rfl 8 (by simp) (by decide) ?_; intro gs w1 hgs hFs hBs)
    | (with_reducible refine wpList_box (o := ⟨some 5, _, _, _, _, _⟩) rfl (.tmp 2) 24 rfl (cw ws) rfl 64 (by simp [HW.out]) (by decide) ?_; intro gw w2 hgw hFw hBw)
    | (with_reducible refine wpList_alloc (o := ⟨some 6, _, _, _, _, _⟩) rfl 23 rfl (cw (List.replicate 8 0)) (by kernel_rfl) 8 (by simp) (by decide) ?_; intro gr w3 hgr hFr hBr))
  have d1 := hFs.lt_size
  have d2 := hFw.lt_size
  have hz1 := hBs.size
  have hz2 := hBw.size
  have hB3 := Below.then_ (Below.then_ hBs hBw) hBr
  have hFs3 := (hFs.below hBw).below hBr
  have hFw3 := (hFw.below hBr).lower hz1
  have hFr3 := hFr.lower (Nat.le_trans hz1 hz2)
  have hK3 := hk.step hB3
  clear hFs hFw hFr hBs hBw hBr hk
  have c0 := hFs3.cell32 (k := 0) rfl
  have c1 := hFs3.cell32 (k := 1) rfl
  have c2 := hFs3.cell32 (k := 2) rfl
  have c3 := hFs3.cell32 (k := 3) rfl
  have c4 := hFs3.cell32 (k := 4) rfl
  have c5 := hFs3.cell32 (k := 5) rfl
  have c6 := hFs3.cell32 (k := 6) rfl
  have c7 := hFs3.cell32 (k := 7) rfl
  go_quiet (fail)
  clear c0 c1 c2 c3 c4 c5 c6 c7 hFs3
  go_wp2
  go_loopw [7, 8, 9, 10, 11, 12, 13, 14, 34] (RoundRel keys ws [s0, s1, s2, s3, s4, s5, s6, s7] gs gw gr kb ko w) (fun _ _ _ _ _ _ _ _ i _ => 64 - (intOf i).toNat)
  case atStart => exact ⟨0, s0, s1, s2, s3, s4, s5, s6, s7, by omega, rfl, rfl, rfl, rfl, rfl, rfl, rfl, rfl, rfl, rfl, hFw3.below (below_drewN' (Below.refl _ _) nq), hFr3.below (below_drewN' (Below.refl _ _) nq), hK3.step (below_drewN' (Below.refl _ _) nq), below_drewN' hB3 nq⟩
  case round =>
    obtain ⟨k, x0, x1, x2, x3, x4, x5, x6, x7, hk, rfl, rfl, rfl, rfl, rfl, rfl, rfl, rfl, rfl, HF, hW, hR, hKs, hBel⟩ := hrel
    clear hFw3 hFr3 hK3 hB3
    by_cases hlt : k < 64
    · obtain ⟨wk, H1, l1, r1⟩ := hW.word (k := k) (by omega)
      obtain ⟨b', o', he, hb', kk, H2, l2, r2⟩ := hKs.word HK.out hlt
      obtain ⟨rfl, rfl⟩ : kb = b' ∧ ko = o' := by simpa using he
      clear he
      go_wp2
      go_quiet ((go_at_call 172; exact Calls.quiet_of_same (ror_any _ _ _ rfl (by decide) _)))
      go_wp2_with (go_at_call 172; refine (ror_any _ _ _ rfl (by decide) _).mono ?_; rintro e w' ⟨rfl, rfl⟩)
      go_roundw
      case rel =>
        have hb9 : Below wr.heap.size wr (wr.drewN nq) := below_drewN' (Below.refl _ _) nq
        refine ⟨k + 1, tOf x4 x5 x6 x7 kk wk + uOf x0 x1 x2, x0, x1, x2, x3 + tOf x4 x5 x6 x7 kk wk, x4, x5, x6, by omega, by go_num, ?_, rfl, rfl, rfl, ?_, rfl, rfl, rfl, ?_, hW.below hb9, hR.below hb9, hKs.step hb9, Below.then_ hBel hb9⟩
        · rw [t_nat, u_nat, u32_add]
        · rw [t_nat, u32_add]
        · exact Lib.hid (by rw [foldl_take_succ _ _ _ _ (zip_get keys ws k kk wk H2.out H1.out), HF.out]; rfl)
      case measure => simp [intOf]; omega
    · obtain rfl : k = 64 := by omega
      have hfin : turn keys ws [s0, s1, s2, s3, s4, s5, s6, s7] = [x0, x1, x2, x3, x4, x5, x6, x7] := by
        have h := HF.out
        rwa [List.take_of_length_le (by rw [List.length_zip, HK.out, HW.out]; decide)] at h
      have HT := Lib.hid hfin
      clear hfin
      have hone : ∀ u ∈ [Value.int .u32 (x0.toNat : Int), .int .u32 (x1.toNat : Int), .int .u32 (x2.toNat : Int), .int .u32 (x3.toNat : Int), .int .u32 (x4.toNat : Int), .int .u32 (x5.toNat : Int), .int .u32 (x6.toNat : Int), .int .u32 (x7.toNat : Int)], u.oneCell' = true := cw_one [x0, x1, x2, x3, x4, x5, x6, x7]
      have HO := Lib.hid hone
      clear hone
      go_wp2_with (with_reducible refine wpList_store rfl rfl (.tmp 6) (.tmp 107) 23 rfl gr 0 w.heap.size 23 8 (cw (List.replicate 8 0)) [.int .u32 (x0.toNat : Int), .int .u32 (x1.toNat : Int), .int .u32 (x2.toNat : Int), .int .u32 (x3.toNat : Int), .int .u32 (x4.toNat : Int), .int .u32 (x5.toNat : Int), .int .u32 (x6.toNat : Int), .int .u32 (x7.toNat : Int)] rfl rfl 8 (by simp) (by kernel_rfl) hR (by omega) HO.out w hBel (by omega) ?_; intro w9 hF9 hB9 _ _)
      have e : splice (cw (List.replicate 8 0)) 0 [Value.int .u32 (x0.toNat : Int), .int .u32 (x1.toNat : Int), .int .u32 (x2.toNat : Int), .int .u32 (x3.toNat : Int), .int .u32 (x4.toNat : Int), .int .u32 (x5.toNat : Int), .int .u32 (x6.toNat : Int), .int .u32 (x7.toNat : Int)] = cw (turn keys ws [s0, s1, s2, s3, s4, s5, s6, s7]) := by
        rw [HT.out]
        simp [splice]
      rw [e] at hF9
      exact bodyPost_cell rfl rfl (cw (turn keys ws [s0, s1, s2, s3, s4, s5, s6, s7])) 8 (by simp [HT.out]) (by kernel_rfl) hF9.sees rfl ⟨rfl, hB9⟩
end Go.Proofs.Ytpdfalgjmeagjaa

namespace Go.Proofs.Ytpdfalgjmeagjaa
open Go.RowKit
set_option linter.unusedVariables false
/-- A table lies there. -/
structure Tab (w : World) (tb to : Nat) (first keys : List UInt32) : Prop where
  l1 : first.length = 8
  l2 : keys.length = 64
  sees : Sees w w.heap.size (some ⟨tb, to, none⟩) (cw (first ++ keys))
theorem Tab.step {w w' : World} {tb to : Nat} {first keys : List UInt32} (h : Tab w tb to first keys) (hb : Below w.heap.size w w') : Tab w' tb to first keys := ⟨h.l1, h.l2, h.sees.step hb⟩
theorem Tab.keysAt {w : World} {tb to : Nat} {first keys : List UInt32} (h : Tab w tb to first keys) : Sees w w.heap.size (some ⟨tb, to + 8, none⟩) (cw keys) := by
  have := h.sees.drop_ 8
  rwa [show (cw (first ++ keys)).drop 8 = cw keys from by simp [cw, h.l1]] at this
theorem Tab.firstAt {w : World} {tb to : Nat} {first keys : List UInt32} (h : Tab w tb to first keys) : Sees w w.heap.size (some ⟨tb, to, none⟩) (cw first) := by
  have := h.sees.take_ 8
  rwa [show (cw (first ++ keys)).take 8 = cw first from by simp [cw, h.l1]] at this
theorem eight (s : List UInt32) (h : s.length = 8) : ∃ a b c d e f g i, s = [a, b, c, d, e, f, g, i] := by
  match s, h with
  | [a, b, c, d, e, f, g, i], _ => exact ⟨a, b, c, d, e, f, g, i, rfl⟩
theorem turned_list (kb ko : Nat) (keys ws s : List UInt32) (w : World) (hk : Sees w w.heap.size (some ⟨kb, ko, none⟩) (cw keys)) (hkl : keys.length = 64) (hwl : ws.length = 64) (hs : s.length = 8) :
    Calls Try.prog 93 #[.pointer (some ⟨kb, ko, none⟩), .agg (cw s).toArray, .agg (cw ws).toArray] w fun e w' => e = .returned (.agg (cw (turn keys ws s)).toArray) ∧ Below w.heap.size w w' := by
  obtain ⟨a, b, c, d, e, f, g, i, rfl⟩ := eight s hs
  exact turned_any kb ko keys ws a b c d e f g i w hk hkl hwl
def blkFacts (N tb to : Nat) (s keys : List UInt32) (b : List UInt8) (j : Nat) (v : Value) (w : World) : Prop :=
  match j with
  | 0 => v = .pointer (some ⟨tb, to, none⟩)
  | 1 => v = .pointer (some ⟨tb, to, none⟩)
  | 2 => v = .pointer (some ⟨tb, to + 8, none⟩)
  | 3 => v = .agg (cw s).toArray
  | 4 => v = .agg (cb b).toArray
  | 5 => v = .agg (cw (sched b)).toArray
  | 6 => v = .agg (cw (turn keys (sched b) s)).toArray
  | 7 => ∃ g, v = .pointer (some ⟨g, 0, none⟩) ∧ Fresh N 23 w (some ⟨g, 0, none⟩) 8 8 (cw (List.replicate 8 0))
  | _ => True
theorem blkFacts_stab (N tb to : Nat) (s keys : List UInt32) (b : List UInt8) : ∀ j v w w', Below w.heap.size w w' → blkFacts N tb to s keys b j v w → blkFacts N tb to s keys b j v w' := by
  intro j v w w' hb h
  unfold blkFacts at *
  split at h <;> first | exact h | (obtain ⟨g, h1, h2⟩ := h; exact ⟨g, h1, h2.below hb⟩) | trivial
/-- Of the first k words the sums, of the others what they were. -/
def partSum (t s : List UInt32) (k : Nat) : List UInt32 := (sums t s).take k ++ t.drop k
theorem partSum_get (t s : List UInt32) (k : Nat) (ht : t.length = 8) (hs : s.length = 8) (hk : k < 8) : (partSum t s k)[k]? = t[k]? := by
  unfold partSum
  have hl := len_sums t s ht hs
  rw [List.getElem?_append_right (by simp [hl]; omega), List.getElem?_drop]
  congr 1
  simp [hl]
  omega
theorem partSum_set (t s : List UInt32) (k : Nat) (x y : UInt32) (ht : t.length = 8) (hs : s.length = 8) (hk : k < 8) (hx : t[k]? = some x) (hy : s[k]? = some y) : (partSum t s k).set k (x + y) = partSum t s (k + 1) := by
  unfold partSum
  have hl := len_sums t s ht hs
  have hlt : ((sums t s).take k).length = k := by simp [hl]; omega
  have hz : (sums t s)[k]? = some (x + y) := by
    unfold sums
    rw [List.getElem?_zipWith, hx, hy]
  rw [List.set_append_right _ _ (by omega), hlt, Nat.sub_self, List.drop_eq_getElem_cons (by omega), List.set_cons_zero, List.take_add_one, hz, List.append_assoc]
  rfl
set_option maxHeartbeats 2000000 in
set_option maxRecDepth 100000 in
theorem Block_any (tb to : Nat) (first keys s : List UInt32) (b : List UInt8) (w : World) (ht : Tab w tb to first keys) (hs : s.length = 8) (hb : b.length = 64) :
    Calls Try.prog 22 #[.pointer (some ⟨tb, to, none⟩), .agg (cw s).toArray, .agg (cb b).toArray] w fun e w' => e = .returned (.agg (cw (blockF keys s b)).toArray) ∧ Below w.heap.size w w' := by
  have HS := Lib.hid hs
  have HB := Lib.hid hb
  clear hs hb
  go_enter Try.func22, Try.ntmps22
  go_wp2_with (first
    | (with_reducible refine wpList_box (o := ⟨some 4, _, _, _, _, _⟩) rfl (.tmp 1) 23 rfl (cw s) rfl 8 (by simp [HS.out]) (by decide) ?_; intro gs w1 hgs hFs hBs)
    | (with_reducible refine wpList_box (o := ⟨some 5, _, _, _, _, _⟩) rfl (.tmp 2) 43 rfl (cb b) rfl 64 (by simp [HB.out]) (by decide) ?_; intro gb w2 hgb hFb hBb)
    | (with_reducible refine wpList_alloc (o := ⟨some 6, _, _, _, _, _⟩) rfl 23 rfl (cw (List.replicate 8 0)) (by kernel_rfl) 8 (by simp) (by decide) ?_; intro gr w3 hgr hFr hBr))
  have d1 := hFs.lt_size
  have d2 := hFb.lt_size
  have d3 := hFr.lt_size
  have hz1 := hBs.size
  have hz2 := hBb.size
  have hB3 := Below.then_ (Below.then_ hBs hBb) hBr
  have hFs3 := (hFs.below hBb).below hBr
  have hFb3 := (hFb.below hBr).lower hz1
  have hFr3 := hFr.lower (Nat.le_trans hz1 hz2)
  have hT3 := ht.step hB3
  clear hFs hFb hFr hBs hBb hBr ht
  refine region_all_tail 8 (blkFacts w3.heap.size tb to s keys b) (by kernel_rfl) (by kernel_rfl) (by kernel_rfl) (blkFacts_stab _ _ _ _ _ _) ?_ ?_
  · intro w0 hb0
    simp only [List.take_succ_cons, List.take_zero]
    refine ⟨?_, ?_, ?_, ?_, ?_, ?_, ?_, ?_, trivial⟩
    all_goals intro listed a1 w' hk hd
    · have f2 := hk.ev_old 0 (by kernel_rfl)
      exact stepOk_value rfl (v := .pointer (some ⟨tb, to, none⟩)) (by simp [execOp]; exact f2) rfl
    · obtain ⟨v, e0, _, rfl⟩ := hk.ev_new hd 0 12 (by kernel_rfl) rfl
      exact stepOk_value rfl (v := .pointer (some ⟨tb, to, none⟩)) (by go_simp) rfl
    · obtain ⟨v, e0, _, rfl⟩ := hk.ev_new hd 1 13 (by kernel_rfl) rfl
      exact stepOk_value rfl (v := .pointer (some ⟨tb, to + 8, none⟩)) (by go_simp) rfl
    · have f2 := hk.ev_old 4 (by kernel_rfl)
      have hF := (hFs3.below hb0).below hk.below
      exact stepOk_value rfl (run_load_agg (.tmp 4) 23 rfl f2 (cw s) 8 (by simp [HS.out]) (by kernel_rfl) hF.sees) rfl
    · have f2 := hk.ev_old 5 (by kernel_rfl)
      have hF := (hFb3.below hb0).below hk.below
      exact stepOk_value rfl (run_load_agg (.tmp 5) 43 rfl f2 (cb b) 64 (by simp [HB.out]) (by kernel_rfl) hF.sees) rfl
    · obtain ⟨v, e0, _, rfl⟩ := hk.ev_new hd 4 16 (by kernel_rfl) rfl
      refine stepOk_enter rfl (f := 94) (args := #[.agg (cb b).toArray]) (by go_simp) ?_
      refine (schedule_any b _ HB.out).mono ?_
      rintro e w5 ⟨rfl, hB5⟩
      exact ⟨_, rfl, rfl, hB5⟩
    · obtain ⟨v, e0, _, rfl⟩ := hk.ev_new hd 2 14 (by kernel_rfl) rfl
      obtain ⟨v, e1, _, rfl⟩ := hk.ev_new hd 3 15 (by kernel_rfl) rfl
      obtain ⟨v, e2, _, rfl⟩ := hk.ev_new hd 5 17 (by kernel_rfl) rfl
      refine stepOk_enter rfl (f := 93) (args := #[.pointer (some ⟨tb, to + 8, none⟩), .agg (cw s).toArray, .agg (cw (sched b)).toArray]) (by go_simp) ?_
      refine (turned_list tb (to + 8) keys (sched b) s _ ((hT3.step hb0).step hk.below).keysAt hT3.l2 (len_sched b) HS.out).mono ?_
      rintro e w5 ⟨rfl, hB5⟩
      exact ⟨_, rfl, rfl, hB5⟩
    · refine stepOk_run rfl (v := .pointer (some ⟨w'.heap.size, 0, none⟩)) (w' := w'.alloc (.cells (cw (List.replicate 8 0)).toArray 23 (0, 0))) ?_ ⟨_, rfl, (Fresh.new w' 23 (cw (List.replicate 8 0)) 8 (by simp) (by decide)).lower ?_⟩ (below_alloc _ _)
      · simp only [execOp]
        rw [Sem.run_bind, run_alloc_zero 23 (cw (List.replicate 8 0)) (by kernel_rfl)]
        rfl
      · have h2 := hb0.size
        have h3 := hk.below.size
        omega
  · intro a1 w' hbw hp
    obtain ⟨v0, p0, v1, p1, v2, p2, v3, p3, v4, p4, v5, p5, v6, p6, v7, p7, rfl⟩ := hp
    simp only [blkFacts] at p0 p1 p2 p3 p4 p5 p6 p7
    subst p0 p1 p2 p3 p4 p5 p6
    obtain ⟨gt, rfl, hFt⟩ := p7
    simp only [List.drop_succ_cons, List.drop_zero, Act.put, List.setIfInBounds_toArray, List.set_cons_succ, List.set_cons_zero]
    have htl := len_turn keys (sched b) s HS.out
    have HT := Lib.hid htl
    clear htl
    have hBw := Below.then_ hB3 hbw
    have hFs4 := hFs3.below hbw
    have hFr4 := hFr3.below hbw
    have hz3 := hB3.size
    have hz4 := hbw.size
    have hgt := hFt.block.2
    have hdt := hFt.lt_size
    replace hFt := hFt.lower hz3
    have hB5 := hbw
    clear hFs3 hFr3 hFb3 hT3 hB3 hbw
    go_wp2_with (with_reducible refine wpList_store rfl rfl (.tmp 7) (.tmp 18) 23 rfl gt 0 w.heap.size 23 8 (cw (List.replicate 8 0)) (cw (turn keys (sched b) s)) rfl rfl 8 (by simp [HT.out]) (by kernel_rfl) hFt (by omega) (cw_one _) w hBw (by omega) ?_; intro w6 hF6 hB6 hoth6 hsz6)
    have e0 : splice (cw (List.replicate 8 0)) 0 (cw (turn keys (sched b) s)) = cw (partSum (turn keys (sched b) s) s 0) := by
      have := HT.out
      simp [splice, partSum, this]
    rw [e0] at hF6
    have hFs6 := hFs4.other (g' := gt) (by omega) hoth6
    have hFr6 := hFr4.other (g' := gt) (by omega) hoth6
    clear hFs4 hFr4 hoth6 hBw hFt hB5 e0
    go_loopw [19] (fun i wr => ∃ k : Nat, k ≤ 8 ∧ i = .int .i64 k ∧ Fresh w.heap.size 23 wr (some ⟨gt, 0, none⟩) 8 8 (cw (partSum (turn keys (sched b) s) s k)) ∧ Fresh w.heap.size 23 wr (some ⟨gs, 0, none⟩) 8 8 (cw s) ∧ Fresh w.heap.size 23 wr (some ⟨gr, 0, none⟩) 8 8 (cw (List.replicate 8 0)) ∧ Below w.heap.size w wr) (fun i _ => 8 - (intOf i).toNat)
    case atStart => exact ⟨0, by omega, rfl, hF6, hFs6, hFr6, hB6⟩
    case round =>
      obtain ⟨k, hk, rfl, hW, hS, hR, hBel⟩ := hrel
      clear hF6 hFs6 hFr6 hB6
      by_cases hlt : k < 8
      · obtain ⟨x, H1, l1, r1⟩ := hW.word (k := k) (by omega)
        obtain ⟨y, H2, l2, r2⟩ := hS.word (k := k) (by omega)
        go_wp2
        refine region_qtail 7 (by kernel_rfl) (by kernel_rfl) ?_
        simp only [List.take_succ_cons, List.take_zero, List.drop_succ_cons, List.drop_zero]
        repeat (go_big_quiet_step (fail))
        refine wpQuiet_nil ?_
        rintro _ ⟨nq, rfl⟩
        have hz := hW.frozenAt (j := k)
        go_wp2
        go_roundw
        case rel =>
          have hst := (hW.below (below_drewN' (Below.refl _ _) nq)).store32 k (x + y)
          have hx : (turn keys (sched b) s)[k]? = some x := by rw [← partSum_get _ s k HT.out HS.out hlt]; exact H1.out
          rw [partSum_set _ _ _ _ _ HT.out HS.out hlt hx H2.out] at hst
          have hoth : ∀ j, j ≠ gt → ((wr.drewN nq).setCell ⟨gt, k, none⟩ (.int .u32 ((x + y).toNat : Int))).heap[j]? = wr.heap[j]? := fun j hj => Below.heap_setCell _ _ _ _ hj
          refine ⟨k + 1, by omega, by go_num, ?_⟩
          rw [u32_add]
          exact ⟨hst, hS.other (by omega) hoth, hR.other (by omega) hoth, (below_drewN' hBel nq).setCell (by simp; omega) _⟩
        case measure => simp [intOf]; omega
      · obtain rfl : k = 8 := by omega
        have hp : partSum (turn keys (sched b) s) s 8 = blockF keys s b := by
          have h1 := HT.out
          have h2 := len_sums _ _ HT.out HS.out
          simp [partSum, blockF, h1, List.take_of_length_le (Nat.le_of_eq h2)]
        rw [hp] at hW
        have hl := len_blockF keys s b HS.out
        have HL := Lib.hid hl
        clear hl hp
        go_wp2_with (first
          | (with_reducible refine wpList_load rfl (.tmp 7) 23 rfl gt 0 _ rfl (cw (blockF keys s b)) 8 (by simp [HL.out]) (by kernel_rfl) hW.sees ?_)
          | (with_reducible refine wpList_store rfl rfl (.tmp 6) (.tmp 31) 23 rfl gr 0 w.heap.size 23 8 (cw (List.replicate 8 0)) (cw (blockF keys s b)) rfl rfl 8 (by simp [HL.out]) (by kernel_rfl) hR (by omega) (cw_one _) w hBel (by omega) ?_; intro w9 hF9 hB9 _ _))
        have e : splice (cw (List.replicate 8 0)) 0 (cw (blockF keys s b)) = cw (blockF keys s b) := by
          have := HL.out
          simp [splice, this]
        rw [e] at hF9
        exact bodyPost_cell rfl rfl (cw (blockF keys s b)) 8 (by simp [HL.out]) (by kernel_rfl) hF9.sees rfl ⟨rfl, hB9⟩
end Go.Proofs.Ytpdfalgjmeagjaa
