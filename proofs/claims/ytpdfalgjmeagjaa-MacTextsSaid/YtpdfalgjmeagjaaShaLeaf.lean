/-
  What the small functions of package sha answer: isRight, owned, byteOf, New, Pad.
-/
import Derived.Test.YtpdfalgjmeagjaaBlock
import Derived.Test.YtpdfalgjmeagjaaLow
import Derived.Test.YtpdfalgjmeagjaaPut
namespace Go.Proofs.Ytpdfalgjmeagjaa
open Go.RowKit
set_option linter.unusedVariables false
/-- The cells of a hasher. -/
abbrev hz (s : List UInt32) (v : Value) (L : Int) : List Value := cw s ++ [v, .int .i64 L]
theorem hz_len (s : List UInt32) (v : Value) (L : Int) (h : s.length = 8) : (hz s v L).length = 10 := by simp [h]
theorem hz_rest (s : List UInt32) (v : Value) (L : Int) (h : s.length = 8) : (hz s v L)[8]? = some v := by
  rw [List.getElem?_append_right (by simp [h])]
  simp [h]
theorem hz_n (s : List UInt32) (v : Value) (L : Int) (h : s.length = 8) : (hz s v L)[9]? = some (.int .i64 L) := by
  rw [List.getElem?_append_right (by simp [h])]
  simp [h]
theorem Fresh.cell_ {base : Nat} {e : TypeId} {w : World} {g n k : Nat} {xs : List Value} (h : Fresh base e w (some ⟨g, 0, none⟩) n n xs) {u : Value} (hk : xs[k]? = some u) : w.cell? ⟨g, k, none⟩ = some u := by
  obtain ⟨hlt, _⟩ := List.getElem?_eq_some_iff.1 hk
  obtain ⟨b, o, he, _, hc⟩ := h.sees (by omega)
  obtain ⟨rfl, rfl⟩ : g = b ∧ 0 = o := by simpa using he
  simpa using hc k u hk
/-- A right hasher. -/
def Right (n : Nat) (L : Int) : Prop := 0 ≤ L ∧ L ≤ 72057594037927936 ∧ (n : Int) = L % 64
set_option maxHeartbeats 400000 in
theorem isRight_true (s : List UInt32) (A : Option Addr) (n c : Nat) (L : Int) (w : World) (hs : s.length = 8) (hr : Right n L) :
    Calls Try.prog 90 #[.agg (hz s (.slice A n c) L).toArray] w fun e w' => e = .returned (.bool true) ∧ Below w.heap.size w w' := by
  obtain ⟨h0, h1, h2⟩ := hr
  have HS := Lib.hid hs
  have H2 := Lib.hid h2
  clear hs h2
  go_enter Try.func90, Try.ntmps90
  go_wp2_with (with_reducible refine wpList_box (o := ⟨some 1, _, _, _, _, _⟩) rfl (.tmp 0) 31 rfl (hz s (.slice A n c) L) rfl 10 (hz_len _ _ _ HS.out) (by decide) ?_; intro gh w1 hgh hFh hBh; have c8 := hFh.cell_ (hz_rest s (.slice A n c) L HS.out); have c9 := hFh.cell_ (hz_n s (.slice A n c) L HS.out))
  go_ret
  exact ⟨ret_bool (by simp [H2.out]), hBh⟩
set_option maxHeartbeats 400000 in
theorem isRight_false (s : List UInt32) (A : Option Addr) (n c : Nat) (L : Int) (w : World) (hs : s.length = 8) (hr : ¬ Right n L) :
    Calls Try.prog 90 #[.agg (hz s (.slice A n c) L).toArray] w fun e w' => e = .returned (.bool false) ∧ Below w.heap.size w w' := by
  have HS := Lib.hid hs
  clear hs
  by_cases h0 : 0 ≤ L
  · by_cases h1 : L ≤ 72057594037927936
    · have h2 : ¬ (n : Int) = L % 64 := fun h => hr ⟨h0, h1, h⟩
      have H2 := Lib.hid h2
      clear h2 hr
      go_enter Try.func90, Try.ntmps90
      go_wp2_with (with_reducible refine wpList_box (o := ⟨some 1, _, _, _, _, _⟩) rfl (.tmp 0) 31 rfl (hz s (.slice A n c) L) rfl 10 (hz_len _ _ _ HS.out) (by decide) ?_; intro gh w1 hgh hFh hBh; have c8 := hFh.cell_ (hz_rest s (.slice A n c) L HS.out); have c9 := hFh.cell_ (hz_n s (.slice A n c) L HS.out))
      go_ret
      exact ⟨ret_bool (by simpa using H2.out), hBh⟩
    · have hd : decide (L ≤ 72057594037927936) = false := by simpa using h1
      clear hr h1
      go_enter Try.func90, Try.ntmps90
      go_wp2_with (with_reducible refine wpList_box (o := ⟨some 1, _, _, _, _, _⟩) rfl (.tmp 0) 31 rfl (hz s (.slice A n c) L) rfl 10 (hz_len _ _ _ HS.out) (by decide) ?_; intro gh w1 hgh hFh hBh; have c8 := hFh.cell_ (hz_rest s (.slice A n c) L HS.out); have c9 := hFh.cell_ (hz_n s (.slice A n c) L HS.out))
      go_ret
      exact ⟨rfl, hBh⟩
  · have hd : decide (0 ≤ L) = false := by simpa using h0
    clear hr h0
    go_enter Try.func90, Try.ntmps90
    go_wp2_with (with_reducible refine wpList_box (o := ⟨some 1, _, _, _, _, _⟩) rfl (.tmp 0) 31 rfl (hz s (.slice A n c) L) rfl 10 (hz_len _ _ _ HS.out) (by decide) ?_; intro gh w1 hgh hFh hBh; have c8 := hFh.cell_ (hz_rest s (.slice A n c) L HS.out); have c9 := hFh.cell_ (hz_n s (.slice A n c) L HS.out))
    go_ret
    exact ⟨rfl, hBh⟩
theorem owned_any (A : Option Addr) (c n : Nat) (l : List UInt8) (w : World) (hs : Sees w w.heap.size A (cb l)) (hl : l.length = n) (hn : n ≤ 1099511627776) :
    Calls Try.prog 91 #[.slice A n c] w (Made8 w n l) := by
  have HL := Lib.hid hl
  clear hl
  go_enter Try.func91, Try.ntmps91
  go_wp2_with (at_builtin; refine wpList_app8 rfl (.const (.slice none 0 0)) (.tmp 3) rfl none A 0 0 n c [] l w rfl rfl (fresh_nil _ _ _) hs HL.out (by omega) (Below.refl _ _) ?_; intro A' c' w1 hF1 hB1)
  go_ret
  exact ⟨A', c', by simp, by simpa using hF1, hB1⟩
theorem sbyteOf_any (n i : Nat) (I : Int) (w : World) (hn : n < 4294967296) (hI : I = (i : Int)) (hi : i < 4) :
    Calls Try.prog 92 #[.int .u32 (n : Int), .int .i64 I] w fun e w' => e = .returned (.int .u8 ((byteAt n i).toNat : Int)) ∧ w = w' := by
  subst hI
  go_enter Try.func92, Try.ntmps92
  go_wp2
  go_ret
  exact ⟨ret_int (byteAt_nat n i).symm, rfl⟩

theorem New_nil (w : World) : Calls Try.prog 16 #[.pointer none] w fun e w' => e = .returned (.agg (hz (List.replicate 8 0) (.slice none 0 0) 0).toArray) ∧ Below w.heap.size w w' := by
  go_enter Try.func16, Try.ntmps16
  go_wp2_with (first
    | (with_reducible refine wpList_alloc (o := ⟨some 2, _, _, _, _, _⟩) rfl 31 rfl (hz (List.replicate 8 0) (.slice none 0 0) 0) (by kernel_rfl) 10 (by simp) (by decide) ?_; intro gr w1 hgr hFr hBr)
    | (with_reducible refine wpList_store rfl rfl (.tmp 2) (.tmp 5) 31 rfl gr 0 w.heap.size 31 10 _ [.int .u32 0, .int .u32 0, .int .u32 0, .int .u32 0, .int .u32 0, .int .u32 0, .int .u32 0, .int .u32 0, .slice none 0 0, .int .i64 0] rfl rfl 10 (by simp) (by kernel_rfl) hFr (by omega) (allOne_out (by kernel_rfl)) w hBr (by omega) ?_; intro w9 hF9 hB9 _ _))
  exact bodyPost_cell rfl rfl _ 10 (by simp [splice]) (by kernel_rfl) hF9.sees rfl ⟨rfl, hB9⟩
theorem New_any (tb to : Nat) (first keys : List UInt32) (w : World) (ht : Tab w tb to first keys) : Calls Try.prog 16 #[.pointer (some ⟨tb, to, none⟩)] w fun e w' => e = .returned (.agg (hz first (.slice none 0 0) 0).toArray) ∧ Below w.heap.size w w' := by
  have hl := ht.l1
  obtain ⟨a, b, c, d, e, f, g, i, rfl⟩ := eight first hl
  clear hl
  go_enter Try.func16, Try.ntmps16
  go_wp2_with (first
    | (with_reducible refine wpList_alloc (o := ⟨some 2, _, _, _, _, _⟩) rfl 31 rfl (hz (List.replicate 8 0) (.slice none 0 0) 0) (by kernel_rfl) 10 (by simp) (by decide) ?_; intro gr w1 hgr hFr hBr)
    | (with_reducible refine wpList_load rfl (.tmp 8) 23 rfl tb to _ rfl (cw [a, b, c, d, e, f, g, i]) 8 (by simp) (by kernel_rfl) (ht.step hBr).firstAt ?_)
    | (with_reducible refine wpList_store rfl rfl (.tmp 2) (.tmp 10) 31 rfl gr 0 w.heap.size 31 10 _ [.int .u32 (a.toNat : Int), .int .u32 (b.toNat : Int), .int .u32 (c.toNat : Int), .int .u32 (d.toNat : Int), .int .u32 (e.toNat : Int), .int .u32 (f.toNat : Int), .int .u32 (g.toNat : Int), .int .u32 (i.toNat : Int), .slice none 0 0, .int .i64 0] rfl rfl 10 (by simp) (by kernel_rfl) hFr (by omega) (allOne_out (by kernel_rfl)) w hBr (by omega) ?_; intro w9 hF9 hB9 _ _))
  exact bodyPost_cell rfl rfl _ 10 (by simp [splice]) (by kernel_rfl) hF9.sees rfl ⟨rfl, hB9⟩
theorem Pad_neg (n : Int) (w : World) (hn : n < 0) : Calls Try.prog 24 #[.int .i64 n] w fun e w' => e = .returned (.slice none 0 0) ∧ w = w' := by
  go_enter Try.func24, Try.ntmps24
  go_wp2
  go_ret
  exact ⟨rfl, rfl⟩
/-- The padding with its last k bytes laid. -/
def padK (x z k : Nat) : List UInt8 := 128 :: (List.replicate z 0 ++ (List.replicate (8 - k) 0 ++ (be8 x).drop (8 - k)))
theorem len_padK (x z k : Nat) (hk : k ≤ 8) : (padK x z k).length = 9 + z := by
  simp [padK, len_be8]
  omega
theorem be8_get (x k : Nat) (hk : k < 8) : (be8 x)[k]? = some (UInt8.ofNat (x / 2 ^ (8 * (7 - k)) % 256)) := by simp [be8, hk]
theorem padK_set (x z k : Nat) (hk : k < 8) : (padK x z k).set (8 + z - k) (UInt8.ofNat (x / 2 ^ (8 * k) % 256)) = padK x z (k + 1) := by
  unfold padK
  have hg := be8_get x (7 - k) (by omega)
  rw [show 7 - (7 - k) = k from by omega] at hg
  obtain ⟨hlt, hg'⟩ := List.getElem?_eq_some_iff.1 hg
  rw [show 8 + z - k = (7 + z - k) + 1 from by omega, List.set_cons_succ, List.set_append_right _ _ (by simp; omega), List.length_replicate, show 7 + z - k - z = 7 - k from by omega,
    show 8 - k = (7 - k) + 1 from by omega, List.set_append_left _ _ (by simp), List.replicate_succ', List.set_append_right _ _ (by simp), List.length_replicate, Nat.sub_self, List.set_cons_zero,
    show 8 - (k + 1) = 7 - k from by omega, List.drop_eq_getElem_cons hlt, hg', List.append_assoc]
  rfl
theorem padK_zero (x z : Nat) : (128 : UInt8) :: List.replicate (8 + z) 0 = padK x z 0 := by
  unfold padK
  rw [show 8 - 0 = 8 from rfl, List.drop_of_length_le (by simp [len_be8]), List.append_nil, List.replicate_append_replicate, Nat.add_comm]
theorem padK_all (n : Nat) : padK (8 * n) (noughts n) 8 = padL n := by
  unfold padK padL
  simp
theorem size_byte (n k : Nat) (hk : k < 8) : 8 * n % 18446744073709551616 / 2 ^ (8 * k) % 256 = 8 * n / 2 ^ (8 * k) % 256 := by
  have e : (18446744073709551616 : Nat) = 2 ^ (8 * k) * 2 ^ (64 - 8 * k) := by rw [← Nat.pow_add, show 8 * k + (64 - 8 * k) = 64 from by omega]
  rw [e, Nat.mod_mul_right_div_self]
  have e2 : (2 : Nat) ^ (64 - 8 * k) = 256 * 2 ^ (56 - 8 * k) := by rw [show 64 - 8 * k = 8 + (56 - 8 * k) from by omega, Nat.pow_add]
  rw [e2, Nat.mod_mul_right_mod]
set_option maxHeartbeats 400000 in
set_option maxRecDepth 100000 in
theorem Pad_any (n z : Nat) (w : World) (hn : n ≤ 9223372036854775807) (hz : noughts n = z) : Calls Try.prog 24 #[.int .i64 (n : Int)] w (Made8 w (9 + z) (padL n)) := by
  have HZ := Lib.hid hz
  unfold noughts at hz
  have hz64 : z < 64 := by omega
  have hz1 : (z : Int) ≤ (128 - ((n : Int) % 64 + 1 + 8)) % 64 := by omega
  have hz2 : (128 - ((n : Int) % 64 + 1 + 8)) % 64 ≤ (z : Int) := by omega
  clear hz
  have hd : decide ((n : Int) < 0) = false := by simp
  obtain ⟨x, hx, HX⟩ : ∃ x : Nat, IntKind.u64.wrap (8 * (n : Int)) = (x : Int) ∧ Hid (x = 8 * n % 18446744073709551616) := ⟨8 * n % 18446744073709551616, by
    have e : IntKind.u64.wrap (8 * (n : Int)) = (8 * (n : Int)) % 18446744073709551616 := rfl
    rw [e]
    omega, rfl⟩
  go_enter Try.func24, Try.ntmps24
  go_wp2_with (at_make; refine wpList_mk8 rfl (.tmp 19) rfl _ (9 + z) rfl (by omega) (by omega) ?_; intro w1 hF1 hB1; obtain ⟨u, hc0⟩ := hF1.cellAt (j := 0) (by omega); have hf0 := hF1.frozenAt (j := 0))
  clear hx
  have hst0 := hF1.store8 0 128
  rw [show (List.replicate (9 + z) (0 : UInt8)).set 0 128 = padK (8 * n) z 0 from by rw [show 9 + z = (8 + z) + 1 from by omega, List.replicate_succ, List.set_cons_zero, padK_zero (8 * n) z]] at hst0
  have hB2 := hB1.setCell (p := ⟨w.heap.size, 0, none⟩) (by simp) (.int .u8 128)
  go_loopw [26] (fun i wr => ∃ k : Nat, k ≤ 8 ∧ i = .int .i64 k ∧ Fresh w.heap.size 5 wr (some ⟨w.heap.size, 0, none⟩) (9 + z) (9 + z) (cb (padK (8 * n) z k)) ∧ Below w.heap.size w wr) (fun i _ => 8 - (intOf i).toNat)
  case atStart => exact ⟨0, by omega, rfl, hst0, hB2⟩
  case round =>
    obtain ⟨k, hk, rfl, hW, hBel⟩ := hrel
    clear hst0 hB2 hF1 hB1 hc0 hf0
    by_cases hlt : k < 8
    · obtain ⟨u, hc⟩ := hW.cellAt (j := 8 + z - k) (by omega)
      have hf := hW.frozenAt (j := 8 + z - k)
      go_wp2
      go_roundw
      case rel =>
        have hst := hW.store8 (8 + z - k) (UInt8.ofNat (8 * n / 2 ^ (8 * k) % 256))
        rw [padK_set _ _ _ hlt] at hst
        have e : (x : Int) / 2 ^ (8 * k) % 256 = ((UInt8.ofNat (8 * n / 2 ^ (8 * k) % 256)).toNat : Int) := by
          rw [ofNat_toNat _ (Nat.mod_lt _ (by omega)), ← size_byte n k hlt, ← HX.out, shr_nat]
          rfl
        refine ⟨k + 1, by omega, by go_num, ?_⟩
        rw [e]
        exact ⟨hst, hBel.setCell (by simp) _⟩
      case measure => simp [intOf]; omega
    · obtain rfl : k = 8 := by omega
      have hp := padK_all n
      rw [HZ.out] at hp
      rw [hp] at hW
      clear hp
      go_wp2
      go_ret
      exact ⟨_, _, rfl, hW, hBel⟩
end Go.Proofs.Ytpdfalgjmeagjaa
