/-
  LamportTexts returns true for every input, and writes nothing that was there: the walk.
-/
import Derived.Test.YtehokoeajinboaaLamAwake
import Derived.Test.YtehokoeajinboaaQTail
import Derived.Test.YtehokoeajinboaaShaSame
import Derived.Test.YtehokoeajinboaaPick
import Derived.ProofKit
import Derived.OpenShut
namespace Go.Proofs.Ytehokoeajinboaa
open Go.RowKit
set_option linter.unusedVariables false

theorem flat_inj : ∀ (xs ys : List (List UInt8)), xs.length = ys.length → (∀ l ∈ xs, l.length = 32) → (∀ l ∈ ys, l.length = 32) → xs.flatMap blob = ys.flatMap blob → xs = ys
  | [], [], _, _, _, _ => rfl
  | [], b :: ys, h, _, _, _ => by simp at h
  | a :: xs, [], h, _, _, _ => by simp at h
  | a :: xs, b :: ys, h, ha, hb, e => by
    have h1 := ha a List.mem_cons_self
    have h2 := hb b List.mem_cons_self
    rw [List.flatMap_cons, List.flatMap_cons, blob, blob, h1, h2, List.append_assoc, List.append_assoc] at e
    have e2 := List.append_cancel_left e
    have e3 := List.append_inj e2 (by omega)
    rw [e3.1, flat_inj xs ys (by simpa using h) (fun x hx => ha x (List.mem_cons_of_mem _ hx)) (fun x hx => hb x (List.mem_cons_of_mem _ hx)) e3.2]
theorem textP_eq (d hl ol d' hl' ol' : List UInt8) (h1 : hl.length = 8192) (h2 : ol.length = 8192) (h3 : hl'.length = 8192) (h4 : ol'.length = 8192) : textP d hl ol = textP d' hl' ol' ↔ ∀ j, j < 512 → pairF d hl ol j = pairF d' hl' ol' j := by
  constructor
  · intro e j hj
    unfold textP textF at e
    have l1 : (pairsF d hl ol).length = 512 := by simp [pairsF]
    have l2 : (pairsF d' hl' ol').length = 512 := by simp [pairsF]
    rw [l1, l2] at e
    have e2 := flat_inj _ _ (by rw [l1, l2]) (pairsF_len d hl ol h1 h2) (pairsF_len d' hl' ol' h3 h4) (List.append_cancel_left e)
    have e3 := congrArg (fun l => l[j]?) e2
    simp only [pairsF, List.getElem?_map, List.getElem?_range hj, Option.map_some] at e3
    exact Option.some.inj e3
  · intro h
    have e : pairsF d hl ol = pairsF d' hl' ol' := List.map_congr_left fun j hj => h j (List.mem_range.1 hj)
    unfold textP
    rw [e]
theorem flip_bit : ∀ r, r < 8 → ∀ x, x < 256 → ∀ q, q < 8 → (Nat.xor x (128 / 2 ^ r)) / 2 ^ (7 - q) % 2 = if q = r then 1 - x / 2 ^ (7 - q) % 2 else x / 2 ^ (7 - q) % 2 := by decide +kernel
theorem turn_bit : ∀ x, x < 256 → ∀ q, q < 8 → (Nat.xor x 255) / 2 ^ (7 - q) % 2 = 1 - x / 2 ^ (7 - q) % 2 := by decide +kernel
/-- All bits turned. -/
def turnedL (d : List UInt8) : List UInt8 := d.map (· ^^^ 255)
theorem bit_turned (d : List UInt8) (hd : d.length = 32) (i : Nat) (hi : i < 256) : bitF (turnedL d) i = 1 - bitF d i := by
  unfold bitF turnedL
  rw [List.getD_eq_getElem?_getD, List.getD_eq_getElem?_getD, List.getElem?_map, List.getElem?_eq_getElem (by omega)]
  have h := turn_bit (d[i / 8]'(by omega)).toNat (d[i / 8]'(by omega)).toNat_lt (i % 8) (by omega)
  simp only [Option.map_some, Option.getD_some, UInt8.toNat_xor]
  exact h
theorem text_turned (d hl ol : List UInt8) (hd : d.length = 32) (h1 : hl.length = 8192) (h2 : ol.length = 8192) : textP (turnedL d) ol hl = textP d hl ol := by
  rw [textP_eq _ _ _ _ _ _ h2 h1 h1 h2]
  intro j hj
  unfold pairF
  rw [bit_turned d hd (j / 2) (by omega)]
  have := bitF_lt d (j / 2)
  by_cases h : j % 2 = bitF d (j / 2)
  · rw [if_pos h, if_neg (by omega)]
  · rw [if_neg h, if_pos (by omega)]
/-- One bit turned. -/
def flipL (d : List UInt8) (k : Nat) : List UInt8 := d.set (k / 8) (d.getD (k / 8) 0 ^^^ (128 >>> UInt8.ofNat (k % 8)))
theorem shr128 : ∀ r, r < 8 → ((128 : UInt8) >>> UInt8.ofNat r).toNat = 128 / 2 ^ r := by decide
theorem bit_flip (d : List UInt8) (hd : d.length = 32) (k : Nat) (hk : k < 256) (i : Nat) (hi : i < 256) : bitF (flipL d k) i = if i = k then 1 - bitF d i else bitF d i := by
  unfold bitF flipL
  rw [List.getD_eq_getElem?_getD, List.getD_eq_getElem?_getD, List.getD_eq_getElem?_getD, List.getElem?_set]
  by_cases h : k / 8 = i / 8
  · rw [if_pos h, if_pos (by omega), h]
    simp only [Option.getD_some, UInt8.toNat_xor, shr128 (k % 8) (by omega)]
    have h3 := flip_bit (k % 8) (by omega) (d[i / 8]?.getD 0).toNat (d[i / 8]?.getD 0).toNat_lt (i % 8) (by omega)
    refine h3.trans ?_
    by_cases h4 : i % 8 = k % 8
    · rw [if_pos h4, if_pos (by omega)]
    · rw [if_neg h4, if_neg (by omega)]
  · rw [if_neg h, if_neg (by omega)]
theorem text_flip (d hl ol : List UInt8) (hd : d.length = 32) (h1 : hl.length = 8192) (h2 : ol.length = 8192) (k : Nat) (hk : k < 256) : (textP (flipL d k) hl ol == textP d hl ol) = (chunk hl k == chunk ol k) := by
  rw [Bool.eq_iff_iff, beq_iff_eq, beq_iff_eq, textP_eq _ _ _ _ _ _ h1 h2 h1 h2]
  constructor
  · intro h
    have h3 := h (2 * k + bitF d k) (by have := bitF_lt d k; omega)
    have h4 := bitF_lt d k
    unfold pairF at h3
    rw [show (2 * k + bitF d k) / 2 = k from by omega, bit_flip d hd k hk k hk, if_pos rfl, if_neg (by omega), if_pos (by omega)] at h3
    exact h3.symm
  · intro h j hj
    unfold pairF
    rw [bit_flip d hd k hk (j / 2) (by omega)]
    have := bitF_lt d (j / 2)
    by_cases h5 : j / 2 = k
    · rw [h5, h]
      simp
    · rw [if_neg h5]
/-- One byte of one half turned. -/
def otherL (hl : List UInt8) (k p : Nat) (t : UInt8) : List UInt8 := hl.set (32 * k + p) (hl.getD (32 * k + p) 0 ^^^ t)
theorem xor_same (x t : UInt8) : x ^^^ t = x ↔ t = 0 := by
  constructor
  · intro h
    have h1 : x ^^^ (x ^^^ t) = 0 := by rw [h]; exact UInt8.xor_self
    rwa [← UInt8.xor_assoc, UInt8.xor_self, UInt8.zero_xor] at h1
  · rintro rfl
    exact UInt8.xor_zero
theorem text_other (d hl ol : List UInt8) (h1 : hl.length = 8192) (h2 : ol.length = 8192) (k p : Nat) (hk : k < 256) (hp : p < 32) (t : UInt8) : (textP d (otherL hl k p t) ol == textP d hl ol) = (t == 0) := by
  have h3 : (otherL hl k p t).length = 8192 := by simp [otherL, h1]
  have hc : ∀ j i, (chunk (otherL hl k p t) j)[i]? = if i < 32 then (if 32 * k + p = 32 * j + i then some (hl.getD (32 * k + p) 0 ^^^ t) else hl[32 * j + i]?) else none := by
    intro j i
    rw [get_chunk]
    by_cases hi : i < 32
    · rw [if_pos hi, if_pos hi, otherL, List.getElem?_set]
      by_cases e : 32 * k + p = 32 * j + i
      · rw [if_pos e, if_pos e, if_pos (by omega)]
      · rw [if_neg e, if_neg e]
    · rw [if_neg hi, if_neg hi]
  rw [Bool.eq_iff_iff, beq_iff_eq, beq_iff_eq, textP_eq _ _ _ _ _ _ h3 h2 h1 h2]
  constructor
  · intro h
    have h4 := bitF_lt d k
    have h5 := h (2 * k + bitF d k) (by omega)
    unfold pairF at h5
    rw [show (2 * k + bitF d k) / 2 = k from by omega, if_pos (by omega), if_pos (by omega)] at h5
    have h6 := congrArg (fun l => l[p]?) h5
    replace h6 : (chunk (otherL hl k p t) k)[p]? = (chunk hl k)[p]? := h6
    rw [hc, get_chunk, if_pos hp, if_pos hp, if_pos rfl, List.getD_eq_getElem?_getD, List.getElem?_eq_getElem (by omega)] at h6
    exact (xor_same _ _).1 (Option.some.inj h6)
  · rintro rfl j hj
    have e : otherL hl k p 0 = hl := by
      unfold otherL
      rw [UInt8.xor_zero, List.getD_eq_getElem?_getD, List.getElem?_eq_getElem (by omega)]
      simp
    rw [e]
end Go.Proofs.Ytehokoeajinboaa
namespace Go.Proofs.Ytehokoeajinboaa
open Go.RowKit
set_option linter.unusedVariables false

theorem arrS : Try.prog.underlying 97 = some (.array 256 31) := by kernel_rfl
theorem sizeS : (Try.prog.info? 31).map (·.size) = some 32 := by kernel_rfl
theorem chunk_left (S O : List UInt8) (h : S.length = 8192) (k : Nat) (hk : k < 256) : chunk (S ++ O) k = chunk S k := by
  unfold chunk
  rw [List.drop_append_of_le_length (by omega), List.take_append_of_le_length (by rw [List.length_drop]; omega)]
theorem sees_right {w : World} {B g : Nat} {S O : List UInt8} (h : Sees w B (some ⟨g, 0, none⟩) (cb (S ++ O))) (hS : S.length = 8192) : Sees w B (some ⟨g, 8192, none⟩) (cb O) := by
  have h1 := h.drop_ 8192
  rw [Nat.zero_add] at h1
  have e : (cb (S ++ O)).drop 8192 = cb O := by
    rw [cb, List.map_append, List.drop_append, List.length_map, hS, Nat.sub_self, List.drop_zero, List.drop_eq_nil_of_le (by rw [List.length_map]; omega), List.nil_append]
  rwa [e] at h1
theorem Fresh.spotT {w : World} {base n c : Nat} {A : Option Addr} {e : TypeId} {xs : List Value} (h : Fresh base e w A n c xs) (hn : 0 < n) : ∃ g, A = some ⟨g, 0, none⟩ ∧ base ≤ g ∧ g < w.heap.size := by
  rcases h.2 with ⟨hv, rfl⟩ | ⟨g, cap, cur, hv, hb, hg, _⟩
  · omega
  · simp only [Value.slice.injEq] at hv
    exact ⟨g, hv.1, hb, (Array.getElem?_eq_some_iff.1 hg).1⟩
theorem xor255 (x : UInt8) : bits .xor .u8 (x.toNat : Int) 255 = ((x ^^^ 255).toNat : Int) := u8_xor_nat x.toNat 255 x.toNat_lt (by decide)
def ltF (B gs gh b1 c1 k : Nat) (d2 S O T : List UInt8) (b : Bool) (j : Nat) (x : Value) (w : World) : Prop :=
  match j with
  | 0 => x = .agg (cb (d2)).toArray
  | 1 => x = .agg (cb (S)).toArray
  | 2 => x = .pointer (some ⟨gs, 8192, none⟩)
  | 3 => x = .agg (cb (O)).toArray
  | 4 => ∃ A c, x = .slice A 16900 c ∧ Fresh B 5 w A 16900 c (cb T)
  | 5 => x = .slice (some ⟨b1, 0, none⟩) 16900 c1
  | 6 => x = .bool b
  | 7 => x = .int .i64 (k : Int)
  | 8 => x = .pointer (some ⟨gh, 32 * k, none⟩)
  | 9 => x = .agg (cb (chunk S k)).toArray
  | 10 => x = .int .i64 (k : Int)
  | 11 => x = .pointer (some ⟨gs, 8192, none⟩)
  | 12 => x = .pointer (some ⟨gs, 8192 + 32 * k, none⟩)
  | 13 => x = .agg (cb (chunk O k)).toArray
  | 14 => x = .bool b
  | 15 => x = .bool true
  | _ => True
theorem ltF_stab (B gs gh b1 c1 k : Nat) (d2 S O T : List UInt8) (b : Bool) : ∀ j x w w', Below w.heap.size w w' → ltF B gs gh b1 c1 k d2 S O T b j x w → ltF B gs gh b1 c1 k d2 S O T b j x w' := by
  intro j x w w' hb h
  unfold ltF at *
  split at h <;> first | exact h | (obtain ⟨A, c, e, hF⟩ := h; exact ⟨A, c, e, hF.below hb⟩) | trivial
theorem sees_chunkR {w : World} {B g : Nat} {S O : List UInt8} (h : Sees w B (some ⟨g, 0, none⟩) (cb (S ++ O))) (hS : S.length = 8192) (k : Nat) : Sees w B (some ⟨g, 8192 + 32 * k, none⟩) (cb (chunk O k)) := by
  have h1 := ((sees_right h hS).drop_ (32 * k)).take_ 32
  have e : ((cb O).drop (32 * k)).take 32 = cb (chunk O k) := by simp [cb, chunk, List.map_take, List.map_drop]
  rwa [e] at h1
theorem arrDg : Try.prog.underlying 98 = some (.array 256 32) := by kernel_rfl
section
variable {w : World}
set_option maxHeartbeats 4000000 in
set_option maxRecDepth 100000 in
theorem texts_walk (d S O : List UInt8) (hd : d.length = 32) (h1 : S.length = 8192) (h2 : O.length = 8192) (za zp : Int) (wa : -9223372036854775808 ≤ za ∧ za ≤ 9223372036854775807) (wp : -9223372036854775808 ≤ zp ∧ zp ≤ 9223372036854775807) (t : UInt8) :
    Calls Try.prog 11 #[.agg (cb d).toArray, .agg (cb (S ++ O)).toArray, .int .i64 za, .int .i64 zp, .int .u8 (t.toNat : Int)] w fun e w' => e = .returned (.bool true) ∧ Below w.heap.size w w' := by
  have HD := Lib.hid hd
  have H1 := Lib.hid h1
  have H2 := Lib.hid h2
  have HSO : Hid ((cb (S ++ O)).length = 16384) := Lib.hid (by rw [List.length_map, List.length_append, h1, h2])
  have HT2 := Lib.hid (text_turned d S O hd h1 h2)
  have HT3 := Lib.hid (fun k p hk hp => text_other d S O h1 h2 k p hk hp t)
  have HT4 := Lib.hid (fun k hk => text_flip d S O hd h1 h2 k hk)
  have ht1 := fun w' => LText_any (w := w') d S O hd h1 h2
  have ht2 := fun w' => LText_any (w := w') (turnedL d) O S (by rw [turnedL, List.length_map]; exact hd) h2 h1
  have ht3 := fun w' k p => LText_any (w := w') d (otherL S k p t) O hd (by rw [otherL, List.length_set]; exact h1) h2
  have ht4 := fun w' k => LText_any (w := w') (flipL d k) S O (by rw [flipL, List.length_set]; exact hd) h1 h2
  have HL : Hid ((textP d S O).length = 16900) := Lib.hid (len_textP d S O h1 h2)
  have HA1 := Lib.hid ht1
  have HA2 := Lib.hid ht2
  have HA3 := Lib.hid ht3
  have HA4 := Lib.hid ht4
  clear hd h1 h2 ht1 ht2 ht3 ht4
  go_enter Try.func11, Try.ntmps11
  go_wp2_with (first
    | (with_reducible refine wpList_box (o := ⟨some 5, _, _, _, _, _⟩) rfl (.tmp 0) 32 rfl (cb d) rfl 32 (by rw [List.length_map]; exact HD.out) (by decide) ?_; intro gd w1 hgd hFd hBd)
    | (with_reducible refine wpList_box (o := ⟨some 6, _, _, _, _, _⟩) rfl (.tmp 1) 100 rfl (cb (S ++ O)) rfl 16384 HSO.out (by decide) ?_; intro gs w2 hgs hFs hBs)
    | (with_reducible refine wpList_alloc (o := ⟨some 11, _, _, _, _, _⟩) rfl 98 rfl (cb (List.replicate 8192 0)) (by kernel_rfl) 8192 (len_zb 8192) (by decide) ?_; intro gh w3 hgh hFh hBh))
  have z1 := hBd.size
  have z2 := hBs.size
  have ld := hFd.lt_size
  have ls := hFs.lt_size
  have hB3 := Below.then_ (Below.then_ hBd hBs) hBh
  have fd := (hFd.below hBs).below hBh
  have fs := (hFs.below hBh).lower (base' := w.heap.size) (by omega)
  have fh := hFh.lower (base' := w.heap.size) (by omega)
  have n1 : gd ≠ gh := by omega
  have n2 : gs ≠ gh := by omega
  have n3 : w.heap.size ≤ gh := by omega
  clear hFd hFs hFh hBd hBs hBh z1 z2 ld ls hgd hgs hgh
  go_loopw [20] (fun i wr => ∃ (k : Nat) (L : List UInt8), k ≤ 256 ∧ i = .int .i64 (k : Int) ∧ Hid (L.length = 8192) ∧ Hid (∀ j, j < k → chunk L j = chunk S j) ∧ Fresh w.heap.size 32 wr (some ⟨gd, 0, none⟩) 32 32 (cb d) ∧ Fresh w.heap.size 100 wr (some ⟨gs, 0, none⟩) 16384 16384 (cb (S ++ O)) ∧ Fresh w.heap.size 98 wr (some ⟨gh, 0, none⟩) 8192 8192 (cb L) ∧ Below w.heap.size w wr) (fun i _ => 256 - (intOf i).toNat)
  case atStart => exact ⟨0, _, by omega, rfl, Lib.hid List.length_replicate, Lib.hid (fun j hj => by omega), fd, fs, fh, hB3⟩
  case round =>
    clear fd fs fh hB3
    obtain ⟨k, L, hk, rfl, HL8, HC, fd, fs, fh, hB⟩ := hrel
    by_cases hlt : k < 256
    · have hcl := chunk_left S O H1.out k hlt
      have hse := sees_chunk (off := k * 32) fs.sees k (by omega)
      rw [hcl] at hse
      have hC : Hid ((cb (chunk S k)).length = 32) := Lib.hid (by rw [List.length_map]; exact len_chunk S k (by rw [H1.out]; omega))
      clear hcl
      go_wp2_with (first
        | (with_reducible refine wpList_load (o := ⟨some 27, _, _, _, _, _⟩) rfl (.tmp 26) 31 rfl gs (k * 32) _ rfl (cb (chunk S k)) 32 hC.out (by kernel_rfl) hse ?_)
        | (with_reducible refine wpList_store rfl rfl (.tmp 28) (.tmp 27) 32 rfl gh (k * 32) w.heap.size 98 8192 (cb L) (cb (chunk S k)) rfl rfl 32 hC.out (by kernel_rfl) fh (by omega) (cb_one _) w hB n3 ?_; intro w8 f8 hB8 ho8 hz8))
      rw [cb_splice, Nat.mul_comm k 32] at f8
      go_roundw
      case rel =>
        have hC2 : (chunk S k).length = 32 := len_chunk S k (by rw [H1.out]; omega)
        refine ⟨k + 1, _, by omega, by go_num, Lib.hid ?_, Lib.hid ?_, fd.other n1 ho8, fs.other n2 ho8, f8, hB8⟩
        · rw [len_splice8 _ _ _ (by rw [hC2, HL8.out]; omega), HL8.out]
        · intro j hj
          rw [chunk_splice _ _ _ _ hC2 (by rw [HL8.out]; omega)]
          by_cases e : j = k
          · rw [if_pos e, e]
          · rw [if_neg e]
            exact HC.out j (by omega)
      case measure => simp [intOf]; omega
    · obtain rfl : k = 256 := by omega
      obtain rfl : L = S := chunks_ext L S 256 HL8.out H1.out HC.out
      have hso := sees_right fs.sees H1.out
      clear HL8 HC
      go_upto_region 9 with (first
        | (with_reducible refine wpList_load (o := ⟨some 30, _, _, _, _, _⟩) rfl (.tmp 5) 32 rfl gd 0 _ rfl (cb d) 32 (by rw [List.length_map]; exact HD.out) (by kernel_rfl) fd.sees ?_)
        | (with_reducible refine wpList_load (o := ⟨some 31, _, _, _, _, _⟩) rfl (.tmp 11) 98 rfl gh 0 _ rfl (cb L) 8192 (by rw [List.length_map]; exact H1.out) (by kernel_rfl) fh.sees ?_)
        | (with_reducible refine wpList_load (o := ⟨some 33, _, _, _, _, _⟩) rfl (.tmp 32) 98 rfl gs 8192 _ rfl (cb O) 8192 (by rw [List.length_map]; exact H2.out) (by kernel_rfl) hso ?_)
        | (go_at_call 63; refine (HA1.out _).mono ?_; rintro e w4 ⟨A1, c1, rfl, hF4, hB4⟩; have fd4 := fd.below hB4; have fs4 := fs.below hB4; have fh4 := fh.below hB4; have hBw4 := Below.then_ hB hB4; have lh4 := fh4.lt_size; have ls4 := fs4.lt_size; have ld4 := fd4.lt_size)
        | (with_reducible refine wpList_load (o := ⟨some 35, _, _, _, _, _⟩) rfl (.tmp 5) 32 rfl gd 0 _ rfl (cb d) 32 (by rw [List.length_map]; exact HD.out) (by kernel_rfl) fd4.sees ?_)
        | (with_reducible refine wpList_alloc (o := ⟨some 14, _, _, _, _, _⟩) rfl 32 rfl (cb (List.replicate 32 0)) (by kernel_rfl) 32 (len_zb 32) (by decide) ?_; intro gt w5 hgt hFt hBt; have hBw5 := Below.then_ hBw4 hBt; have zw5 := hBw4.size)
        | (with_reducible refine wpList_store rfl rfl (.tmp 14) (.tmp 35) 32 rfl gt 0 w4.heap.size 32 32 (cb (List.replicate 32 0)) (cb d) rfl rfl 32 (by rw [List.length_map]; exact HD.out) (by kernel_rfl) hFt (by omega) (cb_one _) w hBw5 (by omega) ?_; intro w6 f6 hB6 ho6 hz6))
      simp only [Act.put, List.setIfInBounds_toArray, List.set_cons_succ, List.set_cons_zero]
      rw [splice_zb 32 d HD.out] at f6
      have fd6 := (fd4.below hBt).other (g' := gt) (by omega) ho6
      have fs6 := (fs4.below hBt).other (g' := gt) (by omega) ho6
      have fh6 := (fh4.below hBt).other (g' := gt) (by omega) ho6
      obtain ⟨b1, rfl, q1, q2⟩ := hF4.spotT (by omega)
      have hs1 : Sees w6 w6.heap.size (some ⟨b1, 0, none⟩) (cb (textP d L O)) := (Sees.other ((hF4.below hBt).sees) (by omega) ho6).more (by omega)
      have gt5 : b1 ≠ gt := by omega
      have gt1 : gd ≠ gt := by omega
      have gt2 : gs ≠ gt := by omega
      have gt3 : gh ≠ gt := by omega
      have gt4 : w.heap.size ≤ gt := by omega
      replace f6 := f6.lower (base' := w.heap.size) (by omega)
      clear fd4 fs4 fh4 hBt hBw4 hBw5 ho6 hz6 hF4 hB4 fd fs fh hB hso zw5 hFt hgt n1 n2 n3
      go_wp2_with fail
      go_loopw [36] (fun i wr => ∃ (k : Nat) (M : List UInt8), k ≤ 32 ∧ i = .int .i64 (k : Int) ∧ Hid (M.length = 32) ∧ Hid (∀ j, M[j]? = if j < k then (turnedL d)[j]? else d[j]?) ∧ Fresh w.heap.size 32 wr (some ⟨gd, 0, none⟩) 32 32 (cb d) ∧ Fresh w.heap.size 100 wr (some ⟨gs, 0, none⟩) 16384 16384 (cb (L ++ O)) ∧ Fresh w.heap.size 98 wr (some ⟨gh, 0, none⟩) 8192 8192 (cb L) ∧ Fresh w.heap.size 32 wr (some ⟨gt, 0, none⟩) 32 32 (cb M) ∧ Sees wr wr.heap.size (some ⟨b1, 0, none⟩) (cb (textP d L O)) ∧ Below w.heap.size w wr) (fun i _ => 32 - (intOf i).toNat)
      case atStart => exact ⟨0, d, by omega, rfl, HD, Lib.hid (fun j => by rw [if_neg (by omega)]), fd6, fs6, fh6, f6, hs1, hB6⟩
      case round =>
        clear fd6 fs6 fh6 f6 hs1 hB6
        obtain ⟨k, M, hk, rfl, HM, HMj, fd, fs, fh, ft, hs1, hB⟩ := hrel
        by_cases hlt : k < 32
        · obtain ⟨x, hx⟩ : ∃ x, d[k]? = some x := ⟨d[k]'(by rw [HD.out]; exact hlt), List.getElem?_eq_getElem (by rw [HD.out]; exact hlt)⟩
          have HX := Lib.hid hx
          have hcell : wr.cell? ⟨gt, k, none⟩ = some (.int .u8 (x.toNat : Int)) := ft.cell_ (by rw [cb, List.getElem?_map, HMj.out k, if_neg (by omega), hx]; rfl)
          have hzf := ft.frozenAt (j := k)
          have hxor := xor255 x
          clear hx
          go_wp2_with fail
          go_roundw
          case rel =>
            have hxe : x.toNat ^^^ 255 = (x ^^^ 255).toNat := by rw [UInt8.toNat_xor]; rfl
            have hoth : ∀ j, j ≠ gt → (wr.setCell ⟨gt, k, none⟩ (.int .u8 ((x.toNat ^^^ 255 : Nat) : Int))).heap[j]? = wr.heap[j]? := fun j hj => Below.heap_setCell _ _ _ _ hj
            have hst := ft.store8 k (x ^^^ 255)
            rw [← hxe] at hst
            refine ⟨k + 1, _, by omega, by go_num, Lib.hid ?_, Lib.hid ?_, fd.other gt1 hoth, fs.other gt2 hoth, fh.other gt3 hoth, hst, (hs1.other gt5 hoth).more (by simp), hB.setCell gt4 _⟩
            · rw [List.length_set]; exact HM.out
            · intro j
              rw [List.getElem?_set, HM.out, HMj.out j]
              by_cases e : k = j
              · subst e
                rw [if_pos rfl, if_pos hlt, if_pos (by omega), turnedL, List.getElem?_map, HX.out]
                rfl
              · rw [if_neg e]
                by_cases e2 : j < k
                · rw [if_pos e2, if_pos (by omega)]
                · rw [if_neg e2, if_neg (by omega)]
          case measure => simp [intOf]; omega
        · obtain rfl : k = 32 := by omega
          obtain rfl : M = turnedL d := by
            apply List.ext_getElem?
            intro j
            rw [HMj.out j]
            by_cases e : j < 32
            · rw [if_pos e]
            · rw [if_neg e, List.getElem?_eq_none (by rw [HD.out]; omega), List.getElem?_eq_none (by rw [turnedL, List.length_map, HD.out]; omega)]
          have hso := sees_right fs.sees H1.out
          have ha2 := HA2.out
          rw [HT2.out] at ha2
          have HA2' := Lib.hid ha2
          have hlt1 := HL.out
          have HT1 := Lib.hid hlt1
          have hteq : (textP d L O == textP d L O) = true := by simp
          have la := fh.lt_size
          have hpa : ∀ w', Calls Try.prog 68 #[.int .i64 za, .int .i64 256] w' fun e w'' => ∃ r : Nat, r < 256 ∧ e = .returned (.int .i64 (r : Int)) ∧ w'' = w' := fun w' => Pick_any za 256 w' (by omega) (by omega) wa
          have hpp : ∀ w', Calls Try.prog 68 #[.int .i64 zp, .int .i64 32] w' fun e w'' => ∃ r : Nat, r < 32 ∧ e = .returned (.int .i64 (r : Int)) ∧ w'' = w' := fun w' => Pick_any zp 32 w' (by omega) (by omega) wp
          clear HA2 HT2 ha2 hlt1 HMj
          go_upto_region 18 with (first
            | (with_reducible refine wpList_load (o := ⟨some 45, _, _, _, _, _⟩) rfl (.tmp 14) 32 rfl gt 0 _ rfl (cb (turnedL d)) 32 (by rw [List.length_map]; exact HM.out) (by kernel_rfl) ft.sees ?_)
            | (with_reducible refine wpList_load (o := ⟨some 47, _, _, _, _, _⟩) rfl (.tmp 46) 98 rfl gs 8192 _ rfl (cb O) 8192 (by rw [List.length_map]; exact H2.out) (by kernel_rfl) hso ?_)
            | (with_reducible refine wpList_load (o := ⟨some 48, _, _, _, _, _⟩) rfl (.tmp 11) 98 rfl gh 0 _ rfl (cb L) 8192 (by rw [List.length_map]; exact H1.out) (by kernel_rfl) fh.sees ?_)
            | (go_at_call 63; refine (HA2'.out _).mono ?_; rintro e w7 ⟨A2, c2, rfl, hF7, hB7⟩; have hs2 := hs1.step hB7)
            | (go_at_call 17; refine (SameBytes_any A2 (some ⟨b1, 0, none⟩) c2 c1 16900 16900 (textP d L O) (textP d L O) _ hF7.sees hs2 HT1.out HT1.out).mono ?_; rintro e w8 ⟨rfl, rfl⟩; rw [hteq])
            | (go_at_call 68; with_reducible refine (hpa _).mono ?_; rintro e w7 ⟨k, hk, rfl, rfl⟩)
            | (go_at_call 68; with_reducible refine (hpp _).mono ?_; rintro e w7 ⟨p, hp, rfl, rfl⟩)
            | (with_reducible refine wpList_load (o := ⟨some 57, _, _, _, _, _⟩) rfl (.tmp 11) 98 rfl gh 0 _ rfl (cb L) 8192 (by rw [List.length_map]; exact H1.out) (by kernel_rfl) (fh.below hB7).sees ?_)
            | (with_reducible refine wpList_alloc (o := ⟨some 18, _, _, _, _, _⟩) rfl 98 rfl (cb (List.replicate 8192 0)) (by kernel_rfl) 8192 (len_zb 8192) (by decide) ?_; intro go w9 hgo hFo hBo)
            | (with_reducible refine wpList_store rfl rfl (.tmp 18) (.tmp 57) 98 rfl go 0 w7.heap.size 98 8192 (cb (List.replicate 8192 0)) (cb L) rfl rfl 8192 (by rw [List.length_map]; exact H1.out) (by kernel_rfl) hFo (by omega) (cb_one _) w (Below.then_ (Below.then_ hB hB7) hBo) (by have := hB.size; have := hB7.size; omega) ?_; intro w10 f10 hB10 ho10 hz10))
          -- REST
          simp only [Act.put, List.setIfInBounds_toArray, List.set_cons_succ, List.set_cons_zero]
          rw [splice_zb 8192 L H1.out] at f10
          have lb1 := ((hF7.spotT (by omega)))
          have hb1lt : b1 < w7.heap.size := by
            obtain ⟨b', o', e1, e2, e3⟩ := hs2 (by rw [List.length_map, HT1.out]; omega)
            simp at e1
            omega
          have fd10 := ((fd.below hB7).below hBo).other (g' := go) (by have := (fd.below hB7).lt_size; omega) ho10
          have fs10 := ((fs.below hB7).below hBo).other (g' := go) (by have := (fs.below hB7).lt_size; omega) ho10
          have fh10 := ((fh.below hB7).below hBo).other (g' := go) (by have := (fh.below hB7).lt_size; omega) ho10
          have hs10 : Sees w10 w10.heap.size (some ⟨b1, 0, none⟩) (cb (textP d L O)) := ((hs2.step hBo).other (by omega) ho10).more hz10
          have m1 : gd ≠ go := by have := (fd.below hB7).lt_size; omega
          have m2 : gs ≠ go := by have := (fs.below hB7).lt_size; omega
          have m3 : gh ≠ go := by have := (fh.below hB7).lt_size; omega
          have m4 : b1 ≠ go := by omega
          have m5 : w.heap.size ≤ go := by have := hB.size; have := hB7.size; omega
          replace f10 := f10.lower (base' := w.heap.size) (by have := hB.size; have := hB7.size; omega)
          obtain ⟨x, hx⟩ : ∃ x, L[32 * k + p]? = some x := ⟨L[32 * k + p]'(by rw [H1.out]; omega), List.getElem?_eq_getElem (by rw [H1.out]; omega)⟩
          have hoe : L.set (k * 32 + p) (x ^^^ t) = otherL L k p t := by
            unfold otherL
            rw [List.getD_eq_getElem?_getD, hx, Nat.mul_comm k 32]
            rfl
          have hcell : w10.cell? ⟨go, k * 32 + p, none⟩ = some (.int .u8 (x.toNat : Int)) := f10.cell_ (by rw [cb, List.getElem?_map, Nat.mul_comm k 32, hx]; rfl)
          have hxt : bits .xor .u8 (x.toNat : Int) (t.toNat : Int) = ((x.toNat ^^^ t.toNat : Nat) : Int) := u8_xor_nat x.toNat t.toNat x.toNat_lt t.toNat_lt
          have hkp : k * 32 + p < 8192 := by omega
          have HOE := Lib.hid hoe
          clear hx hoe fd fs fh ft hs1 hB hso hs2 hF7 hB7 hBo hFo ho10 hz10 gt1 gt2 gt3 gt4 gt5 hpa hpp lb1 hgo la
          refine region_qtail 9 (by kernel_rfl) (by kernel_rfl) ?_
          simp only [List.take_succ_cons, List.take_zero, List.drop_succ_cons, List.drop_zero]
          repeat (go_big_quiet_step (fail))
          refine wpQuiet_nil ?_
          rintro _ ⟨nq, rfl⟩
          have hzz := f10.frozenAt (j := k * 32 + p)
          have hBq := below_drewN' (Below.refl w10.heap.size w10) nq
          have hoth : ∀ j, j ≠ go → ((w10.drewN nq).setCell ⟨go, k * 32 + p, none⟩ (.int .u8 ((x.toNat ^^^ t.toNat : Nat) : Int))).heap[j]? = w10.heap[j]? := fun j hj => Below.heap_setCell _ _ _ _ hj
          have fd11 := fd10.other m1 hoth
          have fs11 := fs10.other m2 hoth
          have fh11 := fh10.other m3 hoth
          have hs11 := (hs10.other m4 hoth).more (B' := ((w10.drewN nq).setCell ⟨go, k * 32 + p, none⟩ (.int .u8 ((x.toNat ^^^ t.toNat : Nat) : Int))).heap.size) (by simp)
          have f11 := (f10.below hBq).store8 (k * 32 + p) (x ^^^ t)
          rw [HOE.out, UInt8.toNat_xor] at f11
          have hBw11 : Below w.heap.size w ((w10.drewN nq).setCell ⟨go, k * 32 + p, none⟩ (.int .u8 ((x.toNat ^^^ t.toNat : Nat) : Int))) := (below_drewN' hB10 nq).setCell m5 _
          obtain ⟨w11, hw11⟩ : ∃ w11, (w10.drewN nq).setCell ⟨go, k * 32 + p, none⟩ (.int .u8 ((x.toNat ^^^ t.toNat : Nat) : Int)) = w11 := ⟨_, rfl⟩
          rw [hw11] at fd11 fs11 fh11 hs11 f11 hBw11
          clear fd10 fs10 fh10 hs10 f10 hoth hBq hB10
          have hso := sees_right fs11.sees H1.out
          have ht3 := HT3.out k p hk hp
          have hl3 : (textP d (otherL L k p t) O).length = 16900 := len_textP _ _ _ (by rw [otherL, List.length_set]; exact H1.out) H2.out
          have ha3 := fun w' => HA3.out w' k p
          have holn : (cb (otherL L k p t)).length = 8192 := by rw [List.length_map, otherL, List.length_set]; exact H1.out
          obtain ⟨M3, hM3⟩ : ∃ M3, otherL L k p t = M3 := ⟨_, rfl⟩
          rw [hM3] at f11 ht3 hl3 ha3 holn
          obtain ⟨T3, hT3⟩ : ∃ T3, textP d M3 O = T3 := ⟨_, rfl⟩
          rw [hT3] at ht3 hl3 ha3
          have HTE3 := Lib.hid ht3
          have HL3 := Lib.hid hl3
          have HA3' := Lib.hid ha3
          have HON := Lib.hid holn
          have hl4 := len_textP (flipL d k) L O H1.out H2.out
          have ht4 := HT4.out k hk
          have ha4 := fun w' => HA4.out w' k
          have hfl : (cb (flipL d k)).length = 32 := by rw [List.length_map, flipL, List.length_set]; exact HD.out
          obtain ⟨y, hy⟩ : ∃ y, d[k / 8]? = some y := ⟨d[k / 8]'(by rw [HD.out]; omega), List.getElem?_eq_getElem (by rw [HD.out]; omega)⟩
          have hfe : d.set (k / 8) (y ^^^ (128 >>> UInt8.ofNat (k % 8))) = flipL d k := by
            unfold flipL
            rw [List.getD_eq_getElem?_getD, hy]
            rfl
          have hyx : bits .xor .u8 (y.toNat : Int) (128 / 2 ^ (k % 8)) = ((y ^^^ (128 >>> UInt8.ofNat (k % 8))).toNat : Int) := by
            rw [UInt8.toNat_xor, shr128 (k % 8) (by omega), ← u8_xor_nat y.toNat (128 / 2 ^ (k % 8)) y.toNat_lt (Nat.lt_of_le_of_lt (Nat.div_le_self _ _) (by decide))]
            congr 1
          obtain ⟨z, hz⟩ : ∃ z : UInt8, y ^^^ (128 >>> UInt8.ofNat (k % 8)) = z := ⟨_, rfl⟩
          rw [hz] at hfe hyx
          obtain ⟨d2, hd2⟩ : ∃ d2, flipL d k = d2 := ⟨_, rfl⟩
          rw [hd2] at hl4 ht4 ha4 hfl hfe
          obtain ⟨T4, hT4⟩ : ∃ T4, textP d2 L O = T4 := ⟨_, rfl⟩
          rw [hT4] at hl4 ht4 ha4
          have HL4 := Lib.hid hl4
          have HT4' := Lib.hid ht4
          have HA4' := Lib.hid ha4
          have HF4 := Lib.hid hfl
          have HFE := Lib.hid hfe
          have HY := Lib.hid hy
          have hk8 : k / 8 < 32 := by omega
          have hr8 : k % 8 < 8 := by omega
          clear ht3 hl3 ha3 holn hM3 hT3 HT3 HA3 HOE hl4 ht4 ha4 hfl hfe hy hz hd2 hT4 HT4 HA4 HA2'
          have hb1lt : b1 < w11.heap.size := by
            obtain ⟨b', o', e1, e2, e3⟩ := hs11 (by rw [List.length_map, HT1.out]; omega)
            simp at e1
            omega
          obtain ⟨tz, htz⟩ : ∃ tz : Bool, (t == 0) = tz := ⟨_, rfl⟩
          have htz2 : decide ((t.toNat : Int) = 0) = tz := by
            rw [← htz, Bool.eq_iff_iff, decide_eq_true_iff, beq_iff_eq]
            constructor
            · intro h
              exact UInt8.toNat_inj.1 (by simpa using h)
            · rintro rfl
              rfl
          have htz3 : ((t.toNat : Int) == 0) = tz := by rw [← htz2]; rfl
          have HE3 := HTE3.out
          rw [htz] at HE3
          have HE3' := Lib.hid HE3
          clear HE3 htz
          go_upto_region 22 with (first
            | (with_reducible refine wpList_load (o := ⟨some 67, _, _, _, _, _⟩) rfl (.tmp 5) 32 rfl gd 0 _ rfl (cb d) 32 (by rw [List.length_map]; exact HD.out) (by kernel_rfl) fd11.sees ?_)
            | (with_reducible refine wpList_load (o := ⟨some 68, _, _, _, _, _⟩) rfl (.tmp 18) 98 rfl go 0 _ rfl (cb M3) 8192 HON.out (by kernel_rfl) f11.sees ?_)
            | (with_reducible refine wpList_load (o := ⟨some 70, _, _, _, _, _⟩) rfl (.tmp 69) 98 rfl gs 8192 _ rfl (cb O) 8192 (by rw [List.length_map]; exact H2.out) (by kernel_rfl) hso ?_)
            | (go_at_call 63; refine (HA3'.out _).mono ?_; rintro e w12 ⟨A3, c3, rfl, hF12, hB12⟩; have hs12 := hs11.step hB12)
            | (go_at_call 17; refine (SameBytes_any A3 (some ⟨b1, 0, none⟩) c3 c1 16900 16900 T3 (textP d L O) _ hF12.sees hs12 HL3.out HT1.out).mono ?_; rintro e w8 ⟨rfl, rfl⟩; rw [HE3'.out])
            | (with_reducible refine wpList_load (o := ⟨some 77, _, _, _, _, _⟩) rfl (.tmp 5) 32 rfl gd 0 _ rfl (cb d) 32 (by rw [List.length_map]; exact HD.out) (by kernel_rfl) (fd11.below hB12).sees ?_)
            | (with_reducible refine wpList_alloc (o := ⟨some 19, _, _, _, _, _⟩) rfl 32 rfl (cb (List.replicate 32 0)) (by kernel_rfl) 32 (len_zb 32) (by decide) ?_; intro g9 w13 hg9 hF9 hB9)
            | (with_reducible refine wpList_store rfl rfl (.tmp 19) (.tmp 77) 32 rfl g9 0 w12.heap.size 32 32 (cb (List.replicate 32 0)) (cb d) rfl rfl 32 (by rw [List.length_map]; exact HD.out) (by kernel_rfl) hF9 (by omega) (cb_one _) w (Below.then_ (Below.then_ hBw11 hB12) hB9) (by have := hBw11.size; have := hB12.size; omega) ?_; intro w14 f14 hB14 ho14 hz14))
          simp only [Act.put, List.setIfInBounds_toArray, List.set_cons_succ, List.set_cons_zero]
          rw [splice_zb 32 d HD.out] at f14
          have fs14 := ((fs11.below hB12).below hB9).other (g' := g9) (by have := (fs11.below hB12).lt_size; omega) ho14
          have fh14 := ((fh11.below hB12).below hB9).other (g' := g9) (by have := (fh11.below hB12).lt_size; omega) ho14
          have z12 := hB12.size
          have hs14 : Sees w14 w14.heap.size (some ⟨b1, 0, none⟩) (cb (textP d L O)) := ((hs12.step hB9).other (by omega) ho14).more hz14
          have m1 : gs ≠ g9 := by have := (fs11.below hB12).lt_size; omega
          have m2 : gh ≠ g9 := by have := (fh11.below hB12).lt_size; omega
          have m3 : b1 ≠ g9 := by omega
          have m5 : w.heap.size ≤ g9 := by have := hBw11.size; omega
          replace f14 := f14.lower (base' := w.heap.size) (by have := hBw11.size; omega)
          have hcell : w14.cell? ⟨g9, k / 8, none⟩ = some (.int .u8 (y.toNat : Int)) := f14.cell_ (by rw [cb, List.getElem?_map, HY.out]; rfl)
          clear fd11 fs11 fh11 hs11 f11 hBw11 hso hs12 hF12 hB12 hF9 hB9 ho14 hz14 z12 hg9
          refine region_qtail 9 (by kernel_rfl) (by kernel_rfl) ?_
          simp only [List.take_succ_cons, List.take_zero, List.drop_succ_cons, List.drop_zero]
          repeat (go_big_quiet_step (fail))
          refine wpQuiet_nil ?_
          rintro _ ⟨nq2, rfl⟩
          have hzz := f14.frozenAt (j := k / 8)
          have hBq := below_drewN' (Below.refl w14.heap.size w14) nq2
          have hoth : ∀ j, j ≠ g9 → ((w14.drewN nq2).setCell ⟨g9, k / 8, none⟩ (.int .u8 (z.toNat : Int))).heap[j]? = w14.heap[j]? := fun j hj => Below.heap_setCell _ _ _ _ hj
          have fs15 := fs14.other m1 hoth
          have fh15 := fh14.other m2 hoth
          have hs15 := (hs14.other m3 hoth).more (B' := ((w14.drewN nq2).setCell ⟨g9, k / 8, none⟩ (.int .u8 (z.toNat : Int))).heap.size) (by simp)
          have f15 := (f14.below hBq).store8 (k / 8) z
          rw [HFE.out] at f15
          have hBw15 : Below w.heap.size w ((w14.drewN nq2).setCell ⟨g9, k / 8, none⟩ (.int .u8 (z.toNat : Int))) := (below_drewN' hB14 nq2).setCell m5 _
          obtain ⟨w15, hw15⟩ : ∃ w15, (w14.drewN nq2).setCell ⟨g9, k / 8, none⟩ (.int .u8 (z.toNat : Int)) = w15 := ⟨_, rfl⟩
          rw [hw15] at fs15 fh15 hs15 f15 hBw15
          clear fs14 fh14 hs14 f14 hoth hBq hB14
          obtain ⟨b, hb⟩ : ∃ b, (chunk L k == chunk O k) = b := ⟨_, rfl⟩
          have ht4 := HT4'.out
          rw [hb] at ht4
          have HTB := Lib.hid ht4
          have HB := Lib.hid hb
          have HCS : Hid ((chunk L k).length = 32) := Lib.hid (len_chunk L k (by rw [H1.out]; omega))
          have HCO : Hid ((chunk O k).length = 32) := Lib.hid (len_chunk O k (by rw [H2.out]; omega))
          clear ht4 hb htz2 htz3
          go_wp2_with fail
          refine region_all_tail 16 (ltF w15.heap.size gs gh b1 c1 k d2 L O T4 b) (by kernel_rfl) (by kernel_rfl) (by kernel_rfl) (ltF_stab _ _ _ _ _ _ _ _ _ _ _) ?_ ?_
          · intro w0 hb0
            have hz0 := hb0.size
            simp only [List.take_succ_cons, List.take_zero]
            refine ⟨?_, ?_, ?_, ?_, ?_, ?_, ?_, ?_, ?_, ?_, ?_, ?_, ?_, ?_, ?_, ?_, trivial⟩
            all_goals intro listed a1 w' hk1 hd1
            · exact stepOk_value rfl (run_load_agg (.tmp 19) 32 rfl (hk1.ev_old 19 (by kernel_rfl)) (cb d2) 32 HF4.out (by kernel_rfl) ((f15.below hb0).below hk1.below).sees) rfl
            · exact stepOk_value rfl (run_load_agg (.tmp 11) 98 rfl (hk1.ev_old 11 (by kernel_rfl)) (cb L) 8192 (by rw [List.length_map]; exact H1.out) (by kernel_rfl) ((fh15.below hb0).below hk1.below).sees) rfl
            · have f6_ : a1.eval (.tmp 6) = .pointer (some ⟨gs, 0, none⟩) := hk1.ev_old 6 (by kernel_rfl)
              have g6_ : a1.tmps[6]?.getD undef = .pointer (some ⟨gs, 0, none⟩) := by simpa [Act.eval] using f6_
              exact stepOk_value rfl (v := .pointer (some ⟨gs, 8192, none⟩)) (by go_simp) rfl
            · obtain ⟨y2, e2, q2, rfl⟩ := hk1.ev_new hd1 2 89 (by kernel_rfl) rfl
              exact stepOk_value rfl (run_load_agg (.tmp 89) 98 rfl e2 (cb O) 8192 (by rw [List.length_map]; exact H2.out) (by kernel_rfl) (sees_right ((fs15.below hb0).below hk1.below).sees H1.out)) rfl
            · obtain ⟨y0, e0, q0, rfl⟩ := hk1.ev_new hd1 0 87 (by kernel_rfl) rfl
              obtain ⟨y1, e1, q1, rfl⟩ := hk1.ev_new hd1 1 88 (by kernel_rfl) rfl
              obtain ⟨y3, e3, q3, rfl⟩ := hk1.ev_new hd1 3 90 (by kernel_rfl) rfl
              refine stepOk_enter rfl (f := 63) (args := #[.agg (cb d2).toArray, .agg (cb L).toArray, .agg (cb O).toArray]) (by go_simp) ?_
              refine (HA4'.out w').mono ?_
              rintro e w5 ⟨A4, c4, rfl, hF5, hB5⟩
              exact ⟨_, rfl, ⟨A4, c4, rfl, hF5.lower (by have := hk1.below.size; omega)⟩, hB5⟩
            · have f13_ : a1.eval (.tmp 13) = .slice (some ⟨b1, 0, none⟩) 16900 c1 := hk1.ev_old 13 (by kernel_rfl)
              have g13_ : a1.tmps[13]?.getD undef = .slice (some ⟨b1, 0, none⟩) 16900 c1 := by simpa [Act.eval] using f13_
              exact stepOk_value rfl (v := .slice (some ⟨b1, 0, none⟩) 16900 c1) (by go_simp) rfl
            · obtain ⟨y4, e4, _, q4⟩ := hk1.ev_new hd1 4 91 (by kernel_rfl) rfl
              obtain ⟨y5, e5, q5, rfl⟩ := hk1.ev_new hd1 5 92 (by kernel_rfl) rfl
              obtain ⟨A4, c4, rfl, hF5⟩ := q4
              refine stepOk_enter rfl (f := 17) (args := #[.slice A4 16900 c4, .slice (some ⟨b1, 0, none⟩) 16900 c1]) (by go_simp) ?_
              refine (SameBytes_any A4 (some ⟨b1, 0, none⟩) c4 c1 16900 16900 T4 (textP d L O) _ hF5.sees ((hs15.step hb0).step hk1.below) HL4.out HT1.out).mono ?_
              rintro e w5 ⟨rfl, rfl⟩
              exact ⟨_, rfl, by rw [HTB.out]; rfl, Below.refl _ _⟩
            · have f16_ : a1.eval (.tmp 16) = .int .i64 (k : Int) := hk1.ev_old 16 (by kernel_rfl)
              have g16_ : a1.tmps[16]?.getD undef = .int .i64 (k : Int) := by simpa [Act.eval] using f16_
              exact stepOk_value rfl (v := .int .i64 (k : Int)) (by go_simp) rfl
            · obtain ⟨y7, e7, q7, rfl⟩ := hk1.ev_new hd1 7 94 (by kernel_rfl) rfl
              exact stepOk_value rfl (run_ixA (.tmp 11) (.tmp 94) rfl arrDg sizeD (hk1.ev_old 11 (by kernel_rfl)) e7 rfl (by omega) (by omega)) rfl
            · obtain ⟨y8, e8, q8, rfl⟩ := hk1.ev_new hd1 8 95 (by kernel_rfl) rfl
              exact stepOk_value rfl (run_load_agg (.tmp 95) 32 rfl e8 (cb (chunk L k)) 32 (by rw [List.length_map]; exact HCS.out) (by kernel_rfl) (sees_chunk ((fh15.below hb0).below hk1.below).sees k rfl)) rfl
            · have f16_ : a1.eval (.tmp 16) = .int .i64 (k : Int) := hk1.ev_old 16 (by kernel_rfl)
              have g16_ : a1.tmps[16]?.getD undef = .int .i64 (k : Int) := by simpa [Act.eval] using f16_
              exact stepOk_value rfl (v := .int .i64 (k : Int)) (by go_simp) rfl
            · have f6_ : a1.eval (.tmp 6) = .pointer (some ⟨gs, 0, none⟩) := hk1.ev_old 6 (by kernel_rfl)
              have g6_ : a1.tmps[6]?.getD undef = .pointer (some ⟨gs, 0, none⟩) := by simpa [Act.eval] using f6_
              exact stepOk_value rfl (v := .pointer (some ⟨gs, 8192, none⟩)) (by go_simp) rfl
            · obtain ⟨y11, e11, q11, rfl⟩ := hk1.ev_new hd1 11 98 (by kernel_rfl) rfl
              obtain ⟨y10, e10, q10, rfl⟩ := hk1.ev_new hd1 10 97 (by kernel_rfl) rfl
              exact stepOk_value rfl (run_ixA (.tmp 98) (.tmp 97) rfl arrDg sizeD e11 e10 rfl (by omega) (by omega)) rfl
            · obtain ⟨y12, e12, q12, rfl⟩ := hk1.ev_new hd1 12 99 (by kernel_rfl) rfl
              exact stepOk_value rfl (run_load_agg (.tmp 99) 32 rfl e12 (cb (chunk O k)) 32 (by rw [List.length_map]; exact HCO.out) (by kernel_rfl) (sees_chunkR ((fs15.below hb0).below hk1.below).sees H1.out k)) rfl
            · obtain ⟨y9, e9, q9, rfl⟩ := hk1.ev_new hd1 9 96 (by kernel_rfl) rfl
              obtain ⟨y13, e13, q13, rfl⟩ := hk1.ev_new hd1 13 100 (by kernel_rfl) rfl
              exact stepOk_value rfl (run_eq32b (.tmp 96) (.tmp 100) 32 rfl (chunk L k) (chunk O k) e9 e13 HCS.out HCO.out) (by show _ = _; rw [HB.out])
            · obtain ⟨y6, e6, q6, rfl⟩ := hk1.ev_new hd1 6 93 (by kernel_rfl) rfl
              obtain ⟨y14, e14, q14, rfl⟩ := hk1.ev_new hd1 14 101 (by kernel_rfl) rfl
              exact stepOk_value rfl (v := .bool true) (by go_simp) rfl
          · intro a1 w16 hb16 hp
            obtain ⟨x0, p0, x1, p1, x2, p2, x3, p3, x4, p4, x5, p5, x6, p6, x7, p7, x8, p8, x9, p9, x10, p10, x11, p11, x12, p12, x13, p13, x14, p14, x15, p15, rfl⟩ := hp
            simp only [ltF] at p0 p1 p2 p3 p5 p6 p7 p8 p9 p10 p11 p12 p13 p14 p15
            subst p0 p1 p2 p3 p5 p6 p7 p8 p9 p10 p11 p12 p13 p14 p15
            simp only [List.drop_succ_cons, List.drop_zero, Act.put, List.setIfInBounds_toArray, List.set_cons_succ, List.set_cons_zero]
            have hBw16 := Below.then_ hBw15 hb16
            go_wp2_with (go_at_call 59; refine awake9_any.mono ?_; rintro e w17 ⟨rfl, hB17⟩)
            go_ret
            exact ⟨rfl, Below.then_ hBw16 hB17⟩
end
end Go.Proofs.Ytehokoeajinboaa
namespace Go.Proofs.Ytehokoeajinboaa
open Go.RowKit
set_option linter.unusedVariables false

theorem byte_of {a : Int} (h : (Lit.int .u8 a).wf = true) : ∃ t : UInt8, a = (t.toNat : Int) := by
  have := bounds_u8 h
  exact ⟨UInt8.ofNat a.toNat, by rw [ofNat_toNat _ (by omega)]; omega⟩
theorem texts_law (W : World) (d : List UInt8) (hd : d.length = 32) (S O : List UInt8) (h1 : S.length = 8192) (h2 : O.length = 8192) (za : Int) (wa : (Lit.int .i64 za).wf = true) (zp : Int) (wp : (Lit.int .i64 zp).wf = true) (t : Int) (wt : (Lit.int .u8 t).wf = true) :
    Calls Try.prog 11 #[.agg (cb d).toArray, .agg (cb (S ++ O)).toArray, .int .i64 za, .int .i64 zp, .int .u8 t] W fun e w' => e = .returned (.bool true) ∧ Below W.heap.size W w' := by
  obtain ⟨b, rfl⟩ := byte_of wt
  exact texts_walk d S O hd h1 h2 za zp (bounds_i64 wa) (bounds_i64 wp) b
end Go.Proofs.Ytehokoeajinboaa
