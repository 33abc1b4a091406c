/-
  Storing into a block of bytes that the call made, and what the inner function putUint does: a number's digits are laid over the block from a place on.
-/
import Derived.Test.YtangblcfdboghaaGrow
namespace Go.Proofs.Ytangblcfdboghaa
open Go.RowKit
set_option linter.unusedVariables false

section
variable {w : World} {base g n j : Nat} {e : TypeId} {xs : List Value}
theorem Fresh.cellAt (h : Fresh base e w (some ⟨g, 0, none⟩) n n xs) (hj : j < n) : ∃ u, w.cell? ⟨g, j, none⟩ = some u := by
  have hl := h.len
  exact ⟨xs[j]'(by omega), by rw [World.ownsRow.cellAt h j (by omega)]; exact List.getElem?_eq_getElem _⟩
theorem Fresh.frozenAt (h : Fresh base e w (some ⟨g, 0, none⟩) n n xs) : w.frozen? ⟨g, j, none⟩ = false := World.ownsRow.frozenAt h j
theorem Fresh.store (h : Fresh base e w (some ⟨g, 0, none⟩) n n xs) (j : Nat) (u : Value) : Fresh base e (w.setCell ⟨g, j, none⟩ u) (some ⟨g, 0, none⟩) n n (xs.set j u) := (World.ownsRow.stored h j u).1
theorem Fresh.store8 {l : List UInt8} (h : Fresh base e w (some ⟨g, 0, none⟩) n n (cb l)) (j : Nat) (c : UInt8) : Fresh base e (w.setCell ⟨g, j, none⟩ (.int .u8 (c.toNat : Int))) (some ⟨g, 0, none⟩) n n (cb (l.set j c)) := by
  have := h.store j (.int .u8 (c.toNat : Int))
  rwa [show (cb l).set j (.int .u8 (c.toNat : Int)) = cb (l.set j c) from by simp [cb, List.map_set]] at this
end

theorem splice_step {α : Type} (L X : List α) (off k : Nat) (hk : k < X.length) (hL : off + X.length ≤ L.length) : (splice L off (X.take k)).set (off + k) X[k] = splice L off (X.take (k + 1)) := by
  have h1 : (X.take k).length = k := by simp; omega
  have h2 : (X.take (k + 1)).length = k + 1 := by simp; omega
  unfold splice
  rw [h1, h2, List.take_succ_eq_append_getElem hk, List.set_append_right _ _ (by simp; omega), List.set_append_right _ _ (by simp; omega)]
  simp only [List.length_take]
  rw [show off + k - min off L.length - min k X.length = 0 from by omega, List.drop_eq_getElem_cons (show off + k < L.length by omega), List.set_cons_zero, List.append_assoc (List.take k X), Nat.add_assoc]
  rfl
theorem splice_all {α : Type} (L X : List α) (off : Nat) (k : Nat) (h : X.length ≤ k) : splice L off (X.take k) = splice L off X := by rw [List.take_of_length_le h]

theorem or128 : ∀ x, x < 256 → x ||| 128 = 128 + x % 128 := by decide +kernel
theorem digit_more (x k : Nat) (hk : k + 1 < nd x) (hl : k < (digs x).length) : (((digs x)[k]).toNat : Int) = bits .or .u8 ((x : Int) / 2 ^ (7 * k) % 256) 128 := by
  have h := digs_get x k (by omega)
  rw [List.getElem?_eq_getElem hl] at h
  injection h with h
  rw [h, digAt, if_pos hk, ofNat_toNat _ (by omega), shr_nat, pow7]
  have e : ((x / 128 ^ k : Nat) : Int) % 256 = ((x / 128 ^ k % 256 : Nat) : Int) := rfl
  rw [e, show (128 : Int) = ((128 : Nat) : Int) from rfl, u8_or_nat _ _ (Nat.mod_lt _ (by omega)) (by omega), or128 _ (Nat.mod_lt _ (by omega))]
  omega
theorem digit_last (x k : Nat) (hx : x < 18446744073709551616) (hk : k + 1 = nd x) (hl : k < (digs x).length) : (((digs x)[k]).toNat : Int) = (x : Int) / 2 ^ (7 * k) % 256 := by
  have h := digs_get x k (by omega)
  have hd := nd_last x hx
  rw [← hk, Nat.add_sub_cancel] at hd
  rw [List.getElem?_eq_getElem hl] at h
  injection h with h
  rw [h, digAt, if_neg (by omega), ofNat_toNat _ (by omega), shr_nat, pow7]
  generalize x / 128 ^ k = d at *
  omega

set_option maxHeartbeats 400000 in
theorem putUint_any (x n off base N g cap : Nat) (cur : List UInt8) (w w0 : World) (hx : x < 18446744073709551616) (hF : Fresh base 5 w (some ⟨g, 0, none⟩) N N (cb cur))
    (hm : nd x = n) (hfit : off + n ≤ N) (hN : N ≤ 1099511627776) (hb : Below w0.heap.size w0 w) (hg : w0.heap.size ≤ g) :
    Calls Try.prog 65 #[.slice (some ⟨g, off, none⟩) n cap, .int .u64 (x : Int)] w
      fun e w' => e = .returned (.tuple #[]) ∧ Fresh base 5 w' (some ⟨g, 0, none⟩) N N (cb (splice cur off (digs x))) ∧ Below w0.heap.size w0 w' := by
  have hbd := nd_bd x
  have hp : 1 ≤ n := by omega
  have hp' : n ≤ 10 := by omega
  clear hbd
  have HM := Lib.hid hm
  clear hm
  go_enter Try.func65, Try.ntmps65
  go_wp2
  go_loopw [10] (fun i wr => ∃ k : Nat, k ≤ n - 1 ∧ i = .int .i64 k ∧ Fresh base 5 wr (some ⟨g, 0, none⟩) N N (cb (splice cur off ((digs x).take k))) ∧ Below w0.heap.size w0 wr) (fun i _ => n - (intOf i).toNat)
  case atStart => exact ⟨0, by omega, rfl, by simpa [splice] using hF, hb⟩
  case round =>
    obtain ⟨k, hk, rfl, hFr, hbr⟩ := hrel
    have hl := len_digs x
    rw [HM.out] at hl
    have HLD := Lib.hid hl
    clear hl
    by_cases hlt : k < n - 1
    · obtain ⟨u, hc⟩ := hFr.cellAt (j := off + k) (by omega)
      have hz := hFr.frozenAt (j := off + k)
      go_wp2
      have hl := HLD.out
      have hm := HM.out
      have hcl := hF.len
      rw [List.length_map] at hcl
      have hs := hFr.store8 (off + k) ((digs x)[k]'(by omega))
      rw [splice_step _ _ _ _ (by omega) (by omega), digit_more x k (by omega) (by omega)] at hs
      go_roundw
      case rel => exact ⟨k + 1, by omega, by go_num, hs, hbr.setCell (by omega) _⟩
      case measure => simp [intOf]; omega
    · obtain ⟨u, hc⟩ := hFr.cellAt (j := off + (n - 1)) (by omega)
      have hz := hFr.frozenAt (j := off + (n - 1))
      go_wp2
      go_end0
      have hl := HLD.out
      have hm := HM.out
      have hcl := hF.len
      rw [List.length_map] at hcl
      obtain rfl : k = n - 1 := by omega
      have hs := hFr.store8 (off + (n - 1)) ((digs x)[n - 1]'(by omega))
      rw [splice_step _ _ _ _ (by omega) (by omega), splice_all _ _ _ _ (by omega), digit_last x (n - 1) hx (by omega) (by omega)] at hs
      exact ⟨rfl, hs, hbr.setCell (by omega) _⟩
theorem info32 : (Try.prog.info? 92).map (fun i => (i.zero, i.size, i.bytes)) = some (some (.int .u32 0), 1, 4) := by kernel_rfl
theorem made32 (n : Nat) : (madeCells (Value.int .u32 0).cells (n * 1)).toList = cw (List.replicate n 0) := by
  rw [Nat.mul_one]
  exact (toList_madeCells_one _ n).trans (by simp [cw])
theorem Fresh.store32 {w : World} {base g n : Nat} {e : TypeId} {l : List UInt32} (h : Fresh base e w (some ⟨g, 0, none⟩) n n (cw l)) (j : Nat) (c : UInt32) : Fresh base e (w.setCell ⟨g, j, none⟩ (.int .u32 (c.toNat : Int))) (some ⟨g, 0, none⟩) n n (cw (l.set j c)) := by
  have := h.store j (.int .u32 (c.toNat : Int))
  rwa [show (cw l).set j (.int .u32 (c.toNat : Int)) = cw (l.set j c) from by simp [cw, List.map_set]] at this

theorem splice_zero {α : Type} (z : α) (X : List α) (n : Nat) (h : X.length = n) : splice (List.replicate n z) 0 X = X := by
  subst h
  simp [splice]
end Go.Proofs.Ytangblcfdboghaa
