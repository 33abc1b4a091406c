/-
  What sha.Table and blockhouselow.Hex answer.
-/
import Derived.Test.YtpdfalgjmeagjaaShaSum
import Derived.Laws.Concat
import Derived.Laws.Strings2
namespace Go.Proofs.Ytpdfalgjmeagjaa
open Go.RowKit
set_option linter.unusedVariables false
/-- The table's words. -/
def firstL : List UInt32 := [1779033703, 3144134277, 1013904242, 2773480762, 1359893119, 2600822924, 528734635, 1541459225]
def keysL : List UInt32 := [1116352408, 1899447441, 3049323471, 3921009573, 961987163, 1508970993, 2453635748, 2870763221, 3624381080, 310598401, 607225278, 1426881987, 1925078388, 2162078206, 2614888103, 3248222580, 3835390401, 4022224774, 264347078, 604807628, 770255983, 1249150122, 1555081692, 1996064986, 2554220882, 2821834349, 2952996808, 3210313671, 3336571891, 3584528711, 113926993, 338241895, 666307205, 773529912, 1294757372, 1396182291, 1695183700, 1986661051, 2177026350, 2456956037, 2730485921, 2820302411, 3259730800, 3345764771, 3516065817, 3600352804, 4094571909, 275423344, 430227734, 506948616, 659060556, 883997877, 958139571, 1322822218, 1537002063, 1747873779, 1955562222, 2024104815, 2227730452, 2361852424, 2428436474, 2756734187, 3204031479, 3329325298]
theorem wpList_run {P : Program} {w w' : World} {ops : Array Oper} {rest : List Oper} {o : Oper} {a : Act} {Q : Exit → Act → World → Prop} {v : Value} (hg : o.guard = none) (hrun : (execOp a.eval o).run P w = .ok (.value v) w') (hK : wpList P ops Q rest (a.put o.dst v) w') : wpList P ops Q (o :: rest) a w := by
  refine wpList_plain hg fun K hK' => ?_
  unfold Oper.wp
  rw [hrun]
  exact hK' _ _ hK
set_option maxRecDepth 100000 in
theorem Table_any (w : World) : Calls Try.prog 88 #[] w fun e w' => e = .returned (.agg (cw (firstL ++ keysL)).toArray) ∧ Below w.heap.size w w' := by
  go_enter Try.func88, Try.ntmps88
  go_wp2_with (first
    | (with_reducible refine wpList_alloc (o := ⟨some 0, _, _, _, _, _⟩) rfl 26 rfl (cw (List.replicate 72 0)) (by kernel_rfl) 72 (by simp) (by decide) ?_; intro gr w1 hgr hFr hBr)
    | (with_reducible refine wpList_run (o := ⟨some 1, _, _, _, _, _⟩) (v := .agg (cw firstL).toArray) (w' := w1) rfl (by kernel_rfl) ?_)
    | (with_reducible refine wpList_run (o := ⟨some 2, _, _, _, _, _⟩) (v := .agg (cw keysL).toArray) (w' := w1) rfl (by kernel_rfl) ?_)
    | (with_reducible refine wpList_run (o := ⟨some 3, _, _, _, _, _⟩) (v := .agg (cw (firstL ++ keysL)).toArray) (w' := w1) rfl (by kernel_rfl) ?_)
    | (with_reducible refine wpList_store rfl rfl (.tmp 0) (.tmp 3) 26 rfl gr 0 w.heap.size 26 72 _ (cw (firstL ++ keysL)) rfl rfl 72 (by kernel_rfl) (by kernel_rfl) hFr (by omega) (cw_one _) w hBr (by omega) ?_; intro w9 hF9 hB9 _ _))
  have e : splice (cw (List.replicate 72 0)) 0 (cw (firstL ++ keysL)) = cw (firstL ++ keysL) := by kernel_rfl
  rw [e] at hF9
  exact bodyPost_cell rfl rfl (cw (firstL ++ keysL)) 72 (by kernel_rfl) (by kernel_rfl) hF9.sees rfl ⟨rfl, hB9⟩
def hexd (n : Nat) : UInt8 := [48, 49, 50, 51, 52, 53, 54, 55, 56, 57, 97, 98, 99, 100, 101, 102].getD n 0
def hexL (l : List UInt8) : List UInt8 := l.flatMap fun c => [hexd (c.toNat / 16), hexd (c.toNat % 16)]
theorem hex_ext : ∀ d, d < 16 → (ByteArray.mk #[48, 49, 50, 51, 52, 53, 54, 55, 56, 57, 97, 98, 99, 100, 101, 102]).extract d (d + 1) = ⟨#[hexd d]⟩ := by
  have h : ∀ d, d < 16 → ((ByteArray.mk #[48, 49, 50, 51, 52, 53, 54, 55, 56, 57, 97, 98, 99, 100, 101, 102]).extract d (d + 1)).data = #[hexd d] := by decide
  intro d hd
  exact ByteArray.ext (h d hd)
theorem hex_next (l : List UInt8) (k : Nat) (x : UInt8) (hx : l[k]? = some x) : (⟨(hexL (l.take k)).toArray⟩ : ByteArray) ++ ⟨#[hexd (x.toNat / 16)]⟩ ++ ⟨#[hexd (x.toNat % 16)]⟩ = ⟨(hexL (l.take (k + 1))).toArray⟩ := by
  have e : hexL (l.take (k + 1)) = hexL (l.take k) ++ [hexd (x.toNat / 16), hexd (x.toNat % 16)] := by
    unfold hexL
    rw [List.take_add_one, hx, List.flatMap_append]
    rfl
  rw [e]
  apply ByteArray.ext
  simp [ByteArray.data_append]
set_option maxHeartbeats 1000000 in
theorem Hex_any (A : Option Addr) (n c : Nat) (l : List UInt8) (w : World) (hs : Sees w w.heap.size A (cb l)) (hl : l.length = n) (hn : n ≤ 1000) :
    Calls Try.prog 171 #[.slice A n c] w fun e w' => e = .returned (.string ⟨(hexL l).toArray⟩) ∧ Below w.heap.size w w' := by
  have HL := Lib.hid hl
  clear hl
  go_enter Try.func171, Try.ntmps171
  go_wp2
  go_loopw [3, 4] (fun s i wr => ∃ k : Nat, ∃ B : ByteArray, k ≤ n ∧ i = .int .i64 k ∧ s = .string B ∧ B.size ≤ 2 * k ∧ Hid (B = ⟨(hexL (l.take k)).toArray⟩) ∧ ∃ q, wr = w.drewN q) (fun _ i _ => n - (intOf i).toNat)
  case atStart => exact ⟨0, ⟨#[]⟩, by omega, rfl, rfl, Nat.le_refl _, rfl, 0, rfl⟩
  case round =>
    obtain ⟨k, B, hk, rfl, rfl, hB, HB, q, rfl⟩ := hrel
    by_cases hlt : k < n
    · obtain ⟨b1, o1, rfl, hb1, x, HX, hx, hcx⟩ := hs.byte HL.out hlt
      go_wp2
      go_quiet (fail)
      go_wp2
      go_roundw
      case rel =>
        have hx0 := hex_next l k x HX.out
        rw [← HB.out] at hx0
        rw [hex_ext _ (by omega), hex_ext _ (by omega), hx0]
        refine ⟨k + 1, _, by omega, by go_num, rfl, ?_, rfl, _, rfl⟩
        have s1 : (ByteArray.mk #[hexd (x.toNat / 16)]).size = 1 := rfl
        have s2 : (ByteArray.mk #[hexd (x.toNat % 16)]).size = 1 := rfl
        rw [← hx0, ByteArray.size_append, ByteArray.size_append, s1, s2]
        omega
      case measure => simp [intOf]; omega
    · obtain rfl : k = n := by omega
      go_wp2
      go_ret
      refine ⟨?_, below_drewN' (Below.refl _ _) q⟩
      have h := HB.out
      rw [List.take_of_length_le (Nat.le_of_eq HL.out)] at h
      rw [h]
      rfl
end Go.Proofs.Ytpdfalgjmeagjaa
