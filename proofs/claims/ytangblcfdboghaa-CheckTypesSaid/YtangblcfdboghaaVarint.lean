/-
  What Varint of the document's own answers: a number's digits, in new memory.
-/
import Derived.Test.YtangblcfdboghaaSeesLit
import Derived.Test.YtangblcfdboghaaShaLeaf
namespace Go.Proofs.Ytangblcfdboghaa
open Go.RowKit
set_option linter.unusedVariables false

theorem sees_one (w : World) (e : TypeId) (C : Array Value) (l : List UInt8) (hC : C = (cb l).toArray) : Sees (w.alloc (.cells C e)) (w.alloc (.cells C e)).heap.size (some ⟨w.heap.size, 0, none⟩) (cb l) := by
  subst hC
  exact sees_lit w e (0, 0) l
theorem fresh_one (w : World) (C : Array Value) (l : List UInt8) (hC : C = (cb l).toArray) (hl : l.length ≤ 1000) : Fresh w.heap.size 5 (w.alloc (.cells C 5)) (some ⟨w.heap.size, 0, none⟩) l.length l.length (cb l) := by
  subst hC
  exact Fresh.of_block (heap_alloc_new w _) (Nat.le_refl _) (by simp) (by unfold maxLen; omega)
theorem cell_one {v : Int} {c : UInt8} (h : v = (c.toNat : Int)) : #[Value.int .u8 v] = (cb [c]).toArray := by subst h; rfl
theorem digs_small (x : Nat) (h : x < 128) : digs x = [UInt8.ofNat x] := by
  unfold digs digsF
  rw [if_pos h]
theorem digsF_step (f y : Nat) (h : ¬ y < 128) (hf : 1 ≤ f) : digsF f y = UInt8.ofNat (128 + y % 128) :: digsF (f - 1) (y / 128) := by
  obtain ⟨g, rfl⟩ : ∃ g, f = g + 1 := ⟨f - 1, by omega⟩
  conv => lhs; unfold digsF
  rw [if_neg h]; rfl
theorem digsF_end (f y : Nat) (h : y < 128) : digsF f y = [UInt8.ofNat y] := by
  cases f with
  | zero => rfl
  | succ f => unfold digsF; rw [if_pos h]
/-- So far L is written; y is left, with room for f more. -/
def Left (x : Nat) (L : List UInt8) (f y : Nat) : Prop := digs x = L ++ digsF f y ∧ y < 128 ^ (f + 1) ∧ f ≤ 8 ∧ L.length + f = 9
theorem left_start (x : Nat) (hx : x < 18446744073709551616) (h : ¬ x < 128) : Left x [UInt8.ofNat (128 + x % 128)] 8 (x / 128) := by
  refine ⟨?_, ?_, Nat.le_refl _, rfl⟩
  · unfold digs; rw [digsF_step 9 x h (by omega)]; rfl
  · have e : (128 : Nat) ^ (8 + 1) = 9223372036854775808 := by decide
    rw [e]; omega
theorem left_step {x f y : Nat} {L : List UInt8} (hl : Left x L f y) (h : ¬ y < 128) : 1 ≤ f ∧ Left x (L ++ [UInt8.ofNat (128 + y % 128)]) (f - 1) (y / 128) := by
  obtain ⟨h1, h2, h3, h4⟩ := hl
  have hf : 1 ≤ f := by
    rcases f with _ | f
    · simp at h2; omega
    · omega
  refine ⟨hf, ?_, ?_, by omega, by simp; omega⟩
  · rw [h1, digsF_step f y h hf]; simp
  · rw [Nat.div_lt_iff_lt_mul (by omega), show f - 1 + 1 = f from by omega, ← Nat.pow_succ]; exact h2
theorem left_end {x f y : Nat} {L : List UInt8} (hl : Left x L f y) (h : y < 128) : digs x = L ++ [UInt8.ofNat y] ∧ L.length + 1 = nd x := by
  obtain ⟨h1, h2, h3, h4⟩ := hl
  rw [digsF_end f y h] at h1
  refine ⟨h1, ?_⟩
  have := len_digs x
  rw [h1] at this
  simpa using this

theorem wrap_div (x : Nat) (hx : x < 18446744073709551616) : IntKind.u64.wrap ((x : Int) / 128) = ((x / 128 : Nat) : Int) := by
  rw [IntKind.wrap_u64]; omega
theorem left_lt {x f y : Nat} {L : List UInt8} (hl : Left x L f y) : y < 18446744073709551616 := by
  have h1 := hl.2.1
  have h2 : 128 ^ (f + 1) ≤ 128 ^ 9 := Nat.pow_le_pow_right (by omega) (by have := hl.2.2.1; omega)
  have e : (128 : Nat) ^ 9 = 9223372036854775808 := by decide
  omega

set_option maxRecDepth 100000 in
set_option maxHeartbeats 400000 in
theorem Varint_any (x : Nat) (w : World) (hx : x < 18446744073709551616) : Calls Try.prog 67 #[.int .u64 (x : Int)] w (Made8 w (nd x) (digs x)) := by
  have HX := Lib.hid hx
  clear hx
  by_cases h : x < 128
  · have h2 := digs_small x h
    have h3 : nd x = 1 := by rw [← len_digs, h2]; rfl
    rw [h2, h3]
    clear h2 h3
    go_enter Try.func67, Try.ntmps67
    go_wp2
    go_ret
    refine ⟨_, _, rfl, fresh_one w _ [UInt8.ofNat x] (cell_one (by rw [ofNat_toNat _ (by omega)])) (by simp), (Below.refl _ _).alloc (Nat.le_refl _) _⟩
  · have HS := Lib.hid (left_start x HX.out h)
    have hwx := wrap_div x HX.out
    go_enter Try.func67, Try.ntmps67
    go_wp2_with fail
    clear hwx
    go_loopw [0, 3] (fun n v wr => ∃ (y f m c : Nat) (A : Option Addr) (L : List UInt8), n = .int .u64 (y : Int) ∧ v = .slice A m c ∧ L.length = m ∧ Left x L f y ∧ Fresh w.heap.size 5 wr A m c (cb L) ∧ Below w.heap.size w wr) (fun n _ _ => (intOf n).toNat)
    case atStart =>
      refine ⟨x / 128, 8, 1, 1, _, [UInt8.ofNat (128 + x % 128)], ?_, rfl, rfl, HS.out, ?_, (Below.refl _ _).alloc (Nat.le_refl _) _⟩
      · rfl
      · exact fresh_one w _ [UInt8.ofNat (128 + x % 128)] (cell_one (by rw [ofNat_toNat _ (by omega)]; omega)) (by simp)
    case round =>
      obtain ⟨y, f, m, c, A, L, rfl, rfl, hL, hleft, hF, hB⟩ := hrel
      have HL := Lib.hid hL
      have hm : m ≤ 9 := by have := hleft.2.2.2; omega
      have hbs := hB.size
      clear hL
      by_cases hy : y < 128
      · have hE := left_end hleft hy
        have HE := Lib.hid hE
        clear hE hleft
        go_wp2_with (at_builtin; refine wpList_app8 rfl (.tmp 27) (.tmp 30) rfl A (some ⟨wr.heap.size, 0, none⟩) m c 1 1 L [UInt8.ofNat y] w rfl rfl (hF.below ((Below.refl _ _).alloc (Nat.le_refl _) _)) (sees_one wr 5 _ _ (cell_one (by rw [ofNat_toNat _ (by omega)]))) rfl (by omega) (hB.alloc hbs _) ?_; intro A' c' w1 hF1 hB1)
        go_ret
        refine ⟨A', c', ?_, ?_, hB1⟩
        · rw [← HE.out.2, HL.out]; rfl
        · rw [HE.out.1, ← HE.out.2, HL.out]; exact hF1
      · have hst := left_step hleft hy
        have hwy := wrap_div y (left_lt hleft)
        have HST := Lib.hid hst.2
        clear hst hleft
        go_wp2_with (at_builtin; refine wpList_app8 rfl (.tmp 20) (.tmp 25) rfl A (some ⟨wr.heap.size, 0, none⟩) m c 1 1 L [UInt8.ofNat (128 + y % 128)] w rfl rfl (hF.below ((Below.refl _ _).alloc (Nat.le_refl _) _)) (sees_one wr 5 _ _ (cell_one (by rw [ofNat_toNat _ (by omega)]; omega))) rfl (by omega) (hB.alloc hbs _) ?_; intro A' c' w1 hF1 hB1)
        go_roundw
        case rel => exact ⟨y / 128, f - 1, m + 1, c', A', L ++ [UInt8.ofNat (128 + y % 128)], rfl, rfl, by simp [HL.out], HST.out, hF1, hB1⟩
        case measure => simp [intOf]; omega
end Go.Proofs.Ytangblcfdboghaa
