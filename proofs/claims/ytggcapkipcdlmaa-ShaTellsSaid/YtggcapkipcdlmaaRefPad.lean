/-
  The document's own padding.
-/
import Derived.Test.YtggcapkipcdlmaaShaSum
namespace Go.Proofs.Ytggcapkipcdlmaa
open Go.RowKit
set_option linter.unusedVariables false

theorem be8_step (x i : Nat) (hi : i < 8) : (be8 x).drop (8 - (i + 1)) = UInt8.ofNat (x / 2 ^ (8 * i) % 256) :: (be8 x).drop (8 - i) := by
  have h1 : 8 - (i + 1) < (be8 x).length := by simp [be8]; omega
  rw [List.drop_eq_getElem_cons h1, show 8 - (i + 1) + 1 = 8 - i from by omega]
  congr 1
  have h2 := be8_get x (8 - (i + 1)) (by omega)
  rw [List.getElem?_eq_getElem h1] at h2
  have h3 := Option.some.inj h2
  rw [h3, show 7 - (8 - (i + 1)) = i from by omega]
theorem fresh_one {w : World} (T : TypeId) (C : Array Value) (b : UInt8) (hC : C = (cb [b]).toArray) : Fresh w.heap.size T (w.alloc (.cells C T)) (some ⟨w.heap.size, 0, none⟩) 1 1 (cb [b]) := by
  subst hC
  exact Fresh.new w T (cb [b]) 1 rfl (by decide)
set_option maxHeartbeats 1000000 in
set_option maxRecDepth 100000 in
theorem rPad_neg (n : Int) (w : World) (hn : n < 0) : Calls Try.prog 22 #[.int .i64 n] w fun e w' => e = .returned (.slice none 0 0) ∧ w = w' := by
  go_enter Try.func22, Try.ntmps22
  go_wp2_with fail
  go_ret
  exact ⟨rfl, rfl⟩
set_option maxHeartbeats 1000000 in
set_option maxRecDepth 100000 in
theorem rPad_any (n z : Nat) (w : World) (hn : n ≤ 9223372036854775807) (hz : noughts n = z) : Calls Try.prog 22 #[.int .i64 (n : Int)] w (Made8 w (9 + z) (padL n)) := by
  have hpd : padL n = 128 :: List.replicate z 0 ++ be8 (8 * n) := by rw [← hz]; simp [padL]
  have HPD := Lib.hid hpd
  have HZ := Lib.hid hz
  unfold noughts at hz
  have hz64 : z < 64 := by omega
  have HZ64 := Lib.hid hz
  clear hz hpd
  have hd : decide ((n : Int) < 0) = false := by simp
  obtain ⟨x, hx, HX⟩ : ∃ x : Nat, IntKind.u64.wrap ((n : Int) * 8) = (x : Int) ∧ Hid (x = 8 * n % 18446744073709551616) := ⟨8 * n % 18446744073709551616, by
    have e : IntKind.u64.wrap ((n : Int) * 8) = ((n : Int) * 8) % 18446744073709551616 := rfl
    rw [e]
    omega, rfl⟩
  go_enter Try.func22, Try.ntmps22
  go_wp2_with fail
  have hF0 : Fresh w.heap.size 5 (w.alloc (Obj.cells #[Value.int IntKind.u8 128] 5)) (some ⟨w.heap.size, 0, none⟩) 1 1 (cb (128 :: List.replicate 0 0)) := fresh_one _ _ 128 rfl
  have hB0 := below_alloc w (Obj.cells #[Value.int IntKind.u8 128] 5)
  revert hF0 hB0
  generalize w.alloc (Obj.cells #[Value.int IntKind.u8 128] 5) = w1
  intro hF0 hB0
  go_loopw [3] (fun v wr => ∃ (k : Nat) (A : Option Addr) (c : Nat), k ≤ z ∧ v = .slice A (1 + k) c ∧ Fresh w.heap.size 5 wr A (1 + k) c (cb (128 :: List.replicate k 0)) ∧ Below w.heap.size w wr) (fun v _ => 65 - lenOf v)
  case atStart => exact ⟨0, _, 1, by omega, rfl, hF0, hB0⟩
  case round =>
    obtain ⟨k, A, c, hk, rfl, hF, hB⟩ := hrel
    have HF := Lib.hid hF
    clear hF0 hB0
    by_cases hlt : k < z
    · have hne : ¬ (((n : Int) % 64 + (1 + (k : Int)) + 8) % 64 = 0) := by have := HZ64.out; omega
      have hk40 : 1 + k + 1 ≤ 1099511627776 := by have := HZ64.out; omega
      have HK40 := Lib.hid hk40
      clear hk40
      go_wp2_with (at_builtin; refine wpList_app8 rfl (.tmp 18) (.tmp 19) rfl A (some ⟨wr.heap.size, 0, none⟩) (1 + k) c 1 1 (128 :: List.replicate k 0) [0] w rfl rfl (HF.out.below (below_alloc _ _)) (fresh_one _ _ 0 rfl).sees rfl HK40.out (Below.then_ hB (below_alloc _ _)) ?_; intro A' c' w2 hF2 hB2)
      go_roundw
      case rel => exact ⟨k + 1, A', c', by omega, rfl, (by rw [List.replicate_succ']; exact hF2), hB2⟩
      case measure => have := HZ64.out; simp [lenOf]; omega
    · obtain rfl : k = z := by omega
      have heq : ((n : Int) % 64 + (1 + (k : Int)) + 8) % 64 = 0 := by have := HZ64.out; omega
      have hB00 := hB
      clear HZ
      go_wp2_with fail
      clear heq
      rename World => wa
      go_loopw [4, 5, 6] (fun b v i wq => ∃ (t : Nat) (A2 : Option Addr) (c2 : Nat), t ≤ 8 ∧ b = .int .u64 ((x / 2 ^ (8 * t) : Nat) : Int) ∧ v = .slice A2 t c2 ∧ i = .int .i64 (t : Int) ∧ Fresh w.heap.size 5 wq A2 t c2 (cb ((be8 (8 * n)).drop (8 - t))) ∧ Below wa.heap.size wa wq) (fun _ _ i _ => 8 - (intOf i).toNat)
      case atStart => exact ⟨0, none, 0, by omega, by simp, rfl, rfl, fresh_nil _ _ _, Below.refl _ _⟩
      case round =>
        obtain ⟨t, A2, c2, ht, rfl, rfl, rfl, hF2, hBq⟩ := hrel
        have HF2 := Lib.hid hF2
        by_cases hlt2 : t < 8
        · obtain ⟨y, hy⟩ : ∃ y, x / 2 ^ (8 * t) = y := ⟨_, rfl⟩
          have hy2 : x / 2 ^ (8 * (t + 1)) = y / 256 := by rw [← hy, Nat.div_div_eq_div_mul, show (256 : Nat) = 2 ^ 8 from rfl, ← Nat.pow_add, show 8 * (t + 1) = 8 * t + 8 from by omega]
          have hby : UInt8.ofNat (y % 256) = UInt8.ofNat (8 * n / 2 ^ (8 * t) % 256) := by rw [← hy, HX.out, size_byte n t hlt2]
          have hylt : y < 18446744073709551616 := by
            rw [← hy]
            exact Nat.lt_of_le_of_lt (Nat.div_le_self _ _) (by have := HX.out; omega)
          rw [hy]
          have HY2 := Lib.hid hy2
          have HBY := Lib.hid hby
          have hq1 : 1 + t ≤ 1099511627776 := by omega
          have HQ := Lib.hid hq1
          clear hy hy2 hby hq1
          have hcb : cb [UInt8.ofNat (y % 256)] = [.int .u8 ((y : Int) % 256)] := by simp [cb]
          go_wp2_with (at_builtin; refine wpList_app8 rfl (.tmp 31) (.tmp 32) rfl (some ⟨wr.heap.size, 0, none⟩) A2 1 1 t c2 [UInt8.ofNat (y % 256)] ((be8 (8 * n)).drop (8 - t)) wr rfl rfl (fresh_one _ _ (UInt8.ofNat (y % 256)) (by rw [hcb])) (HF2.out.below (below_alloc _ _)).sees (by simp [be8]; omega) HQ.out (below_alloc _ _) ?_; intro A' c' w2 hF3 hB3)
          go_roundw
          case rel => exact ⟨t + 1, A', c', by omega, by rw [HY2.out]; rfl, by rw [Nat.add_comm], by go_num, (by rw [be8_step _ _ hlt2, ← HBY.out, Nat.add_comm t 1]; exact hF3.lower (Nat.le_trans hB00.size hBq.size)), Below.then_ hBq hB3⟩
          case measure => simp [intOf]; omega
        · obtain rfl : t = 8 := by omega
          have hk40 : 1 + k + 8 ≤ 1099511627776 := by have := HZ64.out; omega
          have HK40 := Lib.hid hk40
          clear hk40
          go_wp2_with (at_builtin; refine wpList_app8 rfl (.tmp 36) (.tmp 37) rfl A A2 (1 + k) c 8 c2 (128 :: List.replicate k 0) (be8 (8 * n)) w rfl rfl (HF.out.below hBq) (show Sees _ _ _ (cb ((be8 (8 * n)).drop (8 - 8))) from HF2.out.sees) (by simp [be8]) HK40.out (Below.then_ hB00 hBq) ?_; intro A' c' w2 hF3 hB3)
          go_ret
          rw [show 1 + k + 8 = 9 + k from by omega] at hF3 ⊢
          exact ⟨A', c', rfl, by rw [HPD.out]; exact hF3, hB3⟩
end Go.Proofs.Ytggcapkipcdlmaa
