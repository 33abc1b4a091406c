/-
  The document's own Sum and Of of layer 2.
-/
import Derived.Test.YtcfjbllmaejiaaaShaSum
import Derived.Test.YtcfjbllmaejiaaaShaLeaf
import Derived.Test.YtcfjbllmaejiaaaRefBlock
import Derived.Test.YtcfjbllmaejiaaaHzOver
import Derived.Test.YtcfjbllmaejiaaaBetween
import Derived.Maps.AppendAt
import Derived.Deep.CutBlock
namespace Go.Proofs.Ytcfjbllmaejiaaa
open Go.RowKit
set_option linter.unusedVariables false

theorem be8_step (x i : Nat) (hi : i < 8) : (be8 x).drop (8 - (i + 1)) = UInt8.ofNat (x / 2 ^ (8 * i) % 256) :: (be8 x).drop (8 - i) := by
  have h1 : 8 - (i + 1) < (be8 x).length := by simp [be8]; omega
  rw [List.drop_eq_getElem_cons h1, show 8 - (i + 1) + 1 = 8 - i from by omega]
  congr 1
  have h2 := be8_get x (8 - (i + 1)) (by omega)
  rw [List.getElem?_eq_getElem h1] at h2
  have h3 := Option.some.inj h2
  rw [h3, show 7 - (8 - (i + 1)) = i from by omega]
theorem fresh_b1 {w : World} (T : TypeId) (C : Array Value) (b : UInt8) (hC : C = (cb [b]).toArray) : Fresh w.heap.size T (w.alloc (.cells C T)) (some ⟨w.heap.size, 0, none⟩) 1 1 (cb [b]) := by
  subst hC
  exact Fresh.new w T (cb [b]) 1 rfl (by decide)
set_option maxHeartbeats 1000000 in
set_option maxRecDepth 100000 in
theorem rPad_neg (n : Int) (w : World) (hn : n < 0) : Calls Try.prog 159 #[.int .i64 n] w fun e w' => e = .returned (.slice none 0 0) ∧ w = w' := by
  go_enter Try.func159, Try.ntmps159
  go_wp2_with fail
  go_ret
  exact ⟨rfl, rfl⟩
set_option maxHeartbeats 1000000 in
set_option maxRecDepth 100000 in
theorem rPad_any (n z : Nat) (w : World) (hn : n ≤ 9223372036854775807) (hz : noughts n = z) : Calls Try.prog 159 #[.int .i64 (n : Int)] w (Made8 w (9 + z) (padL n)) := by
  have hpd : padL n = 128 :: List.replicate z 0 ++ be8 (8 * n) := by rw [← hz]; simp [padL]
  have HPD := Lib.hid hpd
  have HZ := Lib.hid hz
  unfold noughts at hz
  have hz64 : z < 64 := by omega
  have HZ64 := Lib.hid hz
  clear hz hpd
  have hd : decide ((n : Int) < 0) = false := by simp
  obtain ⟨x, hx, HX⟩ : ∃ x : Nat, IntKind.u64.wrap ((n : Int) * 8) = (x : Int) ∧ Hid (x = 8 * n % 18446744073709551616) := ⟨8 * n % 18446744073709551616, by
    have e : IntKind.u64.wrap ((n : Int) * 8) = ((n : Int) * 8) % 18446744073709551616 := rfl
    rw [e]
    omega, rfl⟩
  go_enter Try.func159, Try.ntmps159
  go_wp2_with fail
  have hF0 : Fresh w.heap.size 5 (w.alloc (Obj.cells #[Value.int IntKind.u8 128] 5)) (some ⟨w.heap.size, 0, none⟩) 1 1 (cb (128 :: List.replicate 0 0)) := fresh_b1 _ _ 128 rfl
  have hB0 := below_alloc w (Obj.cells #[Value.int IntKind.u8 128] 5)
  revert hF0 hB0
  generalize w.alloc (Obj.cells #[Value.int IntKind.u8 128] 5) = w1
  intro hF0 hB0
  go_loopw [3] (fun v wr => ∃ (k : Nat) (A : Option Addr) (c : Nat), k ≤ z ∧ v = .slice A (1 + k) c ∧ Fresh w.heap.size 5 wr A (1 + k) c (cb (128 :: List.replicate k 0)) ∧ Below w.heap.size w wr) (fun v _ => 65 - lenOf v)
  case atStart => exact ⟨0, _, 1, by omega, rfl, hF0, hB0⟩
  case round =>
    obtain ⟨k, A, c, hk, rfl, hF, hB⟩ := hrel
    have HF := Lib.hid hF
    clear hF0 hB0
    by_cases hlt : k < z
    · have hne : ¬ (((n : Int) % 64 + (1 + (k : Int)) + 8) % 64 = 0) := by have := HZ64.out; omega
      have hk40 : 1 + k + 1 ≤ 1099511627776 := by have := HZ64.out; omega
      have HK40 := Lib.hid hk40
      clear hk40
      go_wp2_with (at_builtin; refine wpList_app8 rfl (.tmp 18) (.tmp 19) rfl A (some ⟨wr.heap.size, 0, none⟩) (1 + k) c 1 1 (128 :: List.replicate k 0) [0] w rfl rfl (HF.out.below (below_alloc _ _)) (fresh_b1 _ _ 0 rfl).sees rfl HK40.out (Below.then_ hB (below_alloc _ _)) ?_; intro A' c' w2 hF2 hB2)
      go_roundw
      case rel => exact ⟨k + 1, A', c', by omega, rfl, (by rw [List.replicate_succ']; exact hF2), hB2⟩
      case measure => have := HZ64.out; simp [lenOf]; omega
    · obtain rfl : k = z := by omega
      have heq : ((n : Int) % 64 + (1 + (k : Int)) + 8) % 64 = 0 := by have := HZ64.out; omega
      have hB00 := hB
      clear HZ
      go_wp2_with fail
      clear heq
      rename World => wa
      go_loopw [4, 5, 6] (fun b v i wq => ∃ (t : Nat) (A2 : Option Addr) (c2 : Nat), t ≤ 8 ∧ b = .int .u64 ((x / 2 ^ (8 * t) : Nat) : Int) ∧ v = .slice A2 t c2 ∧ i = .int .i64 (t : Int) ∧ Fresh w.heap.size 5 wq A2 t c2 (cb ((be8 (8 * n)).drop (8 - t))) ∧ Below wa.heap.size wa wq) (fun _ _ i _ => 8 - (intOf i).toNat)
      case atStart => exact ⟨0, none, 0, by omega, by simp, rfl, rfl, fresh_nil _ _ _, Below.refl _ _⟩
      case round =>
        obtain ⟨t, A2, c2, ht, rfl, rfl, rfl, hF2, hBq⟩ := hrel
        have HF2 := Lib.hid hF2
        by_cases hlt2 : t < 8
        · obtain ⟨y, hy⟩ : ∃ y, x / 2 ^ (8 * t) = y := ⟨_, rfl⟩
          have hy2 : x / 2 ^ (8 * (t + 1)) = y / 256 := by rw [← hy, Nat.div_div_eq_div_mul, show (256 : Nat) = 2 ^ 8 from rfl, ← Nat.pow_add, show 8 * (t + 1) = 8 * t + 8 from by omega]
          have hby : UInt8.ofNat (y % 256) = UInt8.ofNat (8 * n / 2 ^ (8 * t) % 256) := by rw [← hy, HX.out, size_byte n t hlt2]
          have hylt : y < 18446744073709551616 := by
            rw [← hy]
            exact Nat.lt_of_le_of_lt (Nat.div_le_self _ _) (by have := HX.out; omega)
          rw [hy]
          have HY2 := Lib.hid hy2
          have HBY := Lib.hid hby
          have hq1 : 1 + t ≤ 1099511627776 := by omega
          have HQ := Lib.hid hq1
          clear hy hy2 hby hq1
          have hcb : cb [UInt8.ofNat (y % 256)] = [.int .u8 ((y : Int) % 256)] := by simp [cb]
          go_wp2_with (at_builtin; refine wpList_app8 rfl (.tmp 31) (.tmp 32) rfl (some ⟨wr.heap.size, 0, none⟩) A2 1 1 t c2 [UInt8.ofNat (y % 256)] ((be8 (8 * n)).drop (8 - t)) wr rfl rfl (fresh_b1 _ _ (UInt8.ofNat (y % 256)) (by rw [hcb])) (HF2.out.below (below_alloc _ _)).sees (by simp [be8]; omega) HQ.out (below_alloc _ _) ?_; intro A' c' w2 hF3 hB3)
          go_roundw
          case rel => exact ⟨t + 1, A', c', by omega, by rw [HY2.out]; rfl, by rw [Nat.add_comm], by go_num, (by rw [be8_step _ _ hlt2, ← HBY.out, Nat.add_comm t 1]; exact hF3.lower (Nat.le_trans hB00.size hBq.size)), Below.then_ hBq hB3⟩
          case measure => simp [intOf]; omega
        · obtain rfl : t = 8 := by omega
          have hk40 : 1 + k + 8 ≤ 1099511627776 := by have := HZ64.out; omega
          have HK40 := Lib.hid hk40
          clear hk40
          go_wp2_with (at_builtin; refine wpList_app8 rfl (.tmp 36) (.tmp 37) rfl A A2 (1 + k) c 8 c2 (128 :: List.replicate k 0) (be8 (8 * n)) w rfl rfl (HF.out.below hBq) (show Sees _ _ _ (cb ((be8 (8 * n)).drop (8 - 8))) from HF2.out.sees) (by simp [be8]) HK40.out (Below.then_ hB00 hBq) ?_; intro A' c' w2 hF3 hB3)
          go_ret
          rw [show 1 + k + 8 = 9 + k from by omega] at hF3 ⊢
          exact ⟨A', c', rfl, by rw [HPD.out]; exact hF3, hB3⟩
end Go.Proofs.Ytcfjbllmaejiaaa

namespace Go.Proofs.Ytcfjbllmaejiaaa
open Go.RowKit
set_option linter.unusedVariables false
set_option maxHeartbeats 400000 in
theorem rright_true (s : List UInt32) (A : Option Addr) (n c : Nat) (L : Int) (w : World) (hs : s.length = 8) (hr : Right n L) :
    Calls Try.prog 158 #[.agg (hz s (.slice A n c) L).toArray] w fun e w' => e = .returned (.bool true) ∧ Below w.heap.size w w' := by
  obtain ⟨h0, h1, h2⟩ := hr
  have HS := Lib.hid hs
  have H2 := Lib.hid h2
  clear hs h2
  go_enter Try.func158, Try.ntmps158
  go_wp2_with (with_reducible refine wpList_box (o := ⟨some 1, _, _, _, _, _⟩) rfl (.tmp 0) 190 rfl (hz s (.slice A n c) L) rfl 10 (hz_len _ _ _ HS.out) (by decide) ?_; intro gh w1 hgh hFh hBh; have c8 := hFh.cell_ (hz_rest s (.slice A n c) L HS.out); have c9 := hFh.cell_ (hz_n s (.slice A n c) L HS.out))
  go_ret
  exact ⟨ret_bool (by simp [H2.out]), hBh⟩
set_option maxHeartbeats 400000 in
theorem rright_false (s : List UInt32) (A : Option Addr) (n c : Nat) (L : Int) (w : World) (hs : s.length = 8) (hr : ¬ Right n L) :
    Calls Try.prog 158 #[.agg (hz s (.slice A n c) L).toArray] w fun e w' => e = .returned (.bool false) ∧ Below w.heap.size w w' := by
  have HS := Lib.hid hs
  clear hs
  by_cases h0 : 0 ≤ L
  · by_cases h1 : L ≤ 72057594037927936
    · have h2 : ¬ (n : Int) = L % 64 := fun h => hr ⟨h0, h1, h⟩
      have H2 := Lib.hid h2
      clear h2 hr
      go_enter Try.func158, Try.ntmps158
      go_wp2_with (with_reducible refine wpList_box (o := ⟨some 1, _, _, _, _, _⟩) rfl (.tmp 0) 190 rfl (hz s (.slice A n c) L) rfl 10 (hz_len _ _ _ HS.out) (by decide) ?_; intro gh w1 hgh hFh hBh; have c8 := hFh.cell_ (hz_rest s (.slice A n c) L HS.out); have c9 := hFh.cell_ (hz_n s (.slice A n c) L HS.out))
      go_ret
      exact ⟨ret_bool (by simpa using H2.out), hBh⟩
    · have hd : decide (L ≤ 72057594037927936) = false := by simpa using h1
      clear hr h1
      go_enter Try.func158, Try.ntmps158
      go_wp2_with (with_reducible refine wpList_box (o := ⟨some 1, _, _, _, _, _⟩) rfl (.tmp 0) 190 rfl (hz s (.slice A n c) L) rfl 10 (hz_len _ _ _ HS.out) (by decide) ?_; intro gh w1 hgh hFh hBh; have c8 := hFh.cell_ (hz_rest s (.slice A n c) L HS.out); have c9 := hFh.cell_ (hz_n s (.slice A n c) L HS.out))
      go_ret
      exact ⟨rfl, hBh⟩
  · have hd : decide (0 ≤ L) = false := by simpa using h0
    clear hr h0
    go_enter Try.func158, Try.ntmps158
    go_wp2_with (with_reducible refine wpList_box (o := ⟨some 1, _, _, _, _, _⟩) rfl (.tmp 0) 190 rfl (hz s (.slice A n c) L) rfl 10 (hz_len _ _ _ HS.out) (by decide) ?_; intro gh w1 hgh hFh hBh; have c8 := hFh.cell_ (hz_rest s (.slice A n c) L HS.out); have c9 := hFh.cell_ (hz_n s (.slice A n c) L HS.out))
    go_ret
    exact ⟨rfl, hBh⟩
end Go.Proofs.Ytcfjbllmaejiaaa

namespace Go.Proofs.Ytcfjbllmaejiaaa
open Go.RowKit
set_option linter.unusedVariables false

/-- 'append(nil, x...)', as one run. -/
theorem run_app8 (w : World) (ty : TypeId) (A : Option Addr) (m d : Nat) (l : List UInt8) (hS : Sees w w.heap.size A (cb l)) (hl : l.length = m) (hm : m ≤ 1099511627776) :
    ∃ A' c' w', (Builtin.append_ #[62, 62] ty #[.slice none 0 0, .slice A m d]).run Try.prog w = .ok (.slice A' m c') w' ∧ Fresh w.heap.size 5 w' A' m c' (cb l) ∧ Below w.heap.size w w' := by
  obtain ⟨i0, hi, hz0, hz1, hz2⟩ := info_parts info8
  have main : ∀ ad, A = some ad → (∀ j u, (cb l)[j]? = some u → w.cell? (ad.add j) = some u) → ∃ A' c' w', (Builtin.append_ #[62, 62] ty #[.slice none 0 0, .slice A m d]).run Try.prog w = .ok (.slice A' m c') w' ∧ Fresh w.heap.size 5 w' A' m c' (cb l) ∧ Below w.heap.size w w' := by
    intro ad hA hc
    obtain ⟨v', w', hr, hown, hgr, hnil, _⟩ := run_append_own_at (P := Try.prog) w w.heap.size 62 ty 5 i0 (.int .u8 0) 1 1 Try.underlying62 hi hz0 hz1 hz2 rfl (by omega) (.slice none 0 0) 0 [] (fresh_nil _ _ _) ad m d (cb l) (by simp [hl]) hc (cb_one l) (by unfold maxLen; omega) (by omega) (Nat.le_refl _)
    have hB : Below w.heap.size w w' := (Below.refl w.heap.size w).grown hgr (Nat.le_refl _) (fun k hk => by simp [Value.ownBlock] at hk)
    rw [List.nil_append, Nat.zero_add] at hown
    subst hA
    rcases hown.2 with ⟨rfl, h0⟩ | ⟨g, cap, cu, rfl, _⟩
    · rw [h0] at hown hr ⊢
      exact ⟨none, 0, w', hr, hown, hB⟩
    · exact ⟨_, cap, w', hr, hown, hB⟩
  by_cases h0 : m = 0
  · subst h0
    obtain rfl : l = [] := List.eq_nil_of_length_eq_zero hl
    cases hA : A with
    | none => exact ⟨none, 0, w, none_app (c := 0) (base := w.heap.size) (xs := []) (fresh_nil _ _ _), fresh_nil _ _ _, Below.refl _ _⟩
    | some ad => exact hA ▸ main ad hA (fun j u hj => by simp at hj)
  · obtain ⟨b, off, hA, _, hc⟩ := hS (by simp; omega)
    exact main _ hA (fun j u hj => by rw [Addr.add_lit]; exact hc j u hj)
theorem build_hz (s : List UInt32) (hs : s.length = 8) (M : Int) (w : World) : (Instr.build 190 #[(0, .agg (cw s).toArray), (2, .int .i64 M)]).run Try.prog w = .ok (.agg (hz s (.slice none 0 0) M).toArray) w := by
  obtain ⟨a, b, c, d, e, f, g, i, rfl⟩ := eight s hs
  exact run_build w _ _ _ (by kernel_rfl)
theorem wpList_bhz {w : World} {ops : Array Oper} {rest : List Oper} {o : Oper} {a : Act} {Q : Exit → Act → World → Prop} (hg : o.guard = none) (x y : Operand) (hop : o.op = .build 190 #[(0, x), (2, y)]) (s : List UInt32) (M : Int)
    (hx : a.eval x = .agg (cw s).toArray) (hy : a.eval y = .int .i64 M) (hs : s.length = 8) (hK : wpList Try.prog ops Q rest (a.put o.dst (.agg (hz s (.slice none 0 0) M).toArray)) w) : wpList Try.prog ops Q (o :: rest) a w := by
  refine wpList_plain hg fun K hK' => ?_
  have hrun : (execOp a.eval o).run Try.prog w = .ok (.value (.agg (hz s (.slice none 0 0) M).toArray)) w := by
    have h := build_hz s hs M w
    simp only [execOp, hop]
    simp only [List.map_toArray, List.map_cons, List.map_nil, hx, hy, Sem.run_bind]
    rw [h]
    rfl
  unfold Oper.wp
  rw [hrun]
  exact hK' _ _ hK
def rwrFacts (gx N c t : Nat) (A A' : Option Addr) (tab : List Value) (st nx : List UInt32) (k : Nat) (v : Value) (w : World) : Prop :=
  match k with
  | 0 => v = .agg tab.toArray
  | 1 => v = .pointer (some ⟨gx, 0, none⟩)
  | 2 => v = .agg (cw st).toArray
  | 3 => v = .slice A N c
  | 4 => v = .int .i64 (t : Int)
  | 5 => v = .int .i64 (t : Int)
  | 6 => v = .int .i64 ((t : Int) + 64)
  | 7 => v = .slice A' 64 (c - t)
  | 8 => v = .agg (cw nx).toArray
  | 9 => v = .pointer (some ⟨gx, 0, none⟩)
  | _ => True
theorem rwrFacts_stab (gx N c t : Nat) (A A' : Option Addr) (tab : List Value) (st nx : List UInt32) : ∀ k v w w', Below w.heap.size w w' → rwrFacts gx N c t A A' tab st nx k v w → rwrFacts gx N c t A A' tab st nx k v w' := fun k v w w' _ h => h
def rweFacts (B gx N c t m : Nat) (A A' : Option Addr) (l : List UInt8) (k : Nat) (v : Value) (w : World) : Prop :=
  match k with
  | 0 => v = .pointer (some ⟨gx, 8, none⟩)
  | 1 => v = .slice none 0 0
  | 2 => v = .slice A N c
  | 3 => v = .int .i64 (t : Int)
  | 4 => v = .slice A' m (c - t)
  | 5 => ∃ A2 c2, v = .slice A2 m c2 ∧ Fresh B 5 w A2 m c2 (cb l)
  | 6 => v = .pointer (some ⟨gx, 8, none⟩)
  | _ => True
theorem rweFacts_stab (B gx N c t m : Nat) (A A' : Option Addr) (l : List UInt8) : ∀ k v w w', Below w.heap.size w w' → rweFacts B gx N c t m A A' l k v w → rweFacts B gx N c t m A A' l k v w' := fun k v w w' hb h =>
  match k, h with
  | 0, h => h
  | 1, h => h
  | 2, h => h
  | 3, h => h
  | 4, h => h
  | 5, ⟨A2, c2, e, h⟩ => ⟨A2, c2, e, h.below hb⟩
  | 6, h => h
  | _ + 7, _ => trivial
theorem hz_take8 {w : World} {base g : Nat} {s : List UInt32} {v : Value} {L : Int} (hs : s.length = 8) (h : Fresh base 190 w (some ⟨g, 0, none⟩) 10 10 (hz s v L)) : Sees w w.heap.size (some ⟨g, 0, none⟩) (cw s) := by
  have := h.sees.take_ 8
  rwa [show (hz s v L).take 8 = cw s from by simp [hz, hs]] at this
set_option maxHeartbeats 2000000 in
set_option maxRecDepth 100000 in
theorem rWrite_any (first keys s : List UInt32) (R A : Option Addr) (m cr n c : Nat) (L : Int) (rest b : List UInt8) (w : World) (h1 : first.length = 8) (h2 : keys.length = 64) (hs : s.length = 8) (hr : Right m L) (hR : Sees w w.heap.size R (cb rest)) (hm : rest.length = m) (hA : Sees w w.heap.size A (cb b)) (hn : b.length = n) (hc : n ≤ 1000000000000) :
    Calls Try.prog 142 #[.agg (cw (first ++ keys)).toArray, .agg (hz s (.slice R m cr) L).toArray, .slice A n c] w (Told w (stAll keys s (rest ++ b)) (left (rest ++ b)) (L + n)) := by
  have HS := Lib.hid hs
  have HM := Lib.hid hm
  have HN := Lib.hid hn
  have H1 := Lib.hid h1
  have H2 := Lib.hid h2
  have HK : Hid ((cw (first ++ keys)).length = 72) := Lib.hid (by simp [h1, h2])
  have hm64 : m < 64 := by
    obtain ⟨h0, h1, h2⟩ := hr
    omega
  have hL0 : 0 ≤ L := hr.1
  have hL1 : L ≤ 72057594037927936 := hr.2.1
  have HR := Lib.hid hr
  have hln : IntKind.i64.wrap (L + (n : Int)) = L + (n : Int) := by rw [IntKind.wrap_i64]; omega
  clear hr hs hm hn h1 h2
  go_enter Try.func142, Try.ntmps142
  go_upto_region 6 with (first
    | (with_reducible refine wpList_box (o := ⟨some 3, _, _, _, _, _⟩) rfl (.tmp 0) 79 rfl (cw (first ++ keys)) rfl 72 HK.out (by decide) ?_; intro gt w1 hgt hFt hBt; have z1 := hBt.size)
    | (with_reducible refine wpList_box (o := ⟨some 4, _, _, _, _, _⟩) rfl (.tmp 1) 190 rfl (hz s (.slice R m cr) L) rfl 10 (hz_len _ _ _ HS.out) (by decide) ?_; intro gh w2 hgh hFh hBh; have z2 := hBh.size)
    | (with_reducible refine wpList_alloc (o := ⟨some 6, _, _, _, _, _⟩) rfl 190 rfl (hz (List.replicate 8 0) (.slice none 0 0) 0) (by kernel_rfl) 10 (by simp) (by decide) ?_; intro gr w3 hgr hFr hBr; have z3 := hBr.size; have hB03 := Below.then_ (Below.then_ hBt hBh) hBr; have hFh3 := hFh.below hBr; have hFt3 := (hFt.below hBh).below hBr)
    | (with_reducible refine wpList_load (o := ⟨some 10, _, _, _, _, _⟩) rfl (.tmp 4) 190 rfl gh 0 _ rfl (hz s (.slice R m cr) L) 10 (hz_len _ _ _ HS.out) (by kernel_rfl) hFh3.sees ?_)
    | (go_at_call 158; refine (rright_true s R m cr L _ HS.out HR.out).mono ?_; rintro e w4 ⟨rfl, hB4⟩; have z4 := hB4.size; have hB04 := Below.then_ hB03 hB4; have hFh4 := hFh3.below hB4; have hFt4 := hFt3.below hB4; have hFr4 := hFr.below hB4; have c9 := hFh4.cell_ (hz_n s (.slice R m cr) L HS.out))
    | (with_reducible refine wpList_load (o := ⟨some 15, _, _, _, _, _⟩) rfl (.tmp 14) 76 rfl gh 0 _ rfl (cw s) 8 (by simp [HS.out]) (by kernel_rfl) (hz_take8 HS.out hFh4) ?_)
    | (with_reducible refine wpList_bhz (o := ⟨some 21, _, _, _, _, _⟩) rfl (.tmp 15) (.tmp 20) rfl s (L + (n : Int)) rfl rfl HS.out ?_)
    | (with_reducible refine wpList_alloc (o := ⟨some 7, _, _, _, _, _⟩) rfl 190 rfl (hz (List.replicate 8 0) (.slice none 0 0) 0) (by kernel_rfl) 10 (by simp) (by decide) ?_; intro gx w5 hgx hFx hBx; have z5 := hBx.size)
    | (with_reducible refine wpList_store rfl rfl (.tmp 7) (.tmp 21) 190 rfl gx 0 _ 190 10 (hz (List.replicate 8 0) (.slice none 0 0) 0) (hz s (.slice none 0 0) (L + (n : Int))) rfl rfl 10 (hz_len _ _ _ HS.out) (by kernel_rfl) hFx (by omega) (hz_one _ _ _ rfl) w (Below.then_ hB04 hBx) (by omega) ?_; intro w6 hF6 hB6 ho6 hz6; rw [hz_over (by simp) HS.out] at hF6; have hB46 : Below w4.heap.size w4 w6 := below_from hB04 hB6 (by omega) (fun k hk => (ho6 k (by omega)).trans (hBx.block k hk)); have c8 := (hFh4.below hB46).cell_ (hz_rest s (.slice R m cr) L HS.out))
    | (at_builtin; refine wpList_app8 rfl (.tmp 22) (.tmp 24) rfl none R 0 0 m cr [] rest w6 rfl rfl (fresh_nil _ _ _) (hR.step hB6) HM.out (by omega) (Below.refl _ _) ?_; intro A7 c7 w7 hF7 hB7))
  have hF7' : Fresh w6.heap.size 5 w7 A7 m c7 (cb rest) := by simpa using hF7
  have hA7 := (hA.step hB6).step hB7
  have hmn : m + n ≤ 1099511627776 := by omega
  go_wp2_with (at_builtin; refine wpList_app8 rfl (.tmp 26) (.tmp 27) rfl A7 A m c7 n c rest b w6 rfl rfl hF7' hA7 HN.out hmn hB7 ?_; intro A8 c8' w8 hF8 hB8)
  obtain ⟨all, hall⟩ : ∃ all, rest ++ b = all := ⟨_, rfl⟩
  obtain ⟨N, hN⟩ : ∃ N, m + n = N := ⟨_, rfl⟩
  have HAL : Hid (all.length = N) := Lib.hid (by rw [← hall, ← hN, List.length_append, HM.out, HN.out])
  have hB68 := hB8
  rw [hall, hN] at hF8
  rw [hN] at hmn
  have hB06 : Below w.heap.size w w6 := hB6
  have z8 := hB8.size
  have lgt := hFt4.lt_size
  have lgx := Fresh.lt_size hF6
  have hGx : Fresh w.heap.size 190 w8 (some ⟨gx, 0, none⟩) 10 10 (hz s (.slice none 0 0) (L + (n : Int))) := (Fresh.below hF6 hB8).lower (by omega)
  have hGr : Fresh w.heap.size 190 w8 (some ⟨gr, 0, none⟩) 10 10 (hz (List.replicate 8 0) (.slice none 0 0) 0) := ((hFr4.below hB46).below hB8).lower (by omega)
  have hGt : Fresh w.heap.size 79 w8 (some ⟨gt, 0, none⟩) 72 72 (cw (first ++ keys)) := ((hFt4.below hB46).below hB8).lower (by omega)
  have lgr := hFr4.lt_size
  have ngr : gr ≠ gx := by omega
  have ngt : gt ≠ gx := by omega
  have hwx : w.heap.size ≤ gx := by omega
  have hB08 := Below.then_ hB6 hB8
  rw [hall, hN]
  have HALL := Lib.hid hall
  have HNN := Lib.hid hN
  clear hall hN
  clear hB8 hF7 hB7 hA7 hF7' hF6 hB6 ho6 hz6 hB46 c8 hFx hBx hFr4 hFt4 hFh4 hB04 hB4 c9 hFh3 hFt3 hB03 hFr hBr hFh hBh hFt hBt hR hA
  go_wp2_with fail
  go_loopw [9] (fun i wr => ∃ j t : Nat, t ≤ N ∧ Hid (t = 64 * j) ∧ i = .int .i64 (t : Int) ∧ Fresh w.heap.size 190 wr (some ⟨gx, 0, none⟩) 10 10 (hz (stN keys s all j) (.slice none 0 0) (L + (n : Int))) ∧ Fresh w.heap.size 190 wr (some ⟨gr, 0, none⟩) 10 10 (hz (List.replicate 8 0) (.slice none 0 0) 0) ∧ Fresh w.heap.size 79 wr (some ⟨gt, 0, none⟩) 72 72 (cw (first ++ keys)) ∧ Fresh w6.heap.size 5 wr A8 N c8' (cb all) ∧ Below w.heap.size w wr ∧ w8.heap.size ≤ wr.heap.size) (fun i _ => N - (intOf i).toNat)
  case atStart => exact ⟨0, 0, by omega, Lib.hid rfl, rfl, hGx, hGr, hGt, hF8, hB08, Nat.le_refl _⟩
  case round =>
    obtain ⟨j, t, htN, hj, rfl, hXj, hRj, hTj, hAj, hBj, hwj⟩ := hrel
    clear hGx hGr hGt hF8 hB08
    by_cases hlt : t + 64 ≤ N
    · have HST : Hid ((stN keys s all j).length = 8) := Lib.hid (len_stN _ _ _ HS.out _)
      obtain ⟨A', hrun, hsee⟩ := run_between A8 N c8' t (t + 64) (by omega) hlt hAj.cap.1
      rw [show t + 64 - t = 64 from by omega] at hrun hsee
      have hnx : stN keys s all (j + 1) = blockF keys (stN keys s all j) ((all.drop t).take 64) := by rw [hj.out]; rfl
      have HNX := Lib.hid hnx
      have HLT := Lib.hid hlt
      obtain ⟨blk, hblk⟩ : ∃ blk, (all.drop t).take 64 = blk := ⟨_, rfl⟩
      rw [hblk] at HNX
      have HBLK : Hid (blk.length = 64) := Lib.hid (by rw [← hblk]; have := HAL.out; simp; omega)
      have hsee2 := fun (w' : World) (x : Below wr.heap.size wr w') => hsee w' w'.heap.size all HAL.out (hAj.below x).sees
      rw [hblk] at hsee2
      clear hnx hsee hblk
      generalize hst : stN keys s all j = st at *
      obtain ⟨nx, hnb⟩ : ∃ nx, blockF keys st blk = nx := ⟨_, rfl⟩
      have HNB := Lib.hid hnb
      have HN8 : Hid (nx.length = 8) := Lib.hid (by rw [← hnb]; exact len_blockF _ _ _ HST.out)
      rw [hnb] at HNX
      clear hnb
      have ew : IntKind.i64.wrap ((t : Int) + 64) = (t : Int) + 64 := by rw [IntKind.wrap_i64]; omega
      have hq : ∀ W, (Instr.slice 62 (.slice A8 N c8') (some (.int .i64 (t : Int))) (some (.int .i64 ((t : Int) + 64))) none).run Try.prog W = .ok (.slice A' 64 (c8' - t)) W := fun W => hrun W
      go_wp2_with fail
      refine region_all_tail 10 (rwrFacts gx N c8' t A8 A' (cw (first ++ keys)) st nx) (by kernel_rfl) (by kernel_rfl) (by kernel_rfl) (rwrFacts_stab _ _ _ _ _ _ _ _ _) ?_ ?_
      · intro w0 hb0
        simp only [List.take_succ_cons, List.take_zero]
        refine ⟨?_, ?_, ?_, ?_, ?_, ?_, ?_, ?_, ?_, ?_, trivial⟩
        all_goals intro listed a1 w' hk hd
        · have f2 : a1.eval (.tmp 3) = .pointer (some ⟨gt, 0, none⟩) := hk.ev_old 3 (by kernel_rfl)
          exact stepOk_value rfl (run_load_agg (.tmp 3) 79 rfl f2 (cw (first ++ keys)) 72 HK.out (by kernel_rfl) ((hTj.below hb0).below hk.below).sees) rfl
        · have f7_ : a1.eval (.tmp 7) = .pointer (some ⟨gx, 0, none⟩) := hk.ev_old 7 (by kernel_rfl)
          have g7_ : a1.tmps[7]?.getD undef = .pointer (some ⟨gx, 0, none⟩) := by simpa [Act.eval] using f7_
          exact stepOk_value rfl (v := .pointer (some ⟨gx, 0, none⟩)) (by go_simp) rfl
        · obtain ⟨v1, e1, q1, rfl⟩ := hk.ev_new hd 1 35 (by kernel_rfl) rfl
          have f2 : a1.eval (.tmp 35) = .pointer (some ⟨gx, 0, none⟩) := e1
          exact stepOk_value rfl (run_load_agg (.tmp 35) 76 rfl f2 (cw st) 8 (by simp [HST.out]) (by kernel_rfl) (hz_take8 HST.out ((hXj.below hb0).below hk.below))) rfl
        · have f8_ : a1.eval (.tmp 8) = .slice A8 N c8' := hk.ev_old 8 (by kernel_rfl)
          have g8_ : a1.tmps[8]?.getD undef = .slice A8 N c8' := by simpa [Act.eval] using f8_
          exact stepOk_value rfl (v := .slice A8 N c8') (by go_simp) rfl
        · have f9_ : a1.eval (.tmp 9) = .int .i64 (t : Int) := hk.ev_old 9 (by kernel_rfl)
          have g9_ : a1.tmps[9]?.getD undef = .int .i64 (t : Int) := by simpa [Act.eval] using f9_
          exact stepOk_value rfl (v := .int .i64 (t : Int)) (by go_simp) rfl
        · have f9_ : a1.eval (.tmp 9) = .int .i64 (t : Int) := hk.ev_old 9 (by kernel_rfl)
          have g9_ : a1.tmps[9]?.getD undef = .int .i64 (t : Int) := by simpa [Act.eval] using f9_
          exact stepOk_value rfl (v := .int .i64 (t : Int)) (by go_simp) rfl
        · obtain ⟨v5, e5, q5, rfl⟩ := hk.ev_new hd 5 39 (by kernel_rfl) rfl
          exact stepOk_value rfl (v := .int .i64 ((t : Int) + 64)) (by go_simp) rfl
        · obtain ⟨v3, e3, q3, rfl⟩ := hk.ev_new hd 3 37 (by kernel_rfl) rfl
          obtain ⟨v4, e4, q4, rfl⟩ := hk.ev_new hd 4 38 (by kernel_rfl) rfl
          obtain ⟨v6, e6, q6, rfl⟩ := hk.ev_new hd 6 40 (by kernel_rfl) rfl
          exact stepOk_value rfl (v := .slice A' 64 (c8' - t)) (by go_simp) rfl
        · obtain ⟨v0, e0, q0, rfl⟩ := hk.ev_new hd 0 34 (by kernel_rfl) rfl
          obtain ⟨v2, e2, q2, rfl⟩ := hk.ev_new hd 2 36 (by kernel_rfl) rfl
          obtain ⟨v7, e7, q7, rfl⟩ := hk.ev_new hd 7 41 (by kernel_rfl) rfl
          refine stepOk_enter (by simp [Region.wanted]) (f := 160) (args := #[.agg (cw (first ++ keys)).toArray, .agg (cw st).toArray, .slice A' 64 (c8' - t)]) (by go_simp) ?_
          refine (rBlock_any first keys st A' (c8' - t) blk _ H1.out H2.out HST.out HBLK.out (hsee2 _ (Below.then_ hb0 hk.below))).mono ?_
          rintro e w5 ⟨rfl, hB5⟩
          exact ⟨_, rfl, (by rw [HNB.out]; rfl), hB5⟩
        · have f7_ : a1.eval (.tmp 7) = .pointer (some ⟨gx, 0, none⟩) := hk.ev_old 7 (by kernel_rfl)
          have g7_ : a1.tmps[7]?.getD undef = .pointer (some ⟨gx, 0, none⟩) := by simpa [Act.eval] using f7_
          exact stepOk_value rfl (v := .pointer (some ⟨gx, 0, none⟩)) (by go_simp) rfl
      · intro a1 w9 hbw hp
        obtain ⟨v0, p0, v1, p1, v2, p2, v3, p3, v4, p4, v5, p5, v6, p6, v7, p7, v8, p8, v9, p9, rfl⟩ := hp
        simp only [rwrFacts] at p0 p1 p2 p3 p4 p5 p6 p7 p8 p9
        subst p0 p1 p2 p3 p4 p5 p6 p7 p8 p9
        simp only [List.drop_succ_cons, List.drop_zero, Act.put, List.setIfInBounds_toArray, List.set_cons_succ, List.set_cons_zero]
        have hX9 := hXj.below hbw
        have hR9 := hRj.below hbw
        have hT9 := hTj.below hbw
        have hA9 := hAj.below hbw
        have hB9 := Below.then_ hBj hbw
        have z9 := hbw.size
        go_wp2_with (with_reducible refine wpList_store rfl rfl (.tmp 43) (.tmp 42) 76 rfl gx 0 w.heap.size 190 10 (hz st (.slice none 0 0) (L + (n : Int))) (cw nx) rfl rfl 8 (by simp [HN8.out]) (by kernel_rfl) hX9 (by omega) (cw_one _) w hB9 hwx ?_; intro w10 hF10 hB10 ho10 hz10)
        rw [hz_splice _ _ _ _ HST.out HN8.out] at hF10
        have hA10 := hA9.others (w' := w10) fun k hk => ho10 k (by omega)
        go_roundw
        case rel => exact ⟨j + 1, t + 64, HLT.out, Lib.hid (by rw [hj.out]; omega), by go_num, (by rw [HNX.out]; exact hF10), hR9.other ngr ho10, hT9.other ngt ho10, hA10, hB10, by omega⟩
        case measure => (have := HLT.out); simp [intOf]; omega
    · have hjN : j = N / 64 := by have := hj.out; omega
      have hstA : stAll keys s all = stN keys s all j := by unfold stAll; rw [HAL.out, hjN]
      have hlfA : left all = all.drop t := by unfold left; rw [HAL.out, hj.out, hjN]
      obtain ⟨mm, hmm⟩ : ∃ mm, N - t = mm := ⟨_, rfl⟩
      obtain ⟨lf, hlf⟩ : ∃ lf, all.drop t = lf := ⟨_, rfl⟩
      have HLF : Hid (lf.length = mm) := Lib.hid (by rw [← hlf, ← hmm, List.length_drop, HAL.out])
      have HST : Hid ((stN keys s all j).length = 8) := Lib.hid (len_stN _ _ _ HS.out _)
      obtain ⟨A', hrun, hsee0⟩ := run_from A8 N c8' t (by omega) hAj.cap.1
      rw [hmm] at hrun
      have hsee : ∀ (w' : World) (B : Nat), Sees w' B A8 (cb all) → Sees w' B A' (cb lf) := fun w' B h => by
        have := hsee0 w' B (cb all) (by rw [List.length_map]; exact HAL.out) h
        rwa [show (cb all).drop t = cb lf from by rw [← hlf]; simp [cb]] at this
      have hmm9 : mm ≤ 1099511627776 := by omega
      obtain ⟨st, hst⟩ : ∃ st, stN keys s all j = st := ⟨_, rfl⟩
      have HSTA : Hid (stAll keys s (rest ++ b) = st) := Lib.hid (by rw [HALL.out, hstA, hst])
      have HLFA : Hid (left (rest ++ b) = lf) := Lib.hid (by rw [HALL.out, hlfA, hlf])
      rw [hst] at HST hXj
      clear hsee0 hlf hmm hstA hlfA hjN hst
      go_wp2_with fail
      refine region_all_tail 7 (rweFacts wr.heap.size gx N c8' t mm A8 A' lf) (by kernel_rfl) (by kernel_rfl) (by kernel_rfl) (rweFacts_stab _ _ _ _ _ _ _ _ _) ?_ ?_
      · intro w0 hb0
        simp only [List.take_succ_cons, List.take_zero]
        refine ⟨?_, ?_, ?_, ?_, ?_, ?_, ?_, trivial⟩
        all_goals intro listed a1 w' hk hd
        · have f7_ : a1.eval (.tmp 7) = .pointer (some ⟨gx, 0, none⟩) := hk.ev_old 7 (by kernel_rfl)
          have g7_ : a1.tmps[7]?.getD undef = .pointer (some ⟨gx, 0, none⟩) := by simpa [Act.eval] using f7_
          exact stepOk_value rfl (v := .pointer (some ⟨gx, 8, none⟩)) (by go_simp) rfl
        · obtain ⟨v0, e0, q0, rfl⟩ := hk.ev_new hd 0 46 (by kernel_rfl) rfl
          have cc := ((hXj.below hb0).below hk.below).cell_ (hz_rest st (.slice none 0 0) (L + (n : Int)) HST.out)
          exact stepOk_value rfl (v := .slice none 0 0) (by go_simp) rfl
        · have f8_ : a1.eval (.tmp 8) = .slice A8 N c8' := hk.ev_old 8 (by kernel_rfl)
          have g8_ : a1.tmps[8]?.getD undef = .slice A8 N c8' := by simpa [Act.eval] using f8_
          exact stepOk_value rfl (v := .slice A8 N c8') (by go_simp) rfl
        · have f9_ : a1.eval (.tmp 9) = .int .i64 (t : Int) := hk.ev_old 9 (by kernel_rfl)
          have g9_ : a1.tmps[9]?.getD undef = .int .i64 (t : Int) := by simpa [Act.eval] using f9_
          exact stepOk_value rfl (v := .int .i64 (t : Int)) (by go_simp) rfl
        · obtain ⟨v2, e2, q2, rfl⟩ := hk.ev_new hd 2 48 (by kernel_rfl) rfl
          obtain ⟨v3, e3, q3, rfl⟩ := hk.ev_new hd 3 49 (by kernel_rfl) rfl
          exact stepOk_value rfl (v := .slice A' mm (c8' - t)) (by go_simp) rfl
        · obtain ⟨v1, e1, q1, rfl⟩ := hk.ev_new hd 1 47 (by kernel_rfl) rfl
          obtain ⟨v4, e4, q4, rfl⟩ := hk.ev_new hd 4 50 (by kernel_rfl) rfl
          have hbb := Below.then_ hb0 hk.below
          obtain ⟨A2, c2, w5, hr5, hF5, hB5⟩ := run_app8 w' 62 A' mm (c8' - t) lf (hsee w' w'.heap.size (hAj.below hbb).sees) HLF.out (by omega)
          exact stepOk_run rfl (v := .slice A2 mm c2) (w' := w5) (by simp [execOp, resolve, invoke, builtin, e1, e4, hr5, Result.andThen]) ⟨A2, c2, rfl, hF5.lower hbb.size⟩ hB5
        · have f7_ : a1.eval (.tmp 7) = .pointer (some ⟨gx, 0, none⟩) := hk.ev_old 7 (by kernel_rfl)
          have g7_ : a1.tmps[7]?.getD undef = .pointer (some ⟨gx, 0, none⟩) := by simpa [Act.eval] using f7_
          exact stepOk_value rfl (v := .pointer (some ⟨gx, 8, none⟩)) (by go_simp) rfl
      · intro a1 w9 hbw hp
        obtain ⟨v0, p0, v1, p1, v2, p2, v3, p3, v4, p4, v5, p5, v6, p6, rfl⟩ := hp
        simp only [rweFacts] at p0 p1 p2 p3 p4 p5 p6
        obtain ⟨A2, c2, rfl, hF2⟩ := p5
        subst p0 p1 p2 p3 p4 p6
        simp only [List.drop_succ_cons, List.drop_zero, Act.put, List.setIfInBounds_toArray, List.set_cons_succ, List.set_cons_zero]
        have hX9 := hXj.below hbw
        have hR9 := hRj.below hbw
        have hB9 := Below.then_ hBj hbw
        have z9 := hbw.size
        have HZ : Hid ((hz st (.slice A2 mm c2) (L + (n : Int))).length = 10) := Lib.hid (hz_len _ _ _ HST.out)
        have lgx9 := hX9.lt_size
        go_wp2_with (first
          | (with_reducible refine wpList_store1 rfl rfl (.tmp 52) (.tmp 51) 62 rfl gx 8 w.heap.size 190 10 (hz st (.slice none 0 0) (L + (n : Int))) (.slice A2 mm c2) rfl rfl rfl rfl (by kernel_rfl) hX9 (by decide) w hB9 hwx ?_; intro w10 hF10 hB10 ho10 hz10; rw [hz_set8 _ _ _ _ HST.out] at hF10; have hR10 := hR9.other ngr ho10; have hF20 := hF2.others (w' := w10) fun k hk => ho10 k (by omega))
          | (with_reducible refine wpList_load (o := ⟨some 53, _, _, _, _, _⟩) rfl (.tmp 7) 190 rfl gx 0 _ rfl (hz st (.slice A2 mm c2) (L + (n : Int))) 10 HZ.out (by kernel_rfl) hF10.sees ?_)
          | (with_reducible refine wpList_store rfl rfl (.tmp 6) (.tmp 53) 190 rfl gr 0 w.heap.size 190 10 (hz (List.replicate 8 0) (.slice none 0 0) 0) (hz st (.slice A2 mm c2) (L + (n : Int))) rfl rfl 10 HZ.out (by kernel_rfl) hR10 (by omega) (hz_one _ _ _ rfl) w hB10 (by omega) ?_; intro w11 hF11 hB11 ho11 hz11))
        rw [hz_over (by simp) HST.out] at hF11
        have hF21 := hF20.others (w' := w11) fun k hk => ho11 k (by omega)
        exact bodyPost_cell rfl rfl (hz st (.slice A2 mm c2) (L + (n : Int))) 10 HZ.out (by kernel_rfl) hF11.sees rfl ⟨A2, c2, (by rw [HSTA.out, HLFA.out, HLF.out]), (by rw [HLFA.out, HLF.out]; exact hF21.lower (by omega)), hB11⟩
set_option maxHeartbeats 1000000 in
set_option maxRecDepth 100000 in
theorem rWrite_no (first keys s : List UInt32) (R A : Option Addr) (m cr n c : Nat) (L : Int) (w : World) (h1 : first.length = 8) (h2 : keys.length = 64) (hs : s.length = 8) (hr : ¬ Right m L) :
    Calls Try.prog 142 #[.agg (cw (first ++ keys)).toArray, .agg (hz s (.slice R m cr) L).toArray, .slice A n c] w fun e w' => e = .returned (.agg (hz s (.slice R m cr) L).toArray) ∧ Below w.heap.size w w' := by
  have HS := Lib.hid hs
  have HK : Hid ((cw (first ++ keys)).length = 72) := Lib.hid (by simp [h1, h2])
  have HR := Lib.hid hr
  clear hr hs h1 h2
  go_enter Try.func142, Try.ntmps142
  go_wp2_with (first
    | (with_reducible refine wpList_box (o := ⟨some 3, _, _, _, _, _⟩) rfl (.tmp 0) 79 rfl (cw (first ++ keys)) rfl 72 HK.out (by decide) ?_; intro gt w1 hgt hFt hBt; have z1 := hBt.size)
    | (with_reducible refine wpList_box (o := ⟨some 4, _, _, _, _, _⟩) rfl (.tmp 1) 190 rfl (hz s (.slice R m cr) L) rfl 10 (hz_len _ _ _ HS.out) (by decide) ?_; intro gh w2 hgh hFh hBh; have z2 := hBh.size)
    | (with_reducible refine wpList_alloc (o := ⟨some 6, _, _, _, _, _⟩) rfl 190 rfl (hz (List.replicate 8 0) (.slice none 0 0) 0) (by kernel_rfl) 10 (by simp) (by decide) ?_; intro gr w3 hgr hFr hBr; have z3 := hBr.size; have hB03 := Below.then_ (Below.then_ hBt hBh) hBr; have hFh3 := hFh.below hBr)
    | (with_reducible refine wpList_load (o := ⟨some 10, _, _, _, _, _⟩) rfl (.tmp 4) 190 rfl gh 0 _ rfl (hz s (.slice R m cr) L) 10 (hz_len _ _ _ HS.out) (by kernel_rfl) hFh3.sees ?_)
    | (go_at_call 158; refine (rright_false s R m cr L _ HS.out HR.out).mono ?_; rintro e w4 ⟨rfl, hB4⟩; have z4 := hB4.size; have hB04 := Below.then_ hB03 hB4; have hFh4 := hFh3.below hB4; have hFr4 := hFr.below hB4)
    | (with_reducible refine wpList_load (o := ⟨some 13, _, _, _, _, _⟩) rfl (.tmp 4) 190 rfl gh 0 _ rfl (hz s (.slice R m cr) L) 10 (hz_len _ _ _ HS.out) (by kernel_rfl) hFh4.sees ?_)
    | (with_reducible refine wpList_store rfl rfl (.tmp 6) (.tmp 13) 190 rfl gr 0 _ 190 10 (hz (List.replicate 8 0) (.slice none 0 0) 0) (hz s (.slice R m cr) L) rfl rfl 10 (hz_len _ _ _ HS.out) (by kernel_rfl) hFr4 (by omega) (hz_one _ _ _ rfl) w hB04 (by omega) ?_; intro w6 hF6 hB6 ho6 hz6))
  rw [hz_over (by simp) HS.out] at hF6
  exact bodyPost_cell rfl rfl (hz s (.slice R m cr) L) 10 (hz_len _ _ _ HS.out) (by kernel_rfl) hF6.sees rfl ⟨rfl, hB6⟩
end Go.Proofs.Ytcfjbllmaejiaaa

namespace Go.Proofs.Ytcfjbllmaejiaaa
open Go.RowKit
set_option linter.unusedVariables false

def digQ (st : List UInt32) (i q : Nat) (x : UInt32) : List UInt8 := (digF st).take (4 * i) ++ ((List.replicate (4 - q) 0 ++ (wd x.toNat).drop (4 - q)) ++ List.replicate (28 - 4 * i) 0)
theorem digQ_zero (st : List UInt32) (i : Nat) (x : UInt32) (hi : i < 8) : digQ st i 0 x = digK st (4 * i) := by
  unfold digQ digK
  congr 1
  have : (wd x.toNat).drop 4 = [] := by simp [wd]
  rw [show 4 - 0 = 4 from rfl, this, List.append_nil, List.replicate_append_replicate]
  congr 1
  omega
theorem digF_split (st : List UInt32) (i : Nat) (x : UInt32) (hx : st[i]? = some x) : (digF st).take (4 * (i + 1)) = (digF st).take (4 * i) ++ wd x.toNat := by
  induction st generalizing i with
  | nil => simp at hx
  | cons y st ih =>
    have e : digF (y :: st) = wd y.toNat ++ digF st := rfl
    have l : (wd y.toNat).length = 4 := by simp [wd]
    rw [e]
    cases i with
    | zero =>
      obtain rfl : y = x := by simpa using hx
      simp [List.take_append, l]
    | succ i =>
      rw [List.take_append, List.take_append, l, List.take_of_length_le (l := wd y.toNat) (by rw [l]; omega), List.take_of_length_le (l := wd y.toNat) (by rw [l]; omega), show 4 * (i + 1 + 1) - 4 = 4 * (i + 1) from by omega, show 4 * (i + 1) - 4 = 4 * i from by omega, ih i (by simpa using hx), List.append_assoc]
theorem digQ_four (st : List UInt32) (i : Nat) (x : UInt32) (hi : i < 8) (hx : st[i]? = some x) : digQ st i 4 x = digK st (4 * (i + 1)) := by
  unfold digQ digK
  rw [digF_split st i x hx]
  simp
  omega
theorem digQ_set (st : List UInt32) (i q p : Nat) (x : UInt32) (hi : i < 8) (hs : st.length = 8) (hq : p + q = 3) : (digQ st i q x).set (4 * i + p) (UInt8.ofNat (x.toNat / 256 ^ q % 256)) = digQ st i (q + 1) x := by
  have hl : ((digF st).take (4 * i)).length = 4 * i := by rw [List.length_take, len_digF, hs]; omega
  unfold digQ
  rw [List.set_append_right _ _ (by rw [hl]; omega), hl, show 4 * i + p - 4 * i = p from by omega]
  congr 1
  rw [List.set_append_left _ _ (by simp [wd]; omega)]
  congr 1
  match q, hq with
  | 0, hq => obtain rfl : p = 3 := by omega
             simp [wd, List.replicate, byteAt]
  | 1, hq => obtain rfl : p = 2 := by omega
             simp [wd, List.replicate, byteAt]
  | 2, hq => obtain rfl : p = 1 := by omega
             simp [wd, List.replicate, byteAt]
  | 3, hq => obtain rfl : p = 0 := by omega
             simp [wd, byteAt]
def rsmFacts (B gh : Nat) (tab : List Value) (s keys : List UInt32) (rv : Value) (rest : List UInt8) (n : Nat) (j : Nat) (v : Value) (w : World) : Prop :=
  match j with
  | 0 => v = .agg tab.toArray
  | 1 => v = .agg (hz s rv (n : Int)).toArray
  | 2 => v = .pointer (some ⟨gh, 9, none⟩)
  | 3 => v = .int .i64 (n : Int)
  | 4 => ∃ A c, v = .slice A (9 + noughts n) c ∧ 9 + noughts n ≤ c ∧ Sees w w.heap.size A (cb (padL n))
  | 5 => ∃ v' L', v = .agg (hz (stAll keys s (rest ++ padL n)) v' L').toArray ∧ v'.oneCell' = true
  | 6 => ∃ g, v = .pointer (some ⟨g, 0, none⟩) ∧ Fresh B 190 w (some ⟨g, 0, none⟩) 10 10 (hz (List.replicate 8 0) (.slice none 0 0) 0)
  | _ => True
theorem rsmFacts_stab (B gh : Nat) (tab : List Value) (s keys : List UInt32) (rv : Value) (rest : List UInt8) (n : Nat) : ∀ j v w w', Below w.heap.size w w' → rsmFacts B gh tab s keys rv rest n j v w → rsmFacts B gh tab s keys rv rest n j v w' := fun j v w w' hb h =>
  match j, h with
  | 0, h => h
  | 1, h => h
  | 2, h => h
  | 3, h => h
  | 4, ⟨A, c, e, h1, h2⟩ => ⟨A, c, e, h1, h2.step hb⟩
  | 5, h => h
  | 6, ⟨g, e, h⟩ => ⟨g, e, h.below hb⟩
  | _ + 7, _ => trivial
set_option maxHeartbeats 2000000 in
set_option maxRecDepth 100000 in
theorem rSum_any (first keys s : List UInt32) (R : Option Addr) (m cr n : Nat) (rest : List UInt8) (w : World) (h1 : first.length = 8) (h2 : keys.length = 64) (hs : s.length = 8) (hr : Right m (n : Int)) (hR : Sees w w.heap.size R (cb rest)) (hm : rest.length = m) :
    Calls Try.prog 141 #[.agg (cw (first ++ keys)).toArray, .agg (hz s (.slice R m cr) (n : Int)).toArray] w fun e w' => e = .returned (.agg (cb (sumF keys s rest n)).toArray) ∧ Below w.heap.size w w' := by
  have HS := Lib.hid hs
  have HM := Lib.hid hm
  have H1 := Lib.hid h1
  have H2 := Lib.hid h2
  have HK : Hid ((cw (first ++ keys)).length = 72) := Lib.hid (by simp [h1, h2])
  have hn56 : n ≤ 72057594037927936 := by have := hr.2.1; omega
  have HR := Lib.hid hr
  clear hr hs hm h1 h2
  go_enter Try.func141, Try.ntmps141
  go_wp2_with (first
    | (with_reducible refine wpList_box (o := ⟨some 2, _, _, _, _, _⟩) rfl (.tmp 0) 79 rfl (cw (first ++ keys)) rfl 72 HK.out (by decide) ?_; intro gt w1 hgt hFt hBt; have z1 := hBt.size)
    | (with_reducible refine wpList_box (o := ⟨some 3, _, _, _, _, _⟩) rfl (.tmp 1) 190 rfl (hz s (.slice R m cr) (n : Int)) rfl 10 (hz_len _ _ _ HS.out) (by decide) ?_; intro gh w2 hgh hFh hBh; have z2 := hBh.size)
    | (with_reducible refine wpList_alloc (o := ⟨some 4, _, _, _, _, _⟩) rfl 84 rfl (cb (List.replicate 32 0)) (by kernel_rfl) 32 (by simp) (by decide) ?_; intro gr w3 hgr hFr hBr; have z3 := hBr.size)
    | (with_reducible refine wpList_alloc (o := ⟨some 5, _, _, _, _, _⟩) rfl 84 rfl (cb (List.replicate 32 0)) (by kernel_rfl) 32 (by simp) (by decide) ?_; intro gd w4 hgd hFd hBd; have z4 := hBd.size; have hFh4 := (hFh.below hBr).below hBd)
    | (with_reducible refine wpList_load (o := ⟨some 10, _, _, _, _, _⟩) rfl (.tmp 3) 190 rfl gh 0 _ rfl (hz s (.slice R m cr) (n : Int)) 10 (hz_len _ _ _ HS.out) (by kernel_rfl) hFh4.sees ?_)
    | (go_at_call 158; refine (rright_true s R m cr (n : Int) _ HS.out HR.out).mono ?_; rintro e w5 ⟨rfl, hB5⟩; have z5 := hB5.size))
  have lt := hFt.lt_size
  have lh := hFh.lt_size
  have lr := hFr.lt_size
  have ld := hFd.lt_size
  have hB05 := Below.then_ (Below.then_ (Below.then_ (Below.then_ hBt hBh) hBr) hBd) hB5
  have hT3 := (((hFt.below hBh).below hBr).below hBd).below hB5
  have hH3 := hFh4.below hB5
  have hR3 := ((hFr.below hBd).below hB5).lower (base' := w.heap.size) (by omega)
  have hD3 := (hFd.below hB5).lower (base' := w.heap.size) (by omega)
  have hRs3 := hR.step hB05
  have z05 := hB05.size
  clear hFt hFh hFr hFd hBt hBh hBr hBd hB5 hFh4 hR
  refine region_all_tail 7 (rsmFacts w5.heap.size gh (cw (first ++ keys)) s keys (.slice R m cr) rest n) (by kernel_rfl) (by kernel_rfl) (by kernel_rfl) (rsmFacts_stab _ _ _ _ _ _ _ _) ?_ ?_
  · intro w0 hb0
    simp only [List.take_succ_cons, List.take_zero]
    refine ⟨?_, ?_, ?_, ?_, ?_, ?_, ?_, trivial⟩
    all_goals intro listed a1 w' hk hd
    · have f2 : a1.eval (.tmp 2) = .pointer (some ⟨gt, 0, none⟩) := hk.ev_old 2 (by kernel_rfl)
      exact stepOk_value rfl (run_load_agg (.tmp 2) 79 rfl f2 (cw (first ++ keys)) 72 HK.out (by kernel_rfl) ((hT3.below hb0).below hk.below).sees) rfl
    · have f2 : a1.eval (.tmp 3) = .pointer (some ⟨gh, 0, none⟩) := hk.ev_old 3 (by kernel_rfl)
      exact stepOk_value rfl (run_load_agg (.tmp 3) 190 rfl f2 (hz s (.slice R m cr) (n : Int)) 10 (hz_len _ _ _ HS.out) (by kernel_rfl) ((hH3.below hb0).below hk.below).sees) rfl
    · have f3_ : a1.eval (.tmp 3) = .pointer (some ⟨gh, 0, none⟩) := hk.ev_old 3 (by kernel_rfl)
      have g3_ : a1.tmps[3]?.getD undef = .pointer (some ⟨gh, 0, none⟩) := by simpa [Act.eval] using f3_
      exact stepOk_value rfl (v := .pointer (some ⟨gh, 9, none⟩)) (by go_simp) rfl
    · obtain ⟨v2, e2, q2, rfl⟩ := hk.ev_new hd 2 16 (by kernel_rfl) rfl
      have c9 := ((hH3.below hb0).below hk.below).cell_ (hz_n s (.slice R m cr) (n : Int) HS.out)
      exact stepOk_value rfl (v := .int .i64 (n : Int)) (by go_simp) rfl
    · obtain ⟨v3, e3, q3, rfl⟩ := hk.ev_new hd 3 17 (by kernel_rfl) rfl
      refine stepOk_enter rfl (f := 159) (args := #[.int .i64 (n : Int)]) (by go_simp) ?_
      refine (rPad_any n (noughts n) _ (by omega) rfl).mono ?_
      rintro e w5 ⟨A5, c5, rfl, hF5, hB5⟩
      exact ⟨_, rfl, ⟨A5, c5, rfl, hF5.cap.1, hF5.sees⟩, hB5⟩
    · obtain ⟨v0, e0, q0, rfl⟩ := hk.ev_new hd 0 14 (by kernel_rfl) rfl
      obtain ⟨v1, e1, q1, rfl⟩ := hk.ev_new hd 1 15 (by kernel_rfl) rfl
      obtain ⟨v4, e4, q4, A5, c5, rfl, hcap, hS5⟩ := hk.ev_new hd 4 18 (by kernel_rfl) rfl
      refine stepOk_enter rfl (f := 142) (args := #[.agg (cw (first ++ keys)).toArray, .agg (hz s (.slice R m cr) (n : Int)).toArray, .slice A5 (9 + noughts n) c5]) (by go_simp) ?_
      have hnt : noughts n < 64 := Nat.mod_lt _ (by omega)
      refine (rWrite_any first keys s R A5 m cr (9 + noughts n) c5 (n : Int) rest (padL n) _ H1.out H2.out HS.out HR.out ((hRs3.step hb0).step hk.below) HM.out hS5 (len_padL n) (by omega)).mono ?_
      rintro e w5 ⟨A6, c6, rfl, hF6, hB6⟩
      exact ⟨_, rfl, ⟨_, _, rfl, rfl⟩, hB6⟩
    · refine stepOk_run rfl (v := .pointer (some ⟨w'.heap.size, 0, none⟩)) (w' := w'.alloc (.cells (hz (List.replicate 8 0) (.slice none 0 0) 0).toArray 190 (0, 0))) ?_ ⟨_, rfl, (Fresh.new w' 190 (hz (List.replicate 8 0) (.slice none 0 0) 0) 10 (by simp) (by decide)).lower ?_⟩ (below_alloc w' _)
      · simp only [execOp]
        rw [Sem.run_bind, run_alloc_zero 190 (hz (List.replicate 8 0) (.slice none 0 0) 0) (by kernel_rfl)]
        rfl
      · have h2 := hb0.size
        have h3 := hk.below.size
        omega
  · intro a1 w6 hbw hp
    obtain ⟨v0, p0, v1, p1, v2, p2, v3, p3, v4, p4, v5, p5, v6, p6, rfl⟩ := hp
    simp only [rsmFacts] at p0 p1 p2 p3 p4 p5 p6
    subst p0 p1 p2 p3
    obtain ⟨A5, c5, rfl, _, _⟩ := p4
    obtain ⟨rv, L', rfl, hrv⟩ := p5
    obtain ⟨gx, rfl, hFx⟩ := p6
    simp only [List.drop_succ_cons, List.drop_zero, Act.put, List.setIfInBounds_toArray, List.set_cons_succ, List.set_cons_zero]
    have HLS : Hid ((stAll keys s (rest ++ padL n)).length = 8) := Lib.hid (len_stN keys s (rest ++ padL n) HS.out ((rest ++ padL n).length / 64))
    have HSUM : Hid (sumF keys s rest n = digF (stAll keys s (rest ++ padL n))) := Lib.hid rfl
    generalize stAll keys s (rest ++ padL n) = st at HLS HSUM
    have hB6 := Below.then_ hB05 hbw
    have hR6 := hR3.below hbw
    have hD6 := hD3.below hbw
    have hgx := hFx.block.2
    have z6 := hbw.size
    have lx := hFx.lt_size
    have hFx' := hFx.lower (base' := w.heap.size) (by omega)
    have HRV := Lib.hid hrv
    clear hR3 hD3 hH3 hT3 hRs3 hB05 hbw hrv hFx
    go_wp2_with (with_reducible refine wpList_store rfl rfl (.tmp 6) (.tmp 19) 190 rfl gx 0 w.heap.size 190 10 (hz (List.replicate 8 0) (.slice none 0 0) 0) (hz st rv L') rfl rfl 10 (hz_len _ _ _ HLS.out) (by kernel_rfl) hFx' (by omega) (hz_one _ _ _ HRV.out) w hB6 (by omega) ?_; intro w7 hF7 hB7 ho7 hz7)
    rw [hz_over (by simp) HLS.out] at hF7
    have hR7 := hR6.other (g' := gx) (by omega) ho7
    have hD7 := hD6.other (g' := gx) (by omega) ho7
    clear hR6 hD6 hB6 ho7 hFx'
    go_loopw [7] (fun iv wr => ∃ i : Nat, i ≤ 8 ∧ iv = .int .i64 (i : Int) ∧ Fresh w.heap.size 84 wr (some ⟨gd, 0, none⟩) 32 32 (cb (digK st (4 * i))) ∧ Fresh w.heap.size 190 wr (some ⟨gx, 0, none⟩) 10 10 (hz st rv L') ∧ Fresh w.heap.size 84 wr (some ⟨gr, 0, none⟩) 32 32 (cb (List.replicate 32 0)) ∧ Below w.heap.size w wr) (fun iv _ => 8 - (intOf iv).toNat)
    case atStart => exact ⟨0, by omega, rfl, (by simpa [digK] using hD7), hF7, hR7, hB7⟩
    case round =>
      obtain ⟨i, hi, rfl, hDi, hXi, hRi, hBi⟩ := hrel
      clear hD7 hF7 hR7 hB7
      by_cases hlt : i < 8
      · obtain ⟨x, hx⟩ : ∃ x, st[i]? = some x := ⟨st[i]'(by rw [HLS.out]; omega), List.getElem?_eq_getElem _⟩
        have HX := Lib.hid hx
        have hcx : wr.cell? ⟨gx, i, none⟩ = some (.int .u32 (x.toNat : Int)) := hXi.cell_ (by
          rw [List.getElem?_append_left (by rw [List.length_map, HLS.out]; omega), List.getElem?_map, HX.out]
          rfl)
        have hxl : x.toNat < 4294967296 := x.toNat_lt
        rw [← digQ_zero st i x hlt] at hDi
        have HLT := Lib.hid hlt
        clear hx
        go_wp2_with fail
        rename World => wa
        clear hcx
        go_loopw [8, 9] (fun nv kv wq => ∃ (q y : Nat) (z : Int), nv = .int .u32 (y : Int) ∧ kv = .int .i64 z ∧ Hid (y = x.toNat / 256 ^ q) ∧ ((∃ p : Nat, z = (p : Int) ∧ p + q = 3) ∨ (z = -1 ∧ q = 4)) ∧ Fresh w.heap.size 84 wq (some ⟨gd, 0, none⟩) 32 32 (cb (digQ st i q x)) ∧ Fresh w.heap.size 190 wq (some ⟨gx, 0, none⟩) 10 10 (hz st rv L') ∧ Fresh w.heap.size 84 wq (some ⟨gr, 0, none⟩) 32 32 (cb (List.replicate 32 0)) ∧ Below w.heap.size w wq) (fun _ kv _ => (intOf kv + 1).toNat)
        case atStart => exact ⟨0, x.toNat, 3, rfl, rfl, Lib.hid (by simp), .inl ⟨3, rfl, rfl⟩, hDi, hXi, hRi, hBi⟩
        case round =>
          obtain ⟨q, y, z, rfl, rfl, hy, hz, hDq, hXq, hRq, hBq⟩ := hrel
          clear hDi hXi hRi hBi
          have hyl : y < 4294967296 := by rw [hy.out]; exact Nat.lt_of_le_of_lt (Nat.div_le_self _ _) hxl
          have hy2 : y / 256 = x.toNat / 256 ^ (q + 1) := by rw [hy.out, Nat.div_div_eq_div_mul, Nat.pow_succ]
          have HY2 := Lib.hid hy2
          have hby : UInt8.ofNat (x.toNat / 256 ^ q % 256) = UInt8.ofNat (y % 256) := by rw [hy.out]
          have HBY := Lib.hid hby
          clear hy2 hby
          rcases hz with ⟨p, rfl, hpq⟩ | ⟨rfl, rfl⟩
          · have HPQ := Lib.hid hpq
            have hp3 : p ≤ 3 := by omega
            have hset := hDq.store8 (4 * i + p) (UInt8.ofNat (y % 256))
            rw [← HBY.out, digQ_set st i q p x HLT.out HLS.out HPQ.out, HBY.out] at hset
            obtain ⟨u, hcu⟩ := hDq.cellAt (j := 4 * i + p) (by omega)
            have hfu := hDq.frozenAt (j := 4 * i + p)
            have hyb : (UInt8.ofNat (y % 256)).toNat = y % 256 := by simp
            have HSET := Lib.hid hset
            have ei : IntKind.i64.wrap (4 * (i : Int) + (p : Int)) = ((4 * i + p : Nat) : Int) := by rw [IntKind.wrap_i64]; omega
            clear hpq hset
            go_wp2_with fail
            go_roundw
            case rel =>
              have hS := HSET.out
              rw [hyb, show ((y % 256 : Nat) : Int) = (y : Int) % 256 from by omega] at hS
              have hoth : ∀ j, j ≠ gd → (wr.setCell ⟨gd, 4 * i + p, none⟩ (.int .u8 ((y : Int) % 256))).heap[j]? = wr.heap[j]? := fun j hj => Below.heap_setCell _ _ _ _ hj
              exact ⟨q + 1, y / 256, (p : Int) - 1, rfl, rfl, Lib.hid HY2.out, (by
                have := HPQ.out
                rcases p with _ | p
                · exact .inr ⟨rfl, by omega⟩
                · exact .inl ⟨p, by omega, by omega⟩), hS, hXq.other (by omega) hoth, hRq.other (by omega) hoth, hBq.setCell (by simp; omega) _⟩
            case measure => simp [intOf]
          · have h4 : digQ st i 4 x = digK st (4 * (i + 1)) := digQ_four st i x HLT.out HX.out
            rw [h4] at hDq
            have HDQ := Lib.hid hDq
            clear h4 hDq
            go_wp2_with fail
            go_roundw
            case rel => exact ⟨i + 1, by have := HLT.out; omega, by go_num, HDQ.out, hXq, hRq, hBq⟩
            case measure => (have := HLT.out); simp [intOf]; omega
      · obtain rfl : i = 8 := by omega
        have h1 := len_digF st
        rw [HLS.out] at h1
        have hp : digK st (4 * 8) = sumF keys s rest n := by
          rw [HSUM.out]
          simp [digK, List.take_of_length_le (Nat.le_of_eq h1)]
        have hlen : (sumF keys s rest n).length = 32 := by rw [HSUM.out]; exact h1
        rw [hp] at hDi
        have HL := Lib.hid hlen
        clear hp hlen HSUM h1
        generalize hdg : sumF keys s rest n = dg at hDi HL
        have HDG := Lib.hid hdg
        clear hdg
        go_wp2_with (first
          | (with_reducible refine wpList_load (o := ⟨some 42, _, _, _, _, _⟩) rfl (.tmp 5) 84 rfl gd 0 _ rfl (cb dg) 32 (by rw [List.length_map]; exact HL.out) (by kernel_rfl) hDi.sees ?_)
          | (with_reducible refine wpList_store rfl rfl (.tmp 4) (.tmp 42) 84 rfl gr 0 w.heap.size 84 32 (cb (List.replicate 32 0)) (cb dg) rfl rfl 32 (by rw [List.length_map]; exact HL.out) (by kernel_rfl) hRi (by omega) (cb_one _) w hBi (by omega) ?_; intro w9 hF9 hB9 _ _))
        have e : splice (cb (List.replicate 32 0)) 0 (cb dg) = cb dg := by
          have := HL.out
          simp [splice, this]
        rw [e] at hF9
        exact bodyPost_cell rfl rfl (cb dg) 32 (by rw [List.length_map]; exact HL.out) (by kernel_rfl) hF9.sees rfl ⟨by rw [HDG.out], hB9⟩
set_option maxHeartbeats 1000000 in
set_option maxRecDepth 100000 in
theorem rSum_no (first keys s : List UInt32) (R : Option Addr) (m cr : Nat) (L : Int) (w : World) (h1 : first.length = 8) (h2 : keys.length = 64) (hs : s.length = 8) (hr : ¬ Right m L) :
    Calls Try.prog 141 #[.agg (cw (first ++ keys)).toArray, .agg (hz s (.slice R m cr) L).toArray] w fun e w' => e = .returned (.agg (cb (List.replicate 32 0)).toArray) ∧ Below w.heap.size w w' := by
  have HS := Lib.hid hs
  have HK : Hid ((cw (first ++ keys)).length = 72) := Lib.hid (by simp [h1, h2])
  have HR := Lib.hid hr
  clear hr hs h1 h2
  go_enter Try.func141, Try.ntmps141
  go_wp2_with (first
    | (with_reducible refine wpList_box (o := ⟨some 2, _, _, _, _, _⟩) rfl (.tmp 0) 79 rfl (cw (first ++ keys)) rfl 72 HK.out (by decide) ?_; intro gt w1 hgt hFt hBt; have z1 := hBt.size)
    | (with_reducible refine wpList_box (o := ⟨some 3, _, _, _, _, _⟩) rfl (.tmp 1) 190 rfl (hz s (.slice R m cr) L) rfl 10 (hz_len _ _ _ HS.out) (by decide) ?_; intro gh w2 hgh hFh hBh; have z2 := hBh.size)
    | (with_reducible refine wpList_alloc (o := ⟨some 4, _, _, _, _, _⟩) rfl 84 rfl (cb (List.replicate 32 0)) (by kernel_rfl) 32 (by simp) (by decide) ?_; intro gr w3 hgr hFr hBr; have z3 := hBr.size)
    | (with_reducible refine wpList_alloc (o := ⟨some 5, _, _, _, _, _⟩) rfl 84 rfl (cb (List.replicate 32 0)) (by kernel_rfl) 32 (by simp) (by decide) ?_; intro gd w4 hgd hFd hBd; have z4 := hBd.size; have hFh4 := (hFh.below hBr).below hBd; have hB04 := Below.then_ (Below.then_ (Below.then_ hBt hBh) hBr) hBd)
    | (with_reducible refine wpList_load (o := ⟨some 10, _, _, _, _, _⟩) rfl (.tmp 3) 190 rfl gh 0 _ rfl (hz s (.slice R m cr) L) 10 (hz_len _ _ _ HS.out) (by kernel_rfl) hFh4.sees ?_)
    | (go_at_call 158; refine (rright_false s R m cr L _ HS.out HR.out).mono ?_; rintro e w5 ⟨rfl, hB5⟩; have z5 := hB5.size; have hFd5 := hFd.below hB5; have hFr5 := (hFr.below hBd).below hB5; have hB05 := Below.then_ hB04 hB5)
    | (with_reducible refine wpList_load (o := ⟨some 13, _, _, _, _, _⟩) rfl (.tmp 5) 84 rfl gd 0 _ rfl (cb (List.replicate 32 0)) 32 (by simp) (by kernel_rfl) hFd5.sees ?_)
    | (with_reducible refine wpList_store rfl rfl (.tmp 4) (.tmp 13) 84 rfl gr 0 _ 84 32 (cb (List.replicate 32 0)) (cb (List.replicate 32 0)) rfl rfl 32 (by simp) (by kernel_rfl) hFr5 (by omega) (cb_one _) w hB05 (by omega) ?_; intro w9 hF9 hB9 _ _))
  have e : splice (cb (List.replicate 32 0)) 0 (cb (List.replicate 32 0)) = cb (List.replicate 32 0) := by simp [splice]
  rw [e] at hF9
  exact bodyPost_cell rfl rfl (cb (List.replicate 32 0)) 32 (by simp) (by kernel_rfl) hF9.sees rfl ⟨rfl, hB9⟩
theorem build_hz1 (s : List UInt32) (hs : s.length = 8) (w : World) : (Instr.build 190 #[(0, .agg (cw s).toArray)]).run Try.prog w = .ok (.agg (hz s (.slice none 0 0) 0).toArray) w := by
  obtain ⟨a, b, c, d, e, f, g, i, rfl⟩ := eight s hs
  exact run_build w _ _ _ (by kernel_rfl)
def rofFacts (gt : Nat) (tab : List Value) (first keys : List UInt32) (A : Option Addr) (n c : Nat) (b dg : List UInt8) (k : Nat) (v : Value) (w : World) : Prop :=
  match k with
  | 0 => v = .agg tab.toArray
  | 1 => v = .agg tab.toArray
  | 2 => v = .pointer (some ⟨gt, 0, none⟩)
  | 3 => v = .agg (cw first).toArray
  | 4 => v = .agg (hz first (.slice none 0 0) 0).toArray
  | 5 => v = .slice A n c
  | 6 => ∃ R cr, v = .agg (hz (stAll keys first b) (.slice R (left b).length cr) (n : Int)).toArray ∧ Sees w w.heap.size R (cb (left b))
  | 7 => v = .agg (cb dg).toArray
  | _ => True
theorem rofFacts_stab (gt : Nat) (tab : List Value) (first keys : List UInt32) (A : Option Addr) (n c : Nat) (b dg : List UInt8) : ∀ k v w w', Below w.heap.size w w' → rofFacts gt tab first keys A n c b dg k v w → rofFacts gt tab first keys A n c b dg k v w' := fun k v w w' hb h =>
  match k, h with
  | 0, h => h
  | 1, h => h
  | 2, h => h
  | 3, h => h
  | 4, h => h
  | 5, h => h
  | 6, ⟨R, cr, e, h⟩ => ⟨R, cr, e, h.step hb⟩
  | 7, h => h
  | _ + 8, _ => trivial
set_option maxHeartbeats 1000000 in
set_option maxRecDepth 100000 in
theorem rOf_any (first keys : List UInt32) (A : Option Addr) (n c : Nat) (b : List UInt8) (w : World) (h1 : first.length = 8) (h2 : keys.length = 64) (hA : Sees w w.heap.size A (cb b)) (hn : b.length = n) (hc : n ≤ 1000000000000) :
    Calls Try.prog 121 #[.agg (cw (first ++ keys)).toArray, .slice A n c] w fun e w' => e = .returned (.agg (cb (ofF first keys b)).toArray) ∧ Below w.heap.size w w' := by
  have HN := Lib.hid hn
  have H1 := Lib.hid h1
  have H2 := Lib.hid h2
  have HK : Hid ((cw (first ++ keys)).length = 72) := Lib.hid (by simp [h1, h2])
  have hlo : (ofF first keys b).length = 32 := by
    unfold ofF sumF
    rw [len_digF, show (stAll keys (stAll keys first b) (left b ++ padL b.length)).length = 8 from len_stN _ _ _ (len_stN _ _ _ h1 _) _]
  have HLO := Lib.hid hlo
  have hof : ofF first keys b = sumF keys (stAll keys first b) (left b) n := by unfold ofF; rw [hn]
  have HOF := Lib.hid hof
  clear hn h1 h2 hlo hof
  go_enter Try.func121, Try.ntmps121
  go_wp2_with (first
    | (with_reducible refine wpList_box (o := ⟨some 2, _, _, _, _, _⟩) rfl (.tmp 0) 79 rfl (cw (first ++ keys)) rfl 72 HK.out (by decide) ?_; intro gt w1 hgt hFt hBt; have z1 := hBt.size; have lt := hFt.lt_size)
    | (with_reducible refine wpList_alloc (o := ⟨some 4, _, _, _, _, _⟩) rfl 84 rfl (cb (List.replicate 32 0)) (by kernel_rfl) 32 (by simp) (by decide) ?_; intro gr w2 hgr hFr hBr; have z2 := hBr.size))
  have hT2 := hFt.below hBr
  have hR2 := hFr.lower (base' := w.heap.size) (by omega)
  have hB02 := Below.then_ hBt hBr
  have hA2 := hA.step hB02
  clear hFt hFr hBt hBr hA
  refine region_all_tail 8 (rofFacts gt (cw (first ++ keys)) first keys A n c b (ofF first keys b)) (by kernel_rfl) (by kernel_rfl) (by kernel_rfl) (rofFacts_stab _ _ _ _ _ _ _ _ _) ?_ ?_
  · intro w0 hb0
    simp only [List.take_succ_cons, List.take_zero]
    refine ⟨?_, ?_, ?_, ?_, ?_, ?_, ?_, ?_, trivial⟩
    all_goals intro listed a1 w' hk hd
    · have f2 : a1.eval (.tmp 2) = .pointer (some ⟨gt, 0, none⟩) := hk.ev_old 2 (by kernel_rfl)
      exact stepOk_value rfl (run_load_agg (.tmp 2) 79 rfl f2 (cw (first ++ keys)) 72 HK.out (by kernel_rfl) ((hT2.below hb0).below hk.below).sees) rfl
    · have f2 : a1.eval (.tmp 2) = .pointer (some ⟨gt, 0, none⟩) := hk.ev_old 2 (by kernel_rfl)
      exact stepOk_value rfl (run_load_agg (.tmp 2) 79 rfl f2 (cw (first ++ keys)) 72 HK.out (by kernel_rfl) ((hT2.below hb0).below hk.below).sees) rfl
    · have f2_ : a1.eval (.tmp 2) = .pointer (some ⟨gt, 0, none⟩) := hk.ev_old 2 (by kernel_rfl)
      have g2_ : a1.tmps[2]?.getD undef = .pointer (some ⟨gt, 0, none⟩) := by simpa [Act.eval] using f2_
      exact stepOk_value rfl (v := .pointer (some ⟨gt, 0, none⟩)) (by go_simp) rfl
    · obtain ⟨v2, e2, q2, rfl⟩ := hk.ev_new hd 2 7 (by kernel_rfl) rfl
      have hs8 : Sees w' w'.heap.size (some ⟨gt, 0, none⟩) (cw first) := by
        have := ((hT2.below hb0).below hk.below).sees.take_ 8
        rwa [show (cw (first ++ keys)).take 8 = cw first from by simp [cw, H1.out]] at this
      exact stepOk_value rfl (run_load_agg (.tmp 7) 76 rfl e2 (cw first) 8 (by simp [H1.out]) (by kernel_rfl) hs8) rfl
    · obtain ⟨v3, e3, q3, rfl⟩ := hk.ev_new hd 3 8 (by kernel_rfl) rfl
      have hb4 := build_hz1 first H1.out w'
      exact stepOk_value rfl (v := .agg (hz first (.slice none 0 0) 0).toArray) (by simp only [execOp, List.map_toArray, List.map_cons, List.map_nil, e3, Sem.run_bind, hb4]; rfl) rfl
    · have f1_ : a1.eval (.tmp 1) = .slice A n c := hk.ev_old 1 (by kernel_rfl)
      have g1_ : a1.tmps[1]?.getD undef = .slice A n c := by simpa [Act.eval] using f1_
      exact stepOk_value rfl (v := .slice A n c) (by go_simp) rfl
    · obtain ⟨v1, e1, q1, rfl⟩ := hk.ev_new hd 1 6 (by kernel_rfl) rfl
      obtain ⟨v4, e4, q4, rfl⟩ := hk.ev_new hd 4 9 (by kernel_rfl) rfl
      obtain ⟨v5, e5, q5, rfl⟩ := hk.ev_new hd 5 10 (by kernel_rfl) rfl
      refine stepOk_enter rfl (f := 142) (args := #[.agg (cw (first ++ keys)).toArray, .agg (hz first (.slice none 0 0) 0).toArray, .slice A n c]) (by go_simp) ?_
      refine (rWrite_any first keys first none A 0 0 n c 0 [] b _ H1.out H2.out H1.out ⟨by omega, by omega, by omega⟩ Sees.nil rfl ((hA2.step hb0).step hk.below) HN.out hc).mono ?_
      rintro e w5 ⟨A6, c6, rfl, hF6, hB6⟩
      rw [List.nil_append] at hF6 ⊢
      exact ⟨_, rfl, ⟨A6, c6, by rw [Int.zero_add], hF6.sees⟩, hB6⟩
    · obtain ⟨v0, e0, q0, rfl⟩ := hk.ev_new hd 0 5 (by kernel_rfl) rfl
      obtain ⟨v6, e6, q6, R6, c6, rfl, hS6⟩ := hk.ev_new hd 6 11 (by kernel_rfl) rfl
      refine stepOk_enter rfl (f := 141) (args := #[.agg (cw (first ++ keys)).toArray, .agg (hz (stAll keys first b) (.slice R6 (left b).length c6) (n : Int)).toArray]) (by go_simp) ?_
      refine (rSum_any first keys (stAll keys first b) R6 (left b).length c6 n (left b) _ H1.out H2.out (len_stN _ _ _ H1.out _) ⟨by omega, by omega, by rw [len_left, HN.out]; omega⟩ hS6 rfl).mono ?_
      rintro e w5 ⟨rfl, hB6⟩
      exact ⟨_, rfl, (by rw [HOF.out]; rfl), hB6⟩
  · intro a1 w3 hbw hp
    obtain ⟨v0, p0, v1, p1, v2, p2, v3, p3, v4, p4, v5, p5, v6, p6, v7, p7, rfl⟩ := hp
    simp only [rofFacts] at p0 p1 p2 p3 p4 p5 p6 p7
    obtain ⟨R, cr, rfl, -⟩ := p6
    subst p0 p1 p2 p3 p4 p5 p7
    simp only [List.drop_succ_cons, List.drop_zero, Act.put, List.setIfInBounds_toArray, List.set_cons_succ, List.set_cons_zero]
    have hR3 := hR2.below hbw
    have hB03 := Below.then_ hB02 hbw
    go_wp2_with (with_reducible refine wpList_store rfl rfl (.tmp 4) (.tmp 12) 84 rfl gr 0 w.heap.size 84 32 (cb (List.replicate 32 0)) (cb (ofF first keys b)) rfl rfl 32 (by rw [List.length_map]; exact HLO.out) (by kernel_rfl) hR3 (by omega) (cb_one _) w hB03 (by omega) ?_; intro w9 hF9 hB9 _ _)
    have e : splice (cb (List.replicate 32 0)) 0 (cb (ofF first keys b)) = cb (ofF first keys b) := by
      have := HLO.out
      simp [splice, this]
    rw [e] at hF9
    exact bodyPost_cell rfl rfl (cb (ofF first keys b)) 32 (by rw [List.length_map]; exact HLO.out) (by kernel_rfl) hF9.sees rfl ⟨rfl, hB9⟩
end Go.Proofs.Ytcfjbllmaejiaaa
