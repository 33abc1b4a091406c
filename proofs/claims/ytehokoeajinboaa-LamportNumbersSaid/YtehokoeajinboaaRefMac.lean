/-
  The document's own digests under a key, by value.
-/
import Derived.Test.YtehokoeajinboaaRefSum
import Derived.Test.YtehokoeajinboaaMacKey
import Derived.Test.YtehokoeajinboaaMacMac
import Derived.Test.YtehokoeajinboaaApp1
namespace Go.Proofs.Ytehokoeajinboaa
open Go.RowKit
set_option linter.unusedVariables false

theorem Fresh.spot8 {w : World} {base n c : Nat} {A : Option Addr} {e : TypeId} {xs : List Value} (h : Fresh base e w A n c xs) (hn : 0 < n) : ∃ g, A = some ⟨g, 0, none⟩ ∧ base ≤ g ∧ g < w.heap.size := by
  rcases h.2 with ⟨hv, rfl⟩ | ⟨g, cap, cur, hv, hb, hg, _⟩
  · omega
  · simp only [Value.slice.injEq] at hv
    exact ⟨g, hv.1, hb, (Array.getElem?_eq_some_iff.1 hg).1⟩
def keyD (first keys : List UInt32) (key : List UInt8) : List UInt8 := match decide (key.length ≤ 64) with
  | true => key
  | false => ofF first keys key
theorem keyD_le (first keys : List UInt32) (key : List UInt8) (h : first.length = 8) : (keyD first keys key).length ≤ 64 := by
  unfold keyD
  split
  · rename_i hk
    exact of_decide_eq_true hk
  · rw [len_ofF _ _ _ h]
    omega
theorem keyF_pad (first keys : List UInt32) (key : List UInt8) (h : first.length = 8) : keyF first keys key = keyD first keys key ++ List.replicate (64 - (keyD first keys key).length) 0 := by
  have hl := keyD_le first keys key h
  have e : keyF first keys key = splice (List.replicate 64 0) 0 (keyD first keys key) := by
    unfold keyF keyD
    cases decide (key.length ≤ 64) <;> rfl
  rw [e]
  simp only [splice, List.take_zero, List.nil_append, Nat.zero_add, List.drop_replicate]
set_option maxHeartbeats 6000000 in
set_option maxRecDepth 100000 in
theorem rblock_any (first keys : List UInt32) (A : Option Addr) (n c : Nat) (key : List UInt8) (x : UInt8) (w : World) (h1 : first.length = 8) (h2 : keys.length = 64) (hA : Sees w w.heap.size A (cb key)) (hn : key.length = n) (hc : n ≤ 1000000000000) :
    Calls Try.prog 75 #[.agg (cw (first ++ keys)).toArray, .slice A n c, .int .u8 (x.toNat : Int)] w (Made8 w 64 (turnF (keyF first keys key) x)) := by
  have HN := Lib.hid hn
  have H1 := Lib.hid h1
  have H2 := Lib.hid h2
  have HK : Hid ((cw (first ++ keys)).length = 72) := Lib.hid (by simp [h1, h2])
  have hpad := keyF_pad first keys key h1
  have hkl := keyD_le first keys key h1
  obtain ⟨kk, hkk⟩ : ∃ kk, keyD first keys key = kk := ⟨_, rfl⟩
  obtain ⟨kl, hl⟩ : ∃ kl, kk.length = kl := ⟨_, rfl⟩
  rw [hkk, hl] at hpad
  rw [hkk, hl] at hkl
  obtain ⟨kb, hkb⟩ : ∃ kb, keyF first keys key = kb := ⟨_, rfl⟩
  rw [hkb] at hpad ⊢
  have HPAD := Lib.hid hpad
  have HL := Lib.hid hl
  have HKK := Lib.hid hkk
  have HB64 : Hid (kb.length = 64) := Lib.hid (by rw [← hkb]; exact keyF_len first keys key h1)
  clear hn h1 h2 hpad hl hkk hkb
  go_enter Try.func75, Try.ntmps75
  go_upto_if 12 with (with_reducible refine wpList_box (o := ⟨some 3, _, _, _, _, _⟩) rfl (.tmp 0) 26 rfl (cw (first ++ keys)) rfl 72 HK.out (by decide) ?_; intro gt w1 hgt hFt hBt; have z1 := hBt.size)
  go_cut [7, 8] from 12 to 21 (fun v u wx => ∃ A' c', v = .slice A' kl c' ∧ Fresh w.heap.size 5 wx A' kl c' (cb kk) ∧ Below w.heap.size w wx)
  case first =>
    by_cases h64 : n ≤ 64
    · obtain rfl : key = kk := by rw [← HKK.out]; unfold keyD; rw [HN.out, decide_eq_true h64]
      obtain rfl : n = kl := by rw [← HN.out]; exact HL.out
      go_wp2_with (at_builtin; refine wpList_app8 rfl (.tmp 19) (.tmp 20) rfl none A 0 0 n c [] key w rfl rfl (fresh_nil _ _ _) (hA.step hBt) HN.out (by omega) hBt ?_; intro A' c' w2 hF2 hB2)
      go_meet
      case rel => exact ⟨A', c', (by first | rfl | rw [Nat.zero_add]), by simpa using hF2, hB2⟩
    · have hd : ofF first keys key = kk := by rw [← HKK.out]; unfold keyD; rw [HN.out, decide_eq_false h64]
      have HKL : Hid (kl = 32) := Lib.hid (by rw [← HL.out, ← hd]; exact len_ofF _ _ _ H1.out)
      have HL32 : Hid (kk.length = 32) := Lib.hid (HL.out.trans HKL.out)
      have HD := Lib.hid hd
      clear hd
      go_wp2_with (with_reducible refine wpList_load (o := ⟨some 13, _, _, _, _, _⟩) rfl (.tmp 3) 26 rfl gt 0 _ rfl (cw (first ++ keys)) 72 HK.out (by kernel_rfl) hFt.sees ?_)
      have hOf := rOf_any first keys A n c key w1 H1.out H2.out (hA.step hBt) HN.out hc
      rw [HD.out, cw, List.map_append] at hOf
      refine hOf.mono ?_
      rintro e w2 ⟨rfl, hB2⟩
      have hB02 := Below.then_ hBt hB2
      have z2 := hB2.size
      go_wp2_with (first
        | (with_reducible refine wpList_alloc (o := ⟨some 8, _, _, _, _, _⟩) rfl 32 rfl (cb (List.replicate 32 0)) (by kernel_rfl) 32 (by simp) (by decide) ?_; intro gd w3 hgd hFd hB3; have z3 := hB3.size; have hsl := sl32_all gd)
        | (with_reducible refine wpList_store rfl rfl (.tmp 8) (.tmp 15) 32 rfl gd 0 _ 32 32 (cb (List.replicate 32 0)) (cb kk) rfl rfl 32 (by rw [List.length_map]; exact HL32.out) (by kernel_rfl) hFd (by omega) (cb_one _) w (Below.then_ hB02 hB3) (by omega) ?_; intro w4 hF4 hB4 ho4 hz4; rw [show splice (cb (List.replicate 32 0)) 0 (cb kk) = cb kk from by (have := HL32.out; simp [splice, this])] at hF4)
        | (at_builtin; refine wpList_app8 rfl (.tmp 16) (.tmp 17) rfl none (some ⟨gd, 0, none⟩) 0 0 32 32 [] kk w rfl rfl (fresh_nil _ _ _) hF4.sees HL32.out (by omega) hB4 ?_; intro A' c' w5 hF5 hB5))
      go_meet
      case rel => exact ⟨A', c', by rw [HKL.out], by rw [HKL.out]; simpa using hF5, hB5⟩
  case rest =>
    obtain ⟨A1, c1, rfl, hF1, hB1⟩ := hcut
    go_wp2_with fail
    go_loopw [7] (fun v wr => ∃ (q : Nat) (A2 : Option Addr) (c2 : Nat), kl ≤ q ∧ q ≤ 64 ∧ v = .slice A2 q c2 ∧ Fresh w.heap.size 5 wr A2 q c2 (cb (kk ++ List.replicate (q - kl) 0)) ∧ Below w.heap.size w wr) (fun v _ => 64 - lenOf v)
    case atStart => exact ⟨kl, A1, c1, by omega, hkl, rfl, by simpa using hF1, hB1⟩
    case round =>
      obtain ⟨q, A2, c2, hq1, hq2, rfl, hF2, hB2⟩ := hrel
      clear hF1 hB1
      have HF2 := Lib.hid hF2
      by_cases hlt : q < 64
      · go_wp2_with (at_builtin; refine wpList_app8 rfl (.tmp 25) (.tmp 26) rfl A2 (some ⟨wr.heap.size, 0, none⟩) q c2 1 1 (kk ++ List.replicate (q - kl) 0) [0] w rfl rfl (HF2.out.below (below_alloc _ _)) (fresh_b1 _ _ 0 rfl).sees rfl (by omega) (Below.then_ hB2 (below_alloc _ _)) ?_; intro A' c' w2 hF3 hB3)
        go_roundw
        case rel => exact ⟨q + 1, A', c', by omega, by omega, rfl, (by rw [show q + 1 - kl = q - kl + 1 from by omega, List.replicate_succ', ← List.append_assoc]; exact hF3), hB3⟩
        case measure => simp [lenOf]; omega
      · obtain rfl : q = 64 := by omega
        have hkb2 : kk ++ List.replicate (64 - kl) 0 = kb := HPAD.out.symm
        rw [hkb2] at HF2
        clear hkb2 hF2
        go_wp2_with fail
        obtain ⟨gk, rfl, hgk1, hgk2⟩ := Fresh.spot8 HF2.out (by omega)
        go_loopw [9] (fun iv wq => ∃ i : Nat, i ≤ 64 ∧ iv = .int .i64 (i : Int) ∧ Fresh w.heap.size 5 wq (some ⟨gk, 0, none⟩) 64 c2 (cb ((turnF kb x).take i ++ kb.drop i)) ∧ Below w.heap.size w wq) (fun iv _ => 64 - (intOf iv).toNat)
        case atStart => exact ⟨0, by omega, rfl, by simpa using HF2.out, hB2⟩
        case round =>
          obtain ⟨i, hi, rfl, hF3, hB3⟩ := hrel
          clear HF2
          have hT : (turnF kb x).length = 64 := by rw [turnF_len]; exact HB64.out
          by_cases hlt3 : i < 64
          · have hkb3 : i < kb.length := by rw [HB64.out]; exact hlt3
            obtain ⟨y, hy⟩ : ∃ y, kb[i] = y := ⟨_, rfl⟩
            have e1 : (cb ((turnF kb x).take i ++ kb.drop i))[i]? = some (.int .u8 (y.toNat : Int)) := by
              have hl : ((turnF kb x).take i).length = i := by rw [List.length_take, hT]; omega
              rw [List.getElem?_map, List.getElem?_append_right (by omega), hl, Nat.sub_self, List.getElem?_drop, Nat.add_zero, List.getElem?_eq_getElem hkb3, hy]
              rfl
            have e2 : ((turnF kb x).take i ++ kb.drop i).set i (y ^^^ x) = (turnF kb x).take (i + 1) ++ kb.drop (i + 1) := by
              have hl : ((turnF kb x).take i).length = i := by rw [List.length_take, hT]; omega
              rw [List.set_append_right _ _ (by omega), hl, Nat.sub_self, List.drop_eq_getElem_cons hkb3, List.set_cons_zero, List.take_succ_eq_append_getElem (by omega), List.append_assoc]
              congr 2
              simp [turnF, hy]
            have hxor : bits .xor .u8 (y.toNat : Int) (x.toNat : Int) = ((y ^^^ x).toNat : Int) := by
              rw [u8_xor_nat _ _ y.toNat_lt x.toNat_lt, UInt8.toNat_xor]
            have hce : wr.cell? ⟨gk, i, none⟩ = some (.int .u8 (y.toNat : Int)) := by
              rw [World.ownsRow.cellAt hF3 i (by omega), e1]
            have hzf : wr.frozen? ⟨gk, i, none⟩ = false := World.ownsRow.frozenAt hF3 i
            have hF4 := (World.ownsRow.stored hF3 i (.int .u8 ((y ^^^ x).toNat : Int))).1
            rw [show (cb ((turnF kb x).take i ++ kb.drop i)).set i (.int .u8 ((y ^^^ x).toNat : Int)) = cb ((turnF kb x).take (i + 1) ++ kb.drop (i + 1)) from by rw [← e2]; simp only [cb, List.map_set]] at hF4
            have HF4 := Lib.hid hF4
            clear e1 e2 hF4 hy
            go_wp2_with fail
            go_roundw
            case rel => exact ⟨i + 1, by omega, by go_num, HF4.out, hB3.setCell (p := ⟨gk, i, none⟩) hgk1 _⟩
            case measure => simp [intOf]; omega
          · obtain rfl : i = 64 := by omega
            have e3 : (turnF kb x).take 64 ++ kb.drop 64 = turnF kb x := by
              rw [List.take_of_length_le (by rw [hT]; exact Nat.le_refl _), List.drop_of_length_le (by rw [HB64.out]; exact Nat.le_refl _), List.append_nil]
            rw [e3] at hF3
            have HF3 := Lib.hid hF3
            clear e3 hF3
            go_wp2_with fail
            go_ret
            exact ⟨some ⟨gk, 0, none⟩, c2, rfl, HF3.out, hB3⟩
end Go.Proofs.Ytehokoeajinboaa

namespace Go.Proofs.Ytehokoeajinboaa
open Go.RowKit
set_option linter.unusedVariables false

/-- 'append(dst, src...)', dst in new memory (or nil), as one run. -/
theorem run_own8 (w0 w : World) (ty : TypeId) (D A : Option Addr) (n c m d : Nat) (cur l : List UInt8) (hF : Fresh w0.heap.size 5 w D n c (cb cur)) (hS : Sees w w.heap.size A (cb l)) (hl : l.length = m) (hn : n + m ≤ 1099511627776) (hb : Below w0.heap.size w0 w) :
    ∃ A' c' w', (Builtin.append_ #[27, 27] ty #[.slice D n c, .slice A m d]).run Try.prog w = .ok (.slice A' (n + m) c') w' ∧ Fresh w0.heap.size 5 w' A' (n + m) c' (cb (cur ++ l)) ∧ Below w0.heap.size w0 w' ∧
      ∀ {e : TypeId} {B : Nat} {R : Option Addr} {k q : Nat} {ys : List Value}, e ≠ 5 → Fresh B e w R k q ys → Fresh B e w' R k q ys := by
  obtain ⟨i0, hi, hz0, hz1, hz2⟩ := info_parts info8
  have main : ∀ ad, A = some ad → (∀ j u, (cb l)[j]? = some u → w.cell? (ad.add j) = some u) → ∃ A' c' w', (Builtin.append_ #[27, 27] ty #[.slice D n c, .slice A m d]).run Try.prog w = .ok (.slice A' (n + m) c') w' ∧ Fresh w0.heap.size 5 w' A' (n + m) c' (cb (cur ++ l)) ∧ Below w0.heap.size w0 w' ∧
      ∀ {e : TypeId} {B : Nat} {R : Option Addr} {k q : Nat} {ys : List Value}, e ≠ 5 → Fresh B e w R k q ys → Fresh B e w' R k q ys := by
    intro ad hA hc
    obtain ⟨v', w', hr, hown, hgr, hnil, _⟩ := run_append_own_at (P := Try.prog) w w0.heap.size 27 ty 5 i0 (.int .u8 0) 1 1 Try.underlying27 hi hz0 hz1 hz2 rfl (by omega) (.slice D n c) n (cb cur) hF ad m d (cb l) (by simp [hl]) hc (cb_one l) (by unfold maxLen; omega) (by omega) hb.size
    have hB : Below w0.heap.size w0 w' := hb.grown hgr hb.size (fun k hk => (hF.lt k hk).1)
    rw [show cb cur ++ cb l = cb (cur ++ l) from by simp [cb]] at hown
    have keep : ∀ {e : TypeId} {B : Nat} {R : Option Addr} {k q : Nat} {ys : List Value}, e ≠ 5 → Fresh B e w R k q ys → Fresh B e w' R k q ys := fun hne hf => World.ownsRow.kept hf hgr (fresh_unlike hf hF hne)
    rw [hA]
    rcases hown.2 with ⟨rfl, h0⟩ | ⟨g, cap, cu, rfl, _⟩
    · rw [h0] at hown ⊢
      exact ⟨none, 0, w', hr, hown, hB, keep⟩
    · exact ⟨_, cap, w', hr, hown, hB, keep⟩
  by_cases h0 : m = 0
  · subst h0
    obtain rfl : l = [] := List.eq_nil_of_length_eq_zero hl
    cases hA : A with
    | none => exact ⟨D, c, w, none_app hF, by simpa using hF, hb, fun _ h => h⟩
    | some ad => exact hA ▸ main ad hA (fun j u hj => by simp at hj)
  · obtain ⟨b, off, hA, _, hc⟩ := hS (by simp; omega)
    exact main _ hA (fun j u hj => by rw [Addr.add_lit]; exact hc j u hj)
def P35 (w : World) (s3 s5 F : Nat) (blk full : List UInt8) (listed : Array Bool) (a : Act) (W : World) : Prop :=
  Below w.heap.size w W ∧ (listed.getD 3 false = true → listed.getD 5 false = false → ∃ A c, a.tmps[s3]? = some (.slice A 64 c) ∧ Fresh w.heap.size 5 W A 64 c (cb blk)) ∧
  (listed.getD 5 false = true → ∃ A c, a.tmps[s5]? = some (.slice A F c) ∧ Fresh w.heap.size 5 W A F c (cb full))
section
variable {w W W' : World} {s3 s5 F : Nat} {blk full : List UInt8} {listed : Array Bool} {a : Act}
theorem P35.below (h : P35 w s3 s5 F blk full listed a W) (z : Below W.heap.size W W') : P35 w s3 s5 F blk full listed a W' := by
  obtain ⟨h1, h2, h3⟩ := h
  refine ⟨Below.then_ h1 z, fun e e' => ?_, fun e => ?_⟩
  · obtain ⟨A, c, q1, q2⟩ := h2 e e'
    exact ⟨A, c, q1, q2.below z⟩
  · obtain ⟨A, c, q1, q2⟩ := h3 e
    exact ⟨A, c, q1, q2.below z⟩
theorem P35.other (h : P35 w s3 s5 F blk full listed a W) (i t : Nat) (v : Value) (hi : i ≠ 3) (hi2 : i ≠ 5) (ht : t ≠ s3) (ht2 : t ≠ s5) : P35 w s3 s5 F blk full (listed.setIfInBounds i true) (a.put (some t) v) W := by
  obtain ⟨h1, h2, h3⟩ := h
  refine ⟨h1, ?_, ?_⟩
  · rw [getD_set_ne _ _ _ hi, getD_set_ne _ _ _ hi2, put_ne _ _ _ _ ht]
    exact h2
  · rw [getD_set_ne _ _ _ hi2, put_ne _ _ _ _ ht2]
    exact h3
theorem P35.toBlk (h : P35 w s3 s5 F blk full listed a W) (hs : s3 < a.tmps.size) (h35 : s3 ≠ s5) {A : Option Addr} {c : Nat} (z : Below W.heap.size W W') (hn : Fresh W.heap.size 5 W' A 64 c (cb blk)) : P35 w s3 s5 F blk full (listed.setIfInBounds 3 true) (a.put (some s3) (.slice A 64 c)) W' := by
  obtain ⟨h1, h2, h3⟩ := h.below z
  refine ⟨h1, fun _ _ => ⟨A, c, put_eq _ _ _ hs, hn.lower h.1.size⟩, ?_⟩
  rw [getD_set_ne _ _ _ (by omega), put_ne _ _ _ _ h35]
  exact h3
theorem P35.toFull (h1 : Below w.heap.size w W') (hs : s5 < a.tmps.size) (hl : 5 < listed.size) {A : Option Addr} {c : Nat} (hn : Fresh w.heap.size 5 W' A F c (cb full)) : P35 w s3 s5 F blk full (listed.setIfInBounds 5 true) (a.put (some s5) (.slice A F c)) W' := by
  refine ⟨h1, fun _ e => ?_, fun _ => ⟨A, c, put_eq _ _ _ hs, hn⟩⟩
  rw [getD_set_eq _ _ hl] at e
  cases e
theorem P35.none (h : P35 w s3 s5 F blk full listed a W) (i : Nat) (hi : i ≠ 3) (hi2 : i ≠ 5) {g : Nat} (hg : w.heap.size ≤ g) (ys : List Value) {e : TypeId} {n : Nat} {cur : List Value} (hF : Fresh w.heap.size e W (some ⟨g, 0, none⟩) n n cur) (he : e ≠ 5) : P35 w s3 s5 F blk full (listed.setIfInBounds i true) a (W.setRow g ys.toArray) := by
  obtain ⟨h1, h2, h3⟩ := h
  have ho : ∀ k, k ≠ g → (W.setRow g ys.toArray).heap[k]? = W.heap[k]? := fun k hk => setRow_other W g k _ hk
  have keep : ∀ {A : Option Addr} {k c : Nat} {xs : List Value}, Fresh w.heap.size 5 W A k c xs → Fresh w.heap.size 5 (W.setRow g ys.toArray) A k c xs := fun {A k c xs} hf => by
    refine ⟨hf.1, ?_⟩
    rcases hf.2 with h3 | ⟨g', cap, cu, hv, hg', hh, hr⟩
    · exact .inl h3
    · have hgg : g' ≠ g := fun e1 => by
        have hb := hF.block.1
        rw [← e1, hh] at hb
        simp at hb
        exact he hb.2.symm
      exact .inr ⟨g', cap, cu, hv, hg', by rw [ho g' hgg]; exact hh, hr⟩
  refine ⟨Below.setRow' h1 hg _, ?_, ?_⟩
  · rw [getD_set_ne _ _ _ hi, getD_set_ne _ _ _ hi2]
    intro e1 e2
    obtain ⟨A, c, q1, q2⟩ := h2 e1 e2
    exact ⟨A, c, q1, keep q2⟩
  · rw [getD_set_ne _ _ _ hi2]
    intro e1
    obtain ⟨A, c, q1, q2⟩ := h3 e1
    exact ⟨A, c, q1, keep q2⟩
end
def pick32 (b : Bool) (x : List UInt8) : List UInt8 := match b with
  | true => x
  | false => List.replicate 32 0
def mac1 (tab : List Value) (A B : Option Addr) (n c m d : Nat) (R : List UInt8) (j : Nat) (x : Value) (w : World) : Prop :=
  match j with
  | 0 => x = .agg tab.toArray
  | 1 => x = .agg tab.toArray
  | 2 => x = .slice A n c
  | 4 => x = .slice B m d
  | 6 => x = .agg (cb R).toArray
  | _ => True
def mac1J (w : World) (F : Nat) (blk full R : List UInt8) (listed : Array Bool) (a : Act) (W : World) : Prop :=
  P35 w 11 13 F blk full listed a W ∧ (listed.getD 7 false = true → ∃ g, a.tmps[7]? = some (.pointer (some ⟨g, 0, none⟩)) ∧ Fresh w.heap.size 32 W (some ⟨g, 0, none⟩) 32 32 (cb (pick32 (listed.getD 8 false) R))) ∧ (listed.getD 8 false = true → listed.getD 7 false = true)
section
variable {w W W' : World} {F : Nat} {blk full R : List UInt8} {listed : Array Bool} {a : Act}
theorem mac1J.below (h : mac1J w F blk full R listed a W) (z : Below W.heap.size W W') : mac1J w F blk full R listed a W' := by
  obtain ⟨h1, h2, h3⟩ := h
  refine ⟨h1.below z, fun e => ?_, h3⟩
  obtain ⟨g, q1, q2⟩ := h2 e
  exact ⟨g, q1, q2.below z⟩
theorem mac1J.other (h : mac1J w F blk full R listed a W) (i t : Nat) (v : Value) (hi : i ≠ 3 ∧ i ≠ 5 ∧ i ≠ 7 ∧ i ≠ 8) (ht : t ≠ 11 ∧ t ≠ 13 ∧ t ≠ 7) : mac1J w F blk full R (listed.setIfInBounds i true) (a.put (some t) v) W := by
  obtain ⟨h1, h2, h3⟩ := h
  refine ⟨h1.other i t v hi.1 hi.2.1 ht.1 ht.2.1, ?_, ?_⟩
  · rw [getD_set_ne _ _ _ hi.2.2.1, getD_set_ne _ _ _ hi.2.2.2, put_ne _ _ _ _ ht.2.2]
    exact h2
  · rw [getD_set_ne _ _ _ hi.2.2.1, getD_set_ne _ _ _ hi.2.2.2]
    exact h3
end
theorem set_true_of (listed : Array Bool) (i j : Nat) (h : listed.getD j false = true) : (listed.setIfInBounds i true).getD j true = true := by
  have hj : j < listed.size := by
    rcases Nat.lt_or_ge j listed.size with h1 | h1
    · exact h1
    · simp [Array.getElem?_eq_none h1] at h
  simp [hj] at h ⊢
  by_cases e : i = j
  · simp [e]
  · rw [Array.getElem_setIfInBounds_ne _ e]
    exact h
def mac2 (tab : List Value) (A : Option Addr) (gi n c : Nat) (R : List UInt8) (j : Nat) (x : Value) (w : World) : Prop :=
  match j with
  | 0 => x = .agg tab.toArray
  | 1 => x = .agg tab.toArray
  | 2 => x = .slice A n c
  | 4 => x = .slice (some ⟨gi, 0, none⟩) 32 32
  | 6 => x = .agg (cb R).toArray
  | _ => True
def mac2J (w : World) (gr : Nat) (blk full R : List UInt8) (listed : Array Bool) (a : Act) (W : World) : Prop :=
  (listed.getD 7 false = false → P35 w 18 20 (64 + 32) blk full listed a W) ∧ (listed.getD 7 false = true → (∀ j, j < 7 → listed.getD j true = true) ∧ ∃ W1, Below w.heap.size w W1 ∧ W = W1.setRow gr (cb R).toArray)
theorem mac2J.free {w W : World} {gr : Nat} {blk full R : List UInt8} {listed : Array Bool} {a : Act} (h : mac2J w gr blk full R listed a W) (i : Nat) (hi : i < 7) (h1 : listed.getD i true = false) : listed.getD 7 false = false ∧ P35 w 18 20 (64 + 32) blk full listed a W := by
  cases e : listed.getD 7 false
  · exact ⟨rfl, h.1 e⟩
  · have := (h.2 e).1 i hi
    rw [h1] at this
    cases this
theorem mac2J.of {w W : World} {gr : Nat} {blk full R : List UInt8} {listed : Array Bool} {a : Act} {i : Nat} (f : listed.getD 7 false = false) (hi : i ≠ 7) (h : P35 w 18 20 (64 + 32) blk full (listed.setIfInBounds i true) a W) : mac2J w gr blk full R (listed.setIfInBounds i true) a W :=
  ⟨fun _ => h, fun e => by rw [getD_set_ne _ _ _ hi, f] at e; cases e⟩
section
variable {w : World}
set_option maxHeartbeats 4000000 in
set_option maxRecDepth 100000 in
theorem rMac_any (first keys : List UInt32) (A B : Option Addr) (n c m d : Nat) (key b : List UInt8) (h1 : first.length = 8) (h2 : keys.length = 64) (hA : Sees w w.heap.size A (cb key)) (hn : key.length = n) (hc : n ≤ 1000000000000) (hB : Sees w w.heap.size B (cb b)) (hm : b.length = m) (hd : m ≤ 100000000000) :
    Calls Try.prog 16 #[.agg (cw (first ++ keys)).toArray, .slice A n c, .slice B m d] w fun e w' => e = .returned (.agg (cb (macF first keys key b)).toArray) ∧ Below w.heap.size w w' := by
  have HC : Hid ((cw (first ++ keys)).length = 72) := Lib.hid (by simp [h1, h2])
  have H1 := Lib.hid h1
  have H2 := Lib.hid h2
  have HN := Lib.hid hn
  have HM := Lib.hid hm
  obtain ⟨kb, hkb⟩ : ∃ kb, keyF first keys key = kb := ⟨_, rfl⟩
  obtain ⟨x, hx⟩ : ∃ x, turnF kb 54 = x := ⟨_, rfl⟩
  obtain ⟨y, hy⟩ : ∃ y, turnF kb 92 = y := ⟨_, rfl⟩
  have hkl : kb.length = 64 := by rw [← hkb]; exact keyF_len first keys key h1
  have HX : Hid (x.length = 64) := Lib.hid (by rw [← hx, turnF_len]; exact hkl)
  have HY : Hid (y.length = 64) := Lib.hid (by rw [← hy, turnF_len]; exact hkl)
  obtain ⟨R1, hR1⟩ : ∃ R, ofF first keys (x ++ b) = R := ⟨_, rfl⟩
  obtain ⟨R2, hR2⟩ : ∃ R, ofF first keys (y ++ R1) = R := ⟨_, rfl⟩
  have HL1 : Hid (R1.length = 32) := Lib.hid (by rw [← hR1]; exact len_ofF _ _ _ h1)
  have HL2 : Hid (R2.length = 32) := Lib.hid (by rw [← hR2]; exact len_ofF _ _ _ h1)
  have hmac : macF first keys key b = R2 := by rw [← hR2, ← hR1, ← hx, ← hy, ← hkb]; rfl
  rw [hmac]
  have HBX : Hid (∀ w' A', Sees w' w'.heap.size A' (cb key) → ∀ c', Calls Try.prog 75 #[.agg (cw (first ++ keys)).toArray, .slice A' n c', .int .u8 54] w' (Made8 w' 64 x)) := Lib.hid (fun w' A' hs c' => by rw [← hx, ← hkb]; exact rblock_any first keys A' n c' key 54 w' h1 h2 hs hn hc)
  have HBY : Hid (∀ w' A', Sees w' w'.heap.size A' (cb key) → ∀ c', Calls Try.prog 75 #[.agg (cw (first ++ keys)).toArray, .slice A' n c', .int .u8 92] w' (Made8 w' 64 y)) := Lib.hid (fun w' A' hs c' => by rw [← hy, ← hkb]; exact rblock_any first keys A' n c' key 92 w' h1 h2 hs hn hc)
  have HO1 : Hid (∀ w' A' F c', Sees w' w'.heap.size A' (cb (x ++ b)) → F = 64 + m → Calls Try.prog 74 #[.agg (cw (first ++ keys)).toArray, .slice A' F c'] w' fun e w'' => e = .returned (.agg (cb R1).toArray) ∧ Below w'.heap.size w' w'') := Lib.hid (fun w' A' F c' hs hF => by rw [← hR1]; exact rOf_any first keys A' F c' (x ++ b) w' h1 h2 hs (by rw [List.length_append, HX.out, hm, hF]) (by omega))
  have HO2 : Hid (∀ w' A' F c', Sees w' w'.heap.size A' (cb (y ++ R1)) → F = 64 + 32 → Calls Try.prog 74 #[.agg (cw (first ++ keys)).toArray, .slice A' F c'] w' fun e w'' => e = .returned (.agg (cb R2).toArray) ∧ Below w'.heap.size w' w'') := Lib.hid (fun w' A' F c' hs hF => by rw [← hR2]; exact rOf_any first keys A' F c' (y ++ R1) w' h1 h2 hs (by rw [List.length_append, HY.out, HL1.out, hF]) (by omega))
  obtain ⟨TB, hTB⟩ : ∃ TB, cw (first ++ keys) = TB := ⟨_, rfl⟩
  rw [hTB] at HC HBX HBY HO1 HO2 ⊢
  clear h1 h2 hn hm hkb hx hy hkl hR1 hR2 hmac hTB
  go_enter Try.func16, Try.ntmps16
  go_upto_region 1 with (first
    | (with_reducible refine wpList_box (o := ⟨some 3, _, _, _, _, _⟩) rfl (.tmp 0) 26 rfl TB rfl 72 HC.out (by decide) ?_; intro gt w1 hgt hFt hBt)
    | (with_reducible refine wpList_alloc (o := ⟨some 6, _, _, _, _, _⟩) rfl 32 rfl (cb (List.replicate 32 0)) (by kernel_rfl) 32 (by simp) (by decide) ?_; intro gr w2 hgr hFr hBr))
  have z1 := hBt.size
  have hBw := Below.then_ hBt hBr
  have ft := hFt.below hBr
  have fr := hFr.lower (base' := w.heap.size) z1
  have hA2 := hA.step hBw
  have hB2 := hB.step hBw
  clear hFt hFr hBt hBr z1 hgt hgr hA hB
  try simp only [Act.put, List.setIfInBounds_toArray, List.set_cons_succ, List.set_cons_zero]
  refine region_L (mac1 TB A B n c m d R1) (mac1J w2 (64 + m) x (x ++ b) R1) (by kernel_rfl) (by kernel_rfl) ⟨⟨⟨rfl, rfl, rfl, Nat.le_refl _, fun _ _ => rfl⟩, (by intro h; rw [getD_replicate_false] at h; cases h), (by intro h; rw [getD_replicate_false] at h; cases h)⟩, (by intro h; rw [getD_replicate_false] at h; cases h), (by intro h; rw [getD_replicate_false] at h; cases h)⟩ ?_ ?_
  · refine ⟨?_, ?_, ?_, ?_, ?_, ?_, ?_, ?_, ?_, trivial⟩
    all_goals intro listed a1 w' hk1 h1 hd1
    · exact stepL_value rfl (run_load_agg (.tmp 3) 26 rfl (hk1.ev_old 3 (by kernel_rfl)) TB 72 HC.out (by kernel_rfl) (ft.below hk1.inv.1.1).sees) rfl (hk1.inv.other 0 8 _ (by omega) (by omega))
    · exact stepL_value rfl (run_load_agg (.tmp 3) 26 rfl (hk1.ev_old 3 (by kernel_rfl)) TB 72 HC.out (by kernel_rfl) (ft.below hk1.inv.1.1).sees) rfl (hk1.inv.other 1 9 _ (by omega) (by omega))
    · have f2 : a1.eval (.tmp 1) = .slice A n c := hk1.ev_old 1 (by kernel_rfl)
      have g2 : a1.tmps[1]?.getD undef = .slice A n c := by simpa [Act.eval] using f2
      exact stepL_value rfl (v := .slice A n c) (by go_simp) rfl (hk1.inv.other 2 10 _ (by omega) (by omega))
    · obtain ⟨v1, e1, q1, rfl, l1⟩ := hk1.ev_new hd1 1 9 (by kernel_rfl) rfl
      obtain ⟨v2, e2, q2, rfl, l2⟩ := hk1.ev_new hd1 2 10 (by kernel_rfl) rfl
      refine stepL_enter rfl (f := 75) (args := #[.agg TB.toArray, .slice A n c, .int .u8 54]) (by go_simp) ?_
      refine (HBX.out _ A (hA2.step hk1.inv.1.1) c).mono ?_
      rintro e w5 ⟨A5, c5, rfl, hF5, hB5⟩
      obtain ⟨k1, k2, k3⟩ := hk1.inv.below hB5
      exact ⟨_, rfl, trivial, ⟨hk1.inv.1.toBlk (by rw [hk1.size]; exact (show (11 : Nat) < 22 by decide)) (by omega) hB5 hF5, by rw [getD_set_ne _ _ _ (by omega), getD_set_ne _ _ _ (by omega), put_ne _ _ _ _ (by omega)]; exact k2, by rw [getD_set_ne _ _ _ (by omega), getD_set_ne _ _ _ (by omega)]; exact k3⟩, fun _ _ h => h⟩
    · have f2 : a1.eval (.tmp 2) = .slice B m d := hk1.ev_old 2 (by kernel_rfl)
      have g2 : a1.tmps[2]?.getD undef = .slice B m d := by simpa [Act.eval] using f2
      exact stepL_value rfl (v := .slice B m d) (by go_simp) rfl (hk1.inv.other 4 12 _ (by omega) (by omega))
    · obtain ⟨v3, e3, q3, _, l3⟩ := hk1.ev_new hd1 3 11 (by kernel_rfl) rfl
      obtain ⟨v4, e4, q4, rfl, l4⟩ := hk1.ev_new hd1 4 12 (by kernel_rfl) rfl
      obtain ⟨s5, f5⟩ := size_of_getD h1
      obtain ⟨A5, c5, r1, r2⟩ := hk1.inv.1.2.1 l3 f5
      obtain rfl : v3 = .slice A5 64 c5 := by rw [q3] at r1; simpa using r1
      have hb5 := hk1.inv.1.1
      obtain ⟨A6, c6, w5, hr, hF6, hB6, keep⟩ := run_own8 w2 w' 27 A5 B 64 c5 m d x b r2 (hB2.step hb5) HM.out (by omega) hb5
      refine stepL_run rfl (v := .slice A6 (64 + m) c6) (w' := w5) ?_ trivial ⟨P35.toFull hB6 (by rw [hk1.size]; exact (show (13 : Nat) < 22 by decide)) s5 hF6, ?_, ?_⟩ (fun _ _ h => h)
      · unfold execOp
        simp only [resolve, invoke, builtin, Sem.run_bind, Sem.run_pure, Result.andThen_ok, List.map_toArray, List.map_cons, List.map_nil, e3, e4, hr]
      · rw [getD_set_ne _ _ _ (by omega), getD_set_ne _ _ _ (by omega), put_ne _ _ _ _ (by omega)]
        intro e7
        obtain ⟨g, p1, p2⟩ := hk1.inv.2.1 e7
        exact ⟨g, p1, keep (by decide) p2⟩
      · rw [getD_set_ne _ _ _ (by omega), getD_set_ne _ _ _ (by omega)]
        exact hk1.inv.2.2
    · obtain ⟨v0, e0, q0, rfl, l0⟩ := hk1.ev_new hd1 0 8 (by kernel_rfl) rfl
      obtain ⟨v5, e5, q5, _, l5⟩ := hk1.ev_new hd1 5 13 (by kernel_rfl) rfl
      obtain ⟨A5, c5, r1, r2⟩ := hk1.inv.1.2.2 l5
      obtain rfl : v5 = .slice A5 (64 + m) c5 := by rw [q5] at r1; simpa using r1
      refine stepL_enter rfl (f := 74) (args := #[.agg TB.toArray, .slice A5 (64 + m) c5]) (by go_simp) ?_
      refine (HO1.out _ A5 _ c5 r2.sees rfl).mono ?_
      rintro e w5 ⟨rfl, hB5⟩
      exact ⟨_, rfl, rfl, (hk1.inv.below hB5).other 6 14 _ (by omega) (by omega), fun _ _ h => h⟩
    · refine stepL_run rfl (v := .pointer (some ⟨w'.heap.size, 0, none⟩)) (w' := w'.alloc (.cells (cb (List.replicate 32 0)).toArray 32 (0, 0))) ?_ trivial ?_ (fun _ _ h => h)
      · simp only [execOp]
        rw [Sem.run_bind, run_alloc_zero 32 (cb (List.replicate 32 0)) (by kernel_rfl)]
        rfl
      · obtain ⟨s7, f7⟩ := size_of_getD h1
        have f8 : listed.getD 8 false = false := by
          cases e : listed.getD 8 false
          · rfl
          · rw [hk1.inv.2.2 e] at f7; cases f7
        refine ⟨(hk1.inv.1.below (below_alloc w' _)).other 7 7 _ (by omega) (by omega) (by omega) (by omega), fun _ => ⟨_, put_eq _ _ _ (by rw [hk1.size]; exact (show (7 : Nat) < 22 by decide)), ?_⟩, fun _ => getD_set_eq _ _ s7⟩
        rw [getD_set_ne _ _ _ (by omega), f8]
        exact (Fresh.new w' 32 (cb (List.replicate 32 0)) 32 (by simp) (by decide)).lower hk1.inv.1.1.size
    · obtain ⟨v6, e6, q6, rfl, l6⟩ := hk1.ev_new hd1 6 14 (by kernel_rfl) rfl
      obtain ⟨v7, e7, q7, _, l7⟩ := hk1.ev_new hd1 7 7 (by kernel_rfl) rfl
      obtain ⟨g, hg, hFg⟩ := hk1.inv.2.1 l7
      obtain ⟨s8, f8⟩ := size_of_getD h1
      rw [f8] at hFg
      replace hFg : Fresh w2.heap.size 32 w' (some ⟨g, 0, none⟩) 32 32 (cb (List.replicate 32 0)) := hFg
      have f2 : a1.eval (.tmp 7) = .pointer (some ⟨g, 0, none⟩) := by rw [e7]; rw [q7] at hg; simpa using hg
      have hsp : splice (cb (List.replicate 32 0)) 0 (cb R1) = cb R1 := by have := HL1.out; simp [splice, this]
      refine stepL_skip rfl rfl (run_store_agg (.tmp 7) (.tmp 14) 32 rfl f2 (cb R1) e6 (by rw [show (cb R1).length = 32 from by rw [List.length_map]; exact HL1.out]; kernel_rfl) hFg (by rw [List.length_map, HL1.out]; omega) (cb_one _)) trivial ?_ (fun _ _ h => h)
      rw [hsp]
      refine ⟨hk1.inv.1.none 8 (by omega) (by omega) hFg.block.2 _ hFg (by decide), ?_, fun _ => by rw [getD_set_ne _ _ _ (by omega)]; exact l7⟩
      intro _
      refine ⟨g, hg, ?_⟩
      rw [getD_set_eq _ _ s8]
      exact hFg.setRow (ys := cb R1) (by rw [List.length_map]; exact HL1.out)
  · intro listed a1 w6 hJ hall hp
    obtain ⟨v0, p0, v1, p1, v2, p2, v3, p3, v4, p4, v5, p5, v6, p6, v7, p7, rfl⟩ := hp
    simp only [mac1] at p0 p1 p2 p3 p4 p5 p6 p7
    subst p0 p1 p2 p4 p6
    obtain ⟨⟨k1, -, -⟩, k2, -⟩ := hJ
    obtain ⟨gi, ai, fi⟩ := k2 (hall 7 (by decide))
    rw [hall 8 (by decide)] at fi
    replace fi : Fresh w2.heap.size 32 w6 (some ⟨gi, 0, none⟩) 32 32 (cb R1) := fi
    simp only [Act.put, List.setIfInBounds_toArray, List.set_cons_succ, List.set_cons_zero] at ai ⊢
    obtain rfl : v7 = .pointer (some ⟨gi, 0, none⟩) := by simpa using ai
    have hBw6 := Below.then_ hBw k1
    have ft6 := ft.below k1
    have fr6 := fr.below k1
    have hA6 := hA2.step k1
    have zz : gr < w6.heap.size := fr6.lt_size
    have hgi : gi < w6.heap.size := fi.lt_size
    have hgrw := fr6.block.2
    clear k1 k2 p3 p5 p7 ai hall ft fr hA2 hB2 hBw
    go_wp2_with fail
    have sgi := sl32_all gi
    refine region_L (mac2 TB A gi n c R2) (mac2J w6 gr y (y ++ R1) R2) (by kernel_rfl) (by kernel_rfl) ⟨fun _ => ⟨⟨rfl, rfl, rfl, Nat.le_refl _, fun _ _ => rfl⟩, (by intro h; rw [getD_replicate_false] at h; cases h), (by intro h; rw [getD_replicate_false] at h; cases h)⟩, (by intro h; rw [getD_replicate_false] at h; cases h)⟩ ?_ ?_
    · refine ⟨?_, ?_, ?_, ?_, ?_, ?_, ?_, ?_, trivial⟩
      all_goals intro listed a1 w' hk1 h1 hd1
      · obtain ⟨f7, hP⟩ := hk1.inv.free 0 (by omega) h1
        exact stepL_value rfl (run_load_agg (.tmp 3) 26 rfl (hk1.ev_old 3 (by kernel_rfl)) TB 72 HC.out (by kernel_rfl) (ft6.below hP.1).sees) rfl (mac2J.of f7 (by omega) (hP.other 0 15 _ (by omega) (by omega) (by omega) (by omega)))
      · obtain ⟨f7, hP⟩ := hk1.inv.free 1 (by omega) h1
        exact stepL_value rfl (run_load_agg (.tmp 3) 26 rfl (hk1.ev_old 3 (by kernel_rfl)) TB 72 HC.out (by kernel_rfl) (ft6.below hP.1).sees) rfl (mac2J.of f7 (by omega) (hP.other 1 16 _ (by omega) (by omega) (by omega) (by omega)))
      · obtain ⟨f7, hP⟩ := hk1.inv.free 2 (by omega) h1
        have f2 : a1.eval (.tmp 1) = .slice A n c := hk1.ev_old 1 (by kernel_rfl)
        have g2 : a1.tmps[1]?.getD undef = .slice A n c := by simpa [Act.eval] using f2
        exact stepL_value rfl (v := .slice A n c) (by go_simp) rfl (mac2J.of f7 (by omega) (hP.other 2 17 _ (by omega) (by omega) (by omega) (by omega)))
      · obtain ⟨f7, hP⟩ := hk1.inv.free 3 (by omega) h1
        obtain ⟨v1, e1, q1, rfl, l1⟩ := hk1.ev_new hd1 1 16 (by kernel_rfl) rfl
        obtain ⟨v2, e2, q2, rfl, l2⟩ := hk1.ev_new hd1 2 17 (by kernel_rfl) rfl
        refine stepL_enter rfl (f := 75) (args := #[.agg TB.toArray, .slice A n c, .int .u8 92]) (by go_simp) ?_
        refine (HBY.out _ A (hA6.step hP.1) c).mono ?_
        rintro e w5 ⟨A5, c5, rfl, hF5, hB5⟩
        exact ⟨_, rfl, trivial, mac2J.of f7 (by omega) (hP.toBlk (by rw [hk1.size]; exact (show (18 : Nat) < 22 by decide)) (by omega) hB5 hF5), fun _ _ h => h⟩
      · obtain ⟨f7, hP⟩ := hk1.inv.free 4 (by omega) h1
        have f2 : a1.eval (.tmp 7) = .pointer (some ⟨gi, 0, none⟩) := hk1.ev_old 7 (by kernel_rfl)
        have g2 : a1.tmps[7]?.getD undef = .pointer (some ⟨gi, 0, none⟩) := by simpa [Act.eval] using f2
        exact stepL_value rfl (v := .slice (some ⟨gi, 0, none⟩) 32 32) (by go_simp) rfl (mac2J.of f7 (by omega) (hP.other 4 19 _ (by omega) (by omega) (by omega) (by omega)))
      · obtain ⟨f7, hP⟩ := hk1.inv.free 5 (by omega) h1
        obtain ⟨v3, e3, q3, _, l3⟩ := hk1.ev_new hd1 3 18 (by kernel_rfl) rfl
        obtain ⟨v4, e4, q4, rfl, l4⟩ := hk1.ev_new hd1 4 19 (by kernel_rfl) rfl
        obtain ⟨s5, f5⟩ := size_of_getD h1
        obtain ⟨A5, c5, r1, r2⟩ := hP.2.1 l3 f5
        obtain rfl : v3 = .slice A5 64 c5 := by rw [q3] at r1; simpa using r1
        have hb5 := hP.1
        obtain ⟨A6, c6, w5, hr, hF6, hB6, keep⟩ := run_own8 w6 w' 27 A5 (some ⟨gi, 0, none⟩) 64 c5 32 32 y R1 r2 ((fi.below hb5).sees) HL1.out (by omega) hb5
        refine stepL_run rfl (v := .slice A6 (64 + 32) c6) (w' := w5) ?_ trivial (mac2J.of f7 (by omega) (P35.toFull hB6 (by rw [hk1.size]; exact (show (20 : Nat) < 22 by decide)) s5 hF6)) (fun _ _ h => h)
        unfold execOp
        simp only [resolve, invoke, builtin, Sem.run_bind, Sem.run_pure, Result.andThen_ok, List.map_toArray, List.map_cons, List.map_nil, e3, e4, hr]
      · obtain ⟨f7, hP⟩ := hk1.inv.free 6 (by omega) h1
        obtain ⟨v0, e0, q0, rfl, l0⟩ := hk1.ev_new hd1 0 15 (by kernel_rfl) rfl
        obtain ⟨v5, e5, q5, _, l5⟩ := hk1.ev_new hd1 5 20 (by kernel_rfl) rfl
        obtain ⟨A5, c5, r1, r2⟩ := hP.2.2 l5
        obtain rfl : v5 = .slice A5 (64 + 32) c5 := by rw [q5] at r1; simpa using r1
        refine stepL_enter rfl (f := 74) (args := #[.agg TB.toArray, .slice A5 (64 + 32) c5]) (by go_simp) ?_
        refine (HO2.out _ A5 _ c5 r2.sees rfl).mono ?_
        rintro e w5 ⟨rfl, hB5⟩
        exact ⟨_, rfl, rfl, mac2J.of f7 (by omega) ((hP.below hB5).other 6 21 _ (by omega) (by omega) (by omega) (by omega)), fun _ _ h => h⟩
      · obtain ⟨s7, f7⟩ := size_of_getD h1
        have hP := hk1.inv.1 f7
        obtain ⟨v6, e6, q6, rfl, l6⟩ := hk1.ev_new hd1 6 21 (by kernel_rfl) rfl
        have f2 : a1.eval (.tmp 6) = .pointer (some ⟨gr, 0, none⟩) := hk1.ev_old 6 (by kernel_rfl)
        have hsp : splice (cb (List.replicate 32 0)) 0 (cb R2) = cb R2 := by have := HL2.out; simp [splice, this]
        refine stepL_skip rfl rfl (run_store_agg (.tmp 6) (.tmp 21) 32 rfl f2 (cb R2) e6 (by rw [show (cb R2).length = 32 from by rw [List.length_map]; exact HL2.out]; kernel_rfl) (fr6.below hP.1) (by rw [List.length_map, HL2.out]; omega) (cb_one _)) trivial ?_ (fun _ _ h => h)
        rw [hsp]
        refine ⟨fun e => (by rw [getD_set_eq _ _ s7] at e; cases e), fun _ => ⟨fun j hj => ?_, w', hP.1, rfl⟩⟩
        have hj2 : listed.getD j false = true := by
          rcases (by omega : j = 0 ∨ j = 1 ∨ j = 2 ∨ j = 3 ∨ j = 4 ∨ j = 5 ∨ j = 6) with rfl | rfl | rfl | rfl | rfl | rfl | rfl
          · exact hd1 ⟨0, .phase⟩ (by simp) rfl
          · exact hd1 ⟨1, .phase⟩ (by simp) rfl
          · exact hd1 ⟨2, .phase⟩ (by simp) rfl
          · exact hd1 ⟨3, .phase⟩ (by simp) rfl
          · exact hd1 ⟨4, .phase⟩ (by simp) rfl
          · exact hd1 ⟨5, .phase⟩ (by simp) rfl
          · exact hd1 ⟨6, .phase⟩ (by simp) rfl
        exact set_true_of listed _ j hj2
    · intro listed a1 w7 hJ hall hp
      obtain ⟨v0, p0, v1, p1, v2, p2, v3, p3, v4, p4, v5, p5, v6, p6, rfl⟩ := hp
      obtain ⟨-, W1, hB1, rfl⟩ := hJ.2 (hall 7 (by decide))
      have f9 := (fr6.below hB1).setRow (ys := cb R2) (by rw [List.length_map]; exact HL2.out)
      have hB9 := Below.setRow' (Below.then_ hBw6 hB1) hgrw (cb R2).toArray
      simp only [Act.put, List.setIfInBounds_toArray, List.set_cons_succ, List.set_cons_zero]
      go_wp2_with fail
      exact bodyPost_cell rfl rfl (cb R2) 32 (by rw [List.length_map]; exact HL2.out) (by kernel_rfl) f9.sees rfl ⟨rfl, hB9⟩
end
end Go.Proofs.Ytehokoeajinboaa
