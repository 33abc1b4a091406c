/-
  MacKeys returns true for every input, and writes nothing that was there: the walk.
-/
import Derived.Test.YthigepkcgijbbaaKeysPure
import Derived.Test.YthigepkcgijbbaaRoundsSame
import Derived.Test.YthigepkcgijbbaaMacAwake
import Derived.Test.YthigepkcgijbbaaQCall
import Derived.Test.YthigepkcgijbbaaLow
import Derived.BigQuiet
import Derived.RegionTactic
import Derived.Deep.OwnRows
import Derived.Laws.BitsAllLaws
namespace Go.Proofs.Ythigepkcgijbbaa
open Go.RowKit
set_option linter.unusedVariables false

/-- What the operations of 'append(copy of the key, noughts)' yield. -/
def lgFacts (N : Nat) (A : Option Addr) (n c p k : Nat) (mo : Nat) (l : List UInt8) (j : Nat) (v : Value) (w : World) : Prop := match j with
  | 0 => v = .slice A n c
  | 1 => ∃ B e, v = .slice B n e ∧ Fresh N 5 w B n e (cb l)
  | 2 => v = .int .u8 (mo : Int)
  | 3 => v = .int .i64 (mo : Int)
  | 4 => v = .slice A n c
  | 5 => v = .int .i64 (n : Int)
  | 6 => v = .int .i64 (p : Int)
  | 7 => v = .int .i64 (k : Int)
  | _ => True
theorem lgFacts_stab (N : Nat) (A : Option Addr) (n c p k : Nat) (mo : Nat) (l : List UInt8) : ∀ j v w w', Below w.heap.size w w' → lgFacts N A n c p k mo l j v w → lgFacts N A n c p k mo l j v w' := by
  intro j v w w' hb h
  unfold lgFacts at *
  split at h
  all_goals first
    | exact h
    | (obtain ⟨B, e, h1, h2⟩ := h; exact ⟨B, e, h1, h2.below hb⟩)
    | trivial
theorem splice_whole (xs ys : List UInt8) (n : Nat) (h1 : xs.length = n) (h2 : ys.length = n) : splice (cb xs) 0 (cb ys) = cb ys := by
  simp [splice, h1, h2]
theorem wpList_copy8_at {w : World} {ops : Array Oper} {rest : List Oper} {o : Oper} {a : Act} {Q : Exit → Act → World → Prop} (hg : o.guard = none) (d s : Operand)
    (hop : o.op = .call { callee := .builtin .copy, args := #[d, s], argTypes := #[27, 27] })
    (sp : Option Addr) (sLen sCap g n base : Nat) (hd : a.eval d = .slice (some ⟨g, 0, none⟩) n n) (hs : a.eval s = .slice sp sLen sCap)
    (cur cs : List UInt8) (hF : Fresh base 5 w (some ⟨g, 0, none⟩) n n (cb cur)) (hn : cs.length = sLen) (hsd : sLen ≤ n) (hsees : Sees w w.heap.size sp (cb cs))
    (hK : ∀ w', Fresh base 5 w' (some ⟨g, 0, none⟩) n n (cb (splice cur 0 cs)) → w.grownBy w' (some g) → wpList Try.prog ops Q rest (a.put o.dst (goInt sLen)) w') :
    wpList Try.prog ops Q (o :: rest) a w := by
  have hcl : cur.length = n := by simpa using hF.len
  have hmin : (cb cs).length = Nat.min sLen n := by
    have e : Nat.min sLen n = sLen := Nat.min_eq_left hsd
    rw [e]
    simp [hn]
  by_cases h0 : sLen = 0
  · have hcs : cs = [] := List.eq_nil_of_length_eq_zero (hn.trans h0)
    refine wpList_copy_nothing hg d s 27 27 hop 5 Try.underlying27 size8 _ sp n n sLen sCap hd hs (by rw [← hmin, hcs]; rfl) ?_
    have := hK w (by rw [hcs]; simpa [splice] using hF) ⟨rfl, rfl, rfl, Nat.le_refl _, fun _ _ _ => rfl⟩
    rw [h0] at this
    exact this
  · obtain ⟨b', o', rfl, _, hc⟩ := hsees (by simp; omega)
    refine wpList_copy_own hg d s 27 27 hop 5 Try.underlying27 size8 g 0 n n ⟨b', o', none⟩ sLen sCap hd hs (cb cur).toArray 5 hF.block.1 (cb cs) hmin (fun j v hj => by rw [Addr.add_lit]; exact hc j v hj) (by simp [hcl, hn]; omega) (cb_one cs) ?_
    have e1 : splice (cb cur) 0 (cb cs) = cb (splice cur 0 cs) := by simp [splice, cb]
    have e2 : (cb (splice cur 0 cs)).length = n := by
      rw [← e1, length_splice _ _ _ (by simp [hcl, hn]; omega)]
      simp [hcl]
    have h9 := setRow_heap w g (cb cur).toArray (splice (cb cur) 0 (cb cs)).toArray 5 (0, 0) hF.block.1
    rw [e1] at h9
    have hk := hK _ (Fresh.of_block h9 hF.block.2 e2 hF.cap.2) ⟨rfl, rfl, rfl, by simp, fun k _ hk => setRow_other w g k _ (fun e => hk (by rw [e]))⟩
    rw [← e1] at hk
    rw [← hn] at hk
    simpa [splice] using hk
theorem wpList_app8_at {w : World} {ops : Array Oper} {rest : List Oper} {o : Oper} {a : Act} {Q : Exit → Act → World → Prop} (hg : o.guard = none) (s x : Operand)
    (hop : o.op = .call { callee := .builtin .append, args := #[s, x], argTypes := #[27, 27] })
    (D A : Option Addr) (n c m d base : Nat) (cur l : List UInt8) (hs : a.eval s = .slice D n c) (hx : a.eval x = .slice A m d)
    (hF : Fresh base 5 w D n c (cb cur)) (hS : Sees w w.heap.size A (cb l)) (hl : l.length = m) (hn : n + m ≤ 1099511627776) (hb : base ≤ w.heap.size)
    (hK : ∀ A' c' w', Fresh base 5 w' A' (n + m) c' (cb (cur ++ l)) → w.grownBy w' (Value.slice D n c).ownBlock → wpList Try.prog ops Q rest (a.put o.dst (.slice A' (n + m) c')) w') :
    wpList Try.prog ops Q (o :: rest) a w := by
  obtain ⟨i0, hi, hz0, hz1, hz2⟩ := info_parts info8
  have main : ∀ ad, A = some ad → (∀ j u, (cb l)[j]? = some u → w.cell? (ad.add j) = some u) → wpList Try.prog ops Q (o :: rest) a w := by
    intro ad hA hc
    refine wpList_append_own w hg s x 27 hop base 5 i0 (.int .u8 0) 1 1 Try.underlying27 hi hz0 hz1 hz2 rfl (by omega) _ n (cb cur) hs hF ad m d (cb l) (by rw [hx, hA]) (by simp [hl]) hc (cb_one l) (by unfold maxLen; omega) (by omega) hb ?_
    intro v' w' hown hgr hnil
    rw [show cb cur ++ cb l = cb (cur ++ l) from by simp [cb]] at hown
    rcases hown.2 with ⟨rfl, h0⟩ | ⟨g, cap, cu, rfl, _⟩
    · rw [h0] at hown hK
      exact hK none 0 w' hown hgr
    · exact hK _ cap w' hown hgr
  by_cases h0 : m = 0
  · subst h0
    obtain rfl : l = [] := List.eq_nil_of_length_eq_zero hl
    cases hA : A with
    | none =>
      rw [hA] at hx
      refine wpList_plain hg fun K hK' => ?_
      have hrun := none_app (d := d) (ty := o.type) hF
      unfold Oper.wp
      simp [execOp, hop, resolve, invoke, builtin, hs, hx, hrun, Result.andThen]
      have := hK D c w (by simpa using hF) ⟨rfl, rfl, rfl, Nat.le_refl _, fun _ _ _ => rfl⟩
      exact hK' _ _ (by simpa using this)
    | some ad => exact main ad hA (fun j u hj => by simp at hj)
  · obtain ⟨b, off, hA, _, hc⟩ := hS (by simp; omega)
    exact main _ hA (fun j u hj => by rw [Addr.add_lit]; exact hc j u hj)
/-- Bytes behind a slice that is full: new memory. -/
theorem app_full8 (w : World) (ty : TypeId) (g h n m : Nat) (cur l : List UInt8) (hF : Sees w w.heap.size (some ⟨g, 0, none⟩) (cb cur)) (hc : cur.length = n) (hG : Sees w w.heap.size (some ⟨h, 0, none⟩) (cb l)) (hl : l.length = m) (hn : n ≤ 1000) (hm0 : 0 < m) (hm : m ≤ 1000) :
    ∃ A c w', (Builtin.append_ #[27, 27] ty #[.slice (some ⟨g, 0, none⟩) n n, .slice (some ⟨h, 0, none⟩) m m]).run Try.prog w = .ok (.slice A (n + m) c) w' ∧ n + m ≤ c ∧ Sees w' w'.heap.size A (cb (cur ++ l)) ∧ Below w.heap.size w w' := by
  obtain ⟨i0, hi, hz0, hz1, hz2⟩ := info_parts info8
  have get : ∀ (q : Nat) (xs : List UInt8), Sees w w.heap.size (some ⟨q, 0, none⟩) (cb xs) → ∀ j v, (cb xs)[j]? = some v → w.cell? ((⟨q, 0, none⟩ : Addr).add j) = some v := fun q xs hs j v hj => by
    have h0 : 0 < (cb xs).length := by
      rcases List.getElem?_eq_some_iff.1 hj with ⟨h1, _⟩
      omega
    obtain ⟨b', o', e', _, hc'⟩ := hs h0
    obtain ⟨rfl, rfl⟩ : q = b' ∧ 0 = o' := by simpa using e'
    rw [Addr.add_lit]
    exact hc' j v hj
  have hr := run_append_grow (P := Try.prog) w 27 ty 5 i0 (.int .u8 0) Try.underlying27 hi hz0 ⟨g, 0, none⟩ n n (cb cur) (by simp [hc, hz1]) (get g cur hF) ⟨h, 0, none⟩ m m (cb l) (by simp [hl, hz1]) (get h l hG) (by omega) (by omega) (growslice_fits (by omega) (by rw [hz2]; omega))
  have hge := grownCap_ge w (n + m) n 5
  have hcm := grownCap_le_maxLen w (n + m) n 5 (by unfold maxLen; omega)
  have hlen : (cb cur ++ cb l).length = n + m := by simp [hc, hl]
  have hfr : Fresh w.heap.size 5 (w.drew.alloc (.cells ((cb cur).toArray ++ (cb l).toArray ++ Builtin.zeroCells (Value.int .u8 0).cells (grownCap w (n + m) n 5 - (n + m))) 5)) (some ⟨w.heap.size, 0, none⟩) (n + m) (grownCap w (n + m) n 5) (cb (cur ++ l)) := by
    have e1 : cb (cur ++ l) = cb cur ++ cb l := by simp [cb]
    refine ⟨by rw [e1]; simpa using hlen, .inr ⟨w.heap.size, _, _, rfl, Nat.le_refl _, heap_alloc_new w.drew _, hge, hcm, ?_, ?_⟩⟩
    · rw [Array.size_append, zeroCells8]
      simp [hc, hl]
      omega
    · rw [e1, Array.toList_append, Array.toList_append, Nat.mul_one, ← hlen]
      exact List.take_left
  exact ⟨_, _, _, hr, hge, hfr.sees, (below_drewN' (Below.refl w.heap.size w) 1).alloc (Nat.le_refl _) _⟩
/-- What the operations of the last digest beside the Mac yield. -/
def lsFacts (go g15 : Nat) (xs : List UInt8) (D : List Value) (j : Nat) (v : Value) (w : World) : Prop := match j with
  | 0 => v = .slice (some ⟨go, 0, none⟩) 64 64
  | 1 => v = .slice (some ⟨g15, 0, none⟩) 32 32
  | 2 => ∃ A c, v = .slice A 96 c ∧ 96 ≤ c ∧ Sees w w.heap.size A (cb xs)
  | 3 => v = .agg D.toArray
  | 4 => v = .agg D.toArray
  | _ => True
theorem lsFacts_stab (go g15 : Nat) (xs : List UInt8) (D : List Value) : ∀ j v w w', Below w.heap.size w w' → lsFacts go g15 xs D j v w → lsFacts go g15 xs D j v w' := by
  intro j v w w' hb h
  unfold lsFacts at *
  split at h <;> first | exact h | (obtain ⟨A, c, h1, h2, h3⟩ := h; exact ⟨A, c, h1, h2, h3.step hb⟩) | trivial
theorem turn_at (kb : List UInt8) (v : UInt8) (j : Nat) : (turnF (kb.take j) v ++ kb.drop j)[j]? = kb[j]? := by
  unfold turnF
  rcases Nat.lt_or_ge j kb.length with h | h
  · rw [List.getElem?_append_right (by simp; omega), List.getElem?_drop]
    congr 1
    simp
    omega
  · rw [List.getElem?_eq_none (by simp; omega), List.getElem?_eq_none h]
theorem turn_set (kb : List UInt8) (v y : UInt8) (j : Nat) (h : kb[j]? = some y) : (turnF (kb.take j) v ++ kb.drop j).set j (y ^^^ v) = turnF (kb.take (j + 1)) v ++ kb.drop (j + 1) := by
  obtain ⟨hj, hy⟩ := List.getElem?_eq_some_iff.1 h
  have hl : (turnF (kb.take j) v).length = j := by rw [turnF_len, List.length_take]; omega
  rw [List.set_append_right _ _ (by omega), hl, Nat.sub_self, List.drop_eq_getElem_cons hj, List.set_cons_zero, List.take_add_one, h]
  unfold turnF
  simp
theorem madeN (n : Nat) : madeCells #[Value.int .u8 0] n = (cb (List.replicate n 0)).toArray := by
  apply Array.toList_inj.1
  rw [toList_madeCells_one]
  simp [cb]
/-- Sixty-four noughts. -/
def z64 : Obj := .cells (cb (List.replicate 64 0)).toArray 5
theorem run_mk64 (w : World) : (Instr.makeSlice 27 (.int .i64 64) (.int .i64 64)).run Try.prog w = .ok (.slice (some ⟨w.heap.size, 0, none⟩) 64 64) (w.alloc z64) := by
  unfold z64
  rw [← madeN]
  exact run_make_row' 27 5 (.int .u8 0) 1 Try.underlying27 info8 rfl .i64 .i64 64 (by omega) (by omega) w
theorem wpList_val {P : Program} {w : World} {ops : Array Oper} {rest : List Oper} {o : Oper} {a : Act} {Q : Exit → Act → World → Prop} {v : Value} (hg : o.guard = none) (hrun : (execOp a.eval o).run P w = .ok (.value v) w) (hK : wpList P ops Q rest (a.put o.dst v) w) : wpList P ops Q (o :: rest) a w := by
  refine wpList_plain hg fun K hK' => ?_
  unfold Oper.wp
  rw [hrun]
  exact hK' _ _ hK
/-- What the operations of a Mac beside a digest that lies there yield. -/
def mqFacts (A : Option Addr) (n c : Nat) (B : Option Addr) (m d : Nat) (D : List Value) (j : Nat) (v : Value) (w : World) : Prop := match j with
  | 0 => v = .slice A n c
  | 1 => v = .slice B m d
  | 2 => v = .agg D.toArray
  | 3 => v = .agg D.toArray
  | _ => True
theorem mqFacts_stab (A : Option Addr) (n c : Nat) (B : Option Addr) (m d : Nat) (D : List Value) : ∀ j v w w', Below w.heap.size w w' → mqFacts A n c B m d D j v w → mqFacts A n c B m d D j v w' := by
  intro j v w w' hb h
  unfold mqFacts at *
  split at h <;> first | exact h | trivial
section
variable {w : World}
set_option maxHeartbeats 16000000 in
set_option maxRecDepth 100000 in
theorem mackeys_walk (first keys : List UInt32) (h8 : first.length = 8) (h64 : keys.length = 64) (A : Option Addr) (n c : Nat) (key : List UInt8) (hA : Sees w w.heap.size A (cb key)) (hn : key.length = n) (hnc : n ≤ c) (B : Option Addr) (m d : Nat) (b : List UInt8) (hB : Sees w w.heap.size B (cb b)) (hm : b.length = m) (hmd : m ≤ d) (mo : Nat) (hmo : mo < 256) (hn63 : n ≤ 9223372036854775807) (hm63 : m ≤ 9223372036854775807) :
    Calls Try.prog 4 #[.agg (cw (first ++ keys)).toArray, .slice A n c, .slice B m d, .int .u8 (mo : Int)] w fun e w' => e = .returned (.bool true) ∧ Below w.heap.size w w' := by
  have HN := Lib.hid hn
  have HM := Lib.hid hm
  have HLF := Lib.hid (show (first ++ keys).length = 72 by rw [List.length_append, h8, h64])
  have HH8 := Lib.hid h8
  have HH64 := Lib.hid h64
  clear hn hm h8 h64
  by_cases hk2 : n ≤ 200
  · have q1 : decide ((200 : Int) < (n : Int)) = false := by simp; omega
    by_cases hb2 : m ≤ 200
    · have q2 : decide ((200 : Int) < (m : Int)) = false := by simp; omega
      clear hn63 hm63
      by_cases hn64 : n ≤ 64
      · have q3 : decide ((64 : Int) < (n : Int)) = false := by simp; omega
        go_enter Try.func4, Try.ntmps4
        go_wp2_with (with_reducible refine wpList_box (o := ⟨some 4, _, _, _, _, _⟩) rfl (.tmp 0) 26 rfl (cw (first ++ keys)) rfl 72 (by rw [List.length_map]; exact HLF.out) (by decide) ?_; intro gt w1 hgt hFt hx1)
        have hT1 : Tab w1 gt 0 first keys := ⟨HH8.out, HH64.out, hFt.sees⟩
        have hA1 := hA.step hx1
        have hB1 := hB.step hx1
        clear hFt hA hB
        obtain ⟨MW, hMW⟩ : ∃ MW, macF first keys key b = MW := ⟨_, rfl⟩
        have HMW := Lib.hid hMW
        have HNK := HN
        have HMK := HMW
        have HLM : Hid (MW.length = 32) := Lib.hid (by rw [← hMW]; exact len_ofF _ _ _ HH8.out)
        have hMac := Mac_any gt 0 first keys A B n c m d key b w1 hT1 hA1 HN.out hnc (by omega) hB1 HM.out hmd (by omega)
        rw [hMW] at hMac
        clear hMW
        refine hMac.mono ?_
        rintro e w2 ⟨rfl, hx2⟩
        have hx02 := Below.then_ hx1 hx2
        have hT2 := hT1.step hx2
        have hA2 := hA1.step hx2
        have hB2 := hB1.step hx2
        clear hMac hT1 hA1 hB1 hx1 hx2
        go_upto_block 4 with (first
          | (with_reducible refine wpList_alloc (o := ⟨some 9, _, _, _, _, _⟩) rfl 32 rfl (cb (List.replicate 32 0)) (by kernel_rfl) 32 (by simp) (by decide) ?_; intro g9 w3 hg9 hF3 hx3; have hx03 := Below.then_ hx02 hx3; have hz3 := hx02.size)
          | (with_reducible refine wpList_store rfl rfl (.tmp 9) (.tmp 27) 32 rfl g9 0 _ 32 32 (cb (List.replicate 32 0)) (cb MW) rfl rfl 32 (by rw [List.length_map]; exact HLM.out) (by kernel_rfl) hF3 (by omega) (cb_one _) w2 hx3 (by omega) ?_; intro w4 hF4 hx24 ho4 hz4))
        have e4 : splice (cb (List.replicate 32 0)) 0 (cb MW) = cb MW := splice_whole _ _ 32 (by simp) HLM.out
        rw [e4] at hF4
        have hx4 : Below w.heap.size w w4 := Below.then_ hx02 hx24
        have hT4 := hT2.step hx24
        have hK4 := hA2.step hx24
        have hB4 := hB2.step hx24
        clear hT2 hA2 hB2 hx24 hx02 ho4 hz4
        obtain ⟨p, hp⟩ : ∃ p, 65 - n = p := ⟨_, rfl⟩
        have hp1 : 1 ≤ p := by omega
        obtain ⟨k, hk⟩ : ∃ k, mo % p = k := ⟨_, rfl⟩
        have hkn : n + k ≤ 64 := by have := Nat.mod_lt mo (show 0 < p by omega); omega
        have E1 : (65 : Int) - (n : Int) = (p : Int) := by omega
        have E2 : (mo : Int).tmod (p : Int) = (k : Int) := by rw [← hk]; rfl
        have E3 : (p : Int) ≠ 0 := by omega
        have E4 : ((p : Int) == 0) = false := by simp; omega
        clear hp hk
        refine region_all_tail 8 (lgFacts w4.heap.size A n c p k mo key) (by kernel_rfl) (by kernel_rfl) (by kernel_rfl) (lgFacts_stab _ _ _ _ _ _ _ _) ?_ ?_
        · intro w0 hb0
          simp only [List.take_succ_cons, List.take_zero]
          refine ⟨?_, ?_, ?_, ?_, ?_, ?_, ?_, ?_, trivial⟩
          all_goals intro listed a1 w' hk hd
          all_goals have hb5 := Below.then_ hb0 hk.below
          · have f2 := hk.ev_old 1 (by kernel_rfl)
            exact stepOk_value rfl (v := .slice A n c) (by simp [execOp]; exact f2) rfl
          · obtain ⟨v, e0, _, rfl⟩ := hk.ev_new hd 0 34 (by kernel_rfl) rfl
            refine stepOk_enter rfl (f := 14) (args := #[.slice A n c]) (by go_simp) ?_
            refine (CopyBytes_any A c n key w' (hK4.step hb5) HNK.out (by omega)).mono ?_
            rintro e w5 ⟨B', cB, rfl, hF5, hx5⟩
            exact ⟨_, rfl, ⟨B', cB, rfl, hF5.lower hb5.size⟩, hx5⟩
          · have f2 := hk.ev_old 3 (by kernel_rfl)
            exact stepOk_value rfl (v := .int .u8 (mo : Int)) (by simp [execOp]; exact f2) rfl
          · obtain ⟨v, e0, _, rfl⟩ := hk.ev_new hd 2 36 (by kernel_rfl) rfl
            have hmo2 : IntKind.i64.wrap (mo : Int) = (mo : Int) := by rw [IntKind.wrap_i64]; omega
            exact stepOk_value rfl (v := .int .i64 (mo : Int)) (by go_simp) rfl
          · have f2 := hk.ev_old 1 (by kernel_rfl)
            exact stepOk_value rfl (v := .slice A n c) (by simp [execOp]; exact f2) rfl
          · obtain ⟨v, e0, _, rfl⟩ := hk.ev_new hd 4 38 (by kernel_rfl) rfl
            exact stepOk_value rfl (v := .int .i64 (n : Int)) (by go_simp) rfl
          · obtain ⟨v, e0, _, rfl⟩ := hk.ev_new hd 5 39 (by kernel_rfl) rfl
            have hwp : IntKind.i64.wrap (65 - (n : Int)) = (p : Int) := by rw [IntKind.wrap_i64]; omega
            have hwp2 : IntKind.i64.wrap (p : Int) = (p : Int) := by rw [IntKind.wrap_i64]; omega
            exact stepOk_value rfl (v := .int .i64 (p : Int)) (by go_simp) rfl
          · obtain ⟨v, e0, _, rfl⟩ := hk.ev_new hd 3 37 (by kernel_rfl) rfl
            obtain ⟨v, e1, _, rfl⟩ := hk.ev_new hd 6 40 (by kernel_rfl) rfl
            have hp0 : ¬ p = 0 := by omega
            have hwk : IntKind.i64.wrap (k : Int) = (k : Int) := by rw [IntKind.wrap_i64]; omega
            exact stepOk_value rfl (v := .int .i64 (k : Int)) (by go_simp) rfl
        · intro a1 w' hbw hp
          obtain ⟨v0, p0, v1, p1, v2, p2, v3, p3, v4, p4, v5, p5, v6, p6, v7, p7, rfl⟩ := hp
          obtain ⟨B5, c5, rfl, hF5⟩ := p1
          obtain rfl := p7
          simp only [List.drop_succ_cons, List.drop_zero, Act.put, List.setIfInBounds_toArray, List.set_cons_succ, List.set_cons_zero]
          obtain ⟨A9, c9, w9, hr9, hF9, hx9⟩ := run_zeros8 w4.heap.size 27 B5 n c5 k key w' hF5 hbw.size (by omega) (by omega)
          refine Lib.wpList_append_run w' rfl (.tmp 35) (.tmp 41) 27 3 rfl (.slice B5 n c5) (.int .i64 (k : Int)) rfl rfl _ _ hr9 ?_
          have hx49 := hbw.trans hx9
          go_wp2_with fail
          have hT9 := hT4.step hx49
          have hB9 := hB4.step hx49
          have hF49 := hF4.below hx49
          clear hF5 hr9 hx9 hbw
          refine region_all_tail 4 (mqFacts A9 (n + k) c9 B m d (cb MW)) (by kernel_rfl) (by kernel_rfl) (by kernel_rfl) (mqFacts_stab _ _ _ _ _ _ _) ?_ ?_
          · intro w0 hb0
            simp only [List.take_succ_cons, List.take_zero]
            refine ⟨?_, ?_, ?_, ?_, trivial⟩
            all_goals intro listed a1 w' hk hd
            all_goals have hb5 := Below.then_ hb0 hk.below
            · have f2 := hk.ev_old 11 (by kernel_rfl)
              exact stepOk_value rfl (v := .slice A9 (n + k) c9) (by simp [execOp]; exact f2) rfl
            · have f2 := hk.ev_old 2 (by kernel_rfl)
              exact stepOk_value rfl (v := .slice B m d) (by simp [execOp]; exact f2) rfl
            · obtain ⟨v, e0, _, rfl⟩ := hk.ev_new hd 0 43 (by kernel_rfl) rfl
              obtain ⟨v, e1, _, rfl⟩ := hk.ev_new hd 1 44 (by kernel_rfl) rfl
              have f4 : a1.eval (.tmp 4) = .pointer (some ⟨gt, 0, none⟩) := hk.ev_old 4 (by kernel_rfl)
              have hMac2 := Mac_any gt 0 first keys A9 B (n + k) c9 m d (key ++ List.replicate k 0) b w' (hT9.step hb5) (hF9.below hb5).sees (by rw [List.length_append, HNK.out, List.length_replicate]) hF9.cap.1 (by omega) (hB9.step hb5) HM.out hmd (by omega)
              rw [macF_zeros _ _ _ _ _ (by rw [HNK.out]; exact hkn), HMK.out] at hMac2
              have g4_ : a1.tmps[4]?.getD undef = .pointer (some ⟨gt, 0, none⟩) := by simpa [Act.eval] using f4
              refine stepOk_enter rfl (f := 15) (args := #[.pointer (some ⟨gt, 0, none⟩), .slice A9 (n + k) c9, .slice B m d]) (by go_simp) ?_
              refine hMac2.mono ?_
              rintro e w5 ⟨rfl, hx5⟩
              exact ⟨_, rfl, rfl, hx5⟩
            · have f9 := hk.ev_old 9 (by kernel_rfl)
              exact stepOk_value rfl (v := .agg (cb MW).toArray) (run_load_agg (.tmp 9) 32 rfl f9 (cb MW) 32 (by rw [List.length_map]; exact HLM.out) (by kernel_rfl) (hF49.below hb5).sees) rfl
          intro a1 w10 hx10 hp
          obtain ⟨v0, p0, v1, p1, v2, p2, v3, p3, rfl⟩ := hp
          obtain rfl := p2
          obtain rfl := p3
          have hF10 := hF49.below hx10
          simp only [List.drop_succ_cons, List.drop_zero, Act.put, List.setIfInBounds_toArray, List.set_cons_succ, List.set_cons_zero]
          refine wpList_val rfl (v := .bool false) (run_neq_of (.tmp 45) (.tmp 46) 32 32 rfl (by kernel_rfl) _ _ rfl rfl (neq_digest MW HLM.out w10)) ?_
          have hmk := fun w => run_mk64 w
          go_wp2_with fail
          go_region
          · have hP0 : Fresh w10.heap.size 5 (((w10.alloc z64).alloc z64).drewN 1) (some ⟨w10.heap.size, 0, none⟩) 64 64 (cb (List.replicate 64 0)) := ((Fresh.new w10 5 (cb (List.replicate 64 0)) 64 (by simp) (by decide)).below (below_alloc _ _)).below (below_drewN' (Below.refl _ _) 1)
            have hQ0 : Fresh w10.heap.size 5 (((w10.alloc z64).alloc z64).drewN 1) (some ⟨w10.heap.size + 1, 0, none⟩) 64 64 (cb (List.replicate 64 0)) := by
              have h9 := (Fresh.new (w10.alloc z64) 5 (cb (List.replicate 64 0)) 64 (by simp) (by decide)).below (below_drewN' (Below.refl _ _) 1)
              have e9 : (w10.alloc z64).heap.size = w10.heap.size + 1 := by simp
              rw [e9] at h9
              exact h9.lower (by omega)
            have hxb : Below w10.heap.size w10 (((w10.alloc z64).alloc z64).drewN 1) := below_drewN' (((Below.refl w10.heap.size w10).alloc (Nat.le_refl _) _).alloc (by simp) _) 1
            obtain ⟨wb, hwb⟩ : ∃ wb, ((w10.alloc z64).alloc z64).drew = wb := ⟨_, rfl⟩
            have hwb2 : ((w10.alloc z64).alloc z64).drewN 1 = wb := hwb
            obtain ⟨nb, hnb⟩ : ∃ nb, w10.heap.size = nb := ⟨_, rfl⟩
            rw [hwb2] at hP0 hQ0 hxb
            rw [hwb]
            rw [hnb] at hP0 hQ0 ⊢
            obtain ⟨gi, hga⟩ : ∃ gi, gi = nb := ⟨_, rfl⟩
            obtain ⟨go, hgb⟩ : ∃ go, nb + 1 = go := ⟨_, rfl⟩
            have hP1 : Fresh nb 5 wb (some ⟨gi, 0, none⟩) 64 64 (cb (List.replicate 64 0)) := by rw [hga]; exact hP0
            have hQ1 : Fresh nb 5 wb (some ⟨go, 0, none⟩) 64 64 (cb (List.replicate 64 0)) := by rw [← hgb]; exact hQ0
            rw [hgb, ← hga]
            clear hP0 hQ0
            have hI0 := hP1
            have hO0 := hQ1
            have hgi1 : nb ≤ gi := by omega
            have hgo1 : nb ≤ go := by omega
            have hio : gi ≠ go := by omega
            clear hP1 hQ1 hga hgb
            have hA10 : Sees w10 w10.heap.size A (cb key) := hK4.step (hx49.trans (hx10.mono hx49.size))
            have hAb := hA10.step hxb
            go_wp2_with (first
              | ((with_reducible refine wpList_copy8_at (o := ⟨some 52, _, _, _, _, _⟩) rfl (.tmp 50) (.tmp 51) rfl A n c gi 64 _ rfl rfl (List.replicate 64 0) key hI0 HNK.out hn64 hAb ?_); intro w11 hI1 hg11; have hO1 : Fresh nb 5 w11 (some ⟨go, 0, none⟩) 64 64 (cb (List.replicate 64 0)) := World.ownsRow.kept hO0 hg11 (.inr (by simp [Value.ownBlock]; omega)); have hx11 : Below w10.heap.size w10 w11 := hxb.grown hg11 hxb.size (fun k hk => by simp at hk; omega); have hA11 := hA10.step hx11)
              | (with_reducible refine wpList_copy8_at (o := ⟨some 55, _, _, _, _, _⟩) rfl (.tmp 53) (.tmp 54) rfl A n c go 64 _ rfl rfl (List.replicate 64 0) key hO1 HNK.out hn64 hA11 ?_; intro w12 hO2 hg12))
            have hI2 : Fresh nb 5 w12 (some ⟨gi, 0, none⟩) 64 64 (cb (splice (List.replicate 64 0) 0 key)) := World.ownsRow.kept hI1 hg12 (.inr (by simp [Value.ownBlock]; omega))
            have hx12 : Below w10.heap.size w10 w12 := hx11.grown hg12 hx11.size (fun k hk => by simp at hk; omega)
            have hkf := keyF_short first keys key (by rw [HNK.out]; exact hn64)
            obtain ⟨kb, hkb⟩ : ∃ kb, splice (List.replicate 64 0) 0 key = kb := ⟨_, rfl⟩
            rw [hkb] at hI2 hO2 hkf
            have HKB := Lib.hid hkf
            have hkl : kb.length = 64 := by simpa using hI2.len
            clear hI0 hO0 hI1 hO1 hxb hx11 hg11 hg12 hAb hA11 hkf hkb
            go_loopw [58] (fun jv wv => ∃ (j : Nat) (xs ys : List UInt8), j ≤ 64 ∧ jv = .int .i64 (j : Int) ∧ Fresh nb 5 wv (some ⟨gi, 0, none⟩) 64 64 (cb xs) ∧ Fresh nb 5 wv (some ⟨go, 0, none⟩) 64 64 (cb ys) ∧ Hid (xs = turnF (kb.take j) 54 ++ kb.drop j ∧ ys = turnF (kb.take j) 92 ++ kb.drop j) ∧ Below w10.heap.size w10 wv) (fun jv _ => 64 - (intOf jv).toNat)
            case atStart => exact ⟨0, kb, kb, by omega, rfl, hI2, hO2, Lib.hid ⟨by simp [turnF], by simp [turnF]⟩, hx12⟩
            case round =>
              obtain ⟨j, xs, ys, hj, rfl, hI, hO, HXY, hx⟩ := hrel
              clear hI2 hO2 hx12
              have hxl : xs.length = 64 := by simpa using hI.len
              have hyl : ys.length = 64 := by simpa using hO.len
              by_cases hlt : j < 64
              · as_aux_lemma =>
                  obtain ⟨g1, o1, e1, -, y, HY, hy, hcy⟩ := hI.sees.byte hxl hlt
                  obtain ⟨rfl, rfl⟩ : gi = g1 ∧ 0 = o1 := by simpa using e1
                  obtain ⟨g2, o2, e2, -, z, HZ, hz, hcz⟩ := hO.sees.byte hyl hlt
                  obtain ⟨rfl, rfl⟩ : go = g2 ∧ 0 = o2 := by simpa using e2
                  have hkj : kb[j]? = some y := by rw [← turn_at kb 54 j, ← HXY.out.1]; exact HY.out
                  have hkz : kb[j]? = some z := by rw [← turn_at kb 92 j, ← HXY.out.2]; exact HZ.out
                  rw [Nat.zero_add] at hcy hcz
                  have hzy : wr.frozen? ⟨gi, j, none⟩ = false := World.ownsRow.frozenAt hI j
                  have hxor1 : bits .xor .u8 (y.toNat : Int) 54 = ((y.toNat ^^^ 54 : Nat) : Int) := u8_xor_nat _ 54 y.toNat_lt (by decide)
                  have hxor2 : bits .xor .u8 (z.toNat : Int) 92 = ((z.toNat ^^^ 92 : Nat) : Int) := u8_xor_nat _ 92 z.toNat_lt (by decide)
                  have h9 := World.ownsRow.stored hI j (.int .u8 ((y.toNat ^^^ 54 : Nat) : Int))
                  have e9 : (cb xs).set j (.int .u8 ((y.toNat ^^^ 54 : Nat) : Int)) = cb (xs.set j (y ^^^ 54)) := by simp [cb, List.map_set, UInt8.toNat_xor]
                  rw [e9] at h9
                  have hO' : Fresh nb 5 (wr.setCell ⟨gi, j, none⟩ (.int .u8 ((y.toNat ^^^ 54 : Nat) : Int))) (some ⟨go, 0, none⟩) 64 64 (cb ys) := World.ownsRow.kept hO h9.2 (.inr (by simp [Value.ownBlock]; omega))
                  have hcz' : (wr.setCell ⟨gi, j, none⟩ (.int .u8 ((y.toNat ^^^ 54 : Nat) : Int))).cell? ⟨go, j, none⟩ = some (.int .u8 (z.toNat : Int)) := by
                    obtain ⟨g3, o3, e3, -, hc3⟩ := hO'.sees (by simp [hyl])
                    obtain ⟨rfl, rfl⟩ : go = g3 ∧ 0 = o3 := by simpa using e3
                    have := hc3 j (.int .u8 (z.toNat : Int)) (by simp [cb, HZ.out])
                    rwa [Nat.zero_add] at this
                  have hzz' : (wr.setCell ⟨gi, j, none⟩ (.int .u8 ((y.toNat ^^^ 54 : Nat) : Int))).frozen? ⟨go, j, none⟩ = false := World.ownsRow.frozenAt hO' j
                  have k9 := World.ownsRow.stored hO' j (.int .u8 ((z.toNat ^^^ 92 : Nat) : Int))
                  have f9 : (cb ys).set j (.int .u8 ((z.toNat ^^^ 92 : Nat) : Int)) = cb (ys.set j (z ^^^ 92)) := by simp [cb, List.map_set, UInt8.toNat_xor]
                  rw [f9] at k9
                  have hI9 := World.ownsRow.kept h9.1 k9.2 (.inr (by simp [Value.ownBlock]; omega))
                  have hx9 := (hx.grown h9.2 hx.size (fun k hk => by simp at hk; omega))
                  have hx99 := (hx9.grown k9.2 hx9.size (fun k hk => by simp at hk; omega))
                  have HN2 : Hid (xs.set j (y ^^^ 54) = turnF (kb.take (j + 1)) 54 ++ kb.drop (j + 1) ∧ ys.set j (z ^^^ 92) = turnF (kb.take (j + 1)) 92 ++ kb.drop (j + 1)) := Lib.hid ⟨by rw [HXY.out.1]; exact turn_set kb 54 y j hkj, by rw [HXY.out.2]; exact turn_set kb 92 z j hkz⟩
                  go_wp2_with fail
                  go_roundw
                  case rel => exact ⟨j + 1, _, _, by omega, by go_num, hI9, k9.1, HN2, hx99⟩
                  case measure => simp [intOf]; omega
              · obtain rfl : j = 64 := by omega
                have hxs : xs = turnF kb 54 := by rw [HXY.out.1, List.take_of_length_le (by omega), List.drop_eq_nil_of_le (by omega), List.append_nil]
                have hys : ys = turnF kb 92 := by rw [HXY.out.2, List.take_of_length_le (by omega), List.drop_eq_nil_of_le (by omega), List.append_nil]
                subst hxs hys
                have hT10 := hT9.step hx10
                have hBw : Sees wr wr.heap.size B (cb b) := (hB9.step hx10).step hx
                obtain ⟨D1, hD1⟩ : ∃ D1, ofF first keys (turnF kb 54 ++ b) = D1 := ⟨_, rfl⟩
                have HD1 := Lib.hid hD1
                have HL1 : Hid (D1.length = 32) := Lib.hid (by rw [← hD1]; exact len_ofF _ _ _ HH8.out)
                have HMA : Hid (ofF first keys (turnF kb 92 ++ D1) = MW) := Lib.hid (by rw [← HMK.out, ← hD1, ← HKB.out]; rfl)
                have hzr := hx.size
                have hgl : nb ≤ wr.heap.size := by omega
                have hl64 : (turnF kb 54 ++ b).length = 64 + m := by rw [List.length_append, turnF_len, hkl, HM.out]
                have HL64 := Lib.hid hl64
                clear hD1 hl64
                go_upto_region 20 with (first
                  | ((with_reducible refine wpList_app8_at (o := ⟨some 76, _, _, _, _, _⟩) rfl (.tmp 74) (.tmp 75) rfl (some ⟨gi, 0, none⟩) B 64 64 m d nb (turnF kb 54) b rfl rfl hI hBw HM.out (by omega) hgl ?_); intro A13 c13 w13 hF13 hg13; have hO13 : Fresh nb 5 w13 (some ⟨go, 0, none⟩) 64 64 (cb (turnF kb 92)) := World.ownsRow.kept hO hg13 (.inr (by simp [Value.ownBlock]; omega)); have hx13 : Below w10.heap.size w10 w13 := hx.grown hg13 hx.size (fun k hk => by simp [Value.ownBlock] at hk; omega); have hT13 := hT10.step hx13)
                  | (go_at_call 23; refine (Of_any gt 0 first keys A13 (64 + m) c13 (turnF kb 54 ++ b) _ hT13 hF13.sees HL64.out hF13.cap.1 (by omega)).mono ?_; rintro e w14 ⟨rfl, hx14⟩; rw [HD1.out]; have hx014 := hx13.trans (hx14.mono hx13.size); have hO14 := hO13.below hx14)
                  | ((with_reducible refine wpList_alloc (o := ⟨some 15, _, _, _, _, _⟩) rfl 32 rfl (cb (List.replicate 32 0)) (by kernel_rfl) 32 (by simp) (by decide) ?_); intro g15 w15 hg15 hF15 hx15; have hx015 := hx014.trans (hx15.mono hx014.size); have hO15 := hO14.below hx15; have hz14 := hx014.size; have hgo14 := hO14.lt_size)
                  | ((with_reducible refine wpList_store rfl rfl (.tmp 15) (.tmp 77) 32 rfl g15 0 _ 32 32 (cb (List.replicate 32 0)) (cb D1) rfl rfl 32 (by rw [List.length_map]; exact HL1.out) (by kernel_rfl) hF15 (by omega) (cb_one _) w10 hx015 (by omega) ?_); intro w16 hF16 hx16 ho16 hz16))
                rw [splice_whole _ _ 32 (by simp) HL1.out] at hF16
                have hO16 : Fresh nb 5 w16 (some ⟨go, 0, none⟩) 64 64 (cb (turnF kb 92)) := hO15.other (by omega) ho16
                have hT16 := hT10.step hx16
                have hF96 := hF10.below hx16
                have hl92 : (turnF kb 92).length = 64 := by rw [turnF_len, hkl]
                refine region_all_tail 5 (lsFacts go g15 (turnF kb 92 ++ D1) (cb MW)) (by kernel_rfl) (by kernel_rfl) (by kernel_rfl) (lsFacts_stab _ _ _ _) ?_ ?_
                · intro w0 hb0
                  simp only [List.take_succ_cons, List.take_zero]
                  refine ⟨?_, ?_, ?_, ?_, ?_, trivial⟩
                  all_goals intro listed a1 w' hk hd
                  all_goals have hb5 := Below.then_ hb0 hk.below
                  · have f2 := hk.ev_old 13 (by kernel_rfl)
                    exact stepOk_value rfl (v := .slice (some ⟨go, 0, none⟩) 64 64) (by simp [execOp]; exact f2) rfl
                  · have f2 : a1.eval (.tmp 15) = .pointer (some ⟨g15, 0, none⟩) := hk.ev_old 15 (by kernel_rfl)
                    have g2_ : a1.tmps[15]?.getD undef = .pointer (some ⟨g15, 0, none⟩) := by simpa [Act.eval] using f2
                    exact stepOk_value rfl (v := .slice (some ⟨g15, 0, none⟩) 32 32) (by go_simp) rfl
                  · obtain ⟨v, e0, _, rfl⟩ := hk.ev_new hd 0 78 (by kernel_rfl) rfl
                    obtain ⟨v, e1, _, rfl⟩ := hk.ev_new hd 1 79 (by kernel_rfl) rfl
                    obtain ⟨A', c', w5, hr, hc5, hs5, hx5⟩ := app_full8 w' 27 go g15 64 32 (turnF kb 92) D1 (hO16.below hb5).sees hl92 (hF16.below hb5).sees HL1.out (by omega) (by omega) (by omega)
                    refine stepOk_run rfl (v := .slice A' (64 + 32) c') (w' := w5) ?_ ⟨A', c', rfl, hc5, hs5⟩ hx5
                    unfold execOp
                    simp only [resolve, invoke, builtin, Sem.run_bind, Sem.run_pure, Result.andThen_ok, List.map_toArray, List.map_cons, List.map_nil, e0, e1, hr]
                  · obtain ⟨v, e0, _, A', c', rfl, hc', hs'⟩ := hk.ev_new hd 2 80 (by kernel_rfl) rfl
                    have f4 : a1.eval (.tmp 4) = .pointer (some ⟨gt, 0, none⟩) := hk.ev_old 4 (by kernel_rfl)
                    have g4_ : a1.tmps[4]?.getD undef = .pointer (some ⟨gt, 0, none⟩) := by simpa [Act.eval] using f4
                    refine stepOk_enter rfl (f := 23) (args := #[.pointer (some ⟨gt, 0, none⟩), .slice A' 96 c']) (by go_simp) ?_
                    refine (Of_any gt 0 first keys A' 96 c' (turnF kb 92 ++ D1) w' (hT16.step hb5) hs' (by rw [List.length_append, hl92, HL1.out]) hc' (by omega)).mono ?_
                    rintro e w5 ⟨rfl, hx5⟩
                    rw [HMA.out]
                    exact ⟨_, rfl, rfl, hx5⟩
                  · have f9 := hk.ev_old 9 (by kernel_rfl)
                    exact stepOk_value rfl (v := .agg (cb MW).toArray) (run_load_agg (.tmp 9) 32 rfl f9 (cb MW) 32 (by rw [List.length_map]; exact HLM.out) (by kernel_rfl) (hF96.below hb5).sees) rfl
                intro a1 w17 hx17 hp
                obtain ⟨v0, p0, v1, p1, v2, p2, v3, p3, v4, p4, rfl⟩ := hp
                obtain rfl := p3
                obtain rfl := p4
                simp only [List.drop_succ_cons, List.drop_zero, Act.put, List.setIfInBounds_toArray, List.set_cons_succ, List.set_cons_zero]
                refine wpList_val rfl (v := .bool (MW == MW)) (run_eq32b (.tmp 81) (.tmp 82) 32 rfl MW MW rfl rfl HLM.out HLM.out) ?_
                rw [show (MW == MW) = true from by simp]
                have hxf : Below w.heap.size w w17 := Below.then_ (Below.then_ (Below.then_ (Below.then_ hx4 hx49) hx10) hx16) hx17
                go_wp2_with fail
                refine (awake3_any _).mono ?_
                rintro e w18 ⟨rfl, hx18⟩
                go_wp2_with fail
                go_ret
                exact ⟨rfl, Below.then_ hxf hx18⟩
          · have hP0 : Fresh w10.heap.size 5 (((w10.alloc z64).alloc z64).drewN 1) (some ⟨w10.heap.size, 0, none⟩) 64 64 (cb (List.replicate 64 0)) := ((Fresh.new w10 5 (cb (List.replicate 64 0)) 64 (by simp) (by decide)).below (below_alloc _ _)).below (below_drewN' (Below.refl _ _) 1)
            have hQ0 : Fresh w10.heap.size 5 (((w10.alloc z64).alloc z64).drewN 1) (some ⟨w10.heap.size + 1, 0, none⟩) 64 64 (cb (List.replicate 64 0)) := by
              have h9 := (Fresh.new (w10.alloc z64) 5 (cb (List.replicate 64 0)) 64 (by simp) (by decide)).below (below_drewN' (Below.refl _ _) 1)
              have e9 : (w10.alloc z64).heap.size = w10.heap.size + 1 := by simp
              rw [e9] at h9
              exact h9.lower (by omega)
            have hxb : Below w10.heap.size w10 (((w10.alloc z64).alloc z64).drewN 1) := below_drewN' (((Below.refl w10.heap.size w10).alloc (Nat.le_refl _) _).alloc (by simp) _) 1
            obtain ⟨wb, hwb⟩ : ∃ wb, ((w10.alloc z64).alloc z64).drew = wb := ⟨_, rfl⟩
            have hwb2 : ((w10.alloc z64).alloc z64).drewN 1 = wb := hwb
            obtain ⟨nb, hnb⟩ : ∃ nb, w10.heap.size = nb := ⟨_, rfl⟩
            rw [hwb2] at hP0 hQ0 hxb
            rw [hwb]
            rw [hnb] at hP0 hQ0 ⊢
            obtain ⟨go, hga⟩ : ∃ go, go = nb := ⟨_, rfl⟩
            obtain ⟨gi, hgb⟩ : ∃ gi, nb + 1 = gi := ⟨_, rfl⟩
            have hP1 : Fresh nb 5 wb (some ⟨go, 0, none⟩) 64 64 (cb (List.replicate 64 0)) := by rw [hga]; exact hP0
            have hQ1 : Fresh nb 5 wb (some ⟨gi, 0, none⟩) 64 64 (cb (List.replicate 64 0)) := by rw [← hgb]; exact hQ0
            rw [hgb, ← hga]
            clear hP0 hQ0
            have hI0 := hQ1
            have hO0 := hP1
            have hgi1 : nb ≤ gi := by omega
            have hgo1 : nb ≤ go := by omega
            have hio : gi ≠ go := by omega
            clear hP1 hQ1 hga hgb
            have hA10 : Sees w10 w10.heap.size A (cb key) := hK4.step (hx49.trans (hx10.mono hx49.size))
            have hAb := hA10.step hxb
            go_wp2_with (first
              | ((with_reducible refine wpList_copy8_at (o := ⟨some 52, _, _, _, _, _⟩) rfl (.tmp 50) (.tmp 51) rfl A n c gi 64 _ rfl rfl (List.replicate 64 0) key hI0 HNK.out hn64 hAb ?_); intro w11 hI1 hg11; have hO1 : Fresh nb 5 w11 (some ⟨go, 0, none⟩) 64 64 (cb (List.replicate 64 0)) := World.ownsRow.kept hO0 hg11 (.inr (by simp [Value.ownBlock]; omega)); have hx11 : Below w10.heap.size w10 w11 := hxb.grown hg11 hxb.size (fun k hk => by simp at hk; omega); have hA11 := hA10.step hx11)
              | (with_reducible refine wpList_copy8_at (o := ⟨some 55, _, _, _, _, _⟩) rfl (.tmp 53) (.tmp 54) rfl A n c go 64 _ rfl rfl (List.replicate 64 0) key hO1 HNK.out hn64 hA11 ?_; intro w12 hO2 hg12))
            have hI2 : Fresh nb 5 w12 (some ⟨gi, 0, none⟩) 64 64 (cb (splice (List.replicate 64 0) 0 key)) := World.ownsRow.kept hI1 hg12 (.inr (by simp [Value.ownBlock]; omega))
            have hx12 : Below w10.heap.size w10 w12 := hx11.grown hg12 hx11.size (fun k hk => by simp at hk; omega)
            have hkf := keyF_short first keys key (by rw [HNK.out]; exact hn64)
            obtain ⟨kb, hkb⟩ : ∃ kb, splice (List.replicate 64 0) 0 key = kb := ⟨_, rfl⟩
            rw [hkb] at hI2 hO2 hkf
            have HKB := Lib.hid hkf
            have hkl : kb.length = 64 := by simpa using hI2.len
            clear hI0 hO0 hI1 hO1 hxb hx11 hg11 hg12 hAb hA11 hkf hkb
            go_loopw [58] (fun jv wv => ∃ (j : Nat) (xs ys : List UInt8), j ≤ 64 ∧ jv = .int .i64 (j : Int) ∧ Fresh nb 5 wv (some ⟨gi, 0, none⟩) 64 64 (cb xs) ∧ Fresh nb 5 wv (some ⟨go, 0, none⟩) 64 64 (cb ys) ∧ Hid (xs = turnF (kb.take j) 54 ++ kb.drop j ∧ ys = turnF (kb.take j) 92 ++ kb.drop j) ∧ Below w10.heap.size w10 wv) (fun jv _ => 64 - (intOf jv).toNat)
            case atStart => exact ⟨0, kb, kb, by omega, rfl, hI2, hO2, Lib.hid ⟨by simp [turnF], by simp [turnF]⟩, hx12⟩
            case round =>
              obtain ⟨j, xs, ys, hj, rfl, hI, hO, HXY, hx⟩ := hrel
              clear hI2 hO2 hx12
              have hxl : xs.length = 64 := by simpa using hI.len
              have hyl : ys.length = 64 := by simpa using hO.len
              by_cases hlt : j < 64
              · as_aux_lemma =>
                  obtain ⟨g1, o1, e1, -, y, HY, hy, hcy⟩ := hI.sees.byte hxl hlt
                  obtain ⟨rfl, rfl⟩ : gi = g1 ∧ 0 = o1 := by simpa using e1
                  obtain ⟨g2, o2, e2, -, z, HZ, hz, hcz⟩ := hO.sees.byte hyl hlt
                  obtain ⟨rfl, rfl⟩ : go = g2 ∧ 0 = o2 := by simpa using e2
                  have hkj : kb[j]? = some y := by rw [← turn_at kb 54 j, ← HXY.out.1]; exact HY.out
                  have hkz : kb[j]? = some z := by rw [← turn_at kb 92 j, ← HXY.out.2]; exact HZ.out
                  rw [Nat.zero_add] at hcy hcz
                  have hzy : wr.frozen? ⟨gi, j, none⟩ = false := World.ownsRow.frozenAt hI j
                  have hxor1 : bits .xor .u8 (y.toNat : Int) 54 = ((y.toNat ^^^ 54 : Nat) : Int) := u8_xor_nat _ 54 y.toNat_lt (by decide)
                  have hxor2 : bits .xor .u8 (z.toNat : Int) 92 = ((z.toNat ^^^ 92 : Nat) : Int) := u8_xor_nat _ 92 z.toNat_lt (by decide)
                  have h9 := World.ownsRow.stored hI j (.int .u8 ((y.toNat ^^^ 54 : Nat) : Int))
                  have e9 : (cb xs).set j (.int .u8 ((y.toNat ^^^ 54 : Nat) : Int)) = cb (xs.set j (y ^^^ 54)) := by simp [cb, List.map_set, UInt8.toNat_xor]
                  rw [e9] at h9
                  have hO' : Fresh nb 5 (wr.setCell ⟨gi, j, none⟩ (.int .u8 ((y.toNat ^^^ 54 : Nat) : Int))) (some ⟨go, 0, none⟩) 64 64 (cb ys) := World.ownsRow.kept hO h9.2 (.inr (by simp [Value.ownBlock]; omega))
                  have hcz' : (wr.setCell ⟨gi, j, none⟩ (.int .u8 ((y.toNat ^^^ 54 : Nat) : Int))).cell? ⟨go, j, none⟩ = some (.int .u8 (z.toNat : Int)) := by
                    obtain ⟨g3, o3, e3, -, hc3⟩ := hO'.sees (by simp [hyl])
                    obtain ⟨rfl, rfl⟩ : go = g3 ∧ 0 = o3 := by simpa using e3
                    have := hc3 j (.int .u8 (z.toNat : Int)) (by simp [cb, HZ.out])
                    rwa [Nat.zero_add] at this
                  have hzz' : (wr.setCell ⟨gi, j, none⟩ (.int .u8 ((y.toNat ^^^ 54 : Nat) : Int))).frozen? ⟨go, j, none⟩ = false := World.ownsRow.frozenAt hO' j
                  have k9 := World.ownsRow.stored hO' j (.int .u8 ((z.toNat ^^^ 92 : Nat) : Int))
                  have f9 : (cb ys).set j (.int .u8 ((z.toNat ^^^ 92 : Nat) : Int)) = cb (ys.set j (z ^^^ 92)) := by simp [cb, List.map_set, UInt8.toNat_xor]
                  rw [f9] at k9
                  have hI9 := World.ownsRow.kept h9.1 k9.2 (.inr (by simp [Value.ownBlock]; omega))
                  have hx9 := (hx.grown h9.2 hx.size (fun k hk => by simp at hk; omega))
                  have hx99 := (hx9.grown k9.2 hx9.size (fun k hk => by simp at hk; omega))
                  have HN2 : Hid (xs.set j (y ^^^ 54) = turnF (kb.take (j + 1)) 54 ++ kb.drop (j + 1) ∧ ys.set j (z ^^^ 92) = turnF (kb.take (j + 1)) 92 ++ kb.drop (j + 1)) := Lib.hid ⟨by rw [HXY.out.1]; exact turn_set kb 54 y j hkj, by rw [HXY.out.2]; exact turn_set kb 92 z j hkz⟩
                  go_wp2_with fail
                  go_roundw
                  case rel => exact ⟨j + 1, _, _, by omega, by go_num, hI9, k9.1, HN2, hx99⟩
                  case measure => simp [intOf]; omega
              · obtain rfl : j = 64 := by omega
                have hxs : xs = turnF kb 54 := by rw [HXY.out.1, List.take_of_length_le (by omega), List.drop_eq_nil_of_le (by omega), List.append_nil]
                have hys : ys = turnF kb 92 := by rw [HXY.out.2, List.take_of_length_le (by omega), List.drop_eq_nil_of_le (by omega), List.append_nil]
                subst hxs hys
                have hT10 := hT9.step hx10
                have hBw : Sees wr wr.heap.size B (cb b) := (hB9.step hx10).step hx
                obtain ⟨D1, hD1⟩ : ∃ D1, ofF first keys (turnF kb 54 ++ b) = D1 := ⟨_, rfl⟩
                have HD1 := Lib.hid hD1
                have HL1 : Hid (D1.length = 32) := Lib.hid (by rw [← hD1]; exact len_ofF _ _ _ HH8.out)
                have HMA : Hid (ofF first keys (turnF kb 92 ++ D1) = MW) := Lib.hid (by rw [← HMK.out, ← hD1, ← HKB.out]; rfl)
                have hzr := hx.size
                have hgl : nb ≤ wr.heap.size := by omega
                have hl64 : (turnF kb 54 ++ b).length = 64 + m := by rw [List.length_append, turnF_len, hkl, HM.out]
                have HL64 := Lib.hid hl64
                clear hD1 hl64
                go_upto_region 20 with (first
                  | ((with_reducible refine wpList_app8_at (o := ⟨some 76, _, _, _, _, _⟩) rfl (.tmp 74) (.tmp 75) rfl (some ⟨gi, 0, none⟩) B 64 64 m d nb (turnF kb 54) b rfl rfl hI hBw HM.out (by omega) hgl ?_); intro A13 c13 w13 hF13 hg13; have hO13 : Fresh nb 5 w13 (some ⟨go, 0, none⟩) 64 64 (cb (turnF kb 92)) := World.ownsRow.kept hO hg13 (.inr (by simp [Value.ownBlock]; omega)); have hx13 : Below w10.heap.size w10 w13 := hx.grown hg13 hx.size (fun k hk => by simp [Value.ownBlock] at hk; omega); have hT13 := hT10.step hx13)
                  | (go_at_call 23; refine (Of_any gt 0 first keys A13 (64 + m) c13 (turnF kb 54 ++ b) _ hT13 hF13.sees HL64.out hF13.cap.1 (by omega)).mono ?_; rintro e w14 ⟨rfl, hx14⟩; rw [HD1.out]; have hx014 := hx13.trans (hx14.mono hx13.size); have hO14 := hO13.below hx14)
                  | ((with_reducible refine wpList_alloc (o := ⟨some 15, _, _, _, _, _⟩) rfl 32 rfl (cb (List.replicate 32 0)) (by kernel_rfl) 32 (by simp) (by decide) ?_); intro g15 w15 hg15 hF15 hx15; have hx015 := hx014.trans (hx15.mono hx014.size); have hO15 := hO14.below hx15; have hz14 := hx014.size; have hgo14 := hO14.lt_size)
                  | ((with_reducible refine wpList_store rfl rfl (.tmp 15) (.tmp 77) 32 rfl g15 0 _ 32 32 (cb (List.replicate 32 0)) (cb D1) rfl rfl 32 (by rw [List.length_map]; exact HL1.out) (by kernel_rfl) hF15 (by omega) (cb_one _) w10 hx015 (by omega) ?_); intro w16 hF16 hx16 ho16 hz16))
                rw [splice_whole _ _ 32 (by simp) HL1.out] at hF16
                have hO16 : Fresh nb 5 w16 (some ⟨go, 0, none⟩) 64 64 (cb (turnF kb 92)) := hO15.other (by omega) ho16
                have hT16 := hT10.step hx16
                have hF96 := hF10.below hx16
                have hl92 : (turnF kb 92).length = 64 := by rw [turnF_len, hkl]
                refine region_all_tail 5 (lsFacts go g15 (turnF kb 92 ++ D1) (cb MW)) (by kernel_rfl) (by kernel_rfl) (by kernel_rfl) (lsFacts_stab _ _ _ _) ?_ ?_
                · intro w0 hb0
                  simp only [List.take_succ_cons, List.take_zero]
                  refine ⟨?_, ?_, ?_, ?_, ?_, trivial⟩
                  all_goals intro listed a1 w' hk hd
                  all_goals have hb5 := Below.then_ hb0 hk.below
                  · have f2 := hk.ev_old 13 (by kernel_rfl)
                    exact stepOk_value rfl (v := .slice (some ⟨go, 0, none⟩) 64 64) (by simp [execOp]; exact f2) rfl
                  · have f2 : a1.eval (.tmp 15) = .pointer (some ⟨g15, 0, none⟩) := hk.ev_old 15 (by kernel_rfl)
                    have g2_ : a1.tmps[15]?.getD undef = .pointer (some ⟨g15, 0, none⟩) := by simpa [Act.eval] using f2
                    exact stepOk_value rfl (v := .slice (some ⟨g15, 0, none⟩) 32 32) (by go_simp) rfl
                  · obtain ⟨v, e0, _, rfl⟩ := hk.ev_new hd 0 78 (by kernel_rfl) rfl
                    obtain ⟨v, e1, _, rfl⟩ := hk.ev_new hd 1 79 (by kernel_rfl) rfl
                    obtain ⟨A', c', w5, hr, hc5, hs5, hx5⟩ := app_full8 w' 27 go g15 64 32 (turnF kb 92) D1 (hO16.below hb5).sees hl92 (hF16.below hb5).sees HL1.out (by omega) (by omega) (by omega)
                    refine stepOk_run rfl (v := .slice A' (64 + 32) c') (w' := w5) ?_ ⟨A', c', rfl, hc5, hs5⟩ hx5
                    unfold execOp
                    simp only [resolve, invoke, builtin, Sem.run_bind, Sem.run_pure, Result.andThen_ok, List.map_toArray, List.map_cons, List.map_nil, e0, e1, hr]
                  · obtain ⟨v, e0, _, A', c', rfl, hc', hs'⟩ := hk.ev_new hd 2 80 (by kernel_rfl) rfl
                    have f4 : a1.eval (.tmp 4) = .pointer (some ⟨gt, 0, none⟩) := hk.ev_old 4 (by kernel_rfl)
                    have g4_ : a1.tmps[4]?.getD undef = .pointer (some ⟨gt, 0, none⟩) := by simpa [Act.eval] using f4
                    refine stepOk_enter rfl (f := 23) (args := #[.pointer (some ⟨gt, 0, none⟩), .slice A' 96 c']) (by go_simp) ?_
                    refine (Of_any gt 0 first keys A' 96 c' (turnF kb 92 ++ D1) w' (hT16.step hb5) hs' (by rw [List.length_append, hl92, HL1.out]) hc' (by omega)).mono ?_
                    rintro e w5 ⟨rfl, hx5⟩
                    rw [HMA.out]
                    exact ⟨_, rfl, rfl, hx5⟩
                  · have f9 := hk.ev_old 9 (by kernel_rfl)
                    exact stepOk_value rfl (v := .agg (cb MW).toArray) (run_load_agg (.tmp 9) 32 rfl f9 (cb MW) 32 (by rw [List.length_map]; exact HLM.out) (by kernel_rfl) (hF96.below hb5).sees) rfl
                intro a1 w17 hx17 hp
                obtain ⟨v0, p0, v1, p1, v2, p2, v3, p3, v4, p4, rfl⟩ := hp
                obtain rfl := p3
                obtain rfl := p4
                simp only [List.drop_succ_cons, List.drop_zero, Act.put, List.setIfInBounds_toArray, List.set_cons_succ, List.set_cons_zero]
                refine wpList_val rfl (v := .bool (MW == MW)) (run_eq32b (.tmp 81) (.tmp 82) 32 rfl MW MW rfl rfl HLM.out HLM.out) ?_
                rw [show (MW == MW) = true from by simp]
                have hxf : Below w.heap.size w w17 := Below.then_ (Below.then_ (Below.then_ (Below.then_ hx4 hx49) hx10) hx16) hx17
                go_wp2_with fail
                refine (awake3_any _).mono ?_
                rintro e w18 ⟨rfl, hx18⟩
                go_wp2_with fail
                go_ret
                exact ⟨rfl, Below.then_ hxf hx18⟩
      · have q3 : decide ((64 : Int) < (n : Int)) = true := by simp; omega
        go_enter Try.func4, Try.ntmps4
        go_wp2_with (with_reducible refine wpList_box (o := ⟨some 4, _, _, _, _, _⟩) rfl (.tmp 0) 26 rfl (cw (first ++ keys)) rfl 72 (by rw [List.length_map]; exact HLF.out) (by decide) ?_; intro gt w1 hgt hFt hx1)
        have hT1 : Tab w1 gt 0 first keys := ⟨HH8.out, HH64.out, hFt.sees⟩
        have hA1 := hA.step hx1
        have hB1 := hB.step hx1
        clear hFt hA hB
        obtain ⟨MW, hMW⟩ : ∃ MW, macF first keys key b = MW := ⟨_, rfl⟩
        have HMW := Lib.hid hMW
        have HLM : Hid (MW.length = 32) := Lib.hid (by rw [← hMW]; exact len_ofF _ _ _ HH8.out)
        have hMac := Mac_any gt 0 first keys A B n c m d key b w1 hT1 hA1 HN.out hnc (by omega) hB1 HM.out hmd (by omega)
        rw [hMW] at hMac
        clear hMW
        refine hMac.mono ?_
        rintro e w2 ⟨rfl, hx2⟩
        have hx02 := Below.then_ hx1 hx2
        have hT2 := hT1.step hx2
        have hA2 := hA1.step hx2
        have hB2 := hB1.step hx2
        clear hMac hT1 hA1 hB1 hx1 hx2
        obtain ⟨DK, hDK⟩ : ∃ DK, ofF first keys key = DK := ⟨_, rfl⟩
        have HDK := Lib.hid hDK
        have HNK : Hid (DK.length = 32) := Lib.hid (by rw [← hDK]; exact len_ofF _ _ _ HH8.out)
        have HMK : Hid (macF first keys DK b = MW) := Lib.hid (by rw [← hDK, macF_long _ _ _ _ HH8.out (by rw [HN.out]; omega)]; exact HMW.out)
        clear hDK
        go_upto_block 7 with (first
          | ((with_reducible refine wpList_alloc (o := ⟨some 9, _, _, _, _, _⟩) rfl 32 rfl (cb (List.replicate 32 0)) (by kernel_rfl) 32 (by simp) (by decide) ?_); intro g9 w3 hg9 hF3 hx3)
          | ((with_reducible refine wpList_store rfl rfl (.tmp 9) (.tmp 27) 32 rfl g9 0 _ 32 32 (cb (List.replicate 32 0)) (cb MW) rfl rfl 32 (by rw [List.length_map]; exact HLM.out) (by kernel_rfl) hF3 (by omega) (cb_one _) w2 hx3 (by omega) ?_); intro wa hFa hxa hoa hza; have hTa := hT2.step hxa; have hKa := hA2.step hxa)
          | (go_at_call 23; refine (Of_any gt 0 first keys A n c key _ hTa hKa HN.out hnc (by omega)).mono ?_; rintro e w5 ⟨rfl, hx5⟩; rw [HDK.out])
          | ((with_reducible refine wpList_alloc (o := ⟨some 10, _, _, _, _, _⟩) rfl 32 rfl (cb (List.replicate 32 0)) (by kernel_rfl) 32 (by simp) (by decide) ?_); intro g10 w6 hg10 hF6 hx6)
          | ((with_reducible refine wpList_store rfl rfl (.tmp 10) (.tmp 32) 32 rfl g10 0 _ 32 32 (cb (List.replicate 32 0)) (cb DK) rfl rfl 32 (by rw [List.length_map]; exact HNK.out) (by kernel_rfl) hF6 (by omega) (cb_one _) w5 hx6 (by omega) ?_); intro w4 hF7 hx7 ho7 hz7))
        rw [splice_whole _ _ 32 (by simp) HLM.out] at hFa
        rw [splice_whole _ _ 32 (by simp) HNK.out] at hF7
        have hx54 := Below.then_ hx5 hx7
        have hF4 := hFa.below hx54
        have hx4 : Below w.heap.size w w4 := Below.then_ (Below.then_ hx02 hxa) hx54
        have hT4 := hTa.step hx54
        have hK4 := hF7.sees
        have hB4 := (hB2.step hxa).step hx54
        have hn64 : 32 ≤ 64 := by omega
        clear hT2 hA2 hB2 hxa hx02 hoa hza hTa hKa hFa hF7 hx5 hx7 hx54 ho7 hz7
        obtain ⟨p, hp⟩ : ∃ p, 65 - 32 = p := ⟨_, rfl⟩
        have hp1 : 1 ≤ p := by omega
        obtain ⟨k, hk⟩ : ∃ k, mo % p = k := ⟨_, rfl⟩
        have hkn : 32 + k ≤ 64 := by have := Nat.mod_lt mo (show 0 < p by omega); omega
        have E1 : (65 : Int) - (32 : Int) = (p : Int) := by omega
        have E2 : (mo : Int).tmod (p : Int) = (k : Int) := by rw [← hk]; rfl
        have E3 : (p : Int) ≠ 0 := by omega
        have E4 : ((p : Int) == 0) = false := by simp; omega
        clear hp hk
        refine region_all_tail 8 (lgFacts w4.heap.size (some ⟨g10, 0, none⟩) 32 32 p k mo DK) (by kernel_rfl) (by kernel_rfl) (by kernel_rfl) (lgFacts_stab _ _ _ _ _ _ _ _) ?_ ?_
        · intro w0 hb0
          simp only [List.take_succ_cons, List.take_zero]
          refine ⟨?_, ?_, ?_, ?_, ?_, ?_, ?_, ?_, trivial⟩
          all_goals intro listed a1 w' hk hd
          all_goals have hb5 := Below.then_ hb0 hk.below
          · have f2 := hk.ev_old 1 (by kernel_rfl)
            exact stepOk_value rfl (v := .slice (some ⟨g10, 0, none⟩) 32 32) (by simp [execOp]; exact f2) rfl
          · obtain ⟨v, e0, _, rfl⟩ := hk.ev_new hd 0 34 (by kernel_rfl) rfl
            refine stepOk_enter rfl (f := 14) (args := #[.slice (some ⟨g10, 0, none⟩) 32 32]) (by go_simp) ?_
            refine (CopyBytes_any (some ⟨g10, 0, none⟩) 32 32 DK w' (hK4.step hb5) HNK.out (by omega)).mono ?_
            rintro e w5 ⟨B', cB, rfl, hF5, hx5⟩
            exact ⟨_, rfl, ⟨B', cB, rfl, hF5.lower hb5.size⟩, hx5⟩
          · have f2 := hk.ev_old 3 (by kernel_rfl)
            exact stepOk_value rfl (v := .int .u8 (mo : Int)) (by simp [execOp]; exact f2) rfl
          · obtain ⟨v, e0, _, rfl⟩ := hk.ev_new hd 2 36 (by kernel_rfl) rfl
            have hmo2 : IntKind.i64.wrap (mo : Int) = (mo : Int) := by rw [IntKind.wrap_i64]; omega
            exact stepOk_value rfl (v := .int .i64 (mo : Int)) (by go_simp) rfl
          · have f2 := hk.ev_old 1 (by kernel_rfl)
            exact stepOk_value rfl (v := .slice (some ⟨g10, 0, none⟩) 32 32) (by simp [execOp]; exact f2) rfl
          · obtain ⟨v, e0, _, rfl⟩ := hk.ev_new hd 4 38 (by kernel_rfl) rfl
            exact stepOk_value rfl (v := .int .i64 (32 : Int)) (by go_simp) rfl
          · obtain ⟨v, e0, _, rfl⟩ := hk.ev_new hd 5 39 (by kernel_rfl) rfl
            have hwp : IntKind.i64.wrap (65 - (32 : Int)) = (p : Int) := by rw [IntKind.wrap_i64]; omega
            have hwp2 : IntKind.i64.wrap (p : Int) = (p : Int) := by rw [IntKind.wrap_i64]; omega
            exact stepOk_value rfl (v := .int .i64 (p : Int)) (by go_simp) rfl
          · obtain ⟨v, e0, _, rfl⟩ := hk.ev_new hd 3 37 (by kernel_rfl) rfl
            obtain ⟨v, e1, _, rfl⟩ := hk.ev_new hd 6 40 (by kernel_rfl) rfl
            have hp0 : ¬ p = 0 := by omega
            have hwk : IntKind.i64.wrap (k : Int) = (k : Int) := by rw [IntKind.wrap_i64]; omega
            exact stepOk_value rfl (v := .int .i64 (k : Int)) (by go_simp) rfl
        · intro a1 w' hbw hp
          obtain ⟨v0, p0, v1, p1, v2, p2, v3, p3, v4, p4, v5, p5, v6, p6, v7, p7, rfl⟩ := hp
          obtain ⟨B5, c5, rfl, hF5⟩ := p1
          obtain rfl := p7
          simp only [List.drop_succ_cons, List.drop_zero, Act.put, List.setIfInBounds_toArray, List.set_cons_succ, List.set_cons_zero]
          obtain ⟨A9, c9, w9, hr9, hF9, hx9⟩ := run_zeros8 w4.heap.size 27 B5 32 c5 k DK w' hF5 hbw.size (by omega) (by omega)
          refine Lib.wpList_append_run w' rfl (.tmp 35) (.tmp 41) 27 3 rfl (.slice B5 32 c5) (.int .i64 (k : Int)) rfl rfl _ _ hr9 ?_
          have hx49 := hbw.trans hx9
          go_wp2_with fail
          have hT9 := hT4.step hx49
          have hB9 := hB4.step hx49
          have hF49 := hF4.below hx49
          clear hF5 hr9 hx9 hbw
          refine region_all_tail 4 (mqFacts A9 (32 + k) c9 B m d (cb MW)) (by kernel_rfl) (by kernel_rfl) (by kernel_rfl) (mqFacts_stab _ _ _ _ _ _ _) ?_ ?_
          · intro w0 hb0
            simp only [List.take_succ_cons, List.take_zero]
            refine ⟨?_, ?_, ?_, ?_, trivial⟩
            all_goals intro listed a1 w' hk hd
            all_goals have hb5 := Below.then_ hb0 hk.below
            · have f2 := hk.ev_old 11 (by kernel_rfl)
              exact stepOk_value rfl (v := .slice A9 (32 + k) c9) (by simp [execOp]; exact f2) rfl
            · have f2 := hk.ev_old 2 (by kernel_rfl)
              exact stepOk_value rfl (v := .slice B m d) (by simp [execOp]; exact f2) rfl
            · obtain ⟨v, e0, _, rfl⟩ := hk.ev_new hd 0 43 (by kernel_rfl) rfl
              obtain ⟨v, e1, _, rfl⟩ := hk.ev_new hd 1 44 (by kernel_rfl) rfl
              have f4 : a1.eval (.tmp 4) = .pointer (some ⟨gt, 0, none⟩) := hk.ev_old 4 (by kernel_rfl)
              have hMac2 := Mac_any gt 0 first keys A9 B (32 + k) c9 m d (DK ++ List.replicate k 0) b w' (hT9.step hb5) (hF9.below hb5).sees (by rw [List.length_append, HNK.out, List.length_replicate]) hF9.cap.1 (by omega) (hB9.step hb5) HM.out hmd (by omega)
              rw [macF_zeros _ _ _ _ _ (by rw [HNK.out]; exact hkn), HMK.out] at hMac2
              have g4_ : a1.tmps[4]?.getD undef = .pointer (some ⟨gt, 0, none⟩) := by simpa [Act.eval] using f4
              refine stepOk_enter rfl (f := 15) (args := #[.pointer (some ⟨gt, 0, none⟩), .slice A9 (32 + k) c9, .slice B m d]) (by go_simp) ?_
              refine hMac2.mono ?_
              rintro e w5 ⟨rfl, hx5⟩
              exact ⟨_, rfl, rfl, hx5⟩
            · have f9 := hk.ev_old 9 (by kernel_rfl)
              exact stepOk_value rfl (v := .agg (cb MW).toArray) (run_load_agg (.tmp 9) 32 rfl f9 (cb MW) 32 (by rw [List.length_map]; exact HLM.out) (by kernel_rfl) (hF49.below hb5).sees) rfl
          intro a1 w10 hx10 hp
          obtain ⟨v0, p0, v1, p1, v2, p2, v3, p3, rfl⟩ := hp
          obtain rfl := p2
          obtain rfl := p3
          have hF10 := hF49.below hx10
          simp only [List.drop_succ_cons, List.drop_zero, Act.put, List.setIfInBounds_toArray, List.set_cons_succ, List.set_cons_zero]
          refine wpList_val rfl (v := .bool false) (run_neq_of (.tmp 45) (.tmp 46) 32 32 rfl (by kernel_rfl) _ _ rfl rfl (neq_digest MW HLM.out w10)) ?_
          have hmk := fun w => run_mk64 w
          go_wp2_with fail
          go_region
          · have hP0 : Fresh w10.heap.size 5 (((w10.alloc z64).alloc z64).drewN 1) (some ⟨w10.heap.size, 0, none⟩) 64 64 (cb (List.replicate 64 0)) := ((Fresh.new w10 5 (cb (List.replicate 64 0)) 64 (by simp) (by decide)).below (below_alloc _ _)).below (below_drewN' (Below.refl _ _) 1)
            have hQ0 : Fresh w10.heap.size 5 (((w10.alloc z64).alloc z64).drewN 1) (some ⟨w10.heap.size + 1, 0, none⟩) 64 64 (cb (List.replicate 64 0)) := by
              have h9 := (Fresh.new (w10.alloc z64) 5 (cb (List.replicate 64 0)) 64 (by simp) (by decide)).below (below_drewN' (Below.refl _ _) 1)
              have e9 : (w10.alloc z64).heap.size = w10.heap.size + 1 := by simp
              rw [e9] at h9
              exact h9.lower (by omega)
            have hxb : Below w10.heap.size w10 (((w10.alloc z64).alloc z64).drewN 1) := below_drewN' (((Below.refl w10.heap.size w10).alloc (Nat.le_refl _) _).alloc (by simp) _) 1
            obtain ⟨wb, hwb⟩ : ∃ wb, ((w10.alloc z64).alloc z64).drew = wb := ⟨_, rfl⟩
            have hwb2 : ((w10.alloc z64).alloc z64).drewN 1 = wb := hwb
            obtain ⟨nb, hnb⟩ : ∃ nb, w10.heap.size = nb := ⟨_, rfl⟩
            rw [hwb2] at hP0 hQ0 hxb
            rw [hwb]
            rw [hnb] at hP0 hQ0 ⊢
            obtain ⟨gi, hga⟩ : ∃ gi, gi = nb := ⟨_, rfl⟩
            obtain ⟨go, hgb⟩ : ∃ go, nb + 1 = go := ⟨_, rfl⟩
            have hP1 : Fresh nb 5 wb (some ⟨gi, 0, none⟩) 64 64 (cb (List.replicate 64 0)) := by rw [hga]; exact hP0
            have hQ1 : Fresh nb 5 wb (some ⟨go, 0, none⟩) 64 64 (cb (List.replicate 64 0)) := by rw [← hgb]; exact hQ0
            rw [hgb, ← hga]
            clear hP0 hQ0
            have hI0 := hP1
            have hO0 := hQ1
            have hgi1 : nb ≤ gi := by omega
            have hgo1 : nb ≤ go := by omega
            have hio : gi ≠ go := by omega
            clear hP1 hQ1 hga hgb
            have hA10 : Sees w10 w10.heap.size (some ⟨g10, 0, none⟩) (cb DK) := hK4.step (hx49.trans (hx10.mono hx49.size))
            have hAb := hA10.step hxb
            go_wp2_with (first
              | ((with_reducible refine wpList_copy8_at (o := ⟨some 52, _, _, _, _, _⟩) rfl (.tmp 50) (.tmp 51) rfl (some ⟨g10, 0, none⟩) 32 32 gi 64 _ rfl rfl (List.replicate 64 0) DK hI0 HNK.out hn64 hAb ?_); intro w11 hI1 hg11; have hO1 : Fresh nb 5 w11 (some ⟨go, 0, none⟩) 64 64 (cb (List.replicate 64 0)) := World.ownsRow.kept hO0 hg11 (.inr (by simp [Value.ownBlock]; omega)); have hx11 : Below w10.heap.size w10 w11 := hxb.grown hg11 hxb.size (fun k hk => by simp at hk; omega); have hA11 := hA10.step hx11)
              | (with_reducible refine wpList_copy8_at (o := ⟨some 55, _, _, _, _, _⟩) rfl (.tmp 53) (.tmp 54) rfl (some ⟨g10, 0, none⟩) 32 32 go 64 _ rfl rfl (List.replicate 64 0) DK hO1 HNK.out hn64 hA11 ?_; intro w12 hO2 hg12))
            have hI2 : Fresh nb 5 w12 (some ⟨gi, 0, none⟩) 64 64 (cb (splice (List.replicate 64 0) 0 DK)) := World.ownsRow.kept hI1 hg12 (.inr (by simp [Value.ownBlock]; omega))
            have hx12 : Below w10.heap.size w10 w12 := hx11.grown hg12 hx11.size (fun k hk => by simp at hk; omega)
            have hkf := keyF_short first keys DK (by rw [HNK.out]; exact hn64)
            obtain ⟨kb, hkb⟩ : ∃ kb, splice (List.replicate 64 0) 0 DK = kb := ⟨_, rfl⟩
            rw [hkb] at hI2 hO2 hkf
            have HKB := Lib.hid hkf
            have hkl : kb.length = 64 := by simpa using hI2.len
            clear hI0 hO0 hI1 hO1 hxb hx11 hg11 hg12 hAb hA11 hkf hkb
            go_loopw [58] (fun jv wv => ∃ (j : Nat) (xs ys : List UInt8), j ≤ 64 ∧ jv = .int .i64 (j : Int) ∧ Fresh nb 5 wv (some ⟨gi, 0, none⟩) 64 64 (cb xs) ∧ Fresh nb 5 wv (some ⟨go, 0, none⟩) 64 64 (cb ys) ∧ Hid (xs = turnF (kb.take j) 54 ++ kb.drop j ∧ ys = turnF (kb.take j) 92 ++ kb.drop j) ∧ Below w10.heap.size w10 wv) (fun jv _ => 64 - (intOf jv).toNat)
            case atStart => exact ⟨0, kb, kb, by omega, rfl, hI2, hO2, Lib.hid ⟨by simp [turnF], by simp [turnF]⟩, hx12⟩
            case round =>
              obtain ⟨j, xs, ys, hj, rfl, hI, hO, HXY, hx⟩ := hrel
              clear hI2 hO2 hx12
              have hxl : xs.length = 64 := by simpa using hI.len
              have hyl : ys.length = 64 := by simpa using hO.len
              by_cases hlt : j < 64
              · as_aux_lemma =>
                  obtain ⟨g1, o1, e1, -, y, HY, hy, hcy⟩ := hI.sees.byte hxl hlt
                  obtain ⟨rfl, rfl⟩ : gi = g1 ∧ 0 = o1 := by simpa using e1
                  obtain ⟨g2, o2, e2, -, z, HZ, hz, hcz⟩ := hO.sees.byte hyl hlt
                  obtain ⟨rfl, rfl⟩ : go = g2 ∧ 0 = o2 := by simpa using e2
                  have hkj : kb[j]? = some y := by rw [← turn_at kb 54 j, ← HXY.out.1]; exact HY.out
                  have hkz : kb[j]? = some z := by rw [← turn_at kb 92 j, ← HXY.out.2]; exact HZ.out
                  rw [Nat.zero_add] at hcy hcz
                  have hzy : wr.frozen? ⟨gi, j, none⟩ = false := World.ownsRow.frozenAt hI j
                  have hxor1 : bits .xor .u8 (y.toNat : Int) 54 = ((y.toNat ^^^ 54 : Nat) : Int) := u8_xor_nat _ 54 y.toNat_lt (by decide)
                  have hxor2 : bits .xor .u8 (z.toNat : Int) 92 = ((z.toNat ^^^ 92 : Nat) : Int) := u8_xor_nat _ 92 z.toNat_lt (by decide)
                  have h9 := World.ownsRow.stored hI j (.int .u8 ((y.toNat ^^^ 54 : Nat) : Int))
                  have e9 : (cb xs).set j (.int .u8 ((y.toNat ^^^ 54 : Nat) : Int)) = cb (xs.set j (y ^^^ 54)) := by simp [cb, List.map_set, UInt8.toNat_xor]
                  rw [e9] at h9
                  have hO' : Fresh nb 5 (wr.setCell ⟨gi, j, none⟩ (.int .u8 ((y.toNat ^^^ 54 : Nat) : Int))) (some ⟨go, 0, none⟩) 64 64 (cb ys) := World.ownsRow.kept hO h9.2 (.inr (by simp [Value.ownBlock]; omega))
                  have hcz' : (wr.setCell ⟨gi, j, none⟩ (.int .u8 ((y.toNat ^^^ 54 : Nat) : Int))).cell? ⟨go, j, none⟩ = some (.int .u8 (z.toNat : Int)) := by
                    obtain ⟨g3, o3, e3, -, hc3⟩ := hO'.sees (by simp [hyl])
                    obtain ⟨rfl, rfl⟩ : go = g3 ∧ 0 = o3 := by simpa using e3
                    have := hc3 j (.int .u8 (z.toNat : Int)) (by simp [cb, HZ.out])
                    rwa [Nat.zero_add] at this
                  have hzz' : (wr.setCell ⟨gi, j, none⟩ (.int .u8 ((y.toNat ^^^ 54 : Nat) : Int))).frozen? ⟨go, j, none⟩ = false := World.ownsRow.frozenAt hO' j
                  have k9 := World.ownsRow.stored hO' j (.int .u8 ((z.toNat ^^^ 92 : Nat) : Int))
                  have f9 : (cb ys).set j (.int .u8 ((z.toNat ^^^ 92 : Nat) : Int)) = cb (ys.set j (z ^^^ 92)) := by simp [cb, List.map_set, UInt8.toNat_xor]
                  rw [f9] at k9
                  have hI9 := World.ownsRow.kept h9.1 k9.2 (.inr (by simp [Value.ownBlock]; omega))
                  have hx9 := (hx.grown h9.2 hx.size (fun k hk => by simp at hk; omega))
                  have hx99 := (hx9.grown k9.2 hx9.size (fun k hk => by simp at hk; omega))
                  have HN2 : Hid (xs.set j (y ^^^ 54) = turnF (kb.take (j + 1)) 54 ++ kb.drop (j + 1) ∧ ys.set j (z ^^^ 92) = turnF (kb.take (j + 1)) 92 ++ kb.drop (j + 1)) := Lib.hid ⟨by rw [HXY.out.1]; exact turn_set kb 54 y j hkj, by rw [HXY.out.2]; exact turn_set kb 92 z j hkz⟩
                  go_wp2_with fail
                  go_roundw
                  case rel => exact ⟨j + 1, _, _, by omega, by go_num, hI9, k9.1, HN2, hx99⟩
                  case measure => simp [intOf]; omega
              · obtain rfl : j = 64 := by omega
                have hxs : xs = turnF kb 54 := by rw [HXY.out.1, List.take_of_length_le (by omega), List.drop_eq_nil_of_le (by omega), List.append_nil]
                have hys : ys = turnF kb 92 := by rw [HXY.out.2, List.take_of_length_le (by omega), List.drop_eq_nil_of_le (by omega), List.append_nil]
                subst hxs hys
                have hT10 := hT9.step hx10
                have hBw : Sees wr wr.heap.size B (cb b) := (hB9.step hx10).step hx
                obtain ⟨D1, hD1⟩ : ∃ D1, ofF first keys (turnF kb 54 ++ b) = D1 := ⟨_, rfl⟩
                have HD1 := Lib.hid hD1
                have HL1 : Hid (D1.length = 32) := Lib.hid (by rw [← hD1]; exact len_ofF _ _ _ HH8.out)
                have HMA : Hid (ofF first keys (turnF kb 92 ++ D1) = MW) := Lib.hid (by rw [← HMK.out, ← hD1, ← HKB.out]; rfl)
                have hzr := hx.size
                have hgl : nb ≤ wr.heap.size := by omega
                have hl64 : (turnF kb 54 ++ b).length = 64 + m := by rw [List.length_append, turnF_len, hkl, HM.out]
                have HL64 := Lib.hid hl64
                clear hD1 hl64
                go_upto_region 20 with (first
                  | ((with_reducible refine wpList_app8_at (o := ⟨some 76, _, _, _, _, _⟩) rfl (.tmp 74) (.tmp 75) rfl (some ⟨gi, 0, none⟩) B 64 64 m d nb (turnF kb 54) b rfl rfl hI hBw HM.out (by omega) hgl ?_); intro A13 c13 w13 hF13 hg13; have hO13 : Fresh nb 5 w13 (some ⟨go, 0, none⟩) 64 64 (cb (turnF kb 92)) := World.ownsRow.kept hO hg13 (.inr (by simp [Value.ownBlock]; omega)); have hx13 : Below w10.heap.size w10 w13 := hx.grown hg13 hx.size (fun k hk => by simp [Value.ownBlock] at hk; omega); have hT13 := hT10.step hx13)
                  | (go_at_call 23; refine (Of_any gt 0 first keys A13 (64 + m) c13 (turnF kb 54 ++ b) _ hT13 hF13.sees HL64.out hF13.cap.1 (by omega)).mono ?_; rintro e w14 ⟨rfl, hx14⟩; rw [HD1.out]; have hx014 := hx13.trans (hx14.mono hx13.size); have hO14 := hO13.below hx14)
                  | ((with_reducible refine wpList_alloc (o := ⟨some 15, _, _, _, _, _⟩) rfl 32 rfl (cb (List.replicate 32 0)) (by kernel_rfl) 32 (by simp) (by decide) ?_); intro g15 w15 hg15 hF15 hx15; have hx015 := hx014.trans (hx15.mono hx014.size); have hO15 := hO14.below hx15; have hz14 := hx014.size; have hgo14 := hO14.lt_size)
                  | ((with_reducible refine wpList_store rfl rfl (.tmp 15) (.tmp 77) 32 rfl g15 0 _ 32 32 (cb (List.replicate 32 0)) (cb D1) rfl rfl 32 (by rw [List.length_map]; exact HL1.out) (by kernel_rfl) hF15 (by omega) (cb_one _) w10 hx015 (by omega) ?_); intro w16 hF16 hx16 ho16 hz16))
                rw [splice_whole _ _ 32 (by simp) HL1.out] at hF16
                have hO16 : Fresh nb 5 w16 (some ⟨go, 0, none⟩) 64 64 (cb (turnF kb 92)) := hO15.other (by omega) ho16
                have hT16 := hT10.step hx16
                have hF96 := hF10.below hx16
                have hl92 : (turnF kb 92).length = 64 := by rw [turnF_len, hkl]
                refine region_all_tail 5 (lsFacts go g15 (turnF kb 92 ++ D1) (cb MW)) (by kernel_rfl) (by kernel_rfl) (by kernel_rfl) (lsFacts_stab _ _ _ _) ?_ ?_
                · intro w0 hb0
                  simp only [List.take_succ_cons, List.take_zero]
                  refine ⟨?_, ?_, ?_, ?_, ?_, trivial⟩
                  all_goals intro listed a1 w' hk hd
                  all_goals have hb5 := Below.then_ hb0 hk.below
                  · have f2 := hk.ev_old 13 (by kernel_rfl)
                    exact stepOk_value rfl (v := .slice (some ⟨go, 0, none⟩) 64 64) (by simp [execOp]; exact f2) rfl
                  · have f2 : a1.eval (.tmp 15) = .pointer (some ⟨g15, 0, none⟩) := hk.ev_old 15 (by kernel_rfl)
                    have g2_ : a1.tmps[15]?.getD undef = .pointer (some ⟨g15, 0, none⟩) := by simpa [Act.eval] using f2
                    exact stepOk_value rfl (v := .slice (some ⟨g15, 0, none⟩) 32 32) (by go_simp) rfl
                  · obtain ⟨v, e0, _, rfl⟩ := hk.ev_new hd 0 78 (by kernel_rfl) rfl
                    obtain ⟨v, e1, _, rfl⟩ := hk.ev_new hd 1 79 (by kernel_rfl) rfl
                    obtain ⟨A', c', w5, hr, hc5, hs5, hx5⟩ := app_full8 w' 27 go g15 64 32 (turnF kb 92) D1 (hO16.below hb5).sees hl92 (hF16.below hb5).sees HL1.out (by omega) (by omega) (by omega)
                    refine stepOk_run rfl (v := .slice A' (64 + 32) c') (w' := w5) ?_ ⟨A', c', rfl, hc5, hs5⟩ hx5
                    unfold execOp
                    simp only [resolve, invoke, builtin, Sem.run_bind, Sem.run_pure, Result.andThen_ok, List.map_toArray, List.map_cons, List.map_nil, e0, e1, hr]
                  · obtain ⟨v, e0, _, A', c', rfl, hc', hs'⟩ := hk.ev_new hd 2 80 (by kernel_rfl) rfl
                    have f4 : a1.eval (.tmp 4) = .pointer (some ⟨gt, 0, none⟩) := hk.ev_old 4 (by kernel_rfl)
                    have g4_ : a1.tmps[4]?.getD undef = .pointer (some ⟨gt, 0, none⟩) := by simpa [Act.eval] using f4
                    refine stepOk_enter rfl (f := 23) (args := #[.pointer (some ⟨gt, 0, none⟩), .slice A' 96 c']) (by go_simp) ?_
                    refine (Of_any gt 0 first keys A' 96 c' (turnF kb 92 ++ D1) w' (hT16.step hb5) hs' (by rw [List.length_append, hl92, HL1.out]) hc' (by omega)).mono ?_
                    rintro e w5 ⟨rfl, hx5⟩
                    rw [HMA.out]
                    exact ⟨_, rfl, rfl, hx5⟩
                  · have f9 := hk.ev_old 9 (by kernel_rfl)
                    exact stepOk_value rfl (v := .agg (cb MW).toArray) (run_load_agg (.tmp 9) 32 rfl f9 (cb MW) 32 (by rw [List.length_map]; exact HLM.out) (by kernel_rfl) (hF96.below hb5).sees) rfl
                intro a1 w17 hx17 hp
                obtain ⟨v0, p0, v1, p1, v2, p2, v3, p3, v4, p4, rfl⟩ := hp
                obtain rfl := p3
                obtain rfl := p4
                simp only [List.drop_succ_cons, List.drop_zero, Act.put, List.setIfInBounds_toArray, List.set_cons_succ, List.set_cons_zero]
                refine wpList_val rfl (v := .bool (MW == MW)) (run_eq32b (.tmp 81) (.tmp 82) 32 rfl MW MW rfl rfl HLM.out HLM.out) ?_
                rw [show (MW == MW) = true from by simp]
                have hxf : Below w.heap.size w w17 := Below.then_ (Below.then_ (Below.then_ (Below.then_ hx4 hx49) hx10) hx16) hx17
                go_wp2_with fail
                refine (awake3_any _).mono ?_
                rintro e w18 ⟨rfl, hx18⟩
                go_wp2_with fail
                go_ret
                exact ⟨rfl, Below.then_ hxf hx18⟩
          · have hP0 : Fresh w10.heap.size 5 (((w10.alloc z64).alloc z64).drewN 1) (some ⟨w10.heap.size, 0, none⟩) 64 64 (cb (List.replicate 64 0)) := ((Fresh.new w10 5 (cb (List.replicate 64 0)) 64 (by simp) (by decide)).below (below_alloc _ _)).below (below_drewN' (Below.refl _ _) 1)
            have hQ0 : Fresh w10.heap.size 5 (((w10.alloc z64).alloc z64).drewN 1) (some ⟨w10.heap.size + 1, 0, none⟩) 64 64 (cb (List.replicate 64 0)) := by
              have h9 := (Fresh.new (w10.alloc z64) 5 (cb (List.replicate 64 0)) 64 (by simp) (by decide)).below (below_drewN' (Below.refl _ _) 1)
              have e9 : (w10.alloc z64).heap.size = w10.heap.size + 1 := by simp
              rw [e9] at h9
              exact h9.lower (by omega)
            have hxb : Below w10.heap.size w10 (((w10.alloc z64).alloc z64).drewN 1) := below_drewN' (((Below.refl w10.heap.size w10).alloc (Nat.le_refl _) _).alloc (by simp) _) 1
            obtain ⟨wb, hwb⟩ : ∃ wb, ((w10.alloc z64).alloc z64).drew = wb := ⟨_, rfl⟩
            have hwb2 : ((w10.alloc z64).alloc z64).drewN 1 = wb := hwb
            obtain ⟨nb, hnb⟩ : ∃ nb, w10.heap.size = nb := ⟨_, rfl⟩
            rw [hwb2] at hP0 hQ0 hxb
            rw [hwb]
            rw [hnb] at hP0 hQ0 ⊢
            obtain ⟨go, hga⟩ : ∃ go, go = nb := ⟨_, rfl⟩
            obtain ⟨gi, hgb⟩ : ∃ gi, nb + 1 = gi := ⟨_, rfl⟩
            have hP1 : Fresh nb 5 wb (some ⟨go, 0, none⟩) 64 64 (cb (List.replicate 64 0)) := by rw [hga]; exact hP0
            have hQ1 : Fresh nb 5 wb (some ⟨gi, 0, none⟩) 64 64 (cb (List.replicate 64 0)) := by rw [← hgb]; exact hQ0
            rw [hgb, ← hga]
            clear hP0 hQ0
            have hI0 := hQ1
            have hO0 := hP1
            have hgi1 : nb ≤ gi := by omega
            have hgo1 : nb ≤ go := by omega
            have hio : gi ≠ go := by omega
            clear hP1 hQ1 hga hgb
            have hA10 : Sees w10 w10.heap.size (some ⟨g10, 0, none⟩) (cb DK) := hK4.step (hx49.trans (hx10.mono hx49.size))
            have hAb := hA10.step hxb
            go_wp2_with (first
              | ((with_reducible refine wpList_copy8_at (o := ⟨some 52, _, _, _, _, _⟩) rfl (.tmp 50) (.tmp 51) rfl (some ⟨g10, 0, none⟩) 32 32 gi 64 _ rfl rfl (List.replicate 64 0) DK hI0 HNK.out hn64 hAb ?_); intro w11 hI1 hg11; have hO1 : Fresh nb 5 w11 (some ⟨go, 0, none⟩) 64 64 (cb (List.replicate 64 0)) := World.ownsRow.kept hO0 hg11 (.inr (by simp [Value.ownBlock]; omega)); have hx11 : Below w10.heap.size w10 w11 := hxb.grown hg11 hxb.size (fun k hk => by simp at hk; omega); have hA11 := hA10.step hx11)
              | (with_reducible refine wpList_copy8_at (o := ⟨some 55, _, _, _, _, _⟩) rfl (.tmp 53) (.tmp 54) rfl (some ⟨g10, 0, none⟩) 32 32 go 64 _ rfl rfl (List.replicate 64 0) DK hO1 HNK.out hn64 hA11 ?_; intro w12 hO2 hg12))
            have hI2 : Fresh nb 5 w12 (some ⟨gi, 0, none⟩) 64 64 (cb (splice (List.replicate 64 0) 0 DK)) := World.ownsRow.kept hI1 hg12 (.inr (by simp [Value.ownBlock]; omega))
            have hx12 : Below w10.heap.size w10 w12 := hx11.grown hg12 hx11.size (fun k hk => by simp at hk; omega)
            have hkf := keyF_short first keys DK (by rw [HNK.out]; exact hn64)
            obtain ⟨kb, hkb⟩ : ∃ kb, splice (List.replicate 64 0) 0 DK = kb := ⟨_, rfl⟩
            rw [hkb] at hI2 hO2 hkf
            have HKB := Lib.hid hkf
            have hkl : kb.length = 64 := by simpa using hI2.len
            clear hI0 hO0 hI1 hO1 hxb hx11 hg11 hg12 hAb hA11 hkf hkb
            go_loopw [58] (fun jv wv => ∃ (j : Nat) (xs ys : List UInt8), j ≤ 64 ∧ jv = .int .i64 (j : Int) ∧ Fresh nb 5 wv (some ⟨gi, 0, none⟩) 64 64 (cb xs) ∧ Fresh nb 5 wv (some ⟨go, 0, none⟩) 64 64 (cb ys) ∧ Hid (xs = turnF (kb.take j) 54 ++ kb.drop j ∧ ys = turnF (kb.take j) 92 ++ kb.drop j) ∧ Below w10.heap.size w10 wv) (fun jv _ => 64 - (intOf jv).toNat)
            case atStart => exact ⟨0, kb, kb, by omega, rfl, hI2, hO2, Lib.hid ⟨by simp [turnF], by simp [turnF]⟩, hx12⟩
            case round =>
              obtain ⟨j, xs, ys, hj, rfl, hI, hO, HXY, hx⟩ := hrel
              clear hI2 hO2 hx12
              have hxl : xs.length = 64 := by simpa using hI.len
              have hyl : ys.length = 64 := by simpa using hO.len
              by_cases hlt : j < 64
              · as_aux_lemma =>
                  obtain ⟨g1, o1, e1, -, y, HY, hy, hcy⟩ := hI.sees.byte hxl hlt
                  obtain ⟨rfl, rfl⟩ : gi = g1 ∧ 0 = o1 := by simpa using e1
                  obtain ⟨g2, o2, e2, -, z, HZ, hz, hcz⟩ := hO.sees.byte hyl hlt
                  obtain ⟨rfl, rfl⟩ : go = g2 ∧ 0 = o2 := by simpa using e2
                  have hkj : kb[j]? = some y := by rw [← turn_at kb 54 j, ← HXY.out.1]; exact HY.out
                  have hkz : kb[j]? = some z := by rw [← turn_at kb 92 j, ← HXY.out.2]; exact HZ.out
                  rw [Nat.zero_add] at hcy hcz
                  have hzy : wr.frozen? ⟨gi, j, none⟩ = false := World.ownsRow.frozenAt hI j
                  have hxor1 : bits .xor .u8 (y.toNat : Int) 54 = ((y.toNat ^^^ 54 : Nat) : Int) := u8_xor_nat _ 54 y.toNat_lt (by decide)
                  have hxor2 : bits .xor .u8 (z.toNat : Int) 92 = ((z.toNat ^^^ 92 : Nat) : Int) := u8_xor_nat _ 92 z.toNat_lt (by decide)
                  have h9 := World.ownsRow.stored hI j (.int .u8 ((y.toNat ^^^ 54 : Nat) : Int))
                  have e9 : (cb xs).set j (.int .u8 ((y.toNat ^^^ 54 : Nat) : Int)) = cb (xs.set j (y ^^^ 54)) := by simp [cb, List.map_set, UInt8.toNat_xor]
                  rw [e9] at h9
                  have hO' : Fresh nb 5 (wr.setCell ⟨gi, j, none⟩ (.int .u8 ((y.toNat ^^^ 54 : Nat) : Int))) (some ⟨go, 0, none⟩) 64 64 (cb ys) := World.ownsRow.kept hO h9.2 (.inr (by simp [Value.ownBlock]; omega))
                  have hcz' : (wr.setCell ⟨gi, j, none⟩ (.int .u8 ((y.toNat ^^^ 54 : Nat) : Int))).cell? ⟨go, j, none⟩ = some (.int .u8 (z.toNat : Int)) := by
                    obtain ⟨g3, o3, e3, -, hc3⟩ := hO'.sees (by simp [hyl])
                    obtain ⟨rfl, rfl⟩ : go = g3 ∧ 0 = o3 := by simpa using e3
                    have := hc3 j (.int .u8 (z.toNat : Int)) (by simp [cb, HZ.out])
                    rwa [Nat.zero_add] at this
                  have hzz' : (wr.setCell ⟨gi, j, none⟩ (.int .u8 ((y.toNat ^^^ 54 : Nat) : Int))).frozen? ⟨go, j, none⟩ = false := World.ownsRow.frozenAt hO' j
                  have k9 := World.ownsRow.stored hO' j (.int .u8 ((z.toNat ^^^ 92 : Nat) : Int))
                  have f9 : (cb ys).set j (.int .u8 ((z.toNat ^^^ 92 : Nat) : Int)) = cb (ys.set j (z ^^^ 92)) := by simp [cb, List.map_set, UInt8.toNat_xor]
                  rw [f9] at k9
                  have hI9 := World.ownsRow.kept h9.1 k9.2 (.inr (by simp [Value.ownBlock]; omega))
                  have hx9 := (hx.grown h9.2 hx.size (fun k hk => by simp at hk; omega))
                  have hx99 := (hx9.grown k9.2 hx9.size (fun k hk => by simp at hk; omega))
                  have HN2 : Hid (xs.set j (y ^^^ 54) = turnF (kb.take (j + 1)) 54 ++ kb.drop (j + 1) ∧ ys.set j (z ^^^ 92) = turnF (kb.take (j + 1)) 92 ++ kb.drop (j + 1)) := Lib.hid ⟨by rw [HXY.out.1]; exact turn_set kb 54 y j hkj, by rw [HXY.out.2]; exact turn_set kb 92 z j hkz⟩
                  go_wp2_with fail
                  go_roundw
                  case rel => exact ⟨j + 1, _, _, by omega, by go_num, hI9, k9.1, HN2, hx99⟩
                  case measure => simp [intOf]; omega
              · obtain rfl : j = 64 := by omega
                have hxs : xs = turnF kb 54 := by rw [HXY.out.1, List.take_of_length_le (by omega), List.drop_eq_nil_of_le (by omega), List.append_nil]
                have hys : ys = turnF kb 92 := by rw [HXY.out.2, List.take_of_length_le (by omega), List.drop_eq_nil_of_le (by omega), List.append_nil]
                subst hxs hys
                have hT10 := hT9.step hx10
                have hBw : Sees wr wr.heap.size B (cb b) := (hB9.step hx10).step hx
                obtain ⟨D1, hD1⟩ : ∃ D1, ofF first keys (turnF kb 54 ++ b) = D1 := ⟨_, rfl⟩
                have HD1 := Lib.hid hD1
                have HL1 : Hid (D1.length = 32) := Lib.hid (by rw [← hD1]; exact len_ofF _ _ _ HH8.out)
                have HMA : Hid (ofF first keys (turnF kb 92 ++ D1) = MW) := Lib.hid (by rw [← HMK.out, ← hD1, ← HKB.out]; rfl)
                have hzr := hx.size
                have hgl : nb ≤ wr.heap.size := by omega
                have hl64 : (turnF kb 54 ++ b).length = 64 + m := by rw [List.length_append, turnF_len, hkl, HM.out]
                have HL64 := Lib.hid hl64
                clear hD1 hl64
                go_upto_region 20 with (first
                  | ((with_reducible refine wpList_app8_at (o := ⟨some 76, _, _, _, _, _⟩) rfl (.tmp 74) (.tmp 75) rfl (some ⟨gi, 0, none⟩) B 64 64 m d nb (turnF kb 54) b rfl rfl hI hBw HM.out (by omega) hgl ?_); intro A13 c13 w13 hF13 hg13; have hO13 : Fresh nb 5 w13 (some ⟨go, 0, none⟩) 64 64 (cb (turnF kb 92)) := World.ownsRow.kept hO hg13 (.inr (by simp [Value.ownBlock]; omega)); have hx13 : Below w10.heap.size w10 w13 := hx.grown hg13 hx.size (fun k hk => by simp [Value.ownBlock] at hk; omega); have hT13 := hT10.step hx13)
                  | (go_at_call 23; refine (Of_any gt 0 first keys A13 (64 + m) c13 (turnF kb 54 ++ b) _ hT13 hF13.sees HL64.out hF13.cap.1 (by omega)).mono ?_; rintro e w14 ⟨rfl, hx14⟩; rw [HD1.out]; have hx014 := hx13.trans (hx14.mono hx13.size); have hO14 := hO13.below hx14)
                  | ((with_reducible refine wpList_alloc (o := ⟨some 15, _, _, _, _, _⟩) rfl 32 rfl (cb (List.replicate 32 0)) (by kernel_rfl) 32 (by simp) (by decide) ?_); intro g15 w15 hg15 hF15 hx15; have hx015 := hx014.trans (hx15.mono hx014.size); have hO15 := hO14.below hx15; have hz14 := hx014.size; have hgo14 := hO14.lt_size)
                  | ((with_reducible refine wpList_store rfl rfl (.tmp 15) (.tmp 77) 32 rfl g15 0 _ 32 32 (cb (List.replicate 32 0)) (cb D1) rfl rfl 32 (by rw [List.length_map]; exact HL1.out) (by kernel_rfl) hF15 (by omega) (cb_one _) w10 hx015 (by omega) ?_); intro w16 hF16 hx16 ho16 hz16))
                rw [splice_whole _ _ 32 (by simp) HL1.out] at hF16
                have hO16 : Fresh nb 5 w16 (some ⟨go, 0, none⟩) 64 64 (cb (turnF kb 92)) := hO15.other (by omega) ho16
                have hT16 := hT10.step hx16
                have hF96 := hF10.below hx16
                have hl92 : (turnF kb 92).length = 64 := by rw [turnF_len, hkl]
                refine region_all_tail 5 (lsFacts go g15 (turnF kb 92 ++ D1) (cb MW)) (by kernel_rfl) (by kernel_rfl) (by kernel_rfl) (lsFacts_stab _ _ _ _) ?_ ?_
                · intro w0 hb0
                  simp only [List.take_succ_cons, List.take_zero]
                  refine ⟨?_, ?_, ?_, ?_, ?_, trivial⟩
                  all_goals intro listed a1 w' hk hd
                  all_goals have hb5 := Below.then_ hb0 hk.below
                  · have f2 := hk.ev_old 13 (by kernel_rfl)
                    exact stepOk_value rfl (v := .slice (some ⟨go, 0, none⟩) 64 64) (by simp [execOp]; exact f2) rfl
                  · have f2 : a1.eval (.tmp 15) = .pointer (some ⟨g15, 0, none⟩) := hk.ev_old 15 (by kernel_rfl)
                    have g2_ : a1.tmps[15]?.getD undef = .pointer (some ⟨g15, 0, none⟩) := by simpa [Act.eval] using f2
                    exact stepOk_value rfl (v := .slice (some ⟨g15, 0, none⟩) 32 32) (by go_simp) rfl
                  · obtain ⟨v, e0, _, rfl⟩ := hk.ev_new hd 0 78 (by kernel_rfl) rfl
                    obtain ⟨v, e1, _, rfl⟩ := hk.ev_new hd 1 79 (by kernel_rfl) rfl
                    obtain ⟨A', c', w5, hr, hc5, hs5, hx5⟩ := app_full8 w' 27 go g15 64 32 (turnF kb 92) D1 (hO16.below hb5).sees hl92 (hF16.below hb5).sees HL1.out (by omega) (by omega) (by omega)
                    refine stepOk_run rfl (v := .slice A' (64 + 32) c') (w' := w5) ?_ ⟨A', c', rfl, hc5, hs5⟩ hx5
                    unfold execOp
                    simp only [resolve, invoke, builtin, Sem.run_bind, Sem.run_pure, Result.andThen_ok, List.map_toArray, List.map_cons, List.map_nil, e0, e1, hr]
                  · obtain ⟨v, e0, _, A', c', rfl, hc', hs'⟩ := hk.ev_new hd 2 80 (by kernel_rfl) rfl
                    have f4 : a1.eval (.tmp 4) = .pointer (some ⟨gt, 0, none⟩) := hk.ev_old 4 (by kernel_rfl)
                    have g4_ : a1.tmps[4]?.getD undef = .pointer (some ⟨gt, 0, none⟩) := by simpa [Act.eval] using f4
                    refine stepOk_enter rfl (f := 23) (args := #[.pointer (some ⟨gt, 0, none⟩), .slice A' 96 c']) (by go_simp) ?_
                    refine (Of_any gt 0 first keys A' 96 c' (turnF kb 92 ++ D1) w' (hT16.step hb5) hs' (by rw [List.length_append, hl92, HL1.out]) hc' (by omega)).mono ?_
                    rintro e w5 ⟨rfl, hx5⟩
                    rw [HMA.out]
                    exact ⟨_, rfl, rfl, hx5⟩
                  · have f9 := hk.ev_old 9 (by kernel_rfl)
                    exact stepOk_value rfl (v := .agg (cb MW).toArray) (run_load_agg (.tmp 9) 32 rfl f9 (cb MW) 32 (by rw [List.length_map]; exact HLM.out) (by kernel_rfl) (hF96.below hb5).sees) rfl
                intro a1 w17 hx17 hp
                obtain ⟨v0, p0, v1, p1, v2, p2, v3, p3, v4, p4, rfl⟩ := hp
                obtain rfl := p3
                obtain rfl := p4
                simp only [List.drop_succ_cons, List.drop_zero, Act.put, List.setIfInBounds_toArray, List.set_cons_succ, List.set_cons_zero]
                refine wpList_val rfl (v := .bool (MW == MW)) (run_eq32b (.tmp 81) (.tmp 82) 32 rfl MW MW rfl rfl HLM.out HLM.out) ?_
                rw [show (MW == MW) = true from by simp]
                have hxf : Below w.heap.size w w17 := Below.then_ (Below.then_ (Below.then_ (Below.then_ hx4 hx49) hx10) hx16) hx17
                go_wp2_with fail
                refine (awake3_any _).mono ?_
                rintro e w18 ⟨rfl, hx18⟩
                go_wp2_with fail
                go_ret
                exact ⟨rfl, Below.then_ hxf hx18⟩
    · have q2 : decide ((200 : Int) < (m : Int)) = true := by simp; omega
      clear hn63
      go_enter Try.func4, Try.ntmps4
      go_wp2_with (with_reducible refine wpList_box (o := ⟨some 4, _, _, _, _, _⟩) rfl (.tmp 0) 26 rfl (cw (first ++ keys)) rfl 72 (by rw [List.length_map]; exact HLF.out) (by decide) ?_; intro gt w1 hgt hFt hx1)
      have hT1 : Tab w1 gt 0 first keys := ⟨HH8.out, HH64.out, hFt.sees⟩
      have hA1 := hA.step hx1
      have hB1 := hB.step hx1
      clear hFt hA hB
      refine (awake3_any _).mono ?_
      rintro e w6 ⟨rfl, hB6⟩
      go_wp2_with fail
      go_ret
      exact ⟨rfl, Below.then_ hx1 hB6⟩
  · have q1 : decide ((200 : Int) < (n : Int)) = true := by simp; omega
    clear hm63
    go_enter Try.func4, Try.ntmps4
    go_wp2_with (with_reducible refine wpList_box (o := ⟨some 4, _, _, _, _, _⟩) rfl (.tmp 0) 26 rfl (cw (first ++ keys)) rfl 72 (by rw [List.length_map]; exact HLF.out) (by decide) ?_; intro gt w1 hgt hFt hx1)
    have hT1 : Tab w1 gt 0 first keys := ⟨HH8.out, HH64.out, hFt.sees⟩
    have hA1 := hA.step hx1
    have hB1 := hB.step hx1
    clear hFt hA hB
    refine (awake3_any _).mono ?_
    rintro e w6 ⟨rfl, hB6⟩
    go_wp2_with fail
    go_ret
    exact ⟨rfl, Below.then_ hx1 hB6⟩
end
end Go.Proofs.Ythigepkcgijbbaa
