/-
  ShaTwice returns true for every input, and writes nothing that was there: the walk.
-/
import Derived.Test.YtmkpopfaaebgfaaTwice
namespace Go.Proofs.Ytmkpopfaaebgfaa
open Go.RowKit
set_option linter.unusedVariables false

/-- An operation with a value, whether it is guarded or not. -/
theorem wpList_told {P : Program} {w : World} {ops : Array Oper} {rest : List Oper} {o : Oper} {a : Act} {Q : Exit → Act → World → Prop} {v : Value} (hw : Region.wanted o (yielded ops a.tmps) = true) (hrun : (execOp a.eval o).run P w = .ok (.value v) w) (hK : wpList P ops Q rest (a.put o.dst v) w) : wpList P ops Q (o :: rest) a w := by
  refine wpList_step fun K hK' => ?_
  rw [if_pos hw]
  unfold Oper.wp
  rw [hrun]
  exact hK' _ _ hK
/-- A hasher is put into a box of its own. -/
theorem wpList_hbox {first keys : List UInt32} {pre : List UInt8} {R : Option Addr} {c : Nat} {w : World} {ops : Array Oper} {rest : List Oper} {o1 o2 : Oper} {a : Act} {Q : Exit → Act → World → Prop} (h1 : first.length = 8) (hg1 : o1.guard = none) (hp1 : o1.op = .alloc 53) (hg2 : o2.guard = none) (hd2 : o2.dst = none) (t : Tmp) (hd1 : o1.dst = some t) (x : Operand) (hp2 : o2.op = .store 53 (.tmp t) x)
    (ht : t < a.tmps.size) (hx : ∀ v, (a.put (some t) v).eval x = .agg (hv first keys pre R c).toArray) (hR : Fresh w.heap.size 5 w R (left pre).length c (cb (left pre)) ∨ Sees w w.heap.size R (cb (left pre)))
    (hK : ∀ g w', w.heap.size ≤ g → Fresh w.heap.size 53 w' (some ⟨g, 0, none⟩) 10 10 (hv first keys pre R c) → Below w.heap.size w w' → wpList Try.prog ops Q rest (a.put (some t) (.pointer (some ⟨g, 0, none⟩))) w') :
    wpList Try.prog ops Q (o1 :: o2 :: rest) a w := by
  refine wpList_alloc hg1 53 hp1 (hz (List.replicate 8 0) (.slice none 0 0) 0) (by kernel_rfl) 10 (by simp) (by decide) ?_
  intro g w1 hg hF hB
  rw [hd1]
  have he : (a.put (some t) (.pointer (some ⟨g, 0, none⟩))).eval (.tmp t) = .pointer (some ⟨g, 0, none⟩) := by simp [Act.put, Act.eval, ht]
  refine wpList_store hg2 hd2 (.tmp t) x 53 hp2 g 0 w.heap.size 53 10 _ (hv first keys pre R c) he (hx _) 10 (hv_len h1) (by kernel_rfl) hF (by omega) hv_one w hB hg ?_
  intro w2 hF2 hB2 _ _
  rw [splice_h h1] at hF2
  exact hK g w2 hg hF2 hB2
/-- What stays through the calls: the table, the three lists of bytes, the first hasher. -/
structure TS (w0 w : World) (gt gh : Nat) (first keys : List UInt32) (A B C : Option Addr) (x y z : List UInt8) (R : Option Addr) (c : Nat) : Prop where
  tab : Tab w gt 0 first keys
  a : Sees w w.heap.size A (cb x)
  b : Sees w w.heap.size B (cb y)
  d : Sees w w.heap.size C (cb z)
  obj : Sees w w.heap.size (some ⟨gh, 0, none⟩) (hv first keys x R c)
  row : Sees w w.heap.size R (cb (left x))
  be : Below w0.heap.size w0 w
theorem TS.step {w0 w w' : World} {gt gh : Nat} {first keys : List UInt32} {A B C : Option Addr} {x y z : List UInt8} {R : Option Addr} {c : Nat} (h : TS w0 w gt gh first keys A B C x y z R c) (hb : Below w.heap.size w w') : TS w0 w' gt gh first keys A B C x y z R c :=
  ⟨h.tab.step hb, h.a.step hb, h.b.step hb, h.d.step hb, h.obj.step hb, h.row.step hb, Below.then_ h.be hb⟩
/-- Bytes put behind none. -/
theorem wpList_app8n {w : World} {ops : Array Oper} {rest : List Oper} {o : Oper} {a : Act} {Q : Exit → Act → World → Prop} (hg : o.guard = none) (s x : Operand)
    (hop : o.op = .call { callee := .builtin .append, args := #[s, x], argTypes := #[23, 23] })
    (A : Option Addr) (m d : Nat) (l : List UInt8) (w0 : World) (hs : a.eval s = .slice none 0 0) (hx : a.eval x = .slice A m d) (hS : Sees w w.heap.size A (cb l)) (hl : l.length = m) (hn : m ≤ 1000) (hb : Below w0.heap.size w0 w)
    (hK : ∀ A' c' w', Fresh w0.heap.size 5 w' A' m c' (cb l) → Below w0.heap.size w0 w' → wpList Try.prog ops Q rest (a.put o.dst (.slice A' m c')) w') :
    wpList Try.prog ops Q (o :: rest) a w := by
  refine wpList_app8 hg s x hop none A 0 0 m d [] l w0 hs hx (World.ownsRow_nil _ _ _ _) hS hl (by omega) hb ?_
  intro A' c' w' hF hB
  rw [Nat.zero_add, List.nil_append] at hF
  have := hK A' c' w' hF hB
  rwa [Nat.zero_add]
set_option maxHeartbeats 8000000 in
set_option maxRecDepth 100000 in
theorem twice_main (first keys : List UInt32) (x y z : List UInt8) (A B C : Option Addr) (n cA m cB k cC : Nat) (w : World) (h1 : first.length = 8) (h2 : keys.length = 64) (hA : Sees w w.heap.size A (cb x)) (hB : Sees w w.heap.size B (cb y)) (hC : Sees w w.heap.size C (cb z))
    (hn : x.length = n) (hm : y.length = m) (hk : z.length = k) (hnc : n ≤ cA) (hmc : m ≤ cB) (hkc : k ≤ cC) (hn2 : n ≤ 200) (hm2 : m ≤ 200) (hk2 : k ≤ 200) :
    Calls Try.prog 6 #[.agg (cw (first ++ keys)).toArray, .slice A n cA, .slice B m cB, .slice C k cC] w fun e w' => e = .returned (.bool true) ∧ Below w.heap.size w w' := by
  have H1 := Lib.hid h1
  have H2 := Lib.hid h2
  have HN := Lib.hid hn
  have HM := Lib.hid hm
  have HK := Lib.hid hk
  have HX : Hid (x.length ≤ 1000) := Lib.hid (by omega)
  have HXY : Hid ((x ++ y).length ≤ 1000) := Lib.hid (by rw [List.length_append]; omega)
  have HXZ : Hid ((x ++ z).length ≤ 1000) := Lib.hid (by rw [List.length_append]; omega)
  clear h1 h2 hn hm hk
  generalize hTL : first ++ keys = TL
  have HTL := Lib.hid hTL
  have htl : TL.length = 72 := by rw [← hTL, List.length_append, H1.out, H2.out]
  have HTN := Lib.hid htl
  clear hTL htl
  go_enter Try.func6, Try.ntmps6
  go_wp2_with (with_reducible refine wpList_box (o := ⟨some 4, _, _, _, _, _⟩) rfl (.tmp 0) 48 rfl (cw TL) rfl 72 (by rw [List.length_map]; exact HTN.out) (by decide) ?_; intro gt w1 hgt hFt hB1)
  have hTab : Tab w1 gt 0 first keys := ⟨H1.out, H2.out, by rw [HTL.out]; exact hFt.sees⟩
  have hA1 := hA.step hB1
  have hB1' := hB.step hB1
  have hC1 := hC.step hB1
  clear hFt hA hB hC
  have hnew : Calls Try.prog 45 #[.pointer (some ⟨gt, 0, none⟩)] w1 fun e w' => e = .returned (.agg (hv first keys [] none 0).toArray) ∧ Below w1.heap.size w1 w' := New_any gt 0 first keys w1 hTab
  refine hnew.mono ?_
  clear hnew
  rintro e w2 ⟨rfl, hB2⟩
  go_wp2_with fail
  refine (write_again (first := first) (keys := keys) (pre := []) (R := none) (c := 0) gt 0 A n cA x w2 (hTab.step hB2) H1.out Sees.nil (hA1.step hB2) HN.out hnc (by simp) (by omega) x rfl).mono ?_
  rintro e w3 ⟨R1, c1, rfl, hF3, hB3⟩
  have hB03 := Below.then_ (Below.then_ hB1 hB2) hB3
  have hTab3 := (hTab.step hB2).step hB3
  have hA3 := (hA1.step hB2).step hB3
  have hb3 := (hB1'.step hB2).step hB3
  have hC3 := (hC1.step hB2).step hB3
  clear hTab hA1 hB1' hC1 hB1 hB2 hB3
  go_wp2_with (first
    | (with_reducible refine wpList_hbox (first := first) (keys := keys) (pre := x) (R := R1) (c := c1) H1.out rfl rfl rfl rfl 9 rfl (.tmp 32) rfl (by simp) (fun v => rfl) (.inr hF3.sees) ?_; intro gh w4 hgh hOh hBh; have H : TS w w4 gt gh first keys A B C x y z R1 c1 := ⟨hTab3.step hBh, hA3.step hBh, hb3.step hBh, hC3.step hBh, hOh.sees, hF3.sees.step hBh, Below.then_ hB03 hBh⟩; clear hTab3 hA3 hb3 hC3 hB03 hF3 hOh hBh)
    | (with_reducible refine wpList_told (o := ⟨some 33, _, _, _, _, _⟩) (by kernel_rfl) (run_load_agg (.tmp 9) 53 rfl rfl (hv first keys x R1 c1) 10 (hv_len H1.out) (by kernel_rfl) H.obj) ?_))
  refine (copy_again (first := first) (keys := keys) (pre := x) (R := R1) (c := c1) w4 H1.out H.row).mono ?_
  rintro e w5 ⟨R2, c2, rfl, hF5, hB5⟩
  replace H := H.step hB5
  clear hB5
  go_wp2_with (first
    | (with_reducible refine wpList_hbox (first := first) (keys := keys) (pre := x) (R := R2) (c := c2) H1.out rfl rfl rfl rfl 10 rfl (.tmp 34) rfl (by simp) (fun v => rfl) (.inr hF5.sees) ?_; intro gp w6 hgp hOp hBp; have HP : Sees w6 w6.heap.size (some ⟨gp, 0, none⟩) (hv first keys x R2 c2) := hOp.sees; have HPR := hF5.sees.step hBp; replace H := H.step hBp; clear hF5 hOp hBp)
    | (with_reducible refine wpList_told (o := ⟨some 35, _, _, _, _, _⟩) (by kernel_rfl) (run_load_agg (.tmp 9) 53 rfl rfl (hv first keys x R1 c1) 10 (hv_len H1.out) (by kernel_rfl) H.obj) ?_))
  obtain ⟨D0, hD0⟩ : ∃ D, ofF first keys x = D := ⟨_, rfl⟩
  refine (sum_again (first := first) (keys := keys) (pre := x) (R := R1) (c := c1) gt 0 w6 H.tab H1.out H.row HX.out D0 hD0).mono ?_
  rintro e w7 ⟨rfl, hB7⟩
  replace H := H.step hB7
  replace HP := HP.step hB7
  replace HPR := HPR.step hB7
  clear hB7 hD0
  go_wp2_with (with_reducible refine wpList_told (o := ⟨some 37, _, _, _, _, _⟩) (by kernel_rfl) (run_load_agg (.tmp 9) 53 rfl rfl (hv first keys x R1 c1) 10 (hv_len H1.out) (by kernel_rfl) H.obj) ?_)
  refine (write_again (first := first) (keys := keys) (pre := x) (R := R1) (c := c1) gt 0 B m cB y w7 H.tab H1.out H.row H.b HM.out hmc HX.out (by omega) (x ++ y) rfl).mono ?_
  rintro e w8 ⟨R3, c3, rfl, hF8, hB8⟩
  obtain ⟨N3, hN3⟩ : ∃ N, (left (x ++ y)).length = N := ⟨_, rfl⟩
  have hN64 : N3 < 64 := by rw [← hN3, len_left]; omega
  have hr8 : ∀ r o, R3 = some ⟨r, o, none⟩ → r < w8.heap.size := fun r o e => by
    subst e
    rcases hF8.2 with ⟨e, _⟩ | ⟨g, cap, cu, e, _, hg, _⟩
    · simp at e
    · simp at e
      obtain ⟨⟨rfl, _⟩, _⟩ := e
      exact (Array.getElem?_eq_some_iff.1 hg).1
  have z7 := hB8.size
  have H8 := H.step hB8
  go_wp2_with (first
    | (with_reducible refine wpList_hbox (first := first) (keys := keys) (pre := x ++ y) (R := R3) (c := c3) H1.out rfl rfl rfl rfl 11 rfl (.tmp 39) rfl (by simp) (fun v => rfl) (.inr hF8.sees) ?_; intro ga w9 hga hOa hBa; have hF9 := hF8.below hBa; have hB79 := Below.then_ hB8 hBa; have H9 := H8.step hBa)
    | (with_reducible refine wpList_told (o := ⟨some 40, _, _, _, _, _⟩) (by kernel_rfl) (run_load_agg (.tmp 9) 53 rfl rfl (hv first keys x R1 c1) 10 (hv_len H1.out) (by kernel_rfl) H9.obj) ?_))
  refine (write_again (first := first) (keys := keys) (pre := x) (R := R1) (c := c1) gt 0 C k cC z w9 H9.tab H1.out H9.row H9.d HK.out hkc HX.out (by omega) (x ++ z) rfl).mono ?_
  rintro e w10 ⟨R4, c4, rfl, hF10, hB10⟩
  have hOa10 := hOa.below hB10
  have hF910 := hF9.below hB10
  have hB710 := Below.then_ hB79 hB10
  have z9 := hBa.size
  have z10 := hB10.size
  clear H8 H9 hF9 hOa hF8
  go_wp2_with (with_reducible refine wpList_hbox (first := first) (keys := keys) (pre := x ++ z) (R := R4) (c := c4) H1.out rfl rfl rfl rfl 12 rfl (.tmp 42) rfl (by simp) (fun v => rfl) (.inr hF10.sees) ?_; intro gb w11 hgb hOb hBb; have hF11 := hF10.below hBb; have hOa11 := hOa10.below hBb; have hR11 := hF910.below hBb; have hB711 := Below.then_ hB710 hBb; have ca8 := hOa11.cell_ (hv_rest H1.out); rw [hN3] at ca8 hR11)
  have z11 := hBb.size
  have HN3 := Lib.hid hN3
  clear hF10 hOa10 hF910 hB710 hB79 hB8 hBa hB10 hBb hN3
  go_loopw [46] (fun i wr => ∃ (j : Nat) (ys : List UInt8), j ≤ N3 ∧ i = .int .i64 j ∧ Fresh w7.heap.size 5 wr R3 N3 c3 (cb ys) ∧ Below w7.heap.size w11 wr ∧ (∀ q, w8.heap.size ≤ q → wr.heap[q]? = w11.heap[q]?)) (fun i _ => N3 - (intOf i).toNat)
  case atStart => exact ⟨0, _, by omega, rfl, hR11, Below.refl _ _, fun _ _ => rfl⟩
  case round =>
    obtain ⟨j, ys, hj, rfl, hFr, hBl, hkeep⟩ := hrel
    by_cases hjn : j < N3
    · have hly : ys.length = N3 := by simpa using hFr.len
      obtain ⟨r, rfl, hrb, hrs⟩ := hFr.place (by omega)
      have hr8' := hr8 r 0 rfl
      obtain ⟨v, hv⟩ : ∃ v, ys[j]? = some v := ⟨_, List.getElem?_eq_getElem (by omega)⟩
      have hcell : wr.cell? ⟨r, j, none⟩ = some (.int .u8 (v.toNat : Int)) := by
        rw [World.ownsRow.cellAt hFr j (by omega)]
        simp [cb, hv]
      have hfz := World.ownsRow.frozenAt hFr j
      have e1 : bits .xor .u8 (v.toNat : Int) 255 = ((v.toNat ^^^ 255 : Nat) : Int) := u8_xor_nat v.toNat 255 v.toNat_lt (by decide)
      have cr8 : wr.cell? ⟨ga, 8, none⟩ = some (.slice (some ⟨r, 0, none⟩) N3 c3) := by
        have := ca8
        unfold World.cell? at this ⊢
        simp only at this ⊢
        rw [hkeep ga (by omega)]
        exact this
      have hs4 := (World.ownsRow.stored hFr j (.int .u8 ((v.toNat ^^^ 255 : Nat) : Int))).1
      have hset : (cb ys).set j (.int .u8 ((v.toNat ^^^ 255 : Nat) : Int)) = cb (ys.set j (v ^^^ 255)) := by
        rw [show (v.toNat ^^^ 255 : Nat) = (v ^^^ 255).toNat from by rw [UInt8.toNat_xor]; rfl]
        simp [cb, List.map_set]
      rw [hset] at hs4
      have hBl2 : Below w7.heap.size w11 (wr.setCell ⟨r, j, none⟩ (.int .u8 ((v.toNat ^^^ 255 : Nat) : Int))) := hBl.setCell hrb _
      have hkeep2 : ∀ q, w8.heap.size ≤ q → (wr.setCell ⟨r, j, none⟩ (.int .u8 ((v.toNat ^^^ 255 : Nat) : Int))).heap[q]? = w11.heap[q]? := fun q hq => by
        rw [← hkeep q hq]
        simp only [World.setCell, Array.getElem?_modify]
        rw [if_neg (by omega)]
      clear hFr hBl hkeep hset hr8 hv hly ca8 hrs
      go_wp2_with fail
      go_roundw
      case rel => exact ⟨j + 1, _, by omega, by go_num, hs4, hBl2, hkeep2⟩
      case measure => simp [intOf]; omega
    · have hjN : j = N3 := by omega
      clear hr8 hFr ca8 hj
      have hB713 := hB711.trans hBl
      replace H := H.step hB713
      replace HP := HP.step hB713
      replace HPR := HPR.step hB713
      have hb13 := (hOb.others (w' := wr) fun q hq => hkeep q (by omega)).sees
      have hz13 := (hF11.others (w' := wr) fun q hq => hkeep q (by omega)).sees
      clear hB711 hBl hB713 hkeep hOb hF11 hOa11 hR11
      obtain ⟨D1, hD1⟩ : ∃ D, ofF first keys (x ++ y) = D := ⟨_, rfl⟩
      obtain ⟨D2, hD2⟩ : ∃ D, ofF first keys (x ++ z) = D := ⟨_, rfl⟩
      have L1 : D1.length = 32 := by rw [← hD1]; exact len_of _ _ _ H1.out
      have L2 : D2.length = 32 := by rw [← hD2]; exact len_of _ _ _ H1.out
      have HD1 := Lib.hid hD1
      have HD2 := Lib.hid hD2
      have HL1 := Lib.hid L1
      have HL2 := Lib.hid L2
      have hlxy : (x ++ y).length = n + m := by rw [List.length_append, HN.out, HM.out]
      have hlxz : (x ++ z).length = n + k := by rw [List.length_append, HN.out, HK.out]
      have HLXY := Lib.hid hlxy
      have HLXZ := Lib.hid hlxz
      clear hD1 hD2 L1 L2 hlxy hlxz HTL HTN hN64 HN3 hgt hgh hgp hga hgb z7 z9 z10 z11 hjn
      go_wp2_with (first
        | (at_builtin; refine wpList_app8n (o := ⟨some 59, _, _, _, _, _⟩) rfl (.tmp 57) (.tmp 58) rfl A n cA x wr rfl rfl H.a HN.out (by omega) (Below.refl _ _) ?_; intro A1 d1 v1 hF59 hB59; have S1 := H.b.step hB59)
        | (at_builtin; refine wpList_app8 (o := ⟨some 61, _, _, _, _, _⟩) rfl (.tmp 59) (.tmp 60) rfl A1 B n d1 m cB x y wr rfl rfl hF59 S1 HM.out (by omega) hB59 ?_; intro A2 d2 v2 hF61 hB61; clear S1 hF59 hB59; replace H := H.step hB61; replace HP := HP.step hB61; replace HPR := HPR.step hB61; have hb2 := hb13.step hB61; have hz2 := hz13.step hB61; have S2 := hF61.sees; have CAP2 := hF61.cap.1; clear hb13 hz13 hF61)
        | (at_builtin; refine wpList_app8n (o := ⟨some 64, _, _, _, _, _⟩) rfl (.tmp 62) (.tmp 63) rfl A n cA x v2 rfl rfl H.a HN.out (by omega) (Below.refl _ _) ?_; intro A3 d3 v3 hF64 hB64; have S3 := H.d.step hB64)
        | (at_builtin; refine wpList_app8 (o := ⟨some 66, _, _, _, _, _⟩) rfl (.tmp 64) (.tmp 65) rfl A3 C n d3 k cC x z v2 rfl rfl hF64 S3 HK.out (by omega) hB64 ?_; intro A4 d4 v4 hF66 hB66; clear S3 hF64 hB64; replace H := H.step hB66; replace HP := HP.step hB66; replace HPR := HPR.step hB66; have hb4 := hb2.step hB66; have hz4 := hz2.step hB66; have S4 := hF66.sees; have CAP4 := hF66.cap.1; have S24 := S2.step hB66; clear hb2 hz2 hF66 S2)
        | (with_reducible refine wpList_told (o := ⟨some 67, _, _, _, _, _⟩) (by kernel_rfl) (run_load_agg (.tmp 9) 53 rfl rfl (hv first keys x R1 c1) 10 (hv_len H1.out) (by kernel_rfl) H.obj) ?_)
        | (with_reducible refine wpList_told (o := ⟨some 68, _, _, _, _, _⟩) (by kernel_rfl) (run_load_agg (.tmp 10) 53 rfl rfl (hv first keys x R2 c2) 10 (hv_len H1.out) (by kernel_rfl) HP) ?_))
      refine (same_again (first := first) (keys := keys) (pre := x) v4 R1 R2 c1 c2 H1.out H.row HPR).mono ?_
      rintro e v5 ⟨rfl, hC5⟩
      replace H := H.step hC5
      have hb5 := hb4.step hC5
      have hz5 := hz4.step hC5
      have S5 := S4.step hC5
      have S25 := S24.step hC5
      clear hb4 hz4 S4 S24 hC5 HP HPR
      go_wp2_with (with_reducible refine wpList_told (o := ⟨some 71, _, _, _, _, _⟩) (by kernel_rfl) (run_load_agg (.tmp 9) 53 rfl rfl (hv first keys x R1 c1) 10 (hv_len H1.out) (by kernel_rfl) H.obj) ?_)
      refine (write_again (first := first) (keys := keys) (pre := x) (R := R1) (c := c1) gt 0 B m cB y v5 H.tab H1.out H.row H.b HM.out hmc HX.out (by omega) (x ++ y) rfl).mono ?_
      rintro e v6 ⟨R5, c5, rfl, hF6, hC6⟩
      replace H := H.step hC6
      have hb6 := hb5.step hC6
      have hz6 := hz5.step hC6
      have S6 := S5.step hC6
      have S26 := S25.step hC6
      clear hb5 hz5 S5 S25 hC6
      go_wp2_with fail
      refine (sum_again (first := first) (keys := keys) (pre := x ++ y) (R := R5) (c := c5) gt 0 v6 H.tab H1.out hF6.sees HXY.out D1 HD1.out).mono ?_
      rintro e v7 ⟨rfl, hC7⟩
      replace H := H.step hC7
      have hb7 := hb6.step hC7
      have hz7 := hz6.step hC7
      have S7 := S6.step hC7
      have S27 := S26.step hC7
      clear hb6 hz6 S6 S26 hC7 hF6
      go_wp2_with fail
      have hof := Of_any gt 0 first keys A2 (n + m) d2 (x ++ y) v7 H.tab S27 HLXY.out CAP2 (by omega)
      rw [HD1.out] at hof
      refine hof.mono ?_
      clear hof
      rintro e v8 ⟨rfl, hC8⟩
      replace H := H.step hC8
      have hb8 := hb7.step hC8
      have hz8 := hz7.step hC8
      have S8 := S7.step hC8
      clear hb7 hz7 S7 S27 hC8
      go_wp2_with (first
        | (with_reducible refine wpList_told (o := ⟨some 77, _, _, _, _, _⟩) (by kernel_rfl) (run_eq32b (.tmp 74) (.tmp 76) _ rfl D1 D1 rfl rfl HL1.out HL1.out) ?_; rw [beq_self_eq_true])
        | (with_reducible refine wpList_told (o := ⟨some 80, _, _, _, _, _⟩) (by kernel_rfl) (run_load_agg (.tmp 12) 53 rfl rfl (hv first keys (x ++ z) R4 c4) 10 (hv_len H1.out) (by kernel_rfl) hb8) ?_))
      refine (sum_again (first := first) (keys := keys) (pre := x ++ z) (R := R4) (c := c4) gt 0 v8 H.tab H1.out hz8 HXZ.out D2 HD2.out).mono ?_
      rintro e v9 ⟨rfl, hC9⟩
      replace H := H.step hC9
      have S9 := S8.step hC9
      clear hb8 hz8 S8 hC9
      go_wp2_with fail
      have hof := Of_any gt 0 first keys A4 (n + k) d4 (x ++ z) v9 H.tab S9 HLXZ.out CAP4 (by omega)
      rw [HD2.out] at hof
      refine hof.mono ?_
      clear hof
      rintro e v10 ⟨rfl, hC10⟩
      replace H := H.step hC10
      clear hC10 S9
      go_wp2_with (with_reducible refine wpList_told (o := ⟨some 84, _, _, _, _, _⟩) (by kernel_rfl) (run_eq32b (.tmp 81) (.tmp 83) _ rfl D2 D2 rfl rfl HL2.out HL2.out) ?_; rw [beq_self_eq_true])
      refine (awake2_any _).mono ?_
      rintro e v11 ⟨rfl, hC11⟩
      replace H := H.step hC11
      go_wp2_with fail
      go_ret
      exact ⟨rfl, H.be⟩
end Go.Proofs.Ytmkpopfaaebgfaa
