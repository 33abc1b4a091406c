/-
  The document's own parts of a key, its text and Open of layer 9, by value.
-/
import Derived.Test.YtehokoeajinboaaLamRefK
namespace Go.Proofs.Ytehokoeajinboaa
open Go.RowKit
set_option linter.unusedVariables false

def roA (TB : List Value) (gs ga k : Nat) (X Y : List UInt8) (j : Nat) (x : Value) (w : World) : Prop :=
  match j with
  | 0 => x = .int .i64 (k : Int)
  | 1 => x = .agg TB.toArray
  | 2 => x = .int .i64 (k : Int)
  | 3 => x = .pointer (some ⟨gs, 0, none⟩)
  | 4 => x = .pointer (some ⟨gs, 32 * k, none⟩)
  | 5 => x = .agg (cb X).toArray
  | 6 => x = .agg (cb Y).toArray
  | 7 => x = .pointer (some ⟨ga, 32 * k, none⟩)
  | _ => True
theorem roA_stab (TB : List Value) (gs ga k : Nat) (X Y : List UInt8) : ∀ j x w w', Below w.heap.size w w' → roA TB gs ga k X Y j x w → roA TB gs ga k X Y j x w' := fun _ _ _ _ _ h => h
def roB (TB : List Value) (gs : Nat) (d HV O R : List UInt8) (HL : List (List UInt8)) (j : Nat) (x : Value) (w : World) : Prop :=
  match j with
  | 0 => x = .agg TB.toArray
  | 1 => x = .agg (cb d).toArray
  | 2 => x = .agg (cb HV).toArray
  | 3 => x = .pointer (some ⟨gs, 8192, none⟩)
  | 4 => x = .agg (cb O).toArray
  | 5 => ∃ A c ps, x = .slice A 512 c ∧ Parts w A 512 ps ∧ ps.map Pb.l = HL ∧ ∀ p ∈ ps, p.m ≤ 1000
  | 6 => x = .agg (cb R).toArray
  | _ => True
theorem roB_stab (TB : List Value) (gs : Nat) (d HV O R : List UInt8) (HL : List (List UInt8)) : ∀ j x w w', Below w.heap.size w w' → roB TB gs d HV O R HL j x w → roB TB gs d HV O R HL j x w' := by
  intro j x w w' hb h
  unfold roB at *
  split at h <;> first | exact h | (obtain ⟨A, c, ps, e, hP, h2⟩ := h; exact ⟨A, c, ps, e, hP.step hb, h2⟩) | trivial

/-- Two elements more, put behind a slice of this call's own. -/
theorem wpList_two {P : Program} {w : World} {ops : Array Oper} {rest : List Oper} {o : Oper} {a : Act} {Q : Exit → Act → World → Prop} (hg : o.guard = none) (s x : Operand) (T e : TypeId) (z : Value) (by_ : Nat)
    (hop : o.op = .call { callee := .builtin .append, args := #[s, x], argTypes := #[T, T] }) (hT : P.underlying T = some (.slice e)) (hI : (P.info? e).map (fun i => (i.zero, i.size, i.bytes)) = some (some z, 1, by_)) (hz : z.cells.size = 1) (hby : by_ ≤ 64)
    (D : Option Addr) (n c g : Nat) (cur : List Value) (u v : Value) (w0 : World) (hs : a.eval s = .slice D n c) (hx : a.eval x = .slice (some ⟨g, 0, none⟩) 2 2) (hF : Fresh w0.heap.size e w D n c cur) (hc : w.cell? ⟨g, 0, none⟩ = some u) (hc2 : w.cell? ⟨g, 1, none⟩ = some v) (h1 : u.oneCell' = true) (h2 : v.oneCell' = true) (hn : n ≤ 1000000) (hb : Below w0.heap.size w0 w)
    (hK : ∀ A' c' w', Fresh w0.heap.size e w' A' (n + 2) c' (cur ++ [u, v]) → Below w0.heap.size w0 w' → w.grownBy w' (Value.slice D n c).ownBlock → wpList P ops Q rest (a.put o.dst (.slice A' (n + 2) c')) w') :
    wpList P ops Q (o :: rest) a w := by
  obtain ⟨i0, hi, h2'⟩ := Option.map_eq_some_iff.1 hI
  simp only [Prod.mk.injEq] at h2'
  obtain ⟨hz0, hz1, hz2⟩ := h2'
  refine wpList_append_own w hg s x T hop w0.heap.size e i0 z 1 by_ hT hi hz0 hz1 hz2 hz (by omega) _ n cur hs hF ⟨g, 0, none⟩ 2 2 [u, v] hx (by simp) (fun j y hj => ?_) (by simpa using ⟨h1, h2⟩) (by unfold maxLen; omega) ?_ hb.size ?_
  · rcases j with _ | j
    · simp at hj
      subst hj
      exact hc
    · rcases j with _ | j
      · simp at hj
        subst hj
        rw [Addr.add_lit]
        exact hc2
      · simp at hj
  · have : (n + 2) * by_ ≤ (n + 2) * 64 := Nat.mul_le_mul_left _ hby
    omega
  · intro v' w' hown hgr hnil
    have hB : Below w0.heap.size w0 w' := hb.grown hgr hb.size (fun k hk => (hF.lt k hk).1)
    rcases hown.2 with ⟨rfl, h0⟩ | ⟨g', cap, cu, rfl, _⟩
    · simp at h0
    · exact hK _ cap w' hown hB hgr
section
variable {w : World}
set_option maxHeartbeats 4000000 in
set_option maxRecDepth 100000 in
theorem rParts_any (d hl ol : List UInt8) (hd : d.length = 32) (h1 : hl.length = 8192) (h2 : ol.length = 8192) :
    Calls Try.prog 118 #[.agg (cb d).toArray, .agg (cb hl).toArray, .agg (cb ol).toArray] w fun e w' => ∃ A c ps, e = .returned (.slice A 512 c) ∧ Parts w' A 512 ps ∧ ps.map Pb.l = pairsF d hl ol ∧ (∀ p ∈ ps, p.m ≤ 1000) ∧ Below w.heap.size w w' := by
  have HD := Lib.hid hd
  have HDL := Lib.hid (show (cb d).length = 32 by rw [List.length_map]; exact hd)
  have H1 := Lib.hid h1
  have H2 := Lib.hid h2
  clear hd h1 h2
  go_enter Try.func118, Try.ntmps118
  go_wp2_with (first
    | (with_reducible refine wpList_box (o := ⟨some 3, _, _, _, _, _⟩) rfl (.tmp 0) 32 rfl (cb d) rfl 32 HDL.out (by decide) ?_; intro gd w1 hgd hFd hBd)
    | (with_reducible refine wpList_box (o := ⟨some 4, _, _, _, _, _⟩) rfl (.tmp 1) 98 rfl (cb hl) rfl 8192 (by rw [List.length_map]; exact H1.out) (by decide) ?_; intro gh w2 hgh hFh hBh)
    | (with_reducible refine wpList_box (o := ⟨some 5, _, _, _, _, _⟩) rfl (.tmp 2) 98 rfl (cb ol) rfl 8192 (by rw [List.length_map]; exact H2.out) (by decide) ?_; intro go w3 hgo hFo hBo))
  have z1 := hBd.size
  have z2 := hBh.size
  have hB3 := Below.then_ (Below.then_ hBd hBh) hBo
  have fd3 := (hFd.below hBh).below hBo
  have fh3 := (hFh.below hBo).lower (base' := w.heap.size) (by omega)
  have fo3 := hFo.lower (base' := w.heap.size) (by omega)
  clear hFd hFh hFo hBd hBh hBo z1 z2 hgd hgh hgo
  go_loopw [7, 8] (fun v iv wr => ∃ (k : Nat) (A : Option Addr) (c : Nat) (qs : List Pb), k ≤ 256 ∧ iv = .int .i64 (k : Int) ∧ v = .slice A (2 * k) c ∧ Hid (qs.length = 2 * k) ∧ Fresh w.heap.size 27 wr A (2 * k) c (qs.map Pb.cell) ∧ (∀ q ∈ qs, Fresh w.heap.size 5 wr q.A q.m q.c (cb q.l) ∧ q.m = 32) ∧ Hid (qs.map Pb.l = (List.range (2 * k)).map (pairF d hl ol)) ∧ Fresh w.heap.size 32 wr (some ⟨gd, 0, none⟩) 32 32 (cb d) ∧ Fresh w.heap.size 98 wr (some ⟨gh, 0, none⟩) 8192 8192 (cb hl) ∧ Fresh w.heap.size 98 wr (some ⟨go, 0, none⟩) 8192 8192 (cb ol) ∧ Below w.heap.size w wr) (fun _ iv _ => 256 - (intOf iv).toNat)
  case atStart => exact ⟨0, none, 0, [], by omega, rfl, rfl, Lib.hid rfl, World.ownsRow_nil _ _ _ _, by simp, Lib.hid rfl, fd3, fh3, fo3, hB3⟩
  case round =>
    clear fd3 fh3 fo3 hB3
    obtain ⟨k, A, c, qs, hk, rfl, rfl, HQ, hFq, hqs, HQL, fd, fh, fo, hB⟩ := hrel
    by_cases hlt : k < 256
    · have hbit := fun w' => rBit_any (w := w') d (k : Int) HD.out
      rw [bitI_nat d k hlt] at hbit
      have hv2 := bitF_lt d k
      obtain ⟨X, hX⟩ : ∃ X, chunk hl k = X := ⟨_, rfl⟩
      obtain ⟨Y, hY⟩ : ∃ Y, chunk ol k = Y := ⟨_, rfl⟩
      have HXL : Hid (X.length = 32) := Lib.hid (by rw [← hX]; exact len_chunk hl k (by rw [H1.out]; omega))
      have HYL : Hid (Y.length = 32) := Lib.hid (by rw [← hY]; exact len_chunk ol k (by rw [H2.out]; omega))
      have hsx := sees_chunk (off := k * 32) fh.sees k (by omega)
      have hsy := sees_chunk (off := k * 32) fo.sees k (by omega)
      rw [hX] at hsx
      rw [hY] at hsy
      have hp0 : pairF d hl ol (2 * k) = if 0 = bitF d k then X else Y := by
        unfold pairF
        rw [show 2 * k / 2 = k from by omega, show 2 * k % 2 = 0 from by omega, hX, hY]
      have hp1 : pairF d hl ol (2 * k + 1) = if 1 = bitF d k then X else Y := by
        unfold pairF
        rw [show (2 * k + 1) / 2 = k from by omega, show (2 * k + 1) % 2 = 1 from by omega, hX, hY]
      obtain ⟨v, hv⟩ : ∃ v, bitF d k = v := ⟨_, rfl⟩
      rw [hv] at hbit hv2 hp0 hp1
      have HB := Lib.hid hbit
      have HX := Lib.hid hX
      have HY := Lib.hid hY
      clear hX hY hv hbit
      have hv01 : v = 0 ∨ v = 1 := by omega
      rcases hv01 with rfl | rfl
      · go_wp2_with (first
          | (at_builtin; refine wpList_app8 rfl (.tmp 15) (.tmp 18) rfl none (some ⟨gh, k * 32, none⟩) 0 0 32 32 [] X wr rfl rfl (fresh_nil _ _ _) hsx HXL.out (by omega) (Below.refl _ _) ?_; intro A1 c1 w6 hF6 hB6)
          | (at_builtin; refine wpList_app8 rfl (.tmp 20) (.tmp 23) rfl none (some ⟨go, k * 32, none⟩) 0 0 32 32 [] Y w6 rfl rfl (fresh_nil _ _ _) (hsy.step hB6) HYL.out (by omega) (Below.refl _ _) ?_; intro A2 c2 w7 hF7 hB7)
          | (with_reducible refine wpList_load (o := ⟨some 25, _, _, _, _, _⟩) rfl (.tmp 3) 32 rfl gd 0 _ rfl (cb d) 32 HDL.out (by kernel_rfl) ((fd.below hB6).below hB7).sees ?_)
          | (go_at_call 53; refine (HB.out _).mono ?_; rintro e w8 ⟨rfl, hB8⟩; have hba := below_alloc w8 (.cells #[.slice A1 (0 + 32) c1, .slice A2 (0 + 32) c2] 27); have hcell : (w8.alloc (.cells #[.slice A1 (0 + 32) c1, .slice A2 (0 + 32) c2] 27)).cell? ⟨w8.heap.size, 0, none⟩ = some (.slice A1 (0 + 32) c1) := (by rw [World.cell?_alloc_mark]; rfl); have hcell2 : (w8.alloc (.cells #[.slice A1 (0 + 32) c1, .slice A2 (0 + 32) c2] 27)).cell? ⟨w8.heap.size, 1, none⟩ = some (.slice A2 (0 + 32) c2) := (by rw [World.cell?_alloc_mark]; rfl); have hB68 := Below.then_ (Below.then_ hB6 hB7) hB8)
          | (at_builtin; refine wpList_two rfl (.tmp 29) (.tmp 32) 28 27 (.slice none 0 0) 24 rfl Try.underlying28 (by kernel_rfl) rfl (by omega) A (2 * k) c w8.heap.size _ (.slice A1 (0 + 32) c1) (.slice A2 (0 + 32) c2) w rfl rfl ((hFq.below hB68).below hba) hcell hcell2 rfl rfl (by omega) (Below.then_ (Below.then_ hB hB68) hba) ?_; intro A10 c10 w10 hF10 hB10 hgr))
        go_roundw
        case rel =>
          have fA := (hFq.below hB68).below hba
          have kp : ∀ {e : TypeId} {B : Nat} {R : Option Addr} {n q : Nat} {ys : List Value}, e ≠ 27 → Fresh B e w8 R n q ys → Fresh B e w10 R n q ys := fun hne hf => World.ownsRow.kept (hf.below hba) hgr (fresh_unlike (hf.below hba) fA hne)
          have f1 : Fresh w.heap.size 5 w8 A1 32 c1 (cb X) := ((hF6.below hB7).below hB8).lower hB.size
          have f2 : Fresh w.heap.size 5 w8 A2 32 c2 (cb Y) := (hF7.below hB8).lower (by have := hB.size; have := hB6.size; omega)
          refine ⟨k + 1, A10, c10, qs ++ [⟨A1, 32, c1, X⟩, ⟨A2, 32, c2, Y⟩], by omega, by go_num, rfl, Lib.hid (by rw [List.length_append, HQ.out]; rfl), ?_, ?_, Lib.hid ?_, kp (by decide) (fd.below hB68), kp (by decide) (fh.below hB68), kp (by decide) (fo.below hB68), hB10⟩
          · rw [List.map_append]
            exact hF10
          · intro q hq
            rcases List.mem_append.1 hq with h | h
            · exact ⟨kp (by decide) ((hqs q h).1.below hB68), (hqs q h).2⟩
            · simp at h
              rcases h with rfl | rfl
              · exact ⟨kp (by decide) f1, rfl⟩
              · exact ⟨kp (by decide) f2, rfl⟩
          · rw [List.map_append, HQL.out, show 2 * (k + 1) = 2 * k + 1 + 1 from by omega, List.range_succ, List.range_succ, List.map_append, List.map_append]
            show _ ++ [X, Y] = (_ ++ [pairF d hl ol (2 * k)]) ++ [pairF d hl ol (2 * k + 1)]
            rw [hp0, hp1, List.append_assoc]
            rfl
        case measure => simp [intOf]; omega
      · go_wp2_with (first
          | (at_builtin; refine wpList_app8 rfl (.tmp 15) (.tmp 18) rfl none (some ⟨gh, k * 32, none⟩) 0 0 32 32 [] X wr rfl rfl (fresh_nil _ _ _) hsx HXL.out (by omega) (Below.refl _ _) ?_; intro A1 c1 w6 hF6 hB6)
          | (at_builtin; refine wpList_app8 rfl (.tmp 20) (.tmp 23) rfl none (some ⟨go, k * 32, none⟩) 0 0 32 32 [] Y w6 rfl rfl (fresh_nil _ _ _) (hsy.step hB6) HYL.out (by omega) (Below.refl _ _) ?_; intro A2 c2 w7 hF7 hB7)
          | (with_reducible refine wpList_load (o := ⟨some 25, _, _, _, _, _⟩) rfl (.tmp 3) 32 rfl gd 0 _ rfl (cb d) 32 HDL.out (by kernel_rfl) ((fd.below hB6).below hB7).sees ?_)
          | (go_at_call 53; refine (HB.out _).mono ?_; rintro e w8 ⟨rfl, hB8⟩; have hba := below_alloc w8 (.cells #[.slice A2 (0 + 32) c2, .slice A1 (0 + 32) c1] 27); have hcell : (w8.alloc (.cells #[.slice A2 (0 + 32) c2, .slice A1 (0 + 32) c1] 27)).cell? ⟨w8.heap.size, 0, none⟩ = some (.slice A2 (0 + 32) c2) := (by rw [World.cell?_alloc_mark]; rfl); have hcell2 : (w8.alloc (.cells #[.slice A2 (0 + 32) c2, .slice A1 (0 + 32) c1] 27)).cell? ⟨w8.heap.size, 1, none⟩ = some (.slice A1 (0 + 32) c1) := (by rw [World.cell?_alloc_mark]; rfl); have hB68 := Below.then_ (Below.then_ hB6 hB7) hB8)
          | (at_builtin; refine wpList_two rfl (.tmp 34) (.tmp 37) 28 27 (.slice none 0 0) 24 rfl Try.underlying28 (by kernel_rfl) rfl (by omega) A (2 * k) c w8.heap.size _ (.slice A2 (0 + 32) c2) (.slice A1 (0 + 32) c1) w rfl rfl ((hFq.below hB68).below hba) hcell hcell2 rfl rfl (by omega) (Below.then_ (Below.then_ hB hB68) hba) ?_; intro A10 c10 w10 hF10 hB10 hgr))
        go_roundw
        case rel =>
          have fA := (hFq.below hB68).below hba
          have kp : ∀ {e : TypeId} {B : Nat} {R : Option Addr} {n q : Nat} {ys : List Value}, e ≠ 27 → Fresh B e w8 R n q ys → Fresh B e w10 R n q ys := fun hne hf => World.ownsRow.kept (hf.below hba) hgr (fresh_unlike (hf.below hba) fA hne)
          have f1 : Fresh w.heap.size 5 w8 A1 32 c1 (cb X) := ((hF6.below hB7).below hB8).lower hB.size
          have f2 : Fresh w.heap.size 5 w8 A2 32 c2 (cb Y) := (hF7.below hB8).lower (by have := hB.size; have := hB6.size; omega)
          refine ⟨k + 1, A10, c10, qs ++ [⟨A2, 32, c2, Y⟩, ⟨A1, 32, c1, X⟩], by omega, by go_num, rfl, Lib.hid (by rw [List.length_append, HQ.out]; rfl), ?_, ?_, Lib.hid ?_, kp (by decide) (fd.below hB68), kp (by decide) (fh.below hB68), kp (by decide) (fo.below hB68), hB10⟩
          · rw [List.map_append]
            exact hF10
          · intro q hq
            rcases List.mem_append.1 hq with h | h
            · exact ⟨kp (by decide) ((hqs q h).1.below hB68), (hqs q h).2⟩
            · simp at h
              rcases h with rfl | rfl
              · exact ⟨kp (by decide) f2, rfl⟩
              · exact ⟨kp (by decide) f1, rfl⟩
          · rw [List.map_append, HQL.out, show 2 * (k + 1) = 2 * k + 1 + 1 from by omega, List.range_succ, List.range_succ, List.map_append, List.map_append]
            show _ ++ [Y, X] = (_ ++ [pairF d hl ol (2 * k)]) ++ [pairF d hl ol (2 * k + 1)]
            rw [hp0, hp1, List.append_assoc]
            rfl
        case measure => simp [intOf]; omega
    · obtain rfl : k = 256 := by omega
      go_wp2_with fail
      go_ret
      refine ⟨A, c, qs, rfl, ⟨hFq.sees, HQ.out, fun q hq => ⟨(hqs q hq).1.sees, by simpa using (hqs q hq).1.len, (hqs q hq).1.cap.1⟩⟩, HQL.out, fun q hq => by rw [(hqs q hq).2]; omega, hB⟩
set_option maxHeartbeats 4000000 in
set_option maxRecDepth 100000 in
theorem rText9_any (d hl ol : List UInt8) (hd : d.length = 32) (h1 : hl.length = 8192) (h2 : ol.length = 8192) :
    Calls Try.prog 64 #[.agg (cb d).toArray, .agg (cb hl).toArray, .agg (cb ol).toArray] w (Made8 w 16900 (textP d hl ol)) := by
  have HDL := Lib.hid (show (cb d).length = 32 by rw [List.length_map]; exact hd)
  have H1C := Lib.hid (show (cb hl).length = 8192 by rw [List.length_map]; exact h1)
  have H2C := Lib.hid (show (cb ol).length = 8192 by rw [List.length_map]; exact h2)
  have HPA := Lib.hid (fun w' => rParts_any (w := w') d hl ol hd h1 h2)
  have HTL := Lib.hid (len_textP d hl ol h1 h2)
  have HTE : Hid (textF 3 (pairsF d hl ol) = textP d hl ol) := Lib.hid rfl
  clear hd h1 h2
  go_enter Try.func64, Try.ntmps64
  go_wp2_with (first
    | (with_reducible refine wpList_box (o := ⟨some 3, _, _, _, _, _⟩) rfl (.tmp 0) 32 rfl (cb d) rfl 32 HDL.out (by decide) ?_; intro gd w1 hgd hFd hBd)
    | (with_reducible refine wpList_box (o := ⟨some 4, _, _, _, _, _⟩) rfl (.tmp 1) 98 rfl (cb hl) rfl 8192 H1C.out (by decide) ?_; intro gh w2 hgh hFh hBh)
    | (with_reducible refine wpList_box (o := ⟨some 5, _, _, _, _, _⟩) rfl (.tmp 2) 98 rfl (cb ol) rfl 8192 H2C.out (by decide) ?_; intro go w3 hgo hFo hBo)
    | (with_reducible refine wpList_load (o := ⟨some 7, _, _, _, _, _⟩) rfl (.tmp 3) 32 rfl gd 0 _ rfl (cb d) 32 HDL.out (by kernel_rfl) ((hFd.below hBh).below hBo).sees ?_)
    | (with_reducible refine wpList_load (o := ⟨some 8, _, _, _, _, _⟩) rfl (.tmp 4) 98 rfl gh 0 _ rfl (cb hl) 8192 H1C.out (by kernel_rfl) (hFh.below hBo).sees ?_)
    | (with_reducible refine wpList_load (o := ⟨some 9, _, _, _, _, _⟩) rfl (.tmp 5) 98 rfl go 0 _ rfl (cb ol) 8192 H2C.out (by kernel_rfl) hFo.sees ?_)
    | (go_at_call 118; refine (HPA.out _).mono ?_; rintro e w4 ⟨A4, c4, ps, rfl, hP, hls, hm, hB4⟩; have hBw := Below.then_ (Below.then_ (Below.then_ hBd hBh) hBo) hB4; have htx := rText_600 3 A4 512 c4 ps w4 hP (by omega) hm; rw [hls, HTE.out, HTL.out] at htx)
    | (go_at_call 19; refine htx.mono ?_; rintro e w5 ⟨A5, c5, rfl, hF5, hB5⟩))
  go_ret
  exact ⟨A5, c5, rfl, hF5.lower hBw.size, Below.then_ hBw hB5⟩
set_option maxHeartbeats 8000000 in
set_option maxRecDepth 100000 in
theorem rOpen_any (first keys : List UInt32) (h8 : first.length = 8) (h64 : keys.length = 64) (d S O : List UInt8) (hd : d.length = 32) (h1 : S.length = 8192) (h2 : O.length = 8192) :
    Calls Try.prog 62 #[.agg (cw (first ++ keys)).toArray, .agg (cb d).toArray, .agg (cb (S ++ O)).toArray] w fun e w' => e = .returned (.agg (cb (openF (Dg.tab first keys h8) d S O)).toArray) ∧ Below w.heap.size w w' := by
  have HC : Hid ((cw (first ++ keys)).length = 72) := Lib.hid (by simp [h8, h64])
  have H8 := Lib.hid h8
  have H64 := Lib.hid h64
  have HD := Lib.hid hd
  have HDL := Lib.hid (show (cb d).length = 32 by rw [List.length_map]; exact hd)
  have H1 := Lib.hid h1
  have H2 := Lib.hid h2
  have HOL := Lib.hid (show (cb O).length = 8192 by rw [List.length_map]; exact h2)
  have HCH : Hid (∀ k, k < 256 → chunk (S ++ O) k = chunk S k) := Lib.hid (fun k hk => chunk_lft S O h1 k hk)
  have HZC : Hid ((cb (S ++ O)).length = 16384) := Lib.hid (by rw [List.length_map, List.length_append, h1, h2])
  obtain ⟨W, hW⟩ : ∃ W, S ++ O = W := ⟨_, rfl⟩
  have HSRF : Hid (∀ (w' : World) (B g : Nat), Sees w' B (some ⟨g, 0, none⟩) (cb W) → Sees w' B (some ⟨g, 8192, none⟩) (cb O)) := Lib.hid (fun w' B g h => seesO_right (S := S) (O := O) (by rw [hW]; exact h) h1)
  rw [hW] at HCH HZC ⊢
  have hv8 := len_halvesF (Dg.tab first keys h8) S
  have HHF : Hid (∀ L : List UInt8, L.length = 8192 → (∀ j, j < 256 → chunk L j = halfF (Dg.tab first keys h8) (chunk S j)) → L = halvesF (Dg.tab first keys h8) S) := Lib.hid (fun L hl hc => chunks_eq L _ 256 hl hc)
  have hop : openF (Dg.tab first keys h8) d S O = ofF first keys (textF 3 (pairsF d (halvesF (Dg.tab first keys h8) S) O)) := rfl
  obtain ⟨HV, hHV⟩ : ∃ HV, halvesF (Dg.tab first keys h8) S = HV := ⟨_, rfl⟩
  rw [hHV] at hop hv8 HHF
  have hVC : Hid ((cb HV).length = 8192) := Lib.hid (by rw [List.length_map]; exact hv8)
  have hpl := pairsF_len d HV O hv8 h2
  obtain ⟨HL, hHL⟩ : ∃ HL, pairsF d HV O = HL := ⟨_, rfl⟩
  rw [hHL] at hop hpl
  have HTL : Hid ((textF 3 HL).length ≤ 1000000000000) := Lib.hid (by
    have e1 : HL.length = 512 := by rw [← hHL]; simp [pairsF]
    have e2 := flat33 HL hpl
    have e3 := nd_bd HL.length
    rw [textF, List.length_append, List.length_append, len_digs, e2, show ([75, 3] : List UInt8).length = 2 from rfl]
    omega)
  obtain ⟨R, hR⟩ : ∃ R, ofF first keys (textF 3 HL) = R := ⟨_, rfl⟩
  have HRL : Hid (R.length = 32) := Lib.hid (by rw [← hR]; exact len_ofF _ _ _ h8)
  have HRC : Hid ((cb R).length = 32) := Lib.hid (by rw [List.length_map]; exact HRL.out)
  rw [hop, hR]
  have HR := Lib.hid hR
  have HHL := Lib.hid hHL
  have HV8 := Lib.hid hv8
  obtain ⟨TB, hTB⟩ : ∃ TB, cw (first ++ keys) = TB := ⟨_, rfl⟩
  have HTB := Lib.hid hTB
  rw [hTB] at HC ⊢
  clear hd h1 h2 hW hop hHV hHL hR hTB hpl hv8
  go_enter Try.func62, Try.ntmps62
  go_wp2_with (first
    | (with_reducible refine wpList_box (o := ⟨some 3, _, _, _, _, _⟩) rfl (.tmp 0) 26 rfl TB rfl 72 HC.out (by decide) ?_; intro gt w1 hgt hFt hBt)
    | (with_reducible refine wpList_box (o := ⟨some 4, _, _, _, _, _⟩) rfl (.tmp 1) 32 rfl (cb d) rfl 32 HDL.out (by decide) ?_; intro gd w2 hgd hFd hBd)
    | (with_reducible refine wpList_box (o := ⟨some 5, _, _, _, _, _⟩) rfl (.tmp 2) 100 rfl (cb W) rfl 16384 HZC.out (by decide) ?_; intro gs w3 hgs hFs hBs)
    | (with_reducible refine wpList_alloc (o := ⟨some 6, _, _, _, _, _⟩) rfl 32 rfl (cb (List.replicate 32 0)) (by kernel_rfl) 32 (len_zb 32) (by decide) ?_; intro gr w4 hgr hFr hBr)
    | (with_reducible refine wpList_alloc (o := ⟨some 7, _, _, _, _, _⟩) rfl 98 rfl (cb (List.replicate 8192 0)) (by kernel_rfl) 8192 (len_zb 8192) (by decide) ?_; intro ga w5 hga hFa hBa))
  have z1 := hBt.size
  have z2 := hBd.size
  have z3 := hBs.size
  have z4 := hBr.size
  have lt := hFt.lt_size
  have ld := hFd.lt_size
  have ls := hFs.lt_size
  have lr := hFr.lt_size
  have hB5 := Below.then_ (Below.then_ (Below.then_ (Below.then_ hBt hBd) hBs) hBr) hBa
  have ft5 := (((hFt.below hBd).below hBs).below hBr).below hBa
  have fd5 := (((hFd.below hBs).below hBr).below hBa).lower (base' := w.heap.size) (by omega)
  have fz5 := ((hFs.below hBr).below hBa).lower (base' := w.heap.size) (by omega)
  have fr5 := (hFr.below hBa).lower (base' := w.heap.size) (by omega)
  have fa5 := hFa.lower (base' := w.heap.size) (by omega)
  have n0 : gt ≠ ga := by omega
  have n1 : gd ≠ ga := by omega
  have n2 : gs ≠ ga := by omega
  have n3 : gr ≠ ga := by omega
  have n4 : w.heap.size ≤ ga := by omega
  have n5 : w.heap.size ≤ gr := by omega
  clear hFt hFd hFs hFr hFa hBt hBd hBs hBr hBa z1 z2 z3 z4 lt ld ls lr hgt hgd hgs hgr hga
  go_loopw [8] (fun i wr => ∃ (k : Nat) (L : List UInt8), k ≤ 256 ∧ i = .int .i64 (k : Int) ∧ Hid (L.length = 8192) ∧ Hid (∀ j, j < k → chunk L j = halfF (Dg.tab first keys H8.out) (chunk S j)) ∧ Fresh w.heap.size 26 wr (some ⟨gt, 0, none⟩) 72 72 TB ∧ Fresh w.heap.size 32 wr (some ⟨gd, 0, none⟩) 32 32 (cb d) ∧ Fresh w.heap.size 100 wr (some ⟨gs, 0, none⟩) 16384 16384 (cb W) ∧ Fresh w.heap.size 98 wr (some ⟨ga, 0, none⟩) 8192 8192 (cb L) ∧ Fresh w.heap.size 32 wr (some ⟨gr, 0, none⟩) 32 32 (cb (List.replicate 32 0)) ∧ Below w.heap.size w wr) (fun i _ => 256 - (intOf i).toNat)
  case atStart => exact ⟨0, _, by omega, rfl, Lib.hid List.length_replicate, Lib.hid (fun j hj => by omega), ft5, fd5, fz5, fa5, fr5, hB5⟩
  case round =>
    clear ft5 fd5 fz5 fa5 fr5 hB5
    obtain ⟨k, L, hk, rfl, HL8, HCk, ft, fd, fz, fa, fr, hB⟩ := hrel
    by_cases hlt : k < 256
    · obtain ⟨X, hX⟩ : ∃ X, chunk S k = X := ⟨_, rfl⟩
      obtain ⟨Y, hY⟩ : ∃ Y, halfF (Dg.tab first keys H8.out) X = Y := ⟨_, rfl⟩
      have HX := Lib.hid hX
      have HY := Lib.hid hY
      have HXL : Hid (X.length = 32) := Lib.hid (by rw [← hX]; exact len_chunk S k (by rw [H1.out]; omega))
      have HXC : Hid ((cb X).length = 32) := Lib.hid (by rw [List.length_map]; exact HXL.out)
      have HYL : Hid (Y.length = 32) := Lib.hid (by rw [← hY]; exact len_halfF _ _)
      have HYC : Hid ((cb Y).length = 32) := Lib.hid (by rw [List.length_map]; exact HYL.out)
      clear hX hY
      go_wp2_with fail
      refine region_all_tail 8 (roA TB gs ga k X Y) (by kernel_rfl) (by kernel_rfl) (by kernel_rfl) (roA_stab _ _ _ _ _ _) ?_ ?_
      · intro w0 hb0
        simp only [List.take_succ_cons, List.take_zero]
        refine ⟨?_, ?_, ?_, ?_, ?_, ?_, ?_, ?_, trivial⟩
        all_goals intro listed a1 w' hk1 hd1
        · have f8_ : a1.eval (.tmp 8) = .int .i64 (k : Int) := hk1.ev_old 8 (by kernel_rfl)
          have g8_ : a1.tmps[8]?.getD undef = .int .i64 (k : Int) := by simpa [Act.eval] using f8_
          exact stepOk_value rfl (v := .int .i64 (k : Int)) (by go_simp) rfl
        · exact stepOk_value rfl (run_load_agg (.tmp 3) 26 rfl (hk1.ev_old 3 (by kernel_rfl)) TB 72 HC.out (by kernel_rfl) ((ft.below hb0).below hk1.below).sees) rfl
        · have f8_ : a1.eval (.tmp 8) = .int .i64 (k : Int) := hk1.ev_old 8 (by kernel_rfl)
          have g8_ : a1.tmps[8]?.getD undef = .int .i64 (k : Int) := by simpa [Act.eval] using f8_
          exact stepOk_value rfl (v := .int .i64 (k : Int)) (by go_simp) rfl
        · have f5_ : a1.eval (.tmp 5) = .pointer (some ⟨gs, 0, none⟩) := hk1.ev_old 5 (by kernel_rfl)
          have g5_ : a1.tmps[5]?.getD undef = .pointer (some ⟨gs, 0, none⟩) := by simpa [Act.eval] using f5_
          exact stepOk_value rfl (v := .pointer (some ⟨gs, 0, none⟩)) (by go_simp) rfl
        · obtain ⟨y3, e3, q3, rfl⟩ := hk1.ev_new hd1 3 16 (by kernel_rfl) rfl
          obtain ⟨y2, e2, q2, rfl⟩ := hk1.ev_new hd1 2 15 (by kernel_rfl) rfl
          exact stepOk_value rfl (run_ixA (.tmp 16) (.tmp 15) rfl arrSA sizeSE e3 e2 rfl (by omega) (by omega)) rfl
        · obtain ⟨y4, e4, q4, rfl⟩ := hk1.ev_new hd1 4 17 (by kernel_rfl) rfl
          exact stepOk_value rfl (run_load_agg (.tmp 17) 31 rfl e4 (cb X) 32 HXC.out (by kernel_rfl) (by have h := sees_chunk (off := 32 * k) ((fz.below hb0).below hk1.below).sees k rfl; rwa [HCH.out k hlt, HX.out] at h)) rfl
        · obtain ⟨y1, e1, q1, rfl⟩ := hk1.ev_new hd1 1 14 (by kernel_rfl) rfl
          obtain ⟨y5, e5, q5, rfl⟩ := hk1.ev_new hd1 5 18 (by kernel_rfl) rfl
          refine stepOk_enter rfl (f := 61) (args := #[.agg TB.toArray, .agg (cb X).toArray]) (by go_simp) ?_
          have ho := rHalf_any (w := w') first keys H8.out H64.out X HXL.out
          rw [HY.out, HTB.out] at ho
          refine ho.mono ?_
          rintro e w5 ⟨rfl, hB5⟩
          exact ⟨_, rfl, rfl, hB5⟩
        · obtain ⟨y0, e0, q0, rfl⟩ := hk1.ev_new hd1 0 13 (by kernel_rfl) rfl
          exact stepOk_value rfl (run_ixA (.tmp 7) (.tmp 13) rfl arrZD sizeD (hk1.ev_old 7 (by kernel_rfl)) e0 rfl (by omega) (by omega)) rfl
      · intro a1 w7 hb7 hp
        obtain ⟨x0, p0, x1, p1, x2, p2, x3, p3, x4, p4, x5, p5, x6, p6, x7, p7, rfl⟩ := hp
        simp only [roA] at p0 p1 p2 p3 p4 p5 p6 p7
        subst p0 p1 p2 p3 p4 p5 p6 p7
        simp only [List.drop_succ_cons, List.drop_zero, Act.put, List.setIfInBounds_toArray, List.set_cons_succ, List.set_cons_zero]
        go_wp2_with (with_reducible refine wpList_store rfl rfl (.tmp 20) (.tmp 19) 32 rfl ga (32 * k) w.heap.size 98 8192 (cb L) (cb Y) rfl rfl 32 HYC.out (by kernel_rfl) (fa.below hb7) (by omega) (cb_one _) w (Below.then_ hB hb7) n4 ?_; intro w8 f8 hB8 ho8 hz8)
        rw [cb_splice] at f8
        go_roundw
        case rel =>
          refine ⟨k + 1, _, by omega, by go_num, Lib.hid ?_, Lib.hid ?_, (ft.below hb7).other n0 ho8, (fd.below hb7).other n1 ho8, (fz.below hb7).other n2 ho8, f8, (fr.below hb7).other n3 ho8, hB8⟩
          · rw [len_splice8 _ _ _ (by rw [HYL.out, HL8.out]; omega), HL8.out]
          · intro j hj
            rw [chunk_splice _ _ _ _ HYL.out (by rw [HL8.out]; omega)]
            by_cases e : j = k
            · rw [if_pos e, e, HX.out, HY.out]
            · rw [if_neg e]
              exact HCk.out j (by omega)
        case measure => simp [intOf]; omega
    · obtain rfl : k = 256 := by omega
      have e0 := HHF.out L HL8.out HCk.out
      rw [e0] at fa
      clear e0 HCk HL8 HHF
      go_wp2_with fail
      refine region_all_tail 7 (roB TB gs d HV O R HL) (by kernel_rfl) (by kernel_rfl) (by kernel_rfl) (roB_stab _ _ _ _ _ _ _) ?_ ?_
      · intro w0 hb0
        simp only [List.take_succ_cons, List.take_zero]
        refine ⟨?_, ?_, ?_, ?_, ?_, ?_, ?_, trivial⟩
        all_goals intro listed a1 w' hk1 hd1
        · exact stepOk_value rfl (run_load_agg (.tmp 3) 26 rfl (hk1.ev_old 3 (by kernel_rfl)) TB 72 HC.out (by kernel_rfl) ((ft.below hb0).below hk1.below).sees) rfl
        · exact stepOk_value rfl (run_load_agg (.tmp 4) 32 rfl (hk1.ev_old 4 (by kernel_rfl)) (cb d) 32 HDL.out (by kernel_rfl) ((fd.below hb0).below hk1.below).sees) rfl
        · exact stepOk_value rfl (run_load_agg (.tmp 7) 98 rfl (hk1.ev_old 7 (by kernel_rfl)) (cb HV) 8192 hVC.out (by kernel_rfl) ((fa.below hb0).below hk1.below).sees) rfl
        · have f5_ : a1.eval (.tmp 5) = .pointer (some ⟨gs, 0, none⟩) := hk1.ev_old 5 (by kernel_rfl)
          have g5_ : a1.tmps[5]?.getD undef = .pointer (some ⟨gs, 0, none⟩) := by simpa [Act.eval] using f5_
          exact stepOk_value rfl (v := .pointer (some ⟨gs, 8192, none⟩)) (by go_simp) rfl
        · obtain ⟨y3, e3, q3, rfl⟩ := hk1.ev_new hd1 3 24 (by kernel_rfl) rfl
          exact stepOk_value rfl (run_load_agg (.tmp 24) 98 rfl e3 (cb O) 8192 HOL.out (by kernel_rfl) (HSRF.out _ _ _ ((fz.below hb0).below hk1.below).sees)) rfl
        · obtain ⟨y1, e1, q1, rfl⟩ := hk1.ev_new hd1 1 22 (by kernel_rfl) rfl
          obtain ⟨y2, e2, q2, rfl⟩ := hk1.ev_new hd1 2 23 (by kernel_rfl) rfl
          obtain ⟨y4, e4, q4, rfl⟩ := hk1.ev_new hd1 4 25 (by kernel_rfl) rfl
          refine stepOk_enter rfl (f := 118) (args := #[.agg (cb d).toArray, .agg (cb HV).toArray, .agg (cb O).toArray]) (by go_simp) ?_
          have ho := rParts_any (w := w') d HV O HD.out HV8.out H2.out
          rw [HHL.out] at ho
          refine ho.mono ?_
          rintro e w5 ⟨A5, c5, ps, rfl, hP, hls, hm, hB5⟩
          exact ⟨_, rfl, ⟨A5, c5, ps, rfl, hP, hls, hm⟩, hB5⟩
        · obtain ⟨y0, e0, q0, rfl⟩ := hk1.ev_new hd1 0 21 (by kernel_rfl) rfl
          obtain ⟨y5, e5, _, q5⟩ := hk1.ev_new hd1 5 26 (by kernel_rfl) rfl
          obtain ⟨A5, c5, ps, rfl, hP, hls, hm⟩ := q5
          refine stepOk_enter rfl (f := 21) (args := #[.agg TB.toArray, .int .u8 3, .slice A5 512 c5]) (by go_simp) ?_
          have ho := rTagged_600 first keys 3 A5 512 c5 ps w' H8.out H64.out hP (by omega) hm (textF 3 HL) (by rw [hls]) HTL.out
          rw [HR.out, HTB.out] at ho
          refine ho.mono ?_
          rintro e w5 ⟨rfl, hB5⟩
          exact ⟨_, rfl, rfl, hB5⟩
      · intro a1 w7 hb7 hp
        obtain ⟨x0, p0, x1, p1, x2, p2, x3, p3, x4, p4, x5, p5, x6, p6, rfl⟩ := hp
        simp only [roB] at p0 p1 p2 p3 p4 p6
        subst p0 p1 p2 p3 p4 p6
        simp only [List.drop_succ_cons, List.drop_zero, Act.put, List.setIfInBounds_toArray, List.set_cons_succ, List.set_cons_zero]
        go_wp2_with (with_reducible refine wpList_store rfl rfl (.tmp 6) (.tmp 27) 32 rfl gr 0 w.heap.size 32 32 (cb (List.replicate 32 0)) (cb R) rfl rfl 32 HRC.out (by kernel_rfl) (fr.below hb7) (by omega) (cb_one _) w (Below.then_ hB hb7) n5 ?_; intro w9 hF9 hB9 _ _)
        rw [splice_zb 32 R HRL.out] at hF9
        exact bodyPost_cell rfl rfl (cb R) 32 HRC.out (by kernel_rfl) hF9.sees rfl ⟨rfl, hB9⟩
end
end Go.Proofs.Ytehokoeajinboaa
