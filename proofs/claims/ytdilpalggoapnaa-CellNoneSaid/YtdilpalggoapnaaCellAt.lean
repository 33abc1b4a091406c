/-
  A cell in memory: its object beside its drive; and what looking at the words makes known.
-/
import Derived.Test.YtdilpalggoapnaaCellWords
namespace Go.Proofs.Ytdilpalggoapnaa
open Go.RowKit
set_option linter.unusedVariables false

def ceObj (c d : Nat) (x : Co) (A : Option Addr) (cp : Nat) (over : Bool) : List Value := [.pointer (some ⟨c, 0, none⟩), .pointer (some ⟨d, 0, none⟩), .int .i64 x.s, .int .i64 (x.t : Int), .slice A x.b.length cp, .bool over]
/-- A cell of a drive of two sectors, from the sector f of its flash on; x is what is known. -/
structure CeAt (base : Nat) (w : World) (c d p b f : Nat) (S : Fl) (x : Co) (over : Bool) : Prop where
  dr : DrAt base w d p b f 2 S
  row : ∃ A cp, Fresh base 97 w (some ⟨c, 0, none⟩) 6 6 (ceObj c d x A cp over) ∧ Fresh base 5 w A x.b.length cp (cb x.b)
  ok : x.Ok
section
variable {w w' : World} {base c d p b f : Nat} {over : Bool} {S S' : Fl} {x x' : Co}
theorem CeAt.below (h : CeAt base w c d p b f S x over) (y : Below w.heap.size w w') : CeAt base w' c d p b f S x over := by
  obtain ⟨A, cp, h1, h2⟩ := h.row
  exact ⟨h.dr.below y, ⟨A, cp, h1.below y, h2.below y⟩, h.ok⟩
theorem CeAt.lt (h : CeAt base w c d p b f S x over) : c < w.heap.size ∧ base ≤ c := by
  obtain ⟨A, cp, h1, -⟩ := h.row
  exact ⟨h1.lt_size, h1.block.2⟩
theorem CeAt.cd (h : CeAt base w c d p b f S x over) : c ≠ d := fun e => by
  obtain ⟨A, cp, h1, -⟩ := h.row
  have h1 := h1.block.1
  have h2 := h.dr.obj.block.1
  rw [e, h2] at h1
  simp at h1
theorem CeAt.cp_ (h : CeAt base w c d p b f S x over) : c ≠ p := fun e => by
  obtain ⟨A, cp, h1, -⟩ := h.row
  have h1 := h1.block.1
  have h2 := h.dr.nor.obj.block.1
  rw [e, h2] at h1
  simp at h1
theorem CeAt.cb_ (h : CeAt base w c d p b f S x over) : c ≠ b := fun e => by
  obtain ⟨A, cp, h1, -⟩ := h.row
  have h1 := h1.block.1
  have h2 := h.dr.nor.row.block.1
  rw [e, h2] at h1
  simp at h1
/-- Bytes lie in no block of another type. -/
theorem Fresh.unlike2 {w w' : World} {B B2 B3 p b n c k k2 : Nat} {T1 T2 T3 : TypeId} {A : Option Addr} {xs ys zs : List Value} (h1 : Fresh B T1 w A n c xs) (h2 : Fresh B2 T2 w (some ⟨p, 0, none⟩) k k ys) (h3 : Fresh B3 T3 w (some ⟨b, 0, none⟩) k2 k2 zs) (hne : T1 ≠ T2) (hne3 : T1 ≠ T3) (y : But p b w w') : Fresh B T1 w' A n c xs := by
  refine ⟨h1.1, ?_⟩
  rcases h1.2 with hn | ⟨g', cap, cur, hv, hb, hg, rest⟩
  · exact .inl hn
  · have e1 : g' ≠ p := fun e => by
      subst e
      have h4 := h2.block.1
      rw [hg] at h4
      simp at h4
      exact hne h4.2
    have e2 : g' ≠ b := fun e => by
      subst e
      have h4 := h3.block.1
      rw [hg] at h4
      simp at h4
      exact hne3 h4.2
    exact .inr ⟨g', cap, cur, hv, hb, (y.keep g' (Array.getElem?_eq_some_iff.1 hg).1 e1 e2).trans hg, rest⟩
/-- The flash is another one; the cell stays. -/
theorem CeAt.turn (h : CeAt base w c d p b f S x over) (y : But p b w w') (hD : DrAt base w' d p b f 2 S') : CeAt base w' c d p b f S' x over := by
  have hcp := h.cp_
  have hcb := h.cb_
  obtain ⟨A, cp, h1, h2⟩ := h.row
  exact ⟨hD, ⟨A, cp, h1.but y hcp hcb, h2.unlike2 h.dr.nor.obj h.dr.nor.row (by decide) (by decide) y⟩, h.ok⟩
/-- Another block is written; the cell stays. -/
theorem CeAt.other {g : Nat} (h : CeAt base w c d p b f S x over) (y : But g g w w') (h1 : p ≠ g) (h2 : b ≠ g) (h3 : d ≠ g) (h4 : c ≠ g) {B T k : Nat} {xs : List Value} (hg : Fresh B T w (some ⟨g, 0, none⟩) k k xs) (hT : 5 ≠ T) : CeAt base w' c d p b f S x over := by
  obtain ⟨A, cp, r1, r2⟩ := h.row
  exact ⟨h.dr.other6 y h1 h2 h3, ⟨A, cp, r1.but y h4 h4, r2.unlike2 hg hg hT hT y⟩, h.ok⟩
theorem CeAt.setOver (h : CeAt base w c d p b f S x over) (over' : Bool) : CeAt base (w.setCell ⟨c, 5, none⟩ (.bool over')) c d p b f S x over' ∧ But c c w (w.setCell ⟨c, 5, none⟩ (.bool over')) := by
  have hb : But c c w (w.setCell ⟨c, 5, none⟩ (.bool over')) := But.set c c c 5 _ (.inl rfl)
  have q1 := h.cp_
  have q2 := h.cb_
  have q3 := h.cd
  obtain ⟨A, cp, r1, r2⟩ := h.row
  exact ⟨⟨h.dr.other6 hb (Ne.symm q1) (Ne.symm q2) (Ne.symm q3), ⟨A, cp, r1.store 5 (.bool over'), r2.unlike2 r1 r1 (by decide) (by decide) hb⟩, h.ok⟩, hb⟩
/-- Something else is known. -/
theorem CeAt.setKnown (h : CeAt base w c d p b f S x over) {A : Option Addr} {cp : Nat} (hx : x'.Ok) (hA : Fresh base 5 w A x'.b.length cp (cb x'.b)) (hF : Fresh base 97 w' (some ⟨c, 0, none⟩) 6 6 (ceObj c d x' A cp over)) (h1 : w'.os = w.os) (h2 : w'.tape = w.tape) (h3 : w'.output = w.output) (h4 : w.heap.size ≤ w'.heap.size) (h5 : ∀ k, k ≠ c → w'.heap[k]? = w.heap[k]?) : CeAt base w' c d p b f S x' over ∧ But c c w w' := by
  have hb : But c c w w' := ⟨h1, h2, h3, h4, fun k _ hk _ => h5 k hk⟩
  have q1 := h.cp_
  have q2 := h.cb_
  have q3 := h.cd
  obtain ⟨B, cq, r1, r2⟩ := h.row
  exact ⟨⟨h.dr.other6 hb (Ne.symm q1) (Ne.symm q2) (Ne.symm q3), ⟨A, cp, hF, hA.unlike2 r1 r1 (by decide) (by decide) hb⟩, hx⟩, hb⟩
theorem run_cell_ (c : Nat) (w : World) : (binOp .eql 80 (.pointer (some ⟨c, 0, none⟩)) (.pointer (some ⟨c, 0, none⟩))).run Try.prog w = .ok (.bool true) w := by
  obtain ⟨j, hj⟩ : ∃ j, Try.prog.info? 97 = some j := Option.isSome_iff_exists.1 (by kernel_rfl)
  exact run_eql_ptr_same w (te := 97) ⟨c, 0, none⟩ (by kernel_rfl) hj
theorem isCell_any (h : CeAt base w c d p b f S x over) : Calls Try.prog 90 #[.pointer (some ⟨c, 0, none⟩)] w fun e w' => e = .returned (.bool true) ∧ w' = w := by
  obtain ⟨A, cp, h1, -⟩ := h.row
  have c0 : w.cell? ⟨c, 0, none⟩ = some (.pointer (some ⟨c, 0, none⟩)) := h1.cell rfl
  have hq := run_cell_ c w
  go_enter Try.func90, Try.ntmps90
  go_wp2_with fail
  go_ret
  exact ⟨rfl, rfl⟩
theorem COver_any (h : CeAt base w c d p b f S x over) : Calls Try.prog 47 #[.pointer (some ⟨c, 0, none⟩)] w fun e w' => e = .returned (.bool over) ∧ w' = w := by
  obtain ⟨A, cp, h1, -⟩ := h.row
  have c5 : w.cell? ⟨c, 5, none⟩ = some (.bool over) := h1.cell rfl
  go_enter Try.func47, Try.ntmps47
  go_wp2_with fail
  refine (isCell_any h).mono ?_
  rintro e w1 ⟨rfl, rfl⟩
  go_wp2_with fail
  go_ret
  exact ⟨rfl, rfl⟩

def zero3 : List Value := [.int .i64 0, .int .i64 0, .slice none 0 0]
/-- The two of look, of which so many are there. -/
def arrC (x y : Co) (A B : Option Addr) (cp cq : Nat) : Nat → List Value
  | 0 => zero3 ++ zero3
  | 1 => coL x A cp ++ zero3
  | _ => coL x A cp ++ coL y B cq
theorem arrC_len (x y : Co) (A B : Option Addr) (cp cq j : Nat) : (arrC x y A B cp cq j).length = 6 := by
  match j with
  | 0 => rfl
  | 1 => rfl
  | _ + 2 => rfl
set_option maxHeartbeats 2000000 in
set_option maxRecDepth 100000 in
theorem look_yes (h : CeAt base w c d p b f S x over) (hd : S.down = false) (hbase : base ≤ w.heap.size) (z : Co) (hz : S.clook f = z) :
    Calls Try.prog 91 #[.pointer (some ⟨c, 0, none⟩)] w fun e w' => e = .returned (.int .i64 0) ∧ CeAt base w' c d p b f S z over ∧ But c c w w' := by
  obtain ⟨X, hX⟩ : ∃ X, coOf 0 (secC (S.sec f 0)) = X := ⟨_, rfl⟩
  obtain ⟨Y, hY⟩ : ∃ Y, coOf 1 (secC (S.sec f 1)) = Y := ⟨_, rfl⟩
  have hz2 : newC X Y = z := by rw [← hX, ← hY]; exact hz
  have hXo : X.Ok := by rw [← hX]; exact coOf_ok 0 (by omega) _
  have hYo : Y.Ok := by rw [← hY]; exact coOf_ok 1 (by omega) _
  have HZ := Lib.hid (And.intro hz2 (And.intro hXo hYo))
  have HD := Lib.hid hd
  have HX := Lib.hid hX
  have HY := Lib.hid hY
  clear hz hz2 hXo hYo hd hX hY
  go_enter Try.func91, Try.ntmps91
  go_wp2_with (with_reducible refine wpList_alloc (o := ⟨some 3, _, _, _, _, _⟩) rfl 184 rfl (zero3 ++ zero3) (by kernel_rfl) 6 rfl (by decide) ?_; intro gl w1 hgl hFl hBl)
  go_loopw [7] (fun i wr => ∃ (j : Nat) (A B : Option Addr) (cp cq : Nat), j ≤ 2 ∧ i = .int .i64 (j : Int) ∧ Fresh w.heap.size 184 wr (some ⟨gl, 0, none⟩) 6 6 (arrC X Y A B cp cq j) ∧ (1 ≤ j → Fresh w.heap.size 5 wr A X.b.length cp (cb X.b)) ∧ (2 ≤ j → Fresh w.heap.size 5 wr B Y.b.length cq (cb Y.b)) ∧ Below w.heap.size w wr) (fun i _ => 2 - (intOf i).toNat)
  case atStart => exact ⟨0, none, none, 0, 0, by omega, rfl, hFl, fun h => absurd h (by omega), fun h => absurd h (by omega), hBl⟩
  case round =>
    obtain ⟨j, A, B, cp, cq, hj, rfl, hL, hA, hB, hW⟩ := hrel
    have hT := h.below hW
    obtain ⟨K, ck, hrow, hk⟩ := hT.row
    have ct1 : wr.cell? ⟨c, 1, none⟩ = some (.pointer (some ⟨d, 0, none⟩)) := hrow.cell rfl
    clear hFl hBl
    rcases (show j = 0 ∨ j = 1 ∨ j = 2 by omega) with rfl | rfl | rfl
    · have hRd := dRead_at hT.dr HD.out 0 64 (by omega)
      obtain ⟨L, hL0⟩ : ∃ L, S.at_ f 0 64 = L := ⟨_, rfl⟩
      have hLl : L.length = 64 := by rw [← hL0]; exact hT.dr.at_len (by omega)
      rw [hL0] at hRd
      have HW := Lib.hid (fun (w' : World) (G : Nat) (hs : Sees w' w'.heap.size (some ⟨G, 0, none⟩) (cw L)) => whole_any 0 (by omega) G L hs hLl X (by rw [← hL0]; exact HX.out))
      clear hL0 hLl
      go_wp2_with fail
      refine hRd.mono ?_
      rintro e w2 ⟨G, rfl, hG, hB2⟩
      clear hRd
      go_wp2_with fail
      refine (HW.out w2 G hG.sees).mono ?_
      rintro e w3 ⟨A', cp', rfl, hA', hB3⟩
      have hB23 := Below.then_ hB2 hB3
      have hW3 := Below.then_ hW hB23
      have hL3 := hL.below hB23
      have hWs := Nat.le_trans hW.size hB2.size
      clear hG hB2 hB3
      go_wp2_with (with_reducible refine wpList_store rfl rfl (.tmp 27) (.tmp 26) 95 rfl gl 0 w.heap.size 184 6 (arrC X Y A B cp cq 0) (coL X A' cp') rfl rfl 3 rfl (by kernel_rfl) hL3 (by omega) (coL_one _ _ _) w hW3 hgl ?_; intro w4 hF4 hB4 hoth4 hz4)
      have hA4 := (hA'.lower hWs).unlike hL3 (by decide) hoth4
      go_roundw
      case rel => exact ⟨1, A', none, cp', 0, by omega, rfl, hF4, fun _ => hA4, fun h => absurd h (by omega), hB4⟩
      case measure => simp [intOf]
    · have hRd := dRead_at hT.dr HD.out 64 64 (by omega)
      obtain ⟨L, hL0⟩ : ∃ L, S.at_ f 64 64 = L := ⟨_, rfl⟩
      have hLl : L.length = 64 := by rw [← hL0]; exact hT.dr.at_len (by omega)
      rw [hL0] at hRd
      have HW := Lib.hid (fun (w' : World) (G : Nat) (hs : Sees w' w'.heap.size (some ⟨G, 0, none⟩) (cw L)) => whole_any 1 (by omega) G L hs hLl Y (by rw [← hL0]; exact HY.out))
      clear hL0 hLl
      go_wp2_with fail
      refine hRd.mono ?_
      rintro e w2 ⟨G, rfl, hG, hB2⟩
      clear hRd
      go_wp2_with fail
      refine (HW.out w2 G hG.sees).mono ?_
      rintro e w3 ⟨A', cp', rfl, hA', hB3⟩
      have hB23 := Below.then_ hB2 hB3
      have hW3 := Below.then_ hW hB23
      have hL3 := hL.below hB23
      have hA3 := (hA (by omega)).below hB23
      have hWs := Nat.le_trans hW.size hB2.size
      clear hG hB2 hB3
      go_wp2_with (with_reducible refine wpList_store rfl rfl (.tmp 27) (.tmp 26) 95 rfl gl 3 w.heap.size 184 6 (arrC X Y A B cp cq 1) (coL Y A' cp') rfl rfl 3 rfl (by kernel_rfl) hL3 (by omega) (coL_one _ _ _) w hW3 hgl ?_; intro w4 hF4 hB4 hoth4 hz4)
      have hA4 := (hA'.lower hWs).unlike hL3 (by decide) hoth4
      have hA5 := hA3.unlike hL3 (by decide) hoth4
      go_roundw
      case rel => exact ⟨2, A, A', cp, cp', by omega, rfl, hF4, fun _ => hA5, fun _ => hA4, hB4⟩
      case measure => simp [intOf]
    · have hX2 := hA (by omega)
      have hY2 := hB (by omega)
      have s0 : Sees wr wr.heap.size (some ⟨gl, 0, none⟩) (coL X A cp) := by
        have := Sees.of_fresh hL 0 3
        exact this
      have s1 : Sees wr wr.heap.size (some ⟨gl, 3, none⟩) (coL Y B cq) := by
        have := Sees.of_fresh hL 3 3
        exact this
      obtain ⟨hz, hXo, hYo⟩ := HZ.out
      have HN := Lib.hid (newer_any (w := wr) X Y hXo hYo A B cp cq)
      have hzo : z.Ok := by rw [← hz]; exact newC_ok hXo hYo
      have HZO := Lib.hid hzo
      rw [hz] at HN
      clear hz hXo hYo hzo hA hB
      go_wp2_with (first
        | (with_reducible refine wpList_load (o := ⟨some 31, _, _, _, _, _⟩) rfl (.tmp 30) 95 rfl gl 0 _ rfl (coL X A cp) 3 rfl (by kernel_rfl) s0 ?_)
        | (with_reducible refine wpList_load (o := ⟨some 33, _, _, _, _, _⟩) rfl (.tmp 32) 95 rfl gl 3 _ rfl (coL Y B cq) 3 rfl (by kernel_rfl) s1 ?_))
      refine HN.out.mono ?_
      rintro e w2 ⟨hor, hB2⟩
      have hres : ∃ D cd, e = .returned (.agg (coL z D cd).toArray) ∧ Fresh w.heap.size 5 w2 D z.b.length cd (cb z.b) := by
        rcases hor with ⟨rfl, rfl⟩ | ⟨rfl, rfl⟩
        · exact ⟨A, cp, rfl, hX2.below hB2⟩
        · exact ⟨B, cq, rfl, hY2.below hB2⟩
      obtain ⟨D, cd, rfl, hD⟩ := hres
      have hT2 := hT.below hB2
      have hrow2 := hrow.below hB2
      have hW2 := Below.then_ hW hB2
      clear hor HN s0 s1 hX2 hY2 hL hT hrow hk hB2
      go_wp2_with (with_reducible refine wpList_storeN rfl rfl (.tmp 36) (.tmp 34) 95 rfl c 2 base 97 6 (ceObj c d x K ck over) (coL z D cd) rfl rfl 3 rfl (by kernel_rfl) hrow2 (by omega) (coL_one _ _ _) ?_; intro w4 hF4 k1 k2 k3 k4 k5)
      obtain ⟨r1, r2⟩ := hT2.setKnown HZO.out (hD.lower hbase) hF4 k1 k2 k3 k4 k5
      go_ret
      exact ⟨rfl, r1, (But.of_below hW2).then_ r2⟩
set_option maxRecDepth 100000 in
theorem look_no (h : CeAt base w c d p b f S x over) (hd : S.down = true) :
    Calls Try.prog 91 #[.pointer (some ⟨c, 0, none⟩)] w fun e w' => e = .returned (.int .i64 40) ∧ Below w.heap.size w w' := by
  have HD := Lib.hid hd
  clear hd
  go_enter Try.func91, Try.ntmps91
  go_wp2_with (with_reducible refine wpList_alloc (o := ⟨some 3, _, _, _, _, _⟩) rfl 184 rfl (zero3 ++ zero3) (by kernel_rfl) 6 rfl (by decide) ?_; intro gl w1 hgl hFl hBl)
  go_loopw [7] (fun i wr => i = .int .i64 0 ∧ wr = w1) (fun i _ => 0)
  case atStart => exact ⟨rfl, rfl⟩
  case round =>
    obtain ⟨rfl, rfl⟩ := hrel
    have hT := h.below hBl
    obtain ⟨K, ck, hrow, hk⟩ := hT.row
    have ct1 : wr.cell? ⟨c, 1, none⟩ = some (.pointer (some ⟨d, 0, none⟩)) := hrow.cell rfl
    have hRd := dRead_no hT.dr 0 64 (by omega) (.inr HD.out)
    rw [show readErr S 2 0 64 = 40 from rfl] at hRd
    go_wp2_with fail
    refine hRd.mono ?_
    rintro e w2 ⟨rfl, rfl⟩
    go_wp2_with fail
    go_ret
    exact ⟨rfl, hBl⟩
end
end Go.Proofs.Ytdilpalggoapnaa
