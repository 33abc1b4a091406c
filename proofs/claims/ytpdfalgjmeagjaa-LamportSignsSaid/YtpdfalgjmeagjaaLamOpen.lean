/-
  What the program's Open answers, by a table or by none.
-/
import Derived.Test.YtpdfalgjmeagjaaLamAwake
import Derived.Test.YtpdfalgjmeagjaaMacMac
namespace Go.Proofs.Ytpdfalgjmeagjaa
open Go.RowKit
set_option linter.unusedVariables false

def Dg.tab (first keys : List UInt32) (h : first.length = 8) : Dg := ⟨ofF first keys, macF first keys, fun b => len_ofF _ _ _ h, fun k b => len_ofF _ _ _ h⟩
/-- What T points at makes digests so. -/
structure DgAt (w : World) (T : Option Addr) (D : Dg) : Prop where
  of : ∀ w', Below w.heap.size w w' → ∀ (A : Option Addr) (n c : Nat) (b : List UInt8), Sees w' w'.heap.size A (cb b) → b.length = n → n ≤ c → n ≤ 1099511627776 →
    Calls Try.prog 20 #[.pointer T, .slice A n c] w' fun e w'' => e = .returned (.agg (cb (D.of b)).toArray) ∧ Below w'.heap.size w' w''
  mac : ∀ w', Below w.heap.size w w' → ∀ (A B : Option Addr) (n c m d : Nat) (key b : List UInt8), Sees w' w'.heap.size A (cb key) → key.length = n → n ≤ c → n ≤ 64 → Sees w' w'.heap.size B (cb b) → b.length = m → m ≤ d → m ≤ 1000000000000 →
    Calls Try.prog 176 #[.pointer T, .slice A n c, .slice B m d] w' fun e w'' => e = .returned (.agg (cb (D.mac key b)).toArray) ∧ Below w'.heap.size w' w''
theorem DgAt.step {w w' : World} {T : Option Addr} {D : Dg} (h : DgAt w T D) (x : Below w.heap.size w w') : DgAt w' T D :=
  ⟨fun w'' y => h.of w'' (Below.then_ x y), fun w'' y => h.mac w'' (Below.then_ x y)⟩
theorem DgAt.of_tab {w : World} {tb tf : Nat} {first keys : List UInt32} (h : Tab w tb tf first keys) : DgAt w (some ⟨tb, tf, none⟩) (Dg.tab first keys h.l1) :=
  ⟨fun w' y A n c b h1 h2 h3 h4 => Of_any tb tf first keys A n c b w' (h.step y) h1 h2 h3 h4,
   fun w' y A B n c m d key b h1 h2 h3 h4 h5 h6 h7 h8 => Mac_any tb tf first keys A B n c m d key b w' (h.step y) h1 h2 h3 (by omega) h5 h6 h7 h8⟩
theorem Fresh.apartT {w w' : World} {B B2 g n c k : Nat} {T1 T2 : TypeId} {A : Option Addr} {xs ys : List Value} (h1 : Fresh B T1 w A n c xs) (h2 : Fresh B2 T2 w (some ⟨g, 0, none⟩) k k ys) (hne : T1 ≠ T2) (hk : ∀ j, j ≠ g → w'.heap[j]? = w.heap[j]?) : Fresh B T1 w' A n c xs := by
  refine ⟨h1.1, ?_⟩
  rcases h1.2 with h3 | ⟨g', cap, cur, hv, hg, hh, hr⟩
  · exact .inl h3
  · have hgg : g' ≠ g := fun e => by
      have hb := h2.block.1
      rw [← e, hh] at hb
      simp at hb
      exact hne hb.2
    exact .inr ⟨g', cap, cur, hv, hg, by rw [hk g' hgg]; exact hh, hr⟩
/-- 'make([][]byte, n)'. -/
theorem wpList_mkLB {w : World} {ops : Array Oper} {rest : List Oper} {o : Oper} {a : Act} {Q : Exit → Act → World → Prop} (hg : o.guard = none) (x : Operand) (hop : o.op = Op.makeSlice 48 x x)
    (n : Nat) (hl : a.eval x = .int .i64 (n : Int)) (hn : n ≤ 1099511627776)
    (hK : ∀ w', Fresh w.heap.size 27 w' (some ⟨w.heap.size, 0, none⟩) n n (List.replicate n (.slice none 0 0)) → Below w.heap.size w w' → wpList Try.prog ops Q rest (a.put o.dst (.slice (some ⟨w.heap.size, 0, none⟩) n n)) w') :
    wpList Try.prog ops Q (o :: rest) a w := by
  obtain ⟨i0, hi, hz0, hz1, hz2⟩ := info_parts infoLB
  refine wpList_make_full w hg x x 48 hop w.heap.size 27 i0 (.slice none 0 0) 1 Try.underlying48 hi hz0 hz1 .i64 .i64 (n : Int) (n : Int) n hl hl rfl rfl (by rw [hz2]; omega) (by unfold maxLen; omega) (Nat.le_refl _) ?_
  intro w' h1 h2
  have e : (madeCells (Value.slice none 0 0).cells (n * 1)).toList = List.replicate n (Value.slice none 0 0) := by rw [Nat.mul_one]; exact toList_madeCells_one _ n
  rw [e] at h1
  exact hK w' h1 ((Below.refl _ _).grown h2 (Nat.le_refl _) (by simp))
theorem set_mid {α : Type} (xs : List α) (z v : α) (k n : Nat) (hx : xs.length = k) (hk : k < n) : (xs ++ List.replicate (n - k) z).set k v = (xs ++ [v]) ++ List.replicate (n - (k + 1)) z := by
  rw [List.set_append_right _ _ (by omega), hx, Nat.sub_self, show n - k = (n - (k + 1)) + 1 from by omega, List.replicate_succ, List.set_cons_zero, List.append_assoc]
  rfl
theorem stepOk_valG {P : Program} {ops : Array Oper} {Q : Exit → Act → World → Prop} {pr : Nat → Value → World → Prop} {i : Nat} {o : Oper} {a : Act} {w : World} {v : Value} (hw : Region.wanted o (yielded ops a.tmps) = true) (hrun : (execOp a.eval o).run P w = .ok (.value v) w) (hp : pr i v w) : StepOk P ops Q pr i o a w := by
  unfold StepOk
  rw [if_pos hw]
  unfold Oper.wp
  rw [hrun]
  exact ⟨v, rfl, hp, Below.refl _ _⟩
section
variable {w : World}
set_option maxHeartbeats 2000000 in
set_option maxRecDepth 100000 in
theorem numbers_any (A : Option Addr) (n c : Nat) (zs : List Int) (hA : Sees w w.heap.size A (zs.map (Value.int .i64))) (hn : zs.length = n) (hb : n ≤ 10) (hz : ∀ z ∈ zs, z ≤ 9223372036854775807) :
    Calls Try.prog 196 #[.slice A n c] w fun e w' => ∃ A' ps, e = .returned (.slice A' n n) ∧ Parts w' A' n ps ∧ ps.map Pb.l = zs.map (fun z => digs z.toNat) ∧ (∀ p ∈ ps, p.m ≤ 10) ∧ Below w.heap.size w w' := by
  have HN := Lib.hid hn
  have HZ := Lib.hid hz
  clear hn hz
  go_enter Try.func196, Try.ntmps196
  go_wp2_with (with_reducible refine wpList_mkLB rfl _ rfl n rfl (by omega) ?_; intro w1 hF1 hB1)
  have z1 := hF1.lt_size
  go_loopw [11] (fun i wr => ∃ (k : Nat) (ps : List Pb), k ≤ n ∧ i = .int .i64 (k : Int) ∧ Hid (ps.length = k) ∧ Fresh w.heap.size 27 wr (some ⟨w.heap.size, 0, none⟩) n n (ps.map Pb.cell ++ List.replicate (n - k) (.slice none 0 0)) ∧ (∀ p ∈ ps, Fresh w.heap.size 5 wr p.A p.m p.c (cb p.l) ∧ p.m ≤ 10) ∧ Hid (ps.map Pb.l = (zs.take k).map (fun z => digs z.toNat)) ∧ Below w.heap.size w wr) (fun i _ => n - (intOf i).toNat)
  case atStart => exact ⟨0, [], by omega, rfl, Lib.hid rfl, by simpa using hF1, fun p hp => by simp at hp, Lib.hid rfl, hB1⟩
  case round =>
    clear hF1 hB1 z1
    obtain ⟨k, ps, hk, rfl, HP, hF, hps, HL, hB⟩ := hrel
    by_cases hlt : k < n
    · obtain ⟨z, hzk⟩ : ∃ z, zs[k]? = some z := ⟨zs[k]'(by rw [HN.out]; exact hlt), List.getElem?_eq_getElem (by rw [HN.out]; exact hlt)⟩
      obtain ⟨g, o, rfl, hgB, hcell0⟩ := (hA.step hB).at_ (k := k) (by rw [List.length_map, HN.out]; exact hlt)
      have hcell : wr.cell? ⟨g, o + k, none⟩ = some (.int .i64 z) := by
        rw [hcell0, List.getElem_map]
        congr 2
        have := (List.getElem?_eq_some_iff.1 hzk).2
        exact this
      have hzb := HZ.out z (List.mem_of_getElem? hzk)
      have HK := Lib.hid hzk
      have hzf := hF.frozenAt (j := k)
      clear hcell0 hzk
      have main : ∀ (x : Nat) (I : Int), I = (x : Int) → z.toNat = x → x < 18446744073709551616 → Calls Try.prog 95 #[.slice none 0 0, .int .u64 I] wr (Made8 wr (nd z.toNat) (digs z.toNat)) := fun x I e1 e2 e3 => by
        subst e1 e2
        exact Uint_made (n := 0) (l := []) (N := nd z.toNat) (L := digs z.toNat) Sees.nil rfl (Nat.zero_add _) rfl (by omega) e3
      have hnd := nd_bd z.toNat
      have fin : ∀ (A2 : Option Addr) (c2 : Nat) (w2 : World), Fresh wr.heap.size 5 w2 A2 (nd z.toNat) c2 (cb (digs z.toNat)) → Below wr.heap.size wr w2 →
          ∃ ps' : List Pb, Hid (ps'.length = k + 1) ∧ Fresh w.heap.size 27 (w2.setCell ⟨w.heap.size, k, none⟩ (.slice A2 (nd z.toNat) c2)) (some ⟨w.heap.size, 0, none⟩) n n (ps'.map Pb.cell ++ List.replicate (n - (k + 1)) (.slice none 0 0)) ∧ (∀ p ∈ ps', Fresh w.heap.size 5 (w2.setCell ⟨w.heap.size, k, none⟩ (.slice A2 (nd z.toNat) c2)) p.A p.m p.c (cb p.l) ∧ p.m ≤ 10) ∧ Hid (ps'.map Pb.l = (zs.take (k + 1)).map (fun z => digs z.toNat)) ∧ Below w.heap.size w (w2.setCell ⟨w.heap.size, k, none⟩ (.slice A2 (nd z.toNat) c2)) := fun A2 c2 w2 hF2 hB2 => by
        have hoth : ∀ j, j ≠ w.heap.size → (w2.setCell ⟨w.heap.size, k, none⟩ (.slice A2 (nd z.toNat) c2)).heap[j]? = w2.heap[j]? := fun j hj => Below.heap_setCell _ _ _ _ hj
        have hFb := hF.below hB2
        refine ⟨ps ++ [⟨A2, nd z.toNat, c2, digs z.toNat⟩], Lib.hid (by rw [List.length_append, HP.out]; rfl), ?_, ?_, Lib.hid ?_, (Below.then_ hB hB2).setCell (Nat.le_refl _) _⟩
        · have h := hFb.store k (.slice A2 (nd z.toNat) c2)
          rw [set_mid _ _ _ k n (by rw [List.length_map]; exact HP.out) hlt] at h
          rw [List.map_append]
          exact h
        · intro p hp
          rcases List.mem_append.1 hp with hp | hp
          · exact ⟨((hps p hp).1.below hB2).apartT hFb (by decide) hoth, (hps p hp).2⟩
          · simp at hp
            subst hp
            exact ⟨(hF2.lower hB.size).apartT hFb (by decide) hoth, hnd.2⟩
        · rw [List.map_append, HL.out, List.take_add_one, HK.out, List.map_append]
          rfl
      by_cases hz0 : 0 < z
      · have hm := main z.toNat z (by omega) rfl (by omega)
        clear main
        go_wp2_with fail
        refine hm.mono ?_
        rintro e w2 ⟨A2, c2, rfl, hF2, hB2⟩
        obtain ⟨ps', r1, r2, r3, r4, r5⟩ := fin A2 c2 w2 hF2 hB2
        have hzf2 := (hF.below hB2).frozenAt (j := k)
        obtain ⟨u0, hu0⟩ := (hF.below hB2).cellAt hlt
        clear fin
        go_wp2_with fail
        go_roundw
        case rel => exact ⟨k + 1, ps', by omega, by go_num, r1, r2, r3, r4, r5⟩
        case measure => simp [intOf]; omega
      · by_cases hz1 : z = 0
        · subst hz1
          have hm := main 0 0 rfl rfl (by omega)
          clear main
          go_wp2_with fail
          refine hm.mono ?_
          rintro e w2 ⟨A2, c2, rfl, hF2, hB2⟩
          obtain ⟨ps', r1, r2, r3, r4, r5⟩ := fin A2 c2 w2 hF2 hB2
          have hzf2 := (hF.below hB2).frozenAt (j := k)
          obtain ⟨u0, hu0⟩ := (hF.below hB2).cellAt hlt
          clear fin
          go_wp2_with fail
          go_roundw
          case rel => exact ⟨k + 1, ps', by omega, by go_num, r1, r2, r3, r4, r5⟩
          case measure => simp [intOf]; omega
        · have hz2 : z < 0 := by omega
          have hm := main 0 0 rfl (by omega) (by omega)
          clear main
          go_wp2_with fail
          refine hm.mono ?_
          rintro e w2 ⟨A2, c2, rfl, hF2, hB2⟩
          obtain ⟨ps', r1, r2, r3, r4, r5⟩ := fin A2 c2 w2 hF2 hB2
          have hzf2 := (hF.below hB2).frozenAt (j := k)
          obtain ⟨u0, hu0⟩ := (hF.below hB2).cellAt hlt
          clear fin
          go_wp2_with fail
          go_roundw
          case rel => exact ⟨k + 1, ps', by omega, by go_num, r1, r2, r3, r4, r5⟩
          case measure => simp [intOf]; omega
    · obtain rfl : k = n := by omega
      go_wp2_with fail
      go_ret
      refine ⟨_, ps, rfl, ⟨?_, HP.out, fun p hp => ⟨(hps p hp).1.sees, by simpa using (hps p hp).1.len, (hps p hp).1.cap.1⟩⟩, ?_, fun p hp => (hps p hp).2, hB⟩
      · have := hF.sees
        simpa using this
      · rw [HL.out, List.take_of_length_le (by rw [HN.out]; exact Nat.le_refl _)]
end
end Go.Proofs.Ytpdfalgjmeagjaa

namespace Go.Proofs.Ytpdfalgjmeagjaa
open Go.RowKit
set_option linter.unusedVariables false

def secFacts (B gs : Nat) (T : Option Addr) (leaf bit val : Int) (N : Nat) (TX R : List UInt8) (j : Nat) (x : Value) (w : World) : Prop :=
  match j with
  | 0 => x = .pointer T
  | 1 => x = .slice (some ⟨gs, 0, none⟩) 32 32
  | 2 => x = .int .i64 leaf
  | 3 => x = .int .i64 bit
  | 4 => x = .int .i64 val
  | 5 => ∃ g, x = .slice (some ⟨g, 0, none⟩) 3 3 ∧ Sees w w.heap.size (some ⟨g, 0, none⟩) ([leaf, bit, val].map (Value.int .i64))
  | 6 => ∃ A ps, x = .slice A 3 3 ∧ Parts w A 3 ps ∧ ps.map Pb.l = [digs leaf.toNat, digs bit.toNat, digs val.toNat] ∧ ∀ p ∈ ps, p.m ≤ 300
  | 7 => ∃ A c, x = .slice A N c ∧ N ≤ c ∧ Sees w w.heap.size A (cb TX)
  | 8 => x = .agg (cb (R)).toArray
  | _ => True
theorem secFacts_stab (B gs : Nat) (T : Option Addr) (leaf bit val : Int) (N : Nat) (TX R : List UInt8) : ∀ j x w w', Below w.heap.size w w' → secFacts B gs T leaf bit val N TX R j x w → secFacts B gs T leaf bit val N TX R j x w' := by
  intro j x w w' hb h
  unfold secFacts at *
  split at h <;> first | exact h | (obtain ⟨g, e, hS⟩ := h; exact ⟨g, e, hS.step hb⟩) | (obtain ⟨A, ps, e, hP, h2⟩ := h; exact ⟨A, ps, e, hP.step hb, h2⟩) | (obtain ⟨A, c, e, hc, hS⟩ := h; exact ⟨A, c, e, hc, hS.step hb⟩) | trivial
section
variable {w : World}
set_option maxHeartbeats 1000000 in
set_option maxRecDepth 100000 in
theorem TaggedD {T : Option Addr} {G : Dg} (hG : DgAt w T G) (tag : UInt8) (A : Option Addr) (n c : Nat) (ps : List Pb) (ls : List (List UInt8)) (hp : Parts w A n ps) (hls : ps.map Pb.l = ls) (hn : n ≤ 600) (hm : ∀ p ∈ ps, p.m ≤ 300) (R : List UInt8) (hR : G.of (textF tag ls) = R) :
    Calls Try.prog 158 #[.pointer T, .int .u8 (tag.toNat : Int), .slice A n c] w fun e w' => e = .returned (.agg (cb R).toArray) ∧ Below w.heap.size w w' := by
  have hlen : ls.length = n := by rw [← hls, List.length_map]; exact hp.len
  have hll : ∀ l ∈ ls, l.length ≤ 300 := by
    intro l hl
    rw [← hls] at hl
    obtain ⟨p, hpm, rfl⟩ := List.mem_map.1 hl
    rw [(hp.ok p hpm).len]
    exact hm p hpm
  obtain ⟨N, hN⟩ : ∃ N, (textF tag ls).length = N := ⟨_, rfl⟩
  have hNl : N ≤ 1000000 := by
    have h1 := blobs_le3 ls hll
    have h2 := nd_bd ls.length
    rw [← hN, textF, List.length_append, List.length_append, len_digs, show ([75, tag] : List UInt8).length = 2 from rfl]
    omega
  have HN := Lib.hid hN
  have HD := Lib.hid hR
  have HLD := Lib.hid (show R.length = 32 by rw [← hR]; exact G.lof _)
  clear hlen hll hN hR
  go_enter Try.func158, Try.ntmps158
  go_wp2_with (first
    | (with_reducible refine wpList_alloc (o := ⟨some 6, _, _, _, _, _⟩) rfl 38 rfl (cb (List.replicate 32 0)) (by kernel_rfl) 32 (by simp) (by decide) ?_; intro gr w1 hgr hFr hBr)
    | (go_at_call 26; refine (Text_600 tag A n c N ps ls (hp.step hBr) hls (by omega) hm HN.out).mono ?_; rintro e w2 ⟨A2, c2, rfl, hF2, hB2⟩; have hB02 := Below.then_ hBr hB2; have hcap := hF2.cap.1)
    | (go_at_call 20; refine (hG.of _ hB02 A2 N c2 (textF tag ls) hF2.sees HN.out hcap (by omega)).mono ?_; rintro e w3 ⟨rfl, hB3⟩; rw [HD.out]; have hB03 := Below.then_ hB02 hB3; have hF3 := ((hFr.below hB2).below hB3))
    | (with_reducible refine wpList_store rfl rfl (.tmp 6) (.tmp 11) 38 rfl gr 0 w.heap.size 38 32 (cb (List.replicate 32 0)) (cb R) rfl rfl 32 (by rw [List.length_map]; exact HLD.out) (by kernel_rfl) hF3 (by omega) (cb_one _) w hB03 (by omega) ?_; intro w9 hF9 hB9 _ _))
  rw [splice_zb 32 R HLD.out] at hF9
  exact bodyPost_cell rfl rfl (cb R) 32 (by rw [List.length_map]; exact HLD.out) (by kernel_rfl) hF9.sees rfl ⟨rfl, hB9⟩
theorem sl31_at (g o : Nat) (w : World) : (Instr.sliceAt 37 (.pointer (some ⟨g, o, none⟩)) none none none).run Try.prog w = .ok (.slice (some ⟨g, o, none⟩) 32 32) w := by
  rw [run_sliceAt_array_all w 37 _ (by kernel_rfl : Try.prog.underlying 37 = some (.array (Try.prog.arrayLen 37) (Try.prog.elem 37))), (by kernel_rfl : (sizeOf (Try.prog.elem 37)).run Try.prog w = .ok 1 w), (by kernel_rfl : Try.prog.arrayLen 37 = 32)]
  simp [Result.andThen, slicedAt, Addr.add]
theorem parts_one31 (w : World) (C : Array Value) {g : Nat} {s : List UInt8} (hC : C = #[.slice (some ⟨g, 0, none⟩) 32 32]) (hs : Sees w w.heap.size (some ⟨g, 0, none⟩) (cb s)) (hl : s.length = 32) : Parts (w.alloc (.cells C 27)) (some ⟨w.heap.size, 0, none⟩) 1 [⟨some ⟨g, 0, none⟩, 32, 32, s⟩] :=
  ⟨sees_new w _ C _ (by rw [hC]; rfl), rfl, fun p hp => by
    simp at hp
    subst hp
    exact ⟨hs.step (below_alloc w _), hl, Nat.le_refl _⟩⟩
set_option maxHeartbeats 1000000 in
set_option maxRecDepth 100000 in
theorem Half_any {T : Option Addr} {G : Dg} (hG : DgAt w T G) (s : List UInt8) (hs : s.length = 32) :
    Calls Try.prog 78 #[.pointer T, .agg (cb s).toArray] w fun e w' => e = .returned (.agg (cb (halfF G s)).toArray) ∧ Below w.heap.size w w' := by
  have HS := Lib.hid hs
  have HL := Lib.hid (len_halfF G s)
  obtain ⟨R, hR⟩ : ∃ R, halfF G s = R := ⟨_, rfl⟩
  have HR := Lib.hid hR
  rw [hR] at HL ⊢
  clear hs hR
  go_enter Try.func78, Try.ntmps78
  go_wp2_with (first
    | (with_reducible refine wpList_box (o := ⟨some 3, _, _, _, _, _⟩) rfl (.tmp 1) 37 rfl (cb s) rfl 32 (by rw [List.length_map]; exact HS.out) (by decide) ?_; intro gs w1 hgs hFs hBs; have hsl := sl31_at gs 0)
    | (with_reducible refine wpList_alloc (o := ⟨some 4, _, _, _, _, _⟩) rfl 38 rfl (cb (List.replicate 32 0)) (by kernel_rfl) 32 (by simp) (by decide) ?_; intro gr w2 hgr hFr hBr; have hB02 := Below.then_ hBs hBr; have z1 := hBs.size; have hPA := parts_one31 w2 _ rfl (hFs.below hBr).sees HS.out; have hB03 := Below.then_ hB02 (below_alloc w2 (.cells #[.slice (some ⟨gs, 0, none⟩) 32 32] 27)))
    | (go_at_call 158; refine (TaggedD (hG.step hB03) 2 (some ⟨w2.heap.size, 0, none⟩) 1 1 [⟨some ⟨gs, 0, none⟩, 32, 32, s⟩] [s] hPA rfl (by omega) (by intro p hp; simp at hp; subst hp; show 32 ≤ 300; omega) R HR.out).mono ?_; rintro e w3 ⟨rfl, hB3⟩; have hB04 := Below.then_ hB03 hB3)
    | (with_reducible refine wpList_store rfl rfl (.tmp 4) (.tmp 8) 38 rfl gr 0 w1.heap.size 38 32 (cb (List.replicate 32 0)) (cb R) rfl rfl 32 (by rw [List.length_map]; exact HL.out) (by kernel_rfl) ((hFr.below (below_alloc w2 _)).below hB3) (by omega) (cb_one _) w hB04 (by omega) ?_; intro w9 hF9 hB9 _ _))
  rw [splice_zb 32 R HL.out] at hF9
  exact bodyPost_cell rfl rfl (cb R) 32 (by rw [List.length_map]; exact HL.out) (by kernel_rfl) hF9.sees rfl ⟨rfl, hB9⟩

set_option maxHeartbeats 2000000 in
set_option maxRecDepth 100000 in
theorem Secret_any {T : Option Addr} {G : Dg} (hG : DgAt w T G) (seed : List UInt8) (hs : seed.length = 32) (leaf bit val : Int) (hl : leaf ≤ 9223372036854775807) (hb : bit ≤ 9223372036854775807) (hv : val ≤ 9223372036854775807) :
    Calls Try.prog 157 #[.pointer T, .agg (cb seed).toArray, .int .i64 leaf, .int .i64 bit, .int .i64 val] w fun e w' => e = .returned (.agg (cb (secF G seed leaf.toNat bit.toNat val.toNat)).toArray) ∧ Below w.heap.size w w' := by
  have HS := Lib.hid hs
  have HSL := Lib.hid (show (cb seed).length = 32 by rw [List.length_map]; exact hs)
  obtain ⟨TX, hTX⟩ : ∃ TX, textF 1 [digs leaf.toNat, digs bit.toNat, digs val.toNat] = TX := ⟨_, rfl⟩
  obtain ⟨N, hN⟩ : ∃ N, TX.length = N := ⟨_, rfl⟩
  have hN2 : N ≤ 1000 := by
    have h1 := blobs_le3 [digs leaf.toNat, digs bit.toNat, digs val.toNat] (by
      intro l hl'
      have k1 := nd_bd leaf.toNat
      have k2 := nd_bd bit.toNat
      have k3 := nd_bd val.toNat
      simp at hl'
      rcases hl' with rfl | rfl | rfl <;> rw [len_digs] <;> omega)
    have h2 := nd_bd 3
    rw [← hN, ← hTX, textF, List.length_append, List.length_append, len_digs, show ([75, 1] : List UInt8).length = 2 from rfl, show ([digs leaf.toNat, digs bit.toNat, digs val.toNat] : List (List UInt8)).length = 3 from rfl]
    simp only [List.length_cons, List.length_nil] at h1
    omega
  have HLS := Lib.hid (len_secF G seed leaf.toNat bit.toNat val.toNat)
  obtain ⟨R, hR⟩ : ∃ R, secF G seed leaf.toNat bit.toNat val.toNat = R := ⟨_, rfl⟩
  have hmR : G.mac seed TX = R := by rw [← hR, ← hTX]; rfl
  rw [hR] at HLS ⊢
  have HTX := Lib.hid hTX
  have HN := Lib.hid hN
  have HMR := Lib.hid hmR
  have HLR : Hid ((cb R).length = 32) := Lib.hid (by rw [List.length_map]; exact HLS.out)
  clear hs hTX hN hR hmR
  go_enter Try.func157, Try.ntmps157
  go_upto_region 1 with (first
    | (with_reducible refine wpList_box (o := ⟨some 6, _, _, _, _, _⟩) rfl (.tmp 1) 37 rfl (cb seed) rfl 32 HSL.out (by decide) ?_; intro gs w1 hgs hFs hBs)
    | (with_reducible refine wpList_alloc (o := ⟨some 10, _, _, _, _, _⟩) rfl 37 rfl (cb (List.replicate 32 0)) (by kernel_rfl) 32 (by simp) (by decide) ?_; intro gr w2 hgr hFr hBr))
  simp only [Act.put, List.setIfInBounds_toArray, List.set_cons_succ, List.set_cons_zero]
  have hB2 := Below.then_ hBs hBr
  have hF2 := hFs.below hBr
  have z1 := hBs.size
  refine region_all_tail 9 (secFacts w2.heap.size gs T leaf bit val N TX R) (by kernel_rfl) (by kernel_rfl) (by kernel_rfl) (secFacts_stab _ _ _ _ _ _ _ _ _) ?_ ?_
  · intro w0 hb0
    have hz0 := hb0.size
    simp only [List.take_succ_cons, List.take_zero]
    refine ⟨?_, ?_, ?_, ?_, ?_, ?_, ?_, ?_, ?_, trivial⟩
    all_goals intro listed a1 w' hk1 hd1
    · have f0_ : a1.eval (.tmp 0) = .pointer T := hk1.ev_old 0 (by kernel_rfl)
      have g0_ : a1.tmps[0]?.getD undef = .pointer T := by simpa [Act.eval] using f0_
      exact stepOk_value rfl (v := .pointer T) (by go_simp) rfl
    · exact stepOk_value rfl (v := .slice (some ⟨gs, 0, none⟩) 32 32) (by have f6 : a1.eval (.tmp 6) = .pointer (some ⟨gs, 0, none⟩) := hk1.ev_old 6 (by kernel_rfl); have g6 : a1.tmps[6]?.getD undef = .pointer (some ⟨gs, 0, none⟩) := (by simpa [Act.eval] using f6); have hsl := sl31_at gs 0; go_simp) rfl
    · have f2_ : a1.eval (.tmp 2) = .int .i64 leaf := hk1.ev_old 2 (by kernel_rfl)
      have g2_ : a1.tmps[2]?.getD undef = .int .i64 leaf := by simpa [Act.eval] using f2_
      exact stepOk_value rfl (v := .int .i64 leaf) (by go_simp) rfl
    · have f3_ : a1.eval (.tmp 3) = .int .i64 bit := hk1.ev_old 3 (by kernel_rfl)
      have g3_ : a1.tmps[3]?.getD undef = .int .i64 bit := by simpa [Act.eval] using f3_
      exact stepOk_value rfl (v := .int .i64 bit) (by go_simp) rfl
    · have f4_ : a1.eval (.tmp 4) = .int .i64 val := hk1.ev_old 4 (by kernel_rfl)
      have g4_ : a1.tmps[4]?.getD undef = .int .i64 val := by simpa [Act.eval] using f4_
      exact stepOk_value rfl (v := .int .i64 val) (by go_simp) rfl
    · obtain ⟨y2, e2, q2, rfl⟩ := hk1.ev_new hd1 2 13 (by kernel_rfl) rfl
      obtain ⟨y3, e3, q3, rfl⟩ := hk1.ev_new hd1 3 14 (by kernel_rfl) rfl
      obtain ⟨y4, e4, q4, rfl⟩ := hk1.ev_new hd1 4 15 (by kernel_rfl) rfl
      refine stepOk_run rfl (v := .slice (some ⟨w'.heap.size, 0, none⟩) 3 3) (w' := w'.alloc (.cells #[.int .i64 leaf, .int .i64 bit, .int .i64 val] 3)) (by go_simp) ⟨_, rfl, sees_new w' 3 _ _ rfl⟩ (below_alloc _ _)
    · obtain ⟨y5, e5, _, q5⟩ := hk1.ev_new hd1 5 16 (by kernel_rfl) rfl
      obtain ⟨g5, rfl, hS5⟩ := q5
      refine stepOk_enter rfl (f := 196) (args := #[.slice (some ⟨g5, 0, none⟩) 3 3]) (by go_simp) ?_
      refine (numbers_any (some ⟨g5, 0, none⟩) 3 3 [leaf, bit, val] hS5 rfl (by omega) (by intro z hz; simp at hz; rcases hz with rfl | rfl | rfl <;> assumption)).mono ?_
      rintro e w5 ⟨A5, ps, rfl, hP, hls, hm, hB5⟩
      exact ⟨_, rfl, ⟨A5, ps, rfl, hP, hls, fun p hp => Nat.le_trans (hm p hp) (by omega)⟩, hB5⟩
    · obtain ⟨y6, e6, _, q6⟩ := hk1.ev_new hd1 6 17 (by kernel_rfl) rfl
      obtain ⟨A6, ps, rfl, hP, hls, hm⟩ := q6
      refine stepOk_enter rfl (f := 26) (args := #[.int .u8 1, .slice A6 3 3]) (by go_simp) ?_
      refine (Text_600 1 A6 3 3 N ps _ hP hls (by omega) hm (by rw [HTX.out]; exact HN.out)).mono ?_
      rintro e w5 ⟨A7, c7, rfl, hF7, hB7⟩
      rw [HTX.out] at hF7
      exact ⟨_, rfl, ⟨A7, c7, rfl, hF7.cap.1, hF7.sees⟩, hB7⟩
    · obtain ⟨y0, e0, q0, rfl⟩ := hk1.ev_new hd1 0 11 (by kernel_rfl) rfl
      obtain ⟨y1, e1, q1, rfl⟩ := hk1.ev_new hd1 1 12 (by kernel_rfl) rfl
      obtain ⟨y7, e7, _, q7⟩ := hk1.ev_new hd1 7 18 (by kernel_rfl) rfl
      obtain ⟨A7, c7, rfl, hc7, hS7⟩ := q7
      refine stepOk_enter rfl (f := 176) (args := #[.pointer T, .slice (some ⟨gs, 0, none⟩) 32 32, .slice A7 N c7]) (by go_simp) ?_
      have hbk := Below.then_ (Below.then_ hB2 hb0) hk1.below
      refine (hG.mac w' hbk (some ⟨gs, 0, none⟩) A7 32 32 N c7 seed TX ((hF2.below hb0).below hk1.below).sees HS.out (by omega) (by omega) hS7 HN.out hc7 (by omega)).mono ?_
      rintro e w5 ⟨rfl, hB5⟩
      exact ⟨_, rfl, by rw [HMR.out]; rfl, hB5⟩
  · intro a1 w7 hb7 hp
    obtain ⟨x0, p0, x1, p1, x2, p2, x3, p3, x4, p4, x5, p5, x6, p6, x7, p7, x8, p8, rfl⟩ := hp
    simp only [secFacts] at p0 p1 p2 p3 p4 p8
    subst p0 p1 p2 p3 p4 p8
    simp only [List.drop_succ_cons, List.drop_zero, Act.put, List.setIfInBounds_toArray, List.set_cons_succ, List.set_cons_zero]
    have hBw7 := Below.then_ hB2 hb7
    go_wp2_with (with_reducible refine wpList_store rfl rfl (.tmp 10) (.tmp 19) 37 rfl gr 0 w1.heap.size 37 32 (cb (List.replicate 32 0)) (cb R) rfl rfl 32 HLR.out (by kernel_rfl) (hFr.below hb7) (by omega) (cb_one _) w hBw7 (by omega) ?_; intro w9 hF9 hB9 _ _)
    rw [splice_zb 32 R HLS.out] at hF9
    exact bodyPost_cell rfl rfl (cb R) 32 HLR.out (by kernel_rfl) hF9.sees rfl ⟨rfl, hB9⟩
end
end Go.Proofs.Ytpdfalgjmeagjaa

namespace Go.Proofs.Ytpdfalgjmeagjaa
open Go.RowKit
set_option linter.unusedVariables false

def keyFacts (ga : Nat) (T : Option Addr) (leaf : Int) (k v : Nat) (seed X Y : List UInt8) (j : Nat) (x : Value) (w : World) : Prop :=
  match j with
  | 0 => x = .int .i64 (k : Int)
  | 1 => x = .int .i64 (v : Int)
  | 2 => x = .pointer T
  | 3 => x = .pointer T
  | 4 => x = .agg (cb (seed)).toArray
  | 5 => x = .int .i64 leaf
  | 6 => x = .int .i64 (k : Int)
  | 7 => x = .int .i64 (v : Int)
  | 8 => x = .agg (cb (X)).toArray
  | 9 => x = .agg (cb (Y)).toArray
  | 10 => x = .pointer (some ⟨ga, 64 * k, none⟩)
  | 11 => x = .pointer (some ⟨ga, 32 * (2 * k + v), none⟩)
  | _ => True
theorem keyFacts_stab (ga : Nat) (T : Option Addr) (leaf : Int) (k v : Nat) (seed X Y : List UInt8) : ∀ j x w w', Below w.heap.size w w' → keyFacts ga T leaf k v seed X Y j x w → keyFacts ga T leaf k v seed X Y j x w' := fun _ _ _ _ _ h => h
def sgnFacts (ga : Nat) (T : Option Addr) (leaf : Int) (k v : Nat) (seed X Y : List UInt8) (j : Nat) (x : Value) (w : World) : Prop :=
  match j with
  | 0 => x = .int .i64 (k : Int)
  | 1 => x = .pointer T
  | 2 => x = .pointer T
  | 3 => x = .agg (cb (seed)).toArray
  | 4 => x = .int .i64 leaf
  | 5 => x = .int .i64 (k : Int)
  | 6 => x = .int .i64 (v : Int)
  | 7 => x = .int .i64 (1 - (v : Int))
  | 8 => x = .agg (cb (X)).toArray
  | 9 => x = .agg (cb (Y)).toArray
  | 10 => x = .pointer (some ⟨ga, 8192, none⟩)
  | 11 => x = .pointer (some ⟨ga, 8192 + 32 * k, none⟩)
  | _ => True
theorem sgnFacts_stab (ga : Nat) (T : Option Addr) (leaf : Int) (k v : Nat) (seed X Y : List UInt8) : ∀ j x w w', Below w.heap.size w w' → sgnFacts ga T leaf k v seed X Y j x w → sgnFacts ga T leaf k v seed X Y j x w' := fun _ _ _ _ _ h => h
section
variable {w : World}
set_option maxHeartbeats 4000000 in
set_option maxRecDepth 100000 in
theorem Key_any {T : Option Addr} {G : Dg} (hG : DgAt w T G) (seed : List UInt8) (hs : seed.length = 32) (leaf : Int) (hl : leaf ≤ 9223372036854775807) :
    Calls Try.prog 76 #[.pointer T, .agg (cb seed).toArray, .int .i64 leaf] w fun e w' => e = .returned (.agg (cb (keyF9 G seed leaf.toNat)).toArray) ∧ Below w.heap.size w w' := by
  have HS := Lib.hid hs
  have HSL := Lib.hid (show (cb seed).length = 32 by rw [List.length_map]; exact hs)
  have HKL := Lib.hid (show (cb (keyF9 G seed leaf.toNat)).length = 32 by rw [List.length_map]; exact G.lof _)
  have HKL2 := Lib.hid (show (keyF9 G seed leaf.toNat).length = 32 from G.lof _)
  obtain ⟨R, hR⟩ : ∃ R, keyF9 G seed leaf.toNat = R := ⟨_, rfl⟩
  rw [hR] at HKL HKL2 ⊢
  have HR := Lib.hid hR
  clear hs hR
  go_enter Try.func76, Try.ntmps76
  go_wp2_with (first
    | (with_reducible refine wpList_box (o := ⟨some 4, _, _, _, _, _⟩) rfl (.tmp 1) 37 rfl (cb seed) rfl 32 HSL.out (by decide) ?_; intro gs w1 hgs hFs hBs)
    | (with_reducible refine wpList_alloc (o := ⟨some 6, _, _, _, _, _⟩) rfl 38 rfl (cb (List.replicate 32 0)) (by kernel_rfl) 32 (len_zb 32) (by decide) ?_; intro gr w2 hgr hFr hBr)
    | (with_reducible refine wpList_alloc (o := ⟨some 7, _, _, _, _, _⟩) rfl 229 rfl (cb (List.replicate 16384 0)) (by kernel_rfl) 16384 (len_zb 16384) (by decide) ?_; intro ga w3 hga hFa hBa))
  have z1 := hBs.size
  have z2 := hBr.size
  have ls := hFs.lt_size
  have lr := hFr.lt_size
  have hB3 := Below.then_ (Below.then_ hBs hBr) hBa
  have fs := (hFs.below hBr).below hBa
  have fr := (hFr.below hBa).lower (base' := w.heap.size) (by omega)
  have fa := hFa.lower (base' := w.heap.size) (by omega)
  have n1 : gs ≠ ga := by omega
  have n2 : gr ≠ ga := by omega
  have n3 : w.heap.size ≤ ga := by omega
  have n4 : w.heap.size ≤ gr := by omega
  clear hFs hFr hFa hBs hBr hBa z1 z2 ls lr hgs hgr hga
  go_loopw [10] (fun i wr => ∃ (k : Nat) (L : List UInt8), k ≤ 256 ∧ i = .int .i64 (k : Int) ∧ Hid (L.length = 16384) ∧ Hid (∀ j, j < 2 * k → chunk L j = leafF G seed leaf.toNat j) ∧ Fresh w.heap.size 37 wr (some ⟨gs, 0, none⟩) 32 32 (cb seed) ∧ Fresh w.heap.size 229 wr (some ⟨ga, 0, none⟩) 16384 16384 (cb L) ∧ Fresh w.heap.size 38 wr (some ⟨gr, 0, none⟩) 32 32 (cb (List.replicate 32 0)) ∧ Below w.heap.size w wr) (fun i _ => 256 - (intOf i).toNat)
  case atStart => exact ⟨0, _, by omega, rfl, Lib.hid List.length_replicate, Lib.hid (fun j hj => by omega), fs, fa, fr, hB3⟩
  case round =>
    clear fs fa fr hB3
    obtain ⟨k, L, hk, rfl, HL, HC, fs, fa, fr, hB⟩ := hrel
    by_cases hlt : k < 256
    · have e8 : decide ((k : Int) < 256) = true := by simp; omega
      go_wp2
      clear e8
      go_loopw [13] (fun i wr => ∃ (v : Nat) (L : List UInt8), v ≤ 2 ∧ i = .int .i64 (v : Int) ∧ Hid (L.length = 16384) ∧ Hid (∀ j, j < 2 * k + v → chunk L j = leafF G seed leaf.toNat j) ∧ Fresh w.heap.size 37 wr (some ⟨gs, 0, none⟩) 32 32 (cb seed) ∧ Fresh w.heap.size 229 wr (some ⟨ga, 0, none⟩) 16384 16384 (cb L) ∧ Fresh w.heap.size 38 wr (some ⟨gr, 0, none⟩) 32 32 (cb (List.replicate 32 0)) ∧ Below w.heap.size w wr) (fun i _ => 2 - (intOf i).toNat)
      case atStart => exact ⟨0, L, by omega, rfl, HL, HC, fs, fa, fr, hB⟩
      case round =>
        clear fs fa fr hB HL HC
        obtain ⟨v, L, hv, rfl, HL, HC, fs, fa, fr, hB⟩ := hrel
        by_cases hlt2 : v < 2
        · obtain ⟨X, hX⟩ : ∃ X, secF G seed leaf.toNat k v = X := ⟨_, rfl⟩
          obtain ⟨Y, hY⟩ : ∃ Y, halfF G X = Y := ⟨_, rfl⟩
          have HX := Lib.hid hX
          have HY := Lib.hid hY
          have HXL : Hid (X.length = 32) := Lib.hid (by rw [← hX]; exact len_secF _ _ _ _ _)
          have HYL : Hid (Y.length = 32) := Lib.hid (by rw [← hY]; exact len_halfF _ _)
          have HYC : Hid ((cb Y).length = 32) := Lib.hid (by rw [List.length_map]; exact HYL.out)
          have HYF : Hid (leafF G seed leaf.toNat (2 * k + v) = Y) := Lib.hid (by rw [leafF, show (2 * k + v) / 2 = k from by omega, show (2 * k + v) % 2 = v from by omega, hX, hY])
          clear hX hY
          go_wp2_with fail
          refine region_all_tail 12 (keyFacts ga T leaf k v seed X Y) (by kernel_rfl) (by kernel_rfl) (by kernel_rfl) (keyFacts_stab _ _ _ _ _ _ _ _) ?_ ?_
          · intro w0 hb0
            have hz0 := hb0.size
            simp only [List.take_succ_cons, List.take_zero]
            refine ⟨?_, ?_, ?_, ?_, ?_, ?_, ?_, ?_, ?_, ?_, ?_, ?_, trivial⟩
            all_goals intro listed a1 w' hk1 hd1
            · have f8_ : a1.eval (.tmp 8) = .int .i64 (k : Int) := hk1.ev_old 8 (by kernel_rfl)
              have g8_ : a1.tmps[8]?.getD undef = .int .i64 (k : Int) := by simpa [Act.eval] using f8_
              exact stepOk_value rfl (v := .int .i64 (k : Int)) (by go_simp) rfl
            · have f9_ : a1.eval (.tmp 9) = .int .i64 (v : Int) := hk1.ev_old 9 (by kernel_rfl)
              have g9_ : a1.tmps[9]?.getD undef = .int .i64 (v : Int) := by simpa [Act.eval] using f9_
              exact stepOk_value rfl (v := .int .i64 (v : Int)) (by go_simp) rfl
            · have f0_ : a1.eval (.tmp 0) = .pointer T := hk1.ev_old 0 (by kernel_rfl)
              have g0_ : a1.tmps[0]?.getD undef = .pointer T := by simpa [Act.eval] using f0_
              exact stepOk_value rfl (v := .pointer T) (by go_simp) rfl
            · have f0_ : a1.eval (.tmp 0) = .pointer T := hk1.ev_old 0 (by kernel_rfl)
              have g0_ : a1.tmps[0]?.getD undef = .pointer T := by simpa [Act.eval] using f0_
              exact stepOk_value rfl (v := .pointer T) (by go_simp) rfl
            · exact stepOk_value rfl (run_load_agg (.tmp 4) 37 rfl (hk1.ev_old 4 (by kernel_rfl)) (cb seed) 32 HSL.out (by kernel_rfl) ((fs.below hb0).below hk1.below).sees) rfl
            · have f2_ : a1.eval (.tmp 2) = .int .i64 leaf := hk1.ev_old 2 (by kernel_rfl)
              have g2_ : a1.tmps[2]?.getD undef = .int .i64 leaf := by simpa [Act.eval] using f2_
              exact stepOk_value rfl (v := .int .i64 leaf) (by go_simp) rfl
            · have f8_ : a1.eval (.tmp 8) = .int .i64 (k : Int) := hk1.ev_old 8 (by kernel_rfl)
              have g8_ : a1.tmps[8]?.getD undef = .int .i64 (k : Int) := by simpa [Act.eval] using f8_
              exact stepOk_value rfl (v := .int .i64 (k : Int)) (by go_simp) rfl
            · have f9_ : a1.eval (.tmp 9) = .int .i64 (v : Int) := hk1.ev_old 9 (by kernel_rfl)
              have g9_ : a1.tmps[9]?.getD undef = .int .i64 (v : Int) := by simpa [Act.eval] using f9_
              exact stepOk_value rfl (v := .int .i64 (v : Int)) (by go_simp) rfl
            · obtain ⟨y3, e3, q3, rfl⟩ := hk1.ev_new hd1 3 19 (by kernel_rfl) rfl
              obtain ⟨y4, e4, q4, rfl⟩ := hk1.ev_new hd1 4 20 (by kernel_rfl) rfl
              obtain ⟨y5, e5, q5, rfl⟩ := hk1.ev_new hd1 5 21 (by kernel_rfl) rfl
              obtain ⟨y6, e6, q6, rfl⟩ := hk1.ev_new hd1 6 22 (by kernel_rfl) rfl
              obtain ⟨y7, e7, q7, rfl⟩ := hk1.ev_new hd1 7 23 (by kernel_rfl) rfl
              refine stepOk_enter rfl (f := 157) (args := #[.pointer T, .agg (cb seed).toArray, .int .i64 leaf, .int .i64 (k : Int), .int .i64 (v : Int)]) (by go_simp) ?_
              have hsec := Secret_any (hG.step (Below.then_ (Below.then_ hB hb0) hk1.below)) seed HS.out leaf (k : Int) (v : Int) hl (by omega) (by omega)
              rw [show ((k : Nat) : Int).toNat = k from rfl, show ((v : Nat) : Int).toNat = v from rfl, HX.out] at hsec
              refine hsec.mono ?_
              rintro e w5 ⟨rfl, hB5⟩
              exact ⟨_, rfl, rfl, hB5⟩
            · obtain ⟨y2, e2, q2, rfl⟩ := hk1.ev_new hd1 2 18 (by kernel_rfl) rfl
              obtain ⟨y8, e8, q8, rfl⟩ := hk1.ev_new hd1 8 24 (by kernel_rfl) rfl
              refine stepOk_enter rfl (f := 78) (args := #[.pointer T, .agg (cb X).toArray]) (by go_simp) ?_
              have hhalf := Half_any (hG.step (Below.then_ (Below.then_ hB hb0) hk1.below)) X HXL.out
              rw [HY.out] at hhalf
              refine hhalf.mono ?_
              rintro e w5 ⟨rfl, hB5⟩
              exact ⟨_, rfl, rfl, hB5⟩
            · obtain ⟨y0, e0, q0, rfl⟩ := hk1.ev_new hd1 0 16 (by kernel_rfl) rfl
              exact stepOk_value rfl (run_ixA (.tmp 7) (.tmp 16) rfl arrP size2D (hk1.ev_old 7 (by kernel_rfl)) e0 rfl (by omega) (by omega)) rfl
            · obtain ⟨y10, e10, q10, rfl⟩ := hk1.ev_new hd1 10 26 (by kernel_rfl) rfl
              obtain ⟨y1, e1, q1, rfl⟩ := hk1.ev_new hd1 1 17 (by kernel_rfl) rfl
              exact stepOk_value rfl (run_ixA (.tmp 26) (.tmp 17) rfl arr2 sizeD e10 e1 rfl (by omega) (by omega)) rfl
          · intro a1 w7 hb7 hp
            obtain ⟨x0, p0, x1, p1, x2, p2, x3, p3, x4, p4, x5, p5, x6, p6, x7, p7, x8, p8, x9, p9, x10, p10, x11, p11, rfl⟩ := hp
            simp only [keyFacts] at p0 p1 p2 p3 p4 p5 p6 p7 p8 p9 p10 p11
            subst p0 p1 p2 p3 p4 p5 p6 p7 p8 p9 p10 p11
            simp only [List.drop_succ_cons, List.drop_zero, Act.put, List.setIfInBounds_toArray, List.set_cons_succ, List.set_cons_zero]
            have hBw7 := Below.then_ hB hb7
            go_wp2_with (with_reducible refine wpList_store rfl rfl (.tmp 27) (.tmp 25) 38 rfl ga (32 * (2 * k + v)) w.heap.size 229 16384 (cb L) (cb Y) rfl rfl 32 HYC.out (by kernel_rfl) (fa.below hb7) (by omega) (cb_one _) w hBw7 n3 ?_; intro w8 f8 hB8 ho8 hz8)
            rw [cb_splice] at f8
            go_roundw
            case rel =>
              refine ⟨v + 1, _, by omega, by go_num, Lib.hid ?_, Lib.hid ?_, (fs.below hb7).other n1 ho8, f8, (fr.below hb7).other n2 ho8, hB8⟩
              · rw [len_splice8 _ _ _ (by rw [HYL.out, HL.out]; omega), HL.out]
              · intro j hj
                rw [chunk_splice _ _ _ _ HYL.out (by rw [HL.out]; omega)]
                by_cases e : j = 2 * k + v
                · rw [if_pos e, e, HYF.out]
                · rw [if_neg e]
                  exact HC.out j (by omega)
            case measure => simp [intOf]; omega
        · obtain rfl : v = 2 := by omega
          go_wp2
          go_roundw
          case rel => exact ⟨k + 1, L, by omega, by go_num, HL, HC, fs, fa, fr, hB⟩
          case measure => simp [intOf]; omega
    · obtain rfl : k = 256 := by omega
      have hmap : (List.range 512).map (chunk L) = (List.range 512).map (leafF G seed leaf.toNat) := List.map_congr_left fun j hj => HC.out j (List.mem_range.1 hj)
      have HM := Lib.hid hmap
      clear hmap
      go_wp2_with (first
        | (go_at_call 159; refine (parts_any ga L fa.sees HL.out).mono ?_; rintro e w7 ⟨A7, c7, ps, rfl, hP, hls, hm, hB7⟩; rw [HM.out] at hls; have hBw7 := Below.then_ hB hB7)
        | (go_at_call 158; refine (TaggedD (hG.step hBw7) 3 A7 512 c7 ps _ hP hls (by omega) hm R HR.out).mono ?_; rintro e w8 ⟨rfl, hB8⟩; have hBw8 := Below.then_ hBw7 hB8)
        | (with_reducible refine wpList_store rfl rfl (.tmp 6) (.tmp 32) 38 rfl gr 0 w.heap.size 38 32 (cb (List.replicate 32 0)) (cb R) rfl rfl 32 HKL.out (by kernel_rfl) ((fr.below hB7).below hB8) (by omega) (cb_one _) w hBw8 n4 ?_; intro w9 hF9 hB9 _ _))
      rw [splice_zb 32 R HKL2.out] at hF9
      exact bodyPost_cell rfl rfl (cb R) 32 HKL.out (by kernel_rfl) hF9.sees rfl ⟨rfl, hB9⟩
theorem arrZD : Try.prog.underlying 136 = some (.array 256 38) := by kernel_rfl
theorem chunk_lft (S O : List UInt8) (h : S.length = 8192) (k : Nat) (hk : k < 256) : chunk (S ++ O) k = chunk S k := by
  unfold chunk
  rw [List.drop_append_of_le_length (by omega), List.take_append_of_le_length (by rw [List.length_drop]; omega)]
theorem chunk_rgt (S O : List UInt8) (h : S.length = 8192) (k : Nat) : chunk (S ++ O) (256 + k) = chunk O k := by
  unfold chunk
  rw [List.drop_append, List.drop_eq_nil_of_le (by omega), List.nil_append, h, show 32 * (256 + k) - 8192 = 32 * k from by omega]
set_option maxHeartbeats 4000000 in
set_option maxRecDepth 100000 in
theorem Sign_any {T : Option Addr} {G : Dg} (hG : DgAt w T G) (seed : List UInt8) (hs : seed.length = 32) (leaf : Int) (hl : leaf ≤ 9223372036854775807) (d : List UInt8) (hd : d.length = 32) :
    Calls Try.prog 77 #[.pointer T, .agg (cb seed).toArray, .int .i64 leaf, .agg (cb d).toArray] w fun e w' => e = .returned (.agg (cb (signS G seed leaf.toNat d ++ signO G seed leaf.toNat d)).toArray) ∧ Below w.heap.size w w' := by
  have HS := Lib.hid hs
  have HSL := Lib.hid (show (cb seed).length = 32 by rw [List.length_map]; exact hs)
  have HD := Lib.hid hd
  have HDL := Lib.hid (show (cb d).length = 32 by rw [List.length_map]; exact hd)
  clear hs hd
  go_enter Try.func77, Try.ntmps77
  go_wp2_with (first
    | (with_reducible refine wpList_box (o := ⟨some 5, _, _, _, _, _⟩) rfl (.tmp 1) 37 rfl (cb seed) rfl 32 HSL.out (by decide) ?_; intro gs w1 hgs hFs hBs)
    | (with_reducible refine wpList_box (o := ⟨some 7, _, _, _, _, _⟩) rfl (.tmp 3) 38 rfl (cb d) rfl 32 HDL.out (by decide) ?_; intro gd w2 hgd hFd hBd)
    | (with_reducible refine wpList_alloc (o := ⟨some 8, _, _, _, _, _⟩) rfl 138 rfl (cb (List.replicate 16384 0)) (by kernel_rfl) 16384 (len_zb 16384) (by decide) ?_; intro gr w3 hgr hFr hBr)
    | (with_reducible refine wpList_alloc (o := ⟨some 9, _, _, _, _, _⟩) rfl 138 rfl (cb (List.replicate 16384 0)) (by kernel_rfl) 16384 (len_zb 16384) (by decide) ?_; intro ga w4 hga hFa hBa))
  have z1 := hBs.size
  have z2 := hBd.size
  have z3 := hBr.size
  have ls := hFs.lt_size
  have ld := hFd.lt_size
  have lr := hFr.lt_size
  have hB4 := Below.then_ (Below.then_ (Below.then_ hBs hBd) hBr) hBa
  have fs := ((hFs.below hBd).below hBr).below hBa
  have fd := ((hFd.below hBr).below hBa).lower (base' := w.heap.size) (by omega)
  have fr := (hFr.below hBa).lower (base' := w.heap.size) (by omega)
  have fa := hFa.lower (base' := w.heap.size) (by omega)
  have n1 : gs ≠ ga := by omega
  have n2 : gd ≠ ga := by omega
  have n3 : gr ≠ ga := by omega
  have n4 : w.heap.size ≤ ga := by omega
  have n5 : w.heap.size ≤ gr := by omega
  clear hFs hFd hFr hFa hBs hBd hBr hBa z1 z2 z3 ls ld lr hgs hgd hgr hga
  go_loopw [12] (fun i wr => ∃ (k : Nat) (L : List UInt8), k ≤ 256 ∧ i = .int .i64 (k : Int) ∧ Hid (L.length = 16384) ∧ Hid (∀ j, j < k → chunk L j = signSF G seed leaf.toNat d j ∧ chunk L (256 + j) = signOF G seed leaf.toNat d j) ∧ Fresh w.heap.size 37 wr (some ⟨gs, 0, none⟩) 32 32 (cb seed) ∧ Fresh w.heap.size 38 wr (some ⟨gd, 0, none⟩) 32 32 (cb d) ∧ Fresh w.heap.size 138 wr (some ⟨ga, 0, none⟩) 16384 16384 (cb L) ∧ Fresh w.heap.size 138 wr (some ⟨gr, 0, none⟩) 16384 16384 (cb (List.replicate 16384 0)) ∧ Below w.heap.size w wr) (fun i _ => 256 - (intOf i).toNat)
  case atStart => exact ⟨0, _, by omega, rfl, Lib.hid List.length_replicate, Lib.hid (fun j hj => by omega), fs, fd, fa, fr, hB4⟩
  case round =>
    clear fs fd fa fr hB4
    obtain ⟨k, L, hk, rfl, HL, HC, fs, fd, fa, fr, hB⟩ := hrel
    by_cases hlt : k < 256
    · have hbit := Bit_any (w := wr) d (k : Int) HD.out
      rw [bitI_nat d k hlt] at hbit
      have hv2 := bitF_lt d k
      have HE1 : Hid (signSF G seed leaf.toNat d k = secF G seed leaf.toNat k (bitF d k)) := Lib.hid rfl
      have HE2 : Hid (signOF G seed leaf.toNat d k = halfF G (secF G seed leaf.toNat k (1 - bitF d k))) := Lib.hid rfl
      obtain ⟨v, hv⟩ : ∃ v, bitF d k = v := ⟨_, rfl⟩
      rw [hv] at hbit hv2 HE1 HE2
      obtain ⟨Z, hZ⟩ : ∃ Z, secF G seed leaf.toNat k v = Z := ⟨_, rfl⟩
      obtain ⟨X, hX⟩ : ∃ X, secF G seed leaf.toNat k (1 - v) = X := ⟨_, rfl⟩
      obtain ⟨Y, hY⟩ : ∃ Y, halfF G X = Y := ⟨_, rfl⟩
      rw [hZ] at HE1
      rw [hX, hY] at HE2
      have HX := Lib.hid hX
      have HY := Lib.hid hY
      have HXL : Hid (X.length = 32) := Lib.hid (by rw [← hX]; exact len_secF _ _ _ _ _)
      have HYL : Hid (Y.length = 32) := Lib.hid (by rw [← hY]; exact len_halfF _ _)
      have HYC : Hid ((cb Y).length = 32) := Lib.hid (by rw [List.length_map]; exact HYL.out)
      have HZL : Hid (Z.length = 32) := Lib.hid (by rw [← hZ]; exact len_secF _ _ _ _ _)
      have HZC : Hid ((cb Z).length = 32) := Lib.hid (by rw [List.length_map]; exact HZL.out)
      have hsz := fun w' (y : Below w.heap.size w w') => Secret_any (hG.step y) seed HS.out leaf (k : Int) (v : Int) hl (by omega) (by omega)
      rw [show ((k : Nat) : Int).toNat = k from rfl, show ((v : Nat) : Int).toNat = v from rfl, hZ] at hsz
      have HSZ := Lib.hid hsz
      clear hX hY hZ hv hsz
      go_upto_region 7 with (first
        | (with_reducible refine wpList_load (o := ⟨some 15, _, _, _, _, _⟩) rfl (.tmp 7) 38 rfl gd 0 _ rfl (cb d) 32 HDL.out (by kernel_rfl) fd.sees ?_)
        | (go_at_call 160; refine hbit.mono ?_; rintro e w6 ⟨rfl, hB6⟩; have hBw6 := Below.then_ hB hB6)
        | (with_reducible refine wpList_load (o := ⟨some 20, _, _, _, _, _⟩) rfl (.tmp 5) 37 rfl gs 0 _ rfl (cb seed) 32 HSL.out (by kernel_rfl) (fs.below hB6).sees ?_)
        | (go_at_call 157; refine (HSZ.out _ hBw6).mono ?_; rintro e w7 ⟨rfl, hB7⟩; have hBw7 := Below.then_ hBw6 hB7)
        | (with_reducible refine wpList_store rfl rfl (.tmp 26) (.tmp 24) 37 rfl ga (k * 32) w.heap.size 138 16384 (cb L) (cb Z) rfl rfl 32 HZC.out (by kernel_rfl) ((fa.below hB6).below hB7) (by omega) (cb_one _) w hBw7 n4 ?_; intro w8 f8 hB8 ho8 hz8))
      have fs8 := ((fs.below hB6).below hB7).other n1 ho8
      have fd8 := ((fd.below hB6).below hB7).other n2 ho8
      have fr8 := ((fr.below hB6).below hB7).other n3 ho8
      rw [cb_splice, Nat.mul_comm k 32] at f8
      obtain ⟨M, hM⟩ : ∃ M, splice L (32 * k) Z = M := ⟨_, rfl⟩
      rw [hM] at f8
      have HM := Lib.hid hM
      have HML : Hid (M.length = 16384) := Lib.hid (by rw [← hM, len_splice8 _ _ _ (by rw [HZL.out, HL.out]; omega), HL.out])
      clear fs fd fr fa hB6 hB7 hBw6 hBw7 ho8 hz8 hbit hB hM
      go_wp2_with fail
      refine region_all_tail 12 (sgnFacts ga T leaf k v seed X Y) (by kernel_rfl) (by kernel_rfl) (by kernel_rfl) (sgnFacts_stab _ _ _ _ _ _ _ _) ?_ ?_
      · intro w0 hb0
        have hz0 := hb0.size
        simp only [List.take_succ_cons, List.take_zero]
        refine ⟨?_, ?_, ?_, ?_, ?_, ?_, ?_, ?_, ?_, ?_, ?_, ?_, trivial⟩
        all_goals intro listed a1 w' hk1 hd1
        · have f10_ : a1.eval (.tmp 10) = .int .i64 (k : Int) := hk1.ev_old 10 (by kernel_rfl)
          have g10_ : a1.tmps[10]?.getD undef = .int .i64 (k : Int) := by simpa [Act.eval] using f10_
          exact stepOk_value rfl (v := .int .i64 (k : Int)) (by go_simp) rfl
        · have f0_ : a1.eval (.tmp 0) = .pointer T := hk1.ev_old 0 (by kernel_rfl)
          have g0_ : a1.tmps[0]?.getD undef = .pointer T := by simpa [Act.eval] using f0_
          exact stepOk_value rfl (v := .pointer T) (by go_simp) rfl
        · have f0_ : a1.eval (.tmp 0) = .pointer T := hk1.ev_old 0 (by kernel_rfl)
          have g0_ : a1.tmps[0]?.getD undef = .pointer T := by simpa [Act.eval] using f0_
          exact stepOk_value rfl (v := .pointer T) (by go_simp) rfl
        · exact stepOk_value rfl (run_load_agg (.tmp 5) 37 rfl (hk1.ev_old 5 (by kernel_rfl)) (cb seed) 32 HSL.out (by kernel_rfl) ((fs8.below hb0).below hk1.below).sees) rfl
        · have f2_ : a1.eval (.tmp 2) = .int .i64 leaf := hk1.ev_old 2 (by kernel_rfl)
          have g2_ : a1.tmps[2]?.getD undef = .int .i64 leaf := by simpa [Act.eval] using f2_
          exact stepOk_value rfl (v := .int .i64 leaf) (by go_simp) rfl
        · have f10_ : a1.eval (.tmp 10) = .int .i64 (k : Int) := hk1.ev_old 10 (by kernel_rfl)
          have g10_ : a1.tmps[10]?.getD undef = .int .i64 (k : Int) := by simpa [Act.eval] using f10_
          exact stepOk_value rfl (v := .int .i64 (k : Int)) (by go_simp) rfl
        · have f11_ : a1.eval (.tmp 11) = .int .i64 (v : Int) := hk1.ev_old 11 (by kernel_rfl)
          have g11_ : a1.tmps[11]?.getD undef = .int .i64 (v : Int) := by simpa [Act.eval] using f11_
          exact stepOk_value rfl (v := .int .i64 (v : Int)) (by go_simp) rfl
        · obtain ⟨y6, e6, q6, rfl⟩ := hk1.ev_new hd1 6 33 (by kernel_rfl) rfl
          refine stepOk_enter rfl (f := 161) (args := #[.int .i64 (v : Int)]) (by go_simp) ?_
          refine (other_same (w := w') (v : Int) (by omega)).mono ?_
          rintro e w5 ⟨rfl, rfl⟩
          exact ⟨_, rfl, rfl, Below.refl _ _⟩
        · obtain ⟨y2, e2, q2, rfl⟩ := hk1.ev_new hd1 2 29 (by kernel_rfl) rfl
          obtain ⟨y3, e3, q3, rfl⟩ := hk1.ev_new hd1 3 30 (by kernel_rfl) rfl
          obtain ⟨y4, e4, q4, rfl⟩ := hk1.ev_new hd1 4 31 (by kernel_rfl) rfl
          obtain ⟨y5, e5, q5, rfl⟩ := hk1.ev_new hd1 5 32 (by kernel_rfl) rfl
          obtain ⟨y7, e7, q7, rfl⟩ := hk1.ev_new hd1 7 34 (by kernel_rfl) rfl
          refine stepOk_enter rfl (f := 157) (args := #[.pointer T, .agg (cb seed).toArray, .int .i64 leaf, .int .i64 (k : Int), .int .i64 (1 - (v : Int))]) (by go_simp) ?_
          have hsec := Secret_any (hG.step (Below.then_ (Below.then_ hB8 hb0) hk1.below)) seed HS.out leaf (k : Int) (1 - (v : Int)) hl (by omega) (by omega)
          rw [show ((k : Nat) : Int).toNat = k from rfl, show (1 - (v : Int)).toNat = 1 - v from by omega, HX.out] at hsec
          refine hsec.mono ?_
          rintro e w5 ⟨rfl, hB5⟩
          exact ⟨_, rfl, rfl, hB5⟩
        · obtain ⟨y1, e1, q1, rfl⟩ := hk1.ev_new hd1 1 28 (by kernel_rfl) rfl
          obtain ⟨y8, e8, q8, rfl⟩ := hk1.ev_new hd1 8 35 (by kernel_rfl) rfl
          refine stepOk_enter rfl (f := 78) (args := #[.pointer T, .agg (cb X).toArray]) (by go_simp) ?_
          have hhalf := Half_any (hG.step (Below.then_ (Below.then_ hB8 hb0) hk1.below)) X HXL.out
          rw [HY.out] at hhalf
          refine hhalf.mono ?_
          rintro e w5 ⟨rfl, hB5⟩
          exact ⟨_, rfl, rfl, hB5⟩
        · have f9_ : a1.eval (.tmp 9) = .pointer (some ⟨ga, 0, none⟩) := hk1.ev_old 9 (by kernel_rfl)
          have g9_ : a1.tmps[9]?.getD undef = .pointer (some ⟨ga, 0, none⟩) := by simpa [Act.eval] using f9_
          exact stepOk_value rfl (v := .pointer (some ⟨ga, 8192, none⟩)) (by go_simp) rfl
        · obtain ⟨y10, e10, q10, rfl⟩ := hk1.ev_new hd1 10 37 (by kernel_rfl) rfl
          obtain ⟨y0, e0, q0, rfl⟩ := hk1.ev_new hd1 0 27 (by kernel_rfl) rfl
          exact stepOk_value rfl (run_ixA (.tmp 37) (.tmp 27) rfl arrZD sizeD e10 e0 rfl (by omega) (by omega)) rfl
      · intro a1 w9 hb9 hp
        obtain ⟨x0, p0, x1, p1, x2, p2, x3, p3, x4, p4, x5, p5, x6, p6, x7, p7, x8, p8, x9, p9, x10, p10, x11, p11, rfl⟩ := hp
        simp only [sgnFacts] at p0 p1 p2 p3 p4 p5 p6 p7 p8 p9 p10 p11
        subst p0 p1 p2 p3 p4 p5 p6 p7 p8 p9 p10 p11
        simp only [List.drop_succ_cons, List.drop_zero, Act.put, List.setIfInBounds_toArray, List.set_cons_succ, List.set_cons_zero]
        have hBw9 := Below.then_ hB8 hb9
        go_wp2_with (with_reducible refine wpList_store rfl rfl (.tmp 38) (.tmp 36) 38 rfl ga (8192 + 32 * k) w.heap.size 138 16384 (cb M) (cb Y) rfl rfl 32 HYC.out (by kernel_rfl) (f8.below hb9) (by omega) (cb_one _) w hBw9 n4 ?_; intro w10 f10 hB10 ho10 hz10)
        rw [cb_splice, show 8192 + 32 * k = 32 * (256 + k) from by omega] at f10
        go_roundw
        case rel =>
          refine ⟨k + 1, _, by omega, by go_num, Lib.hid ?_, Lib.hid ?_, (fs8.below hb9).other n1 ho10, (fd8.below hb9).other n2 ho10, f10, (fr8.below hb9).other n3 ho10, hB10⟩
          · rw [len_splice8 _ _ _ (by rw [HYL.out, HML.out]; omega), HML.out]
          · intro j hj
            rw [chunk_splice _ _ _ _ HYL.out (by rw [HML.out]; omega), chunk_splice _ _ _ _ HYL.out (by rw [HML.out]; omega), if_neg (by omega), ← HM.out, chunk_splice _ _ _ _ HZL.out (by rw [HL.out]; omega), chunk_splice _ _ _ _ HZL.out (by rw [HL.out]; omega)]
            by_cases e : j = k
            · subst e
              rw [if_pos rfl, if_pos rfl]
              exact ⟨HE1.out.symm, HE2.out.symm⟩
            · rw [if_neg e, if_neg (by omega), if_neg (by omega)]
              exact HC.out j (by omega)
        case measure => simp [intOf]; omega
    · obtain rfl : k = 256 := by omega
      have hlS := len_signS G seed leaf.toNat d
      have hlO := len_signO G seed leaf.toNat d
      have e : L = signS G seed leaf.toNat d ++ signO G seed leaf.toNat d := by
        refine chunks_ext L _ 512 HL.out (by rw [List.length_append, hlS, hlO]) fun j hj => ?_
        by_cases h : j < 256
        · rw [chunk_lft _ _ hlS j h, (HC.out j h).1, signS, chunk_ofChunks (signSF G seed leaf.toNat d) 256 (fun j _ => len_secF _ _ _ _ _) j h]
        · obtain ⟨i, rfl⟩ : ∃ i, j = 256 + i := ⟨j - 256, by omega⟩
          rw [chunk_rgt _ _ hlS i, (HC.out i (by omega)).2, signO, chunk_ofChunks (signOF G seed leaf.toNat d) 256 (fun j _ => len_halfF _ _) i (by omega)]
      have HE := Lib.hid e
      have HLC : Hid ((cb L).length = 16384) := Lib.hid (by rw [List.length_map]; exact HL.out)
      clear e hlS hlO
      go_wp2_with (first
        | (with_reducible refine wpList_load rfl (.tmp 9) 138 rfl ga 0 _ rfl (cb L) 16384 HLC.out (by kernel_rfl) fa.sees ?_)
        | (with_reducible refine wpList_store rfl rfl (.tmp 8) (.tmp 40) 138 rfl gr 0 w.heap.size 138 16384 (cb (List.replicate 16384 0)) (cb L) rfl rfl 16384 HLC.out (by kernel_rfl) fr (by omega) (cb_one _) w hB n5 ?_; intro w9 hF9 hB9 _ _))
      rw [splice_zb 16384 L HL.out] at hF9
      exact bodyPost_cell rfl rfl (cb L) 16384 HLC.out (by kernel_rfl) hF9.sees rfl ⟨by rw [HE.out], hB9⟩
end
end Go.Proofs.Ytpdfalgjmeagjaa

namespace Go.Proofs.Ytpdfalgjmeagjaa
open Go.RowKit
set_option linter.unusedVariables false

theorem seesO_left {w : World} {B g : Nat} {S O : List UInt8} (h : Sees w B (some ⟨g, 0, none⟩) (cb (S ++ O))) (hS : S.length = 8192) : Sees w B (some ⟨g, 0, none⟩) (cb S) := by
  have h1 := h.take_ 8192
  have e : (cb (S ++ O)).take 8192 = cb S := by
    rw [cb, List.map_append, List.take_append_of_le_length (by rw [List.length_map]; omega), List.take_of_length_le (by rw [List.length_map]; omega)]
  rwa [e] at h1
theorem seesO_right {w : World} {B g : Nat} {S O : List UInt8} (h : Sees w B (some ⟨g, 0, none⟩) (cb (S ++ O))) (hS : S.length = 8192) : Sees w B (some ⟨g, 8192, none⟩) (cb O) := by
  have h1 := h.drop_ 8192
  rw [Nat.zero_add] at h1
  have e : (cb (S ++ O)).drop 8192 = cb O := by
    rw [cb, List.map_append, List.drop_append, List.length_map, hS, Nat.sub_self, List.drop_zero, List.drop_eq_nil_of_le (by rw [List.length_map]; omega), List.nil_append]
  rwa [e] at h1
theorem arrSA : Try.prog.underlying 135 = some (.array 256 37) := by kernel_rfl
theorem sizeSE : (Try.prog.info? 37).map (·.size) = some 32 := by kernel_rfl
theorem arrSE : Try.prog.underlying 37 = some (.array 32 5) := by kernel_rfl
theorem run_index97 {o : Oper} {a : Act} {w : World} {S X : List UInt8} {k : Nat} (x y : Operand) (hop : o.op = .index 135 x y) (hx : a.eval x = .agg (cb S).toArray) (hS : S.length = 8192) (hy : a.eval y = .int .i64 (k : Int)) (hk : k < 256) (hX : chunk S k = X) :
    (execOp a.eval o).run Try.prog w = .ok (.value (.agg (cb X).toArray)) w := by
  obtain ⟨i, hi, hsz⟩ := Option.map_eq_some_iff.1 sizeSE
  have e : List.take 32 (List.drop (k * 32) (cb S)) = cb X := by
    rw [← hX, Nat.mul_comm k 32]
    simp [cb, chunk, List.map_take, List.map_drop]
  have hp : (part 37 (cb S).toArray (k * 32)).run Try.prog w = .ok (.agg (cb X).toArray) w := by
    simp [part, isAgg, run_underlying arrSE, sizeOf, typeInfo, hi, hsz, Sem.run_bind, e]
  unfold execOp
  simp [hop, hx, hy, Instr.index, asIntOf, run_underlying arrSA, sizeOf, typeInfo, hi, hsz, hk, Sem.run_bind, hp]
section
variable {w : World}
set_option maxHeartbeats 4000000 in
set_option maxRecDepth 100000 in
theorem Open_any {T : Option Addr} {G : Dg} (hG : DgAt w T G) (d S O : List UInt8) (hd : d.length = 32) (h1 : S.length = 8192) (h2 : O.length = 8192) :
    Calls Try.prog 79 #[.pointer T, .agg (cb d).toArray, .agg (cb (S ++ O)).toArray] w fun e w' => e = .returned (.agg (cb (openF G d S O)).toArray) ∧ Below w.heap.size w w' := by
  have HD := Lib.hid hd
  have HDL := Lib.hid (show (cb d).length = 32 by rw [List.length_map]; exact hd)
  have H1 := Lib.hid h1
  have H2 := Lib.hid h2
  have HSO : Hid ((cb (S ++ O)).length = 16384) := Lib.hid (by rw [List.length_map, List.length_append, h1, h2])
  have HSL : Hid ((cb S).length = 8192) := Lib.hid (by rw [List.length_map]; exact h1)
  have HOL : Hid ((cb O).length = 8192) := Lib.hid (by rw [List.length_map]; exact h2)
  have HKL := Lib.hid (show (cb (openF G d S O)).length = 32 by rw [List.length_map]; exact G.lof _)
  have HKL2 := Lib.hid (show (openF G d S O).length = 32 from G.lof _)
  have HH8 := Lib.hid (len_halvesF G S)
  obtain ⟨R, hR⟩ : ∃ R, openF G d S O = R := ⟨_, rfl⟩
  rw [hR] at HKL HKL2 ⊢
  obtain ⟨W, hW⟩ : ∃ W, S ++ O = W := ⟨_, rfl⟩
  have hsl := fun (w' : World) (B g : Nat) (h : Sees w' B (some ⟨g, 0, none⟩) (cb W)) => seesO_left (S := S) (O := O) (by rw [hW]; exact h) h1
  have hsr := fun (w' : World) (B g : Nat) (h : Sees w' B (some ⟨g, 0, none⟩) (cb W)) => seesO_right (S := S) (O := O) (by rw [hW]; exact h) h1
  rw [hW] at HSO ⊢
  have hR2 : G.of (textF 3 (pairsF d (halvesF G S) O)) = R := hR
  have HCP := Lib.hid (chunks_pairL d (halvesF G S) O (len_halvesF G S) h2)
  have HLP := Lib.hid (len_pairL d (halvesF G S) O (len_halvesF G S) h2)
  have HPR := Lib.hid (fun w' => paired_any (w := w') d (halvesF G S) O hd (len_halvesF G S) h2)
  have HHF : Hid (∀ L : List UInt8, L.length = 8192 → (∀ j, j < 256 → chunk L j = halfF G (chunk S j)) → L = halvesF G S) := Lib.hid (fun L hl hc => chunks_eq L _ 256 hl hc)
  obtain ⟨HV, hHV⟩ : ∃ HV, halvesF G S = HV := ⟨_, rfl⟩
  rw [hHV] at HH8 hR2 HCP HLP HPR HHF
  obtain ⟨PL, hPL⟩ : ∃ PL, pairL d HV O = PL := ⟨_, rfl⟩
  rw [hPL] at HCP HLP HPR
  have HR := Lib.hid hR2
  have HPC : Hid ((cb PL).length = 16384) := Lib.hid (by rw [List.length_map]; exact HLP.out)
  have HSLF := Lib.hid hsl
  have HSRF := Lib.hid hsr
  clear hd h1 h2 hR hR2 hW hHV hPL hsl hsr
  go_enter Try.func79, Try.ntmps79
  go_wp2_with (first
    | (with_reducible refine wpList_box (o := ⟨some 4, _, _, _, _, _⟩) rfl (.tmp 1) 38 rfl (cb d) rfl 32 HDL.out (by decide) ?_; intro gd w1 hgd hFd hBd)
    | (with_reducible refine wpList_box (o := ⟨some 5, _, _, _, _, _⟩) rfl (.tmp 2) 138 rfl (cb W) rfl 16384 HSO.out (by decide) ?_; intro gs w2 hgs hFs hBs)
    | (with_reducible refine wpList_alloc (o := ⟨some 6, _, _, _, _, _⟩) rfl 38 rfl (cb (List.replicate 32 0)) (by kernel_rfl) 32 (len_zb 32) (by decide) ?_; intro gr w3 hgr hFr hBr)
    | (with_reducible refine wpList_alloc (o := ⟨some 7, _, _, _, _, _⟩) rfl 136 rfl (cb (List.replicate 8192 0)) (by kernel_rfl) 8192 (len_zb 8192) (by decide) ?_; intro ga w4 hga hFa hBa)
    | (with_reducible refine wpList_load (o := ⟨some 12, _, _, _, _, _⟩) rfl (.tmp 11) 135 rfl gs 0 _ rfl (cb S) 8192 HSL.out (by kernel_rfl) (HSLF.out _ _ _ ((hFs.below hBr).below hBa).sees) ?_))
  have z1 := hBd.size
  have z2 := hBs.size
  have z3 := hBr.size
  have ld := hFd.lt_size
  have ls := hFs.lt_size
  have lr := hFr.lt_size
  have hB4 := Below.then_ (Below.then_ (Below.then_ hBd hBs) hBr) hBa
  have fd := ((hFd.below hBs).below hBr).below hBa
  have fs := ((hFs.below hBr).below hBa).lower (base' := w.heap.size) (by omega)
  have fr := (hFr.below hBa).lower (base' := w.heap.size) (by omega)
  have fa := hFa.lower (base' := w.heap.size) (by omega)
  have n1 : gd ≠ ga := by omega
  have n2 : gs ≠ ga := by omega
  have n3 : gr ≠ ga := by omega
  have n4 : w.heap.size ≤ ga := by omega
  have n5 : w.heap.size ≤ gr := by omega
  clear hFd hFs hFr hFa hBd hBs hBr hBa z1 z2 z3 ld ls lr hgs hgd hgr hga
  go_loopw [13] (fun i wr => ∃ (k : Nat) (L : List UInt8), k ≤ 256 ∧ i = .int .i64 (k : Int) ∧ Hid (L.length = 8192) ∧ Hid (∀ j, j < k → chunk L j = halfF G (chunk S j)) ∧ Fresh w.heap.size 38 wr (some ⟨gd, 0, none⟩) 32 32 (cb d) ∧ Fresh w.heap.size 138 wr (some ⟨gs, 0, none⟩) 16384 16384 (cb W) ∧ Fresh w.heap.size 136 wr (some ⟨ga, 0, none⟩) 8192 8192 (cb L) ∧ Fresh w.heap.size 38 wr (some ⟨gr, 0, none⟩) 32 32 (cb (List.replicate 32 0)) ∧ Below w.heap.size w wr) (fun i _ => 256 - (intOf i).toNat)
  case atStart => exact ⟨0, _, by omega, rfl, Lib.hid List.length_replicate, Lib.hid (fun j hj => by omega), fd, fs, fa, fr, hB4⟩
  case round =>
    clear fd fs fa fr hB4
    obtain ⟨k, L, hk, rfl, HL, HC, fd, fs, fa, fr, hB⟩ := hrel
    by_cases hlt : k < 256
    · obtain ⟨X, hX⟩ : ∃ X, chunk S k = X := ⟨_, rfl⟩
      obtain ⟨Y, hY⟩ : ∃ Y, halfF G X = Y := ⟨_, rfl⟩
      have HX := Lib.hid hX
      have HY := Lib.hid hY
      have HXL : Hid (X.length = 32) := Lib.hid (by rw [← hX]; exact len_chunk S k (by rw [H1.out]; omega))
      have HXC : Hid ((cb X).length = 32) := Lib.hid (by rw [List.length_map]; exact HXL.out)
      have HYL : Hid (Y.length = 32) := Lib.hid (by rw [← hY]; exact len_halfF _ _)
      have HYC : Hid ((cb Y).length = 32) := Lib.hid (by rw [List.length_map]; exact HYL.out)
      have hhalf := fun w' (y : Below w.heap.size w w') => Half_any (hG.step y) X HXL.out
      rw [hY] at hhalf
      have HHA := Lib.hid hhalf
      clear hX hY hhalf
      go_upto_region 5 with (first
        | (with_reducible refine wpList_is (o := ⟨some 16, _, _, _, _, _⟩) rfl (run_index97 (.tmp 12) (.tmp 13) rfl rfl H1.out rfl hlt HX.out) ?_)
        | (with_reducible refine wpList_alloc (o := ⟨some 9, _, _, _, _, _⟩) rfl 37 rfl (cb (List.replicate 32 0)) (by kernel_rfl) 32 (len_zb 32) (by decide) ?_; intro gx w5 hgx hFx hBx; have hBw5 := Below.then_ hB hBx; have zb := hB.size)
        | (with_reducible refine wpList_store rfl rfl (.tmp 9) (.tmp 16) 37 rfl gx 0 wr.heap.size 37 32 (cb (List.replicate 32 0)) (cb X) rfl rfl 32 HXC.out (by kernel_rfl) hFx (by omega) (cb_one _) w hBw5 (by omega) ?_; intro w6 f6 hB6 ho6 hz6))
      rw [splice_zb 32 X HXL.out] at f6
      have fd6 := (fd.below hBx).other (g' := gx) (by have := fd.lt_size; omega) ho6
      have fs6 := (fs.below hBx).other (g' := gx) (by have := fs.lt_size; omega) ho6
      have fa6 := (fa.below hBx).other (g' := gx) (by have := fa.lt_size; omega) ho6
      have fr6 := (fr.below hBx).other (g' := gx) (by have := fr.lt_size; omega) ho6
      clear fd fs fa fr hBx ho6 hz6 hB hBw5 hFx zb
      go_wp2_with (first
        | (with_reducible refine wpList_load (o := ⟨some 19, _, _, _, _, _⟩) rfl (.tmp 9) 37 rfl gx 0 _ rfl (cb X) 32 HXC.out (by kernel_rfl) f6.sees ?_)
        | (go_at_call 78; refine (HHA.out _ hB6).mono ?_; rintro e w7 ⟨rfl, hB7⟩; have hBw7 := Below.then_ hB6 hB7)
        | (with_reducible refine wpList_store rfl rfl (.tmp 21) (.tmp 20) 38 rfl ga (k * 32) w.heap.size 136 8192 (cb L) (cb Y) rfl rfl 32 HYC.out (by kernel_rfl) (fa6.below hB7) (by omega) (cb_one _) w hBw7 n4 ?_; intro w8 f8 hB8 ho8 hz8))
      rw [cb_splice, Nat.mul_comm k 32] at f8
      go_roundw
      case rel =>
        refine ⟨k + 1, _, by omega, by go_num, Lib.hid ?_, Lib.hid ?_, (fd6.below hB7).other n1 ho8, (fs6.below hB7).other n2 ho8, f8, (fr6.below hB7).other n3 ho8, hB8⟩
        · rw [len_splice8 _ _ _ (by rw [HYL.out, HL.out]; omega), HL.out]
        · intro j hj
          rw [chunk_splice _ _ _ _ HYL.out (by rw [HL.out]; omega)]
          by_cases e : j = k
          · rw [if_pos e, e, HX.out, HY.out]
          · rw [if_neg e]
            exact HC.out j (by omega)
      case measure => simp [intOf]; omega
    · obtain rfl : k = 256 := by omega
      have e := HHF.out L HL.out HC.out
      rw [e] at fa
      have hVC : Hid ((cb HV).length = 8192) := Lib.hid (by rw [List.length_map]; exact HH8.out)
      have zb := hB.size
      have la := fa.lt_size
      clear e HC HL HHF
      go_wp2_with (first
        | (with_reducible refine wpList_load (o := ⟨some 23, _, _, _, _, _⟩) rfl (.tmp 4) 38 rfl gd 0 _ rfl (cb d) 32 HDL.out (by kernel_rfl) fd.sees ?_)
        | (with_reducible refine wpList_load (o := ⟨some 24, _, _, _, _, _⟩) rfl (.tmp 7) 136 rfl ga 0 _ rfl (cb HV) 8192 hVC.out (by kernel_rfl) fa.sees ?_)
        | (with_reducible refine wpList_load (o := ⟨some 26, _, _, _, _, _⟩) rfl (.tmp 25) 136 rfl gs 8192 _ rfl (cb O) 8192 HOL.out (by kernel_rfl) (HSRF.out _ _ _ fs.sees) ?_)
        | (go_at_call 162; refine (HPR.out _).mono ?_; rintro e w6 ⟨rfl, hB6⟩; have hBw6 := Below.then_ hB hB6; have zb6 := hB6.size)
        | (with_reducible refine wpList_alloc (o := ⟨some 10, _, _, _, _, _⟩) rfl 229 rfl (cb (List.replicate 16384 0)) (by kernel_rfl) 16384 (len_zb 16384) (by decide) ?_; intro gp w7 hgp hFp hBp; have hBw7 := Below.then_ hBw6 hBp)
        | (with_reducible refine wpList_store rfl rfl (.tmp 10) (.tmp 27) 229 rfl gp 0 w6.heap.size 229 16384 (cb (List.replicate 16384 0)) (cb PL) rfl rfl 16384 HPC.out (by kernel_rfl) hFp (by omega) (cb_one _) w hBw7 (by omega) ?_; intro w8 f8 hB8 ho8 hz8; rw [splice_zb 16384 PL HLP.out] at f8; have fr8 := ((fr.below hB6).below hBp).other (g' := gp) (by have := fr.lt_size; omega) ho8)
        | (go_at_call 159; refine (parts_any gp PL f8.sees HLP.out).mono ?_; rintro e w9 ⟨A9, c9, ps, rfl, hP, hls, hm, hB9⟩; rw [HCP.out] at hls; have hBw9 := Below.then_ hB8 hB9)
        | (go_at_call 158; refine (TaggedD (hG.step hBw9) 3 A9 512 c9 ps _ hP hls (by omega) hm R HR.out).mono ?_; rintro e w10 ⟨rfl, hB10⟩; have hBw10 := Below.then_ hBw9 hB10)
        | (with_reducible refine wpList_store rfl rfl (.tmp 6) (.tmp 30) 38 rfl gr 0 w.heap.size 38 32 (cb (List.replicate 32 0)) (cb R) rfl rfl 32 HKL.out (by kernel_rfl) ((fr8.below hB9).below hB10) (by omega) (cb_one _) w hBw10 n5 ?_; intro w11 hF11 hB11 _ _))
      rw [splice_zb 32 R HKL2.out] at hF11
      exact bodyPost_cell rfl rfl (cb R) 32 HKL.out (by kernel_rfl) hF11.sees rfl ⟨rfl, hB11⟩
end
end Go.Proofs.Ytpdfalgjmeagjaa
