/-
  The document's own Write: by value, of a right hasher, and of one that is not.
-/
import Derived.Test.YtggcapkipcdlmaaRefPad
import Derived.Test.YtggcapkipcdlmaaRefBlock
import Derived.Test.YtggcapkipcdlmaaRefRight
import Derived.Test.YtggcapkipcdlmaaHzOver
import Derived.Test.YtggcapkipcdlmaaBetween
import Derived.Maps.AppendAt
import Derived.Deep.CutBlock
namespace Go.Proofs.Ytggcapkipcdlmaa
open Go.RowKit
set_option linter.unusedVariables false

/-- 'append(nil, x...)', as one run. -/
theorem run_app8 (w : World) (ty : TypeId) (A : Option Addr) (m d : Nat) (l : List UInt8) (hS : Sees w w.heap.size A (cb l)) (hl : l.length = m) (hm : m ≤ 1099511627776) :
    ∃ A' c' w', (Builtin.append_ #[27, 27] ty #[.slice none 0 0, .slice A m d]).run Try.prog w = .ok (.slice A' m c') w' ∧ Fresh w.heap.size 5 w' A' m c' (cb l) ∧ Below w.heap.size w w' := by
  obtain ⟨i0, hi, hz0, hz1, hz2⟩ := info_parts info8
  have main : ∀ ad, A = some ad → (∀ j u, (cb l)[j]? = some u → w.cell? (ad.add j) = some u) → ∃ A' c' w', (Builtin.append_ #[27, 27] ty #[.slice none 0 0, .slice A m d]).run Try.prog w = .ok (.slice A' m c') w' ∧ Fresh w.heap.size 5 w' A' m c' (cb l) ∧ Below w.heap.size w w' := by
    intro ad hA hc
    obtain ⟨v', w', hr, hown, hgr, hnil, _⟩ := run_append_own_at (P := Try.prog) w w.heap.size 27 ty 5 i0 (.int .u8 0) 1 1 Try.underlying27 hi hz0 hz1 hz2 rfl (by omega) (.slice none 0 0) 0 [] (fresh_nil _ _ _) ad m d (cb l) (by simp [hl]) hc (cb_one l) (by unfold maxLen; omega) (by omega) (Nat.le_refl _)
    have hB : Below w.heap.size w w' := (Below.refl w.heap.size w).grown hgr (Nat.le_refl _) (fun k hk => by simp [Value.ownBlock] at hk)
    rw [List.nil_append, Nat.zero_add] at hown
    subst hA
    rcases hown.2 with ⟨rfl, h0⟩ | ⟨g, cap, cu, rfl, _⟩
    · rw [h0] at hown hr ⊢
      exact ⟨none, 0, w', hr, hown, hB⟩
    · exact ⟨_, cap, w', hr, hown, hB⟩
  by_cases h0 : m = 0
  · subst h0
    obtain rfl : l = [] := List.eq_nil_of_length_eq_zero hl
    cases hA : A with
    | none => exact ⟨none, 0, w, none_app (c := 0) (base := w.heap.size) (xs := []) (fresh_nil _ _ _), fresh_nil _ _ _, Below.refl _ _⟩
    | some ad => exact hA ▸ main ad hA (fun j u hj => by simp at hj)
  · obtain ⟨b, off, hA, _, hc⟩ := hS (by simp; omega)
    exact main _ hA (fun j u hj => by rw [Addr.add_lit]; exact hc j u hj)
theorem build_hz (s : List UInt32) (hs : s.length = 8) (M : Int) (w : World) : (Instr.build 29 #[(0, .agg (cw s).toArray), (2, .int .i64 M)]).run Try.prog w = .ok (.agg (hz s (.slice none 0 0) M).toArray) w := by
  obtain ⟨a, b, c, d, e, f, g, i, rfl⟩ := eight s hs
  exact run_build w _ _ _ (by kernel_rfl)
theorem wpList_bhz {w : World} {ops : Array Oper} {rest : List Oper} {o : Oper} {a : Act} {Q : Exit → Act → World → Prop} (hg : o.guard = none) (x y : Operand) (hop : o.op = .build 29 #[(0, x), (2, y)]) (s : List UInt32) (M : Int)
    (hx : a.eval x = .agg (cw s).toArray) (hy : a.eval y = .int .i64 M) (hs : s.length = 8) (hK : wpList Try.prog ops Q rest (a.put o.dst (.agg (hz s (.slice none 0 0) M).toArray)) w) : wpList Try.prog ops Q (o :: rest) a w := by
  refine wpList_plain hg fun K hK' => ?_
  have hrun : (execOp a.eval o).run Try.prog w = .ok (.value (.agg (hz s (.slice none 0 0) M).toArray)) w := by
    have h := build_hz s hs M w
    simp only [execOp, hop]
    simp only [List.map_toArray, List.map_cons, List.map_nil, hx, hy, Sem.run_bind]
    rw [h]
    rfl
  unfold Oper.wp
  rw [hrun]
  exact hK' _ _ hK
def rwrFacts (gx N c t : Nat) (A A' : Option Addr) (tab : List Value) (st nx : List UInt32) (k : Nat) (v : Value) (w : World) : Prop :=
  match k with
  | 0 => v = .agg tab.toArray
  | 1 => v = .pointer (some ⟨gx, 0, none⟩)
  | 2 => v = .agg (cw st).toArray
  | 3 => v = .slice A N c
  | 4 => v = .int .i64 (t : Int)
  | 5 => v = .int .i64 (t : Int)
  | 6 => v = .int .i64 ((t : Int) + 64)
  | 7 => v = .slice A' 64 (c - t)
  | 8 => v = .agg (cw nx).toArray
  | 9 => v = .pointer (some ⟨gx, 0, none⟩)
  | _ => True
theorem rwrFacts_stab (gx N c t : Nat) (A A' : Option Addr) (tab : List Value) (st nx : List UInt32) : ∀ k v w w', Below w.heap.size w w' → rwrFacts gx N c t A A' tab st nx k v w → rwrFacts gx N c t A A' tab st nx k v w' := fun k v w w' _ h => h
def rweFacts (B gx N c t m : Nat) (A A' : Option Addr) (l : List UInt8) (k : Nat) (v : Value) (w : World) : Prop :=
  match k with
  | 0 => v = .pointer (some ⟨gx, 8, none⟩)
  | 1 => v = .slice none 0 0
  | 2 => v = .slice A N c
  | 3 => v = .int .i64 (t : Int)
  | 4 => v = .slice A' m (c - t)
  | 5 => ∃ A2 c2, v = .slice A2 m c2 ∧ Fresh B 5 w A2 m c2 (cb l)
  | 6 => v = .pointer (some ⟨gx, 8, none⟩)
  | _ => True
theorem rweFacts_stab (B gx N c t m : Nat) (A A' : Option Addr) (l : List UInt8) : ∀ k v w w', Below w.heap.size w w' → rweFacts B gx N c t m A A' l k v w → rweFacts B gx N c t m A A' l k v w' := fun k v w w' hb h =>
  match k, h with
  | 0, h => h
  | 1, h => h
  | 2, h => h
  | 3, h => h
  | 4, h => h
  | 5, ⟨A2, c2, e, h⟩ => ⟨A2, c2, e, h.below hb⟩
  | 6, h => h
  | _ + 7, _ => trivial
theorem hz_take8 {w : World} {base g : Nat} {s : List UInt32} {v : Value} {L : Int} (hs : s.length = 8) (h : Fresh base 29 w (some ⟨g, 0, none⟩) 10 10 (hz s v L)) : Sees w w.heap.size (some ⟨g, 0, none⟩) (cw s) := by
  have := h.sees.take_ 8
  rwa [show (hz s v L).take 8 = cw s from by simp [hz, hs]] at this
set_option maxHeartbeats 2000000 in
set_option maxRecDepth 100000 in
theorem rWrite_any (first keys s : List UInt32) (R A : Option Addr) (m cr n c : Nat) (L : Int) (rest b : List UInt8) (w : World) (h1 : first.length = 8) (h2 : keys.length = 64) (hs : s.length = 8) (hr : Right m L) (hR : Sees w w.heap.size R (cb rest)) (hm : rest.length = m) (hA : Sees w w.heap.size A (cb b)) (hn : b.length = n) (hc : n ≤ 1000000000000) :
    Calls Try.prog 12 #[.agg (cw (first ++ keys)).toArray, .agg (hz s (.slice R m cr) L).toArray, .slice A n c] w (Told w (stAll keys s (rest ++ b)) (left (rest ++ b)) (L + n)) := by
  have HS := Lib.hid hs
  have HM := Lib.hid hm
  have HN := Lib.hid hn
  have H1 := Lib.hid h1
  have H2 := Lib.hid h2
  have HK : Hid ((cw (first ++ keys)).length = 72) := Lib.hid (by simp [h1, h2])
  have hm64 : m < 64 := by
    obtain ⟨h0, h1, h2⟩ := hr
    omega
  have hL0 : 0 ≤ L := hr.1
  have hL1 : L ≤ 72057594037927936 := hr.2.1
  have HR := Lib.hid hr
  have hln : IntKind.i64.wrap (L + (n : Int)) = L + (n : Int) := by rw [IntKind.wrap_i64]; omega
  clear hr hs hm hn h1 h2
  go_enter Try.func12, Try.ntmps12
  go_upto_region 6 with (first
    | (with_reducible refine wpList_box (o := ⟨some 3, _, _, _, _, _⟩) rfl (.tmp 0) 26 rfl (cw (first ++ keys)) rfl 72 HK.out (by decide) ?_; intro gt w1 hgt hFt hBt; have z1 := hBt.size)
    | (with_reducible refine wpList_box (o := ⟨some 4, _, _, _, _, _⟩) rfl (.tmp 1) 29 rfl (hz s (.slice R m cr) L) rfl 10 (hz_len _ _ _ HS.out) (by decide) ?_; intro gh w2 hgh hFh hBh; have z2 := hBh.size)
    | (with_reducible refine wpList_alloc (o := ⟨some 6, _, _, _, _, _⟩) rfl 29 rfl (hz (List.replicate 8 0) (.slice none 0 0) 0) (by kernel_rfl) 10 (by simp) (by decide) ?_; intro gr w3 hgr hFr hBr; have z3 := hBr.size; have hB03 := Below.then_ (Below.then_ hBt hBh) hBr; have hFh3 := hFh.below hBr; have hFt3 := (hFt.below hBh).below hBr)
    | (with_reducible refine wpList_load (o := ⟨some 10, _, _, _, _, _⟩) rfl (.tmp 4) 29 rfl gh 0 _ rfl (hz s (.slice R m cr) L) 10 (hz_len _ _ _ HS.out) (by kernel_rfl) hFh3.sees ?_)
    | (go_at_call 69; refine (rright_true s R m cr L _ HS.out HR.out).mono ?_; rintro e w4 ⟨rfl, hB4⟩; have z4 := hB4.size; have hB04 := Below.then_ hB03 hB4; have hFh4 := hFh3.below hB4; have hFt4 := hFt3.below hB4; have hFr4 := hFr.below hB4; have c9 := hFh4.cell_ (hz_n s (.slice R m cr) L HS.out))
    | (with_reducible refine wpList_load (o := ⟨some 15, _, _, _, _, _⟩) rfl (.tmp 14) 23 rfl gh 0 _ rfl (cw s) 8 (by simp [HS.out]) (by kernel_rfl) (hz_take8 HS.out hFh4) ?_)
    | (with_reducible refine wpList_bhz (o := ⟨some 21, _, _, _, _, _⟩) rfl (.tmp 15) (.tmp 20) rfl s (L + (n : Int)) rfl rfl HS.out ?_)
    | (with_reducible refine wpList_alloc (o := ⟨some 7, _, _, _, _, _⟩) rfl 29 rfl (hz (List.replicate 8 0) (.slice none 0 0) 0) (by kernel_rfl) 10 (by simp) (by decide) ?_; intro gx w5 hgx hFx hBx; have z5 := hBx.size)
    | (with_reducible refine wpList_store rfl rfl (.tmp 7) (.tmp 21) 29 rfl gx 0 _ 29 10 (hz (List.replicate 8 0) (.slice none 0 0) 0) (hz s (.slice none 0 0) (L + (n : Int))) rfl rfl 10 (hz_len _ _ _ HS.out) (by kernel_rfl) hFx (by omega) (hz_one _ _ _ rfl) w (Below.then_ hB04 hBx) (by omega) ?_; intro w6 hF6 hB6 ho6 hz6; rw [hz_over (by simp) HS.out] at hF6; have hB46 : Below w4.heap.size w4 w6 := below_from hB04 hB6 (by omega) (fun k hk => (ho6 k (by omega)).trans (hBx.block k hk)); have c8 := (hFh4.below hB46).cell_ (hz_rest s (.slice R m cr) L HS.out))
    | (at_builtin; refine wpList_app8 rfl (.tmp 22) (.tmp 24) rfl none R 0 0 m cr [] rest w6 rfl rfl (fresh_nil _ _ _) (hR.step hB6) HM.out (by omega) (Below.refl _ _) ?_; intro A7 c7 w7 hF7 hB7))
  have hF7' : Fresh w6.heap.size 5 w7 A7 m c7 (cb rest) := by simpa using hF7
  have hA7 := (hA.step hB6).step hB7
  have hmn : m + n ≤ 1099511627776 := by omega
  go_wp2_with (at_builtin; refine wpList_app8 rfl (.tmp 26) (.tmp 27) rfl A7 A m c7 n c rest b w6 rfl rfl hF7' hA7 HN.out hmn hB7 ?_; intro A8 c8' w8 hF8 hB8)
  obtain ⟨all, hall⟩ : ∃ all, rest ++ b = all := ⟨_, rfl⟩
  obtain ⟨N, hN⟩ : ∃ N, m + n = N := ⟨_, rfl⟩
  have HAL : Hid (all.length = N) := Lib.hid (by rw [← hall, ← hN, List.length_append, HM.out, HN.out])
  have hB68 := hB8
  rw [hall, hN] at hF8
  rw [hN] at hmn
  have hB06 : Below w.heap.size w w6 := hB6
  have z8 := hB8.size
  have lgt := hFt4.lt_size
  have lgx := Fresh.lt_size hF6
  have hGx : Fresh w.heap.size 29 w8 (some ⟨gx, 0, none⟩) 10 10 (hz s (.slice none 0 0) (L + (n : Int))) := (Fresh.below hF6 hB8).lower (by omega)
  have hGr : Fresh w.heap.size 29 w8 (some ⟨gr, 0, none⟩) 10 10 (hz (List.replicate 8 0) (.slice none 0 0) 0) := ((hFr4.below hB46).below hB8).lower (by omega)
  have hGt : Fresh w.heap.size 26 w8 (some ⟨gt, 0, none⟩) 72 72 (cw (first ++ keys)) := ((hFt4.below hB46).below hB8).lower (by omega)
  have lgr := hFr4.lt_size
  have ngr : gr ≠ gx := by omega
  have ngt : gt ≠ gx := by omega
  have hwx : w.heap.size ≤ gx := by omega
  have hB08 := Below.then_ hB6 hB8
  rw [hall, hN]
  have HALL := Lib.hid hall
  have HNN := Lib.hid hN
  clear hall hN
  clear hB8 hF7 hB7 hA7 hF7' hF6 hB6 ho6 hz6 hB46 c8 hFx hBx hFr4 hFt4 hFh4 hB04 hB4 c9 hFh3 hFt3 hB03 hFr hBr hFh hBh hFt hBt hR hA
  go_wp2_with fail
  go_loopw [9] (fun i wr => ∃ j t : Nat, t ≤ N ∧ Hid (t = 64 * j) ∧ i = .int .i64 (t : Int) ∧ Fresh w.heap.size 29 wr (some ⟨gx, 0, none⟩) 10 10 (hz (stN keys s all j) (.slice none 0 0) (L + (n : Int))) ∧ Fresh w.heap.size 29 wr (some ⟨gr, 0, none⟩) 10 10 (hz (List.replicate 8 0) (.slice none 0 0) 0) ∧ Fresh w.heap.size 26 wr (some ⟨gt, 0, none⟩) 72 72 (cw (first ++ keys)) ∧ Fresh w6.heap.size 5 wr A8 N c8' (cb all) ∧ Below w.heap.size w wr ∧ w8.heap.size ≤ wr.heap.size) (fun i _ => N - (intOf i).toNat)
  case atStart => exact ⟨0, 0, by omega, Lib.hid rfl, rfl, hGx, hGr, hGt, hF8, hB08, Nat.le_refl _⟩
  case round =>
    obtain ⟨j, t, htN, hj, rfl, hXj, hRj, hTj, hAj, hBj, hwj⟩ := hrel
    clear hGx hGr hGt hF8 hB08
    by_cases hlt : t + 64 ≤ N
    · have HST : Hid ((stN keys s all j).length = 8) := Lib.hid (len_stN _ _ _ HS.out _)
      obtain ⟨A', hrun, hsee⟩ := run_between A8 N c8' t (t + 64) (by omega) hlt hAj.cap.1
      rw [show t + 64 - t = 64 from by omega] at hrun hsee
      have hnx : stN keys s all (j + 1) = blockF keys (stN keys s all j) ((all.drop t).take 64) := by rw [hj.out]; rfl
      have HNX := Lib.hid hnx
      have HLT := Lib.hid hlt
      obtain ⟨blk, hblk⟩ : ∃ blk, (all.drop t).take 64 = blk := ⟨_, rfl⟩
      rw [hblk] at HNX
      have HBLK : Hid (blk.length = 64) := Lib.hid (by rw [← hblk]; have := HAL.out; simp; omega)
      have hsee2 := fun (w' : World) (x : Below wr.heap.size wr w') => hsee w' w'.heap.size all HAL.out (hAj.below x).sees
      rw [hblk] at hsee2
      clear hnx hsee hblk
      generalize hst : stN keys s all j = st at *
      obtain ⟨nx, hnb⟩ : ∃ nx, blockF keys st blk = nx := ⟨_, rfl⟩
      have HNB := Lib.hid hnb
      have HN8 : Hid (nx.length = 8) := Lib.hid (by rw [← hnb]; exact len_blockF _ _ _ HST.out)
      rw [hnb] at HNX
      clear hnb
      have ew : IntKind.i64.wrap ((t : Int) + 64) = (t : Int) + 64 := by rw [IntKind.wrap_i64]; omega
      have hq : ∀ W, (Instr.slice 27 (.slice A8 N c8') (some (.int .i64 (t : Int))) (some (.int .i64 ((t : Int) + 64))) none).run Try.prog W = .ok (.slice A' 64 (c8' - t)) W := fun W => hrun W
      go_wp2_with fail
      refine region_all_tail 10 (rwrFacts gx N c8' t A8 A' (cw (first ++ keys)) st nx) (by kernel_rfl) (by kernel_rfl) (by kernel_rfl) (rwrFacts_stab _ _ _ _ _ _ _ _ _) ?_ ?_
      · intro w0 hb0
        simp only [List.take_succ_cons, List.take_zero]
        refine ⟨?_, ?_, ?_, ?_, ?_, ?_, ?_, ?_, ?_, ?_, trivial⟩
        all_goals intro listed a1 w' hk hd
        · have f2 : a1.eval (.tmp 3) = .pointer (some ⟨gt, 0, none⟩) := hk.ev_old 3 (by kernel_rfl)
          exact stepOk_value rfl (run_load_agg (.tmp 3) 26 rfl f2 (cw (first ++ keys)) 72 HK.out (by kernel_rfl) ((hTj.below hb0).below hk.below).sees) rfl
        · have f7_ : a1.eval (.tmp 7) = .pointer (some ⟨gx, 0, none⟩) := hk.ev_old 7 (by kernel_rfl)
          have g7_ : a1.tmps[7]?.getD undef = .pointer (some ⟨gx, 0, none⟩) := by simpa [Act.eval] using f7_
          exact stepOk_value rfl (v := .pointer (some ⟨gx, 0, none⟩)) (by go_simp) rfl
        · obtain ⟨v1, e1, q1, rfl⟩ := hk.ev_new hd 1 35 (by kernel_rfl) rfl
          have f2 : a1.eval (.tmp 35) = .pointer (some ⟨gx, 0, none⟩) := e1
          exact stepOk_value rfl (run_load_agg (.tmp 35) 23 rfl f2 (cw st) 8 (by simp [HST.out]) (by kernel_rfl) (hz_take8 HST.out ((hXj.below hb0).below hk.below))) rfl
        · have f8_ : a1.eval (.tmp 8) = .slice A8 N c8' := hk.ev_old 8 (by kernel_rfl)
          have g8_ : a1.tmps[8]?.getD undef = .slice A8 N c8' := by simpa [Act.eval] using f8_
          exact stepOk_value rfl (v := .slice A8 N c8') (by go_simp) rfl
        · have f9_ : a1.eval (.tmp 9) = .int .i64 (t : Int) := hk.ev_old 9 (by kernel_rfl)
          have g9_ : a1.tmps[9]?.getD undef = .int .i64 (t : Int) := by simpa [Act.eval] using f9_
          exact stepOk_value rfl (v := .int .i64 (t : Int)) (by go_simp) rfl
        · have f9_ : a1.eval (.tmp 9) = .int .i64 (t : Int) := hk.ev_old 9 (by kernel_rfl)
          have g9_ : a1.tmps[9]?.getD undef = .int .i64 (t : Int) := by simpa [Act.eval] using f9_
          exact stepOk_value rfl (v := .int .i64 (t : Int)) (by go_simp) rfl
        · obtain ⟨v5, e5, q5, rfl⟩ := hk.ev_new hd 5 39 (by kernel_rfl) rfl
          exact stepOk_value rfl (v := .int .i64 ((t : Int) + 64)) (by go_simp) rfl
        · obtain ⟨v3, e3, q3, rfl⟩ := hk.ev_new hd 3 37 (by kernel_rfl) rfl
          obtain ⟨v4, e4, q4, rfl⟩ := hk.ev_new hd 4 38 (by kernel_rfl) rfl
          obtain ⟨v6, e6, q6, rfl⟩ := hk.ev_new hd 6 40 (by kernel_rfl) rfl
          exact stepOk_value rfl (v := .slice A' 64 (c8' - t)) (by go_simp) rfl
        · obtain ⟨v0, e0, q0, rfl⟩ := hk.ev_new hd 0 34 (by kernel_rfl) rfl
          obtain ⟨v2, e2, q2, rfl⟩ := hk.ev_new hd 2 36 (by kernel_rfl) rfl
          obtain ⟨v7, e7, q7, rfl⟩ := hk.ev_new hd 7 41 (by kernel_rfl) rfl
          refine stepOk_enter (by simp [Region.wanted]) (f := 20) (args := #[.agg (cw (first ++ keys)).toArray, .agg (cw st).toArray, .slice A' 64 (c8' - t)]) (by go_simp) ?_
          refine (rBlock_any first keys st A' (c8' - t) blk _ H1.out H2.out HST.out HBLK.out (hsee2 _ (Below.then_ hb0 hk.below))).mono ?_
          rintro e w5 ⟨rfl, hB5⟩
          exact ⟨_, rfl, (by rw [HNB.out]; rfl), hB5⟩
        · have f7_ : a1.eval (.tmp 7) = .pointer (some ⟨gx, 0, none⟩) := hk.ev_old 7 (by kernel_rfl)
          have g7_ : a1.tmps[7]?.getD undef = .pointer (some ⟨gx, 0, none⟩) := by simpa [Act.eval] using f7_
          exact stepOk_value rfl (v := .pointer (some ⟨gx, 0, none⟩)) (by go_simp) rfl
      · intro a1 w9 hbw hp
        obtain ⟨v0, p0, v1, p1, v2, p2, v3, p3, v4, p4, v5, p5, v6, p6, v7, p7, v8, p8, v9, p9, rfl⟩ := hp
        simp only [rwrFacts] at p0 p1 p2 p3 p4 p5 p6 p7 p8 p9
        subst p0 p1 p2 p3 p4 p5 p6 p7 p8 p9
        simp only [List.drop_succ_cons, List.drop_zero, Act.put, List.setIfInBounds_toArray, List.set_cons_succ, List.set_cons_zero]
        have hX9 := hXj.below hbw
        have hR9 := hRj.below hbw
        have hT9 := hTj.below hbw
        have hA9 := hAj.below hbw
        have hB9 := Below.then_ hBj hbw
        have z9 := hbw.size
        go_wp2_with (with_reducible refine wpList_store rfl rfl (.tmp 43) (.tmp 42) 23 rfl gx 0 w.heap.size 29 10 (hz st (.slice none 0 0) (L + (n : Int))) (cw nx) rfl rfl 8 (by simp [HN8.out]) (by kernel_rfl) hX9 (by omega) (cw_one _) w hB9 hwx ?_; intro w10 hF10 hB10 ho10 hz10)
        rw [hz_splice _ _ _ _ HST.out HN8.out] at hF10
        have hA10 := hA9.others (w' := w10) fun k hk => ho10 k (by omega)
        go_roundw
        case rel => exact ⟨j + 1, t + 64, HLT.out, Lib.hid (by rw [hj.out]; omega), by go_num, (by rw [HNX.out]; exact hF10), hR9.other ngr ho10, hT9.other ngt ho10, hA10, hB10, by omega⟩
        case measure => (have := HLT.out); simp [intOf]; omega
    · have hjN : j = N / 64 := by have := hj.out; omega
      have hstA : stAll keys s all = stN keys s all j := by unfold stAll; rw [HAL.out, hjN]
      have hlfA : left all = all.drop t := by unfold left; rw [HAL.out, hj.out, hjN]
      obtain ⟨mm, hmm⟩ : ∃ mm, N - t = mm := ⟨_, rfl⟩
      obtain ⟨lf, hlf⟩ : ∃ lf, all.drop t = lf := ⟨_, rfl⟩
      have HLF : Hid (lf.length = mm) := Lib.hid (by rw [← hlf, ← hmm, List.length_drop, HAL.out])
      have HST : Hid ((stN keys s all j).length = 8) := Lib.hid (len_stN _ _ _ HS.out _)
      obtain ⟨A', hrun, hsee0⟩ := run_from A8 N c8' t (by omega) hAj.cap.1
      rw [hmm] at hrun
      have hsee : ∀ (w' : World) (B : Nat), Sees w' B A8 (cb all) → Sees w' B A' (cb lf) := fun w' B h => by
        have := hsee0 w' B (cb all) (by rw [List.length_map]; exact HAL.out) h
        rwa [show (cb all).drop t = cb lf from by rw [← hlf]; simp [cb]] at this
      have hmm9 : mm ≤ 1099511627776 := by omega
      obtain ⟨st, hst⟩ : ∃ st, stN keys s all j = st := ⟨_, rfl⟩
      have HSTA : Hid (stAll keys s (rest ++ b) = st) := Lib.hid (by rw [HALL.out, hstA, hst])
      have HLFA : Hid (left (rest ++ b) = lf) := Lib.hid (by rw [HALL.out, hlfA, hlf])
      rw [hst] at HST hXj
      clear hsee0 hlf hmm hstA hlfA hjN hst
      go_wp2_with fail
      refine region_all_tail 7 (rweFacts wr.heap.size gx N c8' t mm A8 A' lf) (by kernel_rfl) (by kernel_rfl) (by kernel_rfl) (rweFacts_stab _ _ _ _ _ _ _ _ _) ?_ ?_
      · intro w0 hb0
        simp only [List.take_succ_cons, List.take_zero]
        refine ⟨?_, ?_, ?_, ?_, ?_, ?_, ?_, trivial⟩
        all_goals intro listed a1 w' hk hd
        · have f7_ : a1.eval (.tmp 7) = .pointer (some ⟨gx, 0, none⟩) := hk.ev_old 7 (by kernel_rfl)
          have g7_ : a1.tmps[7]?.getD undef = .pointer (some ⟨gx, 0, none⟩) := by simpa [Act.eval] using f7_
          exact stepOk_value rfl (v := .pointer (some ⟨gx, 8, none⟩)) (by go_simp) rfl
        · obtain ⟨v0, e0, q0, rfl⟩ := hk.ev_new hd 0 46 (by kernel_rfl) rfl
          have cc := ((hXj.below hb0).below hk.below).cell_ (hz_rest st (.slice none 0 0) (L + (n : Int)) HST.out)
          exact stepOk_value rfl (v := .slice none 0 0) (by go_simp) rfl
        · have f8_ : a1.eval (.tmp 8) = .slice A8 N c8' := hk.ev_old 8 (by kernel_rfl)
          have g8_ : a1.tmps[8]?.getD undef = .slice A8 N c8' := by simpa [Act.eval] using f8_
          exact stepOk_value rfl (v := .slice A8 N c8') (by go_simp) rfl
        · have f9_ : a1.eval (.tmp 9) = .int .i64 (t : Int) := hk.ev_old 9 (by kernel_rfl)
          have g9_ : a1.tmps[9]?.getD undef = .int .i64 (t : Int) := by simpa [Act.eval] using f9_
          exact stepOk_value rfl (v := .int .i64 (t : Int)) (by go_simp) rfl
        · obtain ⟨v2, e2, q2, rfl⟩ := hk.ev_new hd 2 48 (by kernel_rfl) rfl
          obtain ⟨v3, e3, q3, rfl⟩ := hk.ev_new hd 3 49 (by kernel_rfl) rfl
          exact stepOk_value rfl (v := .slice A' mm (c8' - t)) (by go_simp) rfl
        · obtain ⟨v1, e1, q1, rfl⟩ := hk.ev_new hd 1 47 (by kernel_rfl) rfl
          obtain ⟨v4, e4, q4, rfl⟩ := hk.ev_new hd 4 50 (by kernel_rfl) rfl
          have hbb := Below.then_ hb0 hk.below
          obtain ⟨A2, c2, w5, hr5, hF5, hB5⟩ := run_app8 w' 27 A' mm (c8' - t) lf (hsee w' w'.heap.size (hAj.below hbb).sees) HLF.out (by omega)
          exact stepOk_run rfl (v := .slice A2 mm c2) (w' := w5) (by simp [execOp, resolve, invoke, builtin, e1, e4, hr5, Result.andThen]) ⟨A2, c2, rfl, hF5.lower hbb.size⟩ hB5
        · have f7_ : a1.eval (.tmp 7) = .pointer (some ⟨gx, 0, none⟩) := hk.ev_old 7 (by kernel_rfl)
          have g7_ : a1.tmps[7]?.getD undef = .pointer (some ⟨gx, 0, none⟩) := by simpa [Act.eval] using f7_
          exact stepOk_value rfl (v := .pointer (some ⟨gx, 8, none⟩)) (by go_simp) rfl
      · intro a1 w9 hbw hp
        obtain ⟨v0, p0, v1, p1, v2, p2, v3, p3, v4, p4, v5, p5, v6, p6, rfl⟩ := hp
        simp only [rweFacts] at p0 p1 p2 p3 p4 p5 p6
        obtain ⟨A2, c2, rfl, hF2⟩ := p5
        subst p0 p1 p2 p3 p4 p6
        simp only [List.drop_succ_cons, List.drop_zero, Act.put, List.setIfInBounds_toArray, List.set_cons_succ, List.set_cons_zero]
        have hX9 := hXj.below hbw
        have hR9 := hRj.below hbw
        have hB9 := Below.then_ hBj hbw
        have z9 := hbw.size
        have HZ : Hid ((hz st (.slice A2 mm c2) (L + (n : Int))).length = 10) := Lib.hid (hz_len _ _ _ HST.out)
        have lgx9 := hX9.lt_size
        go_wp2_with (first
          | (with_reducible refine wpList_store1 rfl rfl (.tmp 52) (.tmp 51) 27 rfl gx 8 w.heap.size 29 10 (hz st (.slice none 0 0) (L + (n : Int))) (.slice A2 mm c2) rfl rfl rfl rfl (by kernel_rfl) hX9 (by decide) w hB9 hwx ?_; intro w10 hF10 hB10 ho10 hz10; rw [hz_set8 _ _ _ _ HST.out] at hF10; have hR10 := hR9.other ngr ho10; have hF20 := hF2.others (w' := w10) fun k hk => ho10 k (by omega))
          | (with_reducible refine wpList_load (o := ⟨some 53, _, _, _, _, _⟩) rfl (.tmp 7) 29 rfl gx 0 _ rfl (hz st (.slice A2 mm c2) (L + (n : Int))) 10 HZ.out (by kernel_rfl) hF10.sees ?_)
          | (with_reducible refine wpList_store rfl rfl (.tmp 6) (.tmp 53) 29 rfl gr 0 w.heap.size 29 10 (hz (List.replicate 8 0) (.slice none 0 0) 0) (hz st (.slice A2 mm c2) (L + (n : Int))) rfl rfl 10 HZ.out (by kernel_rfl) hR10 (by omega) (hz_one _ _ _ rfl) w hB10 (by omega) ?_; intro w11 hF11 hB11 ho11 hz11))
        rw [hz_over (by simp) HST.out] at hF11
        have hF21 := hF20.others (w' := w11) fun k hk => ho11 k (by omega)
        exact bodyPost_cell rfl rfl (hz st (.slice A2 mm c2) (L + (n : Int))) 10 HZ.out (by kernel_rfl) hF11.sees rfl ⟨A2, c2, (by rw [HSTA.out, HLFA.out, HLF.out]), (by rw [HLFA.out, HLF.out]; exact hF21.lower (by omega)), hB11⟩
set_option maxHeartbeats 1000000 in
set_option maxRecDepth 100000 in
theorem rWrite_no (first keys s : List UInt32) (R A : Option Addr) (m cr n c : Nat) (L : Int) (w : World) (h1 : first.length = 8) (h2 : keys.length = 64) (hs : s.length = 8) (hr : ¬ Right m L) :
    Calls Try.prog 12 #[.agg (cw (first ++ keys)).toArray, .agg (hz s (.slice R m cr) L).toArray, .slice A n c] w fun e w' => e = .returned (.agg (hz s (.slice R m cr) L).toArray) ∧ Below w.heap.size w w' := by
  have HS := Lib.hid hs
  have HK : Hid ((cw (first ++ keys)).length = 72) := Lib.hid (by simp [h1, h2])
  have HR := Lib.hid hr
  clear hr hs h1 h2
  go_enter Try.func12, Try.ntmps12
  go_wp2_with (first
    | (with_reducible refine wpList_box (o := ⟨some 3, _, _, _, _, _⟩) rfl (.tmp 0) 26 rfl (cw (first ++ keys)) rfl 72 HK.out (by decide) ?_; intro gt w1 hgt hFt hBt; have z1 := hBt.size)
    | (with_reducible refine wpList_box (o := ⟨some 4, _, _, _, _, _⟩) rfl (.tmp 1) 29 rfl (hz s (.slice R m cr) L) rfl 10 (hz_len _ _ _ HS.out) (by decide) ?_; intro gh w2 hgh hFh hBh; have z2 := hBh.size)
    | (with_reducible refine wpList_alloc (o := ⟨some 6, _, _, _, _, _⟩) rfl 29 rfl (hz (List.replicate 8 0) (.slice none 0 0) 0) (by kernel_rfl) 10 (by simp) (by decide) ?_; intro gr w3 hgr hFr hBr; have z3 := hBr.size; have hB03 := Below.then_ (Below.then_ hBt hBh) hBr; have hFh3 := hFh.below hBr)
    | (with_reducible refine wpList_load (o := ⟨some 10, _, _, _, _, _⟩) rfl (.tmp 4) 29 rfl gh 0 _ rfl (hz s (.slice R m cr) L) 10 (hz_len _ _ _ HS.out) (by kernel_rfl) hFh3.sees ?_)
    | (go_at_call 69; refine (rright_false s R m cr L _ HS.out HR.out).mono ?_; rintro e w4 ⟨rfl, hB4⟩; have z4 := hB4.size; have hB04 := Below.then_ hB03 hB4; have hFh4 := hFh3.below hB4; have hFr4 := hFr.below hB4)
    | (with_reducible refine wpList_load (o := ⟨some 13, _, _, _, _, _⟩) rfl (.tmp 4) 29 rfl gh 0 _ rfl (hz s (.slice R m cr) L) 10 (hz_len _ _ _ HS.out) (by kernel_rfl) hFh4.sees ?_)
    | (with_reducible refine wpList_store rfl rfl (.tmp 6) (.tmp 13) 29 rfl gr 0 _ 29 10 (hz (List.replicate 8 0) (.slice none 0 0) 0) (hz s (.slice R m cr) L) rfl rfl 10 (hz_len _ _ _ HS.out) (by kernel_rfl) hFr4 (by omega) (hz_one _ _ _ rfl) w hB04 (by omega) ?_; intro w6 hF6 hB6 ho6 hz6))
  rw [hz_over (by simp) HS.out] at hF6
  exact bodyPost_cell rfl rfl (hz s (.slice R m cr) L) 10 (hz_len _ _ _ HS.out) (by kernel_rfl) hF6.sees rfl ⟨rfl, hB6⟩
end Go.Proofs.Ytggcapkipcdlmaa
