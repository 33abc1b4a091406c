/-
  MacTells returns true for every input, and writes nothing that was there: the walk.
-/
import Derived.Test.YtehokoeajinboaaRefMac
import Derived.Test.YtehokoeajinboaaRefText
import Derived.Test.YtehokoeajinboaaText600
import Derived.Test.YtehokoeajinboaaMacSame1
import Derived.Test.YtehokoeajinboaaMacAwake
import Derived.Test.YtehokoeajinboaaRoundsSame
import Derived.Test.YtehokoeajinboaaPartsOpen
namespace Go.Proofs.Ytehokoeajinboaa
open Go.RowKit
set_option linter.unusedVariables false

theorem stepOk_valH {P : Program} {ops : Array Oper} {Q : Exit → Act → World → Prop} {pr : Nat → Value → World → Prop} {i : Nat} {o : Oper} {a : Act} {w : World} {v : Value} (hw : Region.wanted o (yielded ops a.tmps) = true) (hrun : (execOp a.eval o).run P w = .ok (.value v) w) (hp : pr i v w) : StepOk P ops Q pr i o a w := by
  unfold StepOk
  rw [if_pos hw]
  unfold Oper.wp
  rw [hrun]
  exact ⟨v, rfl, hp, Below.refl _ _⟩
def fewG (ps : List Pb) : List Pb := (ps.take 6).filter fun p => decide (p.m ≤ 300)
theorem fewG_step (ps : List Pb) (k : Nat) (p : Pb) (h : ps[k]? = some p) : (ps.take (k + 1)).filter (fun p => decide (p.m ≤ 300)) = (ps.take k).filter (fun p => decide (p.m ≤ 300)) ++ if p.m ≤ 300 then [p] else [] := by
  rw [List.take_add_one, h, List.filter_append]
  congr 1
  by_cases hm : p.m ≤ 300 <;> simp [hm]
theorem fewG_le (ps : List Pb) : (fewG ps).length ≤ 6 ∧ ∀ p ∈ fewG ps, p.m ≤ 300 := by
  refine ⟨Nat.le_trans (List.length_filter_le _ _) (by simp; omega), fun p hp => ?_⟩
  have := (List.mem_filter.1 hp).2
  simpa using this
def mt10 (TB : List Value) (A B A3 A4 : Option Addr) (n c m d c3 c4 : Nat) (K : List UInt8) (j : Nat) (x : Value) (w : World) : Prop :=
  match j with
  | 0 => x = .slice A3 n c3
  | 1 => x = .slice A4 m c4
  | 2 => x = .agg (cb K).toArray
  | 3 => x = .agg TB.toArray
  | 4 => x = .slice A n c
  | 5 => x = .slice B m d
  | 6 => x = .agg (cb K).toArray
  | 7 => x = .bool false
  | 8 => x = .bool false
  | 9 => x = .slice A3 n c3
  | 10 => x = .slice A n c
  | 11 => x = .bool true
  | 12 => x = .bool false
  | 13 => x = .bool false
  | 14 => x = .bool false
  | 15 => x = .slice A4 m c4
  | 16 => x = .slice B m d
  | 17 => x = .bool true
  | 18 => x = .bool false
  | _ => True
def mt12 (TB : List Value) (tag : UInt8) (Q : Option Addr) (q cq N : Nat) (TX R : List UInt8) (j : Nat) (x : Value) (w : World) : Prop :=
  match j with
  | 0 => x = .int .u8 (tag.toNat : Int)
  | 1 => x = .slice Q q cq
  | 2 => ∃ A c, x = .slice A N c ∧ Sees w w.heap.size A (cb TX)
  | 3 => x = .int .u8 (tag.toNat : Int)
  | 4 => x = .slice Q q cq
  | 5 => ∃ A c, x = .slice A N c ∧ Sees w w.heap.size A (cb TX)
  | 6 => x = .bool true
  | 7 => x = .bool false
  | 8 => x = .bool false
  | 9 => x = .int .u8 (tag.toNat : Int)
  | 10 => x = .slice Q q cq
  | 11 => x = .agg (cb R).toArray
  | 12 => x = .agg TB.toArray
  | 13 => x = .int .u8 (tag.toNat : Int)
  | 14 => x = .slice Q q cq
  | 15 => x = .agg (cb R).toArray
  | 16 => x = .bool false
  | _ => True
theorem mt12_stab (TB : List Value) (tag : UInt8) (Q : Option Addr) (q cq N : Nat) (TX R : List UInt8) : ∀ j x w w', Below w.heap.size w w' → mt12 TB tag Q q cq N TX R j x w → mt12 TB tag Q q cq N TX R j x w' := by
  intro j x w w' hb h
  unfold mt12 at *
  split at h <;> first | exact h | (obtain ⟨A, c, e, hS⟩ := h; exact ⟨A, c, e, hS.step hb⟩) | trivial
section
variable {w : World}
set_option maxHeartbeats 8000000 in
set_option maxRecDepth 100000 in
theorem mactells_walk (first keys : List UInt32) (h8 : first.length = 8) (h64 : keys.length = 64) (A B P : Option Addr) (n c m d M e : Nat) (key b : List UInt8) (hA : Sees w w.heap.size A (cb key)) (hn : key.length = n) (hB : Sees w w.heap.size B (cb b)) (hm : b.length = m) (tag : UInt8) (ps : List Pb) (hp : Parts w P M ps) :
    Calls Try.prog 3 #[.agg (cw (first ++ keys)).toArray, .slice A n c, .slice B m d, .int .u8 (tag.toNat : Int), .slice P M e] w fun e w' => e = .returned (.bool true) ∧ Below w.heap.size w w' := by
  have HC : Hid ((cw (first ++ keys)).length = 72) := Lib.hid (by simp [h8, h64])
  have H8 := Lib.hid h8
  have H64 := Lib.hid h64
  have HN := Lib.hid hn
  have HM := Lib.hid hm
  have HL := Lib.hid hp.len
  obtain ⟨TB, hTB⟩ : ∃ TB, cw (first ++ keys) = TB := ⟨_, rfl⟩
  have HTB := Lib.hid hTB
  rw [hTB] at HC ⊢
  obtain ⟨K, hK⟩ : ∃ K, macF first keys key b = K := ⟨_, rfl⟩
  have HK32 : Hid (K.length = 32) := Lib.hid (by rw [← hK]; exact len_ofF _ _ _ h8)
  have HK := Lib.hid hK
  clear h8 h64 hn hm hTB hK
  go_enter Try.func3, Try.ntmps3
  by_cases big : n ≤ 300 ∧ m ≤ 300
  · obtain ⟨b1, b2⟩ := big
    go_wp2_with (with_reducible refine wpList_box (o := ⟨some 5, _, _, _, _, _⟩) rfl (.tmp 0) 26 rfl TB rfl 72 HC.out (by decide) ?_; intro gt w1 hgt hFt hBt)
    have zz := hBt.size
    go_loopw [11, 12] (fun v i wr => ∃ (k q : Nat) (A' : Option Addr) (c' : Nat) (qs : List Pb), k ≤ M ∧ k ≤ 6 ∧ i = .int .i64 k ∧ v = .slice A' q c' ∧ Hid (qs = (ps.take k).filter fun p => decide (p.m ≤ 300)) ∧ q ≤ 6 ∧ Fresh w.heap.size 27 wr A' q c' (qs.map Pb.cell) ∧ (∀ p ∈ qs, p ∈ ps) ∧ Fresh w.heap.size 26 wr (some ⟨gt, 0, none⟩) 72 72 TB ∧ Below w.heap.size w wr) (fun _ i _ => 7 - (intOf i).toNat)
    case atStart => exact ⟨0, 0, none, 0, [], by omega, by omega, rfl, rfl, Lib.hid rfl, by omega, World.ownsRow_nil _ _ _ _, by simp, hFt, hBt⟩
    case round =>
      clear hFt hBt zz
      obtain ⟨k, q, Q, cq, qs, hk, hk6, rfl, rfl, HQ, hq6, hFq, hsub, ft, hB0⟩ := hrel
      have hql : qs.length = q := by simpa using hFq.len
      have fin : (k = M ∨ k = 6) → qs = fewG ps := by
        intro h
        rw [HQ.out]
        unfold fewG
        rcases h with rfl | rfl
        · rw [List.take_of_length_le (by rw [HL.out]; exact Nat.le_refl _), List.take_of_length_le (by rw [HL.out]; exact hk6)]
        · rfl
      have done : (k = M ∨ k = 6) → ∃ qs : List Pb, Parts wr Q q qs ∧ q ≤ 6 ∧ ∀ p ∈ qs, p.m ≤ 300 := fun h => by
        have e := fin h
        refine ⟨qs, ⟨hFq.sees, hql, fun p hpm => (hp.ok p (hsub p hpm)).step hB0⟩, hq6, ?_⟩
        rw [e]
        exact (fewG_le ps).2
      have HQL := Lib.hid hql
      clear hql fin
      by_cases hlt : k < M
      · by_cases hlt6 : k < 6
        · obtain ⟨g, o, rfl, p, HP, hpk, hc⟩ := (hp.step hB0).at_ hlt
          have hst := fewG_step ps k p HP.out
          rw [← HQ.out] at hst
          by_cases h300 : p.m ≤ 300
          · rw [if_pos h300] at hst
            have HST := Lib.hid hst
            have hz := hB0.size
            clear hst done
            have hba := below_alloc wr (.cells #[.slice p.A p.m p.c] 27)
            have hcell : (wr.alloc (.cells #[.slice p.A p.m p.c] 27)).cell? ⟨wr.heap.size, 0, none⟩ = some (.slice p.A p.m p.c) := by
              rw [World.cell?_alloc_mark]; rfl
            go_wp2_with (at_builtin; refine wpList_one rfl (.tmp 40) (.tmp 45) 28 27 (.slice none 0 0) 24 rfl Try.underlying28 (by kernel_rfl) rfl (by omega) Q q cq wr.heap.size _ (.slice p.A p.m p.c) w rfl rfl (hFq.below hba) hcell rfl (by omega) (Below.then_ hB0 hba) ?_; intro A2 c2 w3 hF4 hB4 hgr)
            go_roundw
            case rel =>
              refine ⟨k + 1, q + 1, A2, c2, qs ++ [p], by omega, by omega, by go_num, rfl, Lib.hid HST.out.symm, ?_, ?_, ?_, ?_, hB4⟩
              · have h1 : (qs ++ [p]).length ≤ k + 1 := by
                  rw [← HST.out]
                  exact Nat.le_trans (List.length_filter_le _ _) (List.length_take_le _ _)
                rw [List.length_append, HQL.out] at h1
                simp at h1
                omega
              · rw [List.map_append]
                exact hF4
              · intro r hr
                rcases List.mem_append.1 hr with h1 | h1
                · exact hsub r h1
                · simp at h1
                  subst h1
                  exact List.mem_of_getElem? HP.out
              · exact World.ownsRow.kept (ft.below hba) hgr (fresh_unlike (ft.below hba) (hFq.below hba) (by decide))
            case measure => simp [intOf]; omega
          · rw [if_neg h300, List.append_nil] at hst
            have HST := Lib.hid hst
            clear hst done
            go_wp2_with fail
            go_roundw
            case rel => exact ⟨k + 1, q, Q, cq, qs, by omega, by omega, by go_num, rfl, Lib.hid HST.out.symm, hq6, hFq, hsub, ft, hB0⟩
            case measure => simp [intOf]; omega
        · obtain ⟨qs, hq, hq6', hqm⟩ := done (.inr (by omega))
          obtain ⟨TX, hTX⟩ : ∃ TX, textF tag (qs.map Pb.l) = TX := ⟨_, rfl⟩
          obtain ⟨N, hNX⟩ : ∃ N, TX.length = N := ⟨_, rfl⟩
          obtain ⟨R, hR⟩ : ∃ R, ofF first keys TX = R := ⟨_, rfl⟩
          have hN9 : N ≤ 10000 := by
            have e1 : (qs.map Pb.l).length ≤ 6 := by rw [List.length_map, hq.len]; exact hq6'
            have e2 := blobs_le3 (qs.map Pb.l) (by
              intro l hl
              obtain ⟨p, hpm, rfl⟩ := List.mem_map.1 hl
              rw [(hq.ok p hpm).len]
              exact hqm p hpm)
            have e3 := nd_bd (qs.map Pb.l).length
            rw [← hNX, ← hTX, textF, List.length_append, List.length_append, len_digs, show ([75, tag] : List UInt8).length = 2 from rfl]
            omega
          have HR32 : Hid (R.length = 32) := Lib.hid (by rw [← hR]; exact len_ofF _ _ _ H8.out)
          have HTX := Lib.hid hTX
          have HNX := Lib.hid hNX
          have HR := Lib.hid hR
          clear done hTX hNX hR HQ HQL hFq hsub
          have hs1 := hA.step hB0
          have hs2 := hB.step hB0
          go_upto_region 10 with (first
            | (go_at_call 14; refine (CopyBytes_any A c n key _ hs1 HN.out (by omega)).mono ?_; rintro e w3 ⟨A3, c3, rfl, hF3, hB3⟩)
            | (go_at_call 14; refine (CopyBytes_any B d m b _ (hs2.step hB3) HM.out (by omega)).mono ?_; rintro e w4 ⟨A4, c4, rfl, hF4, hB4⟩))
          have hBw := Below.then_ (Below.then_ hB0 hB3) hB4
          have s1 := (hs1.step hB3).step hB4
          have s2 := (hs2.step hB3).step hB4
          have s3 := (hF3.below hB4).sees
          have s4 := hF4.sees
          have HC3 := Lib.hid hF3.cap.1
          have HC4 := Lib.hid hF4.cap.1
          replace ft := (ft.below hB3).below hB4
          replace hq := (hq.step hB3).step hB4
          clear hs1 hs2 hF3 hF4 hB3 hB4 hB0
          refine region_all_tail 19 (mt10 TB A B A3 A4 n c m d c3 c4 K) (by kernel_rfl) (by kernel_rfl) (by kernel_rfl) (fun _ _ _ _ _ h => h) ?_ ?_
          · intro w0 hb0
            simp only [List.take_succ_cons, List.take_zero]
            refine ⟨?_, ?_, ?_, ?_, ?_, ?_, ?_, ?_, ?_, ?_, ?_, ?_, ?_, ?_, ?_, ?_, ?_, ?_, ?_, trivial⟩
            all_goals intro listed a1 w' hk1 hd1
            · have f13_ : a1.eval (.tmp 13) = .slice A3 n c3 := hk1.ev_old 13 (by kernel_rfl)
              have g13_ : a1.tmps[13]?.getD undef = .slice A3 n c3 := by simpa [Act.eval] using f13_
              exact stepOk_value rfl (v := .slice A3 n c3) (by go_simp) rfl
            · have f14_ : a1.eval (.tmp 14) = .slice A4 m c4 := hk1.ev_old 14 (by kernel_rfl)
              have g14_ : a1.tmps[14]?.getD undef = .slice A4 m c4 := by simpa [Act.eval] using f14_
              exact stepOk_value rfl (v := .slice A4 m c4) (by go_simp) rfl
            · have f5_ : a1.eval (.tmp 5) = .pointer (some ⟨gt, 0, none⟩) := hk1.ev_old 5 (by kernel_rfl)
              have g5_ : a1.tmps[5]?.getD undef = .pointer (some ⟨gt, 0, none⟩) := by simpa [Act.eval] using f5_
              obtain ⟨y0, e0, q0, rfl⟩ := hk1.ev_new hd1 0 51 (by kernel_rfl) rfl
              obtain ⟨y1, e1, q1, rfl⟩ := hk1.ev_new hd1 1 52 (by kernel_rfl) rfl
              refine stepOk_enter rfl (f := 15) (args := #[.pointer (some ⟨gt, 0, none⟩), .slice A3 n c3, .slice A4 m c4]) (by go_simp) ?_
              have ho := Mac_any gt 0 first keys A3 A4 n c3 m c4 key b w' ⟨H8.out, H64.out, by rw [HTB.out]; exact ((ft.below hb0).below hk1.below).sees⟩ ((s3.step hb0).step hk1.below) HN.out HC3.out (by omega) ((s4.step hb0).step hk1.below) HM.out HC4.out (by omega)
              rw [HK.out] at ho
              refine ho.mono ?_
              rintro e w5 ⟨rfl, hB5⟩
              exact ⟨_, rfl, rfl, hB5⟩
            · have f5_ : a1.eval (.tmp 5) = .pointer (some ⟨gt, 0, none⟩) := hk1.ev_old 5 (by kernel_rfl)
              have g5_ : a1.tmps[5]?.getD undef = .pointer (some ⟨gt, 0, none⟩) := by simpa [Act.eval] using f5_
              exact stepOk_value rfl (run_load_agg (.tmp 5) 26 rfl (hk1.ev_old 5 (by kernel_rfl)) TB 72 HC.out (by kernel_rfl) ((ft.below hb0).below hk1.below).sees) rfl
            · have f1_ : a1.eval (.tmp 1) = .slice A n c := hk1.ev_old 1 (by kernel_rfl)
              have g1_ : a1.tmps[1]?.getD undef = .slice A n c := by simpa [Act.eval] using f1_
              exact stepOk_value rfl (v := .slice A n c) (by go_simp) rfl
            · have f2_ : a1.eval (.tmp 2) = .slice B m d := hk1.ev_old 2 (by kernel_rfl)
              have g2_ : a1.tmps[2]?.getD undef = .slice B m d := by simpa [Act.eval] using f2_
              exact stepOk_value rfl (v := .slice B m d) (by go_simp) rfl
            · obtain ⟨y3, e3, q3, rfl⟩ := hk1.ev_new hd1 3 54 (by kernel_rfl) rfl
              obtain ⟨y4, e4, q4, rfl⟩ := hk1.ev_new hd1 4 55 (by kernel_rfl) rfl
              obtain ⟨y5, e5, q5, rfl⟩ := hk1.ev_new hd1 5 56 (by kernel_rfl) rfl
              refine stepOk_enter rfl (f := 16) (args := #[.agg TB.toArray, .slice A n c, .slice B m d]) (by go_simp) ?_
              have ho := rMac_any (w := w') first keys A B n c m d key b H8.out H64.out ((s1.step hb0).step hk1.below) HN.out (by omega) ((s2.step hb0).step hk1.below) HM.out (by omega)
              rw [HK.out, HTB.out] at ho
              refine ho.mono ?_
              rintro e w5 ⟨rfl, hB5⟩
              exact ⟨_, rfl, rfl, hB5⟩
            · obtain ⟨y2, e2, q2, rfl⟩ := hk1.ev_new hd1 2 53 (by kernel_rfl) rfl
              obtain ⟨y6, e6, q6, rfl⟩ := hk1.ev_new hd1 6 57 (by kernel_rfl) rfl
              exact stepOk_value rfl (run_neq_of (.tmp 53) (.tmp 57) 32 32 rfl (by kernel_rfl) _ _ e2 e6 (neq_digest K HK32.out w')) rfl
            · obtain ⟨y7, e7, q7, rfl⟩ := hk1.ev_new hd1 7 58 (by kernel_rfl) rfl
              exact stepOk_value rfl (v := .bool false) (by go_simp) rfl
            · obtain ⟨y8, e8, q8, rfl⟩ := hk1.ev_new hd1 8 59 (by kernel_rfl) rfl
              have f13_ : a1.eval (.tmp 13) = .slice A3 n c3 := hk1.ev_old 13 (by kernel_rfl)
              have g13_ : a1.tmps[13]?.getD undef = .slice A3 n c3 := by simpa [Act.eval] using f13_
              exact stepOk_valH (wanted_at (t := 59) rfl rfl q8) (v := .slice A3 n c3) (by go_simp) rfl
            · obtain ⟨y8, e8, q8, rfl⟩ := hk1.ev_new hd1 8 59 (by kernel_rfl) rfl
              have f1_ : a1.eval (.tmp 1) = .slice A n c := hk1.ev_old 1 (by kernel_rfl)
              have g1_ : a1.tmps[1]?.getD undef = .slice A n c := by simpa [Act.eval] using f1_
              exact stepOk_valH (wanted_at (t := 59) rfl rfl q8) (v := .slice A n c) (by go_simp) rfl
            · obtain ⟨y8, e8, q8, rfl⟩ := hk1.ev_new hd1 8 59 (by kernel_rfl) rfl
              obtain ⟨y9, e9, q9, rfl⟩ := hk1.ev_new hd1 9 60 (by kernel_rfl) rfl
              obtain ⟨y10, e10, q10, rfl⟩ := hk1.ev_new hd1 10 61 (by kernel_rfl) rfl
              refine stepOk_enter (wanted_at (t := 59) rfl rfl q8) (f := 17) (args := #[.slice A3 n c3, .slice A n c]) (by go_simp) ?_
              refine (SameBytes_any A3 A c3 c n n key key w' ((s3.step hb0).step hk1.below) ((s1.step hb0).step hk1.below) HN.out HN.out).mono ?_
              rintro e w5 ⟨rfl, rfl⟩
              exact ⟨_, rfl, by show Value.bool (key == key) = _; simp, Below.refl _ _⟩
            · obtain ⟨y8, e8, q8, rfl⟩ := hk1.ev_new hd1 8 59 (by kernel_rfl) rfl
              obtain ⟨y11, e11, q11, rfl⟩ := hk1.ev_new hd1 11 62 (by kernel_rfl) rfl
              exact stepOk_valH (wanted_at (t := 59) rfl rfl q8) (v := .bool false) (by go_simp) rfl
            · obtain ⟨y8, e8, q8, rfl⟩ := hk1.ev_new hd1 8 59 (by kernel_rfl) rfl
              obtain ⟨y12, e12, q12, rfl⟩ := hk1.ev_new hd1 12 63 (by kernel_rfl) rfl
              exact stepOk_value rfl (v := .bool false) (by go_simp) rfl
            · obtain ⟨y13, e13, q13, rfl⟩ := hk1.ev_new hd1 13 64 (by kernel_rfl) rfl
              exact stepOk_value rfl (v := .bool false) (by go_simp) rfl
            · obtain ⟨y14, e14, q14, rfl⟩ := hk1.ev_new hd1 14 65 (by kernel_rfl) rfl
              have f14_ : a1.eval (.tmp 14) = .slice A4 m c4 := hk1.ev_old 14 (by kernel_rfl)
              have g14_ : a1.tmps[14]?.getD undef = .slice A4 m c4 := by simpa [Act.eval] using f14_
              exact stepOk_valH (wanted_at (t := 65) rfl rfl q14) (v := .slice A4 m c4) (by go_simp) rfl
            · obtain ⟨y14, e14, q14, rfl⟩ := hk1.ev_new hd1 14 65 (by kernel_rfl) rfl
              have f2_ : a1.eval (.tmp 2) = .slice B m d := hk1.ev_old 2 (by kernel_rfl)
              have g2_ : a1.tmps[2]?.getD undef = .slice B m d := by simpa [Act.eval] using f2_
              exact stepOk_valH (wanted_at (t := 65) rfl rfl q14) (v := .slice B m d) (by go_simp) rfl
            · obtain ⟨y14, e14, q14, rfl⟩ := hk1.ev_new hd1 14 65 (by kernel_rfl) rfl
              obtain ⟨y15, e15, q15, rfl⟩ := hk1.ev_new hd1 15 66 (by kernel_rfl) rfl
              obtain ⟨y16, e16, q16, rfl⟩ := hk1.ev_new hd1 16 67 (by kernel_rfl) rfl
              refine stepOk_enter (wanted_at (t := 65) rfl rfl q14) (f := 17) (args := #[.slice A4 m c4, .slice B m d]) (by go_simp) ?_
              refine (SameBytes_any A4 B c4 d m m b b w' ((s4.step hb0).step hk1.below) ((s2.step hb0).step hk1.below) HM.out HM.out).mono ?_
              rintro e w5 ⟨rfl, rfl⟩
              exact ⟨_, rfl, by show Value.bool (b == b) = _; simp, Below.refl _ _⟩
            · obtain ⟨y14, e14, q14, rfl⟩ := hk1.ev_new hd1 14 65 (by kernel_rfl) rfl
              obtain ⟨y17, e17, q17, rfl⟩ := hk1.ev_new hd1 17 68 (by kernel_rfl) rfl
              exact stepOk_valH (wanted_at (t := 65) rfl rfl q14) (v := .bool false) (by go_simp) rfl
          · intro a1 w6 hb6 hp
            obtain ⟨x0, p0, x1, p1, x2, p2, x3, p3, x4, p4, x5, p5, x6, p6, x7, p7, x8, p8, x9, p9, x10, p10, x11, p11, x12, p12, x13, p13, x14, p14, x15, p15, x16, p16, x17, p17, x18, p18, rfl⟩ := hp
            simp only [mt10] at p0 p1 p2 p3 p4 p5 p6 p7 p8 p9 p10 p11 p12 p13 p14 p15 p16 p17 p18
            subst p0 p1 p2 p3 p4 p5 p6 p7 p8 p9 p10 p11 p12 p13 p14 p15 p16 p17 p18
            simp only [List.drop_succ_cons, List.drop_zero, Act.put, List.setIfInBounds_toArray, List.set_cons_succ, List.set_cons_zero]
            replace hBw := Below.then_ hBw hb6
            replace ft := ft.below hb6
            replace hq := hq.step hb6
            replace s1 := s1.step hb6
            replace s2 := s2.step hb6
            clear hb6 s3 s4
            go_wp2_with fail
            refine region_all_tail 17 (mt12 TB tag Q q cq N TX R) (by kernel_rfl) (by kernel_rfl) (by kernel_rfl) (mt12_stab _ _ _ _ _ _ _ _) ?_ ?_
            · intro w0 hb0
              simp only [List.take_succ_cons, List.take_zero]
              refine ⟨?_, ?_, ?_, ?_, ?_, ?_, ?_, ?_, ?_, ?_, ?_, ?_, ?_, ?_, ?_, ?_, ?_, trivial⟩
              all_goals intro listed a1 w' hk1 hd1
              · have f3_ : a1.eval (.tmp 3) = .int .u8 (tag.toNat : Int) := hk1.ev_old 3 (by kernel_rfl)
                have g3_ : a1.tmps[3]?.getD undef = .int .u8 (tag.toNat : Int) := by simpa [Act.eval] using f3_
                exact stepOk_value rfl (v := .int .u8 (tag.toNat : Int)) (by go_simp) rfl
              · have f11_ : a1.eval (.tmp 11) = .slice Q q cq := hk1.ev_old 11 (by kernel_rfl)
                have g11_ : a1.tmps[11]?.getD undef = .slice Q q cq := by simpa [Act.eval] using f11_
                exact stepOk_value rfl (v := .slice Q q cq) (by go_simp) rfl
              · obtain ⟨y0, e0, q0, rfl⟩ := hk1.ev_new hd1 0 71 (by kernel_rfl) rfl
                obtain ⟨y1, e1, q1, rfl⟩ := hk1.ev_new hd1 1 72 (by kernel_rfl) rfl
                refine stepOk_enter rfl (f := 18) (args := #[.int .u8 (tag.toNat : Int), .slice Q q cq]) (by go_simp) ?_
                refine (Text_300 tag Q q cq N qs _ ((hq.step hb0).step hk1.below) rfl (by omega) hqm (by rw [HTX.out]; exact HNX.out)).mono ?_
                rintro e w5 ⟨A5, c5, rfl, hF5, hB5⟩
                rw [HTX.out] at hF5
                exact ⟨_, rfl, ⟨A5, c5, rfl, hF5.sees⟩, hB5⟩
              · have f3_ : a1.eval (.tmp 3) = .int .u8 (tag.toNat : Int) := hk1.ev_old 3 (by kernel_rfl)
                have g3_ : a1.tmps[3]?.getD undef = .int .u8 (tag.toNat : Int) := by simpa [Act.eval] using f3_
                exact stepOk_value rfl (v := .int .u8 (tag.toNat : Int)) (by go_simp) rfl
              · have f11_ : a1.eval (.tmp 11) = .slice Q q cq := hk1.ev_old 11 (by kernel_rfl)
                have g11_ : a1.tmps[11]?.getD undef = .slice Q q cq := by simpa [Act.eval] using f11_
                exact stepOk_value rfl (v := .slice Q q cq) (by go_simp) rfl
              · obtain ⟨y3, e3, q3, rfl⟩ := hk1.ev_new hd1 3 74 (by kernel_rfl) rfl
                obtain ⟨y4, e4, q4, rfl⟩ := hk1.ev_new hd1 4 75 (by kernel_rfl) rfl
                refine stepOk_enter rfl (f := 19) (args := #[.int .u8 (tag.toNat : Int), .slice Q q cq]) (by go_simp) ?_
                have ho := rText_any tag Q q cq qs w' ((hq.step hb0).step hk1.below) (by omega) (fun p hp => Nat.le_trans (hqm p hp) (by omega))
                rw [HTX.out, HNX.out] at ho
                refine ho.mono ?_
                rintro e w5 ⟨A5, c5, rfl, hF5, hB5⟩
                exact ⟨_, rfl, ⟨A5, c5, rfl, hF5.sees⟩, hB5⟩
              · obtain ⟨y2, e2, _, q2⟩ := hk1.ev_new hd1 2 73 (by kernel_rfl) rfl
                obtain ⟨y5, e5, _, q5⟩ := hk1.ev_new hd1 5 76 (by kernel_rfl) rfl
                obtain ⟨A5, c5, rfl, hS5⟩ := q2
                obtain ⟨A6, c6, rfl, hS6⟩ := q5
                refine stepOk_enter rfl (f := 17) (args := #[.slice A5 N c5, .slice A6 N c6]) (by go_simp) ?_
                refine (SameBytes_any A5 A6 c5 c6 N N TX TX w' hS5 hS6 HNX.out HNX.out).mono ?_
                rintro e w5 ⟨rfl, rfl⟩
                exact ⟨_, rfl, by show Value.bool (TX == TX) = _; simp, Below.refl _ _⟩
              · obtain ⟨y6, e6, q6, rfl⟩ := hk1.ev_new hd1 6 77 (by kernel_rfl) rfl
                exact stepOk_value rfl (v := .bool false) (by go_simp) rfl
              · obtain ⟨y7, e7, q7, rfl⟩ := hk1.ev_new hd1 7 78 (by kernel_rfl) rfl
                exact stepOk_value rfl (v := .bool false) (by go_simp) rfl
              · obtain ⟨y8, e8, q8, rfl⟩ := hk1.ev_new hd1 8 79 (by kernel_rfl) rfl
                have f3_ : a1.eval (.tmp 3) = .int .u8 (tag.toNat : Int) := hk1.ev_old 3 (by kernel_rfl)
                have g3_ : a1.tmps[3]?.getD undef = .int .u8 (tag.toNat : Int) := by simpa [Act.eval] using f3_
                exact stepOk_valH (wanted_at (t := 79) rfl rfl q8) (v := .int .u8 (tag.toNat : Int)) (by go_simp) rfl
              · obtain ⟨y8, e8, q8, rfl⟩ := hk1.ev_new hd1 8 79 (by kernel_rfl) rfl
                have f11_ : a1.eval (.tmp 11) = .slice Q q cq := hk1.ev_old 11 (by kernel_rfl)
                have g11_ : a1.tmps[11]?.getD undef = .slice Q q cq := by simpa [Act.eval] using f11_
                exact stepOk_valH (wanted_at (t := 79) rfl rfl q8) (v := .slice Q q cq) (by go_simp) rfl
              · obtain ⟨y8, e8, q8, rfl⟩ := hk1.ev_new hd1 8 79 (by kernel_rfl) rfl
                have f5_ : a1.eval (.tmp 5) = .pointer (some ⟨gt, 0, none⟩) := hk1.ev_old 5 (by kernel_rfl)
                have g5_ : a1.tmps[5]?.getD undef = .pointer (some ⟨gt, 0, none⟩) := by simpa [Act.eval] using f5_
                obtain ⟨y9, e9, q9, rfl⟩ := hk1.ev_new hd1 9 80 (by kernel_rfl) rfl
                obtain ⟨y10, e10, q10, rfl⟩ := hk1.ev_new hd1 10 81 (by kernel_rfl) rfl
                refine stepOk_enter (wanted_at (t := 79) rfl rfl q8) (f := 20) (args := #[.pointer (some ⟨gt, 0, none⟩), .int .u8 (tag.toNat : Int), .slice Q q cq]) (by go_simp) ?_
                refine (Tagged_600 gt 0 first keys ⟨H8.out, H64.out, by rw [HTB.out]; exact ((ft.below hb0).below hk1.below).sees⟩ tag Q q cq qs _ ((hq.step hb0).step hk1.below) rfl (by omega) hqm R (by rw [HTX.out]; exact HR.out)).mono ?_
                rintro e w5 ⟨rfl, hB5⟩
                exact ⟨_, rfl, rfl, hB5⟩
              · obtain ⟨y8, e8, q8, rfl⟩ := hk1.ev_new hd1 8 79 (by kernel_rfl) rfl
                have f5_ : a1.eval (.tmp 5) = .pointer (some ⟨gt, 0, none⟩) := hk1.ev_old 5 (by kernel_rfl)
                have g5_ : a1.tmps[5]?.getD undef = .pointer (some ⟨gt, 0, none⟩) := by simpa [Act.eval] using f5_
                exact stepOk_valH (wanted_at (t := 79) rfl rfl q8) (run_load_agg (.tmp 5) 26 rfl (hk1.ev_old 5 (by kernel_rfl)) TB 72 HC.out (by kernel_rfl) ((ft.below hb0).below hk1.below).sees) rfl
              · obtain ⟨y8, e8, q8, rfl⟩ := hk1.ev_new hd1 8 79 (by kernel_rfl) rfl
                have f3_ : a1.eval (.tmp 3) = .int .u8 (tag.toNat : Int) := hk1.ev_old 3 (by kernel_rfl)
                have g3_ : a1.tmps[3]?.getD undef = .int .u8 (tag.toNat : Int) := by simpa [Act.eval] using f3_
                exact stepOk_valH (wanted_at (t := 79) rfl rfl q8) (v := .int .u8 (tag.toNat : Int)) (by go_simp) rfl
              · obtain ⟨y8, e8, q8, rfl⟩ := hk1.ev_new hd1 8 79 (by kernel_rfl) rfl
                have f11_ : a1.eval (.tmp 11) = .slice Q q cq := hk1.ev_old 11 (by kernel_rfl)
                have g11_ : a1.tmps[11]?.getD undef = .slice Q q cq := by simpa [Act.eval] using f11_
                exact stepOk_valH (wanted_at (t := 79) rfl rfl q8) (v := .slice Q q cq) (by go_simp) rfl
              · obtain ⟨y8, e8, q8, rfl⟩ := hk1.ev_new hd1 8 79 (by kernel_rfl) rfl
                obtain ⟨y12, e12, q12, rfl⟩ := hk1.ev_new hd1 12 83 (by kernel_rfl) rfl
                obtain ⟨y13, e13, q13, rfl⟩ := hk1.ev_new hd1 13 84 (by kernel_rfl) rfl
                obtain ⟨y14, e14, q14, rfl⟩ := hk1.ev_new hd1 14 85 (by kernel_rfl) rfl
                refine stepOk_enter (wanted_at (t := 79) rfl rfl q8) (f := 21) (args := #[.agg TB.toArray, .int .u8 (tag.toNat : Int), .slice Q q cq]) (by go_simp) ?_
                have ho := rTagged_any first keys tag Q q cq qs w' H8.out H64.out ((hq.step hb0).step hk1.below) (by omega) (fun p hp => Nat.le_trans (hqm p hp) (by omega)) TX HTX.out (by rw [HNX.out]; omega)
                rw [HR.out, HTB.out] at ho
                refine ho.mono ?_
                rintro e w5 ⟨rfl, hB5⟩
                exact ⟨_, rfl, rfl, hB5⟩
              · obtain ⟨y8, e8, q8, rfl⟩ := hk1.ev_new hd1 8 79 (by kernel_rfl) rfl
                obtain ⟨y11, e11, q11, rfl⟩ := hk1.ev_new hd1 11 82 (by kernel_rfl) rfl
                obtain ⟨y15, e15, q15, rfl⟩ := hk1.ev_new hd1 15 86 (by kernel_rfl) rfl
                exact stepOk_valH (wanted_at (t := 79) rfl rfl q8) (run_neq_of (.tmp 82) (.tmp 86) 32 32 rfl (by kernel_rfl) _ _ e11 e15 (neq_digest R HR32.out w')) rfl
            · intro a1 w7 hb7 hp
              obtain ⟨x0, p0, x1, p1, x2, p2, x3, p3, x4, p4, x5, p5, x6, p6, x7, p7, x8, p8, x9, p9, x10, p10, x11, p11, x12, p12, x13, p13, x14, p14, x15, p15, x16, p16, rfl⟩ := hp
              simp only [mt12] at p0 p1 p3 p4 p6 p7 p8 p9 p10 p11 p12 p13 p14 p15 p16
              subst p0 p1 p3 p4 p6 p7 p8 p9 p10 p11 p12 p13 p14 p15 p16
              simp only [List.drop_succ_cons, List.drop_zero, Act.put, List.setIfInBounds_toArray, List.set_cons_succ, List.set_cons_zero]
              replace hBw := Below.then_ hBw hb7
              replace s1 := s1.step hb7
              replace s2 := s2.step hb7
              obtain ⟨u, hu⟩ : ∃ u, (key == b) = u := ⟨_, rfl⟩
              have hsm := Same_any A B c d n m key b w7 s1 s2 HN.out HM.out (by omega) (by omega)
              have hsb := fun w' (x : Below w7.heap.size w7 w') => SameBytes_any A B c d n m key b w' (s1.step x) (s2.step x) HN.out HM.out
              rw [hu] at hsm hsb
              cases u
              all_goals
                go_wp2_with (first
                  | (go_at_call 22; refine hsm.mono ?_; rintro e w8 ⟨rfl, k8, rfl⟩)
                  | (go_at_call 17; refine (hsb _ (below_drewN' (Below.refl _ _) k8)).mono ?_; rintro e w9 ⟨rfl, rfl⟩)
                  | (go_at_call 13; refine (awake3_any _).mono ?_; rintro e w10 ⟨rfl, hB10⟩))
                go_ret
                exact ⟨rfl, Below.then_ (below_drewN' hBw k8) hB10⟩
      · obtain ⟨qs, hq, hq6', hqm⟩ := done (.inl (by omega))
        obtain ⟨TX, hTX⟩ : ∃ TX, textF tag (qs.map Pb.l) = TX := ⟨_, rfl⟩
        obtain ⟨N, hNX⟩ : ∃ N, TX.length = N := ⟨_, rfl⟩
        obtain ⟨R, hR⟩ : ∃ R, ofF first keys TX = R := ⟨_, rfl⟩
        have hN9 : N ≤ 10000 := by
          have e1 : (qs.map Pb.l).length ≤ 6 := by rw [List.length_map, hq.len]; exact hq6'
          have e2 := blobs_le3 (qs.map Pb.l) (by
            intro l hl
            obtain ⟨p, hpm, rfl⟩ := List.mem_map.1 hl
            rw [(hq.ok p hpm).len]
            exact hqm p hpm)
          have e3 := nd_bd (qs.map Pb.l).length
          rw [← hNX, ← hTX, textF, List.length_append, List.length_append, len_digs, show ([75, tag] : List UInt8).length = 2 from rfl]
          omega
        have HR32 : Hid (R.length = 32) := Lib.hid (by rw [← hR]; exact len_ofF _ _ _ H8.out)
        have HTX := Lib.hid hTX
        have HNX := Lib.hid hNX
        have HR := Lib.hid hR
        clear done hTX hNX hR HQ HQL hFq hsub
        have hs1 := hA.step hB0
        have hs2 := hB.step hB0
        go_upto_region 10 with (first
          | (go_at_call 14; refine (CopyBytes_any A c n key _ hs1 HN.out (by omega)).mono ?_; rintro e w3 ⟨A3, c3, rfl, hF3, hB3⟩)
          | (go_at_call 14; refine (CopyBytes_any B d m b _ (hs2.step hB3) HM.out (by omega)).mono ?_; rintro e w4 ⟨A4, c4, rfl, hF4, hB4⟩))
        have hBw := Below.then_ (Below.then_ hB0 hB3) hB4
        have s1 := (hs1.step hB3).step hB4
        have s2 := (hs2.step hB3).step hB4
        have s3 := (hF3.below hB4).sees
        have s4 := hF4.sees
        have HC3 := Lib.hid hF3.cap.1
        have HC4 := Lib.hid hF4.cap.1
        replace ft := (ft.below hB3).below hB4
        replace hq := (hq.step hB3).step hB4
        clear hs1 hs2 hF3 hF4 hB3 hB4 hB0
        refine region_all_tail 19 (mt10 TB A B A3 A4 n c m d c3 c4 K) (by kernel_rfl) (by kernel_rfl) (by kernel_rfl) (fun _ _ _ _ _ h => h) ?_ ?_
        · intro w0 hb0
          simp only [List.take_succ_cons, List.take_zero]
          refine ⟨?_, ?_, ?_, ?_, ?_, ?_, ?_, ?_, ?_, ?_, ?_, ?_, ?_, ?_, ?_, ?_, ?_, ?_, ?_, trivial⟩
          all_goals intro listed a1 w' hk1 hd1
          · have f13_ : a1.eval (.tmp 13) = .slice A3 n c3 := hk1.ev_old 13 (by kernel_rfl)
            have g13_ : a1.tmps[13]?.getD undef = .slice A3 n c3 := by simpa [Act.eval] using f13_
            exact stepOk_value rfl (v := .slice A3 n c3) (by go_simp) rfl
          · have f14_ : a1.eval (.tmp 14) = .slice A4 m c4 := hk1.ev_old 14 (by kernel_rfl)
            have g14_ : a1.tmps[14]?.getD undef = .slice A4 m c4 := by simpa [Act.eval] using f14_
            exact stepOk_value rfl (v := .slice A4 m c4) (by go_simp) rfl
          · have f5_ : a1.eval (.tmp 5) = .pointer (some ⟨gt, 0, none⟩) := hk1.ev_old 5 (by kernel_rfl)
            have g5_ : a1.tmps[5]?.getD undef = .pointer (some ⟨gt, 0, none⟩) := by simpa [Act.eval] using f5_
            obtain ⟨y0, e0, q0, rfl⟩ := hk1.ev_new hd1 0 51 (by kernel_rfl) rfl
            obtain ⟨y1, e1, q1, rfl⟩ := hk1.ev_new hd1 1 52 (by kernel_rfl) rfl
            refine stepOk_enter rfl (f := 15) (args := #[.pointer (some ⟨gt, 0, none⟩), .slice A3 n c3, .slice A4 m c4]) (by go_simp) ?_
            have ho := Mac_any gt 0 first keys A3 A4 n c3 m c4 key b w' ⟨H8.out, H64.out, by rw [HTB.out]; exact ((ft.below hb0).below hk1.below).sees⟩ ((s3.step hb0).step hk1.below) HN.out HC3.out (by omega) ((s4.step hb0).step hk1.below) HM.out HC4.out (by omega)
            rw [HK.out] at ho
            refine ho.mono ?_
            rintro e w5 ⟨rfl, hB5⟩
            exact ⟨_, rfl, rfl, hB5⟩
          · have f5_ : a1.eval (.tmp 5) = .pointer (some ⟨gt, 0, none⟩) := hk1.ev_old 5 (by kernel_rfl)
            have g5_ : a1.tmps[5]?.getD undef = .pointer (some ⟨gt, 0, none⟩) := by simpa [Act.eval] using f5_
            exact stepOk_value rfl (run_load_agg (.tmp 5) 26 rfl (hk1.ev_old 5 (by kernel_rfl)) TB 72 HC.out (by kernel_rfl) ((ft.below hb0).below hk1.below).sees) rfl
          · have f1_ : a1.eval (.tmp 1) = .slice A n c := hk1.ev_old 1 (by kernel_rfl)
            have g1_ : a1.tmps[1]?.getD undef = .slice A n c := by simpa [Act.eval] using f1_
            exact stepOk_value rfl (v := .slice A n c) (by go_simp) rfl
          · have f2_ : a1.eval (.tmp 2) = .slice B m d := hk1.ev_old 2 (by kernel_rfl)
            have g2_ : a1.tmps[2]?.getD undef = .slice B m d := by simpa [Act.eval] using f2_
            exact stepOk_value rfl (v := .slice B m d) (by go_simp) rfl
          · obtain ⟨y3, e3, q3, rfl⟩ := hk1.ev_new hd1 3 54 (by kernel_rfl) rfl
            obtain ⟨y4, e4, q4, rfl⟩ := hk1.ev_new hd1 4 55 (by kernel_rfl) rfl
            obtain ⟨y5, e5, q5, rfl⟩ := hk1.ev_new hd1 5 56 (by kernel_rfl) rfl
            refine stepOk_enter rfl (f := 16) (args := #[.agg TB.toArray, .slice A n c, .slice B m d]) (by go_simp) ?_
            have ho := rMac_any (w := w') first keys A B n c m d key b H8.out H64.out ((s1.step hb0).step hk1.below) HN.out (by omega) ((s2.step hb0).step hk1.below) HM.out (by omega)
            rw [HK.out, HTB.out] at ho
            refine ho.mono ?_
            rintro e w5 ⟨rfl, hB5⟩
            exact ⟨_, rfl, rfl, hB5⟩
          · obtain ⟨y2, e2, q2, rfl⟩ := hk1.ev_new hd1 2 53 (by kernel_rfl) rfl
            obtain ⟨y6, e6, q6, rfl⟩ := hk1.ev_new hd1 6 57 (by kernel_rfl) rfl
            exact stepOk_value rfl (run_neq_of (.tmp 53) (.tmp 57) 32 32 rfl (by kernel_rfl) _ _ e2 e6 (neq_digest K HK32.out w')) rfl
          · obtain ⟨y7, e7, q7, rfl⟩ := hk1.ev_new hd1 7 58 (by kernel_rfl) rfl
            exact stepOk_value rfl (v := .bool false) (by go_simp) rfl
          · obtain ⟨y8, e8, q8, rfl⟩ := hk1.ev_new hd1 8 59 (by kernel_rfl) rfl
            have f13_ : a1.eval (.tmp 13) = .slice A3 n c3 := hk1.ev_old 13 (by kernel_rfl)
            have g13_ : a1.tmps[13]?.getD undef = .slice A3 n c3 := by simpa [Act.eval] using f13_
            exact stepOk_valH (wanted_at (t := 59) rfl rfl q8) (v := .slice A3 n c3) (by go_simp) rfl
          · obtain ⟨y8, e8, q8, rfl⟩ := hk1.ev_new hd1 8 59 (by kernel_rfl) rfl
            have f1_ : a1.eval (.tmp 1) = .slice A n c := hk1.ev_old 1 (by kernel_rfl)
            have g1_ : a1.tmps[1]?.getD undef = .slice A n c := by simpa [Act.eval] using f1_
            exact stepOk_valH (wanted_at (t := 59) rfl rfl q8) (v := .slice A n c) (by go_simp) rfl
          · obtain ⟨y8, e8, q8, rfl⟩ := hk1.ev_new hd1 8 59 (by kernel_rfl) rfl
            obtain ⟨y9, e9, q9, rfl⟩ := hk1.ev_new hd1 9 60 (by kernel_rfl) rfl
            obtain ⟨y10, e10, q10, rfl⟩ := hk1.ev_new hd1 10 61 (by kernel_rfl) rfl
            refine stepOk_enter (wanted_at (t := 59) rfl rfl q8) (f := 17) (args := #[.slice A3 n c3, .slice A n c]) (by go_simp) ?_
            refine (SameBytes_any A3 A c3 c n n key key w' ((s3.step hb0).step hk1.below) ((s1.step hb0).step hk1.below) HN.out HN.out).mono ?_
            rintro e w5 ⟨rfl, rfl⟩
            exact ⟨_, rfl, by show Value.bool (key == key) = _; simp, Below.refl _ _⟩
          · obtain ⟨y8, e8, q8, rfl⟩ := hk1.ev_new hd1 8 59 (by kernel_rfl) rfl
            obtain ⟨y11, e11, q11, rfl⟩ := hk1.ev_new hd1 11 62 (by kernel_rfl) rfl
            exact stepOk_valH (wanted_at (t := 59) rfl rfl q8) (v := .bool false) (by go_simp) rfl
          · obtain ⟨y8, e8, q8, rfl⟩ := hk1.ev_new hd1 8 59 (by kernel_rfl) rfl
            obtain ⟨y12, e12, q12, rfl⟩ := hk1.ev_new hd1 12 63 (by kernel_rfl) rfl
            exact stepOk_value rfl (v := .bool false) (by go_simp) rfl
          · obtain ⟨y13, e13, q13, rfl⟩ := hk1.ev_new hd1 13 64 (by kernel_rfl) rfl
            exact stepOk_value rfl (v := .bool false) (by go_simp) rfl
          · obtain ⟨y14, e14, q14, rfl⟩ := hk1.ev_new hd1 14 65 (by kernel_rfl) rfl
            have f14_ : a1.eval (.tmp 14) = .slice A4 m c4 := hk1.ev_old 14 (by kernel_rfl)
            have g14_ : a1.tmps[14]?.getD undef = .slice A4 m c4 := by simpa [Act.eval] using f14_
            exact stepOk_valH (wanted_at (t := 65) rfl rfl q14) (v := .slice A4 m c4) (by go_simp) rfl
          · obtain ⟨y14, e14, q14, rfl⟩ := hk1.ev_new hd1 14 65 (by kernel_rfl) rfl
            have f2_ : a1.eval (.tmp 2) = .slice B m d := hk1.ev_old 2 (by kernel_rfl)
            have g2_ : a1.tmps[2]?.getD undef = .slice B m d := by simpa [Act.eval] using f2_
            exact stepOk_valH (wanted_at (t := 65) rfl rfl q14) (v := .slice B m d) (by go_simp) rfl
          · obtain ⟨y14, e14, q14, rfl⟩ := hk1.ev_new hd1 14 65 (by kernel_rfl) rfl
            obtain ⟨y15, e15, q15, rfl⟩ := hk1.ev_new hd1 15 66 (by kernel_rfl) rfl
            obtain ⟨y16, e16, q16, rfl⟩ := hk1.ev_new hd1 16 67 (by kernel_rfl) rfl
            refine stepOk_enter (wanted_at (t := 65) rfl rfl q14) (f := 17) (args := #[.slice A4 m c4, .slice B m d]) (by go_simp) ?_
            refine (SameBytes_any A4 B c4 d m m b b w' ((s4.step hb0).step hk1.below) ((s2.step hb0).step hk1.below) HM.out HM.out).mono ?_
            rintro e w5 ⟨rfl, rfl⟩
            exact ⟨_, rfl, by show Value.bool (b == b) = _; simp, Below.refl _ _⟩
          · obtain ⟨y14, e14, q14, rfl⟩ := hk1.ev_new hd1 14 65 (by kernel_rfl) rfl
            obtain ⟨y17, e17, q17, rfl⟩ := hk1.ev_new hd1 17 68 (by kernel_rfl) rfl
            exact stepOk_valH (wanted_at (t := 65) rfl rfl q14) (v := .bool false) (by go_simp) rfl
        · intro a1 w6 hb6 hp
          obtain ⟨x0, p0, x1, p1, x2, p2, x3, p3, x4, p4, x5, p5, x6, p6, x7, p7, x8, p8, x9, p9, x10, p10, x11, p11, x12, p12, x13, p13, x14, p14, x15, p15, x16, p16, x17, p17, x18, p18, rfl⟩ := hp
          simp only [mt10] at p0 p1 p2 p3 p4 p5 p6 p7 p8 p9 p10 p11 p12 p13 p14 p15 p16 p17 p18
          subst p0 p1 p2 p3 p4 p5 p6 p7 p8 p9 p10 p11 p12 p13 p14 p15 p16 p17 p18
          simp only [List.drop_succ_cons, List.drop_zero, Act.put, List.setIfInBounds_toArray, List.set_cons_succ, List.set_cons_zero]
          replace hBw := Below.then_ hBw hb6
          replace ft := ft.below hb6
          replace hq := hq.step hb6
          replace s1 := s1.step hb6
          replace s2 := s2.step hb6
          clear hb6 s3 s4
          go_wp2_with fail
          refine region_all_tail 17 (mt12 TB tag Q q cq N TX R) (by kernel_rfl) (by kernel_rfl) (by kernel_rfl) (mt12_stab _ _ _ _ _ _ _ _) ?_ ?_
          · intro w0 hb0
            simp only [List.take_succ_cons, List.take_zero]
            refine ⟨?_, ?_, ?_, ?_, ?_, ?_, ?_, ?_, ?_, ?_, ?_, ?_, ?_, ?_, ?_, ?_, ?_, trivial⟩
            all_goals intro listed a1 w' hk1 hd1
            · have f3_ : a1.eval (.tmp 3) = .int .u8 (tag.toNat : Int) := hk1.ev_old 3 (by kernel_rfl)
              have g3_ : a1.tmps[3]?.getD undef = .int .u8 (tag.toNat : Int) := by simpa [Act.eval] using f3_
              exact stepOk_value rfl (v := .int .u8 (tag.toNat : Int)) (by go_simp) rfl
            · have f11_ : a1.eval (.tmp 11) = .slice Q q cq := hk1.ev_old 11 (by kernel_rfl)
              have g11_ : a1.tmps[11]?.getD undef = .slice Q q cq := by simpa [Act.eval] using f11_
              exact stepOk_value rfl (v := .slice Q q cq) (by go_simp) rfl
            · obtain ⟨y0, e0, q0, rfl⟩ := hk1.ev_new hd1 0 71 (by kernel_rfl) rfl
              obtain ⟨y1, e1, q1, rfl⟩ := hk1.ev_new hd1 1 72 (by kernel_rfl) rfl
              refine stepOk_enter rfl (f := 18) (args := #[.int .u8 (tag.toNat : Int), .slice Q q cq]) (by go_simp) ?_
              refine (Text_300 tag Q q cq N qs _ ((hq.step hb0).step hk1.below) rfl (by omega) hqm (by rw [HTX.out]; exact HNX.out)).mono ?_
              rintro e w5 ⟨A5, c5, rfl, hF5, hB5⟩
              rw [HTX.out] at hF5
              exact ⟨_, rfl, ⟨A5, c5, rfl, hF5.sees⟩, hB5⟩
            · have f3_ : a1.eval (.tmp 3) = .int .u8 (tag.toNat : Int) := hk1.ev_old 3 (by kernel_rfl)
              have g3_ : a1.tmps[3]?.getD undef = .int .u8 (tag.toNat : Int) := by simpa [Act.eval] using f3_
              exact stepOk_value rfl (v := .int .u8 (tag.toNat : Int)) (by go_simp) rfl
            · have f11_ : a1.eval (.tmp 11) = .slice Q q cq := hk1.ev_old 11 (by kernel_rfl)
              have g11_ : a1.tmps[11]?.getD undef = .slice Q q cq := by simpa [Act.eval] using f11_
              exact stepOk_value rfl (v := .slice Q q cq) (by go_simp) rfl
            · obtain ⟨y3, e3, q3, rfl⟩ := hk1.ev_new hd1 3 74 (by kernel_rfl) rfl
              obtain ⟨y4, e4, q4, rfl⟩ := hk1.ev_new hd1 4 75 (by kernel_rfl) rfl
              refine stepOk_enter rfl (f := 19) (args := #[.int .u8 (tag.toNat : Int), .slice Q q cq]) (by go_simp) ?_
              have ho := rText_any tag Q q cq qs w' ((hq.step hb0).step hk1.below) (by omega) (fun p hp => Nat.le_trans (hqm p hp) (by omega))
              rw [HTX.out, HNX.out] at ho
              refine ho.mono ?_
              rintro e w5 ⟨A5, c5, rfl, hF5, hB5⟩
              exact ⟨_, rfl, ⟨A5, c5, rfl, hF5.sees⟩, hB5⟩
            · obtain ⟨y2, e2, _, q2⟩ := hk1.ev_new hd1 2 73 (by kernel_rfl) rfl
              obtain ⟨y5, e5, _, q5⟩ := hk1.ev_new hd1 5 76 (by kernel_rfl) rfl
              obtain ⟨A5, c5, rfl, hS5⟩ := q2
              obtain ⟨A6, c6, rfl, hS6⟩ := q5
              refine stepOk_enter rfl (f := 17) (args := #[.slice A5 N c5, .slice A6 N c6]) (by go_simp) ?_
              refine (SameBytes_any A5 A6 c5 c6 N N TX TX w' hS5 hS6 HNX.out HNX.out).mono ?_
              rintro e w5 ⟨rfl, rfl⟩
              exact ⟨_, rfl, by show Value.bool (TX == TX) = _; simp, Below.refl _ _⟩
            · obtain ⟨y6, e6, q6, rfl⟩ := hk1.ev_new hd1 6 77 (by kernel_rfl) rfl
              exact stepOk_value rfl (v := .bool false) (by go_simp) rfl
            · obtain ⟨y7, e7, q7, rfl⟩ := hk1.ev_new hd1 7 78 (by kernel_rfl) rfl
              exact stepOk_value rfl (v := .bool false) (by go_simp) rfl
            · obtain ⟨y8, e8, q8, rfl⟩ := hk1.ev_new hd1 8 79 (by kernel_rfl) rfl
              have f3_ : a1.eval (.tmp 3) = .int .u8 (tag.toNat : Int) := hk1.ev_old 3 (by kernel_rfl)
              have g3_ : a1.tmps[3]?.getD undef = .int .u8 (tag.toNat : Int) := by simpa [Act.eval] using f3_
              exact stepOk_valH (wanted_at (t := 79) rfl rfl q8) (v := .int .u8 (tag.toNat : Int)) (by go_simp) rfl
            · obtain ⟨y8, e8, q8, rfl⟩ := hk1.ev_new hd1 8 79 (by kernel_rfl) rfl
              have f11_ : a1.eval (.tmp 11) = .slice Q q cq := hk1.ev_old 11 (by kernel_rfl)
              have g11_ : a1.tmps[11]?.getD undef = .slice Q q cq := by simpa [Act.eval] using f11_
              exact stepOk_valH (wanted_at (t := 79) rfl rfl q8) (v := .slice Q q cq) (by go_simp) rfl
            · obtain ⟨y8, e8, q8, rfl⟩ := hk1.ev_new hd1 8 79 (by kernel_rfl) rfl
              have f5_ : a1.eval (.tmp 5) = .pointer (some ⟨gt, 0, none⟩) := hk1.ev_old 5 (by kernel_rfl)
              have g5_ : a1.tmps[5]?.getD undef = .pointer (some ⟨gt, 0, none⟩) := by simpa [Act.eval] using f5_
              obtain ⟨y9, e9, q9, rfl⟩ := hk1.ev_new hd1 9 80 (by kernel_rfl) rfl
              obtain ⟨y10, e10, q10, rfl⟩ := hk1.ev_new hd1 10 81 (by kernel_rfl) rfl
              refine stepOk_enter (wanted_at (t := 79) rfl rfl q8) (f := 20) (args := #[.pointer (some ⟨gt, 0, none⟩), .int .u8 (tag.toNat : Int), .slice Q q cq]) (by go_simp) ?_
              refine (Tagged_600 gt 0 first keys ⟨H8.out, H64.out, by rw [HTB.out]; exact ((ft.below hb0).below hk1.below).sees⟩ tag Q q cq qs _ ((hq.step hb0).step hk1.below) rfl (by omega) hqm R (by rw [HTX.out]; exact HR.out)).mono ?_
              rintro e w5 ⟨rfl, hB5⟩
              exact ⟨_, rfl, rfl, hB5⟩
            · obtain ⟨y8, e8, q8, rfl⟩ := hk1.ev_new hd1 8 79 (by kernel_rfl) rfl
              have f5_ : a1.eval (.tmp 5) = .pointer (some ⟨gt, 0, none⟩) := hk1.ev_old 5 (by kernel_rfl)
              have g5_ : a1.tmps[5]?.getD undef = .pointer (some ⟨gt, 0, none⟩) := by simpa [Act.eval] using f5_
              exact stepOk_valH (wanted_at (t := 79) rfl rfl q8) (run_load_agg (.tmp 5) 26 rfl (hk1.ev_old 5 (by kernel_rfl)) TB 72 HC.out (by kernel_rfl) ((ft.below hb0).below hk1.below).sees) rfl
            · obtain ⟨y8, e8, q8, rfl⟩ := hk1.ev_new hd1 8 79 (by kernel_rfl) rfl
              have f3_ : a1.eval (.tmp 3) = .int .u8 (tag.toNat : Int) := hk1.ev_old 3 (by kernel_rfl)
              have g3_ : a1.tmps[3]?.getD undef = .int .u8 (tag.toNat : Int) := by simpa [Act.eval] using f3_
              exact stepOk_valH (wanted_at (t := 79) rfl rfl q8) (v := .int .u8 (tag.toNat : Int)) (by go_simp) rfl
            · obtain ⟨y8, e8, q8, rfl⟩ := hk1.ev_new hd1 8 79 (by kernel_rfl) rfl
              have f11_ : a1.eval (.tmp 11) = .slice Q q cq := hk1.ev_old 11 (by kernel_rfl)
              have g11_ : a1.tmps[11]?.getD undef = .slice Q q cq := by simpa [Act.eval] using f11_
              exact stepOk_valH (wanted_at (t := 79) rfl rfl q8) (v := .slice Q q cq) (by go_simp) rfl
            · obtain ⟨y8, e8, q8, rfl⟩ := hk1.ev_new hd1 8 79 (by kernel_rfl) rfl
              obtain ⟨y12, e12, q12, rfl⟩ := hk1.ev_new hd1 12 83 (by kernel_rfl) rfl
              obtain ⟨y13, e13, q13, rfl⟩ := hk1.ev_new hd1 13 84 (by kernel_rfl) rfl
              obtain ⟨y14, e14, q14, rfl⟩ := hk1.ev_new hd1 14 85 (by kernel_rfl) rfl
              refine stepOk_enter (wanted_at (t := 79) rfl rfl q8) (f := 21) (args := #[.agg TB.toArray, .int .u8 (tag.toNat : Int), .slice Q q cq]) (by go_simp) ?_
              have ho := rTagged_any first keys tag Q q cq qs w' H8.out H64.out ((hq.step hb0).step hk1.below) (by omega) (fun p hp => Nat.le_trans (hqm p hp) (by omega)) TX HTX.out (by rw [HNX.out]; omega)
              rw [HR.out, HTB.out] at ho
              refine ho.mono ?_
              rintro e w5 ⟨rfl, hB5⟩
              exact ⟨_, rfl, rfl, hB5⟩
            · obtain ⟨y8, e8, q8, rfl⟩ := hk1.ev_new hd1 8 79 (by kernel_rfl) rfl
              obtain ⟨y11, e11, q11, rfl⟩ := hk1.ev_new hd1 11 82 (by kernel_rfl) rfl
              obtain ⟨y15, e15, q15, rfl⟩ := hk1.ev_new hd1 15 86 (by kernel_rfl) rfl
              exact stepOk_valH (wanted_at (t := 79) rfl rfl q8) (run_neq_of (.tmp 82) (.tmp 86) 32 32 rfl (by kernel_rfl) _ _ e11 e15 (neq_digest R HR32.out w')) rfl
          · intro a1 w7 hb7 hp
            obtain ⟨x0, p0, x1, p1, x2, p2, x3, p3, x4, p4, x5, p5, x6, p6, x7, p7, x8, p8, x9, p9, x10, p10, x11, p11, x12, p12, x13, p13, x14, p14, x15, p15, x16, p16, rfl⟩ := hp
            simp only [mt12] at p0 p1 p3 p4 p6 p7 p8 p9 p10 p11 p12 p13 p14 p15 p16
            subst p0 p1 p3 p4 p6 p7 p8 p9 p10 p11 p12 p13 p14 p15 p16
            simp only [List.drop_succ_cons, List.drop_zero, Act.put, List.setIfInBounds_toArray, List.set_cons_succ, List.set_cons_zero]
            replace hBw := Below.then_ hBw hb7
            replace s1 := s1.step hb7
            replace s2 := s2.step hb7
            obtain ⟨u, hu⟩ : ∃ u, (key == b) = u := ⟨_, rfl⟩
            have hsm := Same_any A B c d n m key b w7 s1 s2 HN.out HM.out (by omega) (by omega)
            have hsb := fun w' (x : Below w7.heap.size w7 w') => SameBytes_any A B c d n m key b w' (s1.step x) (s2.step x) HN.out HM.out
            rw [hu] at hsm hsb
            cases u
            all_goals
              go_wp2_with (first
                | (go_at_call 22; refine hsm.mono ?_; rintro e w8 ⟨rfl, k8, rfl⟩)
                | (go_at_call 17; refine (hsb _ (below_drewN' (Below.refl _ _) k8)).mono ?_; rintro e w9 ⟨rfl, rfl⟩)
                | (go_at_call 13; refine (awake3_any _).mono ?_; rintro e w10 ⟨rfl, hB10⟩))
              go_ret
              exact ⟨rfl, Below.then_ (below_drewN' hBw k8) hB10⟩
  · rcases (by omega : 300 < n ∨ (n ≤ 300 ∧ 300 < m)) with b1 | ⟨b1, b2⟩
    all_goals
      go_wp2_with (first
        | (with_reducible refine wpList_box (o := ⟨some 5, _, _, _, _, _⟩) rfl (.tmp 0) 26 rfl TB rfl 72 HC.out (by decide) ?_; intro gt w1 hgt hFt hBt)
        | (go_at_call 13; refine (awake3_any _).mono ?_; rintro e w10 ⟨rfl, hB10⟩))
      go_ret
      exact ⟨rfl, Below.then_ hBt hB10⟩
theorem mactells_law (W : World) (first0 keys0 : List UInt32) (lf0 : first0.length = 8) (lk0 : keys0.length = 64) (a1 : Option Addr) (len1 cap1 : Nat) (z1 : List Int) (w1 : IsRow .u8 W a1 len1 cap1 z1) (a2 : Option Addr) (len2 cap2 : Nat) (z2 : List Int) (w2 : IsRow .u8 W a2 len2 cap2 z2) (a3 : Int) (w3 : (Lit.int .u8 a3).wf = true) (a4 : Option Addr) (len4 cap4 : Nat) (o4 : List Pb) (s4 : Parts W a4 len4 o4) :
    Calls Try.prog 3 #[.agg (cw (first0 ++ keys0)).toArray, .slice a1 len1 cap1, .slice a2 len2 cap2, .int .u8 a3, .slice a4 len4 cap4] W fun e w' => e = .returned (.bool true) ∧ Below W.heap.size W w' := by
  obtain ⟨s, rfl⟩ := byte_is w3
  obtain ⟨b1, h1, h2, h3, h4⟩ := row_bytes w1
  obtain ⟨b2, k1, k2, k3, k4⟩ := row_bytes w2
  exact mactells_walk first0 keys0 lf0 lk0 a1 a2 a4 len1 cap1 len2 cap2 len4 cap4 b1 b2 h2 h1 k2 k1 s o4 s4
end
end Go.Proofs.Ytehokoeajinboaa
