/-
  MerkleGrows returns true for every input, and writes nothing that was there: the walk.
-/
import Derived.Test.YtdpbnppngkamiaaRegionM
import Derived.ProofKit
import Derived.OpenShut
namespace Go.Proofs.Ytdpbnppngkamiaa
open Go.RowKit
set_option linter.unusedVariables false

def mgF (g14 g16 g21 g23 g25 g27 h cp cq cr cs : Nat) (Bp Bq Br Bs : Option Addr) (X Y : List UInt8) (k_ : Nat) (v : Value) (w : World) : Prop :=
  match k_ with
  | 0 => v = .int .i64 0
  | 1 => v = .int .i64 0
  | 2 => v = .int .i64 0
  | 3 => v = .int .i64 0
  | 4 => v = .int .i64 0
  | 5 => v = .int .i64 0
  | 6 => v = .int .i64 0
  | 7 => v = .bool true
  | 8 => v = .bool true
  | 9 => v = .pointer (some ⟨g23, 1, none⟩)
  | 10 => v = .slice Bq (h + 1) cq
  | 11 => v = .pointer (some ⟨g21, 1, none⟩)
  | 12 => v = .slice Bp h cp
  | 14 => v = .agg (cb Y).toArray
  | 17 => v = .bool true
  | 18 => v = .bool true
  | 19 => v = .bool true
  | 20 => v = .pointer (some ⟨g25, 1, none⟩)
  | 21 => v = .slice Br (h + 1) cr
  | 22 => v = .pointer (some ⟨g27, 1, none⟩)
  | 23 => v = .slice Bs h cs
  | 25 => v = .agg (cb X).toArray
  | 28 => v = .bool true
  | 29 => v = .bool true
  | 30 => v = .bool true
  | 31 => v = .bool true
  | 32 => v = .bool true
  | 33 => v = .bool true
  | _ => True
def mhF (gt : Nat) (X Y Z : List UInt8) (j : Nat) (x : Value) (w : World) : Prop :=
  match j with
  | 0 => x = .int .i64 0
  | 1 => x = .int .i64 0
  | 2 => x = .int .i64 0
  | 3 => x = .int .i64 0
  | 4 => x = .int .i64 0
  | 5 => x = .bool false
  | 6 => x = .bool false
  | 7 => x = .agg (cb Z).toArray
  | 8 => x = .agg (cb X).toArray
  | 9 => x = .agg (cb Y).toArray
  | 10 => x = .agg (cb Z).toArray
  | 11 => x = .bool false
  | _ => True
theorem mhF_stab (gt : Nat) (X Y Z : List UInt8) : ∀ j x w w', Below w.heap.size w w' → mhF gt X Y Z j x w → mhF gt X Y Z j x w' := fun _ _ _ _ _ h => h

theorem OwnD.grown {w w' : World} {b1 b2 n m c d : Nat} {A B : Option Addr} {ds es : List (List UInt8)} (h : OwnD b1 w A n c ds) (hB : OwnD b2 w B m d es) (hg : w.grownBy w' (Value.slice B m d).ownBlock) (hlt : ∀ k, (Value.slice A n c).ownBlock = some k → k < b2) : OwnD b1 w' A n c ds := by
  refine ⟨World.ownsRow.kept h.row hg ?_, h.all⟩
  cases hv : (Value.slice A n c).ownBlock with
  | none => exact .inl rfl
  | some k =>
    right
    intro e
    have h1 := (hB.row.lt k e.symm).1
    have h2 := hlt k hv
    omega
theorem OwnD.nilc {w : World} {b n c : Nat} {A : Option Addr} {ds : List (List UInt8)} (h : OwnD b w A n c ds) : A = none → c = 0 := by
  rintro rfl
  rcases h.row.2 with ⟨hv, _⟩ | ⟨g, cap, cur, hv, _⟩
  · simp at hv; exact hv.2
  · simp at hv
def grL : List (Nat × Nat) := [(17, 16), (18, 17), (19, 18), (24, 19), (25, 19), (26, 25), (27, 24)]
theorem gr_no {listed : Array Bool} (h : ordJ grL listed) (n : listed.getD 16 false = false) : listed.getD 24 false = false ∧ listed.getD 26 false = false ∧ listed.getD 27 false = false := by
  have c1 := h (17, 16) (by simp [grL])
  have c2 := h (18, 17) (by simp [grL])
  have c3 := h (19, 18) (by simp [grL])
  have c4 := h (24, 19) (by simp [grL])
  have c5 := h (25, 19) (by simp [grL])
  have c6 := h (26, 25) (by simp [grL])
  have c7 := h (27, 24) (by simp [grL])
  simp only at c1 c2 c3 c4 c5 c6 c7
  refine ⟨?_, ?_, ?_⟩
  · cases e : listed.getD 24 false
    · rfl
    · rw [c1 (c2 (c3 (c4 e)))] at n; cases n
  · cases e : listed.getD 26 false
    · rfl
    · rw [c1 (c2 (c3 (c5 (c6 e))))] at n; cases n
  · cases e : listed.getD 27 false
    · rfl
    · rw [c1 (c2 (c3 (c4 (c7 e))))] at n; cases n
theorem gr_yes {listed : Array Bool} (h : ordJ grL listed) (n : listed.getD 24 false = true) : listed.getD 16 false = true ∧ listed.getD 17 false = true := by
  have c1 := h (17, 16) (by simp [grL])
  have c2 := h (18, 17) (by simp [grL])
  have c3 := h (19, 18) (by simp [grL])
  have c4 := h (24, 19) (by simp [grL])
  simp only at c1 c2 c3 c4
  have h17 := c2 (c3 (c4 n))
  exact ⟨c1 h17, h17⟩
def grJ (w1 : World) (h : Nat) (P1 P2 : List (List UInt8)) (X Y : List UInt8) (listed : Array Bool) (act : Act) (w : World) : Prop :=
  Below w1.heap.size w1 w ∧ agJ w1 13 111 15 113 16 114 17 h P1 Y listed act w ∧ agJ w1 24 122 26 124 27 125 28 h P2 X listed act w ∧ ordJ grL listed
theorem grJ.other {w w' w1 : World} {h : Nat} {P1 P2 : List (List UInt8)} {X Y : List UInt8} {listed : Array Bool} {act : Act} (H : grJ w1 h P1 P2 X Y listed act w) (i t : Nat) (v : Value) (hi : (i ≠ 13 ∧ i ≠ 15 ∧ i ≠ 16) ∧ i ≠ 24 ∧ i ≠ 26 ∧ i ≠ 27) (ht : (t ≠ 111 ∧ t ≠ 113 ∧ t ≠ 114) ∧ t ≠ 122 ∧ t ≠ 124 ∧ t ≠ 125) (y : Below w.heap.size w w') (ho : ∀ p ∈ grL, p.1 = i → listed.getD p.2 false = true) :
    grJ w1 h P1 P2 X Y (listed.setIfInBounds i true) (act.put (some t) v) w' :=
  ⟨H.1.trans (y.mono H.1.size), H.2.1.other i t v hi.1.1 hi.1.2.1 hi.1.2.2 ht.1.1 ht.1.2.1 ht.1.2.2 y, H.2.2.1.other i t v hi.2.1 hi.2.2.1 hi.2.2.2 ht.2.1 ht.2.2.1 ht.2.2.2 y, H.2.2.2.set i ho⟩
section
variable {w : World}
set_option maxHeartbeats 8000000 in
set_option maxRecDepth 100000 in
theorem grows_walk (first keys : List UInt32) (h8 : first.length = 8) (h64 : keys.length = 64) (A : Option Addr) (n c : Nat) (l : List (List UInt8)) (hA : Digs w A n l) (hn : n ≤ 9223372036854775807) (A2 : Option Addr) (n2 c2 : Nat) (l2 : List (List UInt8)) (hA2 : Digs w A2 n2 l2) (hn2 : n2 ≤ 9223372036854775807) (hh : Nat) (hb : hh < 256) (leaf : Int) (hz : -9223372036854775808 ≤ leaf ∧ leaf ≤ 9223372036854775807) :
    Calls Try.prog 8 #[.agg (cw (first ++ keys)).toArray, .slice A n c, .slice A2 n2 c2, .int .u8 (hh : Int), .int .i64 leaf] w fun e w' => e = .returned (.bool true) ∧ Below w.heap.size w w' := by
  have HC : Hid ((cw (first ++ keys)).length = 72) := Lib.hid (by simp [h8, h64])
  have H8 := Lib.hid h8
  have H64 := Lib.hid h64
  obtain ⟨TB, hTB⟩ : ∃ TB, cw (first ++ keys) = TB := ⟨_, rfl⟩
  have HTB := Lib.hid hTB
  rw [hTB] at HC ⊢
  have q1 := fun (w' : World) (h1 : Digs w' A n l) => grown10_any A n c l h1 hn hh hb
  have q2 := fun (w' : World) (h1 : Digs w' A2 n2 l2) => grown10_any A2 n2 c2 l2 h1 hn2 hh hb
  obtain ⟨h, hhm⟩ : ∃ h, hh % 6 = h := ⟨_, rfl⟩
  have h6 : h < 6 := by omega
  obtain ⟨N, hN⟩ : ∃ N, 2 ^ h = N := ⟨_, rfl⟩
  rw [hhm, hN] at q1 q2
  have HG1 := Lib.hid q1
  have HG2 := Lib.hid q2
  have hN0 : 0 < N := by rw [← hN]; exact Nat.pow_pos (by decide)
  have hN32 : N ≤ 32 := by rw [← hN]; exact Nat.le_trans (Nat.pow_le_pow_right (by decide) (show h ≤ 5 by omega)) (by decide)
  have hN1000 : N ≤ 1000 := by omega
  have HN2 := Lib.hid hN
  clear hTB hhm hN h8 h64 q1 q2 hn hn2 hb
  go_enter Try.func8, Try.ntmps8
  go_wp2_with (first
    | (with_reducible refine wpList_box (o := ⟨some 5, _, _, _, _, _⟩) rfl (.tmp 0) 79 rfl TB rfl 72 HC.out (by decide) ?_; intro gt w1 hgt hFt hBt)
    | (go_at_call 55; with_reducible refine (HG1.out _ (hA.step hBt)).mono ?_; rintro e w2 ⟨Aa, ca, da, rfl, hOa2, hB2⟩; have hBw2 := Below.then_ hBt hB2; have hft2 := hFt.below hB2)
    | (go_at_call 55; with_reducible refine (HG2.out _ (hA2.step hBw2)).mono ?_; rintro e w3 ⟨Ab, cb_, db, rfl, hOb3, hB3⟩; have hBw3 := Below.then_ hBw2 hB3; have hft3 := hft2.below hB3; have hOa3 := hOa2.below hB3; obtain ⟨gb, ob, rfl, _⟩ := hOb3.digs.at_ hN0)
    | (go_at_call 47; refine (CopyDigests_any Aa N ca da hOa3.digs hN1000 hOa3.nilc).mono ?_; rintro e w4 ⟨Ac, cc, rfl, hOc4, hB4⟩; have hBw4 := Below.then_ hBw3 hB4; have hft4 := hft3.below hB4; have hOa4 := hOa3.below hB4; have hOb4 := hOb3.below hB4)
    | (at_builtin; refine wpList_appD rfl (.tmp 36) (.tmp 37) rfl w3.heap.size Ac N cc da ⟨gb, ob, none⟩ N cb_ db w rfl rfl hOc4 (hOb4.digs.read rfl) hOb4.all hOb4.len (by omega) hBw3.size hB4.size hBw4 ?_; intro A5 c5 w5 hOc5 hB5 hgr5))
  have ft_2 : Fresh w.heap.size 79 w5 (some ⟨gt, 0, none⟩) 72 72 TB := World.ownsRow.kept hft4 hgr5 (fresh_unlikeD hft4 hOc4 (by decide))
  have hOa_2 := hOa4.grown hOc4 hgr5 (fun k hk => (hOa3.row.lt k hk).2)
  have hOb_2 := hOb4.grown hOc4 hgr5 (fun k hk => (hOb3.row.lt k hk).2)
  have hOc_2 := hOc5
  have hB_2 := hB5
  have hla : Hid (da.length = N) := Lib.hid hOa3.len
  have hlb : Hid (db.length = N) := Lib.hid hOb3.len
  have HAA := Lib.hid hOa3.all
  have HAB := Lib.hid hOb3.all
  clear hFt hBt hB2 hBw2 hft2 hOa2 hB3 hft3 hOa3 hOb3 hBw3 hOc4 hB4 hBw4 hft4 hOa4 hOb4 hOc5 hB5 hgr5 hgt
  obtain ⟨X, hX⟩ : ∃ X, rootF (Dg.tabO first keys H8.out) da h = X := ⟨_, rfl⟩
  obtain ⟨Y, hY⟩ : ∃ Y, rootF (Dg.tabO first keys H8.out) db h = Y := ⟨_, rfl⟩
  obtain ⟨Z, hZ⟩ : ∃ Z, nodeF (Dg.tabO first keys H8.out) X Y = Z := ⟨_, rfl⟩
  have LX : Hid (X.length = 32) := Lib.hid (by rw [← hX]; exact len_rootF _ (by rw [hla.out, HN2.out]) HAA.out)
  have LY : Hid (Y.length = 32) := Lib.hid (by rw [← hY]; exact len_rootF _ (by rw [hlb.out, HN2.out]) HAB.out)
  have LZ : Hid (Z.length = 32) := Lib.hid (by rw [← hZ]; exact len_nodeF _ _ _)
  have hra := root_append (Dg.tabO first keys H8.out) (a := da) (b := db) (h := h) (by rw [hla.out, HN2.out]) (by rw [hlb.out, HN2.out])
  rw [hX, hY, hZ] at hra
  have hNN : N + N = 2 ^ (h + 1) := by rw [Nat.pow_succ, HN2.out]; omega
  have q1 := fun (w' : World) (T : Option Addr) (h1 : OfAt w' T (Dg.tabO first keys H8.out)) (h2 : Digs w' Aa N da) => Root_yes h1 Aa N ca da h2 h (by omega) HN2.out.symm
  have q2 := fun (w' : World) (T : Option Addr) (h1 : OfAt w' T (Dg.tabO first keys H8.out)) (h2 : Digs w' (some ⟨gb, ob, none⟩) N db) => Root_yes h1 (some ⟨gb, ob, none⟩) N cb_ db h2 h (by omega) HN2.out.symm
  have q3 := fun (w' : World) (T : Option Addr) (h1 : OfAt w' T (Dg.tabO first keys H8.out)) (h2 : Digs w' A5 (N + N) (da ++ db)) => Root_yes h1 A5 (N + N) c5 (da ++ db) h2 (h + 1) (by omega) hNN
  have q4 := fun (w' : World) (T : Option Addr) (h1 : OfAt w' T (Dg.tabO first keys H8.out)) => Node_any h1 X Y LX.out LY.out
  rw [hX] at q1
  rw [hY] at q2
  rw [hra] at q3
  rw [hZ] at q4
  have QA := Lib.hid q1
  have QB := Lib.hid q2
  have QC := Lib.hid q3
  have QN := Lib.hid q4
  have HX := Lib.hid hX
  have HY := Lib.hid hY
  have HNN := Lib.hid hNN
  clear q1 q2 q3 q4 hX hY hZ hra hNN
  go_wp2_with (first
    | (go_at_call 41; with_reducible refine (QA.out _ _ (OfAt.of_tab (first := first) (keys := keys) ⟨H8.out, H64.out, by rw [HTB.out]; exact ft_2.sees⟩) hOa_2.digs).mono ?_; rintro e wc3 ⟨rfl, hBc3⟩)
    | (with_reducible refine wpList_alloc (o := ⟨some 14, _, _, _, _, _⟩) rfl 83 rfl (cb (List.replicate 32 0)) (by kernel_rfl) 32 (len_zb 32) (by decide) ?_; intro g14 wa3 hg14 hF3 hBa3)
    | (with_reducible refine wpList_store rfl rfl (.tmp 14) (.tmp 42) 83 rfl g14 0 _ 83 32 (cb (List.replicate 32 0)) (cb X) rfl rfl 32 (by rw [List.length_map]; exact LX.out) (by kernel_rfl) hF3 (by omega) (cb_one _) wc3 hBa3 hg14 ?_; intro ws3 f14_3 hbs3 ho3_ _; have ho3 := Lib.hid ho3_; clear ho3_; (rw [splice_32 _ _ List.length_replicate LX.out] at f14_3); have hBr3 := Below.then_ hBc3 hbs3; have ft_3 := ft_2.below hBr3; have hOa_3 := hOa_2.below hBr3; have hOb_3 := hOb_2.below hBr3; have hOc_3 := hOc_2.below hBr3; have hB_3 := Below.then_ hB_2 hBr3))
  clear hF3 hBa3 ho3 hBr3 hBc3 hbs3 hB_2 hg14 ft_2 hOa_2 hOb_2 hOc_2
  go_wp2_with (first
    | (go_at_call 41; with_reducible refine (QB.out _ _ (OfAt.of_tab (first := first) (keys := keys) ⟨H8.out, H64.out, by rw [HTB.out]; exact ft_3.sees⟩) hOb_3.digs).mono ?_; rintro e wc4 ⟨rfl, hBc4⟩)
    | (with_reducible refine wpList_alloc (o := ⟨some 16, _, _, _, _, _⟩) rfl 83 rfl (cb (List.replicate 32 0)) (by kernel_rfl) 32 (len_zb 32) (by decide) ?_; intro g16 wa4 hg16 hF4 hBa4)
    | (with_reducible refine wpList_store rfl rfl (.tmp 16) (.tmp 47) 83 rfl g16 0 _ 83 32 (cb (List.replicate 32 0)) (cb Y) rfl rfl 32 (by rw [List.length_map]; exact LY.out) (by kernel_rfl) hF4 (by omega) (cb_one _) wc4 hBa4 hg16 ?_; intro ws4 f16_4 hbs4 ho4_ _; have ho4 := Lib.hid ho4_; clear ho4_; (rw [splice_32 _ _ List.length_replicate LY.out] at f16_4); have hBr4 := Below.then_ hBc4 hbs4; have ft_4 := ft_3.below hBr4; have hOa_4 := hOa_3.below hBr4; have hOb_4 := hOb_3.below hBr4; have hOc_4 := hOc_3.below hBr4; have f14_4 := f14_3.below hBr4; have hB_4 := Below.then_ hB_3 hBr4))
  clear hF4 hBa4 ho4 hBr4 hBc4 hbs4 hB_3 hg16 ft_3 hOa_3 hOb_3 hOc_3 f14_3
  go_wp2_with (first
    | (go_at_call 41; with_reducible refine (QC.out _ _ (OfAt.of_tab (first := first) (keys := keys) ⟨H8.out, H64.out, by rw [HTB.out]; exact ft_4.sees⟩) hOc_4.digs).mono ?_; rintro e wc5 ⟨rfl, hBc5⟩)
    | (with_reducible refine wpList_alloc (o := ⟨some 18, _, _, _, _, _⟩) rfl 83 rfl (cb (List.replicate 32 0)) (by kernel_rfl) 32 (len_zb 32) (by decide) ?_; intro g18 wa5 hg18 hF5 hBa5)
    | (with_reducible refine wpList_store rfl rfl (.tmp 18) (.tmp 52) 83 rfl g18 0 _ 83 32 (cb (List.replicate 32 0)) (cb Z) rfl rfl 32 (by rw [List.length_map]; exact LZ.out) (by kernel_rfl) hF5 (by omega) (cb_one _) wc5 hBa5 hg18 ?_; intro ws5 f18_5 hbs5 ho5_ _; have ho5 := Lib.hid ho5_; clear ho5_; (rw [splice_32 _ _ List.length_replicate LZ.out] at f18_5); have hBr5 := Below.then_ hBc5 hbs5; have ft_5 := ft_4.below hBr5; have hOa_5 := hOa_4.below hBr5; have hOb_5 := hOb_4.below hBr5; have hOc_5 := hOc_4.below hBr5; have f14_5 := f14_4.below hBr5; have f16_5 := f16_4.below hBr5; have hB_5 := Below.then_ hB_4 hBr5))
  clear hF5 hBa5 ho5 hBr5 hBc5 hbs5 hB_4 hg18 ft_4 hOa_4 hOb_4 hOc_4 f14_4 f16_4
  go_wp2_with fail
  refine region_all_tail 12 (mhF gt X Y Z) (by kernel_rfl) (by kernel_rfl) (by kernel_rfl) (mhF_stab _ _ _ _) ?_ ?_
  · intro w0 hb0
    simp only [List.take_succ_cons, List.take_zero]
    refine ⟨?_, ?_, ?_, ?_, ?_, ?_, ?_, ?_, ?_, ?_, ?_, ?_, trivial⟩
    all_goals intro listed a1 w' hk1 hd1
    · have f15_ : a1.eval (.tmp 15) = .int .i64 0 := hk1.ev_old 15 (by kernel_rfl)
      have g15_ : a1.tmps[15]?.getD undef = .int .i64 0 := by simpa [Act.eval] using f15_
      exact stepOk_value rfl (v := .int .i64 0) (by go_simp) rfl
    · have f17_ : a1.eval (.tmp 17) = .int .i64 0 := hk1.ev_old 17 (by kernel_rfl)
      have g17_ : a1.tmps[17]?.getD undef = .int .i64 0 := by simpa [Act.eval] using f17_
      exact stepOk_value rfl (v := .int .i64 0) (by go_simp) rfl
    · obtain ⟨y0, e0, q0, rfl⟩ := hk1.ev_new hd1 0 54 (by kernel_rfl) rfl
      obtain ⟨y1, e1, q1, rfl⟩ := hk1.ev_new hd1 1 55 (by kernel_rfl) rfl
      have w00 : IntKind.i64.wrap 0 = 0 := by decide
      exact stepOk_value rfl (v := .int .i64 0) (by go_simp) rfl
    · have f19_ : a1.eval (.tmp 19) = .int .i64 0 := hk1.ev_old 19 (by kernel_rfl)
      have g19_ : a1.tmps[19]?.getD undef = .int .i64 0 := by simpa [Act.eval] using f19_
      exact stepOk_value rfl (v := .int .i64 0) (by go_simp) rfl
    · obtain ⟨y2, e2, q2, rfl⟩ := hk1.ev_new hd1 2 56 (by kernel_rfl) rfl
      obtain ⟨y3, e3, q3, rfl⟩ := hk1.ev_new hd1 3 57 (by kernel_rfl) rfl
      have w00 : IntKind.i64.wrap 0 = 0 := by decide
      exact stepOk_value rfl (v := .int .i64 0) (by go_simp) rfl
    · obtain ⟨y4, e4, q4, rfl⟩ := hk1.ev_new hd1 4 58 (by kernel_rfl) rfl
      exact stepOk_value rfl (v := .bool false) (by go_simp) rfl
    · obtain ⟨y5, e5, q5, rfl⟩ := hk1.ev_new hd1 5 59 (by kernel_rfl) rfl
      exact stepOk_value rfl (v := .bool false) (by go_simp) rfl
    · obtain ⟨y6, e6, q6, rfl⟩ := hk1.ev_new hd1 6 60 (by kernel_rfl) rfl
      have f18_ : a1.eval (.tmp 18) = .pointer (some ⟨g18, 0, none⟩) := hk1.ev_old 18 (by kernel_rfl)
      have g18_ : a1.tmps[18]?.getD undef = .pointer (some ⟨g18, 0, none⟩) := by simpa [Act.eval] using f18_
      exact stepOk_valG (wanted_at (t := 60) rfl rfl q6) (run_load_agg (.tmp 18) 83 rfl (hk1.ev_old 18 (by kernel_rfl)) (cb Z) 32 (by rw [List.length_map]; exact LZ.out) (by kernel_rfl) ((f18_5.below hb0).below hk1.below).sees) rfl
    · obtain ⟨y6, e6, q6, rfl⟩ := hk1.ev_new hd1 6 60 (by kernel_rfl) rfl
      have f14_ : a1.eval (.tmp 14) = .pointer (some ⟨g14, 0, none⟩) := hk1.ev_old 14 (by kernel_rfl)
      have g14_ : a1.tmps[14]?.getD undef = .pointer (some ⟨g14, 0, none⟩) := by simpa [Act.eval] using f14_
      exact stepOk_valG (wanted_at (t := 60) rfl rfl q6) (run_load_agg (.tmp 14) 83 rfl (hk1.ev_old 14 (by kernel_rfl)) (cb X) 32 (by rw [List.length_map]; exact LX.out) (by kernel_rfl) ((f14_5.below hb0).below hk1.below).sees) rfl
    · obtain ⟨y6, e6, q6, rfl⟩ := hk1.ev_new hd1 6 60 (by kernel_rfl) rfl
      have f16_ : a1.eval (.tmp 16) = .pointer (some ⟨g16, 0, none⟩) := hk1.ev_old 16 (by kernel_rfl)
      have g16_ : a1.tmps[16]?.getD undef = .pointer (some ⟨g16, 0, none⟩) := by simpa [Act.eval] using f16_
      exact stepOk_valG (wanted_at (t := 60) rfl rfl q6) (run_load_agg (.tmp 16) 83 rfl (hk1.ev_old 16 (by kernel_rfl)) (cb Y) 32 (by rw [List.length_map]; exact LY.out) (by kernel_rfl) ((f16_5.below hb0).below hk1.below).sees) rfl
    · obtain ⟨y6, e6, q6, rfl⟩ := hk1.ev_new hd1 6 60 (by kernel_rfl) rfl
      have f5_ : a1.eval (.tmp 5) = .pointer (some ⟨gt, 0, none⟩) := hk1.ev_old 5 (by kernel_rfl)
      have g5_ : a1.tmps[5]?.getD undef = .pointer (some ⟨gt, 0, none⟩) := by simpa [Act.eval] using f5_
      obtain ⟨y8, e8, q8, rfl⟩ := hk1.ev_new hd1 8 62 (by kernel_rfl) rfl
      obtain ⟨y9, e9, q9, rfl⟩ := hk1.ev_new hd1 9 63 (by kernel_rfl) rfl
      refine stepOk_enter (wanted_at (t := 60) rfl rfl q6) (f := 45) (args := #[.pointer (some ⟨gt, 0, none⟩), .agg (cb X).toArray, .agg (cb Y).toArray]) (by go_simp) ?_
      have ho := QN.out _ _ (OfAt.of_tab (first := first) (keys := keys) ⟨H8.out, H64.out, by rw [HTB.out]; exact ((ft_5.below hb0).below hk1.below).sees⟩)
      refine ho.mono ?_
      rintro e w5 ⟨rfl, hB5⟩
      exact ⟨_, rfl, rfl, hB5⟩
    · obtain ⟨y6, e6, q6, rfl⟩ := hk1.ev_new hd1 6 60 (by kernel_rfl) rfl
      obtain ⟨y7, e7, q7, rfl⟩ := hk1.ev_new hd1 7 61 (by kernel_rfl) rfl
      obtain ⟨y10, e10, q10, rfl⟩ := hk1.ev_new hd1 10 64 (by kernel_rfl) rfl
      exact stepOk_valG (wanted_at (t := 60) rfl rfl q6) (run_neq_of (.tmp 61) (.tmp 64) 83 _ rfl (by kernel_rfl) _ _ e7 e10 (neq_digest Z LZ.out w')) rfl
  · intro a1 wA hbA hp
    obtain ⟨x0, p0, x1, p1, x2, p2, x3, p3, x4, p4, x5, p5, x6, p6, x7, p7, x8, p8, x9, p9, x10, p10, x11, p11, rfl⟩ := hp
    simp only [mhF] at p0 p1 p2 p3 p4 p5 p6 p7 p8 p9 p10 p11
    subst p0 p1 p2 p3 p4 p5 p6 p7 p8 p9 p10 p11
    simp only [List.drop_succ_cons, List.drop_zero, Act.put, List.setIfInBounds_toArray, List.set_cons_succ, List.set_cons_zero]
    have ft_6 := ft_5.below hbA
    have hOa_6 := hOa_5.below hbA
    have hOb_6 := hOb_5.below hbA
    have hOc_6 := hOc_5.below hbA
    have f14_6 := f14_5.below hbA
    have f16_6 := f16_5.below hbA
    have hB_6 := Below.then_ hB_5 hbA
    clear hbA ft_5 hOa_5 hOb_5 hOc_5 f14_5 f16_5 f18_5 hB_5
    go_wp2_with (go_at_call 56; refine (Pick_any leaf N wA hN0 hN1000 hz).mono ?_; rintro e w9 ⟨k, hk_, rfl, rfl⟩)
    have ft_8 := ft_6
    have hOa_8 := hOa_6
    have hOb_8 := hOb_6
    have hOc_8 := hOc_6
    have f14_8 := f14_6
    have f16_8 := f16_6
    have hB_8 := hB_6
    clear ft_6 hOa_6 hOb_6 hOc_6 f14_6 f16_6 hB_6
    obtain ⟨P1, hP1⟩ : ∃ P1, pathF (Dg.tabO first keys H8.out) da h k = P1 := ⟨_, rfl⟩
    obtain ⟨P2, hP2⟩ : ∃ P2, pathF (Dg.tabO first keys H8.out) db h k = P2 := ⟨_, rfl⟩
    have hpl := path_left (Dg.tabO first keys H8.out) (a := da) (b := db) (h := h) (leaf := k) (by rw [hla.out, HN2.out]) (by rw [hlb.out, HN2.out]) (by rw [HN2.out]; exact hk_)
    have hpr := path_right (Dg.tabO first keys H8.out) (a := da) (b := db) (h := h) (leaf := k) (by rw [hla.out, HN2.out]) (by rw [hlb.out, HN2.out]) (by rw [HN2.out]; exact hk_)
    rw [hP1, HY.out] at hpl
    rw [hP2, HX.out, HN2.out] at hpr
    have q1 := fun (w' : World) (T : Option Addr) (h1 : OfAt w' T (Dg.tabO first keys H8.out)) (h2 : Digs w' Aa N da) => Path_yes h1 Aa N ca da h2 h (by omega) HN2.out.symm k hk_
    have q2 := fun (w' : World) (T : Option Addr) (h1 : OfAt w' T (Dg.tabO first keys H8.out)) (h2 : Digs w' A5 (N + N) (da ++ db)) => Path_yes h1 A5 (N + N) c5 (da ++ db) h2 (h + 1) (by omega) HNN.out k (by omega)
    have q3 := fun (w' : World) (T : Option Addr) (h1 : OfAt w' T (Dg.tabO first keys H8.out)) (h2 : Digs w' A5 (N + N) (da ++ db)) => Path_yes h1 A5 (N + N) c5 (da ++ db) h2 (h + 1) (by omega) HNN.out (k + N) (by omega)
    have q4 := fun (w' : World) (T : Option Addr) (h1 : OfAt w' T (Dg.tabO first keys H8.out)) (h2 : Digs w' (some ⟨gb, ob, none⟩) N db) => Path_yes h1 (some ⟨gb, ob, none⟩) N cb_ db h2 h (by omega) HN2.out.symm k hk_
    rw [hP1] at q1
    rw [hpl] at q2
    rw [hpr] at q3
    rw [hP2] at q4
    rw [show ((k + N : Nat) : Int) = (k : Int) + (N : Int) from by omega] at q3
    have PA1 := Lib.hid q1
    have PA2 := Lib.hid q2
    have PA3 := Lib.hid q3
    have PA4 := Lib.hid q4
    clear q1 q2 q3 q4 hP1 hP2 hpl hpr
    go_wp2_with (first
      | (go_at_call 42; with_reducible refine (PA1.out _ _ (OfAt.of_tab (first := first) (keys := keys) ⟨H8.out, H64.out, by rw [HTB.out]; exact ft_8.sees⟩) hOa_8.digs).mono ?_; rintro e wc9 ⟨Bp, cp, rfl, hX9, hBc9⟩)
      | (with_reducible refine wpList_alloc (o := ⟨some 21, _, _, _, _, _⟩) rfl 88 rfl zPath (by kernel_rfl) 2 rfl (by decide) ?_; intro g21 wa9 hg21 hF9 hBa9)
      | (with_reducible refine wpList_store rfl rfl (.tmp 21) (.tmp 75) 88 rfl g21 0 _ 88 2 zPath [.int .i64 (k : Int), .slice Bp h cp] rfl rfl 2 rfl (by kernel_rfl) hF9 (by omega) (allOne_out (by kernel_rfl)) wc9 hBa9 hg21 ?_; intro ws9 f21_9 hbs9 ho9_ _; have ho9 := Lib.hid ho9_; clear ho9_; (rw [splice_pa _ _ rfl rfl] at f21_9); have hBr9 := Below.then_ hBc9 hbs9; have ft_9 := ft_8.below hBr9; have hOa_9 := hOa_8.below hBr9; have hOb_9 := hOb_8.below hBr9; have hOc_9 := hOc_8.below hBr9; have f14_9 := f14_8.below hBr9; have f16_9 := f16_8.below hBr9; have hOp_9 := hX9.below hbs9; have hB_9 := Below.then_ hB_8 hBr9))
    clear hF9 hBa9 ho9 hBr9 hBc9 hbs9 hB_8 hg21 ft_8 hOa_8 hOb_8 hOc_8 f14_8 f16_8
    go_wp2_with (first
      | (go_at_call 42; with_reducible refine (PA2.out _ _ (OfAt.of_tab (first := first) (keys := keys) ⟨H8.out, H64.out, by rw [HTB.out]; exact ft_9.sees⟩) hOc_9.digs).mono ?_; rintro e wc10 ⟨Bq, cq, rfl, hX10, hBc10⟩)
      | (with_reducible refine wpList_alloc (o := ⟨some 23, _, _, _, _, _⟩) rfl 88 rfl zPath (by kernel_rfl) 2 rfl (by decide) ?_; intro g23 wa10 hg23 hF10 hBa10)
      | (with_reducible refine wpList_store rfl rfl (.tmp 23) (.tmp 81) 88 rfl g23 0 _ 88 2 zPath [.int .i64 (k : Int), .slice Bq (h + 1) cq] rfl rfl 2 rfl (by kernel_rfl) hF10 (by omega) (allOne_out (by kernel_rfl)) wc10 hBa10 hg23 ?_; intro ws10 f23_10 hbs10 ho10_ _; have ho10 := Lib.hid ho10_; clear ho10_; (rw [splice_pa _ _ rfl rfl] at f23_10); have hBr10 := Below.then_ hBc10 hbs10; have ft_10 := ft_9.below hBr10; have hOa_10 := hOa_9.below hBr10; have hOb_10 := hOb_9.below hBr10; have hOc_10 := hOc_9.below hBr10; have f14_10 := f14_9.below hBr10; have f16_10 := f16_9.below hBr10; have f21_10 := f21_9.below hBr10; have hOp_10 := hOp_9.below hBr10; have hOq_10 := hX10.below hbs10; have hB_10 := Below.then_ hB_9 hBr10))
    clear hF10 hBa10 ho10 hBr10 hBc10 hbs10 hB_9 hg23 ft_9 hOa_9 hOb_9 hOc_9 f14_9 f16_9 f21_9 hOp_9
    go_wp2_with (first
      | (go_at_call 42; with_reducible refine (PA3.out _ _ (OfAt.of_tab (first := first) (keys := keys) ⟨H8.out, H64.out, by rw [HTB.out]; exact ft_10.sees⟩) hOc_10.digs).mono ?_; rintro e wc11 ⟨Br, cr, rfl, hX11, hBc11⟩)
      | (with_reducible refine wpList_alloc (o := ⟨some 25, _, _, _, _, _⟩) rfl 88 rfl zPath (by kernel_rfl) 2 rfl (by decide) ?_; intro g25 wa11 hg25 hF11 hBa11)
      | (with_reducible refine wpList_store rfl rfl (.tmp 25) (.tmp 90) 88 rfl g25 0 _ 88 2 zPath [.int .i64 ((k : Int) + (N : Int)), .slice Br (h + 1) cr] rfl rfl 2 rfl (by kernel_rfl) hF11 (by omega) (allOne_out (by kernel_rfl)) wc11 hBa11 hg25 ?_; intro ws11 f25_11 hbs11 ho11_ _; have ho11 := Lib.hid ho11_; clear ho11_; (rw [splice_pa _ _ rfl rfl] at f25_11); have hBr11 := Below.then_ hBc11 hbs11; have ft_11 := ft_10.below hBr11; have hOa_11 := hOa_10.below hBr11; have hOb_11 := hOb_10.below hBr11; have hOc_11 := hOc_10.below hBr11; have f14_11 := f14_10.below hBr11; have f16_11 := f16_10.below hBr11; have f21_11 := f21_10.below hBr11; have hOp_11 := hOp_10.below hBr11; have f23_11 := f23_10.below hBr11; have hOq_11 := hOq_10.below hBr11; have hOr_11 := hX11.below hbs11; have hB_11 := Below.then_ hB_10 hBr11))
    clear hF11 hBa11 ho11 hBr11 hBc11 hbs11 hB_10 hg25 ft_10 hOa_10 hOb_10 hOc_10 f14_10 f16_10 f21_10 hOp_10 f23_10 hOq_10
    go_wp2_with (first
      | (go_at_call 42; with_reducible refine (PA4.out _ _ (OfAt.of_tab (first := first) (keys := keys) ⟨H8.out, H64.out, by rw [HTB.out]; exact ft_11.sees⟩) hOb_11.digs).mono ?_; rintro e wc12 ⟨Bs, cs, rfl, hX12, hBc12⟩)
      | (with_reducible refine wpList_alloc (o := ⟨some 27, _, _, _, _, _⟩) rfl 88 rfl zPath (by kernel_rfl) 2 rfl (by decide) ?_; intro g27 wa12 hg27 hF12 hBa12)
      | (with_reducible refine wpList_store rfl rfl (.tmp 27) (.tmp 96) 88 rfl g27 0 _ 88 2 zPath [.int .i64 (k : Int), .slice Bs h cs] rfl rfl 2 rfl (by kernel_rfl) hF12 (by omega) (allOne_out (by kernel_rfl)) wc12 hBa12 hg27 ?_; intro ws12 f27_12 hbs12 ho12_ _; have ho12 := Lib.hid ho12_; clear ho12_; (rw [splice_pa _ _ rfl rfl] at f27_12); have hBr12 := Below.then_ hBc12 hbs12; have ft_12 := ft_11.below hBr12; have hOa_12 := hOa_11.below hBr12; have hOb_12 := hOb_11.below hBr12; have hOc_12 := hOc_11.below hBr12; have f14_12 := f14_11.below hBr12; have f16_12 := f16_11.below hBr12; have f21_12 := f21_11.below hBr12; have hOp_12 := hOp_11.below hBr12; have f23_12 := f23_11.below hBr12; have hOq_12 := hOq_11.below hBr12; have f25_12 := f25_11.below hBr12; have hOr_12 := hOr_11.below hBr12; have hOs_12 := hX12.below hbs12; have hB_12 := Below.then_ hB_11 hBr12))
    clear hF12 hBa12 ho12 hBr12 hBc12 hbs12 hB_11 hg27 ft_11 hOa_11 hOb_11 hOc_11 f14_11 f16_11 f21_11 hOp_11 f23_11 hOq_11 f25_11 hOr_11
    go_wp2_with fail
    refine region_M (mgF g14 g16 g21 g23 g25 g27 h cp cq cr cs Bp Bq Br Bs X Y) (grJ ws12 h P1 P2 X Y) (by kernel_rfl) (by kernel_rfl) ⟨⟨rfl, rfl, rfl, Nat.le_refl _, fun _ _ => rfl⟩, agJ.start _ _ _, agJ.start _ _ _, ordJ.start _ _⟩ ?_ ?_
    · refine ⟨?_, ?_, ?_, ?_, ?_, ?_, ?_, ?_, ?_, ?_, ?_, ?_, ?_, ?_, ?_, ?_, ?_, ?_, ?_, ?_, ?_, ?_, ?_, ?_, ?_, ?_, ?_, ?_, ?_, ?_, ?_, ?_, ?_, ?_, trivial⟩
      all_goals intro listed a1 w' hk h1 hd
      · have f22_ : a1.eval (.tmp 22) = .int .i64 0 := hk.ev_old 22 (by kernel_rfl)
        have g22_ : a1.tmps[22]?.getD undef = .int .i64 0 := by simpa [Act.eval] using f22_
        exact stepM_value (wanted_noneM rfl) (v := .int .i64 0) (by go_simp) rfl (hk.inv.other 0 98 _ (by decide) (by decide) (Below.refl _ _) (by intro p hp e; simp only [grL, List.mem_cons, List.mem_nil_iff, or_false] at hp; rcases hp with rfl | rfl | rfl | rfl | rfl | rfl | rfl <;> first | exact e | (simp at e; done)))
      · have f24_ : a1.eval (.tmp 24) = .int .i64 0 := hk.ev_old 24 (by kernel_rfl)
        have g24_ : a1.tmps[24]?.getD undef = .int .i64 0 := by simpa [Act.eval] using f24_
        exact stepM_value (wanted_noneM rfl) (v := .int .i64 0) (by go_simp) rfl (hk.inv.other 1 99 _ (by decide) (by decide) (Below.refl _ _) (by intro p hp e; simp only [grL, List.mem_cons, List.mem_nil_iff, or_false] at hp; rcases hp with rfl | rfl | rfl | rfl | rfl | rfl | rfl <;> first | exact e | (simp at e; done)))
      · obtain ⟨y0, e0, q0, rfl, l0⟩ := hk.ev_new hd 0 98 (by kernel_rfl) rfl
        obtain ⟨y1, e1, q1, rfl, l1⟩ := hk.ev_new hd 1 99 (by kernel_rfl) rfl
        have w00 : IntKind.i64.wrap 0 = 0 := by decide
        exact stepM_value (wanted_noneM rfl) (v := .int .i64 0) (by go_simp) rfl (hk.inv.other 2 100 _ (by decide) (by decide) (Below.refl _ _) (by intro p hp e; simp only [grL, List.mem_cons, List.mem_nil_iff, or_false] at hp; rcases hp with rfl | rfl | rfl | rfl | rfl | rfl | rfl <;> first | exact e | (simp at e; done)))
      · have f26_ : a1.eval (.tmp 26) = .int .i64 0 := hk.ev_old 26 (by kernel_rfl)
        have g26_ : a1.tmps[26]?.getD undef = .int .i64 0 := by simpa [Act.eval] using f26_
        exact stepM_value (wanted_noneM rfl) (v := .int .i64 0) (by go_simp) rfl (hk.inv.other 3 101 _ (by decide) (by decide) (Below.refl _ _) (by intro p hp e; simp only [grL, List.mem_cons, List.mem_nil_iff, or_false] at hp; rcases hp with rfl | rfl | rfl | rfl | rfl | rfl | rfl <;> first | exact e | (simp at e; done)))
      · obtain ⟨y2, e2, q2, rfl, l2⟩ := hk.ev_new hd 2 100 (by kernel_rfl) rfl
        obtain ⟨y3, e3, q3, rfl, l3⟩ := hk.ev_new hd 3 101 (by kernel_rfl) rfl
        have w00 : IntKind.i64.wrap 0 = 0 := by decide
        exact stepM_value (wanted_noneM rfl) (v := .int .i64 0) (by go_simp) rfl (hk.inv.other 4 102 _ (by decide) (by decide) (Below.refl _ _) (by intro p hp e; simp only [grL, List.mem_cons, List.mem_nil_iff, or_false] at hp; rcases hp with rfl | rfl | rfl | rfl | rfl | rfl | rfl <;> first | exact e | (simp at e; done)))
      · have f28_ : a1.eval (.tmp 28) = .int .i64 0 := hk.ev_old 28 (by kernel_rfl)
        have g28_ : a1.tmps[28]?.getD undef = .int .i64 0 := by simpa [Act.eval] using f28_
        exact stepM_value (wanted_noneM rfl) (v := .int .i64 0) (by go_simp) rfl (hk.inv.other 5 103 _ (by decide) (by decide) (Below.refl _ _) (by intro p hp e; simp only [grL, List.mem_cons, List.mem_nil_iff, or_false] at hp; rcases hp with rfl | rfl | rfl | rfl | rfl | rfl | rfl <;> first | exact e | (simp at e; done)))
      · obtain ⟨y4, e4, q4, rfl, l4⟩ := hk.ev_new hd 4 102 (by kernel_rfl) rfl
        obtain ⟨y5, e5, q5, rfl, l5⟩ := hk.ev_new hd 5 103 (by kernel_rfl) rfl
        have w00 : IntKind.i64.wrap 0 = 0 := by decide
        exact stepM_value (wanted_noneM rfl) (v := .int .i64 0) (by go_simp) rfl (hk.inv.other 6 104 _ (by decide) (by decide) (Below.refl _ _) (by intro p hp e; simp only [grL, List.mem_cons, List.mem_nil_iff, or_false] at hp; rcases hp with rfl | rfl | rfl | rfl | rfl | rfl | rfl <;> first | exact e | (simp at e; done)))
      · obtain ⟨y6, e6, q6, rfl, l6⟩ := hk.ev_new hd 6 104 (by kernel_rfl) rfl
        exact stepM_value (wanted_noneM rfl) (v := .bool true) (by go_simp) rfl (hk.inv.other 7 105 _ (by decide) (by decide) (Below.refl _ _) (by intro p hp e; simp only [grL, List.mem_cons, List.mem_nil_iff, or_false] at hp; rcases hp with rfl | rfl | rfl | rfl | rfl | rfl | rfl <;> first | exact e | (simp at e; done)))
      · obtain ⟨y7, e7, q7, rfl, l7⟩ := hk.ev_new hd 7 105 (by kernel_rfl) rfl
        exact stepM_value (wanted_noneM rfl) (v := .bool true) (by go_simp) rfl (hk.inv.other 8 106 _ (by decide) (by decide) (Below.refl _ _) (by intro p hp e; simp only [grL, List.mem_cons, List.mem_nil_iff, or_false] at hp; rcases hp with rfl | rfl | rfl | rfl | rfl | rfl | rfl <;> first | exact e | (simp at e; done)))
      · obtain ⟨y8, e8, q8, rfl, l8⟩ := hk.ev_new hd 8 106 (by kernel_rfl) rfl
        have f23_ : a1.eval (.tmp 23) = .pointer (some ⟨g23, 0, none⟩) := hk.ev_old 23 (by kernel_rfl)
        have g23_ : a1.tmps[23]?.getD undef = .pointer (some ⟨g23, 0, none⟩) := by simpa [Act.eval] using f23_
        exact stepM_value (wanted_at (t := 106) rfl rfl q8) (v := .pointer (some ⟨g23, 1, none⟩)) (by go_simp) rfl (hk.inv.other 9 107 _ (by decide) (by decide) (Below.refl _ _) (by intro p hp e; simp only [grL, List.mem_cons, List.mem_nil_iff, or_false] at hp; rcases hp with rfl | rfl | rfl | rfl | rfl | rfl | rfl <;> first | exact e | (simp at e; done)))
      · obtain ⟨y8, e8, q8, rfl, l8⟩ := hk.ev_new hd 8 106 (by kernel_rfl) rfl
        obtain ⟨y9, e9, q9, rfl, l9⟩ := hk.ev_new hd 9 107 (by kernel_rfl) rfl
        have kc : w'.cell? ⟨g23, 1, none⟩ = some (.slice Bq (h + 1) cq) := (f23_12.below hk.inv.1).cell_ rfl
        exact stepM_value (wanted_at (t := 106) rfl rfl q8) (v := .slice Bq (h + 1) cq) (by go_simp) rfl (hk.inv.other 10 108 _ (by decide) (by decide) (Below.refl _ _) (by intro p hp e; simp only [grL, List.mem_cons, List.mem_nil_iff, or_false] at hp; rcases hp with rfl | rfl | rfl | rfl | rfl | rfl | rfl <;> first | exact e | (simp at e; done)))
      · obtain ⟨y8, e8, q8, rfl, l8⟩ := hk.ev_new hd 8 106 (by kernel_rfl) rfl
        have f21_ : a1.eval (.tmp 21) = .pointer (some ⟨g21, 0, none⟩) := hk.ev_old 21 (by kernel_rfl)
        have g21_ : a1.tmps[21]?.getD undef = .pointer (some ⟨g21, 0, none⟩) := by simpa [Act.eval] using f21_
        exact stepM_value (wanted_at (t := 106) rfl rfl q8) (v := .pointer (some ⟨g21, 1, none⟩)) (by go_simp) rfl (hk.inv.other 11 109 _ (by decide) (by decide) (Below.refl _ _) (by intro p hp e; simp only [grL, List.mem_cons, List.mem_nil_iff, or_false] at hp; rcases hp with rfl | rfl | rfl | rfl | rfl | rfl | rfl <;> first | exact e | (simp at e; done)))
      · obtain ⟨y8, e8, q8, rfl, l8⟩ := hk.ev_new hd 8 106 (by kernel_rfl) rfl
        obtain ⟨y11, e11, q11, rfl, l11⟩ := hk.ev_new hd 11 109 (by kernel_rfl) rfl
        have kc : w'.cell? ⟨g21, 1, none⟩ = some (.slice Bp h cp) := (f21_12.below hk.inv.1).cell_ rfl
        exact stepM_value (wanted_at (t := 106) rfl rfl q8) (v := .slice Bp h cp) (by go_simp) rfl (hk.inv.other 12 110 _ (by decide) (by decide) (Below.refl _ _) (by intro p hp e; simp only [grL, List.mem_cons, List.mem_nil_iff, or_false] at hp; rcases hp with rfl | rfl | rfl | rfl | rfl | rfl | rfl <;> first | exact e | (simp at e; done)))
      · obtain ⟨y8, e8, q8, rfl, l8⟩ := hk.ev_new hd 8 106 (by kernel_rfl) rfl
        obtain ⟨y12, e12, q12, rfl, l12⟩ := hk.ev_new hd 12 110 (by kernel_rfl) rfl
        refine stepM_enter (wanted_at (t := 106) rfl rfl q8) (f := 47) (args := #[.slice Bp h cp]) (by go_simp) ?_
        obtain ⟨b0, b1, b2, b3⟩ := hk.inv
        refine (CopyDigests_any Bp h cp P1 (hOp_12.below b0).digs (by omega) hOp_12.nilc).mono ?_
        rintro e w5 ⟨A5, c5, rfl, hO5, hB5⟩
        exact ⟨_, rfl, trivial, ⟨b0.trans (hB5.mono b0.size), b1.copy (hO5.lower b0.size) (by rw [hk.size]; exact (by decide : (111 : Nat) < 131)) (by decide) (by decide) (by decide) (by decide) hB5, b2.other 13 111 _ (by decide) (by decide) (by decide) (by decide) (by decide) (by decide) hB5, b3.set 13 (by intro p hp e; simp only [grL, List.mem_cons, List.mem_nil_iff, or_false] at hp; rcases hp with rfl | rfl | rfl | rfl | rfl | rfl | rfl <;> first | exact e | (simp at e; done))⟩, fun _ _ h => h⟩
      · obtain ⟨y8, e8, q8, rfl, l8⟩ := hk.ev_new hd 8 106 (by kernel_rfl) rfl
        have f16_ : a1.eval (.tmp 16) = .pointer (some ⟨g16, 0, none⟩) := hk.ev_old 16 (by kernel_rfl)
        have g16_ : a1.tmps[16]?.getD undef = .pointer (some ⟨g16, 0, none⟩) := by simpa [Act.eval] using f16_
        exact stepM_value (wanted_at (t := 106) rfl rfl q8) (run_load_agg (.tmp 16) 83 rfl (hk.ev_old 16 (by kernel_rfl)) (cb Y) 32 (by rw [List.length_map]; exact LY.out) (by kernel_rfl) (f16_12.below hk.inv.1).sees) rfl (hk.inv.other 14 112 _ (by decide) (by decide) (Below.refl _ _) (by intro p hp e; simp only [grL, List.mem_cons, List.mem_nil_iff, or_false] at hp; rcases hp with rfl | rfl | rfl | rfl | rfl | rfl | rfl <;> first | exact e | (simp at e; done)))
      · obtain ⟨y8, e8, q8, rfl, l8⟩ := hk.ev_new hd 8 106 (by kernel_rfl) rfl
        obtain ⟨y14, e14, q14, rfl, l14⟩ := hk.ev_new hd 14 112 (by kernel_rfl) rfl
        have hba := below_alloc w' (.cells (cb [Y].flatten).toArray 83)
        have hon := (own_new w' [Y] (fun e he => by simp at he; rw [he]; exact LY.out) 1 rfl (by omega)).lower hk.inv.1.size
        obtain ⟨b0, b1, b2, b3⟩ := hk.inv
        exact stepM_run (wanted_at (t := 106) rfl rfl q8) (exec_bs1 (.tmp 112) rfl Y e14 LY.out) trivial ⟨b0.trans (hba.mono b0.size), b1.one hon (by rw [hk.size]; exact (by decide : (113 : Nat) < 131)) (by decide) (by decide) (by decide) (by decide) hba, b2.other 15 113 _ (by decide) (by decide) (by decide) (by decide) (by decide) (by decide) hba, b3.set 15 (by intro p hp e; simp only [grL, List.mem_cons, List.mem_nil_iff, or_false] at hp; rcases hp with rfl | rfl | rfl | rfl | rfl | rfl | rfl <;> first | exact e | (simp at e; done))⟩ (fun _ _ h => h)
      · obtain ⟨y8, e8, q8, rfl, l8⟩ := hk.ev_new hd 8 106 (by kernel_rfl) rfl
        obtain ⟨y13, e13, q13, -, l13⟩ := hk.ev_new hd 13 111 (by kernel_rfl) rfl
        obtain ⟨y15, e15, q15, -, l15⟩ := hk.ev_new hd 15 113 (by kernel_rfl) rfl
        obtain ⟨s_, n_⟩ := sizeOf_getM h1
        obtain ⟨b0, b1, b2, b3⟩ := hk.inv
        obtain ⟨A5, c5, z1, hOc⟩ := b1.1 l13 n_
        obtain ⟨g5, z2, hOg⟩ := b1.2.1 l15 n_
        rw [q13] at z1
        rw [q15] at z2
        obtain rfl : y13 = .slice A5 h c5 := by simpa using z1
        obtain rfl : y15 = .slice (some ⟨g5, 0, none⟩) 1 1 := by simpa using z2
        obtain ⟨A6, c6, w6, hrun, hO6, hb6⟩ := run_appM (.tmp 111) (.tmp 113) e13 e15 hOc hOg b0 (by omega)
        obtain ⟨m1, m2, m3⟩ := gr_no b3 n_
        exact stepM_run (wanted_at (t := 106) rfl rfl q8) (hrun _ rfl rfl) trivial ⟨hb6, agJ.app h1 hO6 (by rw [hk.size]; exact (by decide : (114 : Nat) < 131)), agJ.no 16 (by decide) (by decide) (by decide) m1 m2 m3, b3.set 16 (by intro p hp e; simp only [grL, List.mem_cons, List.mem_nil_iff, or_false] at hp; rcases hp with rfl | rfl | rfl | rfl | rfl | rfl | rfl <;> first | exact e | (simp at e; done))⟩ (fun _ _ h => h)
      · obtain ⟨y8, e8, q8, rfl, l8⟩ := hk.ev_new hd 8 106 (by kernel_rfl) rfl
        obtain ⟨y10, e10, q10, rfl, l10⟩ := hk.ev_new hd 10 108 (by kernel_rfl) rfl
        obtain ⟨y16, e16, q16, -, l16⟩ := hk.ev_new hd 16 114 (by kernel_rfl) rfl
        obtain ⟨s_, n_⟩ := sizeOf_getM h1
        obtain ⟨A5, c5, z1, hO5⟩ := hk.inv.2.1.2.2 l16 n_
        rw [q16] at z1
        obtain rfl : y16 = .slice A5 (h + 1) c5 := by simpa using z1
        refine stepM_enter (wanted_at (t := 106) rfl rfl q8) (f := 54) (args := #[.slice Bq (h + 1) cq, .slice A5 (h + 1) c5]) (by go_simp) ?_
        have ho := SameDigests_same Bq A5 (h + 1) cq c5 (P1 ++ [Y]) (hOq_12.below hk.inv.1).digs hO5.digs (by omega)
        refine ho.mono ?_
        rintro e w5 ⟨rfl, hB5⟩
        exact ⟨_, rfl, rfl, (hk.inv.other 17 115 _ (by decide) (by decide) hB5 (by intro p hp e; simp only [grL, List.mem_cons, List.mem_nil_iff, or_false] at hp; rcases hp with rfl | rfl | rfl | rfl | rfl | rfl | rfl <;> first | exact l16 | (simp at e; done))), fun _ _ h => h⟩
      · obtain ⟨y8, e8, q8, rfl, l8⟩ := hk.ev_new hd 8 106 (by kernel_rfl) rfl
        obtain ⟨y17, e17, q17, rfl, l17⟩ := hk.ev_new hd 17 115 (by kernel_rfl) rfl
        exact stepM_value (wanted_noneM rfl) (v := .bool true) (by go_simp) rfl (hk.inv.other 18 116 _ (by decide) (by decide) (Below.refl _ _) (by intro p hp e; simp only [grL, List.mem_cons, List.mem_nil_iff, or_false] at hp; rcases hp with rfl | rfl | rfl | rfl | rfl | rfl | rfl <;> first | exact l17 | (simp at e; done)))
      · obtain ⟨y18, e18, q18, rfl, l18⟩ := hk.ev_new hd 18 116 (by kernel_rfl) rfl
        exact stepM_value (wanted_noneM rfl) (v := .bool true) (by go_simp) rfl (hk.inv.other 19 117 _ (by decide) (by decide) (Below.refl _ _) (by intro p hp e; simp only [grL, List.mem_cons, List.mem_nil_iff, or_false] at hp; rcases hp with rfl | rfl | rfl | rfl | rfl | rfl | rfl <;> first | exact l18 | (simp at e; done)))
      · obtain ⟨y19, e19, q19, rfl, l19⟩ := hk.ev_new hd 19 117 (by kernel_rfl) rfl
        have f25_ : a1.eval (.tmp 25) = .pointer (some ⟨g25, 0, none⟩) := hk.ev_old 25 (by kernel_rfl)
        have g25_ : a1.tmps[25]?.getD undef = .pointer (some ⟨g25, 0, none⟩) := by simpa [Act.eval] using f25_
        exact stepM_value (wanted_at (t := 117) rfl rfl q19) (v := .pointer (some ⟨g25, 1, none⟩)) (by go_simp) rfl (hk.inv.other 20 118 _ (by decide) (by decide) (Below.refl _ _) (by intro p hp e; simp only [grL, List.mem_cons, List.mem_nil_iff, or_false] at hp; rcases hp with rfl | rfl | rfl | rfl | rfl | rfl | rfl <;> first | exact e | (simp at e; done)))
      · obtain ⟨y19, e19, q19, rfl, l19⟩ := hk.ev_new hd 19 117 (by kernel_rfl) rfl
        obtain ⟨y20, e20, q20, rfl, l20⟩ := hk.ev_new hd 20 118 (by kernel_rfl) rfl
        have kc : w'.cell? ⟨g25, 1, none⟩ = some (.slice Br (h + 1) cr) := (f25_12.below hk.inv.1).cell_ rfl
        exact stepM_value (wanted_at (t := 117) rfl rfl q19) (v := .slice Br (h + 1) cr) (by go_simp) rfl (hk.inv.other 21 119 _ (by decide) (by decide) (Below.refl _ _) (by intro p hp e; simp only [grL, List.mem_cons, List.mem_nil_iff, or_false] at hp; rcases hp with rfl | rfl | rfl | rfl | rfl | rfl | rfl <;> first | exact e | (simp at e; done)))
      · obtain ⟨y19, e19, q19, rfl, l19⟩ := hk.ev_new hd 19 117 (by kernel_rfl) rfl
        have f27_ : a1.eval (.tmp 27) = .pointer (some ⟨g27, 0, none⟩) := hk.ev_old 27 (by kernel_rfl)
        have g27_ : a1.tmps[27]?.getD undef = .pointer (some ⟨g27, 0, none⟩) := by simpa [Act.eval] using f27_
        exact stepM_value (wanted_at (t := 117) rfl rfl q19) (v := .pointer (some ⟨g27, 1, none⟩)) (by go_simp) rfl (hk.inv.other 22 120 _ (by decide) (by decide) (Below.refl _ _) (by intro p hp e; simp only [grL, List.mem_cons, List.mem_nil_iff, or_false] at hp; rcases hp with rfl | rfl | rfl | rfl | rfl | rfl | rfl <;> first | exact e | (simp at e; done)))
      · obtain ⟨y19, e19, q19, rfl, l19⟩ := hk.ev_new hd 19 117 (by kernel_rfl) rfl
        obtain ⟨y22, e22, q22, rfl, l22⟩ := hk.ev_new hd 22 120 (by kernel_rfl) rfl
        have kc : w'.cell? ⟨g27, 1, none⟩ = some (.slice Bs h cs) := (f27_12.below hk.inv.1).cell_ rfl
        exact stepM_value (wanted_at (t := 117) rfl rfl q19) (v := .slice Bs h cs) (by go_simp) rfl (hk.inv.other 23 121 _ (by decide) (by decide) (Below.refl _ _) (by intro p hp e; simp only [grL, List.mem_cons, List.mem_nil_iff, or_false] at hp; rcases hp with rfl | rfl | rfl | rfl | rfl | rfl | rfl <;> first | exact e | (simp at e; done)))
      · obtain ⟨y19, e19, q19, rfl, l19⟩ := hk.ev_new hd 19 117 (by kernel_rfl) rfl
        obtain ⟨y23, e23, q23, rfl, l23⟩ := hk.ev_new hd 23 121 (by kernel_rfl) rfl
        refine stepM_enter (wanted_at (t := 117) rfl rfl q19) (f := 47) (args := #[.slice Bs h cs]) (by go_simp) ?_
        obtain ⟨b0, b1, b2, b3⟩ := hk.inv
        refine (CopyDigests_any Bs h cs P2 (hOs_12.below b0).digs (by omega) hOs_12.nilc).mono ?_
        rintro e w5 ⟨A5, c5, rfl, hO5, hB5⟩
        exact ⟨_, rfl, trivial, ⟨b0.trans (hB5.mono b0.size), b1.other 24 122 _ (by decide) (by decide) (by decide) (by decide) (by decide) (by decide) hB5, b2.copy (hO5.lower b0.size) (by rw [hk.size]; exact (by decide : (122 : Nat) < 131)) (by decide) (by decide) (by decide) (by decide) hB5, b3.set 24 (by intro p hp e; simp only [grL, List.mem_cons, List.mem_nil_iff, or_false] at hp; rcases hp with rfl | rfl | rfl | rfl | rfl | rfl | rfl <;> first | exact l19 | (simp at e; done))⟩, fun _ _ h => h⟩
      · obtain ⟨y19, e19, q19, rfl, l19⟩ := hk.ev_new hd 19 117 (by kernel_rfl) rfl
        have f14_ : a1.eval (.tmp 14) = .pointer (some ⟨g14, 0, none⟩) := hk.ev_old 14 (by kernel_rfl)
        have g14_ : a1.tmps[14]?.getD undef = .pointer (some ⟨g14, 0, none⟩) := by simpa [Act.eval] using f14_
        exact stepM_value (wanted_at (t := 117) rfl rfl q19) (run_load_agg (.tmp 14) 83 rfl (hk.ev_old 14 (by kernel_rfl)) (cb X) 32 (by rw [List.length_map]; exact LX.out) (by kernel_rfl) (f14_12.below hk.inv.1).sees) rfl (hk.inv.other 25 123 _ (by decide) (by decide) (Below.refl _ _) (by intro p hp e; simp only [grL, List.mem_cons, List.mem_nil_iff, or_false] at hp; rcases hp with rfl | rfl | rfl | rfl | rfl | rfl | rfl <;> first | exact l19 | (simp at e; done)))
      · obtain ⟨y19, e19, q19, rfl, l19⟩ := hk.ev_new hd 19 117 (by kernel_rfl) rfl
        obtain ⟨y25, e25, q25, rfl, l25⟩ := hk.ev_new hd 25 123 (by kernel_rfl) rfl
        have hba := below_alloc w' (.cells (cb [X].flatten).toArray 83)
        have hon := (own_new w' [X] (fun e he => by simp at he; rw [he]; exact LX.out) 1 rfl (by omega)).lower hk.inv.1.size
        obtain ⟨b0, b1, b2, b3⟩ := hk.inv
        exact stepM_run (wanted_at (t := 117) rfl rfl q19) (exec_bs1 (.tmp 123) rfl X e25 LX.out) trivial ⟨b0.trans (hba.mono b0.size), b1.other 26 124 _ (by decide) (by decide) (by decide) (by decide) (by decide) (by decide) hba, b2.one hon (by rw [hk.size]; exact (by decide : (124 : Nat) < 131)) (by decide) (by decide) (by decide) (by decide) hba, b3.set 26 (by intro p hp e; simp only [grL, List.mem_cons, List.mem_nil_iff, or_false] at hp; rcases hp with rfl | rfl | rfl | rfl | rfl | rfl | rfl <;> first | exact l25 | (simp at e; done))⟩ (fun _ _ h => h)
      · obtain ⟨y19, e19, q19, rfl, l19⟩ := hk.ev_new hd 19 117 (by kernel_rfl) rfl
        obtain ⟨y24, e24, q24, -, l24⟩ := hk.ev_new hd 24 122 (by kernel_rfl) rfl
        obtain ⟨y26, e26, q26, -, l26⟩ := hk.ev_new hd 26 124 (by kernel_rfl) rfl
        obtain ⟨s_, n_⟩ := sizeOf_getM h1
        obtain ⟨b0, b1, b2, b3⟩ := hk.inv
        obtain ⟨A5, c5, z1, hOc⟩ := b2.1 l24 n_
        obtain ⟨g5, z2, hOg⟩ := b2.2.1 l26 n_
        rw [q24] at z1
        rw [q26] at z2
        obtain rfl : y24 = .slice A5 h c5 := by simpa using z1
        obtain rfl : y26 = .slice (some ⟨g5, 0, none⟩) 1 1 := by simpa using z2
        obtain ⟨A6, c6, w6, hrun, hO6, hb6⟩ := run_appM (.tmp 122) (.tmp 124) e24 e26 hOc hOg b0 (by omega)
        obtain ⟨m1, m2⟩ := gr_yes b3 l24
        exact stepM_run (wanted_at (t := 117) rfl rfl q19) (hrun _ rfl rfl) trivial ⟨hb6, agJ.over 27 (by decide) (by decide) m1 m2, agJ.app h1 hO6 (by rw [hk.size]; exact (by decide : (125 : Nat) < 131)), b3.set 27 (by intro p hp e; simp only [grL, List.mem_cons, List.mem_nil_iff, or_false] at hp; rcases hp with rfl | rfl | rfl | rfl | rfl | rfl | rfl <;> first | exact l24 | (simp at e; done))⟩ (fun _ _ h => h)
      · obtain ⟨y19, e19, q19, rfl, l19⟩ := hk.ev_new hd 19 117 (by kernel_rfl) rfl
        obtain ⟨y21, e21, q21, rfl, l21⟩ := hk.ev_new hd 21 119 (by kernel_rfl) rfl
        obtain ⟨y27, e27, q27, -, l27⟩ := hk.ev_new hd 27 125 (by kernel_rfl) rfl
        obtain ⟨s_, n_⟩ := sizeOf_getM h1
        obtain ⟨A5, c5, z1, hO5⟩ := hk.inv.2.2.1.2.2 l27 n_
        rw [q27] at z1
        obtain rfl : y27 = .slice A5 (h + 1) c5 := by simpa using z1
        refine stepM_enter (wanted_at (t := 117) rfl rfl q19) (f := 54) (args := #[.slice Br (h + 1) cr, .slice A5 (h + 1) c5]) (by go_simp) ?_
        have ho := SameDigests_same Br A5 (h + 1) cr c5 (P2 ++ [X]) (hOr_12.below hk.inv.1).digs hO5.digs (by omega)
        refine ho.mono ?_
        rintro e w5 ⟨rfl, hB5⟩
        exact ⟨_, rfl, rfl, (hk.inv.other 28 126 _ (by decide) (by decide) hB5 (by intro p hp e; simp only [grL, List.mem_cons, List.mem_nil_iff, or_false] at hp; rcases hp with rfl | rfl | rfl | rfl | rfl | rfl | rfl <;> first | exact e | (simp at e; done))), fun _ _ h => h⟩
      · obtain ⟨y19, e19, q19, rfl, l19⟩ := hk.ev_new hd 19 117 (by kernel_rfl) rfl
        obtain ⟨y28, e28, q28, rfl, l28⟩ := hk.ev_new hd 28 126 (by kernel_rfl) rfl
        exact stepM_value (wanted_noneM rfl) (v := .bool true) (by go_simp) rfl (hk.inv.other 29 127 _ (by decide) (by decide) (Below.refl _ _) (by intro p hp e; simp only [grL, List.mem_cons, List.mem_nil_iff, or_false] at hp; rcases hp with rfl | rfl | rfl | rfl | rfl | rfl | rfl <;> first | exact e | (simp at e; done)))
      · obtain ⟨y29, e29, q29, rfl, l29⟩ := hk.ev_new hd 29 127 (by kernel_rfl) rfl
        exact stepM_value (wanted_noneM rfl) (v := .bool true) (by go_simp) rfl (hk.inv.other 30 128 _ (by decide) (by decide) (Below.refl _ _) (by intro p hp e; simp only [grL, List.mem_cons, List.mem_nil_iff, or_false] at hp; rcases hp with rfl | rfl | rfl | rfl | rfl | rfl | rfl <;> first | exact e | (simp at e; done)))
      · obtain ⟨y30, e30, q30, rfl, l30⟩ := hk.ev_new hd 30 128 (by kernel_rfl) rfl
        refine stepM_enter (wanted_at (t := 128) rfl rfl q30) (f := 46) (args := #[]) (by go_simp) ?_
        have ho := awake10_any (w := w')
        refine ho.mono ?_
        rintro e w5 ⟨rfl, hB5⟩
        exact ⟨_, rfl, rfl, (hk.inv.other 31 129 _ (by decide) (by decide) hB5 (by intro p hp e; simp only [grL, List.mem_cons, List.mem_nil_iff, or_false] at hp; rcases hp with rfl | rfl | rfl | rfl | rfl | rfl | rfl <;> first | exact e | (simp at e; done))), fun _ _ h => h⟩
      · obtain ⟨y30, e30, q30, rfl, l30⟩ := hk.ev_new hd 30 128 (by kernel_rfl) rfl
        obtain ⟨y31, e31, q31, rfl, l31⟩ := hk.ev_new hd 31 129 (by kernel_rfl) rfl
        exact stepM_value (wanted_noneM rfl) (v := .bool true) (by go_simp) rfl (hk.inv.other 32 130 _ (by decide) (by decide) (Below.refl _ _) (by intro p hp e; simp only [grL, List.mem_cons, List.mem_nil_iff, or_false] at hp; rcases hp with rfl | rfl | rfl | rfl | rfl | rfl | rfl <;> first | exact e | (simp at e; done)))
      · obtain ⟨y32, e32, q32, rfl, l32⟩ := hk.ev_new hd 32 130 (by kernel_rfl) rfl
        exact stepM_value (wanted_noneM rfl) (v := .bool true) (by go_simp) rfl (hk.inv.other 33 10 _ (by decide) (by decide) (Below.refl _ _) (by intro p hp e; simp only [grL, List.mem_cons, List.mem_nil_iff, or_false] at hp; rcases hp with rfl | rfl | rfl | rfl | rfl | rfl | rfl <;> first | exact e | (simp at e; done)))
    · intro listed a1 w7 hJ hall hp
      obtain ⟨x0, p0, x1, p1, x2, p2, x3, p3, x4, p4, x5, p5, x6, p6, x7, p7, x8, p8, x9, p9, x10, p10, x11, p11, x12, p12, x13, p13, x14, p14, x15, p15, x16, p16, x17, p17, x18, p18, x19, p19, x20, p20, x21, p21, x22, p22, x23, p23, x24, p24, x25, p25, x26, p26, x27, p27, x28, p28, x29, p29, x30, p30, x31, p31, x32, p32, x33, p33, rfl⟩ := hp
      simp only [mgF] at p33
      subst p33
      have hb7 := hJ.1
      simp only [Act.put, List.setIfInBounds_toArray, List.set_cons_succ, List.set_cons_zero]
      clear hJ hall
      go_wp2_with fail
      go_ret
      exact ⟨rfl, Below.then_ hB_12 hb7⟩
theorem grows_law (W : World) (first keys : List UInt32) (h8 : first.length = 8) (h64 : keys.length = 64) (A : Option Addr) (n c : Nat) (l : List (List UInt8)) (hA : Digs W A n l) (hn : n ≤ c) (hc : c ≤ 9223372036854775807) (hnil : A = none → c = 0) (A2 : Option Addr) (n2 c2 : Nat) (l2 : List (List UInt8)) (hA2 : Digs W A2 n2 l2) (hn2 : n2 ≤ c2) (hc2 : c2 ≤ 9223372036854775807) (hnil2 : A2 = none → c2 = 0) (x : Int) (wx : (Lit.int .u8 x).wf = true) (leaf : Int) (wl : (Lit.int .i64 leaf).wf = true) :
    Calls Try.prog 8 #[.agg (cw (first ++ keys)).toArray, .slice A n c, .slice A2 n2 c2, .int .u8 x, .int .i64 leaf] W fun e w' => e = .returned (.bool true) ∧ Below W.heap.size W w' := by
  have b := bounds_u8 wx
  obtain ⟨hh, rfl⟩ := Int.eq_ofNat_of_zero_le b.1
  exact grows_walk first keys h8 h64 A n c l hA (by omega) A2 n2 c2 l2 hA2 (by omega) hh (by omega) leaf (bounds_i64 wl)
end
end Go.Proofs.Ytdpbnppngkamiaa
