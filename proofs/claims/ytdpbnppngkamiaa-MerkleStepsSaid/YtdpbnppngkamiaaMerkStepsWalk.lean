/-
  MerkleSteps returns true for every input, and writes nothing that was there: the walk.
-/
import Derived.Test.YtdpbnppngkamiaaMerkCut
import Derived.ProofKit
import Derived.OpenShut
namespace Go.Proofs.Ytdpbnppngkamiaa
open Go.RowKit
set_option linter.unusedVariables false

def msF (gt g11 r k K2 r1 m c : Nat) (A : Option Addr) (x Z : List UInt8) (k_ : Nat) (v : Value) (w : World) : Prop :=
  match k_ with
  | 0 => v = .agg (cb x).toArray
  | 1 => v = .pointer (some ⟨g11, 0, none⟩)
  | 2 => v = .int .i64 (r : Int)
  | 3 => v = .int .i64 (k : Int)
  | 4 => v = .int .i64 (K2 : Int)
  | 5 => v = .int .i64 (r1 : Int)
  | 6 => v = .slice A m c
  | 7 => v = .int .i64 (k : Int)
  | 8 => v = .slice A k c
  | 9 => v = .agg #[.int .i64 (r1 : Int), .slice A k c]
  | 10 => v = .tuple #[.agg (cb Z).toArray, .int .i64 0]
  | 11 => v = .tuple #[.agg (cb Z).toArray, .int .i64 0]
  | 12 => v = .agg (cb Z).toArray
  | 13 => v = .int .i64 0
  | 16 => v = .int .i64 0
  | _ => True
def mtF (gt g11 r k r2 m c : Nat) (A A2 : Option Addr) (Z Y : List UInt8) (k_ : Nat) (v : Value) (w : World) : Prop :=
  match k_ with
  | 0 => v = .agg (cb Z).toArray
  | 1 => v = .pointer (some ⟨g11, 0, none⟩)
  | 2 => v = .int .i64 (r : Int)
  | 3 => v = .int .i64 (k : Int)
  | 4 => v = .int .i64 (r2 : Int)
  | 5 => v = .slice A m c
  | 6 => v = .int .i64 (k : Int)
  | 7 => v = .slice A2 (m - k) (c - k)
  | 8 => v = .agg #[.int .i64 (r2 : Int), .slice A2 (m - k) (c - k)]
  | 9 => v = .tuple #[.agg (cb Y).toArray, .int .i64 0]
  | 10 => v = .tuple #[.agg (cb Y).toArray, .int .i64 0]
  | 11 => v = .agg (cb Y).toArray
  | 12 => v = .int .i64 0
  | 15 => v = .int .i64 0
  | _ => True

theorem ne0_of (K : Nat) (h : 0 < K) : ¬ ((K : Int) = 0) := by omega
theorem m1_ne (m : Nat) : ¬ ((m : Int) + 1 = 0) := by omega
theorem wrapI (K : Nat) (h : K ≤ 1000) : IntKind.i64.wrap (K : Int) = (K : Int) := by rw [IntKind.wrap_i64]; omega
theorem wrap_le (K : Nat) (h : K ≤ 1000) : wrap64 (K : Int) = (K : Int) := by unfold wrap64; omega
section
variable {w : World}
set_option maxHeartbeats 8000000 in
set_option maxRecDepth 100000 in
theorem steps_walk (first keys : List UInt32) (h8 : first.length = 8) (h64 : keys.length = 64) (x : List UInt8) (hx : x.length = 32) (A : Option Addr) (n c : Nat) (l : List (List UInt8)) (hA : Digs w A n l) (hn : n ≤ c) (hc : c ≤ 9223372036854775807) (leaf : Int) (hz : -9223372036854775808 ≤ leaf ∧ leaf ≤ 9223372036854775807) (cut : Nat) (hcut : cut < 256) :
    Calls Try.prog 10 #[.agg (cw (first ++ keys)).toArray, .agg (cb x).toArray, .slice A n c, .int .i64 leaf, .int .u8 (cut : Int)] w fun e w' => e = .returned (.bool true) ∧ Below w.heap.size w w' := by
  have HC : Hid ((cw (first ++ keys)).length = 72) := Lib.hid (by simp [h8, h64])
  have H8 := Lib.hid h8
  have H64 := Lib.hid h64
  have LX := Lib.hid hx
  obtain ⟨TB, hTB⟩ : ∃ TB, cw (first ++ keys) = TB := ⟨_, rfl⟩
  have HTB := Lib.hid hTB
  rw [hTB] at HC ⊢
  have HCC := Lib.hid hc
  obtain ⟨m, hm⟩ : ∃ m, m = min n 8 := ⟨_, rfl⟩
  have HM := Lib.hid hm
  have hm8 : m ≤ 8 := by omega
  have hmn : m ≤ n := by omega
  have hmc : m ≤ c := by omega
  have hDm := hA.take_ hmn
  obtain ⟨ds, hds⟩ : ∃ ds, l.take m = ds := ⟨_, rfl⟩
  rw [hds] at hDm
  have HLD : Hid (ds.length = m) := Lib.hid hDm.len
  obtain ⟨k, hk⟩ : ∃ k, cut % (m + 1) = k := ⟨_, rfl⟩
  have ek : (cut : Int) % ((m : Int) + 1) = (k : Int) := by rw [← hk]; simp
  have hkm : k ≤ m := by have := Nat.mod_lt cut (show 0 < m + 1 by omega); omega
  have hm1n : ¬ ((m : Int) + 1 = 0) := m1_ne m
  have hkm2 : m - k ≤ 8 := by omega
  obtain ⟨K2, hK2⟩ : ∃ K2, 2 ^ k = K2 := ⟨_, rfl⟩
  have hK0 : 0 < K2 := by rw [← hK2]; exact Nat.pow_pos (by decide)
  have hK256 : K2 ≤ 256 := by rw [← hK2]; exact Nat.le_trans (Nat.pow_le_pow_right (by decide) (show k ≤ 8 by omega)) (by decide)
  have HK2 := Lib.hid hK2
  have eK2 : ((2 : Int) ^ k) = (K2 : Int) := by rw [← hK2]; simp
  have eK : wrap64 ((2 : Int) ^ k) = (K2 : Int) := by rw [eK2]; exact wrap_le K2 (Nat.le_trans hK256 (by decide))
  have hKn : ¬ ((K2 : Int) = 0) := ne0_of K2 hK0
  obtain ⟨A', hfr, hdr⟩ := run_fromD A m c k hkm hmc
  have HDM := Lib.hid hDm
  have HDK := Lib.hid (hDm.take_ hkm)
  have HDD := Lib.hid (hdr _ _ hDm)
  have hsk : ∀ w', (Instr.slice 81 (.slice A m c) none (some (.int .i64 (k : Int))) none).run Try.prog w' = .ok (.slice A k c) w' := fun w' => run_cutD A m c k (by omega)
  have hsl : ∀ w', (Instr.slice 81 (.slice A n c) none (some (.int .i64 (m : Int))) none).run Try.prog w' = .ok (.slice A m c) w' := fun w' => run_cutD A n c m (by omega)
  obtain ⟨Q, hQ⟩ : ∃ Q, 2 ^ m = Q := ⟨_, rfl⟩
  have hQ0 : 0 < Q := by rw [← hQ]; exact Nat.pow_pos (by decide)
  have hQ256 : Q ≤ 256 := by rw [← hQ]; exact Nat.le_trans (Nat.pow_le_pow_right (by decide) hm8) (by decide)
  have hQ1000 : Q ≤ 1000 := by omega
  have HQ := Lib.hid hQ
  have eQ : wrap64 ((2 : Int) ^ m) = (Q : Int) := by rw [show ((2 : Int) ^ m) = ((2 ^ m : Nat) : Int) by simp, hQ]; exact wrap_le Q (Nat.le_trans hQ256 (by decide))
  have hpow := eK2
  clear hds hk hA hm hK2 eK2 hdr hTB h8 h64 hx hc hQ hDm
  have HPW := Lib.hid hpow
  clear hpow
  go_enter Try.func10, Try.ntmps10
  go_wp2_with (first
    | (with_reducible refine wpList_box (o := ⟨some 5, _, _, _, _, _⟩) rfl (.tmp 0) 79 rfl TB rfl 72 HC.out (by decide) ?_; intro gt w1 hgt hFt hBt)
    | (with_reducible refine wpList_box (o := ⟨some 6, _, _, _, _, _⟩) rfl (.tmp 1) 83 rfl (cb x) rfl 32 (by rw [List.length_map]; exact LX.out) (by decide) ?_; intro gx w2 hgx hFx hBx; have hB_2 := Below.then_ hBt hBx; have ft_2 := hFt.below hBx; have fx_2 := hFx)
    | (with_reducible refine wpList_is (o := ⟨some 22, _, _, _, _, _⟩) rfl (run_min8 (.tmp 21) rfl n m rfl HM.out) ?_; simp only [Act.put, List.setIfInBounds_toArray, List.set_cons_succ, List.set_cons_zero])
    | (go_at_call 56; refine (Pick_any leaf Q w2 hQ0 hQ1000 hz).mono ?_; rintro e w3 ⟨r, hr, rfl, rfl⟩)
    | (with_reducible refine wpList_alloc (o := ⟨some 11, _, _, _, _, _⟩) rfl 88 rfl zPath (by kernel_rfl) 2 rfl (by decide) ?_; intro g11 w4 hg11 hF11 hB11)
    | (with_reducible refine wpList_store rfl rfl (.tmp 11) (.tmp 30) 88 rfl g11 0 _ 88 2 zPath [.int .i64 (r : Int), .slice A m c] rfl rfl 2 rfl (by kernel_rfl) hF11 (by omega) (allOne_out (by kernel_rfl)) w3 hB11 hg11 ?_; intro w5 f11_3 hB5 ho5_ _; have ho5 := Lib.hid ho5_; clear ho5_; (rw [splice_pa _ _ rfl rfl] at f11_3); have ft_3 := ft_2.below hB5; have fx_3 := fx_2.below hB5; have hB_3 := Below.then_ hB_2 hB5)
    | (with_reducible refine wpList_load (o := ⟨some 38, _, _, _, _, _⟩) rfl (.tmp 6) 83 rfl gx 0 _ rfl (cb x) 32 (by rw [List.length_map]; exact LX.out) (by kernel_rfl) fx_3.sees ?_; simp only [Act.put, List.setIfInBounds_toArray, List.set_cons_succ, List.set_cons_zero])
    | (with_reducible refine wpList_load (o := ⟨some 39, _, _, _, _, _⟩) rfl (.tmp 11) 88 rfl g11 0 _ rfl [.int .i64 (r : Int), .slice A m c] 2 rfl (by kernel_rfl) f11_3.sees ?_; simp only [Act.put, List.setIfInBounds_toArray, List.set_cons_succ, List.set_cons_zero]))
  clear hF11 hB11 hg11 ho5 hB5 ft_2 fx_2 hB_2
  have hr256 : r < 256 := Nat.lt_of_lt_of_le hr hQ256
  obtain ⟨Y, hY⟩ : ∃ Y, climbF (Dg.tabO first keys H8.out) x r ds = Y := ⟨_, rfl⟩
  obtain ⟨Z, hZ⟩ : ∃ Z, climbF (Dg.tabO first keys H8.out) x (r % K2) (ds.take k) = Z := ⟨_, rfl⟩
  have hYZ := climb_append (Dg.tabO first keys H8.out) (ds.take k) (ds.drop k) x r
  rw [List.take_append_drop, List.length_take, HLD.out, Nat.min_eq_left hkm, HK2.out, hY, hZ] at hYZ
  have LY : Hid (Y.length = 32) := Lib.hid (by rw [← hY]; exact len_climbF _ _ _ _ LX.out)
  have LZ : Hid (Z.length = 32) := Lib.hid (by rw [← hZ]; exact len_climbF _ _ _ _ LX.out)
  obtain ⟨r1, hr1⟩ : ∃ r1, r % K2 = r1 := ⟨_, rfl⟩
  obtain ⟨r2, hr2⟩ : ∃ r2, r / K2 = r2 := ⟨_, rfl⟩
  have er1 : (r : Int) % (K2 : Int) = (r1 : Int) := by rw [← hr1]; simp
  have er2 : (r : Int) / (2 : Int) ^ k = (r2 : Int) := by rw [HPW.out, ← hr2]; simp
  rw [hr1] at hZ
  rw [hr2] at hYZ
  have hr1lt : r1 < 2 ^ k := by rw [HK2.out, ← hr1]; exact Nat.mod_lt _ hK0
  have hr2lt : r2 < 2 ^ (m - k) := by rw [← hr2, ← HK2.out]; exact place_lt hkm (by rw [HQ.out]; exact hr)
  have hr2b : r2 < 256 := by rw [← hr2]; exact Nat.lt_of_le_of_lt (Nat.div_le_self r K2) hr256
  have er3 : wrap64 (r2 : Int) = (r2 : Int) := wrap_le r2 (Nat.le_trans (Nat.le_of_lt hr2b) (by decide))
  have eKi : IntKind.i64.wrap ((2 : Int) ^ k) = (K2 : Int) := by rw [HPW.out]; exact wrapI K2 (Nat.le_trans hK256 (by decide))
  have eri : IntKind.i64.wrap (r2 : Int) = (r2 : Int) := wrapI r2 (Nat.le_trans (Nat.le_of_lt hr2b) (by decide))
  have hKn' : ¬ (K2 = 0) := Nat.pos_iff_ne_zero.1 hK0
  have etm : Int.tmod (r : Int) (K2 : Int) = (r1 : Int) := (Int.tmod_eq_emod_of_nonneg (Int.natCast_nonneg r)).trans er1
  have q1 := fun (w' : World) (T : Option Addr) (h1 : OfAt w' T (Dg.tabO first keys H8.out)) (h2 : Digs w' A m ds) => Climb_yes h1 x LX.out r A m c ds h2 hm8 (by rw [HQ.out]; exact hr)
  have q2 := fun (w' : World) (T : Option Addr) (h1 : OfAt w' T (Dg.tabO first keys H8.out)) (h2 : Digs w' A k (ds.take k)) => Climb_yes h1 x LX.out r1 A k c _ h2 (by omega) hr1lt
  have q3 := fun (w' : World) (T : Option Addr) (h1 : OfAt w' T (Dg.tabO first keys H8.out)) (h2 : Digs w' A' (m - k) (ds.drop k)) => Climb_yes h1 Z LZ.out r2 A' (m - k) (c - k) _ h2 hkm2 hr2lt
  rw [hY] at q1
  rw [hZ] at q2
  rw [← hYZ] at q3
  have Q1 := Lib.hid q1
  have Q2 := Lib.hid q2
  have Q3 := Lib.hid q3
  clear hY hZ hYZ q1 q2 q3 hr1 hr2 hr1lt hr2lt hFt hBt hFx hBx hgt
  go_wp2_with (first
    | (go_at_call 43; refine (Q1.out _ _ (OfAt.of_tab (first := first) (keys := keys) ⟨H8.out, H64.out, by rw [HTB.out]; exact ft_3.sees⟩) (HDM.out.step hB_3)).mono ?_; rintro e wc4 ⟨rfl, hBc4⟩)
    | (with_reducible refine wpList_alloc (o := ⟨some 13, _, _, _, _, _⟩) rfl 83 rfl (cb (List.replicate 32 0)) (by kernel_rfl) 32 (len_zb 32) (by decide) ?_; intro g13 wa4 hg13 hF4 hBa4)
    | (with_reducible refine wpList_store rfl rfl (.tmp 13) (.tmp 41) 83 rfl g13 0 _ 83 32 (cb (List.replicate 32 0)) (cb Y) rfl rfl 32 (by rw [List.length_map]; exact LY.out) (by kernel_rfl) hF4 (by omega) (cb_one _) wc4 hBa4 hg13 ?_; intro ws4 f13_4 hbs4 ho4_ _; have ho4 := Lib.hid ho4_; clear ho4_; (rw [splice_32 _ _ List.length_replicate LY.out] at f13_4); have hBr4 := Below.then_ hBc4 hbs4; have ft_4 := ft_3.below hBr4; have fx_4 := fx_3.below hBr4; have f11_4 := f11_3.below hBr4; have hB_4 := Below.then_ hB_3 hBr4))
  clear hF4 hBa4 ho4 hBr4 hBc4 hbs4 hB_3 hg13 ft_3 fx_3 f11_3
  go_wp2_with fail
  refine region_L (msF gt g11 r k K2 r1 m c A x Z) (crJ ws4 14 15 15 83 32 (cb (List.replicate 32 0)) (cb Z)) (by kernel_rfl) (by kernel_rfl) (crJ.start _ _ _) ?_ ?_
  · refine ⟨?_, ?_, ?_, ?_, ?_, ?_, ?_, ?_, ?_, ?_, ?_, ?_, ?_, ?_, ?_, ?_, ?_, trivial⟩
    all_goals intro listed a1 w' hk h1 hd
    · have f6_ : a1.eval (.tmp 6) = .pointer (some ⟨gx, 0, none⟩) := hk.ev_old 6 (by kernel_rfl)
      have g6_ : a1.tmps[6]?.getD undef = .pointer (some ⟨gx, 0, none⟩) := by simpa [Act.eval] using f6_
      exact stepL_value rfl (run_load_agg (.tmp 6) 83 rfl (hk.ev_old 6 (by kernel_rfl)) (cb x) 32 (by rw [List.length_map]; exact LX.out) (by kernel_rfl) (fx_4.below hk.inv.1).sees) rfl (hk.inv.other 0 44 _ (by decide) (by decide) (by decide) (Below.refl _ _))
    · have f11_ : a1.eval (.tmp 11) = .pointer (some ⟨g11, 0, none⟩) := hk.ev_old 11 (by kernel_rfl)
      have g11_ : a1.tmps[11]?.getD undef = .pointer (some ⟨g11, 0, none⟩) := by simpa [Act.eval] using f11_
      exact stepL_value rfl (v := .pointer (some ⟨g11, 0, none⟩)) (by go_simp) rfl (hk.inv.other 1 45 _ (by decide) (by decide) (by decide) (Below.refl _ _))
    · obtain ⟨y1, e1, q1, rfl, l1⟩ := hk.ev_new hd 1 45 (by kernel_rfl) rfl
      have kc : w'.cell? ⟨g11, 0, none⟩ = some (.int .i64 (r : Int)) := (f11_4.below hk.inv.1).cell_ rfl
      exact stepL_value rfl (v := .int .i64 (r : Int)) (by go_simp) rfl (hk.inv.other 2 46 _ (by decide) (by decide) (by decide) (Below.refl _ _))
    · have f12_ : a1.eval (.tmp 12) = .int .i64 (k : Int) := hk.ev_old 12 (by kernel_rfl)
      have g12_ : a1.tmps[12]?.getD undef = .int .i64 (k : Int) := by simpa [Act.eval] using f12_
      exact stepL_value rfl (v := .int .i64 (k : Int)) (by go_simp) rfl (hk.inv.other 3 47 _ (by decide) (by decide) (by decide) (Below.refl _ _))
    · obtain ⟨y3, e3, q3, rfl, l3⟩ := hk.ev_new hd 3 47 (by kernel_rfl) rfl
      exact stepL_value rfl (v := .int .i64 (K2 : Int)) (by go_simp) rfl (hk.inv.other 4 48 _ (by decide) (by decide) (by decide) (Below.refl _ _))
    · obtain ⟨y2, e2, q2, rfl, l2⟩ := hk.ev_new hd 2 46 (by kernel_rfl) rfl
      obtain ⟨y4, e4, q4, rfl, l4⟩ := hk.ev_new hd 4 48 (by kernel_rfl) rfl
      exact stepL_value rfl (v := .int .i64 (r1 : Int)) (by go_simp) rfl (hk.inv.other 5 49 _ (by decide) (by decide) (by decide) (Below.refl _ _))
    · have f2_ : a1.eval (.tmp 2) = .slice A m c := hk.ev_old 2 (by kernel_rfl)
      have g2_ : a1.tmps[2]?.getD undef = .slice A m c := by simpa [Act.eval] using f2_
      exact stepL_value rfl (v := .slice A m c) (by go_simp) rfl (hk.inv.other 6 50 _ (by decide) (by decide) (by decide) (Below.refl _ _))
    · have f12_ : a1.eval (.tmp 12) = .int .i64 (k : Int) := hk.ev_old 12 (by kernel_rfl)
      have g12_ : a1.tmps[12]?.getD undef = .int .i64 (k : Int) := by simpa [Act.eval] using f12_
      exact stepL_value rfl (v := .int .i64 (k : Int)) (by go_simp) rfl (hk.inv.other 7 51 _ (by decide) (by decide) (by decide) (Below.refl _ _))
    · obtain ⟨y6, e6, q6, rfl, l6⟩ := hk.ev_new hd 6 50 (by kernel_rfl) rfl
      obtain ⟨y7, e7, q7, rfl, l7⟩ := hk.ev_new hd 7 51 (by kernel_rfl) rfl
      exact stepL_value rfl (v := .slice A k c) (by go_simp) rfl (hk.inv.other 8 52 _ (by decide) (by decide) (by decide) (Below.refl _ _))
    · obtain ⟨y5, e5, q5, rfl, l5⟩ := hk.ev_new hd 5 49 (by kernel_rfl) rfl
      obtain ⟨y8, e8, q8, rfl, l8⟩ := hk.ev_new hd 8 52 (by kernel_rfl) rfl
      exact stepL_value rfl (v := .agg #[.int .i64 (r1 : Int), .slice A k c]) (by go_simp) rfl (hk.inv.other 9 53 _ (by decide) (by decide) (by decide) (Below.refl _ _))
    · have f5_ : a1.eval (.tmp 5) = .pointer (some ⟨gt, 0, none⟩) := hk.ev_old 5 (by kernel_rfl)
      have g5_ : a1.tmps[5]?.getD undef = .pointer (some ⟨gt, 0, none⟩) := by simpa [Act.eval] using f5_
      obtain ⟨y0, e0, q0, rfl, l0⟩ := hk.ev_new hd 0 44 (by kernel_rfl) rfl
      obtain ⟨y9, e9, q9, rfl, l9⟩ := hk.ev_new hd 9 53 (by kernel_rfl) rfl
      refine stepL_enter rfl (f := 43) (args := #[.pointer (some ⟨gt, 0, none⟩), .agg (cb x).toArray, .agg #[.int .i64 (r1 : Int), .slice A k c]]) (by go_simp) ?_
      have ho := Q2.out _ _ (OfAt.of_tab (first := first) (keys := keys) ⟨H8.out, H64.out, by rw [HTB.out]; exact (ft_4.below hk.inv.1).sees⟩) (HDK.out.step (Below.then_ hB_4 hk.inv.1))
      refine ho.mono ?_
      rintro e w5 ⟨rfl, hB5⟩
      exact ⟨_, rfl, rfl, (hk.inv.other 10 54 _ (by decide) (by decide) (by decide) hB5), fun _ _ h => h⟩
    · obtain ⟨y10, e10, q10, rfl, l10⟩ := hk.ev_new hd 10 54 (by kernel_rfl) rfl
      exact stepL_value rfl (v := .tuple #[.agg (cb Z).toArray, .int .i64 0]) (by go_simp) rfl (hk.inv.other 11 43 _ (by decide) (by decide) (by decide) (Below.refl _ _))
    · obtain ⟨y11, e11, q11, rfl, l11⟩ := hk.ev_new hd 11 43 (by kernel_rfl) rfl
      exact stepL_value rfl (v := .agg (cb Z).toArray) (by go_simp) rfl (hk.inv.other 12 55 _ (by decide) (by decide) (by decide) (Below.refl _ _))
    · obtain ⟨y11, e11, q11, rfl, l11⟩ := hk.ev_new hd 11 43 (by kernel_rfl) rfl
      exact stepL_value rfl (v := .int .i64 0) (by go_simp) rfl (hk.inv.other 13 56 _ (by decide) (by decide) (by decide) (Below.refl _ _))
    · exact stepL_run rfl (exec_alloc 83 rfl (cb (List.replicate 32 0)) (by kernel_rfl)) trivial (hk.inv.alloc h1 (by rw [hk.size]; exact (by decide : (15 : Nat) < 84)) (by decide) (len_zb 32) (by decide)) (fun _ _ h => h)
    · obtain ⟨y12, e12, q12, rfl, l12⟩ := hk.ev_new hd 12 55 (by kernel_rfl) rfl
      obtain ⟨y14, e14, q14, -, l14⟩ := hk.ev_new hd 14 15 (by kernel_rfl) rfl
      obtain ⟨q, eq, -⟩ := hk.inv.2.1 l14
      rw [q14] at eq
      obtain rfl : y14 = .pointer (some ⟨q, 0, none⟩) := by simpa using eq
      obtain ⟨hF, hJ⟩ := hk.inv.store h1 l14 q14 (by decide) (len_zb 32) (by rw [List.length_map]; exact LZ.out)
      exact stepL_skip rfl rfl (run_storeF (.tmp 15) (.tmp 55) rfl (cb (List.replicate 32 0)) (cb Z) e14 e12 hF (by rw [List.length_map]; exact LZ.out) (by kernel_rfl) (cb_one _)) trivial hJ (fun _ _ h => h)
    · obtain ⟨y13, e13, q13, rfl, l13⟩ := hk.ev_new hd 13 56 (by kernel_rfl) rfl
      exact stepL_value rfl (v := .int .i64 0) (by go_simp) rfl (hk.inv.other 16 16 _ (by decide) (by decide) (by decide) (Below.refl _ _))
  · intro listed a1 w5x hJ hall hp
    obtain ⟨x0, p0, x1, p1, x2, p2, x3, p3, x4, p4, x5, p5, x6, p6, x7, p7, x8, p8, x9, p9, x10, p10, x11, p11, x12, p12, x13, p13, x14, p14, x16, p16, rfl⟩ := hp
    simp only [msF] at p0 p1 p2 p3 p4 p5 p6 p7 p8 p9 p10 p11 p12 p13 p14 p16
    obtain ⟨q5, e14_, hF_q5⟩ := hJ.2.1 (hall 14 (by decide))
    rw [hall 15 (by decide)] at hF_q5
    have hb5x := hJ.1
    subst p0 p1 p2 p3 p4 p5 p6 p7 p8 p9 p10 p11 p12 p13 p16
    simp only [Act.put, List.setIfInBounds_toArray, List.set_cons_succ, List.set_cons_zero] at e14_ ⊢
    obtain rfl : x14 = .pointer (some ⟨q5, 0, none⟩) := by simpa using e14_
    clear hJ hall e14_ p14
    have ft_5 := ft_4.below hb5x
    have f11_5 := f11_4.below hb5x
    have f13_5 := f13_4.below hb5x
    have hB_5 := Below.then_ hB_4 hb5x
    clear hb5x
    go_wp2_with fail
    refine region_L (mtF gt g11 r k r2 m c A A' Z Y) (crJ w5x 13 14 17 83 32 (cb (List.replicate 32 0)) (cb Y)) (by kernel_rfl) (by kernel_rfl) (crJ.start _ _ _) ?_ ?_
    · refine ⟨?_, ?_, ?_, ?_, ?_, ?_, ?_, ?_, ?_, ?_, ?_, ?_, ?_, ?_, ?_, ?_, trivial⟩
      all_goals intro listed a1 w' hk h1 hd
      · have f15_ : a1.eval (.tmp 15) = .pointer (some ⟨q5, 0, none⟩) := hk.ev_old 15 (by kernel_rfl)
        have g15_ : a1.tmps[15]?.getD undef = .pointer (some ⟨q5, 0, none⟩) := by simpa [Act.eval] using f15_
        exact stepL_value rfl (run_load_agg (.tmp 15) 83 rfl (hk.ev_old 15 (by kernel_rfl)) (cb Z) 32 (by rw [List.length_map]; exact LZ.out) (by kernel_rfl) (hF_q5.below hk.inv.1).sees) rfl (hk.inv.other 0 58 _ (by decide) (by decide) (by decide) (Below.refl _ _))
      · have f11_ : a1.eval (.tmp 11) = .pointer (some ⟨g11, 0, none⟩) := hk.ev_old 11 (by kernel_rfl)
        have g11_ : a1.tmps[11]?.getD undef = .pointer (some ⟨g11, 0, none⟩) := by simpa [Act.eval] using f11_
        exact stepL_value rfl (v := .pointer (some ⟨g11, 0, none⟩)) (by go_simp) rfl (hk.inv.other 1 59 _ (by decide) (by decide) (by decide) (Below.refl _ _))
      · obtain ⟨y1, e1, q1, rfl, l1⟩ := hk.ev_new hd 1 59 (by kernel_rfl) rfl
        have kc : w'.cell? ⟨g11, 0, none⟩ = some (.int .i64 (r : Int)) := (f11_5.below hk.inv.1).cell_ rfl
        exact stepL_value rfl (v := .int .i64 (r : Int)) (by go_simp) rfl (hk.inv.other 2 60 _ (by decide) (by decide) (by decide) (Below.refl _ _))
      · have f12_ : a1.eval (.tmp 12) = .int .i64 (k : Int) := hk.ev_old 12 (by kernel_rfl)
        have g12_ : a1.tmps[12]?.getD undef = .int .i64 (k : Int) := by simpa [Act.eval] using f12_
        exact stepL_value rfl (v := .int .i64 (k : Int)) (by go_simp) rfl (hk.inv.other 3 61 _ (by decide) (by decide) (by decide) (Below.refl _ _))
      · obtain ⟨y2, e2, q2, rfl, l2⟩ := hk.ev_new hd 2 60 (by kernel_rfl) rfl
        obtain ⟨y3, e3, q3, rfl, l3⟩ := hk.ev_new hd 3 61 (by kernel_rfl) rfl
        exact stepL_value rfl (v := .int .i64 (r2 : Int)) (by go_simp) rfl (hk.inv.other 4 62 _ (by decide) (by decide) (by decide) (Below.refl _ _))
      · have f2_ : a1.eval (.tmp 2) = .slice A m c := hk.ev_old 2 (by kernel_rfl)
        have g2_ : a1.tmps[2]?.getD undef = .slice A m c := by simpa [Act.eval] using f2_
        exact stepL_value rfl (v := .slice A m c) (by go_simp) rfl (hk.inv.other 5 63 _ (by decide) (by decide) (by decide) (Below.refl _ _))
      · have f12_ : a1.eval (.tmp 12) = .int .i64 (k : Int) := hk.ev_old 12 (by kernel_rfl)
        have g12_ : a1.tmps[12]?.getD undef = .int .i64 (k : Int) := by simpa [Act.eval] using f12_
        exact stepL_value rfl (v := .int .i64 (k : Int)) (by go_simp) rfl (hk.inv.other 6 64 _ (by decide) (by decide) (by decide) (Below.refl _ _))
      · obtain ⟨y5, e5, q5, rfl, l5⟩ := hk.ev_new hd 5 63 (by kernel_rfl) rfl
        obtain ⟨y6, e6, q6, rfl, l6⟩ := hk.ev_new hd 6 64 (by kernel_rfl) rfl
        exact stepL_value rfl (v := .slice A' (m - k) (c - k)) (by go_simp) rfl (hk.inv.other 7 65 _ (by decide) (by decide) (by decide) (Below.refl _ _))
      · obtain ⟨y4, e4, q4, rfl, l4⟩ := hk.ev_new hd 4 62 (by kernel_rfl) rfl
        obtain ⟨y7, e7, q7, rfl, l7⟩ := hk.ev_new hd 7 65 (by kernel_rfl) rfl
        exact stepL_value rfl (v := .agg #[.int .i64 (r2 : Int), .slice A' (m - k) (c - k)]) (by go_simp) rfl (hk.inv.other 8 66 _ (by decide) (by decide) (by decide) (Below.refl _ _))
      · have f5_ : a1.eval (.tmp 5) = .pointer (some ⟨gt, 0, none⟩) := hk.ev_old 5 (by kernel_rfl)
        have g5_ : a1.tmps[5]?.getD undef = .pointer (some ⟨gt, 0, none⟩) := by simpa [Act.eval] using f5_
        obtain ⟨y0, e0, q0, rfl, l0⟩ := hk.ev_new hd 0 58 (by kernel_rfl) rfl
        obtain ⟨y8, e8, q8, rfl, l8⟩ := hk.ev_new hd 8 66 (by kernel_rfl) rfl
        refine stepL_enter rfl (f := 43) (args := #[.pointer (some ⟨gt, 0, none⟩), .agg (cb Z).toArray, .agg #[.int .i64 (r2 : Int), .slice A' (m - k) (c - k)]]) (by go_simp) ?_
        have ho := Q3.out _ _ (OfAt.of_tab (first := first) (keys := keys) ⟨H8.out, H64.out, by rw [HTB.out]; exact (ft_5.below hk.inv.1).sees⟩) (HDD.out.step (Below.then_ hB_5 hk.inv.1))
        refine ho.mono ?_
        rintro e w5 ⟨rfl, hB5⟩
        exact ⟨_, rfl, rfl, (hk.inv.other 9 67 _ (by decide) (by decide) (by decide) hB5), fun _ _ h => h⟩
      · obtain ⟨y9, e9, q9, rfl, l9⟩ := hk.ev_new hd 9 67 (by kernel_rfl) rfl
        exact stepL_value rfl (v := .tuple #[.agg (cb Y).toArray, .int .i64 0]) (by go_simp) rfl (hk.inv.other 10 57 _ (by decide) (by decide) (by decide) (Below.refl _ _))
      · obtain ⟨y10, e10, q10, rfl, l10⟩ := hk.ev_new hd 10 57 (by kernel_rfl) rfl
        exact stepL_value rfl (v := .agg (cb Y).toArray) (by go_simp) rfl (hk.inv.other 11 68 _ (by decide) (by decide) (by decide) (Below.refl _ _))
      · obtain ⟨y10, e10, q10, rfl, l10⟩ := hk.ev_new hd 10 57 (by kernel_rfl) rfl
        exact stepL_value rfl (v := .int .i64 0) (by go_simp) rfl (hk.inv.other 12 69 _ (by decide) (by decide) (by decide) (Below.refl _ _))
      · exact stepL_run rfl (exec_alloc 83 rfl (cb (List.replicate 32 0)) (by kernel_rfl)) trivial (hk.inv.alloc h1 (by rw [hk.size]; exact (by decide : (17 : Nat) < 84)) (by decide) (len_zb 32) (by decide)) (fun _ _ h => h)
      · obtain ⟨y11, e11, q11, rfl, l11⟩ := hk.ev_new hd 11 68 (by kernel_rfl) rfl
        obtain ⟨y13, e13, q13, -, l13⟩ := hk.ev_new hd 13 17 (by kernel_rfl) rfl
        obtain ⟨q, eq, -⟩ := hk.inv.2.1 l13
        rw [q13] at eq
        obtain rfl : y13 = .pointer (some ⟨q, 0, none⟩) := by simpa using eq
        obtain ⟨hF, hJ⟩ := hk.inv.store h1 l13 q13 (by decide) (len_zb 32) (by rw [List.length_map]; exact LY.out)
        exact stepL_skip rfl rfl (run_storeF (.tmp 17) (.tmp 68) rfl (cb (List.replicate 32 0)) (cb Y) e13 e11 hF (by rw [List.length_map]; exact LY.out) (by kernel_rfl) (cb_one _)) trivial hJ (fun _ _ h => h)
      · obtain ⟨y12, e12, q12, rfl, l12⟩ := hk.ev_new hd 12 69 (by kernel_rfl) rfl
        exact stepL_value rfl (v := .int .i64 0) (by go_simp) rfl (hk.inv.other 15 18 _ (by decide) (by decide) (by decide) (Below.refl _ _))
    · intro listed a1 w6 hJ hall hp
      obtain ⟨x0, p0, x1, p1, x2, p2, x3, p3, x4, p4, x5, p5, x6, p6, x7, p7, x8, p8, x9, p9, x10, p10, x11, p11, x12, p12, x13, p13, x15, p15, rfl⟩ := hp
      simp only [mtF] at p0 p1 p2 p3 p4 p5 p6 p7 p8 p9 p10 p11 p12 p13 p15
      obtain ⟨q6, e13_, hF_q6⟩ := hJ.2.1 (hall 13 (by decide))
      rw [hall 14 (by decide)] at hF_q6
      have hb6 := hJ.1
      subst p0 p1 p2 p3 p4 p5 p6 p7 p8 p9 p10 p11 p12 p15
      simp only [Act.put, List.setIfInBounds_toArray, List.set_cons_succ, List.set_cons_zero] at e13_ ⊢
      obtain rfl : x13 = .pointer (some ⟨q6, 0, none⟩) := by simpa using e13_
      clear hJ hall e13_ p13
      have f13_6 := f13_5.below hb6
      go_wp2_with (first
        | (with_reducible refine wpList_load_g (o := ⟨some 77, _, _, _, _, _⟩) (.tmp 13) 83 rfl g13 0 _ rfl (cb Y) 32 (by rw [List.length_map]; exact LY.out) (by kernel_rfl) f13_6.sees (wanted_at rfl rfl rfl) ?_; simp only [Act.put, List.setIfInBounds_toArray, List.set_cons_succ, List.set_cons_zero])
        | (with_reducible refine wpList_load_g (o := ⟨some 78, _, _, _, _, _⟩) (.tmp 17) 83 rfl q6 0 _ rfl (cb Y) 32 (by rw [List.length_map]; exact LY.out) (by kernel_rfl) hF_q6.sees (wanted_at rfl rfl rfl) ?_; simp only [Act.put, List.setIfInBounds_toArray, List.set_cons_succ, List.set_cons_zero])
        | (with_reducible refine wpList_gis (o := ⟨some 79, _, _, _, _, _⟩) rfl (run_eq32b (.tmp 77) (.tmp 78) _ rfl Y Y rfl rfl LY.out LY.out) ?_; simp only [Act.put, List.setIfInBounds_toArray, List.set_cons_succ, List.set_cons_zero])
        | (go_at_call 46; refine awake10_any.mono ?_; rintro e w10 ⟨rfl, hB10⟩))
      go_ret
      exact ⟨rfl, Below.then_ (Below.then_ hB_5 hb6) hB10⟩
theorem steps_law (W : World) (first keys : List UInt32) (h8 : first.length = 8) (h64 : keys.length = 64) (x : List UInt8) (hx : x.length = 32) (A : Option Addr) (n c : Nat) (l : List (List UInt8)) (hA : Digs W A n l) (hn : n ≤ c) (hc : c ≤ 9223372036854775807) (hnil : A = none → c = 0) (leaf : Int) (wl : (Lit.int .i64 leaf).wf = true) (y : Int) (wy : (Lit.int .u8 y).wf = true) :
    Calls Try.prog 10 #[.agg (cw (first ++ keys)).toArray, .agg (cb x).toArray, .slice A n c, .int .i64 leaf, .int .u8 y] W fun e w' => e = .returned (.bool true) ∧ Below W.heap.size W w' := by
  have b := bounds_u8 wy
  obtain ⟨hh, rfl⟩ := Int.eq_ofNat_of_zero_le b.1
  exact steps_walk first keys h8 h64 x hx A n c l hA hn hc leaf (bounds_i64 wl) hh (by omega)
end
end Go.Proofs.Ytdpbnppngkamiaa
