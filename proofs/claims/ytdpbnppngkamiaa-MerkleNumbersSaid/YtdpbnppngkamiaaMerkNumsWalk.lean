/-
  MerkleNumbers returns true, and writes nothing that was there: the walk.
-/
import Derived.Test.YtdpbnppngkamiaaMerkNums0
import Derived.Test.YtdpbnppngkamiaaRegionM
import Derived.ProofKit
import Derived.OpenShut
namespace Go.Proofs.Ytdpbnppngkamiaa
open Go.RowKit
set_option linter.unusedVariables false

def mn1F (gt gl g6 cB : Nat) (B : Option Addr) (X R : List UInt8) (k_ : Nat) (v : Value) (w : World) : Prop :=
  match k_ with
  | 0 => v = .slice (some ⟨gl, 0, none⟩) 512 512
  | 1 => v = .pointer (some ⟨gl, 0 + 32 * 255, none⟩)
  | 2 => v = .agg (cb X).toArray
  | 3 => v = .agg #[.int .i64 255, .slice B 8 cB]
  | 4 => v = .tuple #[.agg (cb R).toArray, .int .i64 0]
  | 5 => v = .tuple #[.agg (cb R).toArray, .int .i64 0]
  | 6 => v = .agg (cb R).toArray
  | 7 => v = .int .i64 0
  | 10 => v = .int .i64 0
  | _ => True
def mnps (gl : Nat) : List (Int × Option Addr × Nat × Nat) := [(-1, none, 0, 0), (1, none, 0, 0), (4, some ⟨gl, 0, none⟩, 2, 512), (0, some ⟨gl, 0, none⟩, 9, 512)]
def mnP (gl B0 : Nat) (k_ : Nat) (v : Value) (w : World) : Prop :=
  match k_ with
  | 0 => v = .agg #[.int .i64 (-1), .slice none 0 0]
  | 1 => v = .agg #[.int .i64 1, .slice none 0 0]
  | 2 => v = .slice (some ⟨gl, 0, none⟩) 512 512
  | 3 => v = .slice (some ⟨gl, 0, none⟩) 2 512
  | 4 => v = .agg #[.int .i64 4, .slice (some ⟨gl, 0, none⟩) 2 512]
  | 5 => v = .slice (some ⟨gl, 0, none⟩) 512 512
  | 6 => v = .slice (some ⟨gl, 0, none⟩) 9 512
  | 7 => v = .agg #[.int .i64 0, .slice (some ⟨gl, 0, none⟩) 9 512]
  | 9 => v = .int .i64 4
  | 10 => v = .int .i64 0
  | 8 => ∃ g, v = .slice (some ⟨g, 0, none⟩) 4 4 ∧ Fresh B0 88 w (some ⟨g, 0, none⟩) 8 8 (pcs (mnps gl))
  | _ => True
theorem mnP_keep {gl B0 : Nat} {w w' : World} (hb : Below w.heap.size w w') : ∀ j u, mnP gl B0 j u w → mnP gl B0 j u w' := by
  intro j u h
  unfold mnP at *
  split at h <;> first | exact h | (obtain ⟨g, e, hP⟩ := h; exact ⟨g, e, hP.below hb⟩) | trivial
theorem exec_bz {o : Oper} {a : Act} {w : World} (hop : o.op = .build 83 #[]) : (execOp a.eval o).run Try.prog w = .ok (.value (.agg (cb (List.replicate 32 0)).toArray)) w := by
  simp only [execOp, hop]
  simp only [List.map_toArray, List.map_nil, Sem.run_bind]
  rw [bdz]
  rfl
theorem exec_bp {o : Oper} {a : Act} {w : World} (hop : o.op = .build 88 #[]) : (execOp a.eval o).run Try.prog w = .ok (.value (.agg #[.int .i64 0, .slice none 0 0])) w := by
  unfold execOp
  simp [hop, bdp, zPath]
def mn2F (gt gl g21 nq cq : Nat) (lf : Int) (Aq : Option Addr) (X0 : List UInt8) (k_ : Nat) (v : Value) (w : World) : Prop :=
  match k_ with
  | 0 => v = .slice (some ⟨gl, 0, none⟩) 512 512
  | 1 => v = .pointer (some ⟨gl, 0 + 32 * 0, none⟩)
  | 2 => v = .agg (cb X0).toArray
  | 3 => v = .agg #[.int .i64 lf, .slice Aq nq cq]
  | 4 => v = .tuple #[.agg (cb (List.replicate 32 0)).toArray, .int .i64 2]
  | 5 => v = .tuple #[.agg (cb (List.replicate 32 0)).toArray, .int .i64 2]
  | 6 => v = .agg (cb (List.replicate 32 0)).toArray
  | 7 => v = .int .i64 2
  | 10 => v = .int .i64 2
  | _ => True
def mn3F (gl g6 cB : Nat) (B : Option Addr) (X1 X2 : List UInt8) (j : Nat) (x : Value) (w : World) : Prop :=
  match j with
  | 0 => x = .agg #[.int .i64 0, .slice none 0 0]
  | 1 => x = .bool true
  | 2 => x = .bool true
  | 3 => x = .agg #[.int .i64 255, .slice B 8 cB]
  | 4 => x = .bool true
  | 5 => x = .bool true
  | 6 => x = .bool true
  | 7 => x = .slice (some ⟨gl, 0, none⟩) 512 512
  | 8 => x = .pointer (some ⟨gl, 0 + 32 * 1, none⟩)
  | 9 => x = .agg (cb X1).toArray
  | 10 => x = .slice (some ⟨gl, 0, none⟩) 512 512
  | 11 => x = .pointer (some ⟨gl, 0 + 32 * 2, none⟩)
  | 12 => x = .agg (cb X2).toArray
  | 13 => x = .agg (cb (List.replicate 32 0)).toArray
  | 14 => x = .agg (cb (List.replicate 32 0)).toArray
  | 15 => x = .bool true
  | 16 => x = .bool true
  | 17 => x = .bool true
  | 18 => x = .bool true
  | 19 => x = .bool true
  | _ => True
theorem mn3F_stab (gl g6 cB : Nat) (B : Option Addr) (X1 X2 : List UInt8) : ∀ j x w w', Below w.heap.size w w' → mn3F gl g6 cB B X1 X2 j x w → mn3F gl g6 cB B X1 X2 j x w' := fun _ _ _ _ _ h => h
section
variable {w : World}
set_option maxHeartbeats 8000000 in
set_option maxRecDepth 100000 in
theorem nums10_walk (TL : List Value) (hC : TL.length = 72) (hON : ∀ u ∈ TL, u.oneCell' = true) (G : Dg)
    (HT : Hid (∀ w', Calls Try.prog 40 #[] w' fun e w2 => e = .returned (.agg TL.toArray) ∧ Below w'.heap.size w' w2))
    (HG : Hid (∀ (w' : World) (gt base : Nat), Fresh base 79 w' (some ⟨gt, 0, none⟩) 72 72 TL → OfAt w' (some ⟨gt, 0, none⟩) G)) :
    Calls Try.prog 5 #[] w fun e w' => e = .returned (.bool true) ∧ Below w.heap.size w w' := by
  have HC := Lib.hid hC
  have HON := Lib.hid hON
  clear hC hON
  go_enter Try.func5, Try.ntmps5
  go_wp2_with (first
    | (go_at_call 40; refine (HT.out _).mono ?_; rintro e w1 ⟨rfl, hB1⟩)
    | (with_reducible refine wpList_alloc (o := ⟨some 1, _, _, _, _, _⟩) rfl 79 rfl (cw (List.replicate 72 0)) (by kernel_rfl) 72 (by simp) (by decide) ?_; intro gt w2 hgt hFt hBt)
    | (with_reducible refine wpList_store rfl rfl (.tmp 1) (.tmp 24) 79 rfl gt 0 _ 79 72 (cw (List.replicate 72 0)) TL rfl rfl 72 HC.out (by kernel_rfl) hFt (by omega) HON.out w1 hBt hgt ?_; intro w3 ft3 hB3 ho3_ _; have ho3 := Lib.hid ho3_; clear ho3_; (rw [splice_tab TL HC.out] at ft3); have hB03 := Below.then_ hB1 hB3; have z1 := hB1.size; have lt3 := ft3.lt_size)
    | (at_make; refine wpList_mkD rfl _ _ rfl 512 rfl rfl (by omega) ?_; intro w4 hO4 hB4))
  have ft4 := (ft3.below hB4).lower (base' := w.heap.size) z1
  have hO4' := hO4.lower (base' := w.heap.size) hB03.size
  have hB04 := Below.then_ hB03 hB4
  have ngl : gt ≠ w3.heap.size := by omega
  have hgl2 : w.heap.size ≤ w3.heap.size := hB03.size
  obtain ⟨gl, hgl⟩ : ∃ gl, gl = w3.heap.size := ⟨_, rfl⟩
  rw [← hgl] at hO4' ngl hgl2 ⊢
  have hds4 : ∃ ds, OwnD w.heap.size w4 (some ⟨gl, 0, none⟩) 512 512 ds := ⟨_, hO4'⟩
  clear hFt hBt ho3 hgt hB1 hB3 hB03 z1 lt3 ft3 hO4 hB4 hO4' hgl
  go_loopw [28] (fun iv wr => ∃ (k : Nat) (ds : List (List UInt8)), k ≤ 512 ∧ iv = .int .i64 (k : Int) ∧ Fresh w.heap.size 79 wr (some ⟨gt, 0, none⟩) 72 72 TL ∧ OwnD w.heap.size wr (some ⟨gl, 0, none⟩) 512 512 ds ∧ Below w.heap.size w wr) (fun iv _ => 512 - (intOf iv).toNat)
  case atStart =>
    obtain ⟨ds, hds⟩ := hds4
    exact ⟨0, ds, by omega, rfl, ft4, hds, hB04⟩
  case round =>
    clear ft4 hds4 hB04
    obtain ⟨k, ds, hk, rfl, ft_0, hO_0, hB_0⟩ := hrel
    by_cases hlt : k < 512
    · obtain ⟨p, hp⟩ : ∃ p : UInt8, (k : Int) % 256 = (p.toNat : Int) := ⟨UInt8.ofNat (k % 256), by simp only [UInt8.toNat_ofNat']; omega⟩
      obtain ⟨q, hq⟩ : ∃ q : UInt8, (k : Int) / 256 = (q.toNat : Int) := ⟨UInt8.ofNat (k / 256), by simp only [UInt8.toNat_ofNat']; omega⟩
      have hq2 : (q.toNat : Int) % 256 = (q.toNat : Int) := by have := q.toNat_lt; omega
      have hff := hO_0.fresh (by omega)
      have HALL := Lib.hid hO_0.all
      have HLEN := Lib.hid hO_0.len
      have hd2 : Hid ((d2 p q).length = 32) := Lib.hid (by simp [d2])
      clear hO_0
      go_wp2_with (first
        | (with_reducible refine wpList_is (o := ⟨some 38, _, _, _, _, _⟩) rfl (exec_d2 (.tmp 34) (.tmp 37) rfl p q rfl rfl) ?_)
        | (with_reducible refine wpList_is (o := ⟨some 39, _, _, _, _, _⟩) (v := .pointer (some ⟨gl, 32 * k, none⟩)) rfl (run_ixL (.tmp 31) (.tmp 32) rfl rfl rfl rfl hlt (Nat.zero_add _)) ?_)
        | (with_reducible refine wpList_store rfl rfl (.tmp 39) (.tmp 38) 83 rfl gl (32 * k) w.heap.size 83 (32 * 512) _ (cb (d2 p q)) rfl rfl 32 (by rw [List.length_map]; exact hd2.out) (by kernel_rfl) hff (by omega) (cb_one _) w hB_0 hgl2 ?_; intro w8 hF8 hB8 ho8 hz8))
      rw [flat_splice HALL.out (by rw [HLEN.out]; exact hlt) _ hd2.out] at hF8
      have ft8 := ft_0.other ngl ho8
      go_roundw
      case rel =>
        refine ⟨k + 1, _, by omega, by go_num, ft8, OwnD.of_fresh hF8 (fun x hx => ?_) (by unfold maxLen; omega), hB8⟩
        rcases List.mem_or_eq_of_mem_set hx with h1 | h1
        · exact HALL.out x h1
        · rw [h1]; exact hd2.out
      case measure => simp [intOf]; omega
    · obtain rfl : k = 512 := by omega
      clear hlt hk
      obtain ⟨R, hR⟩ : ∃ R, rootF G (ds.take 256) 8 = R := ⟨_, rfl⟩
      obtain ⟨P, hP⟩ : ∃ P, pathF G (ds.take 256) 8 255 = P := ⟨_, rfl⟩
      have hlt256 : (ds.take 256).length = 2 ^ 8 := by rw [List.length_take, hO_0.len]; decide
      have hal256 := all_take hO_0.all 256
      have LR : Hid (R.length = 32) := Lib.hid (by rw [← hR]; exact len_rootF _ hlt256 hal256)
      have hcl := climb_root G (l := ds.take 256) (h := 8) (leaf := 255) hlt256 (by decide)
      rw [hR, hP] at hcl
      obtain ⟨X, hX⟩ : ∃ X, dAt (ds.take 256) 255 = X := ⟨_, rfl⟩
      have LX : Hid (X.length = 32) := Lib.hid (by rw [← hX]; exact len_dAt hal256 (by rw [hlt256]; decide))
      have hXd : dAt ds 255 = X := by
        rw [← hX]
        simp [dAt]
      rw [hX] at hcl
      have q1 := fun (w' : World) (T : Option Addr) (h1 : OfAt w' T G) (h2 : Digs w' (some ⟨gl, 0, none⟩) 256 (ds.take 256)) => Root_yes h1 (some ⟨gl, 0, none⟩) 256 512 _ h2 8 (by omega) rfl
      have q2 : ∀ (w' : World) (T : Option Addr), OfAt w' T G → Digs w' (some ⟨gl, 0, none⟩) 256 (ds.take 256) → Calls Try.prog 42 #[.pointer T, .slice (some ⟨gl, 0, none⟩) 256 512, .int .i64 255] w' fun e w2 => ∃ B cB, e = .returned (.tuple #[.agg #[.int .i64 255, .slice B 8 cB], .int .i64 0]) ∧ OwnD w'.heap.size w2 B 8 cB (pathF G (ds.take 256) 8 255) ∧ Below w'.heap.size w' w2 := fun w' T h1 h2 => Path_yes h1 (some ⟨gl, 0, none⟩) 256 512 _ h2 8 (by omega) rfl 255 (by omega)
      have q3 : ∀ (w' : World) (T B : Option Addr) (cB : Nat), OfAt w' T G → Digs w' B 8 P → Calls Try.prog 43 #[.pointer T, .agg (cb X).toArray, .agg #[.int .i64 255, .slice B 8 cB]] w' fun e w2 => e = .returned (.tuple #[.agg (cb (climbF G X 255 P)).toArray, .int .i64 0]) ∧ Below w'.heap.size w' w2 := fun w' T B cB h1 h2 => Climb_yes h1 X LX.out 255 B 8 cB P h2 (by omega) (by decide)
      rw [hR] at q1
      rw [hP] at q2
      rw [hcl] at q3
      have QR := Lib.hid q1
      have QP := Lib.hid q2
      have QC := Lib.hid q3
      have HXD := Lib.hid hXd
      clear q1 q2 q3 hR hP hcl hX hlt256 hal256 hXd
      have N1 : Hid (∀ (w' : World) (T : Option Addr), Calls Try.prog 41 #[.pointer T, .slice (some ⟨gl, 0, none⟩) 512 512] w' fun e w2 => e = .returned (.tuple #[.agg (cb (List.replicate 32 0)).toArray, .int .i64 2]) ∧ Below w'.heap.size w' w2) := Lib.hid fun w' T => Root_no _ 512 512 (by omega) (by decide)
      have N2 : Hid (∀ (w' : World) (T : Option Addr), Calls Try.prog 42 #[.pointer T, .slice (some ⟨gl, 0, none⟩) 512 512, .int .i64 0] w' fun e w2 => e = .returned (.tuple #[.agg zPath.toArray, .int .i64 2]) ∧ Below w'.heap.size w' w2) := Lib.hid fun w' T => Path_no _ 512 512 0 (by omega) (.inl (by decide))
      have N3 : Hid (∀ (w' : World) (T : Option Addr), Calls Try.prog 42 #[.pointer T, .slice (some ⟨gl, 0, none⟩) 4 512, .int .i64 4] w' fun e w2 => e = .returned (.tuple #[.agg zPath.toArray, .int .i64 2]) ∧ Below w'.heap.size w' w2) := Lib.hid fun w' T => Path_no _ 4 512 4 (by omega) (.inr (.inr (by decide)))
      have N4 : Hid (∀ (w' : World) (T : Option Addr), Calls Try.prog 42 #[.pointer T, .slice (some ⟨gl, 0, none⟩) 4 512, .int .i64 (-1)] w' fun e w2 => e = .returned (.tuple #[.agg zPath.toArray, .int .i64 2]) ∧ Below w'.heap.size w' w2) := Lib.hid fun w' T => Path_no _ 4 512 (-1) (by omega) (.inr (.inl (by decide)))
      have N5 : Hid (∀ (w' : World) (T : Option Addr), Calls Try.prog 42 #[.pointer T, .slice (some ⟨gl, 0, none⟩) 6 512, .int .i64 1] w' fun e w2 => e = .returned (.tuple #[.agg zPath.toArray, .int .i64 2]) ∧ Below w'.heap.size w' w2) := Lib.hid fun w' T => Path_no _ 6 512 1 (by omega) (.inl (by decide))
      have hs256 : ∀ w', (Instr.slice 81 (.slice (some ⟨gl, 0, none⟩) 512 512) none (some (.int .i64 256)) none).run Try.prog w' = .ok (.slice (some ⟨gl, 0, none⟩) 256 512) w' := fun w' => run_cutD _ 512 512 256 (by omega)
      have hs4 : ∀ w', (Instr.slice 81 (.slice (some ⟨gl, 0, none⟩) 512 512) none (some (.int .i64 4)) none).run Try.prog w' = .ok (.slice (some ⟨gl, 0, none⟩) 4 512) w' := fun w' => run_cutD _ 512 512 4 (by omega)
      have hs6 : ∀ w', (Instr.slice 81 (.slice (some ⟨gl, 0, none⟩) 512 512) none (some (.int .i64 6)) none).run Try.prog w' = .ok (.slice (some ⟨gl, 0, none⟩) 6 512) w' := fun w' => run_cutD _ 512 512 6 (by omega)
      have hs2 : ∀ w', (Instr.slice 81 (.slice (some ⟨gl, 0, none⟩) 512 512) none (some (.int .i64 2)) none).run Try.prog w' = .ok (.slice (some ⟨gl, 0, none⟩) 2 512) w' := fun w' => run_cutD _ 512 512 2 (by omega)
      have hs9 : ∀ w', (Instr.slice 81 (.slice (some ⟨gl, 0, none⟩) 512 512) none (some (.int .i64 9)) none).run Try.prog w' = .ok (.slice (some ⟨gl, 0, none⟩) 9 512) w' := fun w' => run_cutD _ 512 512 9 (by omega)
      go_wp2_with (first
        | (go_at_call 41; with_reducible refine (QR.out _ _ (HG.out _ gt _ ft_0) (hO_0.digs.take_ (k := 256) (by omega))).mono ?_; rintro e wc8 ⟨rfl, hBc8⟩)
        | (with_reducible refine wpList_alloc (o := ⟨some 4, _, _, _, _, _⟩) rfl 83 rfl (cb (List.replicate 32 0)) (by kernel_rfl) 32 (len_zb 32) (by decide) ?_; intro g4 wa8 hg4 hF8 hBa8)
        | (with_reducible refine wpList_store rfl rfl (.tmp 4) (.tmp 45) 83 rfl g4 0 _ 83 32 (cb (List.replicate 32 0)) (cb R) rfl rfl 32 (by rw [List.length_map]; exact LR.out) (by kernel_rfl) hF8 (by omega) (cb_one _) wc8 hBa8 hg4 ?_; intro ws8 f4_8 hbs8 ho8_ _; have ho8 := Lib.hid ho8_; clear ho8_; (rw [splice_32 _ _ List.length_replicate LR.out] at f4_8); have hBr8 := Below.then_ hBc8 hbs8; have ft_8 := ft_0.below hBr8; have hO_8 := hO_0.below hBr8; have hB_8 := Below.then_ hB_0 hBr8))
      clear hF8 hBa8 ho8 hBr8 hBc8 hbs8 hB_0 hg4 ft_0 hO_0
      go_wp2_with (first
        | (go_at_call 42; with_reducible refine (QP.out _ _ (HG.out _ gt _ ft_8) (hO_8.digs.take_ (k := 256) (by omega))).mono ?_; rintro e wc9 ⟨B, cB, rfl, hOB, hBc9⟩)
        | (with_reducible refine wpList_alloc (o := ⟨some 6, _, _, _, _, _⟩) rfl 88 rfl zPath (by kernel_rfl) 2 rfl (by decide) ?_; intro g6 wa9 hg6 hF9 hBa9)
        | (with_reducible refine wpList_store rfl rfl (.tmp 6) (.tmp 51) 88 rfl g6 0 _ 88 2 zPath [.int .i64 255, .slice B 8 cB] rfl rfl 2 rfl (by kernel_rfl) hF9 (by omega) (allOne_out (by kernel_rfl)) wc9 hBa9 hg6 ?_; intro ws9 f6_9 hbs9 ho9_ _; have ho9 := Lib.hid ho9_; clear ho9_; (rw [splice_pa _ _ rfl rfl] at f6_9); have hBr9 := Below.then_ hBc9 hbs9; have ft_9 := ft_8.below hBr9; have hO_9 := hO_8.below hBr9; have f4_9 := f4_8.below hBr9; have hOB2_9 := hOB.below hbs9; have hB_9 := Below.then_ hB_8 hBr9))
      clear hF9 hBa9 ho9 hBr9 hBc9 hbs9 hB_8 hg6 ft_8 hO_8 f4_8
      go_wp2_with fail
      obtain ⟨g', o', heq, _, hSX, _⟩ := hO_9.digs.at_ (k := 255) (by omega)
      obtain ⟨rfl, rfl⟩ : gl = g' ∧ 0 = o' := by simpa using heq
      rw [HXD.out] at hSX
      refine region_L (mn1F gt gl g6 cB B X R) (crJ ws9 8 9 8 83 32 (cb (List.replicate 32 0)) (cb R)) (by kernel_rfl) (by kernel_rfl) (crJ.start _ _ _) ?_ ?_
      · refine ⟨?_, ?_, ?_, ?_, ?_, ?_, ?_, ?_, ?_, ?_, ?_, trivial⟩
        all_goals intro listed a1 w' hk h1 hd
        · have f2_ : a1.eval (.tmp 2) = .slice (some ⟨gl, 0, none⟩) 512 512 := hk.ev_old 2 (by kernel_rfl)
          have g2_ : a1.tmps[2]?.getD undef = .slice (some ⟨gl, 0, none⟩) 512 512 := by simpa [Act.eval] using f2_
          exact stepL_value rfl (v := .slice (some ⟨gl, 0, none⟩) 512 512) (by go_simp) rfl (hk.inv.other 0 54 _ (by decide) (by decide) (by decide) (Below.refl _ _))
        · obtain ⟨y0, e0, q0, rfl, l0⟩ := hk.ev_new hd 0 54 (by kernel_rfl) rfl
          exact stepL_value rfl (run_ixL (.tmp 54) (.const (.int .i64 255)) rfl e0 rfl (j := 255) rfl (by omega) rfl) rfl (hk.inv.other 1 55 _ (by decide) (by decide) (by decide) (Below.refl _ _))
        · obtain ⟨y1, e1, q1, rfl, l1⟩ := hk.ev_new hd 1 55 (by kernel_rfl) rfl
          exact stepL_value rfl (run_load_agg (.tmp 55) 83 rfl e1 (cb X) 32 (by rw [List.length_map]; exact LX.out) (by kernel_rfl) (hSX.step hk.inv.1)) rfl (hk.inv.other 2 56 _ (by decide) (by decide) (by decide) (Below.refl _ _))
        · have f6_ : a1.eval (.tmp 6) = .pointer (some ⟨g6, 0, none⟩) := hk.ev_old 6 (by kernel_rfl)
          have g6_ : a1.tmps[6]?.getD undef = .pointer (some ⟨g6, 0, none⟩) := by simpa [Act.eval] using f6_
          exact stepL_value rfl (run_load_agg (.tmp 6) 88 rfl (hk.ev_old 6 (by kernel_rfl)) [.int .i64 255, .slice B 8 cB] 2 rfl (by kernel_rfl) (f6_9.below hk.inv.1).sees) rfl (hk.inv.other 3 57 _ (by decide) (by decide) (by decide) (Below.refl _ _))
        · have f1_ : a1.eval (.tmp 1) = .pointer (some ⟨gt, 0, none⟩) := hk.ev_old 1 (by kernel_rfl)
          have g1_ : a1.tmps[1]?.getD undef = .pointer (some ⟨gt, 0, none⟩) := by simpa [Act.eval] using f1_
          obtain ⟨y2, e2, q2, rfl, l2⟩ := hk.ev_new hd 2 56 (by kernel_rfl) rfl
          obtain ⟨y3, e3, q3, rfl, l3⟩ := hk.ev_new hd 3 57 (by kernel_rfl) rfl
          refine stepL_enter rfl (f := 43) (args := #[.pointer (some ⟨gt, 0, none⟩), .agg (cb X).toArray, .agg #[.int .i64 255, .slice B 8 cB]]) (by go_simp) ?_
          have ho := QC.out _ _ B cB (HG.out _ gt _ (ft_9.below hk.inv.1)) (hOB2_9.below hk.inv.1).digs
          refine ho.mono ?_
          rintro e w5 ⟨rfl, hB5⟩
          exact ⟨_, rfl, rfl, (hk.inv.other 4 58 _ (by decide) (by decide) (by decide) hB5), fun _ _ h => h⟩
        · obtain ⟨y4, e4, q4, rfl, l4⟩ := hk.ev_new hd 4 58 (by kernel_rfl) rfl
          exact stepL_value rfl (v := .tuple #[.agg (cb R).toArray, .int .i64 0]) (by go_simp) rfl (hk.inv.other 5 53 _ (by decide) (by decide) (by decide) (Below.refl _ _))
        · obtain ⟨y5, e5, q5, rfl, l5⟩ := hk.ev_new hd 5 53 (by kernel_rfl) rfl
          exact stepL_value rfl (v := .agg (cb R).toArray) (by go_simp) rfl (hk.inv.other 6 59 _ (by decide) (by decide) (by decide) (Below.refl _ _))
        · obtain ⟨y5, e5, q5, rfl, l5⟩ := hk.ev_new hd 5 53 (by kernel_rfl) rfl
          exact stepL_value rfl (v := .int .i64 0) (by go_simp) rfl (hk.inv.other 7 60 _ (by decide) (by decide) (by decide) (Below.refl _ _))
        · exact stepL_run rfl (exec_alloc 83 rfl (cb (List.replicate 32 0)) (by kernel_rfl)) trivial (hk.inv.alloc h1 (by rw [hk.size]; exact (by decide : (8 : Nat) < 183)) (by decide) (len_zb 32) (by decide)) (fun _ _ h => h)
        · obtain ⟨y6, e6, q6, rfl, l6⟩ := hk.ev_new hd 6 59 (by kernel_rfl) rfl
          obtain ⟨y8, e8, q8, -, l8⟩ := hk.ev_new hd 8 8 (by kernel_rfl) rfl
          obtain ⟨q, eq, -⟩ := hk.inv.2.1 l8
          rw [q8] at eq
          obtain rfl : y8 = .pointer (some ⟨q, 0, none⟩) := by simpa using eq
          obtain ⟨hF, hJ⟩ := hk.inv.store h1 l8 q8 (by decide) (len_zb 32) (by rw [List.length_map]; exact LR.out)
          exact stepL_skip rfl rfl (run_storeF (.tmp 8) (.tmp 59) rfl (cb (List.replicate 32 0)) (cb R) e8 e6 hF (by rw [List.length_map]; exact LR.out) (by kernel_rfl) (cb_one _)) trivial hJ (fun _ _ h => h)
        · obtain ⟨y7, e7, q7, rfl, l7⟩ := hk.ev_new hd 7 60 (by kernel_rfl) rfl
          exact stepL_value rfl (v := .int .i64 0) (by go_simp) rfl (hk.inv.other 10 9 _ (by decide) (by decide) (by decide) (Below.refl _ _))
      · intro listed a1 w7 hJ hall hp
        obtain ⟨x0, p0, x1, p1, x2, p2, x3, p3, x4, p4, x5, p5, x6, p6, x7, p7, x8, p8, x10, p10, rfl⟩ := hp
        simp only [mn1F] at p0 p1 p2 p3 p4 p5 p6 p7 p8 p10
        obtain ⟨g8, e8_, hF_g8⟩ := hJ.2.1 (hall 8 (by decide))
        rw [hall 9 (by decide)] at hF_g8
        have hb7 := hJ.1
        subst p0 p1 p2 p3 p4 p5 p6 p7 p10
        simp only [Act.put, List.setIfInBounds_toArray, List.set_cons_succ, List.set_cons_zero] at e8_ ⊢
        obtain rfl : x8 = .pointer (some ⟨g8, 0, none⟩) := by simpa using e8_
        clear hJ hall e8_ p8
        have ft_10 := ft_9.below hb7
        have hO_10 := hO_9.below hb7
        have f4_10 := f4_9.below hb7
        have f6_10 := f6_9.below hb7
        have f8_10 := hF_g8
        have hB_10 := Below.then_ hB_9 hb7
        clear hb7 ft_9 hO_9 f4_9 f6_9 hOB2_9 hB_9 hSX
        go_wp2_with (first
          | (go_at_call 41; with_reducible refine (N1.out _ _).mono ?_; rintro e wc11 ⟨rfl, hBc11⟩)
          | (with_reducible refine wpList_alloc (o := ⟨some 10, _, _, _, _, _⟩) rfl 83 rfl (cb (List.replicate 32 0)) (by kernel_rfl) 32 (len_zb 32) (by decide) ?_; intro g10 wa11 hg10 hF11 hBa11)
          | (with_reducible refine wpList_store rfl rfl (.tmp 10) (.tmp 64) 83 rfl g10 0 _ 83 32 (cb (List.replicate 32 0)) (cb (List.replicate 32 0)) rfl rfl 32 (len_zb 32) (by kernel_rfl) hF11 (by omega) (cb_one _) wc11 hBa11 hg10 ?_; intro ws11 f10_11 hbs11 ho11_ _; have ho11 := Lib.hid ho11_; clear ho11_; (rw [splice_32 _ _ List.length_replicate List.length_replicate] at f10_11); have hBr11 := Below.then_ hBc11 hbs11; have ft_11 := ft_10.below hBr11; have hO_11 := hO_10.below hBr11; have f4_11 := f4_10.below hBr11; have f6_11 := f6_10.below hBr11; have f8_11 := f8_10.below hBr11; have hB_11 := Below.then_ hB_10 hBr11))
        clear hF11 hBa11 ho11 hBr11 hBc11 hbs11 hB_10 hg10 ft_10 hO_10 f4_10 f6_10 f8_10
        go_wp2_with (first
          | (go_at_call 42; with_reducible refine (N2.out _ _).mono ?_; rintro e wc12 ⟨rfl, hBc12⟩)
          | (with_reducible refine wpList_alloc (o := ⟨some 12, _, _, _, _, _⟩) rfl 88 rfl zPath (by kernel_rfl) 2 rfl (by decide) ?_; intro g12 wa12 hg12 hF12 hBa12)
          | (with_reducible refine wpList_store rfl rfl (.tmp 12) (.tmp 69) 88 rfl g12 0 _ 88 2 zPath zPath rfl rfl 2 rfl (by kernel_rfl) hF12 (by omega) (allOne_out (by kernel_rfl)) wc12 hBa12 hg12 ?_; intro ws12 f12_12 hbs12 ho12_ _; have ho12 := Lib.hid ho12_; clear ho12_; (rw [splice_pa _ _ rfl rfl] at f12_12); have hBr12 := Below.then_ hBc12 hbs12; have ft_12 := ft_11.below hBr12; have hO_12 := hO_11.below hBr12; have f4_12 := f4_11.below hBr12; have f6_12 := f6_11.below hBr12; have f8_12 := f8_11.below hBr12; have f10_12 := f10_11.below hBr12; have hB_12 := Below.then_ hB_11 hBr12))
        clear hF12 hBa12 ho12 hBr12 hBc12 hbs12 hB_11 hg12 ft_11 hO_11 f4_11 f6_11 f8_11 f10_11
        go_wp2_with (first
          | (go_at_call 42; with_reducible refine (N3.out _ _).mono ?_; rintro e wc13 ⟨rfl, hBc13⟩)
          | (with_reducible refine wpList_alloc (o := ⟨some 14, _, _, _, _, _⟩) rfl 88 rfl zPath (by kernel_rfl) 2 rfl (by decide) ?_; intro g14 wa13 hg14 hF13 hBa13)
          | (with_reducible refine wpList_store rfl rfl (.tmp 14) (.tmp 75) 88 rfl g14 0 _ 88 2 zPath zPath rfl rfl 2 rfl (by kernel_rfl) hF13 (by omega) (allOne_out (by kernel_rfl)) wc13 hBa13 hg14 ?_; intro ws13 f14_13 hbs13 ho13_ _; have ho13 := Lib.hid ho13_; clear ho13_; (rw [splice_pa _ _ rfl rfl] at f14_13); have hBr13 := Below.then_ hBc13 hbs13; have ft_13 := ft_12.below hBr13; have hO_13 := hO_12.below hBr13; have f4_13 := f4_12.below hBr13; have f6_13 := f6_12.below hBr13; have f8_13 := f8_12.below hBr13; have f10_13 := f10_12.below hBr13; have f12_13 := f12_12.below hBr13; have hB_13 := Below.then_ hB_12 hBr13))
        clear hF13 hBa13 ho13 hBr13 hBc13 hbs13 hB_12 hg14 ft_12 hO_12 f4_12 f6_12 f8_12 f10_12 f12_12
        go_wp2_with (first
          | (go_at_call 42; with_reducible refine (N4.out _ _).mono ?_; rintro e wc14 ⟨rfl, hBc14⟩)
          | (with_reducible refine wpList_alloc (o := ⟨some 16, _, _, _, _, _⟩) rfl 88 rfl zPath (by kernel_rfl) 2 rfl (by decide) ?_; intro g16 wa14 hg16 hF14 hBa14)
          | (with_reducible refine wpList_store rfl rfl (.tmp 16) (.tmp 81) 88 rfl g16 0 _ 88 2 zPath zPath rfl rfl 2 rfl (by kernel_rfl) hF14 (by omega) (allOne_out (by kernel_rfl)) wc14 hBa14 hg16 ?_; intro ws14 f16_14 hbs14 ho14_ _; have ho14 := Lib.hid ho14_; clear ho14_; (rw [splice_pa _ _ rfl rfl] at f16_14); have hBr14 := Below.then_ hBc14 hbs14; have ft_14 := ft_13.below hBr14; have hO_14 := hO_13.below hBr14; have f4_14 := f4_13.below hBr14; have f6_14 := f6_13.below hBr14; have f8_14 := f8_13.below hBr14; have f10_14 := f10_13.below hBr14; have f12_14 := f12_13.below hBr14; have f14_14 := f14_13.below hBr14; have hB_14 := Below.then_ hB_13 hBr14))
        clear hF14 hBa14 ho14 hBr14 hBc14 hbs14 hB_13 hg16 ft_13 hO_13 f4_13 f6_13 f8_13 f10_13 f12_13 f14_13
        go_wp2_with (first
          | (go_at_call 42; with_reducible refine (N5.out _ _).mono ?_; rintro e wc15 ⟨rfl, hBc15⟩)
          | (with_reducible refine wpList_alloc (o := ⟨some 18, _, _, _, _, _⟩) rfl 88 rfl zPath (by kernel_rfl) 2 rfl (by decide) ?_; intro g18 wa15 hg18 hF15 hBa15)
          | (with_reducible refine wpList_store rfl rfl (.tmp 18) (.tmp 87) 88 rfl g18 0 _ 88 2 zPath zPath rfl rfl 2 rfl (by kernel_rfl) hF15 (by omega) (allOne_out (by kernel_rfl)) wc15 hBa15 hg18 ?_; intro ws15 f18_15 hbs15 ho15_ _; have ho15 := Lib.hid ho15_; clear ho15_; (rw [splice_pa _ _ rfl rfl] at f18_15); have hBr15 := Below.then_ hBc15 hbs15; have ft_15 := ft_14.below hBr15; have hO_15 := hO_14.below hBr15; have f4_15 := f4_14.below hBr15; have f6_15 := f6_14.below hBr15; have f8_15 := f8_14.below hBr15; have f10_15 := f10_14.below hBr15; have f12_15 := f12_14.below hBr15; have f14_15 := f14_14.below hBr15; have f16_15 := f16_14.below hBr15; have hB_15 := Below.then_ hB_14 hBr15; have hc6 : ws15.cell? ⟨g6, 1, none⟩ = some (.slice B 8 cB) := f6_15.cell_ rfl)
          | (with_reducible refine wpList_load_g (o := ⟨some 96, _, _, _, _, _⟩) (.tmp 8) 83 rfl g8 0 _ rfl (cb R) 32 (by rw [List.length_map]; exact LR.out) (by kernel_rfl) f8_15.sees (wanted_at rfl rfl rfl) ?_; simp only [Act.put, List.setIfInBounds_toArray, List.set_cons_succ, List.set_cons_zero])
          | (with_reducible refine wpList_load_g (o := ⟨some 97, _, _, _, _, _⟩) (.tmp 4) 83 rfl g4 0 _ rfl (cb R) 32 (by rw [List.length_map]; exact LR.out) (by kernel_rfl) f4_15.sees (wanted_at rfl rfl rfl) ?_; simp only [Act.put, List.setIfInBounds_toArray, List.set_cons_succ, List.set_cons_zero])
          | (with_reducible refine wpList_gis (o := ⟨some 98, _, _, _, _, _⟩) rfl (run_neq_of (.tmp 96) (.tmp 97) 83 _ rfl (by kernel_rfl) _ _ rfl rfl (neq_digest R LR.out _)) ?_; simp only [Act.put, List.setIfInBounds_toArray, List.set_cons_succ, List.set_cons_zero]))
        clear hF15 hBa15 ho15 hBr15 hBc15 hbs15 hB_14 hg18 ft_14 hO_14 f4_14 f6_14 f8_14 f10_14 f12_14 f14_14 f16_14
        refine region_M (mnP gl ws15.heap.size) (fun _ _ w_ => Below ws15.heap.size ws15 w_) (by kernel_rfl) (by kernel_rfl) ⟨rfl, rfl, rfl, Nat.le_refl _, fun _ _ => rfl⟩ ?_ ?_
        · refine ⟨?_, ?_, ?_, ?_, ?_, ?_, ?_, ?_, ?_, ?_, ?_, trivial⟩
          all_goals intro listed a1 w' hk h1 hd
          · have hI : Below ws15.heap.size ws15 w' := hk.inv
            exact stepM_value (wanted_noneM rfl) (v := .agg #[.int .i64 (-1), .slice none 0 0]) (by go_simp) rfl hI
          · have hI : Below ws15.heap.size ws15 w' := hk.inv
            exact stepM_value (wanted_noneM rfl) (v := .agg #[.int .i64 1, .slice none 0 0]) (by go_simp) rfl hI
          · have hI : Below ws15.heap.size ws15 w' := hk.inv
            have f2_ : a1.eval (.tmp 2) = .slice (some ⟨gl, 0, none⟩) 512 512 := hk.ev_old 2 (by kernel_rfl)
            have g2_ : a1.tmps[2]?.getD undef = .slice (some ⟨gl, 0, none⟩) 512 512 := by simpa [Act.eval] using f2_
            exact stepM_value (wanted_noneM rfl) (v := .slice (some ⟨gl, 0, none⟩) 512 512) (by go_simp) rfl hI
          · have hI : Below ws15.heap.size ws15 w' := hk.inv
            obtain ⟨y2, e2, q2, rfl, l2⟩ := hk.ev_new hd 2 128 (by kernel_rfl) rfl
            exact stepM_value (wanted_noneM rfl) (v := .slice (some ⟨gl, 0, none⟩) 2 512) (by go_simp) rfl hI
          · have hI : Below ws15.heap.size ws15 w' := hk.inv
            obtain ⟨y3, e3, q3, rfl, l3⟩ := hk.ev_new hd 3 129 (by kernel_rfl) rfl
            exact stepM_value (wanted_noneM rfl) (v := .agg #[.int .i64 4, .slice (some ⟨gl, 0, none⟩) 2 512]) (by go_simp) rfl hI
          · have hI : Below ws15.heap.size ws15 w' := hk.inv
            have f2_ : a1.eval (.tmp 2) = .slice (some ⟨gl, 0, none⟩) 512 512 := hk.ev_old 2 (by kernel_rfl)
            have g2_ : a1.tmps[2]?.getD undef = .slice (some ⟨gl, 0, none⟩) 512 512 := by simpa [Act.eval] using f2_
            exact stepM_value (wanted_noneM rfl) (v := .slice (some ⟨gl, 0, none⟩) 512 512) (by go_simp) rfl hI
          · have hI : Below ws15.heap.size ws15 w' := hk.inv
            obtain ⟨y5, e5, q5, rfl, l5⟩ := hk.ev_new hd 5 131 (by kernel_rfl) rfl
            exact stepM_value (wanted_noneM rfl) (v := .slice (some ⟨gl, 0, none⟩) 9 512) (by go_simp) rfl hI
          · have hI : Below ws15.heap.size ws15 w' := hk.inv
            obtain ⟨y6, e6, q6, rfl, l6⟩ := hk.ev_new hd 6 132 (by kernel_rfl) rfl
            exact stepM_value (wanted_noneM rfl) (v := .agg #[.int .i64 0, .slice (some ⟨gl, 0, none⟩) 9 512]) (by go_simp) rfl hI
          · have hI : Below ws15.heap.size ws15 w' := hk.inv
            obtain ⟨y0, e0, q0, rfl, l0⟩ := hk.ev_new hd 0 126 (by kernel_rfl) rfl
            obtain ⟨y1, e1, q1, rfl, l1⟩ := hk.ev_new hd 1 127 (by kernel_rfl) rfl
            obtain ⟨y4, e4, q4, rfl, l4⟩ := hk.ev_new hd 4 130 (by kernel_rfl) rfl
            obtain ⟨y7, e7, q7, rfl, l7⟩ := hk.ev_new hd 7 133 (by kernel_rfl) rfl
            have hba := below_alloc w' (.cells (pcs (mnps gl)).toArray 88)
            exact stepM_run (wanted_noneM rfl) (exec_bsP (.tmp 126) (.tmp 127) (.tmp 130) (.tmp 133) rfl (-1, none, 0, 0) (1, none, 0, 0) (4, some ⟨gl, 0, none⟩, 2, 512) (0, some ⟨gl, 0, none⟩, 9, 512) e0 e1 e4 e7) ⟨_, rfl, (Fresh.new w' 88 (pcs (mnps gl)) 8 rfl (by omega)).lower hI.size⟩ (hI.trans (hba.mono hI.size)) (mnP_keep hba)
          · have hI : Below ws15.heap.size ws15 w' := hk.inv
            obtain ⟨y8, e8, q8, hy8, l8⟩ := hk.ev_new hd 8 134 (by kernel_rfl) rfl
            obtain ⟨g5, rfl, -⟩ := hy8
            exact stepM_value (wanted_noneM rfl) (v := .int .i64 4) (by go_simp) rfl hI
          · have hI : Below ws15.heap.size ws15 w' := hk.inv
            exact stepM_value (wanted_noneM rfl) (v := .int .i64 0) (by go_simp) rfl hI
        · intro listed a1 w18 hJ hall hp
          have hb18 : Below ws15.heap.size ws15 w18 := hJ
          obtain ⟨x0, p0, x1, p1, x2, p2, x3, p3, x4, p4, x5, p5, x6, p6, x7, p7, x8, p8, x9, p9, x10, p10, rfl⟩ := hp
          simp only [mnP] at p0 p1 p2 p3 p4 p5 p6 p7 p8 p9 p10
          obtain ⟨gq, rfl, hfq⟩ := p8
          subst p0 p1 p2 p3 p4 p5 p6 p7 p9 p10
          simp only [Act.put, List.setIfInBounds_toArray, List.set_cons_succ, List.set_cons_zero]
          clear hJ hall
          have ft_18 := ft_15.below hb18
          have hO_18 := hO_15.below hb18
          have f6_18 := f6_15.below hb18
          have hB_18 := Below.then_ hB_15 hb18
          have HR0 : Hid (∀ w' : World, Calls Try.prog 44 #[.agg #[.int .i64 0, .slice none 0 0]] w' fun e w2 => e = .returned (.bool true) ∧ Below w'.heap.size w' w2) := Lib.hid fun w' => Right_any 0 none 0 0
          have HR8 : Hid (∀ w' : World, Calls Try.prog 44 #[.agg #[.int .i64 255, .slice B 8 cB]] w' fun e w2 => e = .returned (.bool true) ∧ Below w'.heap.size w' w2) := Lib.hid fun w' => Right_any 255 B 8 cB
          clear hb18 ft_15 hO_15 f4_15 f6_15 f8_15 f10_15 f12_15 f14_15 f16_15 f18_15 hB_15
          go_wp2_with fail
          go_loopw [136] (fun iv wr => ∃ k : Nat, k ≤ 4 ∧ iv = .int .i64 (k : Int) ∧ Fresh w.heap.size 79 wr (some ⟨gt, 0, none⟩) 72 72 TL ∧ OwnD w.heap.size wr (some ⟨gl, 0, none⟩) 512 512 ds ∧ Fresh wc9.heap.size 88 wr (some ⟨g6, 0, none⟩) 2 2 [.int .i64 255, .slice B 8 cB] ∧ Fresh ws15.heap.size 88 wr (some ⟨gq, 0, none⟩) 8 8 (pcs (mnps gl)) ∧ Below w.heap.size w wr) (fun iv _ => 4 - (intOf iv).toNat)
          case atStart => exact ⟨0, by omega, rfl, ft_18, hO_18, f6_18, hfq, hB_18⟩
          case round =>
            clear ft_18 hO_18 f6_18 hfq hB_18
            obtain ⟨k, hk, rfl, ft_19, hO_19, f6_19, fq_19, hB_19⟩ := hrel
            by_cases hlt2 : k < 4
            · obtain ⟨lf, Aq, nq, cq, hsee, hrb⟩ : ∃ (lf : Int) (Aq : Option Addr) (nq cq : Nat), Sees wr wr.heap.size (some ⟨gq, 2 * k, none⟩) [.int .i64 lf, .slice Aq nq cq] ∧ rightB lf nq = false := by
                have hs := Sees.of_fresh fq_19 (2 * k) 2
                rcases (by omega : k = 0 ∨ k = 1 ∨ k = 2 ∨ k = 3) with rfl | rfl | rfl | rfl
                · exact ⟨-1, none, 0, 0, hs, by decide⟩
                · exact ⟨1, none, 0, 0, hs, by decide⟩
                · exact ⟨4, some ⟨gl, 0, none⟩, 2, 512, hs, by decide⟩
                · exact ⟨0, some ⟨gl, 0, none⟩, 9, 512, hs, by decide⟩
              have HRB := Lib.hid hrb
              clear hrb
              go_wp2_with (first
                | (with_reducible refine wpList_is (o := ⟨some 139, _, _, _, _, _⟩) (v := .pointer (some ⟨gq, 2 * k, none⟩)) rfl (run_ixP (.tmp 134) (.tmp 136) rfl rfl rfl rfl hlt2 (Nat.zero_add _)) ?_)
                | (with_reducible refine wpList_load (o := ⟨some 140, _, _, _, _, _⟩) rfl (.tmp 139) 88 rfl gq (2 * k) _ rfl [.int .i64 lf, .slice Aq nq cq] 2 rfl (by kernel_rfl) hsee ?_; simp only [Act.put, List.setIfInBounds_toArray, List.set_cons_succ, List.set_cons_zero])
                | (with_reducible refine wpList_alloc (o := ⟨some 21, _, _, _, _, _⟩) rfl 88 rfl zPath (by kernel_rfl) 2 rfl (by decide) ?_; intro g21 w20 hg21 hF21 hB21)
                | (with_reducible refine wpList_store rfl rfl (.tmp 21) (.tmp 140) 88 rfl g21 0 _ 88 2 zPath [.int .i64 lf, .slice Aq nq cq] rfl rfl 2 rfl (by kernel_rfl) hF21 (by omega) (allOne_out (by kernel_rfl)) wr hB21 hg21 ?_; intro w21 f21_20 hb20 ho20_ _; have ho20 := Lib.hid ho20_; clear ho20_; (rw [splice_pa _ _ rfl rfl] at f21_20)))
              have ft_20 := ft_19.below hb20
              have hO_20 := hO_19.below hb20
              have f6_20 := f6_19.below hb20
              have fq_20 := fq_19.below hb20
              have hB_20 := Below.then_ hB_19 hb20
              clear hF21 hB21 hg21 ho20 hb20 ft_19 hO_19 f6_19 fq_19 hB_19 hsee
              obtain ⟨g', o', heq, _, hS0, hL0⟩ := hO_20.digs.at_ (k := 0) (by omega)
              obtain ⟨rfl, rfl⟩ : gl = g' ∧ 0 = o' := by simpa using heq
              obtain ⟨X0, hX0⟩ : ∃ X0, dAt ds 0 = X0 := ⟨_, rfl⟩
              rw [hX0] at hS0 hL0
              have LX0 := Lib.hid hL0
              clear hX0 hL0 heq
              refine region_L (mn2F gt gl g21 nq cq lf Aq X0) (crJ w21 8 9 22 83 32 (cb (List.replicate 32 0)) (cb (List.replicate 32 0))) (by kernel_rfl) (by kernel_rfl) (crJ.start _ _ _) ?_ ?_
              · refine ⟨?_, ?_, ?_, ?_, ?_, ?_, ?_, ?_, ?_, ?_, ?_, trivial⟩
                all_goals intro listed a1 w' hk h1 hd
                · have f2_ : a1.eval (.tmp 2) = .slice (some ⟨gl, 0, none⟩) 512 512 := hk.ev_old 2 (by kernel_rfl)
                  have g2_ : a1.tmps[2]?.getD undef = .slice (some ⟨gl, 0, none⟩) 512 512 := by simpa [Act.eval] using f2_
                  exact stepL_value rfl (v := .slice (some ⟨gl, 0, none⟩) 512 512) (by go_simp) rfl (hk.inv.other 0 142 _ (by decide) (by decide) (by decide) (Below.refl _ _))
                · obtain ⟨y0, e0, q0, rfl, l0⟩ := hk.ev_new hd 0 142 (by kernel_rfl) rfl
                  exact stepL_value rfl (run_ixL (.tmp 142) (.const (.int .i64 0)) rfl e0 rfl (j := 0) rfl (by omega) rfl) rfl (hk.inv.other 1 143 _ (by decide) (by decide) (by decide) (Below.refl _ _))
                · obtain ⟨y1, e1, q1, rfl, l1⟩ := hk.ev_new hd 1 143 (by kernel_rfl) rfl
                  exact stepL_value rfl (run_load_agg (.tmp 143) 83 rfl e1 (cb X0) 32 (by rw [List.length_map]; exact LX0.out) (by kernel_rfl) (hS0.step hk.inv.1)) rfl (hk.inv.other 2 144 _ (by decide) (by decide) (by decide) (Below.refl _ _))
                · have f21_ : a1.eval (.tmp 21) = .pointer (some ⟨g21, 0, none⟩) := hk.ev_old 21 (by kernel_rfl)
                  have g21_ : a1.tmps[21]?.getD undef = .pointer (some ⟨g21, 0, none⟩) := by simpa [Act.eval] using f21_
                  exact stepL_value rfl (run_load_agg (.tmp 21) 88 rfl (hk.ev_old 21 (by kernel_rfl)) [.int .i64 lf, .slice Aq nq cq] 2 rfl (by kernel_rfl) (f21_20.below hk.inv.1).sees) rfl (hk.inv.other 3 145 _ (by decide) (by decide) (by decide) (Below.refl _ _))
                · have f1_ : a1.eval (.tmp 1) = .pointer (some ⟨gt, 0, none⟩) := hk.ev_old 1 (by kernel_rfl)
                  have g1_ : a1.tmps[1]?.getD undef = .pointer (some ⟨gt, 0, none⟩) := by simpa [Act.eval] using f1_
                  obtain ⟨y2, e2, q2, rfl, l2⟩ := hk.ev_new hd 2 144 (by kernel_rfl) rfl
                  obtain ⟨y3, e3, q3, rfl, l3⟩ := hk.ev_new hd 3 145 (by kernel_rfl) rfl
                  refine stepL_enter rfl (f := 43) (args := #[.pointer (some ⟨gt, 0, none⟩), .agg (cb X0).toArray, .agg #[.int .i64 lf, .slice Aq nq cq]]) (by go_simp) ?_
                  have ho := Climb_no (w := w') (T := some ⟨gt, 0, none⟩) X0 LX0.out lf Aq nq cq HRB.out
                  refine ho.mono ?_
                  rintro e w5 ⟨rfl, hB5⟩
                  exact ⟨_, rfl, rfl, (hk.inv.other 4 146 _ (by decide) (by decide) (by decide) hB5), fun _ _ h => h⟩
                · obtain ⟨y4, e4, q4, rfl, l4⟩ := hk.ev_new hd 4 146 (by kernel_rfl) rfl
                  exact stepL_value rfl (v := .tuple #[.agg (cb (List.replicate 32 0)).toArray, .int .i64 2]) (by go_simp) rfl (hk.inv.other 5 141 _ (by decide) (by decide) (by decide) (Below.refl _ _))
                · obtain ⟨y5, e5, q5, rfl, l5⟩ := hk.ev_new hd 5 141 (by kernel_rfl) rfl
                  exact stepL_value rfl (v := .agg (cb (List.replicate 32 0)).toArray) (by go_simp) rfl (hk.inv.other 6 147 _ (by decide) (by decide) (by decide) (Below.refl _ _))
                · obtain ⟨y5, e5, q5, rfl, l5⟩ := hk.ev_new hd 5 141 (by kernel_rfl) rfl
                  exact stepL_value rfl (v := .int .i64 2) (by go_simp) rfl (hk.inv.other 7 148 _ (by decide) (by decide) (by decide) (Below.refl _ _))
                · exact stepL_run rfl (exec_alloc 83 rfl (cb (List.replicate 32 0)) (by kernel_rfl)) trivial (hk.inv.alloc h1 (by rw [hk.size]; exact (by decide : (22 : Nat) < 183)) (by decide) (len_zb 32) (by decide)) (fun _ _ h => h)
                · obtain ⟨y6, e6, q6, rfl, l6⟩ := hk.ev_new hd 6 147 (by kernel_rfl) rfl
                  obtain ⟨y8, e8, q8, -, l8⟩ := hk.ev_new hd 8 22 (by kernel_rfl) rfl
                  obtain ⟨q, eq, -⟩ := hk.inv.2.1 l8
                  rw [q8] at eq
                  obtain rfl : y8 = .pointer (some ⟨q, 0, none⟩) := by simpa using eq
                  obtain ⟨hF, hJ⟩ := hk.inv.store h1 l8 q8 (by decide) (len_zb 32) (len_zb 32)
                  exact stepL_skip rfl rfl (run_storeF (.tmp 22) (.tmp 147) rfl (cb (List.replicate 32 0)) (cb (List.replicate 32 0)) e8 e6 hF (len_zb 32) (by kernel_rfl) (cb_one _)) trivial hJ (fun _ _ h => h)
                · obtain ⟨y7, e7, q7, rfl, l7⟩ := hk.ev_new hd 7 148 (by kernel_rfl) rfl
                  exact stepL_value rfl (v := .int .i64 2) (by go_simp) rfl (hk.inv.other 10 23 _ (by decide) (by decide) (by decide) (Below.refl _ _))
              · intro listed a1 w22 hJ hall hp
                obtain ⟨x0, p0, x1, p1, x2, p2, x3, p3, x4, p4, x5, p5, x6, p6, x7, p7, x8, p8, x10, p10, rfl⟩ := hp
                simp only [mn2F] at p0 p1 p2 p3 p4 p5 p6 p7 p8 p10
                obtain ⟨g22, e8_, hF_g22⟩ := hJ.2.1 (hall 8 (by decide))
                rw [hall 9 (by decide)] at hF_g22
                have hb22 := hJ.1
                subst p0 p1 p2 p3 p4 p5 p6 p7 p10
                simp only [Act.put, List.setIfInBounds_toArray, List.set_cons_succ, List.set_cons_zero] at e8_ ⊢
                obtain rfl : x8 = .pointer (some ⟨g22, 0, none⟩) := by simpa using e8_
                clear hJ hall e8_ p8
                have hB_21 := Below.then_ hB_20 hb22
                have ft_21 := ft_20.below hb22
                have hO_21 := hO_20.below hb22
                have f6_21 := f6_20.below hb22
                have fq_21 := fq_20.below hb22
                have f21_21 := f21_20.below hb22
                have hRb := fun (w' : World) => Right_any lf Aq nq cq (w := w')
                rw [HRB.out] at hRb
                have HRR := Lib.hid hRb
                clear hRb hb22
                go_wp2_with (first
                  | (with_reducible refine wpList_load (o := ⟨some 149, _, _, _, _, _⟩) rfl (.tmp 21) 88 rfl g21 0 _ rfl [.int .i64 lf, .slice Aq nq cq] 2 rfl (by kernel_rfl) f21_21.sees ?_; simp only [Act.put, List.setIfInBounds_toArray, List.set_cons_succ, List.set_cons_zero])
                  | (go_at_call 44; refine (HRR.out _).mono ?_; rintro e w23 ⟨rfl, hb23⟩; have hF_z := hF_g22.below hb23)
                  | (with_reducible refine wpList_load_g (o := ⟨some 152, _, _, _, _, _⟩) (.tmp 22) 83 rfl g22 0 _ rfl (cb (List.replicate 32 0)) 32 (len_zb 32) (by kernel_rfl) hF_z.sees (wanted_at rfl rfl rfl) ?_; simp only [Act.put, List.setIfInBounds_toArray, List.set_cons_succ, List.set_cons_zero])
                  | (with_reducible refine wpList_gis (o := ⟨some 153, _, _, _, _, _⟩) rfl (exec_bz rfl) ?_; simp only [Act.put, List.setIfInBounds_toArray, List.set_cons_succ, List.set_cons_zero])
                  | (with_reducible refine wpList_gis (o := ⟨some 154, _, _, _, _, _⟩) rfl (run_neq_of (.tmp 152) (.tmp 153) 83 _ rfl (by kernel_rfl) _ _ rfl rfl (neq_digest (List.replicate 32 0) List.length_replicate _)) ?_; simp only [Act.put, List.setIfInBounds_toArray, List.set_cons_succ, List.set_cons_zero]))
                go_roundw
                case rel => exact ⟨k + 1, by omega, by go_num, ft_21.below hb23, hO_21.below hb23, f6_21.below hb23, fq_21.below hb23, Below.then_ hB_21 hb23⟩
                case measure => simp [intOf]; omega
            · obtain rfl : k = 4 := by omega
              have ft_24 := ft_19
              have f6_24 := f6_19
              have hB_24 := hB_19
              obtain ⟨g', o', heq, _, hS1, hL1⟩ := hO_19.digs.at_ (k := 1) (by omega)
              obtain ⟨rfl, rfl⟩ : gl = g' ∧ 0 = o' := by simpa using heq
              obtain ⟨g', o', heq2, _, hS2, hL2⟩ := hO_19.digs.at_ (k := 2) (by omega)
              obtain ⟨rfl, rfl⟩ : gl = g' ∧ 0 = o' := by simpa using heq2
              obtain ⟨X1, hX1⟩ : ∃ X1, dAt ds 1 = X1 := ⟨_, rfl⟩
              obtain ⟨X2, hX2⟩ : ∃ X2, dAt ds 2 = X2 := ⟨_, rfl⟩
              rw [hX1] at hS1 hL1
              rw [hX2] at hS2 hL2
              have LX1 := Lib.hid hL1
              have LX2 := Lib.hid hL2
              clear hX1 hX2 hL1 hL2 heq heq2 hlt2 hk
              go_wp2_with fail
              refine region_all_tail 20 (mn3F gl g6 cB B X1 X2) (by kernel_rfl) (by kernel_rfl) (by kernel_rfl) (mn3F_stab _ _ _ _ _ _) ?_ ?_
              · intro w0 hb0
                simp only [List.take_succ_cons, List.take_zero]
                refine ⟨?_, ?_, ?_, ?_, ?_, ?_, ?_, ?_, ?_, ?_, ?_, ?_, ?_, ?_, ?_, ?_, ?_, ?_, ?_, ?_, trivial⟩
                all_goals intro listed a1 w' hk1 hd1
                · exact stepOk_value rfl (exec_bp rfl) rfl
                · obtain ⟨y0, e0, q0, rfl⟩ := hk1.ev_new hd1 0 163 (by kernel_rfl) rfl
                  refine stepOk_enter rfl (f := 44) (args := #[.agg #[.int .i64 0, .slice none 0 0]]) (by go_simp) ?_
                  have ho := HR0.out w'
                  refine ho.mono ?_
                  rintro e w5 ⟨rfl, hB5⟩
                  exact ⟨_, rfl, rfl, hB5⟩
                · obtain ⟨y1, e1, q1, rfl⟩ := hk1.ev_new hd1 1 164 (by kernel_rfl) rfl
                  exact stepOk_value rfl (v := .bool true) (by go_simp) rfl
                · obtain ⟨y2, e2, q2, rfl⟩ := hk1.ev_new hd1 2 165 (by kernel_rfl) rfl
                  have f6_ : a1.eval (.tmp 6) = .pointer (some ⟨g6, 0, none⟩) := hk1.ev_old 6 (by kernel_rfl)
                  have g6_ : a1.tmps[6]?.getD undef = .pointer (some ⟨g6, 0, none⟩) := by simpa [Act.eval] using f6_
                  exact stepOk_valG (wanted_at (t := 165) rfl rfl q2) (run_load_agg (.tmp 6) 88 rfl (hk1.ev_old 6 (by kernel_rfl)) [.int .i64 255, .slice B 8 cB] 2 rfl (by kernel_rfl) ((f6_24.below hb0).below hk1.below).sees) rfl
                · obtain ⟨y2, e2, q2, rfl⟩ := hk1.ev_new hd1 2 165 (by kernel_rfl) rfl
                  obtain ⟨y3, e3, q3, rfl⟩ := hk1.ev_new hd1 3 166 (by kernel_rfl) rfl
                  refine stepOk_enter (wanted_at (t := 165) rfl rfl q2) (f := 44) (args := #[.agg #[.int .i64 255, .slice B 8 cB]]) (by go_simp) ?_
                  have ho := HR8.out w'
                  refine ho.mono ?_
                  rintro e w5 ⟨rfl, hB5⟩
                  exact ⟨_, rfl, rfl, hB5⟩
                · obtain ⟨y2, e2, q2, rfl⟩ := hk1.ev_new hd1 2 165 (by kernel_rfl) rfl
                  obtain ⟨y4, e4, q4, rfl⟩ := hk1.ev_new hd1 4 167 (by kernel_rfl) rfl
                  exact stepOk_value rfl (v := .bool true) (by go_simp) rfl
                · obtain ⟨y5, e5, q5, rfl⟩ := hk1.ev_new hd1 5 168 (by kernel_rfl) rfl
                  exact stepOk_value rfl (v := .bool true) (by go_simp) rfl
                · obtain ⟨y6, e6, q6, rfl⟩ := hk1.ev_new hd1 6 169 (by kernel_rfl) rfl
                  have f2_ : a1.eval (.tmp 2) = .slice (some ⟨gl, 0, none⟩) 512 512 := hk1.ev_old 2 (by kernel_rfl)
                  have g2_ : a1.tmps[2]?.getD undef = .slice (some ⟨gl, 0, none⟩) 512 512 := by simpa [Act.eval] using f2_
                  exact stepOk_valG (wanted_at (t := 169) rfl rfl q6) (v := .slice (some ⟨gl, 0, none⟩) 512 512) (by go_simp) rfl
                · obtain ⟨y6, e6, q6, rfl⟩ := hk1.ev_new hd1 6 169 (by kernel_rfl) rfl
                  obtain ⟨y7, e7, q7, rfl⟩ := hk1.ev_new hd1 7 170 (by kernel_rfl) rfl
                  exact stepOk_valG (wanted_at (t := 169) rfl rfl q6) (run_ixL (.tmp 170) (.const (.int .i64 1)) rfl e7 rfl (j := 1) rfl (by omega) rfl) rfl
                · obtain ⟨y6, e6, q6, rfl⟩ := hk1.ev_new hd1 6 169 (by kernel_rfl) rfl
                  obtain ⟨y8, e8, q8, rfl⟩ := hk1.ev_new hd1 8 171 (by kernel_rfl) rfl
                  exact stepOk_valG (wanted_at (t := 169) rfl rfl q6) (run_load_agg (.tmp 171) 83 rfl e8 (cb X1) 32 (by rw [List.length_map]; exact LX1.out) (by kernel_rfl) ((hS1.step hb0).step hk1.below)) rfl
                · obtain ⟨y6, e6, q6, rfl⟩ := hk1.ev_new hd1 6 169 (by kernel_rfl) rfl
                  have f2_ : a1.eval (.tmp 2) = .slice (some ⟨gl, 0, none⟩) 512 512 := hk1.ev_old 2 (by kernel_rfl)
                  have g2_ : a1.tmps[2]?.getD undef = .slice (some ⟨gl, 0, none⟩) 512 512 := by simpa [Act.eval] using f2_
                  exact stepOk_valG (wanted_at (t := 169) rfl rfl q6) (v := .slice (some ⟨gl, 0, none⟩) 512 512) (by go_simp) rfl
                · obtain ⟨y6, e6, q6, rfl⟩ := hk1.ev_new hd1 6 169 (by kernel_rfl) rfl
                  obtain ⟨y10, e10, q10, rfl⟩ := hk1.ev_new hd1 10 173 (by kernel_rfl) rfl
                  exact stepOk_valG (wanted_at (t := 169) rfl rfl q6) (run_ixL (.tmp 173) (.const (.int .i64 2)) rfl e10 rfl (j := 2) rfl (by omega) rfl) rfl
                · obtain ⟨y6, e6, q6, rfl⟩ := hk1.ev_new hd1 6 169 (by kernel_rfl) rfl
                  obtain ⟨y11, e11, q11, rfl⟩ := hk1.ev_new hd1 11 174 (by kernel_rfl) rfl
                  exact stepOk_valG (wanted_at (t := 169) rfl rfl q6) (run_load_agg (.tmp 174) 83 rfl e11 (cb X2) 32 (by rw [List.length_map]; exact LX2.out) (by kernel_rfl) ((hS2.step hb0).step hk1.below)) rfl
                · obtain ⟨y6, e6, q6, rfl⟩ := hk1.ev_new hd1 6 169 (by kernel_rfl) rfl
                  obtain ⟨y9, e9, q9, rfl⟩ := hk1.ev_new hd1 9 172 (by kernel_rfl) rfl
                  obtain ⟨y12, e12, q12, rfl⟩ := hk1.ev_new hd1 12 175 (by kernel_rfl) rfl
                  refine stepOk_enter (wanted_at (t := 169) rfl rfl q6) (f := 45) (args := #[.pointer none, .agg (cb X1).toArray, .agg (cb X2).toArray]) (by go_simp) ?_
                  have ho := Node_any (OfAt.nil w') X1 X2 LX1.out LX2.out
                  refine ho.mono ?_
                  rintro e w5 ⟨rfl, hB5⟩
                  exact ⟨_, rfl, rfl, hB5⟩
                · obtain ⟨y6, e6, q6, rfl⟩ := hk1.ev_new hd1 6 169 (by kernel_rfl) rfl
                  exact stepOk_valG (wanted_at (t := 169) rfl rfl q6) (exec_bz rfl) rfl
                · obtain ⟨y6, e6, q6, rfl⟩ := hk1.ev_new hd1 6 169 (by kernel_rfl) rfl
                  obtain ⟨y13, e13, q13, rfl⟩ := hk1.ev_new hd1 13 176 (by kernel_rfl) rfl
                  obtain ⟨y14, e14, q14, rfl⟩ := hk1.ev_new hd1 14 177 (by kernel_rfl) rfl
                  exact stepOk_valG (wanted_at (t := 169) rfl rfl q6) (run_eq32b (.tmp 176) (.tmp 177) _ rfl (List.replicate 32 0) (List.replicate 32 0) e13 e14 List.length_replicate List.length_replicate) (by show Value.bool _ = _; simp)
                · obtain ⟨y6, e6, q6, rfl⟩ := hk1.ev_new hd1 6 169 (by kernel_rfl) rfl
                  obtain ⟨y15, e15, q15, rfl⟩ := hk1.ev_new hd1 15 178 (by kernel_rfl) rfl
                  exact stepOk_value rfl (v := .bool true) (by go_simp) rfl
                · obtain ⟨y16, e16, q16, rfl⟩ := hk1.ev_new hd1 16 179 (by kernel_rfl) rfl
                  exact stepOk_value rfl (v := .bool true) (by go_simp) rfl
                · obtain ⟨y17, e17, q17, rfl⟩ := hk1.ev_new hd1 17 180 (by kernel_rfl) rfl
                  refine stepOk_enter (wanted_at (t := 180) rfl rfl q17) (f := 46) (args := #[]) (by go_simp) ?_
                  have ho := awake10_any (w := w')
                  refine ho.mono ?_
                  rintro e w5 ⟨rfl, hB5⟩
                  exact ⟨_, rfl, rfl, hB5⟩
                · obtain ⟨y17, e17, q17, rfl⟩ := hk1.ev_new hd1 17 180 (by kernel_rfl) rfl
                  obtain ⟨y18, e18, q18, rfl⟩ := hk1.ev_new hd1 18 181 (by kernel_rfl) rfl
                  exact stepOk_value rfl (v := .bool true) (by go_simp) rfl
              · intro a1 w7 hb7 hp
                obtain ⟨x0, p0, x1, p1, x2, p2, x3, p3, x4, p4, x5, p5, x6, p6, x7, p7, x8, p8, x9, p9, x10, p10, x11, p11, x12, p12, x13, p13, x14, p14, x15, p15, x16, p16, x17, p17, x18, p18, x19, p19, rfl⟩ := hp
                simp only [mn3F] at p0 p1 p2 p3 p4 p5 p6 p7 p8 p9 p10 p11 p12 p13 p14 p15 p16 p17 p18 p19
                subst p0 p1 p2 p3 p4 p5 p6 p7 p8 p9 p10 p11 p12 p13 p14 p15 p16 p17 p18 p19
                simp only [List.drop_succ_cons, List.drop_zero, Act.put, List.setIfInBounds_toArray, List.set_cons_succ, List.set_cons_zero]
                have hBz := Below.then_ hB_24 hb7
                go_wp2_with fail
                go_ret
                exact ⟨rfl, hBz⟩
theorem nums10_law (W : World) : Calls Try.prog 5 #[] W fun e w' => e = .returned (.bool true) ∧ Below W.heap.size W w' :=
  nums10_walk (cw (firstL ++ keysL)) (by simp; rfl) (cw_one _) (Dg.tabO firstL keysL rfl) (Lib.hid Table_any) (Lib.hid fun w' gt base h => OfAt.of_tab (tabL w' gt 72 base _ h))
end
end Go.Proofs.Ytdpbnppngkamiaa
