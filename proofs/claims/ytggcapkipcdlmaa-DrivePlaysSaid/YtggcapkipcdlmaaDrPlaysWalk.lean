/-
  DrivePlays returns true for every input, and writes nothing that was there: the walk.
-/
import Derived.Test.YtggcapkipcdlmaaRefDrBeside
import Derived.Test.YtggcapkipcdlmaaDrAwake
import Derived.Test.YtggcapkipcdlmaaOpen5
import Derived.Deep.CutBlock
namespace Go.Proofs.Ytggcapkipcdlmaa
open Go.RowKit
set_option linter.unusedVariables false

def dpFacts (p d g gv gx r n c1 c2 m N : Nat) (A1 A2 : Option Addr) (s' a' : Int) (bl : Bool) (vl rl : List Value) (k : Nat) (v : Value) (w : World) : Prop :=
  match k with
  | 0 => v = .int .i64 (r : Int)
  | 1 => v = .int .i64 (r : Int)
  | 2 => v = .bool false
  | 3 => v = .bool false
  | 4 => v = .slice A1 n c1
  | 5 => v = .slice A2 n c2
  | 6 => v = .bool true
  | 7 => v = .bool false
  | 8 => v = .bool false
  | 9 => v = .bool false
  | 10 => v = .pointer (some ⟨d, 0, none⟩)
  | 11 => v = .int .i64 (m : Int)
  | 12 => v = .pointer (some ⟨gv, 1, none⟩)
  | 13 => v = .int .i64 (m : Int)
  | 14 => v = .bool false
  | 15 => v = .bool false
  | 16 => v = .bool false
  | 17 => v = .pointer (some ⟨d, 0, none⟩)
  | 18 => v = .int .i64 (N : Int)
  | 19 => v = .pointer (some ⟨gv, 1, none⟩)
  | 20 => v = .int .i64 (m : Int)
  | 21 => v = .int .i64 (N : Int)
  | 22 => v = .bool false
  | 23 => v = .bool false
  | 24 => v = .bool false
  | 25 => v = .pointer (some ⟨d, 0, none⟩)
  | 26 => v = .pointer (some ⟨gx, 1, none⟩)
  | 27 => v = .int .i64 s'
  | 28 => v = .pointer (some ⟨gx, 2, none⟩)
  | 29 => v = .int .i64 a'
  | 30 => v = .bool bl
  | 31 => v = .agg vl.toArray
  | 32 => v = .agg rl.toArray
  | 33 => v = .pointer (some ⟨gx, 1, none⟩)
  | 34 => v = .int .i64 s'
  | 35 => v = .pointer (some ⟨gx, 2, none⟩)
  | 36 => v = .int .i64 a'
  | 37 => v = .bool bl
  | 38 => v = .bool false
  | 39 => v = .bool false
  | 40 => v = .bool false
  | 41 => v = .pointer (some ⟨p, 0, none⟩)
  | 42 => v = .agg rl.toArray
  | 43 => v = .bool true
  | 44 => v = .bool false
  | 45 => v = .bool false
  | _ => True
theorem dpFacts_stab (p d g gv gx r n c1 c2 m N : Nat) (A1 A2 : Option Addr) (s' a' : Int) (bl : Bool) (vl rl : List Value) : ∀ k v w w', Below w.heap.size w w' → dpFacts p d g gv gx r n c1 c2 m N A1 A2 s' a' bl vl rl k v w → dpFacts p d g gv gx r n c1 c2 m N A1 A2 s' a' bl vl rl k v w' := fun k v w w' _ h => h
theorem SameWords_yes {A B : Option Addr} {c d n : Nat} {l : List UInt32} {w : World} (hs : Sees w w.heap.size A (cw l)) (ht : Sees w w.heap.size B (cw l)) (hl : l.length = n) (hn : n ≤ 1099511627776) :
    Calls Try.prog 50 #[.slice A n c, .slice B n d] w fun e w' => e = .returned (.bool true) ∧ Below w.heap.size w w' := by
  refine (SameWords_any A B c d n n l l w hs ht hl hl hn).mono ?_
  rintro e w' ⟨rfl, k, rfl⟩
  exact ⟨by simp, below_drewN' (Below.refl _ _) k⟩
theorem fresh_v {W w : World} {p b g gb c d gv f m : Nat} {S : Fl} (h : BesideD W w p b g gb c d gv f m S) : w.cell? ⟨gv, 1, none⟩ = some (.int .i64 (m : Int)) := h.v.cell (j := 1) rfl
theorem par2_of {w : World} {B g : Nat} {e : TypeId} {a b : Value} (h : Fresh B e w (some ⟨g, 0, none⟩) 2 2 [a, b]) : w.cell? ⟨g, 0, none⟩ = some a ∧ w.cell? ⟨g, 1, none⟩ = some b := ⟨h.cell (j := 0) rfl, h.cell (j := 1) rfl⟩
set_option maxHeartbeats 32000000 in
set_option maxRecDepth 100000 in
theorem dplays_walk (W : World) (s F M P0 P1 : Int) (hs : -9223372036854775808 ≤ s ∧ s < 9223372036854775808) (hF0 : -9223372036854775808 ≤ F ∧ F < 9223372036854775808) (hM0 : -9223372036854775808 ≤ M ∧ M < 9223372036854775808) (hP0 : -9223372036854775808 ≤ P0 ∧ P0 < 9223372036854775808) (hP1 : -9223372036854775808 ≤ P1 ∧ P1 < 9223372036854775808) (A : Option Addr) (N c : Nat) (l : List Oc) (hl : l.length = N) (hS : Sees W W.heap.size A (ocs l)) (hO : ∀ o ∈ l, o.Ok W.heap.size W) :
    Calls Try.prog 6 #[.int .i64 s, .int .i64 F, .int .i64 M, .agg #[.int .i64 P0, .int .i64 P1], .slice A N c] W fun e w' => e = .returned (.bool true) ∧ Below W.heap.size W w' := by
  have HL := Lib.hid hl
  have HO := Lib.hid hO
  clear hl hO
  by_cases h6 : 6 < s ∨ s < 1
  · clear hF0 hM0 hP0 hP1 hs
    rcases h6 with h6 | h6
    · go_enter Try.func6, Try.ntmps6
      have h1 : decide (s < 1) = false := by simp; omega
      go_wp2_with ((with_reducible refine wpList_box (o := ⟨some 8, _, _, _, _, _⟩) rfl (.tmp 3) 58 rfl [.int .i64 P0, .int .i64 P1] rfl 2 rfl (by decide) ?_); intro g8 w0 hg8 hF8 hB0; have z0 := hB0.size; have lt8 := hF8.lt_size)
      refine (awake5_any _).mono ?_
      rintro e w5 ⟨rfl, hB5⟩
      go_wp2_with fail
      go_ret
      exact ⟨rfl, Below.then_ hB0 hB5⟩
    · go_enter Try.func6, Try.ntmps6
      go_wp2_with ((with_reducible refine wpList_box (o := ⟨some 8, _, _, _, _, _⟩) rfl (.tmp 3) 58 rfl [.int .i64 P0, .int .i64 P1] rfl 2 rfl (by decide) ?_); intro g8 w0 hg8 hF8 hB0; have z0 := hB0.size; have lt8 := hF8.lt_size)
      refine (awake5_any _).mono ?_
      rintro e w5 ⟨rfl, hB5⟩
      go_wp2_with fail
      go_ret
      exact ⟨rfl, Below.then_ hB0 hB5⟩
  · obtain ⟨n0, rfl⟩ := Int.eq_ofNat_of_zero_le (show 0 ≤ s by omega)
    have e0 : ((n0 : Int).tdiv 2) = ((n0 / 2 : Nat) : Int) := by rw [Int.tdiv_eq_ediv_of_nonneg (by omega)]; omega
    have h5 : decide ((n0 : Int) < 1) = false := by simp; omega
    have h7 : decide ((6 : Int) < (n0 : Int)) = false := by simp; omega
    have hn1 : 1 ≤ n0 := by omega
    have hn6 : n0 ≤ 6 := by omega
    have HNW := fun (w : World) => New_yes (w := w) n0 ((n0 / 2 : Nat) : Int) hn1 (by omega) (by omega) (by omega)
    have HRW := fun (w : World) => rNew_yes (w := w) n0 ((n0 / 2 : Nat) : Int) hn1 (by omega) (by omega) (by omega)
    clear hs h6
    go_enter Try.func6, Try.ntmps6
    go_wp2_with ((with_reducible refine wpList_box (o := ⟨some 8, _, _, _, _, _⟩) rfl (.tmp 3) 58 rfl [.int .i64 P0, .int .i64 P1] rfl 2 rfl (by decide) ?_); intro g8 w0 hg8 hF8 hB0; have z0 := hB0.size; have lt8 := hF8.lt_size)
    refine (HNW _).mono ?_
    rintro e w1 ⟨p, b, rfl, hN, hB1⟩
    have z1 := hB1.size
    obtain ⟨lp, lb, lp2, lb2⟩ := hN.lt
    go_wp2_with fail
    refine (HRW _).mono ?_
    rintro e w2 ⟨B0, c0, rfl, hRn, hRow, hB2⟩
    obtain ⟨gb0, rfl, q1, q2⟩ := hRow.spot_ (by omega)
    have z2 := hB2.size
    go_wp2_with (first | ((with_reducible refine wpList_alloc (o := ⟨some 13, _, _, _, _, _⟩) rfl 66 rfl (rnL none 0 0 0 0 false 0) (by kernel_rfl) 5 rfl (by decide) ?_); intro g w3 hg hF hB3; have z3 := hB3.size) | ((with_reducible refine wpList_store rfl rfl (.tmp 13) (.tmp 48) 66 rfl g 0 _ 66 5 (rnL none 0 0 0 0 false 0) ((Fl.made n0 ((n0 / 2 : Nat) : Int)).rL (some ⟨gb0, 0, none⟩) c0) rfl rfl 5 rfl (by kernel_rfl) hF (by omega) (allOne_out (by kernel_rfl)) W (Below.then_ (Below.then_ (Below.then_ hB0 hB1) hB2) hB3) (by omega) ?_); intro w4 hF4 hB4 ho4 hz4))
    have hok0 : (Fl.made n0 ((n0 / 2 : Nat) : Int)).Ok := .inl rfl
    have hN4 : NorAt W.heap.size w4 p b (Fl.made n0 ((n0 / 2 : Nat) : Int)) := by have h3 := ((hN.below hB2).below hB3); have h3 := h3.lower (base' := W.heap.size) (by omega); exact ⟨h3.obj.other (by omega) ho4, h3.row.other (by omega) ho4, h3.ne, h3.n_le, h3.left_le⟩
    have hF4' : Fresh w2.heap.size 66 w4 (some ⟨g, 0, none⟩) 5 5 ((Fl.made n0 ((n0 / 2 : Nat) : Int)).rL (some ⟨gb0, 0, none⟩) c0) := hF4
    have n1 : gb0 ≠ g := by omega
    have hRow4 : Fresh W.heap.size 22 w4 (some ⟨gb0, 0, none⟩) (64 * n0) c0 (cw (Fl.made n0 ((n0 / 2 : Nat) : Int)).ws) := ((hRow.below hB3).lower (by omega)).otherC n1 ho4
    have hJ0 : Beside W w4 p b g gb0 c0 (Fl.made n0 ((n0 / 2 : Nat) : Int)) := ⟨hN4, hF4'.lower (by omega), hRow4, hRn.cap, (by show 1 ≤ n0; omega), by omega, by omega, n1, by omega, by omega, hB4⟩
    have hg84 : Fresh W.heap.size 58 w4 (some ⟨g8, 0, none⟩) 2 2 [.int .i64 P0, .int .i64 P1] := (((hF8.below hB1).below hB2).below hB3).other (by omega) ho4
    have z4 := hB4.size
    generalize hS0 : Fl.made n0 ((n0 / 2 : Nat) : Int) = S0 at *
    have hS0n : S0.n = n0 := by rw [← hS0]; rfl
    have lg0 := hJ0.box.lt_size
    have lgb0 : gb0 < w4.heap.size := by omega
    clear hF hF4 hF4' hN hRow hRn ho4 hB1 hB2 hB3 hB4 hN4 hRow4 hz4 hS0 HNW HRW hF8 hB0
    cases ho : secsOk S0.n F M
    · have HO1 := Open_no hJ0.nor hJ0.n1 F M hF0.2 ho
      have HO2 := fun (w : World) (x : Below w4.heap.size w4 w) => rdOpen_no (hJ0.rn.step x) F M hF0.2 ho
      clear ho hF0 hM0 hP0 hP1
      go_wp2_with fail
      refine HO1.mono ?_
      rintro e w5 ⟨rfl, rfl⟩
      go_wp2_with (with_reducible refine wpList_load (o := ⟨some 58, _, _, _, _, _⟩) rfl (.tmp 13) 66 rfl g 0 _ rfl (S0.rL (some ⟨gb0, 0, none⟩) c0) 5 rfl (by kernel_rfl) hJ0.box.sees ?_)
      refine (HO2 _ (Below.refl _ _)).mono ?_
      rintro e w6 ⟨rfl, hB6⟩
      have z6 := hB6.size
      go_wp2_with (first | ((with_reducible refine wpList_alloc (o := ⟨some 17, _, _, _, _, _⟩) rfl 73 rfl (rdL 0 0) (by kernel_rfl) 2 rfl (by decide) ?_); intro gv w7 hgv hFv hB7; have z7 := hB7.size) | ((with_reducible refine wpList_store rfl rfl (.tmp 17) (.tmp 62) 73 rfl gv 0 _ 73 2 (rdL 0 0) (rdL 0 0) rfl rfl 2 rfl (by kernel_rfl) hFv (by omega) (allOne_out (by kernel_rfl)) W (Below.then_ hJ0.below (Below.then_ hB6 hB7)) (by omega) ?_); intro w8 hF9 hB8 ho8 hz8))
      refine (awake5_any _).mono ?_
      rintro e w5 ⟨rfl, hB5⟩
      go_wp2_with fail
      go_ret
      exact ⟨rfl, Below.then_ hB8 hB5⟩
    · obtain ⟨f, m, rfl, rfl, hfm, hm1⟩ := secsOk_out ho
      have HO1 := Open_yes_at hJ0.nor f m hfm hm1
      have HO2 := fun (w : World) (x : Below w4.heap.size w4 w) => rdOpen_yes (hJ0.rn.step x) f m hfm hm1
      clear ho hF0 hM0
      go_wp2_with fail
      refine HO1.mono ?_
      rintro e w5 ⟨d, rfl, hD5, hB5⟩
      have z5 := hB5.size
      have hJ5 := hJ0.step hB5
      go_wp2_with (with_reducible refine wpList_load (o := ⟨some 58, _, _, _, _, _⟩) rfl (.tmp 13) 66 rfl g 0 _ rfl (S0.rL (some ⟨gb0, 0, none⟩) c0) 5 rfl (by kernel_rfl) hJ5.box.sees ?_)
      refine (HO2 _ hB5).mono ?_
      rintro e w6 ⟨rfl, hB6⟩
      have z6 := hB6.size
      have hJ6 := hJ5.step hB6
      go_upto_region 9 with (first | ((with_reducible refine wpList_alloc (o := ⟨some 17, _, _, _, _, _⟩) rfl 73 rfl (rdL 0 0) (by kernel_rfl) 2 rfl (by decide) ?_); intro gv w7 hgv hFv hB7; have z7 := hB7.size) | ((with_reducible refine wpList_store rfl rfl (.tmp 17) (.tmp 62) 73 rfl gv 0 _ 73 2 (rdL 0 0) (rdL (f : Int) (m : Int)) rfl rfl 2 rfl (by kernel_rfl) hFv (by omega) (allOne_out (by kernel_rfl)) W (Below.then_ hJ6.below hB7) (by omega) ?_); intro w8 hF8 hB8 ho8 hz8))
      have hF8' : Fresh w6.heap.size 73 w8 (some ⟨gv, 0, none⟩) 2 2 (rdL (f : Int) (m : Int)) := hF8
      have hB68 : Below w6.heap.size w6 w8 := below_of hJ6.below hB8 (by omega) fun k hk => (ho8 k (by omega)).trans (hB7.block k hk)
      have hG8 := ((hg84.below hB5).below hB6).below hB68
      have ld2 := hD5.block.2
      have hJ8 : BesideD W w8 p b g gb0 c0 d gv f m S0 := ⟨hJ6.step hB68, ((hD5.below hB6).below hB68).lower (by omega), hF8'.lower (by omega), hfm, hm1, by omega, by omega, by omega, by omega⟩
      have z8 := hB8.size
      obtain ⟨c80, c81⟩ := par2_of hG8
      obtain ⟨rP, bo, x, y, hrb, hxy, HP, HR⟩ := Part_two hJ8 P0 P1 hP0.2
      clear hD5 hB5 hB6 hB7 hB8 hFv ho8 hz8 hJ6 hJ5 hJ0 hF8 hF8' HO1 HO2 hP0 hP1 hg84
      go_wp2_with fail
      refine HP.mono ?_
      rintro e w9 ⟨q, rfl, hq1, hq2, hB9⟩
      have hJ9 := hJ8.step hB9
      have z9 := hB9.size
      obtain ⟨c90, c91⟩ := par2_of (hG8.below hB9)
      have hqn : ∀ w', (binOp .neq 69 (.pointer q) (.pointer none)).run Try.prog w' = .ok (.bool bo) w' := by
        intro w'
        cases bo
        · obtain rfl := hq2 rfl
          go_simp
        · obtain ⟨d2, rfl, -⟩ := hq1 rfl
          go_simp
      go_wp2_with (with_reducible refine wpList_load (o := ⟨some 107, _, _, _, _, _⟩) rfl (.tmp 17) 73 rfl gv 0 _ rfl (rdL (f : Int) (m : Int)) 2 rfl (by kernel_rfl) hJ9.v.sees ?_)
      refine (HR _).mono ?_
      rintro e w10 ⟨rfl, hB10⟩
      have z10 := hB10.size
      go_upto_if 126 with (first | ((with_reducible refine wpList_alloc (o := ⟨some 21, _, _, _, _, _⟩) rfl 73 rfl (rdL 0 0) (by kernel_rfl) 2 rfl (by decide) ?_); intro gq w11 hgq hFq hB11; have z11 := hB11.size) | ((with_reducible refine wpList_store rfl rfl (.tmp 21) (.tmp 113) 73 rfl gq 0 _ 73 2 (rdL 0 0) (rdL (x : Int) (y : Int)) rfl rfl 2 rfl (by kernel_rfl) hFq (by omega) (allOne_out (by kernel_rfl)) W (Below.then_ hJ9.bs.below (Below.then_ hB10 hB11)) (by omega) ?_); intro w12 hF12 hB12 ho12 hz12))
      have hB912 : Below w9.heap.size w9 w12 := below_of hJ9.bs.below hB12 (by omega) fun k hk => (ho12 k (by omega)).trans ((Below.then_ hB10 hB11).block k hk)
      have hJ12 := hJ9.step hB912
      have lgv := hJ9.v.lt_size
      have hF12' : Fresh w10.heap.size 73 w12 (some ⟨gq, 0, none⟩) 2 2 (rdL (x : Int) (y : Int)) := hF12
      have hq1' : bo = true → ∃ d2, q = some ⟨d2, 0, none⟩ ∧ Fresh w8.heap.size 146 w12 (some ⟨d2, 0, none⟩) 4 4 (drObj d2 p x y) := fun e => by
        obtain ⟨d2, e2, h2⟩ := hq1 e
        exact ⟨d2, e2, h2.below hB912⟩
      have lgg8 := hJ8.bs.box.lt_size
      have lgv8 := hJ8.v.lt_size
      have lgb8 : gb0 ≠ gv := by omega
      clear hJ8 hJ9 hB9 hB10 hB11 hB12 hF12 hFq ho12 hz12 HP HR hq1 hqn c90 c91 hG8
      go_cut [15, 19] from 97 to 128 (fun u u2 wx => ∃ d2 f2 m2 : Nat, u = .pointer (some ⟨d2, 0, none⟩) ∧ BesideD W wx p b g gb0 c0 d2 gv f2 m2 S0)
      case first =>
        as_aux_lemma =>
          cases bo
          · go_wp2_with fail
            go_meet
            case rel => exact ⟨d, f, m, rfl, hJ12⟩
          · obtain ⟨d2, rfl, hD12⟩ := hq1' rfl
            obtain ⟨hx1, hx2, hx3⟩ := hxy rfl
            go_wp2_with fail
            obtain ⟨cq0, cq1⟩ := par2_of hF12'
            refine region_qtail 3 (by kernel_rfl) (by kernel_rfl) ?_
            simp only [List.take_succ_cons, List.take_zero, List.drop_succ_cons, List.drop_zero]
            repeat (go_big_quiet_step (fail))
            refine wpQuiet_nil ?_
            rintro _ ⟨nq, rfl⟩
            have hJq := hJ12.step (below_drewN' (Below.refl w12.heap.size w12) nq)
            have hvq := hJq.v
            go_wp2_with ((with_reducible refine wpList_store rfl rfl (.tmp 17) (.tmp 128) 73 rfl gv 0 W.heap.size 73 2 (rdL (f : Int) (m : Int)) (rdL (x : Int) (y : Int)) rfl rfl 2 rfl (by kernel_rfl) hvq (by omega) (allOne_out (by kernel_rfl)) W hJq.bs.below (by omega) ?_); intro w13 hF13 hB13 ho13 hz13)
            go_meet
            case rel =>
              have hb := hJq.bs
              have ld9 := hD12.block.2
              have hfit : f + m ≤ S0.n := hJ12.fits
              have ngb := lgb8
              have nd : d2 ≠ gv := by omega
              have ndg : d2 ≠ g := by omega
              exact ⟨d2, x, y, rfl, ⟨⟨hb.nor.obj.other (Ne.symm hJq.vp) ho13, hb.nor.row.other (Ne.symm hJq.vb) ho13, hb.nor.ne, hb.nor.n_le, hb.nor.left_le⟩, hb.box.other (Ne.symm hJq.vg) ho13, hb.row.otherC ngb ho13, hb.cap, hb.n1, hb.gp, hb.gbb, hb.gg, hb.hp, hb.hb, hB13⟩, ((hD12.below (below_drewN' (Below.refl _ _) nq)).other nd ho13).lower (by omega), hF13, by omega, hx3, ndg, hJq.vg, hJq.vp, hJq.vb⟩
      case rest =>
        obtain ⟨d0, f0, m0, rfl, hJc⟩ := hcut
        have zc := hJc.bs.below.size
        clear hJ12 hF12' hq1' hrb hxy lgb8 hq2 hB912 lgv lgg8 lgv8 z11 hgq z10 z9 c80 c81 z8 ld2 hB68 z7 hgv z6 z5 hm1 hfm lg0 lgb0 hn1 hn6 e0 h5 h7 hS0n
        go_wp2_with fail
        go_loopw [23] (fun i wr => ∃ (k gb c2 : Nat) (S : Fl), k ≤ N ∧ k ≤ 50 ∧ i = .int .i64 (k : Int) ∧ BesideD W wr p b g gb c2 d0 gv f0 m0 S ∧ S.Ok) (fun i _ => 51 - (intOf i).toNat)
        case atStart => exact ⟨0, gb0, c0, _, by omega, by omega, rfl, hJc, hok0⟩
        case round =>
          obtain ⟨k, gb, c2, S, hk, hk2, rfl, hJ, hok⟩ := hrel
          clear hJc hok0
          by_cases hlt : k < N
          · by_cases hlt2 : k < 50
            · obtain ⟨u, o, rfl, hu, x, HX, hx⟩ := (hS.below hJ.bs.below).op HL.out hlt
              have hxo := (HO.out x (List.mem_of_getElem? HX.out)).below hJ.bs.below
              have HX1 := hxo.sees
              have HX2 := Lib.hid hxo.len
              have HX3 := hxo.sees2
              have HX4 := Lib.hid hxo.len2
              have HX5 := Lib.hid hxo.hs
              have HX6 := Lib.hid hxo.ha
              have HX7 := Lib.hid hxo.cap
              obtain ⟨k', s', a', A', m', d', l', B', q', e', ks'⟩ := x
              simp only at HX1 HX2 HX3 HX4 HX5 HX6 HX7
              clear HX hxo
              have hW0 := hJ.bs.below.size
              by_cases hm7 : 200 < m'
              · as_aux_lemma =>
                  go_wp2_with (first | (with_reducible refine wpList_load (o := ⟨some 142, _, _, _, _, _⟩) rfl (.tmp 141) 80 rfl u (o + k * 5) W.heap.size rfl (Oc.cells ⟨k', s', a', A', m', d', l', B', q', e', ks'⟩) 5 rfl (by kernel_rfl) hx ?_) | ((with_reducible refine wpList_alloc (o := ⟨some 24, _, _, _, _, _⟩) rfl 80 rfl (Oc.cells ⟨0, 0, 0, none, 0, 0, [], none, 0, 0, []⟩) (by kernel_rfl) 5 rfl (by decide) ?_); intro gx w3 hgx hFx hB3) | ((with_reducible refine wpList_store rfl rfl (.tmp 24) (.tmp 142) 80 rfl gx 0 _ 80 5 _ (Oc.cells ⟨k', s', a', A', m', d', l', B', q', e', ks'⟩) rfl rfl 5 rfl (by kernel_rfl) hFx (by omega) (allOne_out (by kernel_rfl)) wr hB3 hgx ?_); intro w4 hF4 hB4 ho4 hz4; have hX4 : Fresh wr.heap.size 80 w4 (some ⟨gx, 0, none⟩) 5 5 (Oc.cells ⟨k', s', a', A', m', d', l', B', q', e', ks'⟩) := hF4; have f0_ : w4.cell? ⟨gx, 0, none⟩ = some (.int .i64 k') := hX4.cell (j := 0) rfl; have f1_ : w4.cell? ⟨gx, 1, none⟩ = some (.int .i64 s') := hX4.cell (j := 1) rfl; have f2_ : w4.cell? ⟨gx, 2, none⟩ = some (.int .i64 a') := hX4.cell (j := 2) rfl; have f3_ : w4.cell? ⟨gx, 3, none⟩ = some (.slice A' m' d') := hX4.cell (j := 3) rfl; have f4_ : w4.cell? ⟨gx, 4, none⟩ = some (.slice B' q' e') := hX4.cell (j := 4) rfl))
                  have hJ4 := hJ.step hB4
                  obtain ⟨lp4, lb4, lp5, lb5⟩ := hJ.bs.nor.lt
                  have lg4 := hJ.bs.box.lt_size
                  have ngp : gx ≠ p := by omega
                  have ngb : gx ≠ b := by omega
                  have ngg : gx ≠ g := by omega
                  have HX14 := HX1.below (hB4.mono hW0)
                  have HX34 := HX3.below (hB4.mono hW0)
                  have hW4 := hJ4.bs.below.size
                  have hX4' := hX4.lower (base' := W.heap.size) hW0
                  clear hF4 hFx hB3 ho4 hz4
                  go_wp2_with fail
                  go_roundw
                  case rel => exact ⟨k + 1, gb, c2, S, by omega, by omega, by go_num, hJ4, hok⟩
                  case measure => simp [intOf]; omega
              by_cases hq1 : 100 < q'
              · as_aux_lemma =>
                  go_wp2_with (first | (with_reducible refine wpList_load (o := ⟨some 142, _, _, _, _, _⟩) rfl (.tmp 141) 80 rfl u (o + k * 5) W.heap.size rfl (Oc.cells ⟨k', s', a', A', m', d', l', B', q', e', ks'⟩) 5 rfl (by kernel_rfl) hx ?_) | ((with_reducible refine wpList_alloc (o := ⟨some 24, _, _, _, _, _⟩) rfl 80 rfl (Oc.cells ⟨0, 0, 0, none, 0, 0, [], none, 0, 0, []⟩) (by kernel_rfl) 5 rfl (by decide) ?_); intro gx w3 hgx hFx hB3) | ((with_reducible refine wpList_store rfl rfl (.tmp 24) (.tmp 142) 80 rfl gx 0 _ 80 5 _ (Oc.cells ⟨k', s', a', A', m', d', l', B', q', e', ks'⟩) rfl rfl 5 rfl (by kernel_rfl) hFx (by omega) (allOne_out (by kernel_rfl)) wr hB3 hgx ?_); intro w4 hF4 hB4 ho4 hz4; have hX4 : Fresh wr.heap.size 80 w4 (some ⟨gx, 0, none⟩) 5 5 (Oc.cells ⟨k', s', a', A', m', d', l', B', q', e', ks'⟩) := hF4; have f0_ : w4.cell? ⟨gx, 0, none⟩ = some (.int .i64 k') := hX4.cell (j := 0) rfl; have f1_ : w4.cell? ⟨gx, 1, none⟩ = some (.int .i64 s') := hX4.cell (j := 1) rfl; have f2_ : w4.cell? ⟨gx, 2, none⟩ = some (.int .i64 a') := hX4.cell (j := 2) rfl; have f3_ : w4.cell? ⟨gx, 3, none⟩ = some (.slice A' m' d') := hX4.cell (j := 3) rfl; have f4_ : w4.cell? ⟨gx, 4, none⟩ = some (.slice B' q' e') := hX4.cell (j := 4) rfl))
                  have hJ4 := hJ.step hB4
                  obtain ⟨lp4, lb4, lp5, lb5⟩ := hJ.bs.nor.lt
                  have lg4 := hJ.bs.box.lt_size
                  have ngp : gx ≠ p := by omega
                  have ngb : gx ≠ b := by omega
                  have ngg : gx ≠ g := by omega
                  have HX14 := HX1.below (hB4.mono hW0)
                  have HX34 := HX3.below (hB4.mono hW0)
                  have hW4 := hJ4.bs.below.size
                  have hX4' := hX4.lower (base' := W.heap.size) hW0
                  clear hF4 hFx hB3 ho4 hz4
                  go_wp2_with fail
                  go_roundw
                  case rel => exact ⟨k + 1, gb, c2, S, by omega, by omega, by go_num, hJ4, hok⟩
                  case measure => simp [intOf]; omega
              by_cases ha1 : 1000 < a'
              · as_aux_lemma =>
                  go_wp2_with (first | (with_reducible refine wpList_load (o := ⟨some 142, _, _, _, _, _⟩) rfl (.tmp 141) 80 rfl u (o + k * 5) W.heap.size rfl (Oc.cells ⟨k', s', a', A', m', d', l', B', q', e', ks'⟩) 5 rfl (by kernel_rfl) hx ?_) | ((with_reducible refine wpList_alloc (o := ⟨some 24, _, _, _, _, _⟩) rfl 80 rfl (Oc.cells ⟨0, 0, 0, none, 0, 0, [], none, 0, 0, []⟩) (by kernel_rfl) 5 rfl (by decide) ?_); intro gx w3 hgx hFx hB3) | ((with_reducible refine wpList_store rfl rfl (.tmp 24) (.tmp 142) 80 rfl gx 0 _ 80 5 _ (Oc.cells ⟨k', s', a', A', m', d', l', B', q', e', ks'⟩) rfl rfl 5 rfl (by kernel_rfl) hFx (by omega) (allOne_out (by kernel_rfl)) wr hB3 hgx ?_); intro w4 hF4 hB4 ho4 hz4; have hX4 : Fresh wr.heap.size 80 w4 (some ⟨gx, 0, none⟩) 5 5 (Oc.cells ⟨k', s', a', A', m', d', l', B', q', e', ks'⟩) := hF4; have f0_ : w4.cell? ⟨gx, 0, none⟩ = some (.int .i64 k') := hX4.cell (j := 0) rfl; have f1_ : w4.cell? ⟨gx, 1, none⟩ = some (.int .i64 s') := hX4.cell (j := 1) rfl; have f2_ : w4.cell? ⟨gx, 2, none⟩ = some (.int .i64 a') := hX4.cell (j := 2) rfl; have f3_ : w4.cell? ⟨gx, 3, none⟩ = some (.slice A' m' d') := hX4.cell (j := 3) rfl; have f4_ : w4.cell? ⟨gx, 4, none⟩ = some (.slice B' q' e') := hX4.cell (j := 4) rfl))
                  have hJ4 := hJ.step hB4
                  obtain ⟨lp4, lb4, lp5, lb5⟩ := hJ.bs.nor.lt
                  have lg4 := hJ.bs.box.lt_size
                  have ngp : gx ≠ p := by omega
                  have ngb : gx ≠ b := by omega
                  have ngg : gx ≠ g := by omega
                  have HX14 := HX1.below (hB4.mono hW0)
                  have HX34 := HX3.below (hB4.mono hW0)
                  have hW4 := hJ4.bs.below.size
                  have hX4' := hX4.lower (base' := W.heap.size) hW0
                  clear hF4 hFx hB3 ho4 hz4
                  go_wp2_with fail
                  go_roundw
                  case rel => exact ⟨k + 1, gb, c2, S, by omega, by omega, by go_num, hJ4, hok⟩
                  case measure => simp [intOf]; omega
              go_upto_block 2 with (first | (with_reducible refine wpList_load (o := ⟨some 142, _, _, _, _, _⟩) rfl (.tmp 141) 80 rfl u (o + k * 5) W.heap.size rfl (Oc.cells ⟨k', s', a', A', m', d', l', B', q', e', ks'⟩) 5 rfl (by kernel_rfl) hx ?_) | ((with_reducible refine wpList_alloc (o := ⟨some 24, _, _, _, _, _⟩) rfl 80 rfl (Oc.cells ⟨0, 0, 0, none, 0, 0, [], none, 0, 0, []⟩) (by kernel_rfl) 5 rfl (by decide) ?_); intro gx w3 hgx hFx hB3) | ((with_reducible refine wpList_store rfl rfl (.tmp 24) (.tmp 142) 80 rfl gx 0 _ 80 5 _ (Oc.cells ⟨k', s', a', A', m', d', l', B', q', e', ks'⟩) rfl rfl 5 rfl (by kernel_rfl) hFx (by omega) (allOne_out (by kernel_rfl)) wr hB3 hgx ?_); intro w4 hF4 hB4 ho4 hz4; have hX4 : Fresh wr.heap.size 80 w4 (some ⟨gx, 0, none⟩) 5 5 (Oc.cells ⟨k', s', a', A', m', d', l', B', q', e', ks'⟩) := hF4; have f0_ : w4.cell? ⟨gx, 0, none⟩ = some (.int .i64 k') := hX4.cell (j := 0) rfl; have f1_ : w4.cell? ⟨gx, 1, none⟩ = some (.int .i64 s') := hX4.cell (j := 1) rfl; have f2_ : w4.cell? ⟨gx, 2, none⟩ = some (.int .i64 a') := hX4.cell (j := 2) rfl; have f3_ : w4.cell? ⟨gx, 3, none⟩ = some (.slice A' m' d') := hX4.cell (j := 3) rfl; have f4_ : w4.cell? ⟨gx, 4, none⟩ = some (.slice B' q' e') := hX4.cell (j := 4) rfl))
              have hJ4 := hJ.step hB4
              obtain ⟨lp4, lb4, lp5, lb5⟩ := hJ.bs.nor.lt
              have lg4 := hJ.bs.box.lt_size
              have ngp : gx ≠ p := by omega
              have ngb : gx ≠ b := by omega
              have ngg : gx ≠ g := by omega
              have HX14 := HX1.below (hB4.mono hW0)
              have HX34 := HX3.below (hB4.mono hW0)
              have hW4 := hJ4.bs.below.size
              have hX4' := hX4.lower (base' := W.heap.size) hW0
              clear hF4 hFx hB3 ho4 hz4
              go_cut [25, 26, 27, 28] from 129 to 303 (fun x y va vb wx => ∃ (gb3 c3 : Nat) (T : Fl) (r n1 c1 c2 : Nat) (A1 A2 : Option Addr) (L : List UInt32), x = .int .i64 (r : Int) ∧ y = .int .i64 (r : Int) ∧ va = .slice A1 n1 c1 ∧ vb = .slice A2 n1 c2 ∧ Sees wx wx.heap.size A1 (cw L) ∧ Sees wx wx.heap.size A2 (cw L) ∧ L.length = n1 ∧ n1 ≤ 1099511627776 ∧ BesideD W wx p b g gb3 c3 d0 gv f0 m0 T ∧ T.Ok ∧ Fresh W.heap.size 80 wx (some ⟨gx, 0, none⟩) 5 5 (Oc.cells ⟨k', s', a', A', m', d', l', B', q', e', ks'⟩))
              case first =>
                go_wp2_with fail
                · as_aux_lemma =>
                  obtain ⟨T, r, hr⟩ : ∃ T r, S.dwrite f0 m0 s' l' = (T, r) := ⟨_, _, rfl⟩
                  have hTn : T.n = S.n ∧ T.Ok := by
                    obtain rfl : (S.dwrite f0 m0 s' l').1 = T := by rw [hr]
                    exact hok.same (S.dwrite_half f0 m0 s' l').1 (S.dwrite_half f0 m0 s' l').2
                  have HR := Lib.hid hr
                  clear hr
                  refine (dWrite_any hJ4.at_ s' HX5.out.2 m' d' A' l' (Off.of hJ4.bs.nor hW4 HX14) HX2.out HX7.out T r HR.out).mono ?_
                  rintro e w5 ⟨rfl, hD5, hx5⟩
                  obtain ⟨hBx5, hRn5, hBel5, lp, lb, lg, hWg⟩ := hJ4.bs.half hx5
                  have hV5 := hJ4.half hx5
                  have hX5 := hX4'.but hx5 ngp ngb; have y0 : w5.cell? ⟨gx, 0, none⟩ = some (.int .i64 k') := hX5.cell (j := 0) rfl; have y1 : w5.cell? ⟨gx, 1, none⟩ = some (.int .i64 s') := hX5.cell (j := 1) rfl; have y2 : w5.cell? ⟨gx, 2, none⟩ = some (.int .i64 a') := hX5.cell (j := 2) rfl; have y3 : w5.cell? ⟨gx, 3, none⟩ = some (.slice A' m' d') := hX5.cell (j := 3) rfl; have y4 : w5.cell? ⟨gx, 4, none⟩ = some (.slice B' q' e') := hX5.cell (j := 4) rfl
                  have HX15 := (HX14.below (hx5.below lp5 lb5 hW4)).more (Nat.le_trans hW4 hx5.size)
                  have HX35 := (HX34.below (hx5.below lp5 lb5 hW4)).more (Nat.le_trans hW4 hx5.size)
                  clear f0_ f1_ f2_ f3_ f4_ hX4 hB4
                  go_wp2_with (first | (with_reducible refine wpList_load (o := ⟨some 172, _, _, _, _, _⟩) rfl (.tmp 17) 73 rfl gv 0 _ rfl (rdL (f0 : Int) (m0 : Int)) 2 rfl (by kernel_rfl) hV5.sees ?_) | (with_reducible refine wpList_load (o := ⟨some 173, _, _, _, _, _⟩) rfl (.tmp 13) 66 rfl g 0 _ rfl (S.rL (some ⟨gb, 0, none⟩) c2) 5 rfl (by kernel_rfl) hBx5.sees ?_))
                  refine (rdWrite_any hRn5 hJ4.bs.nor.left_le f0 m0 hJ4.fits s' HX5.out.2 A' m' d' HX7.out (by omega) l' HX15 HX2.out T r HR.out).mono ?_
                  rintro e w6 ⟨B2, c3, rfl, hT6, hB6⟩
                  have hF6 := hBx5.below hB6
                  have hB06 := Below.then_ hBel5 hB6
                  go_wp2_with ((with_reducible refine wpList_store rfl rfl (.tmp 13) (.tmp 179) 66 rfl g 0 W.heap.size 66 5 (S.rL (some ⟨gb, 0, none⟩) c2) (T.rL B2 c3) rfl rfl 5 rfl (by kernel_rfl) hF6 (by omega) (allOne_out (by kernel_rfl)) W hB06 hWg ?_); intro w7 hF7 hB7 ho7 hz7)
                  obtain ⟨gb2, rfl, hJ7⟩ := hJ4.then_ hx5 hD5.nor hTn.1 hT6 hB6 hF7 ho7 hB7
                  have hX7 := (hX5.below hB6).other ngg ho7
                  go_meet
                  case rel => exact ⟨gb2, c3, T, r, 0, 0, 0, none, none, [], rfl, rfl, rfl, rfl, Sees.nil, Sees.nil, rfl, by omega, hJ7, hTn.2, hX7⟩
                · as_aux_lemma =>
                  obtain ⟨T, r, hr⟩ : ∃ T r, S.dwrite f0 m0 s' l' = (T, r) := ⟨_, _, rfl⟩
                  have hTn : T.n = S.n ∧ T.Ok := by
                    obtain rfl : (S.dwrite f0 m0 s' l').1 = T := by rw [hr]
                    exact hok.same (S.dwrite_half f0 m0 s' l').1 (S.dwrite_half f0 m0 s' l').2
                  have HR := Lib.hid hr
                  clear hr
                  refine (dWrite_any hJ4.at_ s' HX5.out.2 m' d' A' l' (Off.of hJ4.bs.nor hW4 HX14) HX2.out HX7.out T r HR.out).mono ?_
                  rintro e w5 ⟨rfl, hD5, hx5⟩
                  obtain ⟨hBx5, hRn5, hBel5, lp, lb, lg, hWg⟩ := hJ4.bs.half hx5
                  have hV5 := hJ4.half hx5
                  have hX5 := hX4'.but hx5 ngp ngb; have y0 : w5.cell? ⟨gx, 0, none⟩ = some (.int .i64 k') := hX5.cell (j := 0) rfl; have y1 : w5.cell? ⟨gx, 1, none⟩ = some (.int .i64 s') := hX5.cell (j := 1) rfl; have y2 : w5.cell? ⟨gx, 2, none⟩ = some (.int .i64 a') := hX5.cell (j := 2) rfl; have y3 : w5.cell? ⟨gx, 3, none⟩ = some (.slice A' m' d') := hX5.cell (j := 3) rfl; have y4 : w5.cell? ⟨gx, 4, none⟩ = some (.slice B' q' e') := hX5.cell (j := 4) rfl
                  have HX15 := (HX14.below (hx5.below lp5 lb5 hW4)).more (Nat.le_trans hW4 hx5.size)
                  have HX35 := (HX34.below (hx5.below lp5 lb5 hW4)).more (Nat.le_trans hW4 hx5.size)
                  clear f0_ f1_ f2_ f3_ f4_ hX4 hB4
                  go_wp2_with (first | (with_reducible refine wpList_load (o := ⟨some 172, _, _, _, _, _⟩) rfl (.tmp 17) 73 rfl gv 0 _ rfl (rdL (f0 : Int) (m0 : Int)) 2 rfl (by kernel_rfl) hV5.sees ?_) | (with_reducible refine wpList_load (o := ⟨some 173, _, _, _, _, _⟩) rfl (.tmp 13) 66 rfl g 0 _ rfl (S.rL (some ⟨gb, 0, none⟩) c2) 5 rfl (by kernel_rfl) hBx5.sees ?_))
                  refine (rdWrite_any hRn5 hJ4.bs.nor.left_le f0 m0 hJ4.fits s' HX5.out.2 A' m' d' HX7.out (by omega) l' HX15 HX2.out T r HR.out).mono ?_
                  rintro e w6 ⟨B2, c3, rfl, hT6, hB6⟩
                  have hF6 := hBx5.below hB6
                  have hB06 := Below.then_ hBel5 hB6
                  go_wp2_with ((with_reducible refine wpList_store rfl rfl (.tmp 13) (.tmp 179) 66 rfl g 0 W.heap.size 66 5 (S.rL (some ⟨gb, 0, none⟩) c2) (T.rL B2 c3) rfl rfl 5 rfl (by kernel_rfl) hF6 (by omega) (allOne_out (by kernel_rfl)) W hB06 hWg ?_); intro w7 hF7 hB7 ho7 hz7)
                  obtain ⟨gb2, rfl, hJ7⟩ := hJ4.then_ hx5 hD5.nor hTn.1 hT6 hB6 hF7 ho7 hB7
                  have hX7 := (hX5.below hB6).other ngg ho7
                  go_meet
                  case rel => exact ⟨gb2, c3, T, r, 0, 0, 0, none, none, [], rfl, rfl, rfl, rfl, Sees.nil, Sees.nil, rfl, by omega, hJ7, hTn.2, hX7⟩
                · as_aux_lemma =>
                  obtain ⟨T, r, hr⟩ : ∃ T r, S.dwrite f0 m0 s' l' = (T, r) := ⟨_, _, rfl⟩
                  have hTn : T.n = S.n ∧ T.Ok := by
                    obtain rfl : (S.dwrite f0 m0 s' l').1 = T := by rw [hr]
                    exact hok.same (S.dwrite_half f0 m0 s' l').1 (S.dwrite_half f0 m0 s' l').2
                  have HR := Lib.hid hr
                  clear hr
                  refine (dWrite_any hJ4.at_ s' HX5.out.2 m' d' A' l' (Off.of hJ4.bs.nor hW4 HX14) HX2.out HX7.out T r HR.out).mono ?_
                  rintro e w5 ⟨rfl, hD5, hx5⟩
                  obtain ⟨hBx5, hRn5, hBel5, lp, lb, lg, hWg⟩ := hJ4.bs.half hx5
                  have hV5 := hJ4.half hx5
                  have hX5 := hX4'.but hx5 ngp ngb; have y0 : w5.cell? ⟨gx, 0, none⟩ = some (.int .i64 k') := hX5.cell (j := 0) rfl; have y1 : w5.cell? ⟨gx, 1, none⟩ = some (.int .i64 s') := hX5.cell (j := 1) rfl; have y2 : w5.cell? ⟨gx, 2, none⟩ = some (.int .i64 a') := hX5.cell (j := 2) rfl; have y3 : w5.cell? ⟨gx, 3, none⟩ = some (.slice A' m' d') := hX5.cell (j := 3) rfl; have y4 : w5.cell? ⟨gx, 4, none⟩ = some (.slice B' q' e') := hX5.cell (j := 4) rfl
                  have HX15 := (HX14.below (hx5.below lp5 lb5 hW4)).more (Nat.le_trans hW4 hx5.size)
                  have HX35 := (HX34.below (hx5.below lp5 lb5 hW4)).more (Nat.le_trans hW4 hx5.size)
                  clear f0_ f1_ f2_ f3_ f4_ hX4 hB4
                  go_wp2_with (first | (with_reducible refine wpList_load (o := ⟨some 172, _, _, _, _, _⟩) rfl (.tmp 17) 73 rfl gv 0 _ rfl (rdL (f0 : Int) (m0 : Int)) 2 rfl (by kernel_rfl) hV5.sees ?_) | (with_reducible refine wpList_load (o := ⟨some 173, _, _, _, _, _⟩) rfl (.tmp 13) 66 rfl g 0 _ rfl (S.rL (some ⟨gb, 0, none⟩) c2) 5 rfl (by kernel_rfl) hBx5.sees ?_))
                  refine (rdWrite_any hRn5 hJ4.bs.nor.left_le f0 m0 hJ4.fits s' HX5.out.2 A' m' d' HX7.out (by omega) l' HX15 HX2.out T r HR.out).mono ?_
                  rintro e w6 ⟨B2, c3, rfl, hT6, hB6⟩
                  have hF6 := hBx5.below hB6
                  have hB06 := Below.then_ hBel5 hB6
                  go_wp2_with ((with_reducible refine wpList_store rfl rfl (.tmp 13) (.tmp 179) 66 rfl g 0 W.heap.size 66 5 (S.rL (some ⟨gb, 0, none⟩) c2) (T.rL B2 c3) rfl rfl 5 rfl (by kernel_rfl) hF6 (by omega) (allOne_out (by kernel_rfl)) W hB06 hWg ?_); intro w7 hF7 hB7 ho7 hz7)
                  obtain ⟨gb2, rfl, hJ7⟩ := hJ4.then_ hx5 hD5.nor hTn.1 hT6 hB6 hF7 ho7 hB7
                  have hX7 := (hX5.below hB6).other ngg ho7
                  go_meet
                  case rel => exact ⟨gb2, c3, T, r, 0, 0, 0, none, none, [], rfl, rfl, rfl, rfl, Sees.nil, Sees.nil, rfl, by omega, hJ7, hTn.2, hX7⟩
                · as_aux_lemma =>
                  obtain ⟨T, r, hr⟩ : ∃ T r, S.dwrite f0 m0 s' l' = (T, r) := ⟨_, _, rfl⟩
                  have hTn : T.n = S.n ∧ T.Ok := by
                    obtain rfl : (S.dwrite f0 m0 s' l').1 = T := by rw [hr]
                    exact hok.same (S.dwrite_half f0 m0 s' l').1 (S.dwrite_half f0 m0 s' l').2
                  have HR := Lib.hid hr
                  clear hr
                  refine (dWrite_any hJ4.at_ s' HX5.out.2 m' d' A' l' (Off.of hJ4.bs.nor hW4 HX14) HX2.out HX7.out T r HR.out).mono ?_
                  rintro e w5 ⟨rfl, hD5, hx5⟩
                  obtain ⟨hBx5, hRn5, hBel5, lp, lb, lg, hWg⟩ := hJ4.bs.half hx5
                  have hV5 := hJ4.half hx5
                  have hX5 := hX4'.but hx5 ngp ngb; have y0 : w5.cell? ⟨gx, 0, none⟩ = some (.int .i64 k') := hX5.cell (j := 0) rfl; have y1 : w5.cell? ⟨gx, 1, none⟩ = some (.int .i64 s') := hX5.cell (j := 1) rfl; have y2 : w5.cell? ⟨gx, 2, none⟩ = some (.int .i64 a') := hX5.cell (j := 2) rfl; have y3 : w5.cell? ⟨gx, 3, none⟩ = some (.slice A' m' d') := hX5.cell (j := 3) rfl; have y4 : w5.cell? ⟨gx, 4, none⟩ = some (.slice B' q' e') := hX5.cell (j := 4) rfl
                  have HX15 := (HX14.below (hx5.below lp5 lb5 hW4)).more (Nat.le_trans hW4 hx5.size)
                  have HX35 := (HX34.below (hx5.below lp5 lb5 hW4)).more (Nat.le_trans hW4 hx5.size)
                  clear f0_ f1_ f2_ f3_ f4_ hX4 hB4
                  go_wp2_with (first | (with_reducible refine wpList_load (o := ⟨some 172, _, _, _, _, _⟩) rfl (.tmp 17) 73 rfl gv 0 _ rfl (rdL (f0 : Int) (m0 : Int)) 2 rfl (by kernel_rfl) hV5.sees ?_) | (with_reducible refine wpList_load (o := ⟨some 173, _, _, _, _, _⟩) rfl (.tmp 13) 66 rfl g 0 _ rfl (S.rL (some ⟨gb, 0, none⟩) c2) 5 rfl (by kernel_rfl) hBx5.sees ?_))
                  refine (rdWrite_any hRn5 hJ4.bs.nor.left_le f0 m0 hJ4.fits s' HX5.out.2 A' m' d' HX7.out (by omega) l' HX15 HX2.out T r HR.out).mono ?_
                  rintro e w6 ⟨B2, c3, rfl, hT6, hB6⟩
                  have hF6 := hBx5.below hB6
                  have hB06 := Below.then_ hBel5 hB6
                  go_wp2_with ((with_reducible refine wpList_store rfl rfl (.tmp 13) (.tmp 179) 66 rfl g 0 W.heap.size 66 5 (S.rL (some ⟨gb, 0, none⟩) c2) (T.rL B2 c3) rfl rfl 5 rfl (by kernel_rfl) hF6 (by omega) (allOne_out (by kernel_rfl)) W hB06 hWg ?_); intro w7 hF7 hB7 ho7 hz7)
                  obtain ⟨gb2, rfl, hJ7⟩ := hJ4.then_ hx5 hD5.nor hTn.1 hT6 hB6 hF7 ho7 hB7
                  have hX7 := (hX5.below hB6).other ngg ho7
                  go_meet
                  case rel => exact ⟨gb2, c3, T, r, 0, 0, 0, none, none, [], rfl, rfl, rfl, rfl, Sees.nil, Sees.nil, rfl, by omega, hJ7, hTn.2, hX7⟩
                · as_aux_lemma =>
                  obtain ⟨T, r, hr⟩ : ∃ T r, S.derase f0 m0 s' = (T, r) := ⟨_, _, rfl⟩
                  have hTn : T.n = S.n ∧ T.Ok := by
                    obtain rfl : (S.derase f0 m0 s').1 = T := by rw [hr]
                    exact S.derase_ok f0 m0 s' hok
                  have HR := Lib.hid hr
                  clear hr
                  refine (dErase_any hJ4.at_ s' HX5.out.2 T r HR.out hTn.1).mono ?_
                  rintro e w5 ⟨rfl, hD5, hx5⟩
                  obtain ⟨hBx5, hRn5, hBel5, lp, lb, lg, hWg⟩ := hJ4.bs.half hx5
                  have hV5 := hJ4.half hx5
                  have hX5 := hX4'.but hx5 ngp ngb; have y0 : w5.cell? ⟨gx, 0, none⟩ = some (.int .i64 k') := hX5.cell (j := 0) rfl; have y1 : w5.cell? ⟨gx, 1, none⟩ = some (.int .i64 s') := hX5.cell (j := 1) rfl; have y2 : w5.cell? ⟨gx, 2, none⟩ = some (.int .i64 a') := hX5.cell (j := 2) rfl; have y3 : w5.cell? ⟨gx, 3, none⟩ = some (.slice A' m' d') := hX5.cell (j := 3) rfl; have y4 : w5.cell? ⟨gx, 4, none⟩ = some (.slice B' q' e') := hX5.cell (j := 4) rfl
                  have HX15 := (HX14.below (hx5.below lp5 lb5 hW4)).more (Nat.le_trans hW4 hx5.size)
                  have HX35 := (HX34.below (hx5.below lp5 lb5 hW4)).more (Nat.le_trans hW4 hx5.size)
                  clear f0_ f1_ f2_ f3_ f4_ hX4 hB4
                  go_wp2_with (first | (with_reducible refine wpList_load (o := ⟨some 188, _, _, _, _, _⟩) rfl (.tmp 17) 73 rfl gv 0 _ rfl (rdL (f0 : Int) (m0 : Int)) 2 rfl (by kernel_rfl) hV5.sees ?_) | (with_reducible refine wpList_load (o := ⟨some 189, _, _, _, _, _⟩) rfl (.tmp 13) 66 rfl g 0 _ rfl (S.rL (some ⟨gb, 0, none⟩) c2) 5 rfl (by kernel_rfl) hBx5.sees ?_))
                  refine (rdErase_any hRn5 hJ4.bs.nor.left_le f0 m0 hJ4.small s' HX5.out.2 T r HR.out).mono ?_
                  rintro e w6 ⟨B2, c3, rfl, hT6, hB6⟩
                  have hF6 := hBx5.below hB6
                  have hB06 := Below.then_ hBel5 hB6
                  go_wp2_with ((with_reducible refine wpList_store rfl rfl (.tmp 13) (.tmp 193) 66 rfl g 0 W.heap.size 66 5 (S.rL (some ⟨gb, 0, none⟩) c2) (T.rL B2 c3) rfl rfl 5 rfl (by kernel_rfl) hF6 (by omega) (allOne_out (by kernel_rfl)) W hB06 hWg ?_); intro w7 hF7 hB7 ho7 hz7)
                  obtain ⟨gb2, rfl, hJ7⟩ := hJ4.then_ hx5 hD5.nor hTn.1 hT6 hB6 hF7 ho7 hB7
                  have hX7 := (hX5.below hB6).other ngg ho7
                  go_meet
                  case rel => exact ⟨gb2, c3, T, r, 0, 0, 0, none, none, [], rfl, rfl, rfl, rfl, Sees.nil, Sees.nil, rfl, by omega, hJ7, hTn.2, hX7⟩
                · as_aux_lemma =>
                  obtain ⟨r, hr⟩ : ∃ r, S.dreadE m0 s' a' = r := ⟨_, rfl⟩
                  obtain ⟨L, hL⟩ : ∃ L, S.dreadL f0 m0 s' a' = L := ⟨_, rfl⟩
                  have HR := Lib.hid hr
                  have HRL := Lib.hid hL
                  clear hr hL
                  refine (dRead_tells hJ4.at_ s' a' HX5.out.2 (by omega) L HRL.out r HR.out).mono ?_
                  rintro e w5 ⟨A1, n1, c1, rfl, hs1, hl1, hn1', hB5⟩
                  have hJ5 := hJ4.step hB5
                  have hX5 := hX4'.below hB5
                  have y1 : w5.cell? ⟨gx, 1, none⟩ = some (.int .i64 s') := hX5.cell (j := 1) rfl
                  have y2 : w5.cell? ⟨gx, 2, none⟩ = some (.int .i64 a') := hX5.cell (j := 2) rfl
                  have HL1 := Lib.hid hl1
                  clear hl1
                  go_wp2_with (first | (with_reducible refine wpList_load (o := ⟨some 207, _, _, _, _, _⟩) rfl (.tmp 17) 73 rfl gv 0 _ rfl (rdL (f0 : Int) (m0 : Int)) 2 rfl (by kernel_rfl) hJ5.v.sees ?_) | (with_reducible refine wpList_load (o := ⟨some 208, _, _, _, _, _⟩) rfl (.tmp 13) 66 rfl g 0 _ rfl (S.rL (some ⟨gb, 0, none⟩) c2) 5 rfl (by kernel_rfl) hJ5.bs.box.sees ?_))
                  refine (rdRead_tells hJ5.bs.rn f0 m0 hJ5.fits s' a' HX5.out.2 L HRL.out r HR.out).mono ?_
                  rintro e w6 ⟨A2, n2, c2', rfl, hs2, hl2, hB6⟩
                  obtain rfl : n1 = n2 := by rw [← hl2]; exact HL1.out.symm
                  go_wp2_with fail
                  go_meet
                  case rel => exact ⟨gb, c2, S, r, n1, c1, c2', A1, A2, L, rfl, rfl, rfl, rfl, hs1.step hB6, hs2, hl2, hn1', hJ5.step hB6, hok, hX5.below hB6⟩
                · as_aux_lemma =>
                  obtain ⟨T, hT⟩ : ∃ T, S.arm a' = T := ⟨_, rfl⟩
                  have hTn := Fl.arm_ok hok a'
                  rw [hT] at hTn
                  have hAr := Arm_any hJ4.bs.nor a' (by have := HX6.out; omega)
                  rw [hT] at hAr
                  refine hAr.mono ?_
                  rintro e w5 ⟨rfl, hN5, hx5⟩
                  obtain ⟨hBx5, hRn5, hBel5, lp, lb, lg, hWg⟩ := hJ4.bs.half hx5
                  have hV5 := hJ4.half hx5
                  have hX5 := hX4'.but hx5 ngp ngb; have y0 : w5.cell? ⟨gx, 0, none⟩ = some (.int .i64 k') := hX5.cell (j := 0) rfl; have y1 : w5.cell? ⟨gx, 1, none⟩ = some (.int .i64 s') := hX5.cell (j := 1) rfl; have y2 : w5.cell? ⟨gx, 2, none⟩ = some (.int .i64 a') := hX5.cell (j := 2) rfl; have y3 : w5.cell? ⟨gx, 3, none⟩ = some (.slice A' m' d') := hX5.cell (j := 3) rfl; have y4 : w5.cell? ⟨gx, 4, none⟩ = some (.slice B' q' e') := hX5.cell (j := 4) rfl
                  have HX15 := (HX14.below (hx5.below lp5 lb5 hW4)).more (Nat.le_trans hW4 hx5.size)
                  have HX35 := (HX34.below (hx5.below lp5 lb5 hW4)).more (Nat.le_trans hW4 hx5.size)
                  clear f0_ f1_ f2_ f3_ f4_ hX4 hB4
                  go_wp2_with (first | (with_reducible refine wpList_load (o := ⟨some 222, _, _, _, _, _⟩) rfl (.tmp 13) 66 rfl g 0 _ rfl (S.rL (some ⟨gb, 0, none⟩) c2) 5 rfl (by kernel_rfl) hBx5.sees ?_))
                  have hAr2 := rArm_any (A := some ⟨gb, 0, none⟩) (c := c2) a' S w5
                  rw [hT] at hAr2
                  refine hAr2.mono ?_
                  rintro e w6 ⟨rfl, hB6⟩
                  have hT6 := arm_to hRn5 hB6 a' hT
                  have hF6 := hBx5.below hB6
                  have hB06 := Below.then_ hBel5 hB6
                  go_wp2_with ((with_reducible refine wpList_store rfl rfl (.tmp 13) (.tmp 225) 66 rfl g 0 W.heap.size 66 5 (S.rL (some ⟨gb, 0, none⟩) c2) (T.rL (some ⟨gb, 0, none⟩) c2) rfl rfl 5 rfl (by kernel_rfl) hF6 (by omega) (allOne_out (by kernel_rfl)) W hB06 hWg ?_); intro w7 hF7 hB7 ho7 hz7)
                  obtain ⟨gb2, eB, hJ7⟩ := hJ4.then_ hx5 hN5 hTn.1 hT6 hB6 hF7 ho7 hB7
                  have hX7 := (hX5.below hB6).other ngg ho7
                  go_meet
                  case rel => exact ⟨gb2, c2, T, 0, 0, 0, 0, none, none, [], rfl, rfl, rfl, rfl, Sees.nil, Sees.nil, rfl, by omega, hJ7, hTn.2, hX7⟩
                · as_aux_lemma =>
                  obtain ⟨T, hT⟩ : ∃ T, S.crash ks' = T := ⟨_, rfl⟩
                  have hTn := Fl.crash_ok S ks'
                  rw [hT] at hTn
                  have hAr := Crash_any hJ4.bs.nor hok B' q' e' ks' hW4 HX34 HX4.out
                  rw [hT] at hAr
                  refine hAr.mono ?_
                  rintro e w5 ⟨rfl, hN5, hx5⟩
                  obtain ⟨hBx5, hRn5, hBel5, lp, lb, lg, hWg⟩ := hJ4.bs.half hx5
                  have hV5 := hJ4.half hx5
                  have hX5 := hX4'.but hx5 ngp ngb; have y0 : w5.cell? ⟨gx, 0, none⟩ = some (.int .i64 k') := hX5.cell (j := 0) rfl; have y1 : w5.cell? ⟨gx, 1, none⟩ = some (.int .i64 s') := hX5.cell (j := 1) rfl; have y2 : w5.cell? ⟨gx, 2, none⟩ = some (.int .i64 a') := hX5.cell (j := 2) rfl; have y3 : w5.cell? ⟨gx, 3, none⟩ = some (.slice A' m' d') := hX5.cell (j := 3) rfl; have y4 : w5.cell? ⟨gx, 4, none⟩ = some (.slice B' q' e') := hX5.cell (j := 4) rfl
                  have HX15 := (HX14.below (hx5.below lp5 lb5 hW4)).more (Nat.le_trans hW4 hx5.size)
                  have HX35 := (HX34.below (hx5.below lp5 lb5 hW4)).more (Nat.le_trans hW4 hx5.size)
                  clear f0_ f1_ f2_ f3_ f4_ hX4 hB4
                  go_wp2_with (first | (with_reducible refine wpList_load (o := ⟨some 233, _, _, _, _, _⟩) rfl (.tmp 13) 66 rfl g 0 _ rfl (S.rL (some ⟨gb, 0, none⟩) c2) 5 rfl (by kernel_rfl) hBx5.sees ?_))
                  have hAr2 := rCrash_any hRn5 hok hJ4.bs.n1 B' q' e' (by omega) ks' HX35 HX4.out
                  rw [hT] at hAr2
                  refine hAr2.mono ?_
                  rintro e w6 ⟨B2, c3, rfl, hT6, hB6⟩
                  have hF6 := hBx5.below hB6
                  have hB06 := Below.then_ hBel5 hB6
                  go_wp2_with ((with_reducible refine wpList_store rfl rfl (.tmp 13) (.tmp 236) 66 rfl g 0 W.heap.size 66 5 (S.rL (some ⟨gb, 0, none⟩) c2) (T.rL B2 c3) rfl rfl 5 rfl (by kernel_rfl) hF6 (by omega) (allOne_out (by kernel_rfl)) W hB06 hWg ?_); intro w7 hF7 hB7 ho7 hz7)
                  obtain ⟨gb2, rfl, hJ7⟩ := hJ4.then_ hx5 hN5 hTn.1 hT6 hB6 hF7 ho7 hB7
                  have hX7 := (hX5.below hB6).other ngg ho7
                  go_meet
                  case rel => exact ⟨gb2, c3, T, 0, 0, 0, 0, none, none, [], rfl, rfl, rfl, rfl, Sees.nil, Sees.nil, rfl, by omega, hJ7, hTn.2, hX7⟩
                · as_aux_lemma =>
                  obtain ⟨T, hT⟩ : ∃ T, S.crash ks' = T := ⟨_, rfl⟩
                  have hTn := Fl.crash_ok S ks'
                  rw [hT] at hTn
                  have hAr := Crash_any hJ4.bs.nor hok B' q' e' ks' hW4 HX34 HX4.out
                  rw [hT] at hAr
                  refine hAr.mono ?_
                  rintro e w5 ⟨rfl, hN5, hx5⟩
                  obtain ⟨hBx5, hRn5, hBel5, lp, lb, lg, hWg⟩ := hJ4.bs.half hx5
                  have hV5 := hJ4.half hx5
                  have hX5 := hX4'.but hx5 ngp ngb; have y0 : w5.cell? ⟨gx, 0, none⟩ = some (.int .i64 k') := hX5.cell (j := 0) rfl; have y1 : w5.cell? ⟨gx, 1, none⟩ = some (.int .i64 s') := hX5.cell (j := 1) rfl; have y2 : w5.cell? ⟨gx, 2, none⟩ = some (.int .i64 a') := hX5.cell (j := 2) rfl; have y3 : w5.cell? ⟨gx, 3, none⟩ = some (.slice A' m' d') := hX5.cell (j := 3) rfl; have y4 : w5.cell? ⟨gx, 4, none⟩ = some (.slice B' q' e') := hX5.cell (j := 4) rfl
                  have HX15 := (HX14.below (hx5.below lp5 lb5 hW4)).more (Nat.le_trans hW4 hx5.size)
                  have HX35 := (HX34.below (hx5.below lp5 lb5 hW4)).more (Nat.le_trans hW4 hx5.size)
                  clear f0_ f1_ f2_ f3_ f4_ hX4 hB4
                  go_wp2_with (first | (with_reducible refine wpList_load (o := ⟨some 233, _, _, _, _, _⟩) rfl (.tmp 13) 66 rfl g 0 _ rfl (S.rL (some ⟨gb, 0, none⟩) c2) 5 rfl (by kernel_rfl) hBx5.sees ?_))
                  have hAr2 := rCrash_any hRn5 hok hJ4.bs.n1 B' q' e' (by omega) ks' HX35 HX4.out
                  rw [hT] at hAr2
                  refine hAr2.mono ?_
                  rintro e w6 ⟨B2, c3, rfl, hT6, hB6⟩
                  have hF6 := hBx5.below hB6
                  have hB06 := Below.then_ hBel5 hB6
                  go_wp2_with ((with_reducible refine wpList_store rfl rfl (.tmp 13) (.tmp 236) 66 rfl g 0 W.heap.size 66 5 (S.rL (some ⟨gb, 0, none⟩) c2) (T.rL B2 c3) rfl rfl 5 rfl (by kernel_rfl) hF6 (by omega) (allOne_out (by kernel_rfl)) W hB06 hWg ?_); intro w7 hF7 hB7 ho7 hz7)
                  obtain ⟨gb2, rfl, hJ7⟩ := hJ4.then_ hx5 hN5 hTn.1 hT6 hB6 hF7 ho7 hB7
                  have hX7 := (hX5.below hB6).other ngg ho7
                  go_meet
                  case rel => exact ⟨gb2, c3, T, 0, 0, 0, 0, none, none, [], rfl, rfl, rfl, rfl, Sees.nil, Sees.nil, rfl, by omega, hJ7, hTn.2, hX7⟩
                · as_aux_lemma =>
                  obtain ⟨T, r, hr⟩ : ∃ T r, S.rewrite a' s' l' = (T, r) := ⟨_, _, rfl⟩
                  have hTn := Fl.rewrite_ok hok hr
                  have HR := Lib.hid hr
                  clear hr
                  refine (Rewrite_any hJ4.bs.nor a' s' HX5.out m' d' A' l' hW4 HX14 HX2.out T r HR.out).mono ?_
                  rintro e w5 ⟨rfl, hN5, hx5⟩
                  obtain ⟨hBx5, hRn5, hBel5, lp, lb, lg, hWg⟩ := hJ4.bs.half hx5
                  have hV5 := hJ4.half hx5
                  have hX5 := hX4'.but hx5 ngp ngb; have y0 : w5.cell? ⟨gx, 0, none⟩ = some (.int .i64 k') := hX5.cell (j := 0) rfl; have y1 : w5.cell? ⟨gx, 1, none⟩ = some (.int .i64 s') := hX5.cell (j := 1) rfl; have y2 : w5.cell? ⟨gx, 2, none⟩ = some (.int .i64 a') := hX5.cell (j := 2) rfl; have y3 : w5.cell? ⟨gx, 3, none⟩ = some (.slice A' m' d') := hX5.cell (j := 3) rfl; have y4 : w5.cell? ⟨gx, 4, none⟩ = some (.slice B' q' e') := hX5.cell (j := 4) rfl
                  have HX15 := (HX14.below (hx5.below lp5 lb5 hW4)).more (Nat.le_trans hW4 hx5.size)
                  have HX35 := (HX34.below (hx5.below lp5 lb5 hW4)).more (Nat.le_trans hW4 hx5.size)
                  clear f0_ f1_ f2_ f3_ f4_ hX4 hB4
                  go_wp2_with (first | (with_reducible refine wpList_load (o := ⟨some 248, _, _, _, _, _⟩) rfl (.tmp 13) 66 rfl g 0 _ rfl (S.rL (some ⟨gb, 0, none⟩) c2) 5 rfl (by kernel_rfl) hBx5.sees ?_))
                  refine (rRewrite_any hRn5 a' s' HX5.out m' d' (by omega) A' l' HX15 HX2.out T r HR.out).mono ?_
                  rintro e w6 ⟨B2, c3, rfl, hT6, hB6⟩
                  have hF6 := hBx5.below hB6
                  have hB06 := Below.then_ hBel5 hB6
                  go_wp2_with ((with_reducible refine wpList_store rfl rfl (.tmp 13) (.tmp 256) 66 rfl g 0 W.heap.size 66 5 (S.rL (some ⟨gb, 0, none⟩) c2) (T.rL B2 c3) rfl rfl 5 rfl (by kernel_rfl) hF6 (by omega) (allOne_out (by kernel_rfl)) W hB06 hWg ?_); intro w7 hF7 hB7 ho7 hz7)
                  obtain ⟨gb2, rfl, hJ7⟩ := hJ4.then_ hx5 hN5 hTn.1 hT6 hB6 hF7 ho7 hB7
                  have hX7 := (hX5.below hB6).other ngg ho7
                  go_meet
                  case rel => exact ⟨gb2, c3, T, r, 0, 0, 0, none, none, [], rfl, rfl, rfl, rfl, Sees.nil, Sees.nil, rfl, by omega, hJ7, hTn.2, hX7⟩
                · as_aux_lemma =>
                  go_meet
                  case rel => exact ⟨gb, c2, S, 0, 0, 0, 0, none, none, [], rfl, rfl, rfl, rfl, Sees.nil, Sees.nil, rfl, by omega, hJ4, hok, hX4'⟩
              case rest =>
                as_aux_lemma =>
                  obtain ⟨gb3, c3, T, r, n1, c1, c2', A1, A2, L, rfl, rfl, rfl, rfl, hs1, hs2, hL1, hn1', hJ7, hok7, hX7⟩ := hcut
                  have hJ8 := hJ7
                  obtain ⟨N2, hN2⟩ : ∃ N2, 64 * m0 = N2 := ⟨_, rfl⟩
                  obtain ⟨bl, hbl⟩ : ∃ bl, T.blank f0 m0 s' a' = bl := ⟨_, rfl⟩
                  have HBL := Lib.hid hbl
                  have HN2 := Lib.hid hN2
                  have HL1 := Lib.hid hL1
                  have hsm := hJ7.small
                  have ew : IntKind.i64.wrap (64 * (m0 : Int)) = (N2 : Int) := by rw [wrapI _ (by omega) (by omega)]; omega
                  have hne : (((r : Nat) : Int) != (r : Int)) = false := by simp
                  have hne2 : (((m0 : Nat) : Int) != (m0 : Int)) = false := by simp
                  have hne3 : (((N2 : Nat) : Int) != (N2 : Int)) = false := by simp
                  have hne4 : (bl != bl) = false := by simp
                  clear hbl hN2 hL1 hJ hJ4 hX4 hX4' HX1 HX3 HX14 HX34 hB4
                  go_upto_region 45 with fail
                  refine region_all_tail 45 (dpFacts p d0 g gv gx r n1 c1 c2' m0 N2 A1 A2 s' a' bl (rdL (f0 : Int) (m0 : Int)) (T.rL (some ⟨gb3, 0, none⟩) c3)) (by kernel_rfl) (by kernel_rfl) (by kernel_rfl) (dpFacts_stab p d0 g gv gx r n1 c1 c2' m0 N2 A1 A2 s' a' bl (rdL (f0 : Int) (m0 : Int)) (T.rL (some ⟨gb3, 0, none⟩) c3)) ?_ ?_
                  · intro w0 hb0
                    simp only [List.take_succ_cons, List.take_zero]
                    refine ⟨?_, ?_, ?_, ?_, ?_, ?_, ?_, ?_, ?_, ?_, ?_, ?_, ?_, ?_, ?_, ?_, ?_, ?_, ?_, ?_, ?_, ?_, ?_, ?_, ?_, ?_, ?_, ?_, ?_, ?_, ?_, ?_, ?_, ?_, ?_, ?_, ?_, ?_, ?_, ?_, ?_, ?_, ?_, ?_, ?_, trivial⟩
                    all_goals intro listed a1 w' hk hd
                    · have f25_ : a1.eval (.tmp 25) = .int .i64 (r : Int) := hk.ev_old 25 (by kernel_rfl)
                      have g25_ : a1.tmps[25]?.getD undef = .int .i64 (r : Int) := by simpa [Act.eval] using f25_
                      exact stepOk_value rfl (v := .int .i64 (r : Int)) (by go_simp) rfl
                    · have f26_ : a1.eval (.tmp 26) = .int .i64 (r : Int) := hk.ev_old 26 (by kernel_rfl)
                      have g26_ : a1.tmps[26]?.getD undef = .int .i64 (r : Int) := by simpa [Act.eval] using f26_
                      exact stepOk_value rfl (v := .int .i64 (r : Int)) (by go_simp) rfl
                    · obtain ⟨v0, e0, q0, rfl⟩ := hk.ev_new hd 0 258 (by kernel_rfl) rfl
                      obtain ⟨v1, e1, q1, rfl⟩ := hk.ev_new hd 1 259 (by kernel_rfl) rfl
                      exact stepOk_value rfl (v := .bool false) (by go_simp) rfl
                    · obtain ⟨v2, e2, q2, rfl⟩ := hk.ev_new hd 2 260 (by kernel_rfl) rfl
                      exact stepOk_value rfl (v := .bool false) (by go_simp) rfl
                    · obtain ⟨v3, e3, q3, rfl⟩ := hk.ev_new hd 3 261 (by kernel_rfl) rfl
                      have f27_ : a1.eval (.tmp 27) = .slice A1 n1 c1 := hk.ev_old 27 (by kernel_rfl)
                      have g27_ : a1.tmps[27]?.getD undef = .slice A1 n1 c1 := by simpa [Act.eval] using f27_
                      exact stepOk_val_q (wanted_at (t := 261) rfl rfl q3) (v := .slice A1 n1 c1) (by go_simp) rfl
                    · obtain ⟨v3, e3, q3, rfl⟩ := hk.ev_new hd 3 261 (by kernel_rfl) rfl
                      have f28_ : a1.eval (.tmp 28) = .slice A2 n1 c2' := hk.ev_old 28 (by kernel_rfl)
                      have g28_ : a1.tmps[28]?.getD undef = .slice A2 n1 c2' := by simpa [Act.eval] using f28_
                      exact stepOk_val_q (wanted_at (t := 261) rfl rfl q3) (v := .slice A2 n1 c2') (by go_simp) rfl
                    · obtain ⟨v3, e3, q3, rfl⟩ := hk.ev_new hd 3 261 (by kernel_rfl) rfl
                      obtain ⟨v4, e4, q4, rfl⟩ := hk.ev_new hd 4 262 (by kernel_rfl) rfl
                      obtain ⟨v5, e5, q5, rfl⟩ := hk.ev_new hd 5 263 (by kernel_rfl) rfl
                      have hs1w := (hs1.step hb0).step hk.below
                      have hs2w := (hs2.step hb0).step hk.below
                      refine stepOk_enter (wanted_at (t := 261) rfl rfl q3) (f := 50) (args := #[.slice A1 n1 c1, .slice A2 n1 c2']) (by go_simp) ?_
                      refine (SameWords_yes hs1w hs2w HL1.out hn1').mono ?_
                      rintro e w5 ⟨rfl, hB5⟩
                      exact ⟨_, rfl, rfl, hB5⟩
                    · obtain ⟨v3, e3, q3, rfl⟩ := hk.ev_new hd 3 261 (by kernel_rfl) rfl
                      obtain ⟨v6, e6, q6, rfl⟩ := hk.ev_new hd 6 264 (by kernel_rfl) rfl
                      exact stepOk_val_q (wanted_at (t := 261) rfl rfl q3) (v := .bool false) (by go_simp) rfl
                    · obtain ⟨v3, e3, q3, rfl⟩ := hk.ev_new hd 3 261 (by kernel_rfl) rfl
                      obtain ⟨v7, e7, q7, rfl⟩ := hk.ev_new hd 7 265 (by kernel_rfl) rfl
                      exact stepOk_value rfl (v := .bool false) (by go_simp) rfl
                    · obtain ⟨v8, e8, q8, rfl⟩ := hk.ev_new hd 8 266 (by kernel_rfl) rfl
                      exact stepOk_value rfl (v := .bool false) (by go_simp) rfl
                    · obtain ⟨v9, e9, q9, rfl⟩ := hk.ev_new hd 9 267 (by kernel_rfl) rfl
                      have f15_ : a1.eval (.tmp 15) = .pointer (some ⟨d0, 0, none⟩) := hk.ev_old 15 (by kernel_rfl)
                      have g15_ : a1.tmps[15]?.getD undef = .pointer (some ⟨d0, 0, none⟩) := by simpa [Act.eval] using f15_
                      exact stepOk_val_q (wanted_at (t := 267) rfl rfl q9) (v := .pointer (some ⟨d0, 0, none⟩)) (by go_simp) rfl
                    · obtain ⟨v9, e9, q9, rfl⟩ := hk.ev_new hd 9 267 (by kernel_rfl) rfl
                      obtain ⟨v10, e10, q10, rfl⟩ := hk.ev_new hd 10 268 (by kernel_rfl) rfl
                      have hJw := (hJ8.step hb0).step hk.below
                      refine stepOk_enter (wanted_at (t := 267) rfl rfl q9) (f := 51) (args := #[.pointer (some ⟨d0, 0, none⟩)]) (by go_simp) ?_
                      refine (dSectors_any hJw.at_).mono ?_
                      rintro e w5 ⟨rfl, rfl⟩
                      exact ⟨_, rfl, rfl, Below.refl _ _⟩
                    · obtain ⟨v9, e9, q9, rfl⟩ := hk.ev_new hd 9 267 (by kernel_rfl) rfl
                      have f17_ : a1.eval (.tmp 17) = .pointer (some ⟨gv, 0, none⟩) := hk.ev_old 17 (by kernel_rfl)
                      have g17_ : a1.tmps[17]?.getD undef = .pointer (some ⟨gv, 0, none⟩) := by simpa [Act.eval] using f17_
                      exact stepOk_val_q (wanted_at (t := 267) rfl rfl q9) (v := .pointer (some ⟨gv, 1, none⟩)) (by go_simp) rfl
                    · obtain ⟨v9, e9, q9, rfl⟩ := hk.ev_new hd 9 267 (by kernel_rfl) rfl
                      obtain ⟨v12, e12, q12, rfl⟩ := hk.ev_new hd 12 270 (by kernel_rfl) rfl
                      have hJw := (hJ8.step hb0).step hk.below
                      have cc : w'.cell? ⟨gv, 1, none⟩ = some (.int .i64 (m0 : Int)) := hJw.v.cell (j := 1) rfl
                      exact stepOk_val_q (wanted_at (t := 267) rfl rfl q9) (v := .int .i64 (m0 : Int)) (by go_simp) rfl
                    · obtain ⟨v9, e9, q9, rfl⟩ := hk.ev_new hd 9 267 (by kernel_rfl) rfl
                      obtain ⟨v11, e11, q11, rfl⟩ := hk.ev_new hd 11 269 (by kernel_rfl) rfl
                      obtain ⟨v13, e13, q13, rfl⟩ := hk.ev_new hd 13 271 (by kernel_rfl) rfl
                      exact stepOk_val_q (wanted_at (t := 267) rfl rfl q9) (v := .bool false) (by go_simp) rfl
                    · obtain ⟨v9, e9, q9, rfl⟩ := hk.ev_new hd 9 267 (by kernel_rfl) rfl
                      obtain ⟨v14, e14, q14, rfl⟩ := hk.ev_new hd 14 272 (by kernel_rfl) rfl
                      exact stepOk_value rfl (v := .bool false) (by go_simp) rfl
                    · obtain ⟨v15, e15, q15, rfl⟩ := hk.ev_new hd 15 273 (by kernel_rfl) rfl
                      exact stepOk_value rfl (v := .bool false) (by go_simp) rfl
                    · obtain ⟨v16, e16, q16, rfl⟩ := hk.ev_new hd 16 274 (by kernel_rfl) rfl
                      have f15_ : a1.eval (.tmp 15) = .pointer (some ⟨d0, 0, none⟩) := hk.ev_old 15 (by kernel_rfl)
                      have g15_ : a1.tmps[15]?.getD undef = .pointer (some ⟨d0, 0, none⟩) := by simpa [Act.eval] using f15_
                      exact stepOk_val_q (wanted_at (t := 274) rfl rfl q16) (v := .pointer (some ⟨d0, 0, none⟩)) (by go_simp) rfl
                    · obtain ⟨v16, e16, q16, rfl⟩ := hk.ev_new hd 16 274 (by kernel_rfl) rfl
                      obtain ⟨v17, e17, q17, rfl⟩ := hk.ev_new hd 17 275 (by kernel_rfl) rfl
                      have hJw := (hJ8.step hb0).step hk.below
                      refine stepOk_enter (wanted_at (t := 274) rfl rfl q16) (f := 52) (args := #[.pointer (some ⟨d0, 0, none⟩)]) (by go_simp) ?_
                      refine (dSize_any hJw.at_ N2 HN2.out).mono ?_
                      rintro e w5 ⟨rfl, rfl⟩
                      exact ⟨_, rfl, rfl, Below.refl _ _⟩
                    · obtain ⟨v16, e16, q16, rfl⟩ := hk.ev_new hd 16 274 (by kernel_rfl) rfl
                      have f17_ : a1.eval (.tmp 17) = .pointer (some ⟨gv, 0, none⟩) := hk.ev_old 17 (by kernel_rfl)
                      have g17_ : a1.tmps[17]?.getD undef = .pointer (some ⟨gv, 0, none⟩) := by simpa [Act.eval] using f17_
                      exact stepOk_val_q (wanted_at (t := 274) rfl rfl q16) (v := .pointer (some ⟨gv, 1, none⟩)) (by go_simp) rfl
                    · obtain ⟨v16, e16, q16, rfl⟩ := hk.ev_new hd 16 274 (by kernel_rfl) rfl
                      obtain ⟨v19, e19, q19, rfl⟩ := hk.ev_new hd 19 277 (by kernel_rfl) rfl
                      have hJw := (hJ8.step hb0).step hk.below
                      have cc : w'.cell? ⟨gv, 1, none⟩ = some (.int .i64 (m0 : Int)) := hJw.v.cell (j := 1) rfl
                      exact stepOk_val_q (wanted_at (t := 274) rfl rfl q16) (v := .int .i64 (m0 : Int)) (by go_simp) rfl
                    · obtain ⟨v16, e16, q16, rfl⟩ := hk.ev_new hd 16 274 (by kernel_rfl) rfl
                      obtain ⟨v20, e20, q20, rfl⟩ := hk.ev_new hd 20 278 (by kernel_rfl) rfl
                      exact stepOk_val_q (wanted_at (t := 274) rfl rfl q16) (v := .int .i64 (N2 : Int)) (by go_simp) rfl
                    · obtain ⟨v16, e16, q16, rfl⟩ := hk.ev_new hd 16 274 (by kernel_rfl) rfl
                      obtain ⟨v18, e18, q18, rfl⟩ := hk.ev_new hd 18 276 (by kernel_rfl) rfl
                      obtain ⟨v21, e21, q21, rfl⟩ := hk.ev_new hd 21 279 (by kernel_rfl) rfl
                      exact stepOk_val_q (wanted_at (t := 274) rfl rfl q16) (v := .bool false) (by go_simp) rfl
                    · obtain ⟨v16, e16, q16, rfl⟩ := hk.ev_new hd 16 274 (by kernel_rfl) rfl
                      obtain ⟨v22, e22, q22, rfl⟩ := hk.ev_new hd 22 280 (by kernel_rfl) rfl
                      exact stepOk_value rfl (v := .bool false) (by go_simp) rfl
                    · obtain ⟨v23, e23, q23, rfl⟩ := hk.ev_new hd 23 281 (by kernel_rfl) rfl
                      exact stepOk_value rfl (v := .bool false) (by go_simp) rfl
                    · obtain ⟨v24, e24, q24, rfl⟩ := hk.ev_new hd 24 282 (by kernel_rfl) rfl
                      have f15_ : a1.eval (.tmp 15) = .pointer (some ⟨d0, 0, none⟩) := hk.ev_old 15 (by kernel_rfl)
                      have g15_ : a1.tmps[15]?.getD undef = .pointer (some ⟨d0, 0, none⟩) := by simpa [Act.eval] using f15_
                      exact stepOk_val_q (wanted_at (t := 282) rfl rfl q24) (v := .pointer (some ⟨d0, 0, none⟩)) (by go_simp) rfl
                    · obtain ⟨v24, e24, q24, rfl⟩ := hk.ev_new hd 24 282 (by kernel_rfl) rfl
                      have f24_ : a1.eval (.tmp 24) = .pointer (some ⟨gx, 0, none⟩) := hk.ev_old 24 (by kernel_rfl)
                      have g24_ : a1.tmps[24]?.getD undef = .pointer (some ⟨gx, 0, none⟩) := by simpa [Act.eval] using f24_
                      exact stepOk_val_q (wanted_at (t := 282) rfl rfl q24) (v := .pointer (some ⟨gx, 1, none⟩)) (by go_simp) rfl
                    · obtain ⟨v24, e24, q24, rfl⟩ := hk.ev_new hd 24 282 (by kernel_rfl) rfl
                      obtain ⟨v26, e26, q26, rfl⟩ := hk.ev_new hd 26 284 (by kernel_rfl) rfl
                      have hXw := (hX7.below hb0).below hk.below
                      have cc : w'.cell? ⟨gx, 1, none⟩ = some (.int .i64 s') := hXw.cell (j := 1) rfl
                      exact stepOk_val_q (wanted_at (t := 282) rfl rfl q24) (v := .int .i64 s') (by go_simp) rfl
                    · obtain ⟨v24, e24, q24, rfl⟩ := hk.ev_new hd 24 282 (by kernel_rfl) rfl
                      have f24_ : a1.eval (.tmp 24) = .pointer (some ⟨gx, 0, none⟩) := hk.ev_old 24 (by kernel_rfl)
                      have g24_ : a1.tmps[24]?.getD undef = .pointer (some ⟨gx, 0, none⟩) := by simpa [Act.eval] using f24_
                      exact stepOk_val_q (wanted_at (t := 282) rfl rfl q24) (v := .pointer (some ⟨gx, 2, none⟩)) (by go_simp) rfl
                    · obtain ⟨v24, e24, q24, rfl⟩ := hk.ev_new hd 24 282 (by kernel_rfl) rfl
                      obtain ⟨v28, e28, q28, rfl⟩ := hk.ev_new hd 28 286 (by kernel_rfl) rfl
                      have hXw := (hX7.below hb0).below hk.below
                      have cc : w'.cell? ⟨gx, 2, none⟩ = some (.int .i64 a') := hXw.cell (j := 2) rfl
                      exact stepOk_val_q (wanted_at (t := 282) rfl rfl q24) (v := .int .i64 a') (by go_simp) rfl
                    · obtain ⟨v24, e24, q24, rfl⟩ := hk.ev_new hd 24 282 (by kernel_rfl) rfl
                      obtain ⟨v25, e25, q25, rfl⟩ := hk.ev_new hd 25 283 (by kernel_rfl) rfl
                      obtain ⟨v27, e27, q27, rfl⟩ := hk.ev_new hd 27 285 (by kernel_rfl) rfl
                      obtain ⟨v29, e29, q29, rfl⟩ := hk.ev_new hd 29 287 (by kernel_rfl) rfl
                      have hJw := (hJ8.step hb0).step hk.below
                      refine stepOk_enter (wanted_at (t := 282) rfl rfl q24) (f := 53) (args := #[.pointer (some ⟨d0, 0, none⟩), .int .i64 s', .int .i64 a']) (by go_simp) ?_
                      refine (dBlank_any hJw.at_ s' a' HX5.out.2 bl HBL.out).mono ?_
                      rintro e w5 ⟨rfl, hB5⟩
                      exact ⟨_, rfl, rfl, hB5⟩
                    · obtain ⟨v24, e24, q24, rfl⟩ := hk.ev_new hd 24 282 (by kernel_rfl) rfl
                      have hJw := (hJ8.step hb0).step hk.below
                      have f2 : a1.eval (.tmp 17) = .pointer (some ⟨gv, 0, none⟩) := hk.ev_old 17 (by kernel_rfl)
                      exact stepOk_val_q (wanted_at (t := 282) rfl rfl q24) (run_load_agg (.tmp 17) 73 rfl f2 (rdL (f0 : Int) (m0 : Int)) 2 rfl (by kernel_rfl) hJw.v.sees) rfl
                    · obtain ⟨v24, e24, q24, rfl⟩ := hk.ev_new hd 24 282 (by kernel_rfl) rfl
                      have hJw := (hJ8.step hb0).step hk.below
                      have f2 : a1.eval (.tmp 13) = .pointer (some ⟨g, 0, none⟩) := hk.ev_old 13 (by kernel_rfl)
                      exact stepOk_val_q (wanted_at (t := 282) rfl rfl q24) (run_load_agg (.tmp 13) 66 rfl f2 (T.rL (some ⟨gb3, 0, none⟩) c3) 5 rfl (by kernel_rfl) hJw.bs.box.sees) rfl
                    · obtain ⟨v24, e24, q24, rfl⟩ := hk.ev_new hd 24 282 (by kernel_rfl) rfl
                      have f24_ : a1.eval (.tmp 24) = .pointer (some ⟨gx, 0, none⟩) := hk.ev_old 24 (by kernel_rfl)
                      have g24_ : a1.tmps[24]?.getD undef = .pointer (some ⟨gx, 0, none⟩) := by simpa [Act.eval] using f24_
                      exact stepOk_val_q (wanted_at (t := 282) rfl rfl q24) (v := .pointer (some ⟨gx, 1, none⟩)) (by go_simp) rfl
                    · obtain ⟨v24, e24, q24, rfl⟩ := hk.ev_new hd 24 282 (by kernel_rfl) rfl
                      obtain ⟨v33, e33, q33, rfl⟩ := hk.ev_new hd 33 291 (by kernel_rfl) rfl
                      have hXw := (hX7.below hb0).below hk.below
                      have cc : w'.cell? ⟨gx, 1, none⟩ = some (.int .i64 s') := hXw.cell (j := 1) rfl
                      exact stepOk_val_q (wanted_at (t := 282) rfl rfl q24) (v := .int .i64 s') (by go_simp) rfl
                    · obtain ⟨v24, e24, q24, rfl⟩ := hk.ev_new hd 24 282 (by kernel_rfl) rfl
                      have f24_ : a1.eval (.tmp 24) = .pointer (some ⟨gx, 0, none⟩) := hk.ev_old 24 (by kernel_rfl)
                      have g24_ : a1.tmps[24]?.getD undef = .pointer (some ⟨gx, 0, none⟩) := by simpa [Act.eval] using f24_
                      exact stepOk_val_q (wanted_at (t := 282) rfl rfl q24) (v := .pointer (some ⟨gx, 2, none⟩)) (by go_simp) rfl
                    · obtain ⟨v24, e24, q24, rfl⟩ := hk.ev_new hd 24 282 (by kernel_rfl) rfl
                      obtain ⟨v35, e35, q35, rfl⟩ := hk.ev_new hd 35 293 (by kernel_rfl) rfl
                      have hXw := (hX7.below hb0).below hk.below
                      have cc : w'.cell? ⟨gx, 2, none⟩ = some (.int .i64 a') := hXw.cell (j := 2) rfl
                      exact stepOk_val_q (wanted_at (t := 282) rfl rfl q24) (v := .int .i64 a') (by go_simp) rfl
                    · obtain ⟨v24, e24, q24, rfl⟩ := hk.ev_new hd 24 282 (by kernel_rfl) rfl
                      obtain ⟨v31, e31, q31, rfl⟩ := hk.ev_new hd 31 289 (by kernel_rfl) rfl
                      obtain ⟨v32, e32, q32, rfl⟩ := hk.ev_new hd 32 290 (by kernel_rfl) rfl
                      obtain ⟨v34, e34, q34, rfl⟩ := hk.ev_new hd 34 292 (by kernel_rfl) rfl
                      obtain ⟨v36, e36, q36, rfl⟩ := hk.ev_new hd 36 294 (by kernel_rfl) rfl
                      have hJw := (hJ8.step hb0).step hk.below
                      refine stepOk_enter (wanted_at (t := 282) rfl rfl q24) (f := 54) (args := #[.agg (rdL (f0 : Int) (m0 : Int)).toArray, .agg (T.rL (some ⟨gb3, 0, none⟩) c3).toArray, .int .i64 s', .int .i64 a']) (by go_simp) ?_
                      refine (rdBlank_any hJw.bs.rn f0 m0 hJw.fits s' a' HX5.out.2 bl HBL.out).mono ?_
                      rintro e w5 ⟨rfl, hB5⟩
                      exact ⟨_, rfl, rfl, hB5⟩
                    · obtain ⟨v24, e24, q24, rfl⟩ := hk.ev_new hd 24 282 (by kernel_rfl) rfl
                      obtain ⟨v30, e30, q30, rfl⟩ := hk.ev_new hd 30 288 (by kernel_rfl) rfl
                      obtain ⟨v37, e37, q37, rfl⟩ := hk.ev_new hd 37 295 (by kernel_rfl) rfl
                      exact stepOk_val_q (wanted_at (t := 282) rfl rfl q24) (v := .bool false) (by go_simp) rfl
                    · obtain ⟨v24, e24, q24, rfl⟩ := hk.ev_new hd 24 282 (by kernel_rfl) rfl
                      obtain ⟨v38, e38, q38, rfl⟩ := hk.ev_new hd 38 296 (by kernel_rfl) rfl
                      exact stepOk_value rfl (v := .bool false) (by go_simp) rfl
                    · obtain ⟨v39, e39, q39, rfl⟩ := hk.ev_new hd 39 297 (by kernel_rfl) rfl
                      exact stepOk_value rfl (v := .bool false) (by go_simp) rfl
                    · obtain ⟨v40, e40, q40, rfl⟩ := hk.ev_new hd 40 298 (by kernel_rfl) rfl
                      have f11_ : a1.eval (.tmp 11) = .pointer (some ⟨p, 0, none⟩) := hk.ev_old 11 (by kernel_rfl)
                      have g11_ : a1.tmps[11]?.getD undef = .pointer (some ⟨p, 0, none⟩) := by simpa [Act.eval] using f11_
                      exact stepOk_val_q (wanted_at (t := 298) rfl rfl q40) (v := .pointer (some ⟨p, 0, none⟩)) (by go_simp) rfl
                    · obtain ⟨v40, e40, q40, rfl⟩ := hk.ev_new hd 40 298 (by kernel_rfl) rfl
                      have hJw := (hJ8.step hb0).step hk.below
                      have f2 : a1.eval (.tmp 13) = .pointer (some ⟨g, 0, none⟩) := hk.ev_old 13 (by kernel_rfl)
                      exact stepOk_val_q (wanted_at (t := 298) rfl rfl q40) (run_load_agg (.tmp 13) 66 rfl f2 (T.rL (some ⟨gb3, 0, none⟩) c3) 5 rfl (by kernel_rfl) hJw.bs.box.sees) rfl
                    · obtain ⟨v40, e40, q40, rfl⟩ := hk.ev_new hd 40 298 (by kernel_rfl) rfl
                      obtain ⟨v41, e41, q41, rfl⟩ := hk.ev_new hd 41 299 (by kernel_rfl) rfl
                      obtain ⟨v42, e42, q42, rfl⟩ := hk.ev_new hd 42 300 (by kernel_rfl) rfl
                      have hJw := (hJ8.step hb0).step hk.below
                      refine stepOk_enter (wanted_at (t := 298) rfl rfl q40) (f := 55) (args := #[.pointer (some ⟨p, 0, none⟩), .agg (T.rL (some ⟨gb3, 0, none⟩) c3).toArray]) (by go_simp) ?_
                      refine (SameNor_any hJw.bs.nor hJw.bs.rn).mono ?_
                      rintro e w5 ⟨rfl, hB5⟩
                      exact ⟨_, rfl, rfl, hB5⟩
                    · obtain ⟨v40, e40, q40, rfl⟩ := hk.ev_new hd 40 298 (by kernel_rfl) rfl
                      obtain ⟨v43, e43, q43, rfl⟩ := hk.ev_new hd 43 301 (by kernel_rfl) rfl
                      exact stepOk_val_q (wanted_at (t := 298) rfl rfl q40) (v := .bool false) (by go_simp) rfl
                  · intro a1 w2 hbw hp
                    obtain ⟨v0, p0, v1, p1, v2, p2, v3, p3, v4, p4, v5, p5, v6, p6, v7, p7, v8, p8, v9, p9, v10, p10, v11, p11, v12, p12, v13, p13, v14, p14, v15, p15, v16, p16, v17, p17, v18, p18, v19, p19, v20, p20, v21, p21, v22, p22, v23, p23, v24, p24, v25, p25, v26, p26, v27, p27, v28, p28, v29, p29, v30, p30, v31, p31, v32, p32, v33, p33, v34, p34, v35, p35, v36, p36, v37, p37, v38, p38, v39, p39, v40, p40, v41, p41, v42, p42, v43, p43, v44, p44, rfl⟩ := hp
                    simp only [dpFacts] at p0 p1 p2 p3 p4 p5 p6 p7 p8 p9 p10 p11 p12 p13 p14 p15 p16 p17 p18 p19 p20 p21 p22 p23 p24 p25 p26 p27 p28 p29 p30 p31 p32 p33 p34 p35 p36 p37 p38 p39 p40 p41 p42 p43 p44
                    subst p0 p1 p2 p3 p4 p5 p6 p7 p8 p9 p10 p11 p12 p13 p14 p15 p16 p17 p18 p19 p20 p21 p22 p23 p24 p25 p26 p27 p28 p29 p30 p31 p32 p33 p34 p35 p36 p37 p38 p39 p40 p41 p42 p43 p44
                    simp only [List.drop_succ_cons, List.drop_zero, Act.put, List.setIfInBounds_toArray, List.set_cons_succ, List.set_cons_zero]
                    have hJ9 := hJ8.step hbw
                    go_wp2_with fail
                    go_roundw
                    case rel => exact ⟨k + 1, gb3, c3, T, by omega, by omega, by go_num, hJ9, hok7⟩
                    case measure => simp [intOf]; omega
            · obtain rfl : k = 50 := by omega
              go_wp2_with fail
              refine (awake5_any _).mono ?_
              rintro e w5 ⟨rfl, hB5⟩
              go_wp2_with fail
              go_ret
              exact ⟨rfl, Below.then_ hJ.bs.below hB5⟩
          · obtain rfl : k = N := by omega
            go_wp2_with fail
            refine (awake5_any _).mono ?_
            rintro e w5 ⟨rfl, hB5⟩
            go_wp2_with fail
            go_ret
            exact ⟨rfl, Below.then_ hJ.bs.below hB5⟩
end Go.Proofs.Ytggcapkipcdlmaa
