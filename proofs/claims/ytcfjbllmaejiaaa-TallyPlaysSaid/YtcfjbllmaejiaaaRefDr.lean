/-
  The document's own drive, by value: Open, Part, Erase.
-/
import Derived.Test.YtcfjbllmaejiaaaRefBeside
import Derived.Test.YtcfjbllmaejiaaaDrives
namespace Go.Proofs.Ytcfjbllmaejiaaa
open Go.RowKit
set_option linter.unusedVariables false

/-- The cells of the document's own drive: from which sector on, how many. -/
def rdL (f m : Int) : List Value := [.int .i64 f, .int .i64 m]
/-- What a call within a call leaves, behind a store into memory of the outer call's own. -/
theorem RnTo.shut {w w3 w4 w9 : World} {A B : Option Addr} {c c2 g : Nat} {S T : Fl} (h : RnAt w A c S) (hT : RnTo w3 w4 A B c c2 S T) (x : Below w.heap.size w w9) (hs : w.heap.size ≤ w3.heap.size) (hg : g < w3.heap.size) (ho : ∀ k, k ≠ g → w9.heap[k]? = w4.heap[k]?) : RnTo w w9 A B c c2 S T := by
  rcases hT.from_ with ⟨rfl, rfl, hw, hn⟩ | hR
  · have h9 := h.step x
    exact ⟨⟨by rw [hw]; exact h9.sees, by rw [hw, hn]; exact h9.len, by rw [hn]; exact h9.n_le, by rw [hn]; exact h9.cap⟩, .inl ⟨rfl, rfl, hw, hn⟩⟩
  · have hR9 := hR.apart fun k hk => ho k (by omega)
    exact ⟨⟨hR9.sees, hT.at_.len, hT.at_.n_le, hT.at_.cap⟩, .inr (hR9.lower hs)⟩
section
variable {w : World} {A : Option Addr} {c : Nat} {S : Fl}
set_option maxHeartbeats 1000000 in
set_option maxRecDepth 100000 in
theorem rdOpen_yes (h : RnAt w A c S) (f m : Nat) (hf : f + m ≤ S.n) (h1 : 1 ≤ m) :
    Calls Try.prog 8 #[.agg (S.rL A c).toArray, .int .i64 (f : Int), .int .i64 (m : Int)] w fun e w' => e = .returned (.tuple #[.agg (rdL (f : Int) (m : Int)).toArray, .int .i64 0]) ∧ Below w.heap.size w w' := by
  have hSe : ∀ w', Calls Try.prog 51 #[.agg (S.rL A c).toArray] w' fun e w2 => e = .returned (.int .i64 (S.n : Int)) ∧ Below w'.heap.size w' w2 := fun w' => rSectors_any (A := A) (c := c) S.n h.n_le S.guard S.leftR S.down S.half w'
  have hn := h.n_le
  have hN := Lib.hid h
  have dm : decide ((m : Int) < 1) = false := by simp; omega
  have df : decide ((f : Int) < 0) = false := by simp
  have dg : decide (S.n < f) = false := by simp; omega
  have dh : decide ((S.n : Int) - (f : Int) < (m : Int)) = false := by simp; omega
  have es : IntKind.i64.wrap ((S.n : Int) - (f : Int)) = (S.n : Int) - (f : Int) := wrapI _ (by omega) (by omega)
  have hbd : ∀ w', (Instr.build 35 #[(0, .int .i64 (f : Int)), (1, .int .i64 (m : Int))]).run Try.prog w' = .ok (.agg (rdL (f : Int) (m : Int)).toArray) w' := fun w' => run_build w' _ _ _ (by kernel_rfl)
  clear h
  go_enter Try.func8, Try.ntmps8
  go_wp2_with (first | ((with_reducible refine wpList_box (o := ⟨some 3, _, _, _, _, _⟩) rfl (.tmp 0) 30 rfl (S.rL A c) rfl 5 rfl (by decide) ?_); intro g w1 hg hF hB; have z1 := hB.size; have lg := hF.lt_size) | ((with_reducible refine wpList_alloc (o := ⟨some 6, _, _, _, _, _⟩) rfl 35 rfl (rdL 0 0) (by kernel_rfl) 2 rfl (by decide) ?_); intro gr w2 hgr hFr hBr; have z2 := hBr.size; have gne : gr ≠ g := (by omega); have hF2 := hF.below hBr; have hB2 := Below.then_ hB hBr) | (refine wpList_load_g (o := ⟨some 16, _, _, _, _, _⟩) (.tmp 3) 30 rfl g 0 _ rfl (S.rL A c) 5 rfl (by kernel_rfl) hF2.sees (by rfl) ?_))
  refine (hSe w2).mono ?_
  rintro e w3 ⟨rfl, hB3⟩
  have hF3 := hF2.below hB3
  have hR3 := hFr.below hB3
  have hB03 := Below.then_ hB2 hB3
  go_wp2_with (refine wpList_load_g (o := ⟨some 22, _, _, _, _, _⟩) (.tmp 3) 30 rfl g 0 _ rfl (S.rL A c) 5 rfl (by kernel_rfl) hF3.sees (by rfl) ?_)
  refine (hSe w3).mono ?_
  rintro e w4 ⟨rfl, hB4⟩
  have hR4 := hR3.below hB4
  have hB04 := Below.then_ hB03 hB4
  go_wp2_with ((with_reducible refine wpList_store rfl rfl (.tmp 6) (.tmp 31) 35 rfl gr 0 _ 35 2 (rdL 0 0) (rdL (f : Int) (m : Int)) rfl rfl 2 rfl (by kernel_rfl) hR4 (by omega) (allOne_out (by kernel_rfl)) w hB04 (by omega) ?_); intro w9 hF9 hB9 ho9 hz9)
  exact bodyPost_cellt rfl rfl (.int .i64 0) rfl (rdL (f : Int) (m : Int)) 2 rfl (by kernel_rfl) hF9.sees rfl ⟨rfl, hB9⟩
set_option maxHeartbeats 1000000 in
set_option maxRecDepth 100000 in
theorem rdOpen_no (h : RnAt w A c S) (s k : Int) (hs : s < 9223372036854775808) (hno : secsOk S.n s k = false) :
    Calls Try.prog 8 #[.agg (S.rL A c).toArray, .int .i64 s, .int .i64 k] w fun e w' => e = .returned (.tuple #[.agg (rdL 0 0).toArray, .int .i64 2]) ∧ Below w.heap.size w w' := by
  have hSe : ∀ w', Calls Try.prog 51 #[.agg (S.rL A c).toArray] w' fun e w2 => e = .returned (.int .i64 (S.n : Int)) ∧ Below w'.heap.size w' w2 := fun w' => rSectors_any (A := A) (c := c) S.n h.n_le S.guard S.leftR S.down S.half w'
  have hn := h.n_le
  simp [secsOk] at hno
  have hbd : ∀ w', (Instr.build 35 #[]).run Try.prog w' = .ok (.agg (rdL 0 0).toArray) w' := fun w' => run_build w' _ _ _ (by kernel_rfl)
  clear h
  by_cases a1 : k < 1
  · clear hno hs hSe
    go_enter Try.func8, Try.ntmps8
    go_wp2_with (first | ((with_reducible refine wpList_box (o := ⟨some 3, _, _, _, _, _⟩) rfl (.tmp 0) 30 rfl (S.rL A c) rfl 5 rfl (by decide) ?_); intro g w1 hg hF hB; have z1 := hB.size; have lg := hF.lt_size) | ((with_reducible refine wpList_alloc (o := ⟨some 6, _, _, _, _, _⟩) rfl 35 rfl (rdL 0 0) (by kernel_rfl) 2 rfl (by decide) ?_); intro gr w2 hgr hFr hBr; have z2 := hBr.size; have gne : gr ≠ g := (by omega); have hF2 := hF.below hBr; have hB2 := Below.then_ hB hBr) | ((with_reducible refine wpList_store rfl rfl (.tmp 6) (.tmp 28) 35 rfl gr 0 _ 35 2 (rdL 0 0) (rdL 0 0) rfl rfl 2 rfl (by kernel_rfl) hFr (by omega) (allOne_out (by kernel_rfl)) w hB2 (by omega) ?_); intro w9 hF9 hB9 ho9 hz9))
    exact bodyPost_cellt rfl rfl (.int .i64 2) rfl (rdL 0 0) 2 rfl (by kernel_rfl) hF9.sees rfl ⟨rfl, hB9⟩
  · have dk : decide (k < 1) = false := by simp; omega
    by_cases a2 : s < 0
    · clear hno hs hSe
      go_enter Try.func8, Try.ntmps8
      go_wp2_with (first | ((with_reducible refine wpList_box (o := ⟨some 3, _, _, _, _, _⟩) rfl (.tmp 0) 30 rfl (S.rL A c) rfl 5 rfl (by decide) ?_); intro g w1 hg hF hB; have z1 := hB.size; have lg := hF.lt_size) | ((with_reducible refine wpList_alloc (o := ⟨some 6, _, _, _, _, _⟩) rfl 35 rfl (rdL 0 0) (by kernel_rfl) 2 rfl (by decide) ?_); intro gr w2 hgr hFr hBr; have z2 := hBr.size; have gne : gr ≠ g := (by omega); have hF2 := hF.below hBr; have hB2 := Below.then_ hB hBr) | ((with_reducible refine wpList_store rfl rfl (.tmp 6) (.tmp 28) 35 rfl gr 0 _ 35 2 (rdL 0 0) (rdL 0 0) rfl rfl 2 rfl (by kernel_rfl) hFr (by omega) (allOne_out (by kernel_rfl)) w hB2 (by omega) ?_); intro w9 hF9 hB9 ho9 hz9))
      exact bodyPost_cellt rfl rfl (.int .i64 2) rfl (rdL 0 0) 2 rfl (by kernel_rfl) hF9.sees rfl ⟨rfl, hB9⟩
    · have ds : decide (s < 0) = false := by simp; omega
      by_cases a3 : (S.n : Int) < s
      · clear hno hs
        go_enter Try.func8, Try.ntmps8
        go_wp2_with (first | ((with_reducible refine wpList_box (o := ⟨some 3, _, _, _, _, _⟩) rfl (.tmp 0) 30 rfl (S.rL A c) rfl 5 rfl (by decide) ?_); intro g w1 hg hF hB; have z1 := hB.size; have lg := hF.lt_size) | ((with_reducible refine wpList_alloc (o := ⟨some 6, _, _, _, _, _⟩) rfl 35 rfl (rdL 0 0) (by kernel_rfl) 2 rfl (by decide) ?_); intro gr w2 hgr hFr hBr; have z2 := hBr.size; have gne : gr ≠ g := (by omega); have hF2 := hF.below hBr; have hB2 := Below.then_ hB hBr) | (refine wpList_load_g (o := ⟨some 16, _, _, _, _, _⟩) (.tmp 3) 30 rfl g 0 _ rfl (S.rL A c) 5 rfl (by kernel_rfl) hF2.sees (by rfl) ?_))
        refine (hSe w2).mono ?_
        rintro e w3 ⟨rfl, hB3⟩
        have hR3 := hFr.below hB3
        have hB03 := Below.then_ hB2 hB3
        go_wp2_with ((with_reducible refine wpList_store rfl rfl (.tmp 6) (.tmp 28) 35 rfl gr 0 _ 35 2 (rdL 0 0) (rdL 0 0) rfl rfl 2 rfl (by kernel_rfl) hR3 (by omega) (allOne_out (by kernel_rfl)) w hB03 (by omega) ?_); intro w9 hF9 hB9 ho9 hz9)
        exact bodyPost_cellt rfl rfl (.int .i64 2) rfl (rdL 0 0) 2 rfl (by kernel_rfl) hF9.sees rfl ⟨rfl, hB9⟩
      · have a4 : (S.n : Int) - s < k := by omega
        have dg : decide ((S.n : Int) < s) = false := by simp; omega
        have es : IntKind.i64.wrap ((S.n : Int) - s) = (S.n : Int) - s := wrapI _ (by omega) (by omega)
        clear hno hs
        go_enter Try.func8, Try.ntmps8
        go_wp2_with (first | ((with_reducible refine wpList_box (o := ⟨some 3, _, _, _, _, _⟩) rfl (.tmp 0) 30 rfl (S.rL A c) rfl 5 rfl (by decide) ?_); intro g w1 hg hF hB; have z1 := hB.size; have lg := hF.lt_size) | ((with_reducible refine wpList_alloc (o := ⟨some 6, _, _, _, _, _⟩) rfl 35 rfl (rdL 0 0) (by kernel_rfl) 2 rfl (by decide) ?_); intro gr w2 hgr hFr hBr; have z2 := hBr.size; have gne : gr ≠ g := (by omega); have hF2 := hF.below hBr; have hB2 := Below.then_ hB hBr) | (refine wpList_load_g (o := ⟨some 16, _, _, _, _, _⟩) (.tmp 3) 30 rfl g 0 _ rfl (S.rL A c) 5 rfl (by kernel_rfl) hF2.sees (by rfl) ?_))
        refine (hSe w2).mono ?_
        rintro e w3 ⟨rfl, hB3⟩
        have hF3 := hF2.below hB3
        have hR3 := hFr.below hB3
        have hB03 := Below.then_ hB2 hB3
        go_wp2_with (refine wpList_load_g (o := ⟨some 22, _, _, _, _, _⟩) (.tmp 3) 30 rfl g 0 _ rfl (S.rL A c) 5 rfl (by kernel_rfl) hF3.sees (by rfl) ?_)
        refine (hSe w3).mono ?_
        rintro e w4 ⟨rfl, hB4⟩
        have hR4 := hR3.below hB4
        have hB04 := Below.then_ hB03 hB4
        go_wp2_with ((with_reducible refine wpList_store rfl rfl (.tmp 6) (.tmp 28) 35 rfl gr 0 _ 35 2 (rdL 0 0) (rdL 0 0) rfl rfl 2 rfl (by kernel_rfl) hR4 (by omega) (allOne_out (by kernel_rfl)) w hB04 (by omega) ?_); intro w9 hF9 hB9 ho9 hz9)
        exact bodyPost_cellt rfl rfl (.int .i64 2) rfl (rdL 0 0) 2 rfl (by kernel_rfl) hF9.sees rfl ⟨rfl, hB9⟩
end
section
variable {w : World} {A : Option Addr} {c : Nat} {S : Fl}
set_option maxHeartbeats 1000000 in
set_option maxRecDepth 100000 in
theorem rdErase_any (h : RnAt w A c S) (hl2 : S.left < 9223372036854775808) (f m : Nat) (hfm : f + m ≤ 1024) (s : Int) (hs : s < 9223372036854775808) (T : Fl) (r : Nat) (hr : S.derase f m s = (T, r)) :
    Calls Try.prog 57 #[.agg (rdL (f : Int) (m : Int)).toArray, .agg (S.rL A c).toArray, .int .i64 s] w fun e w' => ∃ B c2, e = .returned (.tuple #[.agg (T.rL B c2).toArray, .int .i64 (r : Int)]) ∧ RnTo w w' A B c c2 S T ∧ Below w.heap.size w w' := by
  unfold Fl.derase at hr
  have NO : ∀ w', Below w.heap.size w w' → RnTo w w' A A c c S S := fun w' x => ⟨h.step x, .inl ⟨rfl, rfl, rfl, rfl⟩⟩
  by_cases a1 : s < 0
  · have hp : secsOk m s 1 = false := by simp [secsOk]; omega
    obtain ⟨rfl, rfl⟩ : S = T ∧ 2 = r := by rw [hp] at hr; simpa using hr
    clear hr hp hs hl2
    go_enter Try.func57, Try.ntmps57
    go_wp2_with (first | ((with_reducible refine wpList_box (o := ⟨some 3, _, _, _, _, _⟩) rfl (.tmp 0) 35 rfl (rdL (f : Int) (m : Int)) rfl 2 rfl (by decide) ?_); intro g w1 hg hF hB; have z1 := hB.size; have lg := hF.lt_size) | ((with_reducible refine wpList_box (o := ⟨some 4, _, _, _, _, _⟩) rfl (.tmp 1) 30 rfl (S.rL A c) rfl 5 rfl (by decide) ?_); intro gn w2 hgn hFn hBn; have z2 := hBn.size; have lgn := hFn.lt_size; have hF2 := hF.below hBn; have hB2 := Below.then_ hB hBn) | ((with_reducible refine wpList_alloc (o := ⟨some 6, _, _, _, _, _⟩) rfl 30 rfl (rnL none 0 0 0 0 false 0) (by kernel_rfl) 5 rfl (by decide) ?_); intro gr w3 hgr hFr hBr; have z3 := hBr.size; have hF3 := hF2.below hBr; have hFn3 := hFn.below hBr; have hB3 := Below.then_ hB2 hBr; have c0 : w3.cell? ⟨g, 0, none⟩ = some (.int .i64 (f : Int)) := hF3.cell (j := 0) rfl; have c1 : w3.cell? ⟨g, 1, none⟩ = some (.int .i64 (m : Int)) := hF3.cell (j := 1) rfl) | (with_reducible refine wpList_load (o := ⟨some 16, _, _, _, _, _⟩) rfl (.tmp 4) 30 rfl gn 0 _ rfl (S.rL A c) 5 rfl (by kernel_rfl) hFn3.sees ?_) | ((with_reducible refine wpList_store rfl rfl (.tmp 6) (.tmp 16) 30 rfl gr 0 _ 30 5 (rnL none 0 0 0 0 false 0) (S.rL A c) rfl rfl 5 rfl (by kernel_rfl) hFr (by omega) (allOne_out (by kernel_rfl)) w hB3 (by omega) ?_); intro w9 hF9 hB9 ho9 hz9))
    exact bodyPost_cellt rfl rfl (.int .i64 2) rfl (S.rL A c) 5 rfl (by kernel_rfl) hF9.sees rfl ⟨A, c, rfl, NO _ hB9, hB9⟩
  · have d1 : decide (s < 0) = false := by simp; omega
    by_cases a2 : (m : Int) ≤ s
    · have hp : secsOk m s 1 = false := by simp [secsOk]; omega
      obtain ⟨rfl, rfl⟩ : S = T ∧ 2 = r := by rw [hp] at hr; simpa using hr
      clear hr hp hs hl2
      go_enter Try.func57, Try.ntmps57
      go_wp2_with (first | ((with_reducible refine wpList_box (o := ⟨some 3, _, _, _, _, _⟩) rfl (.tmp 0) 35 rfl (rdL (f : Int) (m : Int)) rfl 2 rfl (by decide) ?_); intro g w1 hg hF hB; have z1 := hB.size; have lg := hF.lt_size) | ((with_reducible refine wpList_box (o := ⟨some 4, _, _, _, _, _⟩) rfl (.tmp 1) 30 rfl (S.rL A c) rfl 5 rfl (by decide) ?_); intro gn w2 hgn hFn hBn; have z2 := hBn.size; have lgn := hFn.lt_size; have hF2 := hF.below hBn; have hB2 := Below.then_ hB hBn) | ((with_reducible refine wpList_alloc (o := ⟨some 6, _, _, _, _, _⟩) rfl 30 rfl (rnL none 0 0 0 0 false 0) (by kernel_rfl) 5 rfl (by decide) ?_); intro gr w3 hgr hFr hBr; have z3 := hBr.size; have hF3 := hF2.below hBr; have hFn3 := hFn.below hBr; have hB3 := Below.then_ hB2 hBr; have c0 : w3.cell? ⟨g, 0, none⟩ = some (.int .i64 (f : Int)) := hF3.cell (j := 0) rfl; have c1 : w3.cell? ⟨g, 1, none⟩ = some (.int .i64 (m : Int)) := hF3.cell (j := 1) rfl) | (with_reducible refine wpList_load (o := ⟨some 16, _, _, _, _, _⟩) rfl (.tmp 4) 30 rfl gn 0 _ rfl (S.rL A c) 5 rfl (by kernel_rfl) hFn3.sees ?_) | ((with_reducible refine wpList_store rfl rfl (.tmp 6) (.tmp 16) 30 rfl gr 0 _ 30 5 (rnL none 0 0 0 0 false 0) (S.rL A c) rfl rfl 5 rfl (by kernel_rfl) hFr (by omega) (allOne_out (by kernel_rfl)) w hB3 (by omega) ?_); intro w9 hF9 hB9 ho9 hz9))
      exact bodyPost_cellt rfl rfl (.int .i64 2) rfl (S.rL A c) 5 rfl (by kernel_rfl) hF9.sees rfl ⟨A, c, rfl, NO _ hB9, hB9⟩
    · have hp : secsOk m s 1 = true := by simp [secsOk]; omega
      have d2 : decide ((m : Int) ≤ s) = false := by simp; omega
      have ea : IntKind.i64.wrap ((f : Int) + s) = (f : Int) + s := wrapI _ (by omega) (by omega)
      have hr2 : S.erase ((f : Int) + s) = (T, r) := by rw [hp] at hr; exact hr
      have hEr := fun (w' : World) (x : Below w.heap.size w w') => rErase_any (h.step x) hl2 ((f : Int) + s) T r hr2
      clear hr hp hs hl2 hr2
      go_enter Try.func57, Try.ntmps57
      go_wp2_with (first | ((with_reducible refine wpList_box (o := ⟨some 3, _, _, _, _, _⟩) rfl (.tmp 0) 35 rfl (rdL (f : Int) (m : Int)) rfl 2 rfl (by decide) ?_); intro g w1 hg hF hB; have z1 := hB.size; have lg := hF.lt_size) | ((with_reducible refine wpList_box (o := ⟨some 4, _, _, _, _, _⟩) rfl (.tmp 1) 30 rfl (S.rL A c) rfl 5 rfl (by decide) ?_); intro gn w2 hgn hFn hBn; have z2 := hBn.size; have lgn := hFn.lt_size; have hF2 := hF.below hBn; have hB2 := Below.then_ hB hBn) | ((with_reducible refine wpList_alloc (o := ⟨some 6, _, _, _, _, _⟩) rfl 30 rfl (rnL none 0 0 0 0 false 0) (by kernel_rfl) 5 rfl (by decide) ?_); intro gr w3 hgr hFr hBr; have z3 := hBr.size; have hF3 := hF2.below hBr; have hFn3 := hFn.below hBr; have hB3 := Below.then_ hB2 hBr; have c0 : w3.cell? ⟨g, 0, none⟩ = some (.int .i64 (f : Int)) := hF3.cell (j := 0) rfl; have c1 : w3.cell? ⟨g, 1, none⟩ = some (.int .i64 (m : Int)) := hF3.cell (j := 1) rfl) | (with_reducible refine wpList_load (o := ⟨some 17, _, _, _, _, _⟩) rfl (.tmp 4) 30 rfl gn 0 _ rfl (S.rL A c) 5 rfl (by kernel_rfl) hFn3.sees ?_))
      refine (hEr w3 hB3).mono ?_
      rintro e w4 ⟨B, c2, rfl, hT4, hB4⟩
      have hR4 := hFr.below hB4
      have hB04 := Below.then_ hB3 hB4
      have z4 := hB4.size
      have lgr := hFr.lt_size
      go_wp2_with ((with_reducible refine wpList_store rfl rfl (.tmp 6) (.tmp 23) 30 rfl gr 0 _ 30 5 (rnL none 0 0 0 0 false 0) (T.rL B c2) rfl rfl 5 rfl (by kernel_rfl) hR4 (by omega) (allOne_out (by kernel_rfl)) w hB04 (by omega) ?_); intro w9 hF9 hB9 ho9 hz9)
      exact bodyPost_cellt rfl rfl (.int .i64 (r : Int)) rfl (T.rL B c2) 5 rfl (by kernel_rfl) hF9.sees rfl ⟨B, c2, rfl, RnTo.shut h hT4 hB9 hB3.size lgr ho9, hB9⟩
end
end Go.Proofs.Ytcfjbllmaejiaaa
