/-
  A drive's Write as a whole, Erase, Open and Part.
-/
import Derived.Test.YtjmofjcdcmbecaaDrWriteWalk
import Derived.Test.YtjmofjcdcmbecaaNorMake
namespace Go.Proofs.Ytjmofjcdcmbecaa
open Go.RowKit Go.Shelf
set_option linter.unusedVariables false

section
variable {w : World} {base d p b f m : Nat} {S : Fl}
/-- What Write does, and its error. -/
def Fl.dwrite (S : Fl) (f m : Nat) (a : Int) (l : List UInt32) : Fl × Nat := match wordsOk m a (l.length : Int), S.down with
  | false, _ => (S, 2)
  | true, true => (S, 40)
  | true, false => match sets32 (S.at_ f a.toNat l.length) l with
    | true => (S, 50)
    | false => match S.prog (64 * f + a.toNat) l with
      | (T, true) => (T, 0)
      | (T, false) => (T, 40)
set_option maxHeartbeats 1000000 in
set_option maxRecDepth 100000 in
theorem dWrite_any (h : DrAt base w d p b f m S) (a : Int) (ha : a < 9223372036854775808) (n c : Nat) (A : Option Addr) (l : List UInt32) (hs : Off p b w A (cw l)) (hl : l.length = n) (hc : n ≤ c) (S' : Fl) (r : Nat) (hr : S.dwrite f m a l = (S', r)) :
    Calls Try.prog 57 #[.pointer (some ⟨d, 0, none⟩), .int .i64 a, .slice A n c] w fun e w' =>
      e = .returned (.int .i64 (r : Int)) ∧ DrAt base w' d p b f m S' ∧ But p b w w' := by
  unfold Fl.dwrite at hr
  rw [hl] at hr
  by_cases hno : wordsOk m a (n : Int) = false ∨ S.down = true
  · obtain ⟨rfl, hre⟩ : S = S' ∧ readErr S m a (n : Int) = r := by
      cases h1 : wordsOk m a (n : Int)
      · rw [h1] at hr
        simp only [Prod.mk.injEq] at hr
        exact ⟨hr.1, by simp [readErr, h1]; exact hr.2⟩
      · have h2 : S.down = true := by
          rcases hno with h2 | h2
          · rw [h1] at h2; cases h2
          · exact h2
        rw [h1, h2] at hr
        simp only [Prod.mk.injEq] at hr
        exact ⟨hr.1, by simp [readErr, h1]; exact hr.2⟩
    obtain ⟨z, rfl⟩ : ∃ z, r = z + 1 := by
      rw [← hre]
      unfold readErr
      split
      · exact ⟨1, rfl⟩
      · exact ⟨39, rfl⟩
    have h0 : ¬ (((z + 1 : Nat) : Int) = 0) := by omega
    obtain ⟨e1, e2, e3, e4, hBa⟩ := alloc3 w (Obj.cells #[Value.pointer (some ⟨d, 0, none⟩)] 85) (Obj.cells #[Value.slice A n c] 63) (Obj.cells #[Value.int .i64 0] 60)
    have hR := dRead_no (h.below hBa) a (n : Int) ha hno
    rw [hre] at hR
    clear hr hno ha hre
    go_enter Try.func57, Try.ntmps57
    go_wp2_with fail
    revert e1 e2 e3 e4 hBa hR
    generalize (((w.alloc (Obj.cells #[Value.pointer (some ⟨d, 0, none⟩)] 85)).alloc (Obj.cells #[Value.slice A n c] 63)).alloc (Obj.cells #[Value.int .i64 0] 60)) = w0
    intro k3 k5 k6 z0 hB0 hR
    have hI : WInv base w w d p b n c A 0 S w0 := ⟨h.nor.below hB0, k3, k5, k6, But.of_below hB0, hB0.size⟩
    have c6 := cell_of k6
    have f6 := frozen_of k6 0
    refine hR.mono ?_
    rintro e w1 ⟨rfl, rfl⟩
    go_wp2_with fail
    have hI' := hI.put h.nor.lt.1 h.nor.lt.2.1 (z + 1)
    (try simp only [Exit.inBlock, Exit.then])
    refine bodyPost_ret (results_cell1 rfl rfl (by kernel_rfl) (cell_of hI'.k6)) rfl ?_
    exact ⟨rfl, h.turn hI'.but hI'.nor rfl, hI'.but⟩
  · have h1 : wordsOk m a (n : Int) = true := by
      cases h1 : wordsOk m a (n : Int)
      · exact absurd (.inl h1) hno
      · rfl
    have h2 : S.down = false := by
      cases h2 : S.down
      · rfl
      · exact absurd (.inr h2) hno
    obtain ⟨at_, many, rfl, hmn, hok⟩ := wordsOk_out h1
    obtain rfl : n = many := by omega
    rw [h1, h2] at hr
    simp only [Int.toNat_natCast] at hr
    cases hset : sets32 (S.at_ f at_ n) l
    · rw [hset] at hr
      simp only at hr
      obtain ⟨T, q, hq⟩ : ∃ T q, S.prog (64 * f + at_) l = (T, q) := ⟨_, _, rfl⟩
      rw [hq] at hr
      refine (dWrite_go h h2 at_ n c A l hs hl hc hok hset T q hq).mono ?_
      rintro e w' ⟨rfl, hD, hB⟩
      cases q
      · simp only [Prod.mk.injEq] at hr
        obtain ⟨rfl, rfl⟩ := hr
        exact ⟨rfl, hD, hB⟩
      · simp only [Prod.mk.injEq] at hr
        obtain ⟨rfl, rfl⟩ := hr
        exact ⟨rfl, hD, hB⟩
    · rw [hset] at hr
      simp only [Prod.mk.injEq] at hr
      obtain ⟨rfl, rfl⟩ := hr
      have hm := h.small
      have hlS : (S.at_ f at_ n).length = n := h.at_len hok
      have HS := Lib.hid hset
      have hn6 : n ≤ 65536 := by omega
      clear hset hno h1 ha
      obtain ⟨e1, e2, e3, e4, hBa⟩ := alloc3 w (Obj.cells #[Value.pointer (some ⟨d, 0, none⟩)] 85) (Obj.cells #[Value.slice A n c] 63) (Obj.cells #[Value.int .i64 0] 60)
      go_enter Try.func57, Try.ntmps57
      go_wp2_with fail
      revert e1 e2 e3 e4 hBa
      generalize (((w.alloc (Obj.cells #[Value.pointer (some ⟨d, 0, none⟩)] 85)).alloc (Obj.cells #[Value.slice A n c] 63)).alloc (Obj.cells #[Value.int .i64 0] 60)) = w0
      intro k3 k5 k6 z0 hB0
      refine (dRead_ok (h.below hB0) h2 at_ n hok).mono ?_
      rintro e w1 ⟨Ar, cr, rfl, hFr, hB1⟩
      replace k3 := (hB1.block _ (by omega)).trans k3
      replace k5 := (hB1.block _ (by omega)).trans k5
      replace k6 := (hB1.block _ (by omega)).trans k6
      have hBw1 : Below w.heap.size w w1 := Below.then_ hB0 hB1
      have z1 := hB1.size
      have c3 := cell_of k3
      have c5 := cell_of k5
      have hs1 := hs.step (But.of_below hBw1)
      go_wp2_with fail
      refine (wouldSet_any Ar A cr c n (S.at_ f at_ n) l w1 hFr.sees hs1.sees hlS hl (by omega) true HS.out).mono ?_
      rintro e w2 ⟨rfl, q, rfl⟩
      have hB2 := below_drewN' (Below.refl w1.heap.size w1) q
      revert hB2
      generalize w1.drewN q = w2
      intro hB2
      have hBw2 := Below.then_ hBw1 hB2
      replace k3 := (hB2.block _ (by omega)).trans k3
      replace k5 := (hB2.block _ (by omega)).trans k5
      replace k6 := (hB2.block _ (by omega)).trans k6
      have hI : WInv base w w d p b n c A 0 S w2 := ⟨h.nor.below hBw2, k3, k5, k6, But.of_below hBw2, hBw2.size⟩
      clear c3 c5
      have c6 := cell_of k6
      have f6 := frozen_of k6 0
      go_wp2_with fail
      have hI' := hI.put h.nor.lt.1 h.nor.lt.2.1 50
      (try simp only [Exit.inBlock, Exit.then])
      refine bodyPost_ret (results_cell1 rfl rfl (by kernel_rfl) (cell_of hI'.k6)) rfl ?_
      exact ⟨rfl, h.turn hI'.but hI'.nor rfl, hI'.but⟩
/-- Erase of one of the drive's sectors. -/
def Fl.derase (S : Fl) (f m : Nat) (s : Int) : Fl × Nat := match secsOk m s 1 with
  | false => (S, 2)
  | true => S.erase ((f : Int) + s)
set_option maxRecDepth 100000 in
theorem dErase_any (h : DrAt base w d p b f m S) (s : Int) (hs : s < 9223372036854775808) (S' : Fl) (r : Nat) (hr : S.derase f m s = (S', r)) (hn : S'.n = S.n) :
    Calls Try.prog 59 #[.pointer (some ⟨d, 0, none⟩), .int .i64 s] w fun e w' =>
      e = .returned (.int .i64 (r : Int)) ∧ DrAt base w' d p b f m S' ∧ But p b w w' := by
  have hm := h.small
  have hI := isDrive_any h
  obtain ⟨c0, c1, c2, c3⟩ := h.c
  unfold Fl.derase at hr
  cases hok : secsOk m s 1
  · have hP := hasSectors_any m (by omega) s 1 hs false hok w
    rw [hok] at hr
    simp only [Prod.mk.injEq] at hr
    obtain ⟨rfl, rfl⟩ := hr
    clear hs hok
    go_enter Try.func59, Try.ntmps59
    go_wp2_with fail
    refine hI.mono ?_
    rintro e w1 ⟨rfl, rfl⟩
    go_wp2_with fail
    refine hP.mono ?_
    rintro e w2 ⟨rfl, rfl⟩
    go_wp2_with fail
    go_ret
    exact ⟨rfl, h, But.refl _ _ _⟩
  · have hP := hasSectors_any m (by omega) s 1 hs true hok w
    rw [hok] at hr
    simp only at hr
    simp [secsOk] at hok
    have hE := fun (q : Nat) => Erase_any (h.nor.below (below_drewN' (Below.refl _ _) q)) ((f : Int) + s) S' r hr (by omega)
    have hw := wrapI ((f : Int) + s) (by omega) (by omega)
    have hw' := wrap64I ((f : Int) + s) (by omega) (by omega)
    have HN := Lib.hid hn
    clear hs hok hr hn
    go_enter Try.func59, Try.ntmps59
    go_wp2_with fail
    refine hI.mono ?_
    rintro e w1 ⟨rfl, rfl⟩
    go_wp2_with fail
    refine hP.mono ?_
    rintro e w2 ⟨rfl, rfl⟩
    go_wp2_with fail
    refine region_qtail 10 (by kernel_rfl) (by kernel_rfl) ?_
    simp only [List.take_succ_cons, List.take_zero, List.drop_succ_cons, List.drop_zero]
    repeat (go_big_quiet_step (fail))
    refine wpQuiet_nil ?_
    rintro _ ⟨nq, rfl⟩
    go_wp2_with fail
    refine (hE nq).mono ?_
    rintro e w3 ⟨rfl, hN, hB⟩
    have hB' := (But.of_below (below_drewN' (Below.refl w2.heap.size w2) nq)).then_ hB
    go_wp2_with fail
    go_ret
    exact ⟨rfl, h.turn hB' hN HN.out, hB'⟩
end
end Go.Proofs.Ytjmofjcdcmbecaa
