/-
  What GetUint and GetBlob of the document's own answer, for every input.
-/
import Derived.Test.YtmkpopfaaebgfaaRefGet
import Derived.Test.YtmkpopfaaebgfaaRefB
namespace Go.Proofs.Ytmkpopfaaebgfaa
open Go.RowKit
set_option linter.unusedVariables false

set_option maxRecDepth 100000 in
set_option maxHeartbeats 1000000 in
theorem rGetUint_any (A : Option Addr) (c n : Nat) (P : Int) (l : List UInt8) (w : World) (hs : Sees w w.heap.size A (cb l)) (hl : l.length = n) (hc : n ≤ c) (hn : n ≤ 1000) (x q r : Nat) (hR : getU l P = (x, q, r)) :
    Calls Try.prog 22 #[.slice A n c, .int .i64 P] w fun e w' => e = .returned (.tuple #[.int .u64 (x : Int), .int .i64 (q : Int), .int .i64 (r : Int)]) ∧ Below w.heap.size w w' := by
  by_cases h0 : 0 ≤ P ∧ P ≤ n
  · obtain ⟨p, rfl⟩ := Int.eq_ofNat_of_zero_le h0.1
    exact rGetUint_in A c n p l w hs hl hc hn (by omega) (x, q, r) hR
  · have ha : isAt l.length P = false := by
      rw [hl, Bool.eq_false_iff]
      intro h
      exact h0 (isAt_true h)
    have e : getU l P = (0, 0, 2) := by simp [getU, ha]
    have HE := Lib.hid (hR.symm.trans e)
    clear ha e hR hl
    by_cases h1 : P < 0
    · clear h0
      go_enter Try.func22, Try.ntmps22
      go_wp2
      go_ret3
      have h := HE.out
      simp only [Prod.mk.injEq] at h
      obtain ⟨rfl, rfl, rfl⟩ := h
      exact ⟨rfl, Below.refl _ _⟩
    · have h2 : (n : Int) < P := by omega
      clear h0
      go_enter Try.func22, Try.ntmps22
      go_wp2
      go_ret3
      have h := HE.out
      simp only [Prod.mk.injEq] at h
      obtain ⟨rfl, rfl, rfl⟩ := h
      exact ⟨rfl, Below.refl _ _⟩

theorem told_nil {w w' : World} {q r : Nat} (hB : Below w.heap.size w w') : ToldBlob w 0 [] q r (.returned (.tuple #[.slice none 0 0, .int .i64 (q : Int), .int .i64 (r : Int)])) w' := ⟨none, 0, rfl, fresh_nil _ _ _, hB⟩

set_option maxRecDepth 100000 in
set_option maxHeartbeats 1000000 in
theorem rGetBlob_any (A : Option Addr) (c n : Nat) (P most : Int) (l : List UInt8) (w : World) (hs : Sees w w.heap.size A (cb l)) (hl : l.length = n) (hc : n ≤ c) (hn : n ≤ 1000) (hm : most ≤ 9223372036854775807) (L : List UInt8) (N q0 r0 : Nat) (hR : getB l P most = (L, q0, r0)) (hN : L.length = N) :
    Calls Try.prog 26 #[.slice A n c, .int .i64 P, .int .i64 most] w (ToldBlob w N L q0 r0) := by
  have HL := Lib.hid hl
  obtain ⟨⟨x, q, r⟩, hg⟩ : ∃ t, getU l P = t := ⟨_, rfl⟩
  have HG := Lib.hid hg
  by_cases hr : r = 0
  · subst hr
    obtain ⟨g1, g2, g3, g4⟩ := getU_ok hg
    rw [hl] at g3
    have G4 := Lib.hid g4
    clear hg g4 hl
    by_cases hm0 : most < 0 ∨ most < (x : Int)
    · have e : getB l P most = ([], 0, 3) := by
        simp only [getB, HG.out]
        rw [if_neg (by simp), if_pos (by omega)]
      rw [e] at hR
      simp only [Prod.mk.injEq] at hR
      obtain ⟨rfl, rfl, rfl⟩ := hR
      subst hN
      clear e
      by_cases hmm : most < 0
      · clear hm0
        go_enter Try.func26, Try.ntmps26
        go_wp2_with (go_at_call 22; refine (rGetUint_any A c n P l _ hs HL.out hc hn x q 0 HG.out).mono ?_; rintro e w1 ⟨rfl, hB1⟩)
        go_ret3
        exact told_nil hB1
      · obtain ⟨m, rfl⟩ := Int.eq_ofNat_of_zero_le (show 0 ≤ most by omega)
        have hmx : m < x := by omega
        clear hm0
        go_enter Try.func26, Try.ntmps26
        go_wp2_with (go_at_call 22; refine (rGetUint_any A c n P l _ hs HL.out hc hn x q 0 HG.out).mono ?_; rintro e w1 ⟨rfl, hB1⟩)
        go_ret3
        exact told_nil hB1
    · obtain ⟨m, rfl⟩ := Int.eq_ofNat_of_zero_le (show 0 ≤ most by omega)
      have hmx : x ≤ m := by omega
      clear hm0
      by_cases hq : n < q + x
      · have e : getB l P (m : Int) = ([], 0, 10) := by
          simp only [getB, HG.out, HL.out]
          rw [if_neg (by simp), if_neg (by omega), if_pos (by omega)]
        rw [e] at hR
        simp only [Prod.mk.injEq] at hR
        obtain ⟨rfl, rfl, rfl⟩ := hR
        subst hN
        clear e
        by_cases hxn : n < x
        · go_enter Try.func26, Try.ntmps26
          go_wp2_with (go_at_call 22; refine (rGetUint_any A c n P l _ hs HL.out hc hn x q 0 HG.out).mono ?_; rintro e w1 ⟨rfl, hB1⟩)
          go_ret3
          exact told_nil hB1
        · go_enter Try.func26, Try.ntmps26
          go_wp2_with (go_at_call 22; refine (rGetUint_any A c n P l _ hs HL.out hc hn x q 0 HG.out).mono ?_; rintro e w1 ⟨rfl, hB1⟩)
          go_ret3
          exact told_nil hB1
      · have e : getB l P (m : Int) = ((l.drop q).take x, q + x, 0) := by
          simp only [getB, HG.out, HL.out]
          rw [if_neg (by simp), if_neg (by omega), if_neg (by omega)]
        rw [e] at hR
        simp only [Prod.mk.injEq] at hR
        obtain ⟨rfl, rfl, rfl⟩ := hR
        have hlen : ((l.drop q).take x).length = x := by
          have := HL.out
          simp; omega
        obtain rfl : x = N := hlen.symm.trans hN
        have HN := Lib.hid hlen
        clear e hlen hN
        obtain ⟨A', hcut, hS⟩ := run_part (p := q) (k := x) hs HL.out hc (by omega)
        go_enter Try.func26, Try.ntmps26
        go_wp2_with fail
        refine (rGetUint_any A c n P l _ hs HL.out hc hn x q 0 HG.out).mono ?_
        rintro e w1 ⟨rfl, hB1⟩
        go_wp2_with fail
        refine (behind_any none A' 0 (c - q) 0 x [] ((l.drop q).take x) w1 Sees.nil (hS.step hB1) rfl HN.out (by omega) (by omega)).mono ?_
        rintro e w2 ⟨A2, c2, rfl, hF2, hB2⟩
        go_wp2_with fail
        go_ret3
        refine ⟨A2, c2, rfl, ?_, Below.then_ hB1 hB2⟩
        have h := hF2.lower hB1.size
        simpa using h
  · have e : getB l P most = ([], 0, r) := by simp [getB, HG.out, hr]
    rw [e] at hR
    simp only [Prod.mk.injEq] at hR
    obtain ⟨rfl, rfl, rfl⟩ := hR
    subst hN
    have hrb : ((r : Int) != 0) = true := by simp; omega
    clear e hg hl hr
    go_enter Try.func26, Try.ntmps26
    go_wp2_with (go_at_call 22; refine (rGetUint_any A c n P l _ hs HL.out hc hn x q r HG.out).mono ?_; rintro e w1 ⟨rfl, hB1⟩)
    go_ret3
    exact told_nil hB1
end Go.Proofs.Ytmkpopfaaebgfaa
