/-
  ShaTwice's walk as its frame asks for it.
-/
import Derived.Test.YtmkpopfaaebgfaaTwiceWalk
namespace Go.Proofs.Ytmkpopfaaebgfaa
open Go.RowKit
set_option linter.unusedVariables false
set_option maxHeartbeats 2000000 in
set_option maxRecDepth 100000 in
theorem twice_awake (first keys : List UInt32) (A B C : Option Addr) (n cA m cB k cC : Nat) (w : World) (h1 : first.length = 8) (h2 : keys.length = 64) (h : 200 < n ∨ 200 < m ∨ 200 < k) :
    Calls Try.prog 6 #[.agg (cw (first ++ keys)).toArray, .slice A n cA, .slice B m cB, .slice C k cC] w fun e w' => e = .returned (.bool true) ∧ Below w.heap.size w w' := by
  have htl : (first ++ keys).length = 72 := by rw [List.length_append, h1, h2]
  generalize first ++ keys = TL at htl ⊢
  have HTN := Lib.hid htl
  clear htl h1 h2
  by_cases hn : 200 < n
  · have b1 : decide ((200 : Int) < (n : Int)) = true := by simp; omega
    clear h hn
    go_enter Try.func6, Try.ntmps6
    go_wp2_with (with_reducible refine wpList_box (o := ⟨some 4, _, _, _, _, _⟩) rfl (.tmp 0) 48 rfl (cw TL) rfl 72 (by rw [List.length_map]; exact HTN.out) (by decide) ?_; intro gt w1 hgt hFt hB1)
    refine (awake2_any _).mono ?_
    rintro e w2 ⟨rfl, hB2⟩
    go_wp2_with fail
    go_ret
    exact ⟨rfl, Below.then_ hB1 hB2⟩
  · have b1 : decide ((200 : Int) < (n : Int)) = false := by simp; omega
    by_cases hm : 200 < m
    · have b2 : decide ((200 : Int) < (m : Int)) = true := by simp; omega
      clear h hn hm
      go_enter Try.func6, Try.ntmps6
      go_wp2_with (with_reducible refine wpList_box (o := ⟨some 4, _, _, _, _, _⟩) rfl (.tmp 0) 48 rfl (cw TL) rfl 72 (by rw [List.length_map]; exact HTN.out) (by decide) ?_; intro gt w1 hgt hFt hB1)
      refine (awake2_any _).mono ?_
      rintro e w2 ⟨rfl, hB2⟩
      go_wp2_with fail
      go_ret
      exact ⟨rfl, Below.then_ hB1 hB2⟩
    · have b2 : decide ((200 : Int) < (m : Int)) = false := by simp; omega
      have b3 : decide ((200 : Int) < (k : Int)) = true := by simp; omega
      clear h hn hm
      go_enter Try.func6, Try.ntmps6
      go_wp2_with (with_reducible refine wpList_box (o := ⟨some 4, _, _, _, _, _⟩) rfl (.tmp 0) 48 rfl (cw TL) rfl 72 (by rw [List.length_map]; exact HTN.out) (by decide) ?_; intro gt w1 hgt hFt hB1)
      refine (awake2_any _).mono ?_
      rintro e w2 ⟨rfl, hB2⟩
      go_wp2_with fail
      go_ret
      exact ⟨rfl, Below.then_ hB1 hB2⟩
theorem shatwice_law (W : World) (first keys : List UInt32) (lf : first.length = 8) (lk : keys.length = 64) (a1 : Option Addr) (len1 cap1 : Nat) (z1 : List Int) (w1 : IsRow .u8 W a1 len1 cap1 z1) (a2 : Option Addr) (len2 cap2 : Nat) (z2 : List Int) (w2 : IsRow .u8 W a2 len2 cap2 z2) (a3 : Option Addr) (len3 cap3 : Nat) (z3 : List Int) (w3 : IsRow .u8 W a3 len3 cap3 z3) :
    Calls Try.prog 6 #[.agg (cw (first ++ keys)).toArray, .slice a1 len1 cap1, .slice a2 len2 cap2, .slice a3 len3 cap3] W fun e w' => e = .returned (.bool true) ∧ Below W.heap.size W w' := by
  obtain ⟨x, hx, hs1, hc1, _⟩ := row_bytes w1
  obtain ⟨y, hy, hs2, hc2, _⟩ := row_bytes w2
  obtain ⟨z, hz, hs3, hc3, _⟩ := row_bytes w3
  by_cases h : 200 < len1 ∨ 200 < len2 ∨ 200 < len3
  · exact twice_awake first keys a1 a2 a3 len1 cap1 len2 cap2 len3 cap3 W lf lk h
  · exact twice_main first keys x y z a1 a2 a3 len1 cap1 len2 cap2 len3 cap3 W lf lk hs1 hs2 hs3 hx hy hz hc1 hc2 hc3 (by omega) (by omega) (by omega)
end Go.Proofs.Ytmkpopfaaebgfaa
