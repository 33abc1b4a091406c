/-
  The walk of MacSame.
-/
import Derived.Test.YtoeakidcmjnddaaMacSame2
import Derived.Test.YtoeakidcmjnddaaPut
import Derived.Test.YtoeakidcmjnddaaArr
namespace Go.Proofs.Ytoeakidcmjnddaa
open Go.RowKit
set_option linter.unusedVariables false
theorem Fresh.spot {w : World} {base : Nat} {e : TypeId} {A : Option Addr} {n c : Nat} {xs : List Value} (h : Fresh base e w A n c xs) (hn : 0 < n) : ∃ g, A = some ⟨g, 0, none⟩ ∧ base ≤ g ∧ g < w.heap.size := by
  rcases h.2 with ⟨hv, h0⟩ | ⟨g, cap, cur, hv, hb, hg, _⟩
  · omega
  · simp only [Value.slice.injEq] at hv
    exact ⟨g, hv.1, hb, (Array.getElem?_eq_some_iff.1 hg).1⟩
theorem beq_swap (a b : List UInt8) : (a == b) = (b == a) := by
  by_cases h : a = b
  · subst h; rfl
  · have h' : ¬ b = a := fun e => h e.symm
    rw [beq_eq_false_iff_ne.2 h, beq_eq_false_iff_ne.2 h']
theorem set_same (l : List UInt8) (r : Nat) (x t : UInt8) (h : l[r]? = some x) : (l == l.set r (x ^^^ t)) = decide (t = 0) := by
  by_cases ht : t = 0
  · subst ht
    have : l.set r (x ^^^ 0) = l := by
      rw [UInt8.xor_zero]
      apply List.ext_getElem?
      intro i
      have hlt := (List.getElem?_eq_some_iff.1 h).1
      by_cases hi : r = i
      · subst hi
        simp [hlt]
        exact (List.getElem?_eq_some_iff.1 h).2.symm
      · simp [hi]
    rw [this]
    simp
  · have hne : l ≠ l.set r (x ^^^ t) := by
      intro he
      have hlt := (List.getElem?_eq_some_iff.1 h).1
      have h1 : (l.set r (x ^^^ t))[r]? = some (x ^^^ t) := by simp [hlt]
      rw [← he, h] at h1
      simp only [Option.some.injEq] at h1
      have h2 : x.toNat = x.toNat ^^^ t.toNat := by rw [← UInt8.toNat_xor]; exact congrArg UInt8.toNat h1
      have h3 : x.toNat ^^^ x.toNat = x.toNat ^^^ (x.toNat ^^^ t.toNat) := congrArg (x.toNat ^^^ ·) h2
      rw [Nat.xor_self, ← Nat.xor_assoc, Nat.xor_self, Nat.zero_xor] at h3
      exact ht (UInt8.toNat_inj.1 h3.symm)
    simp [ht, hne]
set_option maxHeartbeats 2000000 in
set_option maxRecDepth 100000 in
theorem macsame_walk (A : Option Addr) (n c : Nat) (l : List UInt8) (z : Int) (t u : UInt8) (w : World) (hA : Sees w w.heap.size A (cb l)) (hl : l.length = n) (hz : -9223372036854775808 ≤ z ∧ z ≤ 9223372036854775807) :
    Calls Try.prog 13 #[.slice A n c, .int .i64 z, .int .u8 (t.toNat : Int), .int .u8 (u.toNat : Int)] w fun e w' => e = .returned (.bool true) ∧ Below w.heap.size w w' := by
  have HL := Lib.hid hl
  clear hl
  go_enter Try.func13, Try.ntmps13
  by_cases h3 : 300 < n
  · have g1 : decide (300 < (n : Int)) = true := by simp; omega
    go_wp2_with (go_at_call 63; refine (awake3_any _).mono ?_; rintro e w' ⟨rfl, hB⟩)
    go_ret
    exact ⟨rfl, hB⟩
  · have g1 : decide (300 < (n : Int)) = false := by simp; omega
    have h2 : n = 0 ∨ 0 < n := by omega
    rcases h2 with hn0 | hn0
    · have h00 : ((n : Int) == 0) = true := by simp [hn0]
      have h01 : decide (n = 0) = true := by simp [hn0]
      have h02 : decide ((n : Int) = 0) = true := by simp [hn0]
      have HN0 := Lib.hid hn0
      clear hn0
      go_wp2_with (first
        | (go_at_call 17; refine (CopyBytes_any A c n l _ (hA.step (by assumption)) HL.out (by omega)).mono ?_; rintro e w2 ⟨A2, c2, rfl, hF2, hB2⟩)
        | (go_at_call 17; refine (CopyBytes_any A c n l _ hA HL.out (by omega)).mono ?_; rintro e w1 ⟨A1, c1, rfl, hF1, hB1⟩)
        | (at_builtin; refine wpList_app8 rfl (.tmp 18) (.tmp 20) rfl A2 (some ⟨w2.heap.size, 0, none⟩) n c2 1 1 l [u] w1 rfl rfl (hF2.below ((Below.refl _ _).alloc (Nat.le_refl _) _)) (sees_one w2 5 _ _ rfl) rfl (by omega) (hB2.alloc hB2.size _) ?_; intro A3 c3 w3 hF3 hB3
           have hA3 := (hA.step hB1).step hB3
           have hX3 := hF1.below hB3
           have S1 : Calls Try.prog 62 #[.slice A n c, .slice A1 n c1] w3 fun e w' => e = .returned (.bool true) ∧ ∃ k, w' = w3.drewN k := by
             refine (Same_any A A1 c c1 n n l l _ hA3 hX3.sees HL.out HL.out (by omega) (by omega)).mono ?_
             rintro e w' ⟨rfl, k, rfl⟩
             exact ⟨by rw [beq_self_eq_true], k, rfl⟩
           have S2 : ∀ q, Calls Try.prog 62 #[.slice A n c, .slice A3 (n + 1) c3] (w3.drewN q) fun e w' => e = .returned (.bool false) ∧ ∃ k, w' = w3.drewN k := fun q => by
             refine (Same_any A A3 c c3 n (n + 1) l (l ++ [u]) _ (hA3.step (below_drewN' (Below.refl _ _) q)) (hF3.sees.step (below_drewN' (Below.refl _ _) q)) HL.out (by simp [HL.out]) (by omega) (by omega)).mono ?_
             rintro e w' ⟨rfl, k, rfl⟩
             exact ⟨by rw [show (l == l ++ [u]) = false from by simp], q + k, by rw [World.drewN_drewN]⟩
           have S3 : ∀ q, Calls Try.prog 62 #[.slice A3 (n + 1) c3, .slice A n c] (w3.drewN q) fun e w' => e = .returned (.bool false) ∧ ∃ k, w' = w3.drewN k := fun q => by
             refine (Same_any A3 A c3 c (n + 1) n (l ++ [u]) l _ (hF3.sees.step (below_drewN' (Below.refl _ _) q)) (hA3.step (below_drewN' (Below.refl _ _) q)) (by simp [HL.out]) HL.out (by omega) (by omega)).mono ?_
             rintro e w' ⟨rfl, k, rfl⟩
             exact ⟨by rw [show (l ++ [u] == l) = false from by simp], q + k, by rw [World.drewN_drewN]⟩)
        | (go_at_call 62; first
           | (with_reducible refine Calls.mono S1 ?_; rintro e w' ⟨rfl, q1, rfl⟩)
           | (with_reducible refine Calls.mono (S2 _) ?_; rintro e w' ⟨rfl, q2, rfl⟩)
           | (with_reducible refine Calls.mono (S3 _) ?_; rintro e w' ⟨rfl, q3, rfl⟩))
        | (go_at_call 63; refine (awake3_any _).mono ?_; rintro e w9 ⟨rfl, hB9⟩))
      go_ret
      exact ⟨rfl, Below.then_ (below_drewN' (Below.then_ hB1 hB3) _) hB9⟩
    all_goals go_wp2_with (first
      | (go_at_call 17; refine (CopyBytes_any A c n l _ (hA.step (by assumption)) HL.out (by omega)).mono ?_; rintro e w2 ⟨A2, c2, rfl, hF2, hB2⟩)
      | (go_at_call 17; refine (CopyBytes_any A c n l _ hA HL.out (by omega)).mono ?_; rintro e w1 ⟨A1, c1, rfl, hF1, hB1⟩)
      | (at_builtin; refine wpList_app8 rfl (.tmp 18) (.tmp 20) rfl A2 (some ⟨w2.heap.size, 0, none⟩) n c2 1 1 l [u] w1 rfl rfl (hF2.below ((Below.refl _ _).alloc (Nat.le_refl _) _)) (sees_one w2 5 _ _ rfl) rfl (by omega) (hB2.alloc hB2.size _) ?_; intro A3 c3 w3 hF3 hB3
         have hA3 := (hA.step hB1).step hB3
         have hX3 := hF1.below hB3
         have S1 : Calls Try.prog 62 #[.slice A n c, .slice A1 n c1] w3 fun e w' => e = .returned (.bool true) ∧ ∃ k, w' = w3.drewN k := by
           refine (Same_any A A1 c c1 n n l l _ hA3 hX3.sees HL.out HL.out (by omega) (by omega)).mono ?_
           rintro e w' ⟨rfl, k, rfl⟩
           exact ⟨by rw [beq_self_eq_true], k, rfl⟩
         have S2 : ∀ q, Calls Try.prog 62 #[.slice A n c, .slice A3 (n + 1) c3] (w3.drewN q) fun e w' => e = .returned (.bool false) ∧ ∃ k, w' = w3.drewN k := fun q => by
           refine (Same_any A A3 c c3 n (n + 1) l (l ++ [u]) _ (hA3.step (below_drewN' (Below.refl _ _) q)) (hF3.sees.step (below_drewN' (Below.refl _ _) q)) HL.out (by simp [HL.out]) (by omega) (by omega)).mono ?_
           rintro e w' ⟨rfl, k, rfl⟩
           exact ⟨by rw [show (l == l ++ [u]) = false from by simp], q + k, by rw [World.drewN_drewN]⟩
         have S3 : ∀ q, Calls Try.prog 62 #[.slice A3 (n + 1) c3, .slice A n c] (w3.drewN q) fun e w' => e = .returned (.bool false) ∧ ∃ k, w' = w3.drewN k := fun q => by
           refine (Same_any A3 A c3 c (n + 1) n (l ++ [u]) l _ (hF3.sees.step (below_drewN' (Below.refl _ _) q)) (hA3.step (below_drewN' (Below.refl _ _) q)) (by simp [HL.out]) HL.out (by omega) (by omega)).mono ?_
           rintro e w' ⟨rfl, k, rfl⟩
           exact ⟨by rw [show (l ++ [u] == l) = false from by simp], q + k, by rw [World.drewN_drewN]⟩)
      | (go_at_call 62; first
         | (with_reducible refine Calls.mono S1 ?_; rintro e w' ⟨rfl, q1, rfl⟩)
         | (with_reducible refine Calls.mono (S2 _) ?_; rintro e w' ⟨rfl, q2, rfl⟩)
         | (with_reducible refine Calls.mono (S3 _) ?_; rintro e w' ⟨rfl, q3, rfl⟩))
      | (go_at_call 63; refine (awake3_any _).mono ?_; rintro e w9 ⟨rfl, hB9⟩)
      | (go_at_call 68; refine (Pick_any z n _ (by omega) (by omega) hz).mono ?_; rintro e w' ⟨r, hr, rfl, rfl⟩
         obtain ⟨g, rfl, hgb, hgs⟩ := hX3.spot (by omega)
         obtain ⟨x, hx⟩ : ∃ x, l[r]? = some x := ⟨_, List.getElem?_eq_getElem (by rw [HL.out]; exact hr)⟩
         have hcell : w3.cell? ⟨g, r, none⟩ = some (.int .u8 (x.toNat : Int)) := by
           rw [World.ownsRow.cellAt hX3 r (by omega)]
           simp [cb, hx]
         have hfz := World.ownsRow.frozenAt hX3 r
         have e1 : bits .xor .u8 (x.toNat : Int) (t.toNat : Int) = ((x.toNat ^^^ t.toNat : Nat) : Int) := u8_xor_nat _ _ x.toNat_lt t.toNat_lt
         have hs4 := (World.ownsRow.stored (hX3.below (below_drewN' (Below.refl _ _) q3)) r (.int .u8 ((x.toNat ^^^ t.toNat : Nat) : Int))).1
         have hBel4 : Below w.heap.size w ((w3.drewN q3).setCell ⟨g, r, none⟩ (.int .u8 ((x.toNat ^^^ t.toNat : Nat) : Int))) := (below_drewN' (Below.then_ hB1 hB3) q3).setCell hgb _
         have hset : (cb l).set r (.int .u8 ((x.toNat ^^^ t.toNat : Nat) : Int)) = cb (l.set r (x ^^^ t)) := by
           rw [← UInt8.toNat_xor]
           simp [cb, List.map_set]
         rw [hset] at hs4
         have hX4 : Sees ((w3.drewN q3).setCell ⟨g, r, none⟩ (.int .u8 ((x.toNat ^^^ t.toNat : Nat) : Int))) ((w3.drewN q3).setCell ⟨g, r, none⟩ (.int .u8 ((x.toNat ^^^ t.toNat : Nat) : Int))).heap.size (some ⟨g, 0, none⟩) (cb (l.set r (x ^^^ t))) := Fresh.sees hs4
         have hA4 := hA.step hBel4
         obtain ⟨tb, htb⟩ : ∃ tb, tb = decide (t = 0) := ⟨_, rfl⟩
         have h54 : ((t.toNat : Int) == 0) = tb := by
           rw [htb]
           by_cases ht : t = 0
           · subst ht; rfl
           · have : ¬ t.toNat = 0 := fun h => ht (UInt8.toNat_inj.1 h)
             simp [ht, this]
         have hr1 : (l == l.set r (x ^^^ t)) = tb := by rw [htb]; exact set_same l r x t hx
         have hr2 : (l.set r (x ^^^ t) == l) = tb := by rw [← hr1]; exact beq_swap _ _
         have hlen : (l.set r (x ^^^ t)).length = n := by rw [List.length_set]; exact HL.out
         clear hx hset hs4 htb
         generalize l.set r (x ^^^ t) = l4 at *
         generalize hW4 : (w3.drewN q3).setCell ⟨g, r, none⟩ (.int .u8 ((x.toNat ^^^ t.toNat : Nat) : Int)) = w4 at *
         have S4 : Calls Try.prog 62 #[.slice A n c, .slice (some ⟨g, 0, none⟩) n c1] w4 fun e w' => e = .returned (.bool tb) ∧ ∃ k, w' = w4.drewN k := by
           refine (Same_any A (some ⟨g, 0, none⟩) c c1 n n l l4 _ hA4 hX4 HL.out hlen (by omega) (by omega)).mono ?_
           rintro e w' ⟨rfl, k, rfl⟩
           exact ⟨by rw [hr1], k, rfl⟩
         have S5 : ∀ q, Calls Try.prog 62 #[.slice (some ⟨g, 0, none⟩) n c1, .slice A n c] (w4.drewN q) fun e w' => e = .returned (.bool tb) ∧ ∃ k, w' = w4.drewN k := fun q => by
           refine (Same_any (some ⟨g, 0, none⟩) A c1 c n n l4 l _ (hX4.step (below_drewN' (Below.refl _ _) q)) (hA4.step (below_drewN' (Below.refl _ _) q)) hlen HL.out (by omega) (by omega)).mono ?_
           rintro e w' ⟨rfl, k, rfl⟩
           exact ⟨by rw [hr2], q + k, by rw [World.drewN_drewN]⟩
         have H54 := Lib.hid hr1
         clear hr1 hr2)
      | (go_at_call 62
         with_reducible refine Calls.mono S4 ?_; rintro e w' ⟨rfl, q4, rfl⟩)
      | (go_at_call 62; with_reducible refine Calls.mono (S5 _) ?_; rintro e w' ⟨rfl, q5, rfl⟩))
    go_ret
    exact ⟨rfl, Below.then_ (below_drewN' hBel4 _) hB9⟩
end Go.Proofs.Ytoeakidcmjnddaa
