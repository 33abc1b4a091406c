/-
  Both sides' Write and Sum at once, of whatever hasher: right, too long behind the bytes, or not right.
-/
import Derived.Test.YtggcapkipcdlmaaShaWrong
import Derived.Test.YtggcapkipcdlmaaRefSum
namespace Go.Proofs.Ytggcapkipcdlmaa
open Go.RowKit
set_option linter.unusedVariables false

/-- A hasher that is told, its bytes in memory of its own, or those that were handed in. -/
def ToldR (R : Option Addr) (rest : List UInt8) (w : World) (s : List UInt32) (l : List UInt8) (L : Int) (e : Ending) (w' : World) : Prop :=
  ∃ A c, e = .returned (.agg (hz s (.slice A l.length c) L).toArray) ∧ (Fresh w.heap.size 5 w' A l.length c (cb l) ∨ (A = R ∧ l = rest)) ∧ Below w.heap.size w w'
structure ShaCase (first keys s : List UInt32) (L : Int) (rest b : List UInt8) (m n : Nat) (xS : List UInt32) (xR : List UInt8) (xL : Int) (dg : List UInt8) : Prop where
  l8 : xS.length = 8
  l32 : dg.length = 32
  small : xR.length ≤ 100
  write : ∀ (tb tf : Nat) (R A : Option Addr) (cr c : Nat) (w : World), Tab w tb tf first keys → Sees w w.heap.size R (cb rest) → Sees w w.heap.size A (cb b) → n ≤ c → Calls Try.prog 11 #[.pointer (some ⟨tb, tf, none⟩), .agg (hz s (.slice R m cr) L).toArray, .slice A n c] w (Told w xS xR xL)
  rwrite : ∀ (R A : Option Addr) (cr c : Nat) (w : World), Sees w w.heap.size R (cb rest) → Sees w w.heap.size A (cb b) → Calls Try.prog 12 #[.agg (cw (first ++ keys)).toArray, .agg (hz s (.slice R m cr) L).toArray, .slice A n c] w (ToldR R rest w xS xR xL)
  sum : ∀ (tb tf : Nat) (R : Option Addr) (c : Nat) (w : World), Tab w tb tf first keys → Sees w w.heap.size R (cb xR) → Calls Try.prog 15 #[.pointer (some ⟨tb, tf, none⟩), .agg (hz xS (.slice R xR.length c) xL).toArray] w fun e w' => e = .returned (.agg (cb dg).toArray) ∧ Below w.heap.size w w'
  rsum : ∀ (R : Option Addr) (c : Nat) (w : World), Sees w w.heap.size R (cb xR) → Calls Try.prog 16 #[.agg (cw (first ++ keys)).toArray, .agg (hz xS (.slice R xR.length c) xL).toArray] w fun e w' => e = .returned (.agg (cb dg).toArray) ∧ Below w.heap.size w w'
theorem sha_cases (first keys s : List UInt32) (L : Int) (rest b : List UInt8) (m n : Nat) (h1 : first.length = 8) (h2 : keys.length = 64) (hs : s.length = 8) (hm : rest.length = m) (hn : b.length = n) (hm1 : m ≤ 100) (hn1 : n ≤ 500) : ∃ xS xR xL dg, ShaCase first keys s L rest b m n xS xR xL dg := by
  -- the Sum of whatever comes
  have sums : ∀ (xS : List UInt32) (xR : List UInt8) (xL : Int), xS.length = 8 → ∃ dg : List UInt8, dg.length = 32 ∧
      (∀ (tb tf : Nat) (R : Option Addr) (c : Nat) (w : World), Tab w tb tf first keys → Sees w w.heap.size R (cb xR) → Calls Try.prog 15 #[.pointer (some ⟨tb, tf, none⟩), .agg (hz xS (.slice R xR.length c) xL).toArray] w fun e w' => e = .returned (.agg (cb dg).toArray) ∧ Below w.heap.size w w') ∧
      ∀ (R : Option Addr) (c : Nat) (w : World), Sees w w.heap.size R (cb xR) → Calls Try.prog 16 #[.agg (cw (first ++ keys)).toArray, .agg (hz xS (.slice R xR.length c) xL).toArray] w fun e w' => e = .returned (.agg (cb dg).toArray) ∧ Below w.heap.size w w' := by
    intro xS xR xL l8
    by_cases hr : Right xR.length xL
    · obtain ⟨k, rfl⟩ := Int.eq_ofNat_of_zero_le hr.1
      refine ⟨sumF keys xS xR k, ?_, fun tb tf R c w ht hR => Sum_any tb tf first keys xS R xR.length c k xR w ht l8 hr hR rfl, fun R c w hR => rSum_any first keys xS R xR.length c k xR w h1 h2 l8 hr hR rfl⟩
      unfold sumF
      rw [len_digF, show (stAll keys xS (xR ++ padL k)).length = 8 from len_stN _ _ _ l8 _]
    · exact ⟨List.replicate 32 0, by simp, fun tb tf R c w ht hR => Sum_wrong tb tf xS R xR.length c xL w l8 hr, fun R c w hR => rSum_no first keys xS R xR.length c xL w h1 h2 l8 hr⟩
  by_cases hr : Right m L
  · have l8 : (stAll keys s (rest ++ b)).length = 8 := len_stN _ _ _ hs _
    obtain ⟨dg, d1, d2, d3⟩ := sums (stAll keys s (rest ++ b)) (left (rest ++ b)) (L + n) l8
    refine ⟨_, _, _, dg, l8, d1, ?_, fun tb tf R A cr c w ht hR hA hc => (Write_any tb tf first keys s R A m cr n c L rest b w ht hs hr hR hm hA hn hc (by omega)), fun R A cr c w hR hA => (rWrite_any first keys s R A m cr n c L rest b w h1 h2 hs hr hR hm hA hn (by omega)).mono fun e w' ⟨A', c', e1, e2, e3⟩ => ⟨A', c', e1, .inl e2, e3⟩, d2, d3⟩
    rw [len_left]
    omega
  · obtain ⟨dg, d1, d2, d3⟩ := sums s rest L hs
    refine ⟨s, rest, L, dg, hs, d1, by omega, fun tb tf R A cr c w ht hR hA hc => Write_wrong tb tf s R A m cr n c L rest w hs hr hR hm (by omega), fun R A cr c w hR hA => (rWrite_no first keys s R A m cr n c L w h1 h2 hs hr).mono ?_, d2, d3⟩
    rintro e w' ⟨rfl, hB⟩
    exact ⟨R, cr, by rw [hm], .inr ⟨rfl, rfl⟩, hB⟩
end Go.Proofs.Ytggcapkipcdlmaa
