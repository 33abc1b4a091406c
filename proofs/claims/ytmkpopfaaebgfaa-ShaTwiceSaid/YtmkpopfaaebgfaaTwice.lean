/-
  Hashers to which bytes have been written, as one value: what Write, Sum and CopyHasher make of them.
-/
import Derived.Test.YtmkpopfaaebgfaaCopyHasher
import Derived.Test.YtmkpopfaaebgfaaShaAwake
import Derived.Test.YtmkpopfaaebgfaaRow
namespace Go.Proofs.Ytmkpopfaaebgfaa
open Go.RowKit
set_option linter.unusedVariables false

theorem Fresh.place {w : World} {base : Nat} {e : TypeId} {A : Option Addr} {n c : Nat} {xs : List Value} (h : Fresh base e w A n c xs) (hn : 0 < n) : ∃ g, A = some ⟨g, 0, none⟩ ∧ base ≤ g ∧ g < w.heap.size := by
  rcases h.2 with ⟨hv, h0⟩ | ⟨g, cap, cur, hv, hb, hg, _⟩
  · omega
  · simp only [Value.slice.injEq] at hv
    exact ⟨g, hv.1, hb, (Array.getElem?_eq_some_iff.1 hg).1⟩
/-- A hasher to which these bytes were written. -/
def hv (first keys : List UInt32) (pre : List UInt8) (R : Option Addr) (c : Nat) : List Value := hz (stAll keys first pre) (.slice R (left pre).length c) (pre.length : Int)
theorem len_st (keys first : List UInt32) (pre : List UInt8) (h : first.length = 8) : (stAll keys first pre).length = 8 := len_stN keys first pre h (pre.length / 64)
section
variable {first keys : List UInt32} {pre : List UInt8} {R : Option Addr} {c : Nat}
theorem hv_len (h : first.length = 8) : (hv first keys pre R c).length = 10 := hz_len _ _ _ (len_st _ _ _ h)
theorem hv_rest (h : first.length = 8) : (hv first keys pre R c)[8]? = some (.slice R (left pre).length c) := hz_rest _ _ _ (len_st _ _ _ h)
theorem hv_one : ∀ u ∈ hv first keys pre R c, u.oneCell' = true := hz_one _ _ _ rfl
theorem right_of (pre : List UInt8) (h : pre.length ≤ 1000) : Right (left pre).length (pre.length : Int) := by
  refine ⟨by omega, by omega, ?_⟩
  rw [len_left]
  omega
theorem hv_none (first keys : List UInt32) : hz first (.slice none 0 0) 0 = hv first keys [] none 0 := rfl
def ToldH (first keys : List UInt32) (pre : List UInt8) (w : World) (e : Ending) (w' : World) : Prop :=
  ∃ R c, e = .returned (.agg (hv first keys pre R c).toArray) ∧ Fresh w.heap.size 5 w' R (left pre).length c (cb (left pre)) ∧ Below w.heap.size w w'
theorem write_again (tb to : Nat) (A : Option Addr) (n d : Nat) (b : List UInt8) (w : World) (ht : Tab w tb to first keys) (h1 : first.length = 8) (hR : Sees w w.heap.size R (cb (left pre))) (hA : Sees w w.heap.size A (cb b)) (hn : b.length = n) (hnd : n ≤ d) (hp : pre.length ≤ 1000) (hc : n ≤ 1000) (all : List UInt8) (hall : pre ++ b = all) :
    Calls Try.prog 42 #[.pointer (some ⟨tb, to, none⟩), .agg (hv first keys pre R c).toArray, .slice A n d] w (ToldH first keys all w) := by
  subst hall
  refine (Write_any tb to first keys (stAll keys first pre) R A (left pre).length c n d (pre.length : Int) (left pre) b w ht (len_st _ _ _ h1) (right_of pre hp) hR rfl hA hn hnd (by omega)).mono ?_
  rintro e w' ⟨R', c', rfl, hF, hB⟩
  rw [stAll_append, left_append]
  rw [left_append] at hF
  refine ⟨R', c', ?_, hF, hB⟩
  unfold hv
  rw [List.length_append, hn, Int.natCast_add]
theorem sum_again (tb to : Nat) (w : World) (ht : Tab w tb to first keys) (h1 : first.length = 8) (hR : Sees w w.heap.size R (cb (left pre))) (hp : pre.length ≤ 1000) (dg : List UInt8) (hd : ofF first keys pre = dg) :
    Calls Try.prog 44 #[.pointer (some ⟨tb, to, none⟩), .agg (hv first keys pre R c).toArray] w fun e w' => e = .returned (.agg (cb dg).toArray) ∧ Below w.heap.size w w' := by
  subst hd
  exact Sum_any tb to first keys (stAll keys first pre) R (left pre).length c pre.length (left pre) w ht (len_st _ _ _ h1) (right_of pre hp) hR rfl
theorem copy_again (w : World) (h1 : first.length = 8) (hR : Sees w w.heap.size R (cb (left pre))) :
    Calls Try.prog 50 #[.agg (hv first keys pre R c).toArray] w (ToldH first keys pre w) := by
  have hll : (left pre).length ≤ 1000 := by rw [len_left]; omega
  exact CopyHasher_any (stAll keys first pre) R (left pre).length c (pre.length : Int) (left pre) w (len_st _ _ _ h1) hR rfl hll
theorem same_again (w : World) (A B : Option Addr) (d e : Nat) (h1 : first.length = 8) (hA : Sees w w.heap.size A (cb (left pre))) (hB : Sees w w.heap.size B (cb (left pre))) :
    Calls Try.prog 43 #[.agg (hv first keys pre A d).toArray, .agg (hv first keys pre B e).toArray] w fun e w' => e = .returned (.bool true) ∧ Below w.heap.size w w' :=
  SameHasher_true (stAll keys first pre) A B (left pre).length d e (pre.length : Int) (left pre) w (len_st _ _ _ h1) hA hB rfl
theorem len_of (first keys : List UInt32) (b : List UInt8) (h1 : first.length = 8) : (ofF first keys b).length = 32 := by
  unfold ofF sumF
  rw [len_digF, show (stAll keys (stAll keys first b) (left b ++ padL b.length)).length = 8 from len_stN _ _ _ (len_st _ _ _ h1) _]
/-- A hasher that lies in a box. -/
structure HBox (base : Nat) (w : World) (g : Nat) (first keys : List UInt32) (pre : List UInt8) (R : Option Addr) (c : Nat) : Prop where
  obj : Fresh base 53 w (some ⟨g, 0, none⟩) 10 10 (hv first keys pre R c)
  row : Sees w w.heap.size R (cb (left pre))
theorem HBox.step {base g : Nat} {w w' : World} (h : HBox base w g first keys pre R c) (x : Below w.heap.size w w') : HBox base w' g first keys pre R c := ⟨h.obj.below x, h.row.step x⟩
theorem splice_h (h : first.length = 8) : splice (hz (List.replicate 8 0) (.slice none 0 0) 0) 0 (hv first keys pre R c) = hv first keys pre R c := by
  have := hv_len (keys := keys) (pre := pre) (R := R) (c := c) h
  simp [splice, this]
/-- A new box, the hasher in it: what was there stays. -/
theorem Sees.kept {w w' : World} {A : Option Addr} {xs : List Value} (h : Sees w w.heap.size A xs) (hs : w.heap.size ≤ w'.heap.size) (hk : ∀ k, k < w.heap.size → w'.heap[k]? = w.heap[k]?) : Sees w' w'.heap.size A xs := fun hn => by
  obtain ⟨b, o, e, hb, hc⟩ := h hn
  refine ⟨b, o, e, by omega, fun j u hj => ?_⟩
  have := hc j u hj
  unfold World.cell? at this ⊢
  simp only at this ⊢
  rw [hk b hb]
  exact this
end
end Go.Proofs.Ytmkpopfaaebgfaa
