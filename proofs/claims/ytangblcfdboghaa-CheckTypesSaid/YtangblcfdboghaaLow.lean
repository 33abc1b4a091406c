/-
  Strings of bytes, append of bytes and words as laws of the walk, and what CopyBytes, SameBytes, CopyWords and SameWords answer, for every input.
-/
import Derived.Test.YtangblcfdboghaaPut
import Derived.Test.YtangblcfdboghaaGrow
import Derived.Test.YtangblcfdboghaaPure
namespace Go.Proofs.Ytangblcfdboghaa
open Go.RowKit
set_option linter.unusedVariables false

/-- 'string(b)': the bytes that the slice reads as. -/
theorem run_str {w : World} {B : Nat} {A : Option Addr} {l : List UInt8} {n : Nat} (hs : Sees w B A (cb l)) (hl : l.length = n) (c : Nat) :
    (convert 27 9 (.slice A n c)).run Try.prog w = .ok (.string ⟨l.toArray⟩) w := by
  subst hl
  by_cases h0 : l.length = 0
  · obtain rfl : l = [] := List.eq_nil_of_length_eq_zero h0
    cases A with
    | none => exact run_convert_bytes_nil (P := Try.prog) w 27 5 Try.underlying27 Try.underlying5 0 c 9 Try.underlying9
    | some a => exact run_convert_bytes_back (P := Try.prog) w 27 9 5 a c [] Try.underlying27 Try.underlying5 Try.underlying9 (fun j hj => by simp at hj)
  · obtain ⟨b, o, rfl, _, hc⟩ := hs (by simp; omega)
    exact run_convert_bytes_back (P := Try.prog) w 27 9 5 _ c l Try.underlying27 Try.underlying5 Try.underlying9 (fun j hj => by rw [Addr.add_lit]; exact hc j _ (get_cb l j hj))

theorem none_app {w : World} {base : Nat} {A : Option Addr} {n c d : Nat} {xs : List Value} {ty : TypeId} (hF : Fresh base 5 w A n c xs) :
    (Builtin.append_ #[27, 27] ty #[.slice A n c, .slice none 0 d]).run Try.prog w = .ok (.slice A n c) w := by
  obtain ⟨i0, hi, hz0, hz1, hz2⟩ := info_parts info8
  rcases hF.2 with ⟨hv, rfl⟩ | ⟨g, cap, cur, hv, _, _, hnc, _⟩
  · rw [hv]
    simp [Builtin.append_, run_underlying Try.underlying27, sizeOf, typeInfo, hi, Builtin.lenOf, Builtin.firstCells]
  · rw [hv]
    simp [Builtin.append_, run_underlying Try.underlying27, sizeOf, typeInfo, hi, Builtin.lenOf, Builtin.firstCells, hnc, storeCells]

/-- 'append(dst, src...)', dst in new memory (or nil), src whatever slice of bytes. -/
theorem wpList_app8 {w : World} {ops : Array Oper} {rest : List Oper} {o : Oper} {a : Act} {Q : Exit → Act → World → Prop} (hg : o.guard = none) (s x : Operand)
    (hop : o.op = .call { callee := .builtin .append, args := #[s, x], argTypes := #[27, 27] })
    (D A : Option Addr) (n c m d : Nat) (cur l : List UInt8) (w0 : World) (hs : a.eval s = .slice D n c) (hx : a.eval x = .slice A m d)
    (hF : Fresh w0.heap.size 5 w D n c (cb cur)) (hS : Sees w w.heap.size A (cb l)) (hl : l.length = m) (hn : n + m ≤ 1099511627776) (hb : Below w0.heap.size w0 w)
    (hK : ∀ A' c' w', Fresh w0.heap.size 5 w' A' (n + m) c' (cb (cur ++ l)) → Below w0.heap.size w0 w' → wpList Try.prog ops Q rest (a.put o.dst (.slice A' (n + m) c')) w') :
    wpList Try.prog ops Q (o :: rest) a w := by
  obtain ⟨i0, hi, hz0, hz1, hz2⟩ := info_parts info8
  have h1 : ∀ u ∈ cb l, u.oneCell' = true := cb_one l
  have main : ∀ ad, A = some ad → (∀ j u, (cb l)[j]? = some u → w.cell? (ad.add j) = some u) → wpList Try.prog ops Q (o :: rest) a w := by
    intro ad hA hc
    refine wpList_append_own w hg s x 27 hop w0.heap.size 5 i0 (.int .u8 0) 1 1 Try.underlying27 hi hz0 hz1 hz2 rfl (by omega) _ n (cb cur) hs hF ad m d (cb l) (by rw [hx, hA]) (by simp [hl]) hc h1 (by unfold maxLen; omega) (by omega) hb.size ?_
    intro v' w' hown hgr hnil
    have hB : Below w0.heap.size w0 w' := hb.grown hgr hb.size (fun k hk => (hF.lt k hk).1)
    rw [show cb cur ++ cb l = cb (cur ++ l) from by simp [cb]] at hown
    rcases hown.2 with ⟨rfl, h0⟩ | ⟨g, cap, cu, rfl, _⟩
    · rw [h0] at hown hK
      exact hK none 0 w' hown hB
    · exact hK _ cap w' hown hB
  by_cases h0 : m = 0
  · subst h0
    obtain rfl : l = [] := List.eq_nil_of_length_eq_zero hl
    cases hA : A with
    | none =>
      rw [hA] at hx
      refine wpList_plain hg fun K hK' => ?_
      have hrun := none_app (d := d) (ty := o.type) hF
      unfold Oper.wp
      simp [execOp, hop, resolve, invoke, builtin, hs, hx, hrun, Result.andThen]
      have := hK D c w (by simpa using hF) hb
      exact hK' _ _ (by simpa using this)
    | some ad => exact main ad hA (fun j u hj => by simp at hj)
  · obtain ⟨b, off, hA, _, hc⟩ := hS (by simp; omega)
    exact main _ hA (fun j u hj => by rw [Addr.add_lit]; exact hc j u hj)

/-- A list of bytes in new memory. -/
def Made8 (w : World) (n : Nat) (l : List UInt8) (e : Ending) (w' : World) : Prop :=
  ∃ A c, e = .returned (.slice A n c) ∧ Fresh w.heap.size 5 w' A n c (cb l) ∧ Below w.heap.size w w'

/-- A list of words in new memory. -/
def Made32 (w : World) (n : Nat) (l : List UInt32) (e : Ending) (w' : World) : Prop :=
  ∃ A c, e = .returned (.slice A n c) ∧ Fresh w.heap.size 92 w' A n c (cw l) ∧ Below w.heap.size w w'

theorem take_same (l b : List UInt32) (k : Nat) (x y : UInt32) (h : l.take k = b.take k) (hx : l[k]? = some x) (hy : b[k]? = some y) (e : x = y) : l.take (k + 1) = b.take (k + 1) := by
  subst e
  rw [List.take_add_one, List.take_add_one, h, hx, hy]

end Go.Proofs.Ytangblcfdboghaa
