/-
  A hasher's block while pieces are written to it: what is known, and one piece more.
-/
import Derived.Test.YtpdfalgjmeagjaaBetween
import Derived.Test.YtpdfalgjmeagjaaShaSame
import Derived.Test.YtpdfalgjmeagjaaRow
import Derived.Test.YtpdfalgjmeagjaaByVal
namespace Go.Proofs.Ytpdfalgjmeagjaa
open Go.RowKit
set_option linter.unusedVariables false
section
variable {P : Program} {ops : Array Oper} {Q : Exit → Act → World → Prop} {pr : Nat → Value → World → Prop} {a : Act} {w : World} {o : Oper} {i : Nat}
theorem stepOk_val_w {v : Value} (hw : Region.wanted o (yielded ops a.tmps) = true) (hrun : (execOp a.eval o).run P w = .ok (.value v) w) (hp : pr i v w) : StepOk P ops Q pr i o a w := by
  unfold StepOk
  rw [if_pos hw]
  unfold Oper.wp
  rw [hrun]
  exact ⟨v, rfl, hp, Below.refl _ _⟩
end
/-- What is known of a hasher's block while pieces are written: at bytes of b so far. -/
structure HasB (first keys : List UInt32) (b : List UInt8) (W : World) (gh at_ : Nat) (R : Option Addr) (cr : Nat) (wr : World) : Prop where
  row : Fresh W.heap.size 31 wr (some ⟨gh, 0, none⟩) 10 10 (hz (stAll keys first (b.take at_)) (.slice R (at_ % 64) cr) (at_ : Int))
  rest : Fresh (gh + 1) 5 wr R (at_ % 64) cr (cb (left (b.take at_)))
  below : Below W.heap.size W wr
theorem HasB.step {first keys : List UInt32} {b : List UInt8} {W wr w' : World} {gh at_ cr : Nat} {R : Option Addr} (h : HasB first keys b W gh at_ R cr wr) (hb : Below wr.heap.size wr w') : HasB first keys b W gh at_ R cr w' := ⟨h.row.below hb, h.rest.below hb, Below.then_ h.below hb⟩
theorem left_len (b : List UInt8) (k n : Nat) (hb : b.length = n) (hk : k ≤ n) : (left (b.take k)).length = k % 64 := by
  rw [len_left, List.length_take, hb, Nat.min_eq_left hk]
theorem take_piece (b : List UInt8) (l h : Nat) (hl : l ≤ h) : b.take l ++ (b.drop l).take (h - l) = b.take h := by
  rw [show h = l + (h - l) from by omega, List.take_add]
  simp
/-- A piece more is written to it. -/
theorem piece_call (tb to : Nat) (first keys : List UInt32) (b : List UInt8) (W wr : World) (gh l h n c cr : Nat) (R A' : Option Addr) (ht : Tab wr tb to first keys) (hH : HasB first keys b W gh l R cr wr) (hn : b.length = n) (hl : l ≤ h) (hh : h ≤ n) (hc : n ≤ c) (hn7 : n ≤ 700)
    (hS : Sees wr wr.heap.size A' (cb ((b.drop l).take (h - l)))) :
    Calls Try.prog 17 #[.pointer (some ⟨tb, to, none⟩), .agg (hz (stAll keys first (b.take l)) (.slice R (l % 64) cr) (l : Int)).toArray, .slice A' (h - l) (c - l)] wr
      fun e w' => ∃ R' c', e = .returned (.agg (hz (stAll keys first (b.take h)) (.slice R' (h % 64) c') (h : Int)).toArray) ∧ Fresh wr.heap.size 5 w' R' (h % 64) c' (cb (left (b.take h))) ∧ Below wr.heap.size wr w' := by
  refine (Write_any tb to first keys (stAll keys first (b.take l)) R A' (l % 64) cr (h - l) (c - l) (l : Int) (left (b.take l)) ((b.drop l).take (h - l)) wr ht (len_stN _ _ _ ht.l1 _) ⟨by omega, by omega, by omega⟩ hH.rest.sees (left_len b l n hn (by omega)) hS (by rw [List.length_take, List.length_drop]; omega) (by omega) (by omega)).mono ?_
  rintro e w' ⟨R', c', rfl, hF, hB⟩
  rw [left_append, take_piece b l h hl] at hF
  rw [left_append, stAll_append, take_piece b l h hl]
  have e1 := left_len b h n hn hh
  rw [e1] at hF
  rw [e1]
  have e2 : (l : Int) + ((h - l : Nat) : Int) = (h : Int) := by omega
  rw [e2]
  exact ⟨R', c', rfl, hF, hB⟩
/-- Its own store. -/
theorem HasB.stored {first keys : List UInt32} {b : List UInt8} {W wr w5 w6 : World} {gh h c' : Nat} {R' : Option Addr} (hg : W.heap.size ≤ gh) (hgl : gh < wr.heap.size) (hF : Fresh wr.heap.size 5 w5 R' (h % 64) c' (cb (left (b.take h))))
    (hrow : Fresh W.heap.size 31 w6 (some ⟨gh, 0, none⟩) 10 10 (hz (stAll keys first (b.take h)) (.slice R' (h % 64) c') (h : Int))) (hoth : ∀ k, k ≠ gh → w6.heap[k]? = w5.heap[k]?) (hb : Below W.heap.size W w6) : HasB first keys b W gh h R' c' w6 :=
  ⟨hrow, (hF.others fun k hk => hoth k (by omega)).lower (by omega), hb⟩
def pieceFacts (N n c l h : Nat) (A : Option Addr) (first keys : List UInt32) (b : List UInt8) (hv : Value) (j : Nat) (v : Value) (w : World) : Prop :=
  match j with
  | 0 => v = hv
  | 1 => v = .slice A n c
  | 2 => v = .int .i64 (l : Int)
  | 3 => v = .int .i64 (h : Int)
  | 4 => ∃ A', v = .slice A' (h - l) (c - l) ∧ Sees w w.heap.size A' (cb ((b.drop l).take (h - l)))
  | 5 => ∃ R' c', v = .agg (hz (stAll keys first (b.take h)) (.slice R' (h % 64) c') (h : Int)).toArray ∧ Fresh N 5 w R' (h % 64) c' (cb (left (b.take h)))
  | _ => True
theorem pieceFacts_stab (N n c l h : Nat) (A : Option Addr) (first keys : List UInt32) (b : List UInt8) (hv : Value) : ∀ j v w w', Below w.heap.size w w' → pieceFacts N n c l h A first keys b hv j v w → pieceFacts N n c l h A first keys b hv j v w' := by
  intro j v w w' hb hp
  unfold pieceFacts at *
  split at hp <;> first | exact hp | (obtain ⟨A', h1, h2⟩ := hp; exact ⟨A', h1, h2.step hb⟩) | (obtain ⟨R', c', h1, h2⟩ := hp; exact ⟨R', c', h1, h2.below hb⟩) | trivial
end Go.Proofs.Ytpdfalgjmeagjaa
