/-
  The pieces of words of a drive, sector by sector: the contract of the range function.
-/
import Derived.Test.YtjmofjcdcmbecaaDrLeaf
import Derived.Test.YtjmofjcdcmbecaaRound
import Derived.RangeFuncKeeps
import Derived.RangeFuncLeaves
import Derived.RangeFuncWrites
import Derived.Shelf.Abstract
import Derived.WalkKit
import Derived.OwnWalkIn
import Derived.TacticsInMore
import Derived.LoopNIn
import Derived.LoopIn
namespace Go.Proofs.Ytjmofjcdcmbecaa
open Go.RowKit Go.Shelf
set_option linter.unusedVariables false
attribute [local go_sem] Oper.semAt_some

/-- Where the piece ends that begins with this one of the call's words. -/
def pieceEnd (at_ many c : Nat) : Nat := min (c + 64 - (at_ + c) % 64) many
theorem pieceEnd_gt (at_ many c : Nat) (h : c < many) : c < pieceEnd at_ many c := by
  unfold pieceEnd
  have := Nat.mod_lt (at_ + c) (show 0 < 64 by decide)
  omega
theorem pieceEnd_le (at_ many c : Nat) : pieceEnd at_ many c ≤ many := Nat.min_le_right _ _
/-- A piece, by the word that it begins with. -/
abbrev Pc (many : Nat) := { c : Nat // c < many }
def pieceV (f at_ many c : Nat) : Value := .agg #[.int .i64 ((f + (at_ + c) / 64 : Nat) : Int), .int .i64 (((at_ + c) % 64 : Nat) : Int), .int .i64 (c : Int), .int .i64 (pieceEnd at_ many c : Int)]
/-- Up to which word these pieces go, if they come one behind the other. -/
def upto (at_ many : Nat) : List (Pc many) → Option Nat
  | [] => some 0
  | l => l.foldl (fun o x => match o with
    | some c => if c = x.1 then some (pieceEnd at_ many c) else none
    | none => none) (some 0)
theorem upto_eq (at_ many : Nat) (l : List (Pc many)) : upto at_ many l = l.foldl (fun o x => match o with
    | some c => if c = x.1 then some (pieceEnd at_ many c) else none
    | none => none) (some 0) := by cases l <;> rfl
theorem upto_snoc (at_ many : Nat) (l : List (Pc many)) (x : Pc many) : upto at_ many (l ++ [x]) = match upto at_ many l with
    | some c => if c = x.1 then some (pieceEnd at_ many c) else none
    | none => none := by
  rw [upto_eq, List.foldl_append, ← upto_eq]
  rfl
theorem upto_next {at_ many c : Nat} {l : List (Pc many)} (h : upto at_ many l = some c) (hc : c < many) : upto at_ many (l ++ [⟨c, hc⟩]) = some (pieceEnd at_ many c) := by
  rw [upto_snoc, h]
  simp
theorem upto_back {at_ many e : Nat} {l : List (Pc many)} {x : Pc many} (h : upto at_ many (l ++ [x]) = some e) : upto at_ many l = some x.1 ∧ e = pieceEnd at_ many x.1 := by
  rw [upto_snoc] at h
  split at h
  · rename_i c hc
    split at h
    · rename_i hx
      subst hx
      simp at h
      exact ⟨hc, h.symm⟩
    · cases h
  · cases h
theorem heap_drewN (w : World) (n k : Nat) : (w.drewN n).heap[k]? = w.heap[k]? := by
  by_cases h : k < w.heap.size
  · exact (below_drewN' (Below.refl w.heap.size w) n).block k h
  · have h1 : (w.drewN n).heap.size = w.heap.size := by
      induction n with
      | zero => rfl
      | succ n ih => exact ih
    rw [Array.getElem?_eq_none (by omega), Array.getElem?_eq_none (by omega)]
/-- These four blocks lie as they lay. -/
def Four_ (g1 g2 g3 d k : Nat) : Prop := k = g1 ∨ k = g2 ∨ k = g3 ∨ k = d
def ButB (g1 g2 g3 d : Nat) (W W' : World) : Prop := W.heap.size ≤ W'.heap.size ∧ ∀ k, Four_ g1 g2 g3 d k → W'.heap[k]? = W.heap[k]?
theorem ButB.trans {g1 g2 g3 d : Nat} {A B C : World} (h : ButB g1 g2 g3 d A B) (k : ButB g1 g2 g3 d B C) : ButB g1 g2 g3 d A C := ⟨Nat.le_trans h.1 k.1, fun q h1 => (k.2 q h1).trans (h.2 q h1)⟩
theorem ButB.put {g1 g2 g3 d : Nat} {w : World} (hn : ∀ k, Four_ g1 g2 g3 d k → k < w.heap.size) (W : World) (l : Nat) (o o' : Obj) (hl : w.heap.size ≤ l) (h : W.heap[l]? = some o) (_ : o.isCells = false) (_ : o.isWalk = false) : ButB g1 g2 g3 d W (W.putObj l o') :=
  ⟨by simp, fun k h1 => World.putObj_heap_other (by have := hn k h1; omega)⟩
theorem ButB.of_below {g1 g2 g3 d B : Nat} {W W' : World} (x : Below B W W') (hn : ∀ k, Four_ g1 g2 g3 d k → k < B) : ButB g1 g2 g3 d W W' := ⟨x.size, fun k h => x.block k (hn k h)⟩
theorem ButB.cell {g1 g2 g3 d g j : Nat} {W W' : World} {u : Value} (h : ButB g1 g2 g3 d W W') (hg : Four_ g1 g2 g3 d g) (hc : W.cell? ⟨g, j, none⟩ = some u) : W'.cell? ⟨g, j, none⟩ = some u := by
  unfold World.cell? at hc ⊢
  simp only at hc ⊢
  rw [h.2 g hg]
  exact hc
/-- What the range function reads between its rounds. -/
structure Reads (g1 g2 g3 d f at_ many : Nat) (W : World) : Prop where
  many_ : W.cell? ⟨g1, 0, none⟩ = some (.int .i64 (many : Int))
  at__ : W.cell? ⟨g2, 0, none⟩ = some (.int .i64 (at_ : Int))
  drive : W.cell? ⟨g3, 0, none⟩ = some (.pointer (some ⟨d, 0, none⟩))
  first : W.cell? ⟨d, 2, none⟩ = some (.int .i64 (f : Int))
theorem Reads.kept {g1 g2 g3 d f at_ many : Nat} {W W' : World} (h : Reads g1 g2 g3 d f at_ many W) (x : ButB g1 g2 g3 d W W') : Reads g1 g2 g3 d f at_ many W' :=
  ⟨x.cell (.inl rfl) h.many_, x.cell (.inr (.inl rfl)) h.at__, x.cell (.inr (.inr (.inl rfl))) h.drive, x.cell (.inr (.inr (.inr rfl))) h.first⟩
set_option maxRecDepth 100000 in
set_option maxHeartbeats 2000000 in
theorem pieces_in (n : Nat) (hn : 1 ≤ n) (l g1 g2 g3 d f at_ many : Nat) (hf : f ≤ 1024) (hat : at_ + many ≤ 65536) (J Jx : List (Pc many) → World → Prop)
    (hY : ∀ pre x W, J pre W → pre.length < many → YieldAt Fence.wide (n - 1) Try.prog l #[pieceV f at_ many x.1] W fun e W' =>
      (e = .returned (.bool true) ∧ J (pre ++ [x]) W' ∧ ButB g1 g2 g3 d W W') ∨ (e = .returned (.bool false) ∧ Jx (pre ++ [x]) W'))
    (W : World) (hdrew : ∀ pre W q, J pre W → J pre (W.drewN q)) (hR : Reads g1 g2 g3 d f at_ many W) (h0 : J [] W) :
    CallsIn Fence.wide n Try.prog 133 #[.func (.yield l) #[] #[], .pointer (some ⟨g1, 0, none⟩), .pointer (some ⟨g2, 0, none⟩), .pointer (some ⟨g3, 0, none⟩)] W fun e W' => (∃ v, e = .returned v) ∧
      ((∃ ys, upto at_ many ys = some many ∧ J ys W') ∨ (∃ pre, (∃ t, upto at_ many pre = some t) ∧ Jx pre W')) := by
  refine callsIn_of_wp Try.func133 rfl trivial ?_ rfl
  simp only [Try.ntmps133, List.size_toArray, List.length_cons, List.length_nil, Nat.reduceAdd, Nat.reduceSub, Array.replicate_succ, Array.replicate_zero, List.push_toArray, List.append_toArray, List.nil_append, List.cons_append]
  gi_wp2
  gi_loopw [5] (fun c wr => ∃ (k : Nat) (pre : List (Pc many)), k ≤ many ∧ c = .int .i64 (k : Int) ∧ upto at_ many pre = some k ∧ pre.length ≤ k ∧ Reads g1 g2 g3 d f at_ many wr ∧ J pre wr)
    (fun c _ => many - (intOf c).toNat)
  case atStart => exact ⟨0, [], by omega, rfl, rfl, Nat.le_refl _, hR, h0⟩
  case round =>
    obtain ⟨k, pre, hk, rfl, hu, hpl, hRd, hJ⟩ := hrel
    have r1 := hRd.many_
    have r2 := hRd.at__
    have r3 := hRd.drive
    have r4 := hRd.first
    by_cases hlt : k < many
    · obtain ⟨σ, hσ⟩ : ∃ σ, (at_ + k) / 64 = σ := ⟨_, rfl⟩
      obtain ⟨α, hα⟩ : ∃ α, (at_ + k) % 64 = α := ⟨_, rfl⟩
      have hα64 : α < 64 := by omega
      have hσ2 : σ ≤ 1024 := by omega
      have hquo : ((at_ : Int) + (k : Int)).tdiv 64 = (σ : Int) := by rw [Int.tdiv_eq_ediv_of_nonneg (by omega)]; omega
      have hrem : ((at_ : Int) + (k : Int)).tmod 64 = (α : Int) := by rw [Int.tmod_eq_emod_of_nonneg (by omega)]; omega
      obtain ⟨e, he⟩ : ∃ e, pieceEnd at_ many k = e := ⟨_, rfl⟩
      have hgt := pieceEnd_gt at_ many k hlt
      have hle := pieceEnd_le at_ many k
      rw [he] at hgt hle
      have hpv : pieceV f at_ many k = .agg #[.int .i64 ((f : Int) + (σ : Int)), .int .i64 (α : Int), .int .i64 (k : Int), .int .i64 (e : Int)] := by
        unfold pieceV
        rw [hσ, hα, he, Int.natCast_add]
      have hY2 := hY pre ⟨k, hlt⟩ 
      have hun := upto_next hu hlt
      rw [he] at hun
      unfold pieceEnd at he
      rw [hα] at he
      rw [hpv] at hY2
      have hw1 := wrapI ((at_ : Int) + (k : Int)) (by omega) (by omega)
      gi_wp2
      refine wpIn_wide.2 ?_
      go_quiet (fail)
      have hJ2 := hdrew _ _ nq hJ
      have hRd2 : Reads g1 g2 g3 d f at_ many (wr.drewN nq) := hRd.kept ⟨(below_drewN' (Below.refl wr.heap.size wr) nq).size, fun q _ => heap_drewN wr nq q⟩
      obtain ⟨fn, tmps, assign, body, hy, hRn⟩ := hY2 (wr.drewN nq) hJ2 (by omega)
      generalize hWq : wr.drewN nq = wq at *
      have r1 := hRd2.many_
      have r2 := hRd2.at__
      have r3 := hRd2.drive
      have r4 := hRd2.first
      by_cases hmin : (k : Int) + 64 - (α : Int) ≤ (many : Int)
      · obtain rfl : k + 64 - α = e := by omega
        have he2 : ((k + 64 - α : Nat) : Int) = (k : Int) + 64 - (α : Int) := by omega
        rw [he2] at hy
        gi_wp2
        refine hRn.mono ?_
        rintro e' W3 (⟨rfl, hJ3, hk3⟩ | ⟨rfl, hJx3⟩)
        · have hRd3 := hRd2.kept hk3
          clear hY hY2 hRn hy hRd hRd2 hJ hJ2 hdrew r1 r2 r3 r4
          gi_wp2
          go_roundw
          case rel => exact ⟨k + 64 - α, pre ++ [⟨k, hlt⟩], hle, by rw [he2], hun, by rw [List.length_append]; simp; omega, hRd3, hJ3⟩
          case measure => simp [intOf]; omega
        · clear hY hY2 hRn hy hRd hRd2 hJ hJ2 hdrew r1 r2 r3 r4
          gi_wp2
          refine bodyPost_ret (results_none rfl _ _ _) rfl ?_
          exact ⟨⟨_, rfl⟩, .inr ⟨pre ++ [⟨k, hlt⟩], ⟨_, hun⟩, hJx3⟩⟩
      · obtain rfl : many = e := by omega
        gi_wp2
        refine hRn.mono ?_
        rintro e' W3 (⟨rfl, hJ3, hk3⟩ | ⟨rfl, hJx3⟩)
        · have hRd3 := hRd2.kept hk3
          clear hY hY2 hRn hy hRd hRd2 hJ hJ2 hdrew r1 r2 r3 r4
          gi_wp2
          go_roundw
          case rel => exact ⟨many, pre ++ [⟨k, hlt⟩], hle, rfl, hun, by rw [List.length_append]; simp; omega, hRd3, hJ3⟩
          case measure => simp [intOf]; omega
        · clear hY hY2 hRn hy hRd hRd2 hJ hJ2 hdrew r1 r2 r3 r4
          gi_wp2
          refine bodyPost_ret (results_none rfl _ _ _) rfl ?_
          exact ⟨⟨_, rfl⟩, .inr ⟨pre ++ [⟨k, hlt⟩], ⟨_, hun⟩, hJx3⟩⟩
    · obtain rfl : k = many := by omega
      have hb : decide ((k : Int) < (k : Int)) = false := by simp
      gi_wp2
      go_end0
      exact ⟨⟨_, rfl⟩, .inl ⟨pre, hu, hJ⟩⟩
theorem drewN_grown (W : World) (q : Nat) : W.grownBy (W.drewN q) none :=
  have h := below_drewN' (Below.refl W.heap.size W) q
  ⟨h.os, h.tape, h.output, h.size, fun k hk _ => h.block k hk⟩
/-- The range function's contract. -/
theorem pieces_stops (n : Nat) (hn : 1 ≤ n) (g1 g2 g3 d f at_ many : Nat) (hf : f ≤ 1024) (hat : at_ + many ≤ 65536) (w : World) (hR : Reads g1 g2 g3 d f at_ many w) (hl : ∀ k, Four_ g1 g2 g3 d k → k < w.heap.size) :
    SeqStopsK Fence.wide n Try.prog 133 #[.pointer (some ⟨g1, 0, none⟩), .pointer (some ⟨g2, 0, none⟩), .pointer (some ⟨g3, 0, none⟩)] (fun x : Pc many => #[pieceV f at_ many x.1]) (ButB g1 g2 g3 d) (fun ys => upto at_ many ys = some many) (fun pre => ∃ t, upto at_ many pre = some t) many w :=
  fun l J Jx W hW hJ hJx hY h0 => pieces_in n hn l g1 g2 g3 d f at_ many hf hat J Jx hY W (fun pre W q h => hJ pre W _ none h (drewN_grown W q) (fun r e => by cases e))
    (hR.kept (.of_below hW hl)) h0
end Go.Proofs.Ytjmofjcdcmbecaa
