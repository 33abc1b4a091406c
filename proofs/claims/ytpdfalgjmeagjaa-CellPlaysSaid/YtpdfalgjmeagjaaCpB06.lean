/-
  A drive in memory: its object beside its flash; and what its small inner functions answer.
  The pieces of words of a drive, sector by sector: the contract of the range function.
  Many words of a drive, read sector by sector.
  Small loops over words: whether a bit would be set; whether two lists of words are the same.
  What a drive's Read, Blank, Erase, Open and Part answer.
  What a drive's Write does: word by word as if programmed one behind the other.
  What a drive's Write does to the flash, and answers.
  A drive's Write as a whole, Erase, Open and Part.
-/
import Derived.Test.YtpdfalgjmeagjaaCpB05
import Derived.RangeFuncKeeps
import Derived.RangeFuncLeaves
import Derived.RangeFuncWrites
import Derived.Shelf.Abstract
import Derived.WalkKit
import Derived.OwnWalkIn
import Derived.TacticsInMore
import Derived.LoopNIn
import Derived.LoopIn
import Derived.RangeFuncNested
import Derived.RangeFuncBound
import Derived.RangeFuncCalls
import Derived.Laws.BitsAll
namespace Go.Proofs.Ytpdfalgjmeagjaa
open Go.RowKit
set_option linter.unusedVariables false

def drObj (d p f m : Nat) : List Value := [.pointer (some ⟨d, 0, none⟩), .pointer (some ⟨p, 0, none⟩), .int .i64 (f : Int), .int .i64 (m : Int)]
/-- A drive of m sectors of a flash, from its sector f on. -/
structure DrAt (base : Nat) (w : World) (d p b f m : Nat) (S : Fl) : Prop where
  nor : NorAt base w p b S
  obj : Fresh base 184 w (some ⟨d, 0, none⟩) 4 4 (drObj d p f m)
  fits : f + m ≤ S.n
  some_ : 1 ≤ m
section
variable {w w' : World} {base d p b f m : Nat} {S S' : Fl}
theorem DrAt.below (h : DrAt base w d p b f m S) (x : Below w.heap.size w w') : DrAt base w' d p b f m S := ⟨h.nor.below x, h.obj.below x, h.fits, h.some_⟩
theorem DrAt.dp (h : DrAt base w d p b f m S) : d ≠ p := fun e => by
  have h1 := h.obj.block.1
  have h2 := h.nor.obj.block.1
  rw [e, h2] at h1
  simp at h1
theorem DrAt.db (h : DrAt base w d p b f m S) : d ≠ b := fun e => by
  have h1 := h.obj.block.1
  have h2 := h.nor.row.block.1
  rw [e, h2] at h1
  simp at h1
/-- The flash is another one; the drive stays. -/
theorem DrAt.turn (h : DrAt base w d p b f m S) (x : But p b w w') (hN : NorAt base w' p b S') (hn : S'.n = S.n) : DrAt base w' d p b f m S' := ⟨hN, h.obj.but x h.dp h.db, by rw [hn]; exact h.fits, h.some_⟩
theorem DrAt.c (h : DrAt base w d p b f m S) : w.cell? ⟨d, 0, none⟩ = some (.pointer (some ⟨d, 0, none⟩)) ∧ w.cell? ⟨d, 1, none⟩ = some (.pointer (some ⟨p, 0, none⟩)) ∧ w.cell? ⟨d, 2, none⟩ = some (.int .i64 (f : Int)) ∧ w.cell? ⟨d, 3, none⟩ = some (.int .i64 (m : Int)) :=
  ⟨h.obj.cell rfl, h.obj.cell rfl, h.obj.cell rfl, h.obj.cell rfl⟩
theorem DrAt.small (h : DrAt base w d p b f m S) : f + m ≤ 1024 := Nat.le_trans h.fits h.nor.n_le
theorem run_drive (d : Nat) (w : World) : (binOp .eql 69 (.pointer (some ⟨d, 0, none⟩)) (.pointer (some ⟨d, 0, none⟩))).run Try.prog w = .ok (.bool true) w := by
  obtain ⟨j, hj⟩ : ∃ j, Try.prog.info? 184 = some j := Option.isSome_iff_exists.1 (by kernel_rfl)
  exact run_eql_ptr_same w (te := 184) ⟨d, 0, none⟩ (by kernel_rfl) hj
theorem isDrive_any (h : DrAt base w d p b f m S) : Calls Try.prog 111 #[.pointer (some ⟨d, 0, none⟩)] w fun e w' => e = .returned (.bool true) ∧ w' = w := by
  obtain ⟨c0, -⟩ := h.c
  have hq := run_drive d w
  go_enter Try.func111, Try.ntmps111
  go_wp2_with fail
  go_ret
  exact ⟨rfl, rfl⟩
/-- Are so many sectors there from this one on? -/
def secsOk (n : Nat) (first many : Int) : Bool := decide (0 ≤ first) && decide (1 ≤ many) && decide (many ≤ (n : Int) - first)
theorem hasSectors_any (n : Nat) (hn : n ≤ 1024) (s k : Int) (hs : s < 9223372036854775808) (r : Bool) (hr : secsOk n s k = r) (w : World) :
    Calls Try.prog 122 #[.int .i64 (n : Int), .int .i64 s, .int .i64 k] w fun e w' => e = .returned (.bool r) ∧ w' = w := by
  unfold secsOk at hr
  by_cases h0 : 0 ≤ s
  · have e : IntKind.i64.wrap ((n : Int) - s) = (n : Int) - s := wrapI _ (by omega) (by omega)
    have e' : wrap64 ((n : Int) - s) = (n : Int) - s := wrap64I _ (by omega) (by omega)
    by_cases h1 : 1 ≤ k
    · have q1 : decide (1 ≤ k) = true := by simp; exact h1
      rw [decide_eq_true h0, q1, Bool.true_and, Bool.true_and] at hr
      subst hr
      clear hs
      go_enter Try.func122, Try.ntmps122
      go_wp2_with fail
      go_ret
      exact ⟨rfl, rfl⟩
    · rw [decide_eq_false h1] at hr
      simp at hr
      subst hr
      clear hs
      go_enter Try.func122, Try.ntmps122
      go_wp2_with fail
      go_ret
      exact ⟨rfl, rfl⟩
  · rw [decide_eq_false h0] at hr
    simp at hr
    subst hr
    clear hs
    go_enter Try.func122, Try.ntmps122
    go_wp2_with fail
    go_ret
    exact ⟨rfl, rfl⟩
theorem dSectors_any (h : DrAt base w d p b f m S) : Calls Try.prog 124 #[.pointer (some ⟨d, 0, none⟩)] w fun e w' => e = .returned (.int .i64 (m : Int)) ∧ w' = w := by
  obtain ⟨-, -, -, c3⟩ := h.c
  go_enter Try.func124, Try.ntmps124
  go_wp2_with fail
  refine (isDrive_any h).mono ?_
  rintro e w1 ⟨rfl, rfl⟩
  go_wp2_with fail
  go_ret
  exact ⟨rfl, rfl⟩
theorem dSize_any (h : DrAt base w d p b f m S) (N : Nat) (hN : 64 * m = N) : Calls Try.prog 117 #[.pointer (some ⟨d, 0, none⟩)] w fun e w' => e = .returned (.int .i64 (N : Int)) ∧ w' = w := by
  have hm := h.small
  have e1 : 64 * (m : Int) = (N : Int) := by omega
  have e2 : wrap64 (64 * (m : Int)) = (N : Int) := by rw [wrap64I _ (by omega) (by omega)]; exact e1
  have e3 : IntKind.i64.wrap (64 * (m : Int)) = (N : Int) := by rw [wrapI _ (by omega) (by omega)]; exact e1
  go_enter Try.func117, Try.ntmps117
  go_wp2_with fail
  refine (dSectors_any h).mono ?_
  rintro e w1 ⟨rfl, rfl⟩
  go_wp2_with fail
  go_ret
  exact ⟨rfl, rfl⟩
/-- Are so many words there from this one on? -/
def wordsOk (m : Nat) (a k : Int) : Bool := decide (0 ≤ a) && decide (0 ≤ k) && decide (k ≤ 64 * (m : Int) - a)
theorem dPlace_any (h : DrAt base w d p b f m S) (a k : Int) (ha : a < 9223372036854775808) (r : Bool) (hr : wordsOk m a k = r) :
    Calls Try.prog 112 #[.pointer (some ⟨d, 0, none⟩), .int .i64 a, .int .i64 k] w fun e w' => e = .returned (.bool r) ∧ w' = w := by
  unfold wordsOk at hr
  have hm := h.small
  obtain ⟨N, hN⟩ : ∃ N, 64 * m = N := ⟨_, rfl⟩
  have hS := dSize_any h N hN
  rw [show 64 * (m : Int) = (N : Int) from by omega] at hr
  have hN2 : N ≤ 65536 := by omega
  clear hN
  by_cases h0 : 0 ≤ a
  · have e : IntKind.i64.wrap ((N : Int) - a) = (N : Int) - a := wrapI _ (by omega) (by omega)
    have e' : wrap64 ((N : Int) - a) = (N : Int) - a := wrap64I _ (by omega) (by omega)
    by_cases h1 : 0 ≤ k
    · have q1 : decide (0 ≤ k) = true := by simp; exact h1
      rw [decide_eq_true h0, q1, Bool.true_and, Bool.true_and] at hr
      subst hr
      clear ha
      go_enter Try.func112, Try.ntmps112
      go_wp2_with fail
      refine hS.mono ?_
      rintro e w1 ⟨rfl, rfl⟩
      go_wp2_with fail
      go_ret
      exact ⟨rfl, rfl⟩
    · rw [decide_eq_false h1] at hr
      simp at hr
      subst hr
      clear ha
      go_enter Try.func112, Try.ntmps112
      go_wp2_with fail
      go_ret
      exact ⟨rfl, rfl⟩
  · rw [decide_eq_false h0] at hr
    simp at hr
    subst hr
    clear ha
    go_enter Try.func112, Try.ntmps112
    go_wp2_with fail
    go_ret
    exact ⟨rfl, rfl⟩
end
end Go.Proofs.Ytpdfalgjmeagjaa
namespace Go.Proofs.Ytpdfalgjmeagjaa
open Go.RowKit Go.Shelf
set_option linter.unusedVariables false
attribute [local go_sem] Oper.semAt_some

/-- Where the piece ends that begins with this one of the call's words. -/
def pieceEnd (at_ many c : Nat) : Nat := min (c + 64 - (at_ + c) % 64) many
theorem pieceEnd_gt (at_ many c : Nat) (h : c < many) : c < pieceEnd at_ many c := by
  unfold pieceEnd
  have := Nat.mod_lt (at_ + c) (show 0 < 64 by decide)
  omega
theorem pieceEnd_le (at_ many c : Nat) : pieceEnd at_ many c ≤ many := Nat.min_le_right _ _
/-- A piece, by the word that it begins with. -/
abbrev Pc (many : Nat) := { c : Nat // c < many }
def pieceV (f at_ many c : Nat) : Value := .agg #[.int .i64 ((f + (at_ + c) / 64 : Nat) : Int), .int .i64 (((at_ + c) % 64 : Nat) : Int), .int .i64 (c : Int), .int .i64 (pieceEnd at_ many c : Int)]
/-- Up to which word these pieces go, if they come one behind the other. -/
def upto (at_ many : Nat) : List (Pc many) → Option Nat
  | [] => some 0
  | l => l.foldl (fun o x => match o with
    | some c => if c = x.1 then some (pieceEnd at_ many c) else none
    | none => none) (some 0)
theorem upto_eq (at_ many : Nat) (l : List (Pc many)) : upto at_ many l = l.foldl (fun o x => match o with
    | some c => if c = x.1 then some (pieceEnd at_ many c) else none
    | none => none) (some 0) := by cases l <;> rfl
theorem upto_snoc (at_ many : Nat) (l : List (Pc many)) (x : Pc many) : upto at_ many (l ++ [x]) = match upto at_ many l with
    | some c => if c = x.1 then some (pieceEnd at_ many c) else none
    | none => none := by
  rw [upto_eq, List.foldl_append, ← upto_eq]
  rfl
theorem upto_next {at_ many c : Nat} {l : List (Pc many)} (h : upto at_ many l = some c) (hc : c < many) : upto at_ many (l ++ [⟨c, hc⟩]) = some (pieceEnd at_ many c) := by
  rw [upto_snoc, h]
  simp
theorem upto_back {at_ many e : Nat} {l : List (Pc many)} {x : Pc many} (h : upto at_ many (l ++ [x]) = some e) : upto at_ many l = some x.1 ∧ e = pieceEnd at_ many x.1 := by
  rw [upto_snoc] at h
  split at h
  · rename_i c hc
    split at h
    · rename_i hx
      subst hx
      simp at h
      exact ⟨hc, h.symm⟩
    · cases h
  · cases h
theorem heap_drewN (w : World) (n k : Nat) : (w.drewN n).heap[k]? = w.heap[k]? := by
  by_cases h : k < w.heap.size
  · exact (below_drewN' (Below.refl w.heap.size w) n).block k h
  · have h1 : (w.drewN n).heap.size = w.heap.size := by
      induction n with
      | zero => rfl
      | succ n ih => exact ih
    rw [Array.getElem?_eq_none (by omega), Array.getElem?_eq_none (by omega)]
/-- These four blocks lie as they lay. -/
def Four_ (g1 g2 g3 d k : Nat) : Prop := k = g1 ∨ k = g2 ∨ k = g3 ∨ k = d
def ButB (g1 g2 g3 d : Nat) (W W' : World) : Prop := W.heap.size ≤ W'.heap.size ∧ ∀ k, Four_ g1 g2 g3 d k → W'.heap[k]? = W.heap[k]?
theorem ButB.trans {g1 g2 g3 d : Nat} {A B C : World} (h : ButB g1 g2 g3 d A B) (k : ButB g1 g2 g3 d B C) : ButB g1 g2 g3 d A C := ⟨Nat.le_trans h.1 k.1, fun q h1 => (k.2 q h1).trans (h.2 q h1)⟩
theorem ButB.put {g1 g2 g3 d : Nat} {w : World} (hn : ∀ k, Four_ g1 g2 g3 d k → k < w.heap.size) (W : World) (l : Nat) (o o' : Obj) (hl : w.heap.size ≤ l) (h : W.heap[l]? = some o) (_ : o.isCells = false) (_ : o.isWalk = false) : ButB g1 g2 g3 d W (W.putObj l o') :=
  ⟨by simp, fun k h1 => World.putObj_heap_other (by have := hn k h1; omega)⟩
theorem ButB.of_below {g1 g2 g3 d B : Nat} {W W' : World} (x : Below B W W') (hn : ∀ k, Four_ g1 g2 g3 d k → k < B) : ButB g1 g2 g3 d W W' := ⟨x.size, fun k h => x.block k (hn k h)⟩
theorem ButB.cell {g1 g2 g3 d g j : Nat} {W W' : World} {u : Value} (h : ButB g1 g2 g3 d W W') (hg : Four_ g1 g2 g3 d g) (hc : W.cell? ⟨g, j, none⟩ = some u) : W'.cell? ⟨g, j, none⟩ = some u := by
  unfold World.cell? at hc ⊢
  simp only at hc ⊢
  rw [h.2 g hg]
  exact hc
/-- What the range function reads between its rounds. -/
structure Reads (g1 g2 g3 d f at_ many : Nat) (W : World) : Prop where
  many_ : W.cell? ⟨g1, 0, none⟩ = some (.int .i64 (many : Int))
  at__ : W.cell? ⟨g2, 0, none⟩ = some (.int .i64 (at_ : Int))
  drive : W.cell? ⟨g3, 0, none⟩ = some (.pointer (some ⟨d, 0, none⟩))
  first : W.cell? ⟨d, 2, none⟩ = some (.int .i64 (f : Int))
theorem Reads.kept {g1 g2 g3 d f at_ many : Nat} {W W' : World} (h : Reads g1 g2 g3 d f at_ many W) (x : ButB g1 g2 g3 d W W') : Reads g1 g2 g3 d f at_ many W' :=
  ⟨x.cell (.inl rfl) h.many_, x.cell (.inr (.inl rfl)) h.at__, x.cell (.inr (.inr (.inl rfl))) h.drive, x.cell (.inr (.inr (.inr rfl))) h.first⟩
set_option maxRecDepth 100000 in
set_option maxHeartbeats 2000000 in
theorem pieces_in (n : Nat) (hn : 1 ≤ n) (l g1 g2 g3 d f at_ many : Nat) (hf : f ≤ 1024) (hat : at_ + many ≤ 65536) (J Jx : List (Pc many) → World → Prop)
    (hY : ∀ pre x W, J pre W → pre.length < many → YieldAt Fence.wide (n - 1) Try.prog l #[pieceV f at_ many x.1] W fun e W' =>
      (e = .returned (.bool true) ∧ J (pre ++ [x]) W' ∧ ButB g1 g2 g3 d W W') ∨ (e = .returned (.bool false) ∧ Jx (pre ++ [x]) W'))
    (W : World) (hdrew : ∀ pre W q, J pre W → J pre (W.drewN q)) (hR : Reads g1 g2 g3 d f at_ many W) (h0 : J [] W) :
    CallsIn Fence.wide n Try.prog 177 #[.func (.yield l) #[] #[], .pointer (some ⟨g1, 0, none⟩), .pointer (some ⟨g2, 0, none⟩), .pointer (some ⟨g3, 0, none⟩)] W fun e W' => (∃ v, e = .returned v) ∧
      ((∃ ys, upto at_ many ys = some many ∧ J ys W') ∨ (∃ pre, (∃ t, upto at_ many pre = some t) ∧ Jx pre W')) := by
  refine callsIn_of_wp Try.func177 rfl trivial ?_ rfl
  simp only [Try.ntmps177, List.size_toArray, List.length_cons, List.length_nil, Nat.reduceAdd, Nat.reduceSub, Array.replicate_succ, Array.replicate_zero, List.push_toArray, List.append_toArray, List.nil_append, List.cons_append]
  gi_wp2
  gi_loopw [5] (fun c wr => ∃ (k : Nat) (pre : List (Pc many)), k ≤ many ∧ c = .int .i64 (k : Int) ∧ upto at_ many pre = some k ∧ pre.length ≤ k ∧ Reads g1 g2 g3 d f at_ many wr ∧ J pre wr)
    (fun c _ => many - (intOf c).toNat)
  case atStart => exact ⟨0, [], by omega, rfl, rfl, Nat.le_refl _, hR, h0⟩
  case round =>
    obtain ⟨k, pre, hk, rfl, hu, hpl, hRd, hJ⟩ := hrel
    have r1 := hRd.many_
    have r2 := hRd.at__
    have r3 := hRd.drive
    have r4 := hRd.first
    by_cases hlt : k < many
    · obtain ⟨σ, hσ⟩ : ∃ σ, (at_ + k) / 64 = σ := ⟨_, rfl⟩
      obtain ⟨α, hα⟩ : ∃ α, (at_ + k) % 64 = α := ⟨_, rfl⟩
      have hα64 : α < 64 := by omega
      have hσ2 : σ ≤ 1024 := by omega
      have hquo : ((at_ : Int) + (k : Int)).tdiv 64 = (σ : Int) := by rw [Int.tdiv_eq_ediv_of_nonneg (by omega)]; omega
      have hrem : ((at_ : Int) + (k : Int)).tmod 64 = (α : Int) := by rw [Int.tmod_eq_emod_of_nonneg (by omega)]; omega
      obtain ⟨e, he⟩ : ∃ e, pieceEnd at_ many k = e := ⟨_, rfl⟩
      have hgt := pieceEnd_gt at_ many k hlt
      have hle := pieceEnd_le at_ many k
      rw [he] at hgt hle
      have hpv : pieceV f at_ many k = .agg #[.int .i64 ((f : Int) + (σ : Int)), .int .i64 (α : Int), .int .i64 (k : Int), .int .i64 (e : Int)] := by
        unfold pieceV
        rw [hσ, hα, he, Int.natCast_add]
      have hY2 := hY pre ⟨k, hlt⟩ 
      have hun := upto_next hu hlt
      rw [he] at hun
      unfold pieceEnd at he
      rw [hα] at he
      rw [hpv] at hY2
      have hw1 := wrapI ((at_ : Int) + (k : Int)) (by omega) (by omega)
      gi_wp2
      refine wpIn_wide.2 ?_
      go_quiet (fail)
      have hJ2 := hdrew _ _ nq hJ
      have hRd2 : Reads g1 g2 g3 d f at_ many (wr.drewN nq) := hRd.kept ⟨(below_drewN' (Below.refl wr.heap.size wr) nq).size, fun q _ => heap_drewN wr nq q⟩
      obtain ⟨fn, tmps, assign, body, hy, hRn⟩ := hY2 (wr.drewN nq) hJ2 (by omega)
      generalize hWq : wr.drewN nq = wq at *
      have r1 := hRd2.many_
      have r2 := hRd2.at__
      have r3 := hRd2.drive
      have r4 := hRd2.first
      by_cases hmin : (k : Int) + 64 - (α : Int) ≤ (many : Int)
      · obtain rfl : k + 64 - α = e := by omega
        have he2 : ((k + 64 - α : Nat) : Int) = (k : Int) + 64 - (α : Int) := by omega
        rw [he2] at hy
        gi_wp2
        refine hRn.mono ?_
        rintro e' W3 (⟨rfl, hJ3, hk3⟩ | ⟨rfl, hJx3⟩)
        · have hRd3 := hRd2.kept hk3
          clear hY hY2 hRn hy hRd hRd2 hJ hJ2 hdrew r1 r2 r3 r4
          gi_wp2
          go_roundw
          case rel => exact ⟨k + 64 - α, pre ++ [⟨k, hlt⟩], hle, by rw [he2], hun, by rw [List.length_append]; simp; omega, hRd3, hJ3⟩
          case measure => simp [intOf]; omega
        · clear hY hY2 hRn hy hRd hRd2 hJ hJ2 hdrew r1 r2 r3 r4
          gi_wp2
          refine bodyPost_ret (results_none rfl _ _ _) rfl ?_
          exact ⟨⟨_, rfl⟩, .inr ⟨pre ++ [⟨k, hlt⟩], ⟨_, hun⟩, hJx3⟩⟩
      · obtain rfl : many = e := by omega
        gi_wp2
        refine hRn.mono ?_
        rintro e' W3 (⟨rfl, hJ3, hk3⟩ | ⟨rfl, hJx3⟩)
        · have hRd3 := hRd2.kept hk3
          clear hY hY2 hRn hy hRd hRd2 hJ hJ2 hdrew r1 r2 r3 r4
          gi_wp2
          go_roundw
          case rel => exact ⟨many, pre ++ [⟨k, hlt⟩], hle, rfl, hun, by rw [List.length_append]; simp; omega, hRd3, hJ3⟩
          case measure => simp [intOf]; omega
        · clear hY hY2 hRn hy hRd hRd2 hJ hJ2 hdrew r1 r2 r3 r4
          gi_wp2
          refine bodyPost_ret (results_none rfl _ _ _) rfl ?_
          exact ⟨⟨_, rfl⟩, .inr ⟨pre ++ [⟨k, hlt⟩], ⟨_, hun⟩, hJx3⟩⟩
    · obtain rfl : k = many := by omega
      have hb : decide ((k : Int) < (k : Int)) = false := by simp
      gi_wp2
      go_end0
      exact ⟨⟨_, rfl⟩, .inl ⟨pre, hu, hJ⟩⟩
theorem drewN_grown (W : World) (q : Nat) : W.grownBy (W.drewN q) none :=
  have h := below_drewN' (Below.refl W.heap.size W) q
  ⟨h.os, h.tape, h.output, h.size, fun k hk _ => h.block k hk⟩
/-- The range function's contract. -/
theorem pieces_stops (n : Nat) (hn : 1 ≤ n) (g1 g2 g3 d f at_ many : Nat) (hf : f ≤ 1024) (hat : at_ + many ≤ 65536) (w : World) (hR : Reads g1 g2 g3 d f at_ many w) (hl : ∀ k, Four_ g1 g2 g3 d k → k < w.heap.size) :
    SeqStopsK Fence.wide n Try.prog 177 #[.pointer (some ⟨g1, 0, none⟩), .pointer (some ⟨g2, 0, none⟩), .pointer (some ⟨g3, 0, none⟩)] (fun x : Pc many => #[pieceV f at_ many x.1]) (ButB g1 g2 g3 d) (fun ys => upto at_ many ys = some many) (fun pre => ∃ t, upto at_ many pre = some t) many w :=
  fun l J Jx W hW hJ hJx hY h0 => pieces_in n hn l g1 g2 g3 d f at_ many hf hat J Jx hY W (fun pre W q h => hJ pre W _ none h (drewN_grown W q) (fun r e => by cases e))
    (hR.kept (.of_below hW hl)) h0
end Go.Proofs.Ytpdfalgjmeagjaa
namespace Go.Proofs.Ytpdfalgjmeagjaa
open Go.RowKit Go.Shelf
set_option linter.unusedVariables false
attribute [local go_sem] Oper.semAt_some

/-- What is there, and one piece more. -/
theorem words_join {α : Type} (xs D L : List α) (c e : Nat) (h : c < e) (hx : e ≤ xs.length) (h0 : xs.take c = D.take c) (hl : L.length = e - c) (hL : L = (D.drop c).take (e - c)) : (splice xs c L).take e = D.take e := by
  have hd : c ≤ D.length := by
    have := congrArg List.length hL
    simp at this
    omega
  have e1 : splice xs c L = xs.take c ++ L ++ xs.drop e := by
    unfold splice
    rw [hl, show c + (e - c) = e from by omega, List.append_assoc]
  rw [e1, List.take_append_of_le_length (by simp; omega), List.take_of_length_le (by simp; omega), h0, hL, ← List.take_add]
  rw [show c + (e - c) = e from by omega]
theorem zip_one (T : Array Value) (v : Value) (p : Tmp) : ((#[p] : Array Tmp).zip #[v]).foldl (fun t (p, v) => t.setIfInBounds p v) T = T.setIfInBounds p v := by simp
/-- Two results, each of one cell. -/
def plainT (P : Program) (t : TypeId) : Bool := match P.underlying t with
  | some (.struct _) | some (.array _ _) | none => false
  | _ => true
theorem load_plain {P : Program} {t : TypeId} {w : World} {a : Addr} {u : Value} (h : plainT P t = true) (hc : w.cell? a = some u) : (loadVar t a).run P w = .ok u w := by
  unfold plainT at h
  have hi : (isAgg t).run P w = .ok false w := by
    unfold isAgg
    cases hd : P.underlying t with
    | none => rw [hd] at h; cases h
    | some d =>
      rw [Sem.run_bind, run_underlying hd w]
      simp only [Result.andThen_ok]
      rw [hd] at h
      cases d <;> first | rfl | cases h
  simp [loadVar, Sem.run_bind, hi, hc]
theorem results_cell2 {P : Program} {fn : Func} {tmps : Array Value} {w : World} {p q : Tmp} {T U : TypeId} {a b : Addr} {u v : Value} (hr : fn.results = #[.cell p T, .cell q U]) (hp : tmps.getD p undef = .pointer (some a)) (hq : tmps.getD q undef = .pointer (some b))
    (hT : plainT P T = true) (hU : plainT P U = true) (hu : w.cell? a = some u) (hv : w.cell? b = some v) : (results fn tmps).run P w = .ok (.tuple #[u, v]) w := by
  have hp' : tmps[p]?.getD undef = .pointer (some a) := by simpa using hp
  have hq' : tmps[q]?.getD undef = .pointer (some b) := by simpa using hq
  simp [results, hr, hp', hq', asAddr, load_plain hT hu, load_plain hU hv]
section
variable {w : World} {base d p b f m : Nat} {S : Fl}
theorem alloc3 (w : World) (A B C : Obj) : (((w.alloc A).alloc B).alloc C).heap[w.heap.size]? = some A ∧ (((w.alloc A).alloc B).alloc C).heap[w.heap.size + 1]? = some B ∧ (((w.alloc A).alloc B).alloc C).heap[w.heap.size + 1 + 1]? = some C ∧ (((w.alloc A).alloc B).alloc C).heap.size = w.heap.size + 1 + 1 + 1 ∧ Below w.heap.size w (((w.alloc A).alloc B).alloc C) := by
  have h1 := World.alloc_heap_new w A
  have h2 := World.alloc_heap_new (w.alloc A) B
  have h3 := World.alloc_heap_new ((w.alloc A).alloc B) C
  have b2 := (below_alloc (w.alloc A) B).block
  have b3 := (below_alloc ((w.alloc A).alloc B) C).block
  simp only [World.size_alloc] at h2 h3 b2 b3 ⊢
  exact ⟨(b3 _ (by omega)).trans ((b2 _ (by omega)).trans h1), (b3 _ (by omega)).trans h2, h3, trivial, (((Below.refl _ w).alloc (Nat.le_refl _) _).alloc (by simp) _).alloc (by simp; omega) _⟩
theorem cell_of {W : World} {g : Nat} {v : Value} {t : TypeId} {z : Nat × Nat} (h : W.heap[g]? = some (.cells #[v] t z)) : W.cell? ⟨g, 0, none⟩ = some v := by
  unfold World.cell?
  simp only [h]
  rfl
theorem frozen_of {W : World} {g : Nat} {v : Value} {t : TypeId} (h : W.heap[g]? = some (.cells #[v] t)) (j : Nat) : W.frozen? ⟨g, j, none⟩ = false := by
  unfold World.frozen?
  simp only [h]
  simp
theorem keeps_of_below {B : Nat} {W W' : World} (x : Below W.heap.size W W') : KeepsFrom B W W' := ⟨x.size, fun k o _ hk _ => (x.block k (Array.getElem?_eq_some_iff.1 hk).1).trans hk⟩
theorem cells_kept {W W' : World} {row : Option Nat} {B g : Nat} {c : Array Value} {t : TypeId} {z : Nat × Nat} (hg : W.grownBy W' row) (hr : ∀ r, row = some r → B ≤ r ∧ ∃ o : Obj, W.heap[r]? = some o ∧ o.isCells = false) (h : W.heap[g]? = some (.cells c t z)) : W'.heap[g]? = W.heap[g]? :=
  hg.block g (Array.getElem?_eq_some_iff.1 h).1 (fun e => by
    obtain ⟨_, o, ho, hc⟩ := hr g e.symm
    rw [h] at ho
    cases ho
    cases hc)
theorem fresh_grown {W W' : World} {row : Option Nat} {B base g n : Nat} {e : TypeId} {xs : List Value} (h : Fresh base e W (some ⟨g, 0, none⟩) n n xs) (hg : W.grownBy W' row) (hr : ∀ r, row = some r → B ≤ r ∧ ∃ o : Obj, W.heap[r]? = some o ∧ o.isCells = false) : Fresh base e W' (some ⟨g, 0, none⟩) n n xs :=
  h.kept (cells_kept hg hr h.block.1)
/-- Between two rounds of words: what the call's own memory holds. -/
def WordsI (w w3 : World) (d G t8 f at_ many : Nat) (ws : List UInt32) (pre : List (Pc many)) (W : World) : Prop :=
  ∃ xs : List UInt32, Fresh (w.heap.size + 1 + 1 + 1) 22 W (some ⟨G, 0, none⟩) many many (cw xs) ∧ W.heap[w.heap.size]? = some (.cells #[.pointer (some ⟨d, 0, none⟩)] 69) ∧ W.heap[w.heap.size + 1]? = some (.cells #[.slice none 0 0] 54) ∧ W.heap[w.heap.size + 1 + 1]? = some (.cells #[.int .i64 0] 63) ∧
    W.heap[t8]? = some (.cells #[.slice (some ⟨G, 0, none⟩) many many] 54) ∧ Below w.heap.size w W ∧ w3.heap.size ≤ W.heap.size ∧ (∀ t, upto at_ many pre = some t → t ≤ many ∧ xs.take t = (ws.drop (64 * f + at_)).take t)
theorem wordsI_own (w w3 : World) (d G t8 f at_ many : Nat) (ws : List UInt32) (hw : w.heap.size ≤ w3.heap.size) : OwnFrom w3.heap.size (WordsI w w3 d G t8 f at_ many ws) := by
  rintro pre W W' row ⟨xs, hF, h3, h6, h7, h8, hB, hz, hx⟩ hg hr
  exact ⟨xs, fresh_grown hF hg hr, (cells_kept hg hr h3).trans h3, (cells_kept hg hr h6).trans h6, (cells_kept hg hr h7).trans h7, (cells_kept hg hr h8).trans h8, hB.grown hg hB.size (fun k e => Nat.le_trans hw (hr k e).1), Nat.le_trans hz hg.size, hx⟩
theorem WordsI.below {w w3 W W' : World} {d G t8 f at_ many : Nat} {ws : List UInt32} {pre : List (Pc many)} (h : WordsI w w3 d G t8 f at_ many ws pre W) (x : Below W.heap.size W W') : WordsI w w3 d G t8 f at_ many ws pre W' := by
  obtain ⟨xs, hF, h3, h6, h7, h8, hB, hz, hx⟩ := h
  have hl := fun {k : Nat} {o : Obj} (q : W.heap[k]? = some o) => (x.block k (Array.getElem?_eq_some_iff.1 q).1).trans q
  exact ⟨xs, hF.below x, hl h3, hl h6, hl h7, hl h8, Below.then_ hB x, Nat.le_trans hz x.size, hx⟩
def pieceC (f at_ many c : Nat) : List Value := [.int .i64 ((f + (at_ + c) / 64 : Nat) : Int), .int .i64 (((at_ + c) % 64 : Nat) : Int), .int .i64 (c : Int), .int .i64 (pieceEnd at_ many c : Int)]
/-- The slots of a round of words. -/
def wordsA (w w1 : World) (d G g1 g2 g3 f at_ many c gx : Nat) : Act := { tmps := #[.pointer (some ⟨d, 0, none⟩), .int .i64 (at_ : Int), .int .i64 (many : Int), .pointer (some ⟨w.heap.size, 0, none⟩), undef, undef, .pointer (some ⟨w.heap.size + 1, 0, none⟩), .pointer (some ⟨w.heap.size + 1 + 1, 0, none⟩), .pointer (some ⟨w1.heap.size, 0, none⟩), .pointer (some ⟨gx, 0, none⟩), undef, undef, undef, .int .i64 (many : Int), .slice (some ⟨G, 0, none⟩) many many, .pointer (some ⟨d, 0, none⟩), .int .i64 (at_ : Int), .int .i64 (many : Int), .func (.func 177) #[] #[.pointer (some ⟨g1, 0, none⟩), .pointer (some ⟨g2, 0, none⟩), .pointer (some ⟨g3, 0, none⟩)], pieceV f at_ many c, undef, undef, undef, undef, undef, undef, undef, undef, undef, undef, undef, undef, undef, undef, undef, undef, undef, undef, undef, undef, undef, undef, undef, undef, undef, undef, undef, undef, undef, undef, undef, undef, undef, undef], defers := [] }
theorem pieces_any (h : DrAt base w d p b f m S) (at_ many : Nat) : Calls Try.prog 115 #[.pointer (some ⟨d, 0, none⟩), .int .i64 (at_ : Int), .int .i64 (many : Int)] w fun e w' =>
    ∃ g1 g2 g3, e = .returned (.func (.func 177) #[] #[.pointer (some ⟨g1, 0, none⟩), .pointer (some ⟨g2, 0, none⟩), .pointer (some ⟨g3, 0, none⟩)]) ∧ Below w.heap.size w w' ∧
      w.heap.size ≤ g1 ∧ g1 < w'.heap.size ∧ w.heap.size ≤ g2 ∧ g2 < w'.heap.size ∧ w.heap.size ≤ g3 ∧ g3 < w'.heap.size ∧
      w'.cell? ⟨g1, 0, none⟩ = some (.int .i64 (many : Int)) ∧ w'.cell? ⟨g2, 0, none⟩ = some (.int .i64 (at_ : Int)) ∧ w'.cell? ⟨g3, 0, none⟩ = some (.pointer (some ⟨d, 0, none⟩)) := by
  go_enter Try.func115, Try.ntmps115
  go_wp2_with fail
  go_ret
  obtain ⟨e1, e2, e3, e4, hB⟩ := alloc3 w (Obj.cells #[Value.pointer (some ⟨d, 0, none⟩)] 69) (Obj.cells #[Value.int .i64 (at_ : Int)] 3) (Obj.cells #[Value.int .i64 (many : Int)] 3)
  refine ⟨w.heap.size + 1 + 1, w.heap.size + 1, w.heap.size, rfl, hB, by omega, by omega, by omega, by omega, by omega, by omega, cell_of e3, cell_of e2, cell_of e1⟩
set_option maxHeartbeats 4000000 in
set_option maxRecDepth 100000 in
theorem words_at (h : DrAt base w d p b f m S) (hd : S.down = false) (at_ many : Nat) (hok : at_ + many ≤ 64 * m) :
    Calls Try.prog 113 #[.pointer (some ⟨d, 0, none⟩), .int .i64 (at_ : Int), .int .i64 (many : Int)] w fun e w' =>
      ∃ G, e = .returned (.tuple #[.slice (some ⟨G, 0, none⟩) many many, .int .i64 0]) ∧ Fresh w.heap.size 22 w' (some ⟨G, 0, none⟩) many many (cw ((S.ws.drop (64 * f + at_)).take many)) ∧ Below w.heap.size w w' := by
  have hm := h.small
  refine (callsIn_wide (n := 6)).1 ?_
  refine callsIn_of_wp_marks Try.func113 rfl trivial ?_ rfl
  simp only [Try.ntmps113, List.size_toArray, List.length_cons, List.length_nil, Nat.reduceAdd, Nat.reduceSub, Array.replicate_succ, Array.replicate_zero, List.push_toArray, List.append_toArray, List.nil_append, List.cons_append]
  refine wpIn_wide.2 ?_
  obtain ⟨e1, e2, e3, e4, hBa⟩ := alloc3 w (Obj.cells #[Value.pointer (some ⟨d, 0, none⟩)] 69) (Obj.cells #[Value.slice none 0 0] 54) (Obj.cells #[Value.int .i64 0] 63)
  go_wp2_with (with_reducible refine wpList_mk32 (o := ⟨some 14, _, _, _, _, _⟩) rfl (.tmp 13) rfl _ many rfl rfl (by omega) ?_; intro w1 hF1 hB1
               have k3 := (hB1.block w.heap.size (by omega)).trans e1
               have k6 := (hB1.block (w.heap.size + 1) (by omega)).trans e2
               have k7 := (hB1.block (w.heap.size + 1 + 1) (by omega)).trans e3
               have z1 := hB1.size
               rw [e4] at hF1 z1
               have dG := hF1.lt_size
               obtain ⟨w2, hw2⟩ : ∃ w2, w2 = w1.alloc (Obj.cells #[Value.slice (some ⟨w.heap.size + 1 + 1 + 1, 0, none⟩) many many] 54) := ⟨_, rfl⟩
               have hB2 : Below w1.heap.size w1 w2 := by rw [hw2]; exact (Below.refl _ w1).alloc (Nat.le_refl _) _
               have k8 : w2.heap[w1.heap.size]? = some (Obj.cells #[Value.slice (some ⟨w.heap.size + 1 + 1 + 1, 0, none⟩) many many] 54) := by rw [hw2]; exact World.alloc_heap_new w1 _
               have z2 : w2.heap.size = w1.heap.size + 1 := by rw [hw2]; simp
               have hF2 := hF1.below hB2
               replace k3 := (hB2.block _ (by omega)).trans k3
               replace k6 := (hB2.block _ (by omega)).trans k6
               replace k7 := (hB2.block _ (by omega)).trans k7
               have c3 := cell_of k3
               have hBw2 := Below.then_ (Below.then_ hBa hB1) hB2
               have hD2 := h.below hBw2
               clear hF1 hB1 hB2 e1 e2 e3 e4 hBa
               rw [hw2] at c3)
  rw [← hw2]
  clear hw2
  refine (pieces_any hD2 at_ many).mono ?_
  rintro e w3 ⟨g1, g2, g3, rfl, hB3, l1, l1', l2, l2', l3, l3', cg1, cg2, cg3⟩
  have hD3 := hD2.below hB3
  have hF3 := hF2.below hB3
  have hBw3 := Below.then_ hBw2 hB3
  replace k3 := (hB3.block _ (by omega)).trans k3
  replace k6 := (hB3.block _ (by omega)).trans k6
  replace k7 := (hB3.block _ (by omega)).trans k7
  replace k8 := (hB3.block _ (by omega)).trans k8
  have z3 := hB3.size
  clear hF2 hD2 hBw2 hB3 c3
  have hsm : f ≤ 1024 := by omega
  have hat : at_ + many ≤ 65536 := by omega
  have hdl : d < w.heap.size := h.obj.lt_size
  obtain ⟨-, -, cd2, -⟩ := hD3.c
  have hRd : Reads g1 g2 g3 d f at_ many w3 := ⟨cg1, cg2, cg3, cd2⟩
  have hFour : ∀ k, Four_ g1 g2 g3 d k → k < w3.heap.size := by
    rintro k (rfl | rfl | rfl | rfl) <;> omega
  have hGne : ∀ k, Four_ g1 g2 g3 d k → k ≠ w.heap.size + 1 + 1 + 1 := by
    rintro k (rfl | rfl | rfl | rfl) <;> omega
  go_wp2_with fail
  refine (wpIn_wide (n := 6)).1 ?_
  refine wpIn_rangeFunc_ownH (α := Pc many) rfl (by omega) (gf := 177) (lb := #[.pointer (some ⟨g1, 0, none⟩), .pointer (some ⟨g2, 0, none⟩), .pointer (some ⟨g3, 0, none⟩)]) rfl trivial (enters_of Try.func177 (by kernel_rfl) rfl)
    (pieces_stops 5 (by omega) g1 g2 g3 d f at_ many hsm hat w3 hRd hFour) (fun h k => h.trans k) (ButB.put hFour) (Below.refl _ _) (fun _ => rfl)
    (WordsI w w3 d (w.heap.size + 1 + 1 + 1) w1.heap.size f at_ many S.ws) (fun _ _ _ => False) (wordsI_own _ _ _ _ _ _ _ _ _ (by omega)) (fun _ _ _ _ _ hs _ _ => hs) ?start
    (fun x a' W => ∃ gx, w3.heap.size ≤ gx ∧ a' = wordsA w w1 d (w.heap.size + 1 + 1 + 1) g1 g2 g3 f at_ many x.1 gx ∧ Fresh w3.heap.size 189 W (some ⟨gx, 0, none⟩) 4 4 (pieceC f at_ many x.1)) ?own ?assign ?body ?done ?stop
  case start => exact ⟨List.replicate many 0, by simpa using hF3, k3, k6, k7, k8, hBw3, Nat.le_refl _, fun t ht => by simp [upto] at ht; subst ht; simp⟩
  case own =>
    rintro x a' _ W W' row ⟨gx, hgx, rfl, hF⟩ hg hr
    exact ⟨gx, hgx, rfl, fresh_grown hF hg hr⟩
  case stop =>
    rintro D c pre W _ _ hf _
    exact hf.elim
  case assign =>
    intro l pre x W K hI hK
    simp only [zip_one]
    refine plain_in (by kernel_rfl) (fun ⟨_, _, q⟩ => q) ?_
    refine wpList_alloc (o := ⟨some 9, _, _, _, _, _⟩) rfl 189 rfl [.int .i64 0, .int .i64 0, .int .i64 0, .int .i64 0] (by kernel_rfl) 4 rfl (by decide) ?_
    intro gx W1 hgx hFx hBx
    refine wpList_store rfl rfl (.tmp 9) (.tmp 19) 189 rfl gx 0 W.heap.size 189 4 _ (pieceC f at_ many x.1) rfl rfl 4 rfl (by kernel_rfl) hFx (by omega) (by intro u hu; simp [pieceC] at hu; rcases hu with rfl | rfl | rfl | rfl <;> rfl) W hBx hgx ?_
    intro W2 hFx2 hBx2 _ _
    have hzz : w3.heap.size ≤ W.heap.size := by obtain ⟨xs, _, _, _, _, _, _, hzz, _⟩ := hI; exact hzz
    refine hK _ W2 (keeps_of_below hBx2) (.of_below hBx2 (fun k hk => by have := hFour k hk; omega)) (WordsI.below hI hBx2) ⟨gx, by omega, rfl, hFx2.lower hzz⟩
  case body =>
    rintro l pre ⟨c, hc⟩ a' W hl ⟨r, hr⟩ ⟨xs, hF, q3, q6, q7, q8, hB, hz, hx⟩ ⟨gx, hgx, rfl, hFx⟩ hlt
    obtain ⟨e, he⟩ : ∃ e, pieceEnd at_ many c = e := ⟨_, rfl⟩
    have hgt := pieceEnd_gt at_ many c hc
    have hle := pieceEnd_le at_ many c
    obtain ⟨s, hs⟩ : ∃ s, f + (at_ + c) / 64 = s := ⟨_, rfl⟩
    obtain ⟨α, hα⟩ : ∃ α, (at_ + c) % 64 = α := ⟨_, rfl⟩
    have hea : e ≤ c + 64 - α := by rw [← he, ← hα]; exact Nat.min_le_left _ _
    have hα64 : α < 64 := by omega
    have hs64 : 64 * s + α = 64 * f + at_ + c := by omega
    have p0 : W.cell? ⟨gx, 0, none⟩ = some (.int .i64 (s : Int)) := by rw [← hs]; exact hFx.cell rfl
    have p1 : W.cell? ⟨gx, 1, none⟩ = some (.int .i64 (α : Int)) := by rw [← hα]; exact hFx.cell rfl
    have p2 : W.cell? ⟨gx, 2, none⟩ = some (.int .i64 (c : Int)) := hFx.cell rfl
    have p3 : W.cell? ⟨gx, 3, none⟩ = some (.int .i64 (e : Int)) := by rw [← he]; exact hFx.cell rfl
    rw [he] at hgt hle
    obtain ⟨k, hk⟩ : ∃ k, e - c = k := ⟨_, rfl⟩
    have hk2 : (e : Int) - (c : Int) = (k : Int) := by omega
    have hwk : IntKind.i64.wrap ((e : Int) - (c : Int)) = (k : Int) := by rw [wrapI _ (by omega) (by omega)]; exact hk2
    have hwk' : wrap64 ((e : Int) - (c : Int)) = (k : Int) := by rw [wrap64I _ (by omega) (by omega)]; exact hk2
    have hsn : s < S.n := by have := h.fits; omega
    have hnl := h.nor.len
    have hnn := h.nor.n_le
    obtain ⟨L, hL⟩ : ∃ L, ((S.ws.drop (64 * f + at_ + c)).take k) = L := ⟨_, rfl⟩
    have hLl : L.length = k := by rw [← hL]; simp; omega
    have hxl : xs.length = many := by simpa using hF.len
    have HE := Lib.hid he
    have HS := Lib.hid hs
    have HA := Lib.hid hα
    have HK := Lib.hid hk
    have HK2 := Lib.hid hk2
    have HL := Lib.hid hL
    have HLl := Lib.hid hLl
    have HX := Lib.hid hxl
    have HN := Lib.hid hnl
    clear he hs hα hk hk2 hL hLl hxl hnl
    unfold wordsA
    gi_wp2
    gi_loopw [25] (fun i wr => ∃ j : Nat, j ≤ k ∧ i = .int .i64 (j : Int) ∧ But (w.heap.size + 1 + 1 + 1) (w.heap.size + 1 + 1 + 1) W wr ∧ Fresh (w.heap.size + 1 + 1 + 1) 22 wr (some ⟨w.heap.size + 1 + 1 + 1, 0, none⟩) many many (cw (splice xs c (L.take j)))) (fun i _ => k - (intOf i).toNat)
    case atStart => exact ⟨0, Nat.zero_le _, rfl, But.refl _ _ _, by simpa [splice] using hF⟩
    case round =>
      obtain ⟨j, hj, rfl, hBt, hFr⟩ := hrel
      have hBr : Below w.heap.size w wr := hB.trans (hBt.below (by omega) (by omega) hB.size)
      have hDr := h.below hBr
      have hgxl : gx < W.heap.size := hFx.lt_size
      have h8l : w1.heap.size < W.heap.size := (Array.getElem?_eq_some_iff.1 q8).1
      have r8 := cell_of ((hBt.keep w1.heap.size h8l (by omega) (by omega)).trans q8)
      have hFx2 := hFx.but hBt (by omega) (by omega)
      have r0 : wr.cell? ⟨gx, 0, none⟩ = some (.int .i64 (s : Int)) := by rw [← HS.out]; exact hFx2.cell rfl
      have r1 : wr.cell? ⟨gx, 1, none⟩ = some (.int .i64 (α : Int)) := by rw [← HA.out]; exact hFx2.cell rfl
      have r2 : wr.cell? ⟨gx, 2, none⟩ = some (.int .i64 (c : Int)) := hFx2.cell rfl
      have hdl2 : d < W.heap.size := by have := hB.size; omega
      have h3l : w.heap.size < W.heap.size := (Array.getElem?_eq_some_iff.1 q3).1
      have r3 := cell_of ((hBt.keep w.heap.size h3l (by omega) (by omega)).trans q3)
      obtain ⟨-, rp, -, -⟩ := hDr.c
      by_cases hlt : j < k
      · obtain ⟨v, hv⟩ : ∃ v, L[j]? = some v := ⟨_, List.getElem?_eq_getElem (by have := HLl.out; omega)⟩
        have hkc := HK.out
        have hjα : α + j < 64 := by omega
        have hpl : S.place (s : Int) ((α : Int) + (j : Int)) 1 = true := by simp [Fl.place, Fl.sector]; omega
        have hrd : S.read (s : Int) ((α : Int) + (j : Int)) = (v, 0) := by
          have e1 : s * 64 + (α + j) = 64 * f + at_ + c + j := by omega
          rw [← HL.out, List.getElem?_take] at hv
          rw [if_pos hlt, List.getElem?_drop] at hv
          simp only [Fl.read, hd, hpl, Int.toNat_natCast]
          rw [show ((α : Int) + (j : Int)).toNat = α + j from by omega, e1, List.getD_eq_getElem?_getD, hv]
          rfl
        have hq : ∀ nq, Calls Try.prog 119 #[.pointer (some ⟨p, 0, none⟩), .int .i64 (s : Int), .int .i64 ((α : Int) + (j : Int))] (wr.drewN nq) fun e w' => e = .returned (.tuple #[.int .u32 (v.toNat : Int), .int .i64 (0 : Int)]) ∧ w' = wr.drewN nq :=
          fun nq => Read_any (hDr.nor.below (below_drewN' (Below.refl _ _) nq)) (s : Int) ((α : Int) + (j : Int)) (by omega) v 0 hrd
        have HQ := Lib.hid hq
        have HV := Lib.hid hv
        have hw1 := wrapI ((α : Int) + (j : Int)) (by omega) (by omega)
        clear hq hv hrd hpl hjα hkc
        gi_wp2
        refine region_qtail_in 15 (by kernel_rfl) (by kernel_rfl) (fun ⟨_, _, q⟩ => q) (by kernel_rfl) ?_
        simp only [List.take_succ_cons, List.take_zero, List.drop_succ_cons, List.drop_zero]
        repeat (go_big_quiet_step ((go_at_call 119; exact Calls.quiet_of_same (HQ.out _))))
        refine wpQuiet_nil ?_
        rintro _ ⟨nq, rfl⟩
        have hcj : c + j < many := by have := HK.out; omega
        have hw2 := wrapI ((c : Int) + (j : Int)) (by omega) (by omega)
        have hzf := hFr.frozenAt (j := c + j)
        obtain ⟨old, hold⟩ : ∃ old, wr.cell? ⟨w.heap.size + 1 + 1 + 1, c + j, none⟩ = some old := ⟨_, hFr.cell (List.getElem?_eq_getElem (by rw [hFr.len]; exact hcj))⟩
        go_wp2_with fail
        gi_wp2
        go_roundw
        case rel =>
          have hF3 := (hFr.below (below_drewN' (Below.refl _ _) nq)).store (c + j) (.int .u32 (v.toNat : Int))
          have e1 : (cw (splice xs c (L.take j))).set (c + j) (.int .u32 (v.toNat : Int)) = cw (splice xs c (L.take (j + 1))) := by
            have hj2 : j < L.length := by rw [HLl.out]; exact hlt
            have hv2 : L[j] = v := by
              have := HV.out
              rw [List.getElem?_eq_getElem hj2] at this
              simpa using this
            rw [← splice_step xs L c j hj2 (by have := HLl.out; have := HX.out; have := HK.out; omega), hv2]
            simp [cw, List.map_set]
          rw [e1] at hF3
          exact ⟨j + 1, by omega, by go_num, (hBt.then_ (But.of_below (below_drewN' (Below.refl _ _) nq))).then_ (But.set _ _ _ _ _ (.inl rfl)), hF3⟩
        case measure => simp [intOf]; omega
      · obtain rfl : j = k := by omega
        gi_wp2
        refine ⟨⟨hBt.size, fun q o hq ho _ => (hBt.keep q (Array.getElem?_eq_some_iff.1 ho).1 (by omega) (by omega)).trans ho⟩, ⟨hBt.size, fun q hq => hBt.keep q (by have := hFour q hq; omega) (hGne q hq) (hGne q hq)⟩, ?_⟩
        refine ⟨_, hFr, (hBt.keep _ h3l (by omega) (by omega)).trans q3, (hBt.keep _ (Array.getElem?_eq_some_iff.1 q6).1 (by omega) (by omega)).trans q6, (hBt.keep _ (Array.getElem?_eq_some_iff.1 q7).1 (by omega) (by omega)).trans q7, (hBt.keep _ h8l (by omega) (by omega)).trans q8, hBr, Nat.le_trans hz hBt.size, fun t ht => ?_⟩
        obtain ⟨hu, rfl⟩ := upto_back ht
        have hee := HE.out
        have hkk := HK.out
        obtain ⟨-, hxc⟩ := hx c hu
        rw [hee]
        refine ⟨hle, ?_⟩
        rw [show L.take j = L from List.take_of_length_le (by rw [HLl.out]; exact Nat.le_refl _)]
        exact words_join xs (S.ws.drop (64 * f + at_)) L c e hgt (by rw [HX.out]; exact hle) hxc (by rw [HLl.out]; exact hkk.symm) (by rw [← HL.out, List.drop_drop, hkk])
  case done =>
    rintro D ys W hD hys ⟨xs, hF, q3, q6, q7, q8, hB, hz, hx⟩ hK
    obtain ⟨-, hxe⟩ := hx many hys
    have hxl : xs.length = many := by simpa using hF.len
    rw [List.take_of_length_le (by omega)] at hxe
    subst hxe
    have c8 := cell_of q8
    have c6 := cell_of q6
    have c7 := cell_of q7
    have f6 := frozen_of q6 0
    have f7 := frozen_of q7 0
    go_wp2_with fail
    have hne : ∀ (X : World) (g j k : Nat) (u : Value), k ≠ g → (X.setCell ⟨g, j, none⟩ u).heap[k]? = X.heap[k]? := fun X g j k u h => by
      simp only [World.setCell, Array.getElem?_modify]
      rw [if_neg (Ne.symm h)]
    have b6 : Boxed W (w.heap.size + 1) 54 (.slice none 0 0) := q6
    have b7 : Boxed W (w.heap.size + 1 + 1) 63 (.int .i64 0) := q7
    have c6 := (((b6.set (.slice (some ⟨w.heap.size + 1 + 1 + 1, 0, none⟩) many many)).other (show w.heap.size + 1 ≠ w.heap.size + 1 + 1 by omega) (.int .i64 0)))
    have c7 := ((b7.other (show w.heap.size + 1 + 1 ≠ w.heap.size + 1 by omega) (.slice (some ⟨w.heap.size + 1 + 1 + 1, 0, none⟩) many many)).set (.int .i64 0))
    have hX := (((hB.setCell (p := ⟨w.heap.size + 1, 0, none⟩) (by simp) (.slice (some ⟨w.heap.size + 1 + 1 + 1, 0, none⟩) many many))).setCell (p := ⟨w.heap.size + 1 + 1, 0, none⟩) (by simp; omega) (.int .i64 0))
    have hK2 := (hne _ (w.heap.size + 1 + 1) 0 D (.int .i64 0) (by omega)).trans ((hne W (w.heap.size + 1) 0 D (.slice (some ⟨w.heap.size + 1 + 1 + 1, 0, none⟩) many many) (by omega)).trans hK)
    have hG := (hne _ (w.heap.size + 1 + 1) 0 (w.heap.size + 1 + 1 + 1) (.int .i64 0) (by omega)).trans (hne W (w.heap.size + 1) 0 (w.heap.size + 1 + 1 + 1) (.slice (some ⟨w.heap.size + 1 + 1 + 1, 0, none⟩) many many) (by omega))
    revert c6 c7 hX hK2 hG
    generalize ((W.setCell ⟨w.heap.size + 1, 0, none⟩ (.slice (some ⟨w.heap.size + 1 + 1 + 1, 0, none⟩) many many)).setCell ⟨w.heap.size + 1 + 1, 0, none⟩ (.int .i64 0)) = X
    intro c6 c7 hX hK2 hG
    refine ⟨by simp, .inl ⟨_, _, rfl, run_takeDeferred hK2, ?_⟩⟩
    have hp : ∀ k, k < w3.heap.size → (X.putObj D (.deferred none)).heap[k]? = X.heap[k]? := fun k hk => World.putObj_heap_other (by omega)
    refine ⟨_, results_cell2 rfl rfl rfl (by kernel_rfl) (by kernel_rfl) (cell_of ((hp _ (by omega)).trans c6)) (cell_of ((hp _ (by omega)).trans c7)), _, rfl, ?_, ?_⟩
    · exact (hF.kept ((hp _ (by omega)).trans hG)).lower (by omega)
    · exact hX.trans (belowK_b (w := w) (Nat.le_refl _) X D _ _ (by omega) hK2 rfl rfl)
theorem words_any (h : DrAt base w d p b f m S) (hd : S.down = false) (at_ many : Nat) (hok : at_ + many ≤ 64 * m) :
    Calls Try.prog 113 #[.pointer (some ⟨d, 0, none⟩), .int .i64 (at_ : Int), .int .i64 (many : Int)] w fun e w' =>
      ∃ A c, e = .returned (.tuple #[.slice A many c, .int .i64 0]) ∧ Fresh w.heap.size 22 w' A many c (cw ((S.ws.drop (64 * f + at_)).take many)) ∧ Below w.heap.size w w' :=
  (words_at h hd at_ many hok).mono fun e w' ⟨G, h1, h2, h3⟩ => ⟨_, _, h1, h2, h3⟩
end
end Go.Proofs.Ytpdfalgjmeagjaa
namespace Go.Proofs.Ytpdfalgjmeagjaa
open Go.RowKit
set_option linter.unusedVariables false

/-- The bits that would be set. -/
def nset (x y : UInt32) : Nat := x.toNat &&& (4294967295 - y.toNat)
def sets32 : List UInt32 → List UInt32 → Bool
  | y :: is, x :: l => !(nset x y == 0) || sets32 is l
  | _, _ => false
theorem andNot32 (x y : UInt32) : bits .andNot .u32 (x.toNat : Int) (y.toNat : Int) = ((nset x y : Nat) : Int) := u32_andNot_nat _ _ x.toNat_lt y.toNat_lt
theorem drop_at32 {α : Type} {l : List α} {k : Nat} {x : α} (h : l[k]? = some x) : l.drop k = x :: l.drop (k + 1) := by
  obtain ⟨h1, h2⟩ := List.getElem?_eq_some_iff.1 h
  rw [List.drop_eq_getElem_cons h1, h2]
set_option maxHeartbeats 1000000 in
set_option maxRecDepth 100000 in
theorem wouldSet_any (A B : Option Addr) (c d n : Nat) (is l : List UInt32) (w : World) (hs : Sees w w.heap.size A (cw is)) (ht : Sees w w.heap.size B (cw l)) (ha : is.length = n) (hb : l.length = n) (hn : n ≤ 1099511627776) (r : Bool) (hr : sets32 is l = r) :
    Calls Try.prog 114 #[.slice A n c, .slice B n d] w fun e w' => e = .returned (.bool r) ∧ ∃ k, w' = w.drewN k := by
  have HA := Lib.hid ha
  have HB := Lib.hid hb
  have HR := Lib.hid hr
  clear ha hb hr
  go_enter Try.func114, Try.ntmps114
  go_wp2_with fail
  go_loopw [8] (fun i wr => ∃ k : Nat, k ≤ n ∧ i = .int .i64 (k : Int) ∧ Hid (sets32 (is.drop k) (l.drop k) = r) ∧ ∃ q, wr = w.drewN q) (fun i _ => n - (intOf i).toNat)
  case atStart => exact ⟨0, Nat.zero_le _, rfl, Lib.hid (by simpa using HR.out), 0, rfl⟩
  case round =>
    obtain ⟨k, hk, rfl, hu, q, rfl⟩ := hrel
    by_cases hlt : k < n
    · obtain ⟨g, o, rfl, hg, y, HY, hy', hcy⟩ := hs.word HA.out hlt
      obtain ⟨g', o', rfl, hg', x, HX, hx', hcx⟩ := ht.word HB.out hlt
      have hu2 := hu.out
      rw [drop_at32 HY.out, drop_at32 HX.out] at hu2
      simp only [sets32] at hu2
      have hraw := andNot32 x y
      revert hraw hu2
      generalize nset x y = N
      intro hu2 hraw
      clear hs ht hu HR
      rcases N with _ | N
      · simp at hu2
        have HU := Lib.hid hu2
        clear hu2
        go_wp2_with fail
        go_quiet (fail)
        go_wp2_with fail
        go_roundw
        case rel => exact ⟨k + 1, by omega, by go_num, HU, q + nq, (by first | rfl | rw [World.drewN_drewN])⟩
        case measure => simp [intOf]; omega
      · obtain rfl : r = true := by rw [← hu2]; simp
        clear hu2
        have h0 : ¬ (((N + 1 : Nat) : Int) = 0) := by omega
        go_wp2_with fail
        go_quiet (fail)
        go_wp2_with fail
        go_ret
        exact ⟨rfl, q + nq, (by first | rfl | rw [World.drewN_drewN])⟩
    · obtain rfl : k = n := by omega
      have hu2 := hu.out
      rw [List.drop_of_length_le (by rw [HA.out]; exact Nat.le_refl _)] at hu2
      simp only [sets32] at hu2
      subst hu2
      clear hs ht hu HR
      go_wp2_with fail
      go_ret
      exact ⟨rfl, q, rfl⟩
set_option maxHeartbeats 1000000 in
set_option maxRecDepth 100000 in
theorem EqualW_any (A B : Option Addr) (c d n m : Nat) (a l : List UInt32) (w : World) (hs : Sees w w.heap.size A (cw a)) (ht : Sees w w.heap.size B (cw l)) (ha : a.length = n) (hb : l.length = m) (hn : n ≤ 1099511627776) (hm : m ≤ 1099511627776) (r : Bool) (hr : (a == l) = r) :
    Calls Try.prog 116 #[.slice A n c, .slice B m d] w fun e w' => e = .returned (.bool r) ∧ ∃ k, w' = w.drewN k := by
  have HA := Lib.hid ha
  have HB := Lib.hid hb
  have HR := Lib.hid hr
  clear ha hb hr
  go_enter Try.func116, Try.ntmps116
  by_cases hnm : n = m
  · subst hnm
    go_wp2_with fail
    go_loopw [13] (fun i wr => ∃ k : Nat, k ≤ n ∧ i = .int .i64 (k : Int) ∧ Hid ((a.drop k == l.drop k) = r) ∧ ∃ q, wr = w.drewN q) (fun i _ => n - (intOf i).toNat)
    case atStart => exact ⟨0, Nat.zero_le _, rfl, Lib.hid (by simpa using HR.out), 0, rfl⟩
    case round =>
      obtain ⟨k, hk, rfl, hu, q, rfl⟩ := hrel
      by_cases hlt : k < n
      · obtain ⟨g, o, rfl, hg, y, HY, hy', hcy⟩ := hs.word HA.out hlt
        obtain ⟨g', o', rfl, hg', x, HX, hx', hcx⟩ := ht.word HB.out hlt
        have hu2 := hu.out
        rw [drop_at32 HY.out, drop_at32 HX.out, List.cons_beq_cons] at hu2
        clear hs ht hu HR
        by_cases hxy : y = x
        · subst hxy
          rw [beq_self_eq_true, Bool.true_and] at hu2
          have HU := Lib.hid hu2
          clear hu2
          go_wp2_with fail
          go_quiet (fail)
          go_wp2_with fail
          go_roundw
          case rel => exact ⟨k + 1, by omega, by go_num, HU, q + nq, (by first | rfl | rw [World.drewN_drewN])⟩
          case measure => simp [intOf]; omega
        · obtain rfl : r = false := by rw [← hu2]; simp [hxy]
          have h0 : ¬ ((y.toNat : Int) = (x.toNat : Int)) := by
            intro e
            exact hxy (UInt32.toNat_inj.1 (by omega))
          clear hu2 hxy
          go_wp2_with fail
          go_quiet (fail)
          go_wp2_with fail
          go_ret
          exact ⟨rfl, q + nq, (by first | rfl | rw [World.drewN_drewN])⟩
      · obtain rfl : k = n := by omega
        have hu2 := hu.out
        rw [List.drop_of_length_le (by rw [HA.out]; exact Nat.le_refl _), List.drop_of_length_le (by rw [HB.out]; exact Nat.le_refl _)] at hu2
        obtain rfl : r = true := by rw [← hu2]; rfl
        clear hs ht hu HR hu2
        go_wp2_with fail
        go_ret
        exact ⟨rfl, q, rfl⟩
  · obtain rfl : r = false := by
      rw [← HR.out]
      have : a ≠ l := fun e => hnm (by rw [← HA.out, ← HB.out, e])
      simp [this]
    have h0 : ¬ ((n : Int) = (m : Int)) := by omega
    clear hs ht HR
    go_wp2_with fail
    go_ret
    exact ⟨rfl, 0, rfl⟩
end Go.Proofs.Ytpdfalgjmeagjaa
namespace Go.Proofs.Ytpdfalgjmeagjaa
open Go.RowKit
set_option linter.unusedVariables false

section
variable {w : World} {base d p b f m : Nat} {S : Fl}
/-- The words of a drive. -/
def Fl.at_ (S : Fl) (f at_ many : Nat) : List UInt32 := (S.ws.drop (64 * f + at_)).take many
theorem DrAt.at_len (h : DrAt base w d p b f m S) {at_ many : Nat} (hok : at_ + many ≤ 64 * m) : (S.at_ f at_ many).length = many := by
  have := h.nor.len
  have := h.fits
  simp [Fl.at_]
  omega
theorem wordsOk_in {m at_ many : Nat} (h : at_ + many ≤ 64 * m) : wordsOk m (at_ : Int) (many : Int) = true := by
  simp [wordsOk]
  omega
theorem wordsOk_out {m : Nat} {a k : Int} (h : wordsOk m a k = true) : ∃ at_ many : Nat, a = (at_ : Int) ∧ k = (many : Int) ∧ at_ + many ≤ 64 * m := by
  simp [wordsOk] at h
  obtain ⟨⟨h1, h2⟩, h3⟩ := h
  obtain ⟨x, rfl⟩ := Int.eq_ofNat_of_zero_le h1
  obtain ⟨y, rfl⟩ := Int.eq_ofNat_of_zero_le h2
  exact ⟨x, y, rfl, rfl, by omega⟩
set_option maxRecDepth 100000 in
theorem dRead_at (h : DrAt base w d p b f m S) (hd : S.down = false) (at_ many : Nat) (hok : at_ + many ≤ 64 * m) :
    Calls Try.prog 39 #[.pointer (some ⟨d, 0, none⟩), .int .i64 (at_ : Int), .int .i64 (many : Int)] w fun e w' =>
      ∃ G, e = .returned (.tuple #[.slice (some ⟨G, 0, none⟩) many many, .int .i64 0]) ∧ Fresh w.heap.size 22 w' (some ⟨G, 0, none⟩) many many (cw (S.at_ f at_ many)) ∧ Below w.heap.size w w' := by
  have hm := h.small
  have hI := isDrive_any h
  have hP := dPlace_any h (at_ : Int) (many : Int) (by omega) true (wordsOk_in hok)
  have hD := Down_any h.nor
  rw [hd] at hD
  have hW := words_at h hd at_ many hok
  obtain ⟨-, c1, -⟩ := h.c
  go_enter Try.func39, Try.ntmps39
  go_wp2_with fail
  refine hI.mono ?_
  rintro e w1 ⟨rfl, rfl⟩
  go_wp2_with fail
  refine hP.mono ?_
  rintro e w2 ⟨rfl, rfl⟩
  go_wp2_with fail
  refine hD.mono ?_
  rintro e w3 ⟨rfl, rfl⟩
  go_wp2_with fail
  refine hW.mono ?_
  rintro e w4 ⟨G, rfl, hF, hB⟩
  go_wp2_with fail
  go_ret2
  exact ⟨G, rfl, hF, hB⟩
theorem dRead_ok (h : DrAt base w d p b f m S) (hd : S.down = false) (at_ many : Nat) (hok : at_ + many ≤ 64 * m) :
    Calls Try.prog 39 #[.pointer (some ⟨d, 0, none⟩), .int .i64 (at_ : Int), .int .i64 (many : Int)] w fun e w' =>
      ∃ A c, e = .returned (.tuple #[.slice A many c, .int .i64 0]) ∧ Fresh w.heap.size 22 w' A many c (cw (S.at_ f at_ many)) ∧ Below w.heap.size w w' :=
  (dRead_at h hd at_ many hok).mono fun e w' ⟨G, h1, h2, h3⟩ => ⟨_, _, h1, h2, h3⟩
/-- Which error Read ends with. -/
def readErr (S : Fl) (m : Nat) (a k : Int) : Nat := match wordsOk m a k with
  | false => 2
  | true => 40
set_option maxRecDepth 100000 in
theorem dRead_no (h : DrAt base w d p b f m S) (a k : Int) (ha : a < 9223372036854775808) (hno : wordsOk m a k = false ∨ S.down = true) :
    Calls Try.prog 39 #[.pointer (some ⟨d, 0, none⟩), .int .i64 a, .int .i64 k] w fun e w' =>
      e = .returned (.tuple #[.slice none 0 0, .int .i64 (readErr S m a k : Int)]) ∧ w' = w := by
  have hI := isDrive_any h
  have hD := Down_any h.nor
  obtain ⟨-, c1, -⟩ := h.c
  cases hr : wordsOk m a k
  · have hP := dPlace_any h a k ha false hr
    rw [show readErr S m a k = 2 from by simp [readErr, hr]]
    clear hr hno ha
    go_enter Try.func39, Try.ntmps39
    go_wp2_with fail
    refine hI.mono ?_
    rintro e w1 ⟨rfl, rfl⟩
    go_wp2_with fail
    refine hP.mono ?_
    rintro e w2 ⟨rfl, rfl⟩
    go_wp2_with fail
    go_ret2
    exact ⟨rfl, rfl⟩
  · have hP := dPlace_any h a k ha true hr
    rw [show readErr S m a k = 40 from by simp [readErr, hr]]
    obtain hd : S.down = true := by
      rcases hno with h1 | h1
      · rw [hr] at h1; cases h1
      · exact h1
    rw [hd] at hD
    clear hr hno ha hd
    go_enter Try.func39, Try.ntmps39
    go_wp2_with fail
    refine hI.mono ?_
    rintro e w1 ⟨rfl, rfl⟩
    go_wp2_with fail
    refine hP.mono ?_
    rintro e w2 ⟨rfl, rfl⟩
    go_wp2_with fail
    refine hD.mono ?_
    rintro e w3 ⟨rfl, rfl⟩
    go_wp2_with fail
    go_ret2
    exact ⟨rfl, rfl⟩
end
end Go.Proofs.Ytpdfalgjmeagjaa
namespace Go.Proofs.Ytpdfalgjmeagjaa
open Go.RowKit Go.Shelf
set_option linter.unusedVariables false
attribute [local go_sem] Oper.semAt_some

/-! ### Programming, plainly -/
theorem Fl.prog_append : ∀ (l1 l2 : List UInt32) (S : Fl) (j : Nat), S.prog j (l1 ++ l2) = match S.prog j l1 with
    | (T, true) => T.prog (j + l1.length) l2
    | (T, false) => (T, false)
  | [], l2, S, j => rfl
  | x :: l1, l2, S, j => by
    simp only [List.cons_append, Fl.prog]
    rcases S.step with ⟨T, _ | _⟩
    · rfl
    · simp only [List.length_cons]
      rw [Fl.prog_append l1 l2 (T.put1 j x) (j + 1), show j + 1 + l1.length = j + (l1.length + 1) from by omega]
theorem Fl.step_ws (S : Fl) : S.step.1.ws = S.ws := by
  obtain ⟨n, ws, g, ar, l, d, hf⟩ := S
  cases ar
  · rfl
  · cases l <;> rfl
theorem Fl.step_down {S T : Fl} (h : S.step = (T, true)) : T.down = S.down ∧ T.n = S.n ∧ T.ws = S.ws := by
  obtain ⟨n, ws, g, ar, l, d, hf⟩ := S
  cases ar
  · simp [Fl.step] at h; subst h; exact ⟨rfl, rfl, rfl⟩
  · cases l
    · simp [Fl.step] at h
    · simp [Fl.step] at h; subst h; exact ⟨rfl, rfl, rfl⟩
theorem Fl.prog_keep : ∀ (l : List UInt32) (S T : Fl) (j : Nat), S.prog j l = (T, true) → T.down = S.down ∧ T.n = S.n ∧ T.ws.length = S.ws.length
  | [], S, T, j, h => by simp [Fl.prog] at h; subst h; exact ⟨rfl, rfl, rfl⟩
  | x :: l, S, T, j, h => by
    simp only [Fl.prog] at h
    split at h
    · rename_i U hU
      obtain ⟨h1, h2, h3⟩ := Fl.step_down hU
      obtain ⟨k1, k2, k3⟩ := Fl.prog_keep l _ _ _ h
      refine ⟨k1.trans h1, k2.trans h2, k3.trans ?_⟩
      simp [Fl.put1, h3]
    · cases h
theorem Fl.prog_nn : ∀ (l : List UInt32) (S : Fl) (j : Nat), (S.prog j l).1.n = S.n
  | [], S, j => rfl
  | x :: l, S, j => by
    have h1 := S.step_n
    simp only [Fl.prog]
    revert h1
    rcases S.step with ⟨T, _ | _⟩
    · intro h1; exact h1
    · intro h1; exact (Fl.prog_nn l _ _).trans h1
theorem and_of_nset {x y : UInt32} (h : nset x y = 0) : y &&& x = x := by
  have h1 : ∀ i, (x.toNat &&& (4294967295 - y.toNat)).testBit i = false := fun i => by
    unfold nset at h
    rw [h]
    simp
  apply UInt32.toNat_inj.1
  rw [UInt32.toNat_and]
  apply Nat.eq_of_testBit_eq
  intro i
  have h2 := h1 i
  have hx := x.toNat_lt
  have hy := y.toNat_lt
  rw [Nat.testBit_and] at h2 ⊢
  rw [show 4294967295 - y.toNat = 2 ^ 32 - (y.toNat + 1) from by omega, Nat.testBit_two_pow_sub_succ hy] at h2
  by_cases hi : i < 32
  · simp only [hi, decide_true, Bool.true_and] at h2
    revert h2
    cases x.toNat.testBit i <;> cases y.toNat.testBit i <;> simp
  · have e1 : x.toNat.testBit i = false := Nat.testBit_lt_two_pow (Nat.lt_of_lt_of_le hx (Nat.pow_le_pow_right (by decide) (by omega)))
    simp [e1]
/-- Where no bit would be set, what was programmed is there; nothing else is another one. -/
theorem Fl.prog_words : ∀ (l : List UInt32) (S T : Fl) (j : Nat), S.prog j l = (T, true) → j + l.length ≤ S.ws.length → sets32 ((S.ws.drop j).take l.length) l = false → T.ws = splice S.ws j l
  | [], S, T, j, h, _, _ => by simp [Fl.prog] at h; subst h; simp [splice]
  | x :: l, S, T, j, h, hl, hs => by
    simp only [Fl.prog] at h
    split at h
    · rename_i U hU
      obtain ⟨h1, h2, h3⟩ := Fl.step_down hU
      simp only [List.length_cons] at hl hs
      have hj : j < S.ws.length := by omega
      rw [List.drop_eq_getElem_cons hj, List.take_succ_cons] at hs
      simp only [sets32, Bool.or_eq_false_iff, Bool.not_eq_false', beq_iff_eq] at hs
      have hput : (U.put1 j x).ws = S.ws.set j x := by
        simp only [Fl.put1, h3, List.getD_eq_getElem?_getD, List.getElem?_eq_getElem hj, Option.getD_some]
        rw [and_of_nset hs.1]
      have hd : ((S.ws.set j x).drop (j + 1)) = S.ws.drop (j + 1) := by
        rw [List.drop_set_of_lt (by omega)]
      rw [Fl.prog_words l _ _ _ h (by rw [hput]; simp; omega) (by rw [hput, hd]; exact hs.2), hput]
      unfold splice
      rw [show j + 1 + l.length = j + (l.length + 1) from by omega]
      have e1 : (S.ws.set j x).take (j + 1) = S.ws.take j ++ [x] := by
        rw [List.take_add_one, List.getElem?_set_self hj, List.take_set_of_le (Nat.le_refl _)]
        rfl
      have e2 : (S.ws.set j x).drop (j + (l.length + 1)) = S.ws.drop (j + (l.length + 1)) := List.drop_set_of_lt (by omega)
      rw [e1, e2]
      simp [List.append_assoc]
    · cases h
theorem splice_at {α : Type} (L X : List α) (j : Nat) (h : j + X.length ≤ L.length) : ((splice L j X).drop j).take X.length = X := by
  unfold splice
  rw [List.drop_append_of_le_length (by simp; omega)]
  rw [List.drop_of_length_le (by simp; omega), List.nil_append, List.take_append_of_le_length (Nat.le_refl _), List.take_length]
/-- 'l[x:y]'. -/
theorem run_between32 (A : Option Addr) (n c l h : Nat) (hl : l ≤ h) (hh : h ≤ n) (hc : n ≤ c) :
    ∃ A' : Option Addr, (∀ w, (Instr.slice 54 (.slice A n c) (some (.int .i64 (l : Int))) (some (.int .i64 (h : Int))) none).run Try.prog w = .ok (.slice A' (h - l) (c - l)) w) ∧ ∀ (w : World) (B : Nat) (xs : List UInt32), xs.length = n → Sees w B A (cw xs) → Sees w B A' (cw ((xs.drop l).take (h - l))) := by
  have hz : ∀ w, (sizeOf (Try.prog.elem 54)).run Try.prog w = .ok 1 w := fun w => by kernel_rfl
  have he : Try.prog.underlying 54 = some (.slice (Try.prog.elem 54)) := by kernel_rfl
  have hr : ∀ w, (Instr.slice 54 (.slice A n c) (some (.int .i64 (l : Int))) (some (.int .i64 (h : Int))) none).run Try.prog w = .ok (sliced A l h c 1) w := fun w => by
    rw [run_slice_lh w 54 A n c he .i64 .i64 (l : Int) (h : Int) (by omega) (by omega) (by omega), hz]
    simp only [Result.andThen, Int.toNat_natCast]
  have hcb : ∀ xs : List UInt32, cw ((xs.drop l).take (h - l)) = ((cw xs).drop l).take (h - l) := fun xs => by simp [cw]
  by_cases hlc : l = c
  · refine ⟨A, fun w => ?_, fun w B xs hx hs => ?_⟩
    · rw [hr]
      cases A <;> simp [sliced, hlc]
    · rw [show h - l = 0 from by omega, List.take_zero]
      exact Sees.nil
  · refine ⟨A.map (·.add l), fun w => ?_, fun w B xs hx hs => ?_⟩
    · rw [hr]
      cases A <;> simp [sliced, Ne.symm hlc]
    · rw [hcb]
      by_cases hln : l < n
      · exact (hs.add l (by simp; omega)).take_ _
      · rw [List.drop_of_length_le (by simp; omega), List.take_nil]
        exact Sees.nil
/-- A piece more, or the failure within it. -/
theorem piece_step {S T T' : Fl} {J c e s α r : Nat} {l : List UInt32} (hT : S.prog J (l.take c) = (T, true)) (hd : S.down = false) (hce : c ≤ e) (hel : e ≤ l.length) (hs : s * 64 + α = J + c) (hsn : s < S.n) (hα : α + (e - c) ≤ 64)
    (hr : T.program (s : Int) (α : Int) ((l.drop c).take (e - c)) = (T', r)) : (r = 0 ∧ S.prog J (l.take e) = (T', true)) ∨ (r = 40 ∧ S.prog J l = (T', false)) := by
  obtain ⟨k1, k2, k3⟩ := Fl.prog_keep _ _ _ _ hT
  have hlen : ((l.drop c).take (e - c)).length = e - c := by simp; omega
  have hpl : T.place (s : Int) (α : Int) ((l.drop c).take (e - c)).length = true := by
    rw [hlen]
    simp [Fl.place, Fl.sector]
    omega
  have he : l.take e = l.take c ++ (l.drop c).take (e - c) := by
    rw [← List.take_add, show c + (e - c) = e from by omega]
  have h1 : S.prog J (l.take e) = T.prog (s * 64 + α) ((l.drop c).take (e - c)) := by
    rw [he, Fl.prog_append, hT]
    simp only
    rw [List.length_take, Nat.min_eq_left (by omega), hs]
  unfold Fl.program at hr
  rw [hpl, k1, hd] at hr
  simp only [Int.toNat_natCast] at hr
  rw [← h1] at hr
  revert hr
  rcases hq : S.prog J (l.take e) with ⟨U, _ | _⟩
  · intro hr
    simp only [Prod.mk.injEq] at hr
    obtain ⟨rfl, rfl⟩ := hr
    refine .inr ⟨rfl, ?_⟩
    rw [← List.take_append_drop e l, Fl.prog_append, hq]
  · intro hr
    simp only [Prod.mk.injEq] at hr
    obtain ⟨rfl, rfl⟩ := hr
    exact .inl ⟨rfl, rfl⟩
/-- The result, of one cell. -/
theorem results_cell1 {P : Program} {fn : Func} {tmps : Array Value} {w : World} {p : Tmp} {T : TypeId} {a : Addr} {u : Value} (hr : fn.results = #[.cell p T]) (hp : tmps.getD p undef = .pointer (some a)) (hT : plainT P T = true) (hu : w.cell? a = some u) : (results fn tmps).run P w = .ok u w := by
  have hp' : tmps[p]?.getD undef = .pointer (some a) := by simpa using hp
  simp [results, hr, hp', asAddr, load_plain hT hu]
/-- What the call holds between two rounds: the flash as it is then, its own boxes. -/
structure WInv (base : Nat) (w w3 : World) (d p b n c : Nat) (A : Option Addr) (E : Nat) (T : Fl) (W : World) : Prop where
  nor : NorAt base W p b T
  k3 : W.heap[w.heap.size]? = some (.cells #[.pointer (some ⟨d, 0, none⟩)] 69)
  k5 : W.heap[w.heap.size + 1]? = some (.cells #[.slice A n c] 54)
  k6 : W.heap[w.heap.size + 1 + 1]? = some (.cells #[.int .i64 (E : Int)] 63)
  but : But p b w W
  size : w3.heap.size ≤ W.heap.size
theorem NorAt.grown {base p b B : Nat} {T : Fl} {W W' : World} {row : Option Nat} (h : NorAt base W p b T) (hg : W.grownBy W' row) (hr : ∀ r, row = some r → B ≤ r ∧ ∃ o : Obj, W.heap[r]? = some o ∧ o.isCells = false) : NorAt base W' p b T :=
  ⟨fresh_grown h.obj hg hr, fresh_grown h.row hg hr, h.ne, h.n_le, h.left_le⟩
theorem But.grown {p b B : Nat} {w W W' : World} {row : Option Nat} (h : But p b w W) (hg : W.grownBy W' row) (hB : w.heap.size ≤ B) (hr : ∀ r, row = some r → B ≤ r) : But p b w W' :=
  ⟨hg.os.trans h.os, hg.tape.trans h.tape, hg.output.trans h.output, Nat.le_trans h.size hg.size, fun k h1 h2 h3 => (hg.block k (Nat.lt_of_lt_of_le h1 h.size) (fun e => by have := hr k e.symm; omega)).trans (h.keep k h1 h2 h3)⟩
theorem WInv.grown {base d p b n c B E : Nat} {w w3 W W' : World} {A : Option Addr} {T : Fl} {row : Option Nat} (h : WInv base w w3 d p b n c A E T W) (hg : W.grownBy W' row) (hB : w.heap.size ≤ B) (hr : ∀ r, row = some r → B ≤ r ∧ ∃ o : Obj, W.heap[r]? = some o ∧ o.isCells = false) : WInv base w w3 d p b n c A E T W' :=
  ⟨h.nor.grown hg hr, (cells_kept hg hr h.k3).trans h.k3, (cells_kept hg hr h.k5).trans h.k5, (cells_kept hg hr h.k6).trans h.k6, h.but.grown hg hB (fun r e => (hr r e).1), Nat.le_trans h.size hg.size⟩
theorem WInv.below {base d p b n c E : Nat} {w w3 W W' : World} {A : Option Addr} {T : Fl} (h : WInv base w w3 d p b n c A E T W) (x : Below W.heap.size W W') : WInv base w w3 d p b n c A E T W' :=
  have hl := fun {k : Nat} {o : Obj} (q : W.heap[k]? = some o) => (x.block k (Array.getElem?_eq_some_iff.1 q).1).trans q
  ⟨h.nor.below x, hl h.k3, hl h.k5, hl h.k6, h.but.then_ (But.of_below x), Nat.le_trans h.size x.size⟩
/-- The flash is another one. -/
theorem WInv.turn {base d p b n c E : Nat} {w w3 W W' : World} {A : Option Addr} {T T' : Fl} (h : WInv base w w3 d p b n c A E T W) (hp : p < w.heap.size) (hb : b < w.heap.size) (hN : NorAt base W' p b T') (x : But p b W W') : WInv base w w3 d p b n c A E T' W' :=
  have hl := fun {k : Nat} {o : Obj} (q : W.heap[k]? = some o) (hk : w.heap.size ≤ k) => (x.keep k (Array.getElem?_eq_some_iff.1 q).1 (by omega) (by omega)).trans q
  ⟨hN, hl h.k3 (by omega), hl h.k5 (by omega), hl h.k6 (by omega), h.but.then_ x, Nat.le_trans h.size x.size⟩
theorem setCell_ne (X : World) (g j k : Nat) (u : Value) (h : k ≠ g) : (X.setCell ⟨g, j, none⟩ u).heap[k]? = X.heap[k]? := by
  simp only [World.setCell, Array.getElem?_modify]
  rw [if_neg (Ne.symm h)]
/-- The result is written. -/
theorem WInv.put {base d p b n c E : Nat} {w w3 W : World} {A : Option Addr} {T : Fl} (h : WInv base w w3 d p b n c A E T W) (hp : p < w.heap.size) (hb : b < w.heap.size) (E' : Nat) : WInv base w w3 d p b n c A E' T (W.setCell ⟨w.heap.size + 1 + 1, 0, none⟩ (.int .i64 (E' : Int))) := by
  have b6 : Boxed W (w.heap.size + 1 + 1) 63 (.int .i64 (E : Int)) := h.k6
  have hk := fun k (hk : k ≠ w.heap.size + 1 + 1) => setCell_ne W (w.heap.size + 1 + 1) 0 k (.int .i64 (E' : Int)) hk
  exact ⟨⟨h.nor.obj.kept (hk p (by omega)), h.nor.row.kept (hk b (by omega)), h.nor.ne, h.nor.n_le, h.nor.left_le⟩, (hk _ (by omega)).trans h.k3, (hk _ (by omega)).trans h.k5, b6.set _,
    ⟨h.but.os, h.but.tape, h.but.output, by simpa [World.setCell] using h.but.size, fun k h1 h2 h3 => (hk k (by omega)).trans (h.but.keep k h1 h2 h3)⟩, by simpa [World.setCell] using h.size⟩
end Go.Proofs.Ytpdfalgjmeagjaa
namespace Go.Proofs.Ytpdfalgjmeagjaa
open Go.RowKit Go.Shelf
set_option linter.unusedVariables false
attribute [local go_sem] Oper.semAt_some

/-- The slots of a round. -/
def writeA (w : World) (d g1 g2 g3 f at_ n c cr : Nat) (A Ar : Option Addr) (c' gx : Nat) : Act := { tmps := #[.pointer (some ⟨d, 0, none⟩), .int .i64 (at_ : Int), .slice A n c, .pointer (some ⟨w.heap.size, 0, none⟩), undef, .pointer (some ⟨w.heap.size + 1, 0, none⟩), .pointer (some ⟨w.heap.size + 1 + 1, 0, none⟩), .slice Ar n cr, .int .i64 0, .pointer (some ⟨gx, 0, none⟩), undef, .tuple #[.slice Ar n cr, .int .i64 0], .pointer (some ⟨d, 0, none⟩), .int .i64 (at_ : Int), .slice A n c, .int .i64 (n : Int), .tuple #[.slice Ar n cr, .int .i64 0], .slice Ar n cr, .int .i64 0, .int .i64 0, .bool false, undef, .slice Ar n cr, .slice A n c, .bool false, .pointer (some ⟨d, 0, none⟩), .int .i64 (at_ : Int), .slice A n c, .int .i64 (n : Int), .func (.func 177) #[] #[.pointer (some ⟨g1, 0, none⟩), .pointer (some ⟨g2, 0, none⟩), .pointer (some ⟨g3, 0, none⟩)], pieceV f at_ n c', undef, undef, undef, undef, undef, undef, undef, undef, undef, undef, undef, undef, undef, undef, undef, undef, undef, undef, undef, undef, undef, undef, undef, undef, undef, undef, undef, undef, undef, undef, undef, undef, undef], defers := [] }
section
variable {w : World} {base d p b f m : Nat} {S : Fl}
set_option maxHeartbeats 4000000 in
set_option maxRecDepth 100000 in
theorem dWrite_go (h : DrAt base w d p b f m S) (hd : S.down = false) (at_ n c : Nat) (A : Option Addr) (l : List UInt32) (hs : Off p b w A (cw l)) (hl : l.length = n) (hc : n ≤ c) (hok : at_ + n ≤ 64 * m) (hset : sets32 (S.at_ f at_ n) l = false) (S' : Fl) (r : Bool) (hr : S.prog (64 * f + at_) l = (S', r)) :
    Calls Try.prog 41 #[.pointer (some ⟨d, 0, none⟩), .int .i64 (at_ : Int), .slice A n c] w fun e w' =>
      e = .returned (.int .i64 (if r then 0 else 40)) ∧ DrAt base w' d p b f m S' ∧ But p b w w' := by
  have hm := h.small
  have HL := Lib.hid hl
  have HR := Lib.hid hr
  have HS := Lib.hid hset
  have hsm : f ≤ 1024 := by omega
  have hat : at_ + n ≤ 65536 := by omega
  have hlS : (S.at_ f at_ n).length = n := h.at_len hok
  have hnn := h.nor.n_le
  have hfit := h.fits
  have HWL := Lib.hid h.nor.len
  obtain ⟨hpw, hbw, -, -⟩ := h.nor.lt
  have hdw : d < w.heap.size := h.obj.lt_size
  have hdp := h.dp
  have hdb := h.db
  clear hl hr hset
  refine (callsIn_wide (n := 6)).1 ?_
  refine callsIn_of_wp_marks Try.func41 rfl trivial ?_ rfl
  simp only [Try.ntmps41, List.size_toArray, List.length_cons, List.length_nil, Nat.reduceAdd, Nat.reduceSub, Array.replicate_succ, Array.replicate_zero, List.push_toArray, List.append_toArray, List.nil_append, List.cons_append]
  refine wpIn_wide.2 ?_
  obtain ⟨e1, e2, e3, e4, hBa⟩ := alloc3 w (Obj.cells #[Value.pointer (some ⟨d, 0, none⟩)] 69) (Obj.cells #[Value.slice A n c] 54) (Obj.cells #[Value.int .i64 0] 63)
  go_wp2_with fail
  revert e1 e2 e3 e4 hBa
  generalize (((w.alloc (Obj.cells #[Value.pointer (some ⟨d, 0, none⟩)] 69)).alloc (Obj.cells #[Value.slice A n c] 54)).alloc (Obj.cells #[Value.int .i64 0] 63)) = w0
  intro k3 k5 k6 z0 hB0
  have hD0 := h.below hB0
  refine (dRead_ok hD0 hd at_ n hok).mono ?_
  rintro e w1 ⟨Ar, cr, rfl, hFr, hB1⟩
  have hD1 := hD0.below hB1
  replace k3 := (hB1.block _ (by omega)).trans k3
  replace k5 := (hB1.block _ (by omega)).trans k5
  replace k6 := (hB1.block _ (by omega)).trans k6
  have hBw1 : Below w.heap.size w w1 := Below.then_ hB0 hB1
  have z1 := hB1.size
  have c3 := cell_of k3
  have c5 := cell_of k5
  have c6 := cell_of k6
  have hn6 : n ≤ 65536 := by omega
  have hs1 := hs.step (But.of_below hBw1)
  go_wp2_with fail
  refine (wouldSet_any Ar A cr c n (S.at_ f at_ n) l w1 hFr.sees hs1.sees hlS HL.out (by omega) false HS.out).mono ?_
  rintro e w2 ⟨rfl, q, rfl⟩
  go_wp2_with fail
  have hB2 := below_drewN' (Below.refl w1.heap.size w1) q
  revert hB2
  generalize w1.drewN q = w2
  intro hB2
  have hD2 := hD1.below hB2
  have hBw2 := Below.then_ hBw1 hB2
  have z2 := hB2.size
  replace k3 := (hB2.block _ (by omega)).trans k3
  replace k5 := (hB2.block _ (by omega)).trans k5
  replace k6 := (hB2.block _ (by omega)).trans k6
  clear c3 c5 c6 hFr hs1 hB0 hB1 hB2 hD0 hD1 hBw1
  refine (pieces_any hD2 at_ n).mono ?_
  rintro e w3 ⟨g1, g2, g3, rfl, hB3, l1, l1', l2, l2', l3, l3', cg1, cg2, cg3⟩
  have hD3 := hD2.below hB3
  have hBw3 := Below.then_ hBw2 hB3
  replace k3 := (hB3.block _ (by omega)).trans k3
  replace k5 := (hB3.block _ (by omega)).trans k5
  replace k6 := (hB3.block _ (by omega)).trans k6
  have z3 := hB3.size
  clear hD2 hBw2 hB3
  obtain ⟨-, -, cd2, -⟩ := hD3.c
  have hRd : Reads g1 g2 g3 d f at_ n w3 := ⟨cg1, cg2, cg3, cd2⟩
  have hFour : ∀ k, Four_ g1 g2 g3 d k → k < w3.heap.size := by
    rintro k (rfl | rfl | rfl | rfl) <;> omega
  have hFp : ∀ k, Four_ g1 g2 g3 d k → k ≠ p := by
    rintro k (rfl | rfl | rfl | rfl) <;> first | omega | exact hdp
  have hFb : ∀ k, Four_ g1 g2 g3 d k → k ≠ b := by
    rintro k (rfl | rfl | rfl | rfl) <;> first | omega | exact hdb
  have hpr : ∀ k, k = p ∨ k = b → ¬ w3.heap.size ≤ k := by
    rintro k (rfl | rfl) <;> omega
  have hI3 : WInv base w w3 d p b n c A 0 S w3 := ⟨hD3.nor, k3, k5, k6, But.of_below hBw3, Nat.le_refl _⟩
  go_wp2_with fail
  refine (wpIn_wide (n := 6)).1 ?_
  refine wpIn_rangeFunc_ownH (α := Pc n) rfl (by omega) (gf := 177) (lb := #[.pointer (some ⟨g1, 0, none⟩), .pointer (some ⟨g2, 0, none⟩), .pointer (some ⟨g3, 0, none⟩)]) rfl trivial (enters_of Try.func177 (by kernel_rfl) rfl)
    (pieces_stops 5 (by omega) g1 g2 g3 d f at_ n hsm hat w3 hRd hFour) (fun h k => h.trans k) (ButB.put hFour) (Below.refl _ _) (fun _ => rfl)
    (fun pre W => ∃ T, WInv base w w3 d p b n c A 0 T W ∧ ∀ t, upto at_ n pre = some t → t ≤ n ∧ S.prog (64 * f + at_) (l.take t) = (T, true))
    (fun code pre W => code = .ret ∧ ∃ T E, WInv base w w3 d p b n c A E T W ∧ ∀ t, upto at_ n pre = some t → E = 40 ∧ S.prog (64 * f + at_) l = (T, false))
    (fun pre W W' row hs hg hr => by obtain ⟨T, hI, hu⟩ := hs; exact ⟨T, hI.grown hg (by omega) hr, hu⟩) (fun code pre W W' row hs hg hr => by obtain ⟨h1, T, E, hI, hu⟩ := hs; exact ⟨h1, T, E, hI.grown hg (by omega) hr, hu⟩) ?start
    (fun x a' W => ∃ gx, w3.heap.size ≤ gx ∧ a' = writeA w d g1 g2 g3 f at_ n c cr A Ar x.1 gx ∧ Fresh w3.heap.size 189 W (some ⟨gx, 0, none⟩) 4 4 (pieceC f at_ n x.1)) ?own ?assign ?body ?done ?stop
  case start => exact ⟨S, hI3, fun t ht => by simp [upto] at ht; subst ht; exact ⟨Nat.zero_le _, rfl⟩⟩
  case own =>
    rintro x a' _ W W' row ⟨gx, hgx, rfl, hF⟩ hg hr
    exact ⟨gx, hgx, rfl, fresh_grown hF hg hr⟩
  case assign =>
    intro l' pre x W K hI hK
    simp only [zip_one]
    refine plain_in (by kernel_rfl) (fun ⟨_, _, q⟩ => q) ?_
    refine wpList_alloc (o := ⟨some 9, _, _, _, _, _⟩) rfl 189 rfl [.int .i64 0, .int .i64 0, .int .i64 0, .int .i64 0] (by kernel_rfl) 4 rfl (by decide) ?_
    intro gx W1 hgx hFx hBx
    refine wpList_store rfl rfl (.tmp 9) (.tmp 30) 189 rfl gx 0 W.heap.size 189 4 _ (pieceC f at_ n x.1) rfl rfl 4 rfl (by kernel_rfl) hFx (by omega) (by intro u hu; simp [pieceC] at hu; rcases hu with rfl | rfl | rfl | rfl <;> rfl) W hBx hgx ?_
    intro W2 hFx2 hBx2 _ _
    obtain ⟨T, hI, hu⟩ := hI
    have hzz := hI.size
    refine hK _ W2 (keeps_of_below hBx2) (.of_below hBx2 (fun k hk => by have := hFour k hk; omega)) ⟨T, hI.below hBx2, hu⟩ ⟨gx, by omega, rfl, hFx2.lower hzz⟩
  case body =>
    rintro l' pre ⟨c', hc'⟩ a' W hl' ⟨r', hr'⟩ ⟨T, hI, hu⟩ ⟨gx, hgx, rfl, hFx⟩ hlt
    obtain ⟨e, he⟩ : ∃ e, pieceEnd at_ n c' = e := ⟨_, rfl⟩
    have hgt := pieceEnd_gt at_ n c' hc'
    have hle := pieceEnd_le at_ n c'
    obtain ⟨s, hs'⟩ : ∃ s, f + (at_ + c') / 64 = s := ⟨_, rfl⟩
    obtain ⟨α, hα⟩ : ∃ α, (at_ + c') % 64 = α := ⟨_, rfl⟩
    have hea : e ≤ c' + 64 - α := by rw [← he, ← hα]; exact Nat.min_le_left _ _
    have hα64 : α < 64 := by omega
    have hs64 : s * 64 + α = 64 * f + at_ + c' := by omega
    have p0 : W.cell? ⟨gx, 0, none⟩ = some (.int .i64 (s : Int)) := by rw [← hs']; exact hFx.cell rfl
    have p1 : W.cell? ⟨gx, 1, none⟩ = some (.int .i64 (α : Int)) := by rw [← hα]; exact hFx.cell rfl
    have p2 : W.cell? ⟨gx, 2, none⟩ = some (.int .i64 (c' : Int)) := hFx.cell rfl
    have p3 : W.cell? ⟨gx, 3, none⟩ = some (.int .i64 (e : Int)) := by rw [← he]; exact hFx.cell rfl
    rw [he] at hgt hle
    have hsn : s < S.n := by omega
    have HE := Lib.hid he
    clear he hs' hα
    have c3 := cell_of hI.k3
    have c5 := cell_of hI.k5
    have c6 := cell_of hI.k6
    have f6 := frozen_of hI.k6 0
    have cd1 : W.cell? ⟨d, 1, none⟩ = some (.pointer (some ⟨p, 0, none⟩)) := (h.obj.but hI.but hdp hdb).cell rfl
    obtain ⟨A', hrun, hsee⟩ := run_between32 A n c c' e (by omega) hle hc
    have hq := fun nq => hrun (W.drewN nq)
    unfold writeA
    gi_wp2
    refine region_qtail_in 14 (by kernel_rfl) (by kernel_rfl) (fun ⟨_, _, q⟩ => q) (by kernel_rfl) ?_
    simp only [List.take_succ_cons, List.take_zero, List.drop_succ_cons, List.drop_zero]
    repeat (go_big_quiet_step (fail))
    refine wpQuiet_nil ?_
    rintro _ ⟨nq, rfl⟩
    have hIq := hI.below (below_drewN' (Below.refl _ _) nq)
    obtain ⟨T', z, hprog⟩ : ∃ T' z, T.program (s : Int) (α : Int) ((l.drop c').take (e - c')) = (T', z) := ⟨_, _, rfl⟩
    have hOff : Off p b (W.drewN nq) A' (cw ((l.drop c').take (e - c'))) := fun w' x => hsee w' _ l HL.out ((hs.step hIq.but) w' x)
    have hplen : ((l.drop c').take (e - c')).length = e - c' := by
      have := HL.out
      simp
      omega
    have hP := Program_off hIq.nor (s : Int) (α : Int) (by omega) (e - c') (c - c') A' _ hOff hplen T' z hprog
    have hnext : ∀ t, upto at_ n (pre ++ [⟨c', hc'⟩]) = some t → t = e ∧ ((z = 0 ∧ S.prog (64 * f + at_) (l.take e) = (T', true)) ∨ (z = 40 ∧ S.prog (64 * f + at_) l = (T', false))) := fun t ht => by
      obtain ⟨hup, rfl⟩ := upto_back ht
      obtain ⟨-, hT⟩ := hu c' hup
      exact ⟨HE.out, piece_step hT hd (by omega) (by rw [HL.out]; exact hle) (by omega) hsn (by omega) hprog⟩
    clear hu hprog hplen
    have hKF : ∀ W', But p b (W.drewN nq) W' → KeepsFrom w3.heap.size W W' ∧ ButB g1 g2 g3 d W W' := fun W' x => by
      have y := (But.of_below (below_drewN' (Below.refl W.heap.size W) nq)).then_ x
      exact ⟨⟨y.size, fun q o hq ho _ => (y.keep q (Array.getElem?_eq_some_iff.1 ho).1 (fun e => hpr q (.inl e) hq) (fun e => hpr q (.inr e) hq)).trans ho⟩, ⟨y.size, fun q hq => y.keep q (by have := hFour q hq; have := hI.size; omega) (hFp q hq) (hFb q hq)⟩⟩
    go_wp2_with fail
    refine hP.mono ?_
    rintro e' W4 ⟨rfl, hN4, hB4⟩
    obtain ⟨hkf, hbb⟩ := hKF W4 hB4
    have hI4 := hIq.turn hpw hbw hN4 hB4
    have c6' := cell_of hI4.k6
    have f6' := frozen_of hI4.k6 0
    clear hP hOff hKF c3 c5 c6 f6
    rcases z with _ | z
    · go_wp2_with fail
      gi_wp2
      refine ⟨hkf, hbb, T', hI4, fun t ht => ?_⟩
      obtain ⟨rfl, h1 | h1⟩ := hnext t ht
      · exact ⟨hle, h1.2⟩
      · exact absurd h1.1 (by omega)
    · have h0 : ¬ (((z + 1 : Nat) : Int) = 0) := by omega
      go_wp2_with fail
      gi_wp2
      exact ⟨hkf.trans ((KeepsOthers.setCell _ _ _).from _), rfl, T', z + 1, hI4.put hpw hbw (z + 1), fun t ht => by
        obtain ⟨rfl, h1 | h1⟩ := hnext t ht
        · exact absurd h1.1 (by omega)
        · exact h1⟩
  case done =>
    rintro D ys W hD hys ⟨T, hI, hu⟩ hK
    obtain ⟨-, hT⟩ := hu n hys
    rw [List.take_of_length_le (by rw [HL.out]; exact Nat.le_refl _), HR.out] at hT
    simp only [Prod.mk.injEq] at hT
    obtain ⟨rfl, rfl⟩ := hT
    obtain ⟨hTd, hTn, hTw⟩ := Fl.prog_keep _ _ _ _ HR.out
    have hDW : DrAt base W d p b f m S' := h.turn hI.but hI.nor hTn
    have hfin : S'.at_ f at_ n = l := by
      have e1 := Fl.prog_words _ _ _ _ HR.out (by rw [HL.out, HWL.out]; omega) (by rw [HL.out]; exact HS.out)
      unfold Fl.at_
      rw [e1, ← HL.out]
      exact splice_at _ _ _ (by rw [HL.out, HWL.out]; omega)
    have c3 := cell_of hI.k3
    have c5 := cell_of hI.k5
    have HF := Lib.hid hfin
    have hTd2 : S'.down = false := hTd.trans hd
    clear hu hfin hTd
    go_wp2_with fail
    refine (words_any hDW hTd2 at_ n hok).mono ?_
    rintro e1 W5 ⟨Aw, cw', rfl, hF5, hB5⟩
    have hI5 := hI.below hB5
    have c3 := cell_of hI5.k3
    have c5 := cell_of hI5.k5
    have hK5 := (hB5.block D (Array.getElem?_eq_some_iff.1 hK).1).trans hK
    have hF5' : Fresh W.heap.size 22 W5 Aw n cw' (cw l) := by
      have := HF.out
      unfold Fl.at_ at this
      rwa [this] at hF5
    have hs5 := (hs.step hI5.but).sees
    go_wp2_with fail
    refine (EqualW_any Aw A cw' c n n l l W5 hF5'.sees hs5 HL.out HL.out (by omega) (by omega) true (by simp)).mono ?_
    rintro e1 W6 ⟨rfl, q6, rfl⟩
    have hI6 := hI5.below (below_drewN' (Below.refl _ _) q6)
    have hK6 : (W5.drewN q6).heap[D]? = some (.deferred (some [])) := ((below_drewN' (Below.refl W5.heap.size W5) q6).block D (Array.getElem?_eq_some_iff.1 hK5).1).trans hK5
    revert hI6 hK6
    generalize W5.drewN q6 = W6
    intro hI6 hK6
    have c6 := cell_of hI6.k6
    have f6 := frozen_of hI6.k6 0
    go_wp2_with fail
    have hI7 := hI6.put hpw hbw 0
    have hD6 : D < W6.heap.size := (Array.getElem?_eq_some_iff.1 hK6).1
    have hK7 := (setCell_ne W6 (w.heap.size + 1 + 1) 0 D (.int .i64 ((0 : Nat) : Int)) (by omega)).trans hK6
    have hI' := hI7.grown (grownBy_putObj' _ D (.deferred none)) (show w.heap.size ≤ w3.heap.size by omega) (fun r e => by cases e; exact ⟨hD, _, hK7, rfl⟩)
    refine ⟨by simp, .inl ⟨_, _, rfl, run_takeDeferred hK7, ?_⟩⟩
    exact ⟨_, results_cell1 rfl rfl (by kernel_rfl) (cell_of hI'.k6), rfl, h.turn hI'.but hI'.nor hTn, hI'.but⟩
  case stop =>
    rintro D code pre W hD ⟨t, ht⟩ ⟨rfl, T, E, hI, hu⟩ hK
    obtain ⟨rfl, hT⟩ := hu t ht
    rw [HR.out] at hT
    simp only [Prod.mk.injEq] at hT
    obtain ⟨rfl, rfl⟩ := hT
    have hTn : S'.n = S.n := by have := Fl.prog_nn l S (64 * f + at_); rw [HR.out] at this; exact this
    have hDW : DrAt base W d p b f m S' := h.turn hI.but hI.nor hTn
    have hI' := hI.grown (grownBy_putObj' W D (.deferred none)) (show w.heap.size ≤ w3.heap.size by omega) (fun r e => by cases e; exact ⟨hD, _, hK, rfl⟩)
    gi_wp2
    refine ⟨by simp, .inl ⟨_, _, rfl, run_takeDeferred hK, ?_⟩⟩
    exact ⟨_, results_cell1 rfl rfl (by kernel_rfl) (cell_of hI'.k6), rfl, h.turn hI'.but hI'.nor hTn, hI'.but⟩
end
end Go.Proofs.Ytpdfalgjmeagjaa
namespace Go.Proofs.Ytpdfalgjmeagjaa
open Go.RowKit Go.Shelf
set_option linter.unusedVariables false

section
variable {w : World} {base d p b f m : Nat} {S : Fl}
/-- What Write does, and its error. -/
def Fl.dwrite (S : Fl) (f m : Nat) (a : Int) (l : List UInt32) : Fl × Nat := match wordsOk m a (l.length : Int), S.down with
  | false, _ => (S, 2)
  | true, true => (S, 40)
  | true, false => match sets32 (S.at_ f a.toNat l.length) l with
    | true => (S, 50)
    | false => match S.prog (64 * f + a.toNat) l with
      | (T, true) => (T, 0)
      | (T, false) => (T, 40)
set_option maxHeartbeats 1000000 in
set_option maxRecDepth 100000 in
theorem dWrite_any (h : DrAt base w d p b f m S) (a : Int) (ha : a < 9223372036854775808) (n c : Nat) (A : Option Addr) (l : List UInt32) (hs : Off p b w A (cw l)) (hl : l.length = n) (hc : n ≤ c) (S' : Fl) (r : Nat) (hr : S.dwrite f m a l = (S', r)) :
    Calls Try.prog 41 #[.pointer (some ⟨d, 0, none⟩), .int .i64 a, .slice A n c] w fun e w' =>
      e = .returned (.int .i64 (r : Int)) ∧ DrAt base w' d p b f m S' ∧ But p b w w' := by
  unfold Fl.dwrite at hr
  rw [hl] at hr
  by_cases hno : wordsOk m a (n : Int) = false ∨ S.down = true
  · obtain ⟨rfl, hre⟩ : S = S' ∧ readErr S m a (n : Int) = r := by
      cases h1 : wordsOk m a (n : Int)
      · rw [h1] at hr
        simp only [Prod.mk.injEq] at hr
        exact ⟨hr.1, by simp [readErr, h1]; exact hr.2⟩
      · have h2 : S.down = true := by
          rcases hno with h2 | h2
          · rw [h1] at h2; cases h2
          · exact h2
        rw [h1, h2] at hr
        simp only [Prod.mk.injEq] at hr
        exact ⟨hr.1, by simp [readErr, h1]; exact hr.2⟩
    obtain ⟨z, rfl⟩ : ∃ z, r = z + 1 := by
      rw [← hre]
      unfold readErr
      split
      · exact ⟨1, rfl⟩
      · exact ⟨39, rfl⟩
    have h0 : ¬ (((z + 1 : Nat) : Int) = 0) := by omega
    obtain ⟨e1, e2, e3, e4, hBa⟩ := alloc3 w (Obj.cells #[Value.pointer (some ⟨d, 0, none⟩)] 69) (Obj.cells #[Value.slice A n c] 54) (Obj.cells #[Value.int .i64 0] 63)
    have hR := dRead_no (h.below hBa) a (n : Int) ha hno
    rw [hre] at hR
    clear hr hno ha hre
    go_enter Try.func41, Try.ntmps41
    go_wp2_with fail
    revert e1 e2 e3 e4 hBa hR
    generalize (((w.alloc (Obj.cells #[Value.pointer (some ⟨d, 0, none⟩)] 69)).alloc (Obj.cells #[Value.slice A n c] 54)).alloc (Obj.cells #[Value.int .i64 0] 63)) = w0
    intro k3 k5 k6 z0 hB0 hR
    have hI : WInv base w w d p b n c A 0 S w0 := ⟨h.nor.below hB0, k3, k5, k6, But.of_below hB0, hB0.size⟩
    have c6 := cell_of k6
    have f6 := frozen_of k6 0
    refine hR.mono ?_
    rintro e w1 ⟨rfl, rfl⟩
    go_wp2_with fail
    have hI' := hI.put h.nor.lt.1 h.nor.lt.2.1 (z + 1)
    (try simp only [Exit.inBlock, Exit.then])
    refine bodyPost_ret (results_cell1 rfl rfl (by kernel_rfl) (cell_of hI'.k6)) rfl ?_
    exact ⟨rfl, h.turn hI'.but hI'.nor rfl, hI'.but⟩
  · have h1 : wordsOk m a (n : Int) = true := by
      cases h1 : wordsOk m a (n : Int)
      · exact absurd (.inl h1) hno
      · rfl
    have h2 : S.down = false := by
      cases h2 : S.down
      · rfl
      · exact absurd (.inr h2) hno
    obtain ⟨at_, many, rfl, hmn, hok⟩ := wordsOk_out h1
    obtain rfl : n = many := by omega
    rw [h1, h2] at hr
    simp only [Int.toNat_natCast] at hr
    cases hset : sets32 (S.at_ f at_ n) l
    · rw [hset] at hr
      simp only at hr
      obtain ⟨T, q, hq⟩ : ∃ T q, S.prog (64 * f + at_) l = (T, q) := ⟨_, _, rfl⟩
      rw [hq] at hr
      refine (dWrite_go h h2 at_ n c A l hs hl hc hok hset T q hq).mono ?_
      rintro e w' ⟨rfl, hD, hB⟩
      cases q
      · simp only [Prod.mk.injEq] at hr
        obtain ⟨rfl, rfl⟩ := hr
        exact ⟨rfl, hD, hB⟩
      · simp only [Prod.mk.injEq] at hr
        obtain ⟨rfl, rfl⟩ := hr
        exact ⟨rfl, hD, hB⟩
    · rw [hset] at hr
      simp only [Prod.mk.injEq] at hr
      obtain ⟨rfl, rfl⟩ := hr
      have hm := h.small
      have hlS : (S.at_ f at_ n).length = n := h.at_len hok
      have HS := Lib.hid hset
      have hn6 : n ≤ 65536 := by omega
      clear hset hno h1 ha
      obtain ⟨e1, e2, e3, e4, hBa⟩ := alloc3 w (Obj.cells #[Value.pointer (some ⟨d, 0, none⟩)] 69) (Obj.cells #[Value.slice A n c] 54) (Obj.cells #[Value.int .i64 0] 63)
      go_enter Try.func41, Try.ntmps41
      go_wp2_with fail
      revert e1 e2 e3 e4 hBa
      generalize (((w.alloc (Obj.cells #[Value.pointer (some ⟨d, 0, none⟩)] 69)).alloc (Obj.cells #[Value.slice A n c] 54)).alloc (Obj.cells #[Value.int .i64 0] 63)) = w0
      intro k3 k5 k6 z0 hB0
      refine (dRead_ok (h.below hB0) h2 at_ n hok).mono ?_
      rintro e w1 ⟨Ar, cr, rfl, hFr, hB1⟩
      replace k3 := (hB1.block _ (by omega)).trans k3
      replace k5 := (hB1.block _ (by omega)).trans k5
      replace k6 := (hB1.block _ (by omega)).trans k6
      have hBw1 : Below w.heap.size w w1 := Below.then_ hB0 hB1
      have z1 := hB1.size
      have c3 := cell_of k3
      have c5 := cell_of k5
      have hs1 := hs.step (But.of_below hBw1)
      go_wp2_with fail
      refine (wouldSet_any Ar A cr c n (S.at_ f at_ n) l w1 hFr.sees hs1.sees hlS hl (by omega) true HS.out).mono ?_
      rintro e w2 ⟨rfl, q, rfl⟩
      have hB2 := below_drewN' (Below.refl w1.heap.size w1) q
      revert hB2
      generalize w1.drewN q = w2
      intro hB2
      have hBw2 := Below.then_ hBw1 hB2
      replace k3 := (hB2.block _ (by omega)).trans k3
      replace k5 := (hB2.block _ (by omega)).trans k5
      replace k6 := (hB2.block _ (by omega)).trans k6
      have hI : WInv base w w d p b n c A 0 S w2 := ⟨h.nor.below hBw2, k3, k5, k6, But.of_below hBw2, hBw2.size⟩
      clear c3 c5
      have c6 := cell_of k6
      have f6 := frozen_of k6 0
      go_wp2_with fail
      have hI' := hI.put h.nor.lt.1 h.nor.lt.2.1 50
      (try simp only [Exit.inBlock, Exit.then])
      refine bodyPost_ret (results_cell1 rfl rfl (by kernel_rfl) (cell_of hI'.k6)) rfl ?_
      exact ⟨rfl, h.turn hI'.but hI'.nor rfl, hI'.but⟩
/-- Erase of one of the drive's sectors. -/
def Fl.derase (S : Fl) (f m : Nat) (s : Int) : Fl × Nat := match secsOk m s 1 with
  | false => (S, 2)
  | true => S.erase ((f : Int) + s)
set_option maxRecDepth 100000 in
theorem dErase_any (h : DrAt base w d p b f m S) (s : Int) (hs : s < 9223372036854775808) (S' : Fl) (r : Nat) (hr : S.derase f m s = (S', r)) (hn : S'.n = S.n) :
    Calls Try.prog 120 #[.pointer (some ⟨d, 0, none⟩), .int .i64 s] w fun e w' =>
      e = .returned (.int .i64 (r : Int)) ∧ DrAt base w' d p b f m S' ∧ But p b w w' := by
  have hm := h.small
  have hI := isDrive_any h
  obtain ⟨c0, c1, c2, c3⟩ := h.c
  unfold Fl.derase at hr
  cases hok : secsOk m s 1
  · have hP := hasSectors_any m (by omega) s 1 hs false hok w
    rw [hok] at hr
    simp only [Prod.mk.injEq] at hr
    obtain ⟨rfl, rfl⟩ := hr
    clear hs hok
    go_enter Try.func120, Try.ntmps120
    go_wp2_with fail
    refine hI.mono ?_
    rintro e w1 ⟨rfl, rfl⟩
    go_wp2_with fail
    refine hP.mono ?_
    rintro e w2 ⟨rfl, rfl⟩
    go_wp2_with fail
    go_ret
    exact ⟨rfl, h, But.refl _ _ _⟩
  · have hP := hasSectors_any m (by omega) s 1 hs true hok w
    rw [hok] at hr
    simp only at hr
    simp [secsOk] at hok
    have hE := fun (q : Nat) => Erase_any (h.nor.below (below_drewN' (Below.refl _ _) q)) ((f : Int) + s) S' r hr (by omega)
    have hw := wrapI ((f : Int) + s) (by omega) (by omega)
    have hw' := wrap64I ((f : Int) + s) (by omega) (by omega)
    have HN := Lib.hid hn
    clear hs hok hr hn
    go_enter Try.func120, Try.ntmps120
    go_wp2_with fail
    refine hI.mono ?_
    rintro e w1 ⟨rfl, rfl⟩
    go_wp2_with fail
    refine hP.mono ?_
    rintro e w2 ⟨rfl, rfl⟩
    go_wp2_with fail
    refine region_qtail 10 (by kernel_rfl) (by kernel_rfl) ?_
    simp only [List.take_succ_cons, List.take_zero, List.drop_succ_cons, List.drop_zero]
    repeat (go_big_quiet_step (fail))
    refine wpQuiet_nil ?_
    rintro _ ⟨nq, rfl⟩
    go_wp2_with fail
    refine (hE nq).mono ?_
    rintro e w3 ⟨rfl, hN, hB⟩
    have hB' := (But.of_below (below_drewN' (Below.refl w2.heap.size w2) nq)).then_ hB
    go_wp2_with fail
    go_ret
    exact ⟨rfl, h.turn hB' hN HN.out, hB'⟩
end
end Go.Proofs.Ytpdfalgjmeagjaa
