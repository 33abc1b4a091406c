/-
  What a tally does to the words of its two sectors: over a flash as plain data.
-/
import Derived.Test.YtpdfalgjmeagjaaCpB11
import Derived.Test.YtpdfalgjmeagjaaCpB07
import Derived.Test.YtpdfalgjmeagjaaCpB01
import Derived.Test.YtpdfalgjmeagjaaCpB10
import Derived.Test.YtpdfalgjmeagjaaCpB09
import Derived.Test.YtpdfalgjmeagjaaCpB08
import Derived.Test.YtpdfalgjmeagjaaCpB04
import Derived.Test.YtpdfalgjmeagjaaCpB05
import Derived.Test.YtpdfalgjmeagjaaProg
import Derived.Lib.SlBytesConst
import Derived.OpenShut
import Derived.ProofKit
import Derived.StillTailTactics
import Derived.KernelRfl
namespace Go.Proofs.Ytpdfalgjmeagjaa
open Go.RowKit
set_option linter.unusedVariables false

/-- What a sector of these words counts, if it counts. -/
def cntL : List UInt32 → Option Nat
  | b :: t :: r => if b.toNat ≤ 2147483648 ∧ t.toNat = 4294967295 - b.toNat then some (b.toNat + zers r) else none
  | _ => none
/-- Which one is the first word that is not 0. -/
def firstNz : List UInt32 → Option Nat
  | [] => none
  | x :: l => if x = 0 then (firstNz l).map (· + 1) else some 0
def restL (l : List UInt32) : Option Nat := (firstNz (l.drop 2)).map (· + 2)
/-- The tally's sector, its count, its words. -/
def lookL (a b : List UInt32) : Int × Nat × List UInt32 := match cntL a, cntL b with
  | none, none => (-1, 0, List.replicate 64 0)
  | some n, none => (0, n, a)
  | none, some k => (1, k, b)
  | some n, some k => if n < k then (1, k, b) else (0, n, a)
/-- The words of one of the drive's sectors. -/
def Fl.sec (S : Fl) (f σ : Nat) : List UInt32 := S.at_ f (64 * σ) 64
def Fl.tlook (S : Fl) (f : Nat) : Int × Nat × List UInt32 := lookL (S.sec f 0) (S.sec f 1)
def base2 (c : Nat) : List UInt32 := [UInt32.ofNat c, UInt32.ofNat (4294967295 - c)]
def Fl.tbegin (S : Fl) (f s c : Nat) : Fl × Nat := match S.derase f 2 (s : Int) with
  | (T, 0) => T.dwrite f 2 (64 * (s : Int)) (base2 c)
  | (T, e + 1) => (T, e + 1)
def Fl.twrite (S : Fl) (f : Nat) : Fl × Nat := match S.tlook f with
  | (s, c, l) => if s = -1 then S.tbegin f 0 (c + 1) else match restL l with
    | none => S.tbegin f (1 - s).toNat (c + 1)
    | some k => S.dwrite f 2 (64 * s + (k : Int)) [low32 (l.getD k 0)]
theorem firstNz_some : ∀ (l : List UInt32) (k : Nat), firstNz l = some k → ∃ x, l[k]? = some x ∧ x ≠ 0
  | [], k, h => by simp [firstNz] at h
  | x :: l, k, h => by
    simp only [firstNz] at h
    split at h
    · obtain ⟨j, hj, rfl⟩ := Option.map_eq_some_iff.1 h
      exact firstNz_some l j hj
    · rename_i h0
      simp only [Option.some.injEq] at h
      subst h
      exact ⟨x, rfl, h0⟩
theorem zers_set : ∀ (l : List UInt32) (k : Nat) (x y : UInt32), l[k]? = some x → zers (l.set k y) + zer x = zers l + zer y
  | [], k, x, y, h => by simp at h
  | a :: l, 0, x, y, h => by
    simp at h
    subst h
    simp only [List.set_cons_zero, zers]
    omega
  | a :: l, k + 1, x, y, h => by
    have := zers_set l k x y (by simpa using h)
    simp only [List.set_cons_succ, zers]
    omega
theorem zers_ones : ∀ n, zers (List.replicate n 4294967295) = 0
  | 0 => rfl
  | n + 1 => by rw [List.replicate_succ, zers, zer_ones, zers_ones n]
theorem look_cnt (a b : List UInt32) : (lookL a b).2.1 = max ((cntL a).getD 0) ((cntL b).getD 0) := by
  unfold lookL
  cases cntL a <;> cases cntL b <;> simp
  split <;> simp <;> omega
theorem base2_nat {c : Nat} (h : c ≤ 4294967295) : (UInt32.ofNat c).toNat = c ∧ (UInt32.ofNat (4294967295 - c)).toNat = 4294967295 - c := by
  constructor
  · rw [UInt32.toNat_ofNat']; exact Nat.mod_eq_of_lt (by omega)
  · rw [UInt32.toNat_ofNat']; exact Nat.mod_eq_of_lt (by omega)
/-- A fresh base counts as told. -/
theorem cnt_base {c : Nat} (h : c ≤ 2147483648) (n : Nat) : cntL (base2 c ++ List.replicate n 4294967295) = some c := by
  obtain ⟨h1, h2⟩ := base2_nat (c := c) (by omega)
  simp only [base2, List.cons_append, List.nil_append, cntL, h1, h2, zers_ones]
  simp [h]
/-- A bit more is 0 behind the base: one more is counted. -/
theorem cnt_set {l : List UInt32} {c k : Nat} {x : UInt32} (h : cntL l = some c) (hk : restL l = some k) (hx : l[k]? = some x) : x ≠ 0 ∧ cntL (l.set k (low32 x)) = some (c + 1) ∧ 2 ≤ k := by
  match l, h with
  | b :: t :: r, h =>
    obtain ⟨j, hj, rfl⟩ := Option.map_eq_some_iff.1 hk
    simp only [List.drop_succ_cons, List.drop_zero] at hj
    obtain ⟨y, hy, h0⟩ := firstNz_some r j hj
    simp only [List.getElem?_cons_succ] at hx
    obtain rfl : x = y := by rw [hx] at hy; exact Option.some.inj hy
    refine ⟨h0, ?_, by omega⟩
    simp only [cntL] at h
    split at h
    · rename_i hb
      simp only [Option.some.injEq] at h
      simp only [List.set_cons_succ, cntL]
      rw [if_pos hb]
      have h1 := zers_set r j x (low32 x) hy
      rw [zer_low h0] at h1
      simp only [Option.some.injEq]
      omega
    · cases h
/-- Both sectors are there. -/
structure Two (S : Fl) (f : Nat) : Prop where
  n : f + 2 ≤ S.n
  len : S.ws.length = 64 * S.n
theorem Two.sec_len {S : Fl} {f σ : Nat} (h : Two S f) (hσ : σ < 2) : (S.sec f σ).length = 64 := by
  have := h.n
  have := h.len
  simp [Fl.sec, Fl.at_]
  omega
theorem Two.sec_get {S : Fl} {f σ : Nat} (i : Nat) (hi : i < 64) : (S.sec f σ)[i]? = S.ws[64 * f + (64 * σ + i)]? := by
  unfold Fl.sec Fl.at_
  rw [List.getElem?_take, if_pos hi, List.getElem?_drop, show 64 * f + 64 * σ + i = 64 * f + (64 * σ + i) from by omega]
/-- What is written lies in one sector. -/
theorem Two.write {S T : Fl} {f σ y : Nat} {l : List UInt32} (h : Two S f) (hσ : σ < 2) (hy : y + l.length ≤ 64) (hw : T.ws = splice S.ws (64 * f + (64 * σ + y)) l) (hn : T.n = S.n) :
    Two T f ∧ T.sec f σ = splice (S.sec f σ) y l ∧ ∀ τ, τ < 2 → τ ≠ σ → T.sec f τ = S.sec f τ := by
  have h1 := h.n
  have h2 := h.len
  have hT : Two T f := ⟨by rw [hn]; exact h1, by rw [hw, length_splice _ _ _ (by omega), hn]; exact h2⟩
  refine ⟨hT, ?_, ?_⟩
  · apply List.ext_getElem?
    intro i
    by_cases hi : i < 64
    · rw [Two.sec_get i hi, hw, splice_get2 _ _ _ _ (by omega), splice_get2 _ _ _ _ (by rw [h.sec_len hσ]; exact hy), Two.sec_get i hi]
      by_cases c1 : i < y
      · rw [if_pos c1, if_pos (by omega)]
      · rw [if_neg c1, if_neg (by omega)]
        by_cases c2 : i < y + l.length
        · rw [if_pos c2, if_pos (by omega)]
          congr 1
          omega
        · rw [if_neg c2, if_neg (by omega)]
    · rw [List.getElem?_eq_none (by rw [hT.sec_len hσ]; omega), List.getElem?_eq_none (by rw [length_splice _ _ _ (by rw [h.sec_len hσ]; exact hy), h.sec_len hσ]; omega)]
  · intro τ hτ hne
    apply List.ext_getElem?
    intro i
    by_cases hi : i < 64
    · rw [Two.sec_get i hi, Two.sec_get i hi, hw, splice_get2 _ _ _ _ (by omega)]
      by_cases c1 : τ < σ
      · rw [if_pos (by omega)]
      · rw [if_neg (by omega), if_neg (by omega)]
    · rw [List.getElem?_eq_none (by rw [hT.sec_len hτ]; omega), List.getElem?_eq_none (by rw [h.sec_len hτ]; omega)]
end Go.Proofs.Ytpdfalgjmeagjaa

/-
  What one Step leaves: of a flash that is up, and of one that is armed, behind its crash; over a flash as plain data.
-/
namespace Go.Proofs.Ytpdfalgjmeagjaa
open Go.RowKit
set_option linter.unusedVariables false

/-- A flash that is up, and not armed, with its two sectors. -/
structure Up6 (S : Fl) (f : Nat) : Prop where
  two : Two S f
  down : S.down = false
  armed : S.armed = false
  half : S.half = -1

/-- What a Step does to the words: a bit of the tally's sector falls, or the other one begins. -/
inductive Moved (S T : Fl) (f c : Nat) : Prop
  | bit (σ k : Nat) (x : UInt32) (hσ : σ < 2) (hs : (S.tlook f).1 = (σ : Int)) (hc : cntL (S.sec f σ) = some c) (hk : restL (S.sec f σ) = some k) (hk2 : k < 64) (hx : (S.sec f σ)[k]? = some x) (h1 : T.sec f σ = (S.sec f σ).set k (low32 x)) (h2 : ∀ τ, τ < 2 → τ ≠ σ → T.sec f τ = S.sec f τ)
  | turn (σ : Nat) (hσ : σ < 2) (hs : ((S.tlook f).1 = -1 ∧ σ = 0) ∨ ((S.tlook f).1 = ((1 - σ : Nat) : Int) ∧ cntL (S.sec f (1 - σ)) = some c ∧ restL (S.sec f (1 - σ)) = none)) (h1 : T.sec f σ = base2 (c + 1) ++ List.replicate 62 4294967295) (h2 : ∀ τ, τ < 2 → τ ≠ σ → T.sec f τ = S.sec f τ)

/-- Where the next Step writes. -/
inductive Next (S : Fl) (f c : Nat) : Prop
  | bit (σ k : Nat) (x : UInt32) (hσ : σ < 2) (hs : (S.tlook f).1 = (σ : Int)) (hc : cntL (S.sec f σ) = some c) (hk : restL (S.sec f σ) = some k) (hk2 : k < 64) (hx : (S.sec f σ)[k]? = some x) (hw : S.twrite f = S.dwrite f 2 ((64 * σ + k : Nat) : Int) [low32 x])
  | turn (σ : Nat) (hσ : σ < 2) (hs : ((S.tlook f).1 = -1 ∧ σ = 0) ∨ ((S.tlook f).1 = ((1 - σ : Nat) : Int) ∧ cntL (S.sec f (1 - σ)) = some c ∧ restL (S.sec f (1 - σ)) = none)) (hw : S.twrite f = S.tbegin f σ (c + 1))
theorem tlook_at {S : Fl} {f c : Nat} (hc : (S.tlook f).2.1 = c) : (cntL (S.sec f 0)).getD 0 ≤ c ∧ (cntL (S.sec f 1)).getD 0 ≤ c := by
  unfold Fl.tlook at hc
  rw [look_cnt] at hc
  omega
/-- Behind it one more is counted. -/
theorem Moved.count {S T : Fl} {f c : Nat} (h : Moved S T f c) (hc : (S.tlook f).2.1 = c) (hc2 : c < 2147483648) : (T.tlook f).2.1 = c + 1 := by
  obtain ⟨b0, b1⟩ := tlook_at hc
  unfold Fl.tlook
  rw [look_cnt]
  have key : ∀ σ, σ < 2 → cntL (T.sec f σ) = some (c + 1) → (∀ τ, τ < 2 → τ ≠ σ → T.sec f τ = S.sec f τ) → max ((cntL (T.sec f 0)).getD 0) ((cntL (T.sec f 1)).getD 0) = c + 1 := by
    intro σ hσ h1 h2
    rcases (show σ = 0 ∨ σ = 1 by omega) with rfl | rfl
    · rw [h1, h2 1 (by omega) (by omega), Option.getD_some]
      omega
    · rw [h1, h2 0 (by omega) (by omega), Option.getD_some]
      omega
  cases h with
  | bit σ k x hσ hs hcs hk hk2 hx h1 h2 => exact key σ hσ (by rw [h1]; exact (cnt_set hcs hk hx).2.1) h2
  | turn σ hσ hs h1 h2 => exact key σ hσ (by rw [h1]; exact cnt_base (by omega) 62) h2
end Go.Proofs.Ytpdfalgjmeagjaa

/-
  What layers 6 and 7 share: operations of a drawn region that do not run, halves of two sectors, a block beside the document's own flash and drive.
-/
namespace Go.Proofs.Ytpdfalgjmeagjaa
open Go.RowKit
set_option linter.unusedVariables false
section
variable {P : Program} {ops : Array Oper} {Q : Exit → Act → World → Prop} {pr : Nat → Value → World → Prop} {i : Nat} {o : Oper} {a : Act} {w : World}
theorem stepOk_offT (hw : Region.wanted o (yielded ops a.tmps) = false) (hp : pr i undef w) : StepOk P ops Q pr i o a w := by
  unfold StepOk
  rw [if_neg (by rw [hw]; decide)]
  exact hp
theorem wanted_offT {j : Nat} {b c : Bool} {t : Tmp} (hg : o.guard = some (j, b)) (ht : ((ops[j]?).bind (·.dst)) = some t) (hv : a.tmps[t]? = some (.bool c)) (hc : (c == b) = false) : Region.wanted o (yielded ops a.tmps) = false := by
  cases b <;> cases c <;> simp_all [Region.wanted, yielded]
theorem stepOk_valT {v : Value} (hw : Region.wanted o (yielded ops a.tmps) = true) (hrun : (execOp a.eval o).run P w = .ok (.value v) w) (hp : pr i v w) : StepOk P ops Q pr i o a w := by
  unfold StepOk
  rw [if_pos hw]
  unfold Oper.wp
  rw [hrun]
  exact ⟨v, rfl, hp, Below.refl _ _⟩
end
theorem elemU : Try.prog.underlying 54 = some (.slice (Try.prog.elem 54)) := by kernel_rfl
theorem run_hiU {o : Oper} {a : Act} {w : World} (x : Operand) (hop : o.op = .slice 54 x none (some (.const (.int .i64 64))) none) {A : Option Addr} {n c : Nat} (hx : a.eval x = .slice A n c) (hk : 64 ≤ c) : (execOp a.eval o).run Try.prog w = .ok (.value (.slice A 64 c)) w := by
  have hz : (sizeOf (Try.prog.elem 54)).run Try.prog w = .ok 1 w := by kernel_rfl
  have h : (Instr.slice 54 (.slice A n c) none (some (.int .i64 64)) none).run Try.prog w = .ok (.slice A 64 c) w := by
    rw [run_slice_h w 54 A n c elemU .i64 64 (by omega) (by omega), hz]
    simp only [Result.andThen, sliced, Nat.zero_mul, Nat.sub_zero]
    cases A <;> simp [Addr.add]
  have hy : a.eval (.const (.int .i64 64)) = .int .i64 64 := rfl
  unfold execOp
  simp [hop, hx, hy, run_sliceAt_slice _ _ _ _ _ _ elemU, h]
theorem run_loU {o : Oper} {a : Act} {w : World} (x : Operand) (hop : o.op = .slice 54 x (some (.const (.int .i64 64))) none none) {G d : Nat} (hx : a.eval x = .slice (some ⟨G, 0, none⟩) 128 d) (hk : 128 ≤ d) : (execOp a.eval o).run Try.prog w = .ok (.value (.slice (some ⟨G, 64, none⟩) 64 (d - 64))) w := by
  have hz : (sizeOf (Try.prog.elem 54)).run Try.prog w = .ok 1 w := by kernel_rfl
  have h : (Instr.slice 54 (.slice (some ⟨G, 0, none⟩) 128 d) (some (.int .i64 64)) none none).run Try.prog w = .ok (.slice (some ⟨G, 64, none⟩) 64 (d - 64)) w := by
    rw [run_slice_l w 54 (some ⟨G, 0, none⟩) 128 d elemU .i64 64 (by omega) (by omega), hz]
    simp [Result.andThen, sliced, Addr.add, show ¬ (d = 64) from by omega]
  have hy : a.eval (.const (.int .i64 64)) = .int .i64 64 := rfl
  unfold execOp
  simp [hop, hx, hy, run_sliceAt_slice _ _ _ _ _ _ elemU, h]
theorem sees_parts {w : World} {B G : Nat} {xs ys : List UInt32} (hx : xs.length = 64) (hy : ys.length = 64) (h : Sees w B (some ⟨G, 0, none⟩) (cw (xs ++ ys))) : Sees w B (some ⟨G, 0, none⟩) (cw xs) ∧ Sees w B (some ⟨G, 64, none⟩) (cw ys) := by
  obtain ⟨g, o, e, hg, hc⟩ := h (by simp; omega)
  obtain ⟨rfl, rfl⟩ : G = g ∧ 0 = o := by simpa using e
  refine ⟨fun _ => ⟨G, 0, rfl, hg, fun j u hu => hc j u ?_⟩, fun _ => ⟨G, 64, rfl, hg, fun j u hu => ?_⟩⟩
  · rw [show cw (xs ++ ys) = cw xs ++ cw ys from List.map_append, List.getElem?_append_left (by rw [List.length_map]; have := (List.getElem?_eq_some_iff.1 hu).1; simpa using this)]
    exact hu
  · have := hc (64 + j) u (by
      rw [show cw (xs ++ ys) = cw xs ++ cw ys from List.map_append, List.getElem?_append_right (by rw [List.length_map]; omega), List.length_map, hx, Nat.add_sub_cancel_left]
      exact hu)
    rw [Nat.zero_add] at this
    exact this
theorem sec_parts (S : Fl) (f : Nat) : S.at_ f 0 128 = S.sec f 0 ++ S.sec f 1 := by
  unfold Fl.sec Fl.at_
  rw [show (128 : Nat) = 64 + 64 from rfl, List.take_add, List.drop_drop]
theorem Fresh.sameB {w w' : World} {base n c g : Nat} {e : TypeId} {xs : List Value} (h : Fresh base e w (some ⟨g, 0, none⟩) n c xs) (hk : w'.heap[g]? = w.heap[g]?) : Fresh base e w' (some ⟨g, 0, none⟩) n c xs := by
  refine ⟨h.1, ?_⟩
  rcases h.2 with h3 | ⟨g', cap, cur, hv, hg, hh, hr⟩
  · exact .inl h3
  · have e : g = g' := by simpa using (Value.slice.inj hv).1
    subst e
    exact .inr ⟨g, cap, cur, hv, hg, by rw [hk]; exact hh, hr⟩
theorem derase6_n (S : Fl) (f : Nat) (s : Int) : (S.derase f 2 s).1.n = S.n := by
  unfold Fl.derase
  split
  · rfl
  · unfold Fl.erase
    split
    · rfl
    · rfl
    · have hn : S.step.1.n = S.n := by
        unfold Fl.step
        split <;> first | rfl | (split <;> rfl)
      split
      · rename_i hs
        rw [hs] at hn
        exact hn
      · rename_i hs
        rw [hs] at hn
        exact hn
theorem derase6_left (S : Fl) (f : Nat) (s : Int) : (S.derase f 2 s).1.left ≤ S.left := by
  unfold Fl.derase
  split
  · exact Nat.le_refl _
  · unfold Fl.erase
    split
    · exact Nat.le_refl _
    · exact Nat.le_refl _
    · have hn := Fl.step_leftLe S
      split
      · rename_i hs
        rw [hs] at hn
        exact hn
      · rename_i hs
        rw [hs] at hn
        exact hn
theorem derase_up {S T : Fl} {f : Nat} {s : Int} (h : S.derase f 2 s = (T, 0)) (hd : S.down = false) : T.down = false := by
  unfold Fl.derase at h
  split at h
  · simp at h
  · unfold Fl.erase at h
    split at h
    · simp at h
    · simp at h
    · split at h
      · rename_i T' hs
        simp only [Prod.mk.injEq] at h
        rw [← h.1]
        show T'.down = false
        rw [(Fl.step_down hs).1, hd]
      · simp at h
theorem dwrite_up6 {S T : Fl} {f : Nat} {a : Int} {l : List UInt32} (h : S.dwrite f 2 a l = (T, 0)) (hd : S.down = false) : T.down = false := by
  unfold Fl.dwrite at h
  split at h
  · simp at h
  · simp at h
  · split at h
    · simp at h
    · split at h
      · rename_i T' hs
        simp only [Prod.mk.injEq] at h
        rw [← h.1, (Fl.prog_keep _ _ _ _ hs).1, hd]
      · simp at h
theorem derase_five {S T : Fl} {f r : Nat} {s : Int} (h : S.derase f 2 s = (T, r)) : r ≠ 5 := by
  unfold Fl.derase at h
  split at h
  · simp at h; omega
  · unfold Fl.erase at h
    split at h
    · simp at h; omega
    · simp at h; omega
    · split at h <;> (simp at h; omega)
theorem dwrite_five {S T : Fl} {f r : Nat} {a : Int} {l : List UInt32} (h : S.dwrite f 2 a l = (T, r)) : r ≠ 5 := by
  unfold Fl.dwrite at h
  split at h
  · simp at h; omega
  · simp at h; omega
  · split at h
    · simp at h; omega
    · split at h <;> (simp at h; omega)
section
variable {W w w1 w2 w3 : World} {p b g gb c c3 d gv f m t base : Nat} {S T : Fl}
theorem Fresh.b3 {w w' : World} {base : Nat} {e : TypeId} {gb n c : Nat} {xs : List Value} (h : Fresh base e w (some ⟨gb, 0, none⟩) n c xs) (x : But3 t p b w w') (h0 : gb ≠ t) (h1 : gb ≠ p) (h2 : gb ≠ b) (hl : gb < w.heap.size) : Fresh base e w' (some ⟨gb, 0, none⟩) n c xs := h.sameB (x.keep gb hl h0 h1 h2)
theorem BesideD.lts (h : BesideD W w p b g gb c d gv f m S) : gb < w.heap.size ∧ g < w.heap.size ∧ gv < w.heap.size ∧ W.heap.size ≤ g ∧ W.heap.size ≤ gv := by
  have h1 : 0 < 64 * S.n := by have := h.bs.n1; omega
  obtain ⟨q, e, _, q2⟩ := h.bs.row.spot_ h1
  obtain rfl : gb = q := by simpa using e
  exact ⟨q2, h.bs.box.lt_size, h.v.lt_size, h.bs.box.block.2, h.v.block.2⟩
theorem BesideD.half3 (h : BesideD W w p b g gb c d gv f m S) (x : But3 t p b w w1) (tg : t ≠ g) (tb : t ≠ gb) (tv : t ≠ gv) (hW : W.heap.size ≤ t) : Fresh W.heap.size 105 w1 (some ⟨g, 0, none⟩) 5 5 (S.rL (some ⟨gb, 0, none⟩) c) ∧ RnAt w1 (some ⟨gb, 0, none⟩) c S ∧ Fresh W.heap.size 109 w1 (some ⟨gv, 0, none⟩) 2 2 (rdL (f : Int) (m : Int)) ∧ Below W.heap.size W w1 := by
  obtain ⟨l1, l2, l3, _⟩ := h.lts
  obtain ⟨_, _, hp2, hb2⟩ := h.bs.nor.lt
  exact ⟨h.bs.box.b3 x (Ne.symm tg) h.bs.hp h.bs.hb l2, RnAt.of_row (h.bs.row.b3 x (Ne.symm tb) h.bs.gp h.bs.gbb l1) h.bs.nor.n_le h.bs.cap, h.v.b3 x (Ne.symm tv) h.vp h.vb l3,
    ⟨x.os.trans h.bs.below.os, x.tape.trans h.bs.below.tape, x.output.trans h.bs.below.output, Nat.le_trans h.bs.below.size x.size, fun k hk => (x.keep k (Nat.lt_of_lt_of_le hk h.bs.below.size) (by omega) (by omega) (by omega)).trans (h.bs.below.block k hk)⟩⟩
theorem BesideD.then3 (h : BesideD W w p b g gb c d gv f m S) (x : But3 t p b w w1) (tg : t ≠ g) (tb : t ≠ gb) (tv : t ≠ gv) (hW : W.heap.size ≤ t) (hD : DrAt W.heap.size w1 d p b f m T) (hn : T.n = S.n) {B : Option Addr} (hT : RnTo w1 w2 (some ⟨gb, 0, none⟩) B c c3 S T) (y : Below w1.heap.size w1 w2)
    (hF : Fresh W.heap.size 105 w3 (some ⟨g, 0, none⟩) 5 5 (T.rL B c3)) (ho : ∀ k, k ≠ g → w3.heap[k]? = w2.heap[k]?) (hB : Below W.heap.size W w3) : ∃ gb2, B = some ⟨gb2, 0, none⟩ ∧ BesideD W w3 p b g gb2 c3 d gv f m T ∧ (gb2 = gb ∨ w1.heap.size ≤ gb2) := by
  obtain ⟨h1, h2, h3, h4⟩ := h.half3 x tg tb tv hW
  obtain ⟨l1, l2, l3, _⟩ := h.lts
  have hz := x.size
  have hN2 := hD.nor.below y
  have hN3 : NorAt W.heap.size w3 p b T := ⟨hN2.obj.other (Ne.symm h.bs.hp) ho, hN2.row.other (Ne.symm h.bs.hb) ho, hN2.ne, hN2.n_le, hN2.left_le⟩
  have hcap := hT.at_.cap
  have hn1 : 1 ≤ T.n := by rw [hn]; exact h.bs.n1
  have hO := (hD.obj.below y).other h.dg ho
  have hV := (h3.below y).other h.vg ho
  obtain ⟨lp, lb, lp2, lb2⟩ := h.bs.nor.lt
  rcases hT.from_ with ⟨rfl, rfl, hw, -⟩ | hR
  · have hR3 : Fresh W.heap.size 22 w3 (some ⟨gb, 0, none⟩) (64 * T.n) c3 (cw T.ws) := by
      have := ((h.bs.row.b3 x (Ne.symm tb) h.bs.gp h.bs.gbb l1).below y).otherC h.bs.gg ho
      rw [hn, hw]
      exact this
    exact ⟨gb, rfl, ⟨⟨hN3, hF, hR3, hcap, hn1, h.bs.gp, h.bs.gbb, h.bs.gg, h.bs.hp, h.bs.hb, hB⟩, hO, hV, hD.fits, h.some_, h.dg, h.vg, h.vp, h.vb⟩, .inl rfl⟩
  · obtain ⟨gb2, rfl, q1, q2⟩ := hR.spot_ (by omega)
    have n3 : gb2 ≠ g := by omega
    exact ⟨gb2, rfl, ⟨⟨hN3, hF, (hR.lower h4.size).otherC n3 ho, hcap, hn1, by omega, by omega, n3, h.bs.hp, h.bs.hb, hB⟩, hO, hV, hD.fits, h.some_, h.dg, h.vg, h.vp, h.vb⟩, .inr q1⟩
end
end Go.Proofs.Ytpdfalgjmeagjaa

/-
  Bytes that were made words are had back, and words that were made bytes: plain facts on lists.
-/
namespace Go.Proofs.Ytpdfalgjmeagjaa
set_option linter.unusedVariables false

theorem oct_get (l : List UInt8) (k : Nat) (c : UInt8) (h : l[k]? = some c) : oct l k = c.toNat := by simp [oct, List.getD, h]
theorem getBytes_some (l : List UInt32) (k : Nat) (h : k ≤ 4 * l.length) : getBytes l (k : Int) = ((bytesOf l).take k, 0) := by
  unfold getBytes
  rw [if_neg (by omega), if_neg (by omega), Int.toNat_natCast]
theorem getBytes_past (l : List UInt32) (n : Int) (h : 4 * (l.length : Int) < n) : getBytes l n = ([], 10) := by
  unfold getBytes
  rw [if_neg (by omega), if_pos h]
end Go.Proofs.Ytpdfalgjmeagjaa

/-
  What a cell does to the words of its two sectors: over a flash as plain data.
-/
namespace Go.Proofs.Ytpdfalgjmeagjaa
open Go.RowKit
set_option linter.unusedVariables false

/-- What is there: of which sector, its turn, its bytes. -/
structure Co where
  s : Int
  t : Nat
  b : List UInt8
/-- What a sector of these words has, if it is whole. -/
def secC : List UInt32 → Option (Nat × List UInt8)
  | t :: n :: r => if r[61]? = some 0 ∧ t.toNat ≤ 2147483648 ∧ n.toNat ≤ 244 then some (t.toNat, (bytesOf (r.take 61)).take n.toNat) else none
  | _ => none
def coOf (i : Nat) : Option (Nat × List UInt8) → Co
  | some x => ⟨(i : Int), x.1, x.2⟩
  | none => ⟨-1, 0, []⟩
def newC (x y : Co) : Co := if x.s = -1 ∨ (¬ y.s = -1 ∧ y.t = x.t + 1) then y else x
def lookC (a b : List UInt32) : Co := newC (coOf 0 (secC a)) (coOf 1 (secC b))
def Fl.clook (S : Fl) (f : Nat) : Co := lookC (S.sec f 0) (S.sec f 1)
def Co.other (x : Co) : Nat := if x.s = -1 then 0 else (1 - x.s).toNat
def headC (t n : Nat) : List UInt32 := [UInt32.ofNat t, UInt32.ofNat n]
def wordsC (t : Nat) (b : List UInt8) : List UInt32 := headC t b.length ++ words b
/-- The sector σ gets a turn and bytes, and is whole. -/
def Fl.cwrite (S : Fl) (f σ t : Nat) (b : List UInt8) : Fl × Nat := match S.derase f 2 (σ : Int) with
  | (T, e + 1) => (T, e + 1)
  | (T, 0) => match T.dwrite f 2 (64 * (σ : Int)) (wordsC t b) with
    | (U, e + 1) => (U, e + 1)
    | (U, 0) => U.dwrite f 2 (64 * (σ : Int) + 63) [0]
def Fl.cput (S : Fl) (f : Nat) (k : Co) (over : Bool) (b : List UInt8) : Fl × Nat × Co × Bool := match over with
  | true => (S, 60, k, true)
  | false => if 244 < b.length then (S, 3, k, false) else match S.down with
    | true => if 2147483648 ≤ k.t then (S, 5, k, false) else (S, 40, k, true)
    | false => if 2147483648 ≤ (S.clook f).t then (S, 5, S.clook f, false) else match S.cwrite f (S.clook f).other ((S.clook f).t + 1) b with
      | (T, 0) => (T, 0, ⟨((S.clook f).other : Int), (S.clook f).t + 1, b⟩, false)
      | (T, e + 1) => (T, e + 1, S.clook f, true)

/-- What is known of what is there. -/
structure Co.Ok (x : Co) : Prop where
  s : x.s = -1 ∨ x.s = 0 ∨ x.s = 1
  t : x.t ≤ 2147483648
  b : x.b.length ≤ 244
  no : x.s = -1 → x.t = 0 ∧ x.b = []
theorem secC_ok {l : List UInt32} {x : Nat × List UInt8} (h : secC l = some x) : x.1 ≤ 2147483648 ∧ x.2.length ≤ 244 := by
  match l with
  | [] => cases h
  | [_] => cases h
  | t :: n :: r =>
    simp only [secC] at h
    split at h
    · rename_i hc
      simp only [Option.some.injEq] at h
      subst h
      exact ⟨hc.2.1, Nat.le_trans (by rw [List.length_take]; exact Nat.min_le_left _ _) hc.2.2⟩
    · cases h
theorem coOf_ok (i : Nat) (hi : i < 2) (l : List UInt32) : (coOf i (secC l)).Ok := by
  cases h : secC l with
  | none => exact ⟨.inl rfl, Nat.zero_le _, Nat.zero_le _, fun _ => ⟨rfl, rfl⟩⟩
  | some x =>
    have := secC_ok h
    exact ⟨.inr (show ((i : Int) = 0 ∨ (i : Int) = 1) by omega), this.1, this.2, fun e => by exfalso; have : (i : Int) = -1 := e; omega⟩
theorem newC_ok {x y : Co} (hx : x.Ok) (hy : y.Ok) : (newC x y).Ok := by
  unfold newC
  split
  · exact hy
  · exact hx
theorem clook_ok (S : Fl) (f : Nat) : (S.clook f).Ok := newC_ok (coOf_ok 0 (by omega) _) (coOf_ok 1 (by omega) _)
theorem Co.other_lt {x : Co} (h : x.Ok) : x.other < 2 := by
  unfold Co.other
  rcases h.s with e | e | e <;> rw [e] <;> decide
theorem Co.other_of {x : Co} (h : x.Ok) (hs : ¬ x.s = -1) : ((x.other : Nat) : Int) = 1 - x.s ∧ ((1 - x.other : Nat) : Int) = x.s := by
  unfold Co.other
  rcases h.s with e | e | e
  · exact absurd e hs
  · rw [e]; decide
  · rw [e]; decide
theorem wordsC_len {t : Nat} {b : List UInt8} (h : b.length ≤ 244) : (wordsC t b).length = 2 + (b.length + 3) / 4 ∧ 2 + (b.length + 3) / 4 ≤ 63 := by
  unfold wordsC
  rw [List.length_append, len_words]
  exact ⟨rfl, by omega⟩
end Go.Proofs.Ytpdfalgjmeagjaa

/-
  Bytes in new memory are seen.
-/
namespace Go.Proofs.Ytpdfalgjmeagjaa
open Go.RowKit
set_option linter.unusedVariables false

theorem sees_lit (w : World) (e : TypeId) (m : Nat × Nat) (l : List UInt8) : Sees (w.alloc (.cells (cb l).toArray e m)) (w.alloc (.cells (cb l).toArray e m)).heap.size (some ⟨w.heap.size, 0, none⟩) (cb l) := fun _ =>
  ⟨w.heap.size, 0, rfl, by simp, fun j u hu => by rw [Nat.zero_add, World.cell?_alloc_mark]; simpa using hu⟩
theorem splice_tail (l X : List UInt8) (m : Nat) (h : X.length = m) : splice (l ++ List.replicate m 0) l.length X = l ++ X := by
  subst h
  simp [splice]
end Go.Proofs.Ytpdfalgjmeagjaa

/-
  What behind of the document's own answer tells, for every input.
-/
namespace Go.Proofs.Ytpdfalgjmeagjaa
open Go.RowKit
set_option linter.unusedVariables false

theorem getElem_of {l : List UInt8} {k : Nat} {x : UInt8} (h : l[k]? = some x) (hk : k < l.length) : l[k] = x := by
  rw [List.getElem?_eq_getElem hk] at h
  injection h

set_option maxRecDepth 100000 in
set_option maxHeartbeats 1000000 in
theorem behind_any (A B : Option Addr) (c d n m : Nat) (a b : List UInt8) (w : World) (hs : Sees w w.heap.size A (cb a)) (ht : Sees w w.heap.size B (cb b)) (ha : a.length = n) (hb : b.length = m) (hn : n ≤ 274877906944) (hm : m ≤ 274877906944) :
    Calls Try.prog 193 #[.slice A n c, .slice B m d] w (Made8 w (n + m) (a ++ b)) := by
  have HA := Lib.hid ha
  have HB := Lib.hid hb
  clear ha hb
  go_enter Try.func193, Try.ntmps193
  go_wp2_with (at_make; refine wpList_mk8 rfl (.tmp 12) rfl _ (n + m) rfl (by omega) (by omega) ?_; intro w1 hF1 hB1)
  go_loopw [6] (fun i wr => ∃ k : Nat, k ≤ n ∧ i = .int .i64 k ∧ Fresh w.heap.size 5 wr (some ⟨w.heap.size, 0, none⟩) (n + m) (n + m) (cb (splice (List.replicate (n + m) 0) 0 (a.take k))) ∧ Below w.heap.size w wr) (fun i _ => n - (intOf i).toNat)
  case atStart => exact ⟨0, by omega, rfl, by simpa [splice] using hF1, hB1⟩
  case round =>
    obtain ⟨k, hk, rfl, hFr, hbr⟩ := hrel
    by_cases hlt : k < n
    · obtain ⟨u, hc⟩ := hFr.cellAt (j := k) (by omega)
      have hz := hFr.frozenAt (j := k)
      obtain ⟨g, o, rfl, hg, x, HX, hx, hcx⟩ := (hs.below hbr).byte HA.out hlt
      go_wp2_with fail
      have hka : k < a.length := by rw [HA.out]; exact hlt
      have hst := hFr.store8 (0 + k) x
      rw [← getElem_of HX.out hka, splice_step _ _ _ _ hka (by simp [HA.out]), getElem_of HX.out hka, Nat.zero_add] at hst
      go_roundw
      case rel => exact ⟨k + 1, by omega, by go_num, hst, hbr.setCell (Nat.le_refl _) _⟩
      case measure => simp [intOf]; omega
    · have hk' : k = n := by omega
      have hF2 : Fresh w.heap.size 5 wr (some ⟨w.heap.size, 0, none⟩) (n + m) (n + m) (cb (a ++ List.replicate m 0)) := by
        have h := hFr
        rw [splice_all _ _ _ _ (by rw [HA.out]; omega)] at h
        rw [← HA.out] at h ⊢
        rwa [splice_front] at h
      obtain ⟨w0, hw0⟩ : ∃ w0, w0 = wr := ⟨_, rfl⟩
      rw [← hw0] at hbr hF2 ⊢
      clear hw0 hFr hk'
      go_wp2_with fail
      go_loopw [7] (fun i wr => ∃ k : Nat, k ≤ m ∧ i = .int .i64 k ∧ Fresh w.heap.size 5 wr (some ⟨w.heap.size, 0, none⟩) (n + m) (n + m) (cb (splice (a ++ List.replicate m 0) n (b.take k))) ∧ Below w.heap.size w wr) (fun i _ => m - (intOf i).toNat)
      case atStart => exact ⟨0, by omega, rfl, by simpa [splice] using hF2, hbr⟩
      case round =>
        obtain ⟨j, hj, rfl, hFj, hbj⟩ := hrel
        by_cases hlt2 : j < m
        · obtain ⟨u, hc⟩ := hFj.cellAt (j := n + j) (by omega)
          have hz := hFj.frozenAt (j := n + j)
          obtain ⟨g, o, rfl, hg, x, HX, hx, hcx⟩ := (ht.below hbj).byte HB.out hlt2
          go_wp2_with fail
          have hjb : j < b.length := by rw [HB.out]; exact hlt2
          have hst := hFj.store8 (n + j) x
          rw [← getElem_of HX.out hjb, splice_step _ _ _ _ hjb (by simp [HA.out, HB.out]), getElem_of HX.out hjb] at hst
          go_roundw
          case rel => exact ⟨j + 1, by omega, by go_num, hst, hbj.setCell (Nat.le_refl _) _⟩
          case measure => simp [intOf]; omega
        · have hj' : j = m := by omega
          have e := splice_tail a b m HB.out
          rw [HA.out] at e
          have h := hFj
          rw [splice_all _ _ _ _ (by rw [HB.out]; omega), e] at h
          clear e hj'
          go_wp2_with fail
          go_ret
          exact ⟨_, _, rfl, h, hbj⟩

end Go.Proofs.Ytpdfalgjmeagjaa

/-
  What the program's Uint and Blob tell is in new memory.
-/
namespace Go.Proofs.Ytpdfalgjmeagjaa
open Go.RowKit
set_option linter.unusedVariables false

theorem Grows.made {w w' : World} {n : Nat} {l : List UInt8} {e : Ending} (h : Grows w n l e w') : Made8 w n l e w' := ⟨_, _, h.1, h.2.1, h.2.2⟩
end Go.Proofs.Ytpdfalgjmeagjaa

/-
  What the inner functions of package bytes answer, for every input: how many digits a number has, the bytes of a word, whether a place is one, whether a digit may be the last.
-/
namespace Go.Proofs.Ytpdfalgjmeagjaa
open Go.RowKit
set_option linter.unusedVariables false


set_option maxHeartbeats 400000 in
theorem byteOf_any (n i : Nat) (w : World) (hn : n < 4294967296) (hi : i < 4) :
    Calls Try.prog 210 #[.int .u32 (n : Int), .int .i64 (i : Int)] w fun e w' => e = .returned (.int .u8 ((byteAt n i).toNat : Int)) ∧ w = w' := by
  go_enter Try.func210, Try.ntmps210
  go_wp2
  go_ret
  exact ⟨ret_int (byteAt_nat n i).symm, rfl⟩

end Go.Proofs.Ytpdfalgjmeagjaa

/-
  What wordAt and GetWord of package bytes answer, for every input: the word of the four bytes at a place.
-/
namespace Go.Proofs.Ytpdfalgjmeagjaa
open Go.RowKit
set_option linter.unusedVariables false

def wP (l : List UInt8) (p : Nat) : Nat → Nat
  | 0 => 0
  | k + 1 => wP l p k * 256 + oct l (p + k)
theorem wP_lt (l : List UInt8) (p : Nat) : ∀ k, wP l p k < 256 ^ k
  | 0 => by simp [wP]
  | k + 1 => by
    have h := wP_lt l p k
    have h' := oct_lt l (p + k)
    rw [wP, Nat.pow_succ]
    omega
theorem wP_lt4 (l : List UInt8) (p k : Nat) (hk : k < 4) : wP l p k < 16777216 := by
  have h := wP_lt l p k
  have : 256 ^ k ≤ 256 ^ 3 := Nat.pow_le_pow_right (by omega) (by omega)
  omega
theorem wP_four (l : List UInt8) (p : Nat) : wP l p 4 = wAt l p := by simp [wP, wAt]
theorem wP_step (l : List UInt8) (p k c : Nat) (hk : k < 4) (hc : oct l (p + k) = c) : bits .or .u32 ((wP l p k : Int) * 256 % 4294967296) (c : Int) = (wP l p (k + 1) : Int) := by
  have h := wP_lt4 l p k hk
  have h' := oct_lt l (p + k)
  subst hc
  have e : (wP l p k : Int) * 256 % 4294967296 = ((wP l p k * 256 : Nat) : Int) := by omega
  rw [e, u32_or_nat _ _ (by omega) (by omega), nat_join 8 _ _ (by omega) (by simpa using h'), wP]

set_option maxHeartbeats 400000 in
theorem wordAt_any (A : Option Addr) (c n p : Nat) (P : Int) (l : List UInt8) (w : World) (hP : P = (p : Int)) (hs : Sees w w.heap.size A (cb l)) (hl : l.length = n) (hn : n ≤ 1099511627776) (hp : p ≤ 1099511627776) :
    Calls Try.prog 209 #[.slice A n c, .int .i64 P] w fun e w' => e = .returned (.int .u32 (wAt l p : Int)) ∧ w = w' := by
  subst hP
  have HL := Lib.hid hl
  clear hl
  go_enter Try.func209, Try.ntmps209
  go_wp2
  go_loop [5, 8] (fun x i => ∃ k : Nat, k ≤ 4 ∧ i = .int .i64 k ∧ x = .int .u32 (wP l p k : Int)) (fun _ i => 4 - (intOf i).toNat)
  case atStart => exact ⟨0, by omega, rfl, rfl⟩
  case round =>
    obtain ⟨k, hk, rfl, rfl⟩ := hrel
    by_cases hlt : k < 4
    · by_cases hin : p + k < n
      · obtain ⟨b, o, rfl, hb, x, HX, hx, hc⟩ := hs.byte HL.out hin
        go_wp2
        go_round
        case rel => exact ⟨k + 1, by omega, by go_num, by rw [wP_step l p k _ hlt (by simp [oct, List.getD, HX.out])]⟩
        case measure => simp [intOf]; omega
      · go_wp2
        go_round
        case rel => exact ⟨k + 1, by omega, by go_num, congrArg (Value.int .u32) (wP_step l p k 255 hlt (by simp [oct, List.getD, List.getElem?_eq_none (show l.length ≤ p + k by have := HL.out; omega)]))⟩
        case measure => simp [intOf]; omega
    · go_wp2
      go_ret
      obtain rfl : k = 4 := by omega
      exact ⟨ret_int (by rw [wP_four]), rfl⟩

theorem getW_no {l : List UInt8} {p : Int} (h : isAt l.length p = false) : getW l p = (0, 0, 2) := by simp [getW, h]
end Go.Proofs.Ytpdfalgjmeagjaa

/-
  What Uint, Word and Blob of package bytes answer, for every input: the digits of a number, the four bytes of a word, a string with its length, behind what was handed in, in new memory.
-/
namespace Go.Proofs.Ytpdfalgjmeagjaa
open Go.RowKit
set_option linter.unusedVariables false

theorem wd_get (x k : Nat) (hk : k < 4) : (wd x)[k]'(by rw [len_wd]; exact hk) = byteAt x k := by
  match k, hk with
  | 0, _ => rfl
  | 1, _ => rfl
  | 2, _ => rfl
  | 3, _ => rfl

end Go.Proofs.Ytpdfalgjmeagjaa

/-
  What GetBlob of package bytes answers, for every input: the string at a place, in new memory, or the error that chapter 1 asks.
-/
namespace Go.Proofs.Ytpdfalgjmeagjaa
open Go.RowKit
set_option linter.unusedVariables false

theorem cb_part (l : List UInt8) (q x : Nat) : ((cb l).drop q).take x = cb ((l.drop q).take x) := by simp [cb]
theorem Sees.part {w : World} {B b o : Nat} {l : List UInt8} (h : Sees w B (some ⟨b, o, none⟩) (cb l)) (q x : Nat) : Sees w B (some ⟨b, o + q, none⟩) (cb ((l.drop q).take x)) := by
  have := (h.drop_ q).take_ x
  rwa [cb_part] at this

end Go.Proofs.Ytpdfalgjmeagjaa

/-
  What Words and Bytes of package bytes answer, for every input: bytes as words of a flash, filled up with 255, and the first bytes of words.
-/
namespace Go.Proofs.Ytpdfalgjmeagjaa
open Go.RowKit
set_option linter.unusedVariables false

def Grows32 (w : World) (n : Nat) (l : List UInt32) (e : Ending) (w' : World) : Prop :=
  e = .returned (.slice (some ⟨w.heap.size, 0, none⟩) n n) ∧ Fresh w.heap.size 22 w' (some ⟨w.heap.size, 0, none⟩) n n (cw l) ∧ Below w.heap.size w w'
theorem words_get (l : List UInt8) (k : Nat) (hk : k < (words l).length) : (words l)[k] = UInt32.ofNat (wAt l (4 * k)) := by simp [words]

set_option maxHeartbeats 400000 in
theorem Words_any (A : Option Addr) (c n m : Nat) (l : List UInt8) (w : World) (hs : Sees w w.heap.size A (cb l)) (hl : l.length = n) (hn : n ≤ 274877906944) (hm : (n + 3) / 4 = m) :
    Calls Try.prog 195 #[.slice A n c] w (Grows32 w m (words l)) := by
  have HL := Lib.hid hl
  have hm1 : 4 * m ≤ n + 3 := by omega
  have hm2 : n ≤ 4 * m := by omega
  have HM := Lib.hid hm
  have HW := Lib.hid (show (words l).length = m by rw [len_words, hl, hm])
  clear hl hm
  go_enter Try.func195, Try.ntmps195
  go_wp2_with (at_make; refine wpList_mk32 rfl (.tmp 9) rfl _ m rfl (by omega) (by omega) ?_; intro w1 hF1 hB1)
  go_loopw [13] (fun i wr => ∃ k : Nat, k ≤ m ∧ i = .int .i64 k ∧ Fresh w.heap.size 22 wr (some ⟨w.heap.size, 0, none⟩) m m (cw (splice (List.replicate m 0) 0 ((words l).take k))) ∧ Below w.heap.size w wr) (fun i _ => m - (intOf i).toNat)
  case atStart => exact ⟨0, by omega, rfl, by simpa [splice] using hF1, hB1⟩
  case round =>
    obtain ⟨k, hk, rfl, hFr, hbr⟩ := hrel
    by_cases hlt : k < m
    · obtain ⟨u, hc⟩ := hFr.cellAt (j := k) (by omega)
      have hz := hFr.frozenAt (j := k)
      go_wp2_with (go_at_call 209; refine (wordAt_any A c n (4 * k) _ l _ (by omega) (hs.step hbr) HL.out (by omega) (by omega)).mono ?_; rintro e w2 ⟨rfl, rfl⟩)
      have hkw : k < (words l).length := by rw [HW.out]; exact hlt
      have hs := hFr.store32 (0 + k) ((words l)[k])
      rw [splice_step _ _ _ _ hkw (by simp [HW.out]), Nat.zero_add, words_get, ofNat_toNat32 _ (wAt_lt _ _)] at hs
      go_roundw
      case rel => exact ⟨k + 1, by omega, by go_num, hs, hbr.setCell (Nat.le_refl _) _⟩
      case measure => simp [intOf]; omega
    · go_wp2
      go_ret
      obtain rfl : k = m := by omega
      have h := hFr
      rw [splice_all _ _ _ _ (by rw [HW.out]; exact Nat.le_refl _), splice_zero _ _ _ HW.out] at h
      exact ⟨rfl, h, hbr⟩

/-- A list in new memory, an error. -/
def Tells2 (w : World) (r : List UInt8 × Nat) (e : Ending) (w' : World) : Prop :=
  ∃ A c, e = .returned (.tuple #[.slice A r.1.length c, .int .i64 (r.2 : Int)]) ∧ Fresh w.heap.size 5 w' A r.1.length c (cb r.1) ∧ Below w.heap.size w w'

set_option maxHeartbeats 400000 in
theorem Bytes_any (A : Option Addr) (c n : Nat) (p : Int) (l : List UInt32) (w : World) (hs : Sees w w.heap.size A (cw l)) (hl : l.length = n) (hn : n ≤ 68719476736) :
    Calls Try.prog 204 #[.slice A n c, .int .i64 p] w (Tells2 w (getBytes l p)) := by
  have HL := Lib.hid hl
  clear hl
  by_cases h0 : p < 0
  · go_enter Try.func204, Try.ntmps204
    go_wp2
    go_ret2
    have e : getBytes l p = ([], 2) := by simp [getBytes, h0]
    rw [e]
    exact ⟨none, 0, rfl, fresh_nil _ _ _, Below.refl _ _⟩
  · obtain ⟨m, rfl⟩ := Int.eq_ofNat_of_zero_le (show 0 ≤ p by omega)
    by_cases hm : 4 * n < m
    · go_enter Try.func204, Try.ntmps204
      go_wp2
      go_ret2
      have e : getBytes l (m : Int) = ([], 10) := by
        simp only [getBytes, HL.out]
        rw [if_neg (by omega), if_pos (by omega)]
      rw [e]
      exact ⟨none, 0, rfl, fresh_nil _ _ _, Below.refl _ _⟩
    · have e : getBytes l (m : Int) = ((bytesOf l).take m, 0) := by
        simp only [getBytes, HL.out]
        rw [if_neg (by omega), if_neg (by omega)]
        rfl
      have HE := Lib.hid e
      have HN := Lib.hid (show ((bytesOf l).take m).length = m by rw [List.length_take, len_bytesOf, HL.out]; omega)
      clear e
      obtain ⟨L, hL⟩ : ∃ L, L = (bytesOf l).take m := ⟨_, rfl⟩
      have HLL := Lib.hid hL
      rw [← hL] at HE HN
      clear hL
      go_enter Try.func204, Try.ntmps204
      go_wp2_with (at_make; refine wpList_mk8 rfl (.tmp 15) rfl _ m rfl rfl (by omega) ?_; intro w1 hF1 hB1)
      go_loopw [18] (fun i wr => ∃ k : Nat, k ≤ m ∧ i = .int .i64 k ∧ Fresh w.heap.size 5 wr (some ⟨w.heap.size, 0, none⟩) m m (cb (splice (List.replicate m 0) 0 (L.take k))) ∧ Below w.heap.size w wr) (fun i _ => m - (intOf i).toNat)
      case atStart => exact ⟨0, by omega, rfl, by simpa [splice] using hF1, hB1⟩
      case round =>
        obtain ⟨k, hk, rfl, hFr, hbr⟩ := hrel
        by_cases hlt : k < m
        · obtain ⟨u, hc⟩ := hFr.cellAt (j := k) (by omega)
          have hz := hFr.frozenAt (j := k)
          obtain ⟨b, o, rfl, hb, d, HD, hd, hcd⟩ := (hs.below hbr).word HL.out (show k / 4 < n by omega)
          go_wp2_with (go_at_call 210; refine (byteOf_any d.toNat (k % 4) _ hd (by omega)).mono ?_; rintro e w2 ⟨rfl, rfl⟩)
          have hkL : k < L.length := by rw [HN.out]; exact hlt
          have hs := hFr.store8 (0 + k) (L[k])
          have hg : L[k] = byteAt d.toNat (k % 4) := by
            have h1 : k / 4 < l.length := by rw [HL.out]; omega
            have h2 := bytesOf_get l k h1
            have h3 := HD.out
            rw [List.getElem?_eq_getElem h1] at h3
            injection h3 with h3
            have h4 : L[k]? = (bytesOf l)[k]? := by rw [HLL.out, List.getElem?_take, if_pos hlt]
            rw [List.getElem?_eq_getElem hkL, h2, h3] at h4
            injection h4
          rw [splice_step _ _ _ _ hkL (by simp [HN.out]), Nat.zero_add, hg] at hs
          go_roundw
          case rel => exact ⟨k + 1, by omega, by go_num, hs, hbr.setCell (Nat.le_refl _) _⟩
          case measure => simp [intOf]; omega
        · go_wp2
          go_ret2
          obtain rfl : k = m := by omega
          have h := hFr
          rw [splice_all _ _ _ _ (by rw [HN.out]; exact Nat.le_refl _), splice_zero _ _ _ HN.out] at h
          rw [HE.out]
          exact ⟨some ⟨w.heap.size, 0, none⟩, k, by rw [HN.out]; rfl, by rw [HN.out]; exact h, hbr⟩
end Go.Proofs.Ytpdfalgjmeagjaa

/-
  The calls of package bytes, their answers wherever they lie; and what writes of the statements' package answers: true.
-/
namespace Go.Proofs.Ytpdfalgjmeagjaa
open Go.RowKit
set_option linter.unusedVariables false

theorem Grows32.made {w w' : World} {n : Nat} {l : List UInt32} {e : Ending} (h : Grows32 w n l e w') : Made32 w n l e w' := ⟨_, _, h.1, h.2.1, h.2.2⟩
theorem Words_made {A : Option Addr} {c n m : Nat} {l : List UInt8} {L : List UInt32} {w : World} (hs : Sees w w.heap.size A (cb l)) (hl : l.length = n) (hm : (n + 3) / 4 = m) (hL : words l = L) (hn : n ≤ 274877906944) :
    Calls Try.prog 195 #[.slice A n c] w (Made32 w m L) := by
  subst hL
  exact (Words_any A c n m l w hs hl hn hm).mono fun _ _ h => h.made
def Told2 (w : World) (n : Nat) (l : List UInt8) (r : Nat) (e : Ending) (w' : World) : Prop :=
  ∃ A c, e = .returned (.tuple #[.slice A n c, .int .i64 (r : Int)]) ∧ Fresh w.heap.size 5 w' A n c (cb l) ∧ Below w.heap.size w w'
theorem Bytes_told {A : Option Addr} {c n N r : Nat} {p : Int} {l : List UInt32} {L : List UInt8} {w : World} (hg : getBytes l p = (L, r)) (hs : Sees w w.heap.size A (cw l)) (hl : l.length = n) (hN : L.length = N) (hn : n ≤ 68719476736) :
    Calls Try.prog 204 #[.slice A n c, .int .i64 p] w (Told2 w N L r) := by
  subst hN
  have h := Bytes_any A c n p l w hs hl hn
  rw [hg] at h
  exact h

end Go.Proofs.Ytpdfalgjmeagjaa

/-
  What reads of the statements' package answers: true, where each try reads as it says.
-/
namespace Go.Proofs.Ytpdfalgjmeagjaa
open Go.RowKit
set_option linter.unusedVariables false

structure Tr where
  A : Option Addr
  n : Nat
  c : Nat
  p : Int
  x : Nat
  q : Nat
  r : Nat
def Tr.cells (t : Tr) : List Value := [.slice t.A t.n t.c, .int .i64 t.p, .int .u64 (t.x : Int), .int .i64 (t.q : Int), .int .i64 (t.r : Int)]
/-- The try reads as the document says. -/
def Tr.Ok (w : World) (t : Tr) : Prop := ∃ l, Sees w w.heap.size t.A (cb l) ∧ l.length = t.n ∧ t.n ≤ 1099511627776 ∧ getU l t.p = (t.x, t.q, t.r)
def Tries (w : World) (g : Nat) (ts : List Tr) : Prop := g < w.heap.size ∧ ∀ k t, ts[k]? = some t → (∀ j u, t.cells[j]? = some u → w.cell? ⟨g, k * 5 + j, none⟩ = some u) ∧ t.Ok w

theorem Tr.Ok.step {w w' : World} {t : Tr} (h : t.Ok w) (hb : Below w.heap.size w w') : t.Ok w' := by
  obtain ⟨l, h1, h2⟩ := h
  exact ⟨l, h1.step hb, h2⟩
theorem Tries.step {w w' : World} {g : Nat} {ts : List Tr} (h : Tries w g ts) (hb : Below w.heap.size w w') : Tries w' g ts :=
  ⟨Nat.lt_of_lt_of_le h.1 hb.size, fun k t hk => ⟨fun j u hu => (hb.cell (p := ⟨g, k * 5 + j, none⟩) h.1).trans ((h.2 k t hk).1 j u hu), (h.2 k t hk).2.step hb⟩⟩

end Go.Proofs.Ytpdfalgjmeagjaa

/-
  What awake of the statements' package answers: true; the chapter's examples come out as they are written.
-/
namespace Go.Proofs.Ytpdfalgjmeagjaa
open Go.RowKit
set_option linter.unusedVariables false

end Go.Proofs.Ytpdfalgjmeagjaa

/-
  What is known of an argument that is a slice of bytes or of words.
-/
namespace Go.Proofs.Ytpdfalgjmeagjaa
open Go.RowKit
set_option linter.unusedVariables false

/-- What is told of a slice of integers that came in: it is nil, or it leads to a row of 'cap' cells, the numbers zs, the first 'len' of which are its elements. -/
def IsRow (k : IntKind) (w : World) (a : Option Addr) (len cap : Nat) (zs : List Int) : Prop :=
  (a = none ∧ len = 0 ∧ cap = 0 ∧ zs = []) ∨
  ∃ x, a = some x ∧ len ≤ cap ∧ cap ≤ maxLen ∧ zs.length = cap ∧ (∀ i, i < zs.length → w.cell? (x.add i) = some (.int k (zs.getD i 0))) ∧ ∀ n ∈ zs, (Lit.int k n).wf = true

theorem row_cells {k : IntKind} {w : World} {a : Option Addr} {len cap : Nat} {zs : List Int} (h : IsRow k w a len cap zs) : len ≤ cap ∧ cap ≤ maxLen ∧ len ≤ zs.length ∧ Sees w w.heap.size a ((zs.take len).map (.int k)) ∧ ∀ n ∈ zs, (Lit.int k n).wf = true := by
  rcases h with ⟨rfl, rfl, rfl, rfl⟩ | ⟨⟨b, o, s⟩, rfl, h1, h2, h3, h4, h5⟩
  · exact ⟨Nat.le_refl _, Nat.zero_le _, Nat.le_refl _, Sees.nil, by simp⟩
  · refine ⟨h1, h2, by omega, fun hp => ?_, h5⟩
    have hlen : 0 < zs.length := by
      have : (zs.take len).length ≤ zs.length := List.length_take_le' _ _
      rw [List.length_map] at hp
      omega
    have h0 := h4 0 hlen
    have hs : s = none := by simpa [Addr.add] using World.cell?_spot h0
    subst hs
    rw [Addr.add_lit] at h0
    refine ⟨b, o, rfl, World.block_lt_of_cell? _ _ h0, fun j u hu => ?_⟩
    rw [List.getElem?_map] at hu
    obtain ⟨z, hz, rfl⟩ := Option.map_eq_some_iff.1 hu
    rw [List.getElem?_take] at hz
    split at hz
    · have hj : j < zs.length := (List.getElem?_eq_some_iff.1 hz).1
      have := h4 j hj
      rw [Addr.add_lit] at this
      rw [this]
      simp [List.getD, hz]
    · cases hz
theorem bytes_of : ∀ zs : List Int, (∀ n ∈ zs, (Lit.int .u8 n).wf = true) → ∃ l : List UInt8, l.length = zs.length ∧ zs.map (Value.int .u8) = cb l
  | [], _ => ⟨[], rfl, rfl⟩
  | z :: zs, h => by
    obtain ⟨l, h1, h2⟩ := bytes_of zs (fun n hn => h n (List.mem_cons_of_mem _ hn))
    have hz := bounds_u8 (h z List.mem_cons_self)
    refine ⟨UInt8.ofNat z.toNat :: l, by simp [h1], ?_⟩
    have e : ((UInt8.ofNat z.toNat).toNat : Int) = z := by rw [ofNat_toNat _ (by omega)]; omega
    show Value.int .u8 z :: zs.map (Value.int .u8) = Value.int .u8 ((UInt8.ofNat z.toNat).toNat : Int) :: cb l
    rw [e, h2]
theorem words_of : ∀ zs : List Int, (∀ n ∈ zs, (Lit.int .u32 n).wf = true) → ∃ l : List UInt32, l.length = zs.length ∧ zs.map (Value.int .u32) = cw l
  | [], _ => ⟨[], rfl, rfl⟩
  | z :: zs, h => by
    obtain ⟨l, h1, h2⟩ := words_of zs (fun n hn => h n (List.mem_cons_of_mem _ hn))
    have hz := bounds_u32 (h z List.mem_cons_self)
    refine ⟨UInt32.ofNat z.toNat :: l, by simp [h1], ?_⟩
    have e : ((UInt32.ofNat z.toNat).toNat : Int) = z := by rw [ofNat_toNat32 _ (by omega)]; omega
    show Value.int .u32 z :: zs.map (Value.int .u32) = Value.int .u32 ((UInt32.ofNat z.toNat).toNat : Int) :: cw l
    rw [e, h2]
theorem row_bytes {w : World} {a : Option Addr} {len cap : Nat} {zs : List Int} (h : IsRow .u8 w a len cap zs) : ∃ l : List UInt8, l.length = len ∧ Sees w w.heap.size a (cb l) ∧ len ≤ cap ∧ cap ≤ maxLen := by
  obtain ⟨h1, h2, h3, h4, h5⟩ := row_cells h
  obtain ⟨l, e1, e2⟩ := bytes_of (zs.take len) (fun n hn => h5 n (List.mem_of_mem_take hn))
  rw [e2] at h4
  exact ⟨l, by rw [e1, List.length_take]; omega, h4, h1, h2⟩
theorem row_words {w : World} {a : Option Addr} {len cap : Nat} {zs : List Int} (h : IsRow .u32 w a len cap zs) : ∃ l : List UInt32, l.length = len ∧ Sees w w.heap.size a (cw l) ∧ len ≤ cap ∧ cap ≤ maxLen := by
  obtain ⟨h1, h2, h3, h4, h5⟩ := row_cells h
  obtain ⟨l, e1, e2⟩ := words_of (zs.take len) (fun n hn => h5 n (List.mem_of_mem_take hn))
  rw [e2] at h4
  exact ⟨l, by rw [e1, List.length_take]; omega, h4, h1, h2⟩
end Go.Proofs.Ytpdfalgjmeagjaa

/-
  Small laws that the statements' walks share: a region that draws its order and ends in one call, a slice that is cut, and what is known of an argument that is a slice of bytes or of words.
-/
namespace Go.Proofs.Ytpdfalgjmeagjaa
open Go.RowKit
set_option linter.unusedVariables false

theorem elem8 : Try.prog.underlying 27 = some (.slice (Try.prog.elem 27)) := by kernel_rfl
/-- 'b[:k]'. -/
theorem run_cut {w : World} (A : Option Addr) (n c k : Nat) (hk : k ≤ c) : (Instr.slice 27 (.slice A n c) none (some (.int .i64 (k : Int))) none).run Try.prog w = .ok (.slice A k c) w := by
  have hz : (sizeOf (Try.prog.elem 27)).run Try.prog w = .ok 1 w := by kernel_rfl
  rw [run_slice_h w 27 A n c elem8 .i64 (k : Int) (by omega) (by omega), hz]
  simp only [Result.andThen, sliced, Int.toNat_natCast, Nat.zero_mul, Nat.sub_zero]
  cases A <;> simp [Addr.add]
end Go.Proofs.Ytpdfalgjmeagjaa

/-
  Parts: a list of byte strings in memory.
-/
namespace Go.Proofs.Ytpdfalgjmeagjaa
open Go.RowKit
set_option linter.unusedVariables false

/-- A part: where it lies, and its bytes. -/
structure Pb where
  A : Option Addr
  m : Nat
  c : Nat
  l : List UInt8
instance : Inhabited Pb := ⟨⟨none, 0, 0, []⟩⟩
def Pb.cell (p : Pb) : Value := .slice p.A p.m p.c
structure Pb.Ok (p : Pb) (w : World) : Prop where
  sees : Sees w w.heap.size p.A (cb p.l)
  len : p.l.length = p.m
  cap : p.m ≤ p.c
theorem Pb.Ok.step {p : Pb} {w w' : World} (h : p.Ok w) (x : Below w.heap.size w w') : p.Ok w' := ⟨h.sees.step x, h.len, h.cap⟩
/-- A list of parts that can be read. -/
structure Parts (w : World) (A : Option Addr) (n : Nat) (ps : List Pb) : Prop where
  sees : Sees w w.heap.size A (ps.map Pb.cell)
  len : ps.length = n
  ok : ∀ p ∈ ps, p.Ok w
theorem Parts.step {w w' : World} {A : Option Addr} {n : Nat} {ps : List Pb} (h : Parts w A n ps) (x : Below w.heap.size w w') : Parts w' A n ps := ⟨h.sees.step x, h.len, fun p hp => (h.ok p hp).step x⟩
theorem Parts.at_ {w : World} {A : Option Addr} {n k : Nat} {ps : List Pb} (h : Parts w A n ps) (hk : k < n) : ∃ g o, A = some ⟨g, o, none⟩ ∧ ∃ p : Pb, Hid (ps[k]? = some p) ∧ p.Ok w ∧ w.cell? ⟨g, o + k, none⟩ = some (.slice p.A p.m p.c) := by
  have hl := h.len
  obtain ⟨g, o, e, _, hc⟩ := h.sees.at_ (k := k) (by simp; omega)
  refine ⟨g, o, e, ps[k]'(by omega), List.getElem?_eq_getElem (by omega), h.ok _ (List.getElem_mem _), ?_⟩
  rw [hc]
  simp [Pb.cell]
end Go.Proofs.Ytpdfalgjmeagjaa

/-
  What sha.Write answers: a right hasher goes on as its bytes do.
-/
namespace Go.Proofs.Ytpdfalgjmeagjaa
open Go.RowKit
set_option linter.unusedVariables false
def lenOf : Value → Nat
  | .slice _ n _ => n
  | _ => 0
end Go.Proofs.Ytpdfalgjmeagjaa

/-
  A state by a block, reckoned in natural numbers: for digests of constants.
-/
namespace Go.Proofs.Ytpdfalgjmeagjaa
/-- The same reckoned in natural numbers, each word made a numeral before it goes on. -/
@[reducible] def pin {α : Type} (n : Nat) (f : Nat → α) : α := match n with
  | 0 => f 0
  | n + 1 => f (n + 1)
end Go.Proofs.Ytpdfalgjmeagjaa
