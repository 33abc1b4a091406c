/-
  NorTwice returns true for every input, and writes nothing that was there: the walk.
-/
import Derived.Test.YtpdfalgjmeagjaaNorSec
import Derived.Test.YtpdfalgjmeagjaaNorAwake
import Derived.Test.YtpdfalgjmeagjaaPick
namespace Go.Proofs.Ytpdfalgjmeagjaa
open Go.RowKit
set_option linter.unusedVariables false

def andL (ws : List UInt32) (j : Nat) : List UInt32 → List UInt32
  | [] => ws
  | x :: l => andL (ws.set j (ws.getD j 0 &&& x)) (j + 1) l
def pickL (l : List UInt32) (j i : Nat) : UInt32 := if j ≤ i then l.getD (i - j) 4294967295 else 4294967295
theorem and_ones (x : UInt32) : x &&& 4294967295 = x := by
  have := UInt32.and_neg_one (a := x)
  exact this
theorem andL_get : ∀ (l ws : List UInt32) (j i : Nat), (andL ws j l)[i]? = (ws[i]?).map (· &&& pickL l j i)
  | [], ws, j, i => by
    have e : pickL [] j i = 4294967295 := by unfold pickL; split <;> simp
    rw [e, andL]
    cases ws[i]? with
    | none => rfl
    | some x => simp [and_ones]
  | x :: l, ws, j, i => by
    rw [andL, andL_get l]
    by_cases hij : i = j
    · subst hij
      have e1 : pickL (x :: l) i i = x := by simp [pickL]
      have e2 : pickL l (i + 1) i = 4294967295 := by
        unfold pickL
        rw [if_neg (by omega)]
      rw [e1, e2, List.getElem?_set, if_pos rfl]
      by_cases hl : i < ws.length
      · rw [if_pos hl, List.getElem?_eq_getElem hl]
        simp [List.getD, List.getElem?_eq_getElem hl, and_ones]
      · rw [if_neg hl, List.getElem?_eq_none (by omega)]
        rfl
    · rw [List.getElem?_set, if_neg (fun e => hij e.symm)]
      have e : pickL l (j + 1) i = pickL (x :: l) j i := by
        unfold pickL
        by_cases h1 : j + 1 ≤ i
        · rw [if_pos h1, if_pos (by omega)]
          rw [show i - j = (i - (j + 1)) + 1 from by omega, List.getD_cons_succ]
        · rw [if_neg h1, if_neg (by omega)]
      rw [e]
theorem andL_twice (ws l m : List UInt32) (j : Nat) : andL (andL (andL ws j l) j m) j l = andL (andL ws j m) j l := by
  apply List.ext_getElem?
  intro i
  simp only [andL_get]
  cases ws[i]? with
  | none => rfl
  | some x =>
    simp only [Option.map_some, Option.some.injEq]
    generalize pickL l j i = a
    generalize pickL m j i = b
    rw [UInt32.and_assoc x a b, UInt32.and_comm a b, ← UInt32.and_assoc x b a, UInt32.and_assoc (x &&& b) a a, UInt32.and_self]
theorem prog_free : ∀ (l : List UInt32) (S : Fl) (j : Nat), S.armed = false → S.prog j l = ({ S with ws := andL S.ws j l }, true)
  | [], S, j, h => rfl
  | x :: l, S, j, h => by
    have hst : S.step = (S, true) := by simp [Fl.step, h]
    rw [Fl.prog, hst]
    show (S.put1 j x).prog (j + 1) l = _
    rw [prog_free l (S.put1 j x) (j + 1) h]
    rfl
theorem program_free (S : Fl) (σ κ : Nat) (l : List UInt32) (h : S.armed = false) (hd : S.down = false) (hσ : σ < S.n) (hκ : κ + l.length ≤ 64) : S.program (σ : Int) (κ : Int) l = ({ S with ws := andL S.ws (σ * 64 + κ) l }, 0) := by
  have hpl : S.place (σ : Int) (κ : Int) l.length = true := by simp [Fl.place, Fl.sector]; omega
  simp only [Fl.program, hd, hpl, Int.toNat_natCast, prog_free l S _ h]
theorem crash_up (S : Fl) (ks : List Bool) (hh : S.half = -1) (ha : S.armed = false) (hd : S.down = false) : S.crash ks = S := by
  obtain ⟨n, ws, g, ar, l, d, hf⟩ := S
  simp only at hh ha hd
  subst hh ha hd
  rfl
theorem made4_up (l : List Oc) : (made4 l).armed = false ∧ (made4 l).down = false ∧ (made4 l).half = -1 ∧ (made4 l).n = 4 := by
  have h := (Fl.run_ok (l.take 40) (Fl.made 4 2) (.inl rfl)).1
  unfold made4 Fl.crash
  split <;> exact ⟨rfl, rfl, rfl, h⟩
theorem Oc.Ok.step {o : Oc} {w w' : World} (h : o.Ok w.heap.size w) (x : Below w.heap.size w w') : o.Ok w'.heap.size w' := ⟨h.sees.step x, h.len, h.cap, h.sees2.step x, h.len2, h.hs, h.ha⟩
/-- Up, not armed, and of these words. -/
def Free4 (T : Fl) (ws : List UInt32) : Prop := T.n = 4 ∧ T.armed = false ∧ T.down = false ∧ T.half = -1 ∧ T.ws = ws
section
variable {w : World} {base p b : Nat} {T : Fl} {ws : List UInt32}
theorem prog_step (h : NorAt base w p b T) (hf : Free4 T ws) (σ κ m c : Nat) (A : Option Addr) (l : List UInt32) (hσ : σ < 4) (hκ : κ < 64) (hl : l.length = m) (hm : κ + m ≤ 64) (hB : base ≤ w.heap.size) (hs : Sees w base A (cw l)) :
    Calls Try.prog 33 #[.pointer (some ⟨p, 0, none⟩), .int .i64 (σ : Int), .int .i64 (κ : Int), .slice A m c] w
      fun e w' => ∃ T', e = .returned (.int .i64 0) ∧ NorAt base w' p b T' ∧ Free4 T' (andL ws (σ * 64 + κ) l) ∧ But p b w w' := by
  obtain ⟨f1, f2, f3, f4, f5⟩ := hf
  refine (Program_any h (σ : Int) (κ : Int) (by omega) m c A l hB hs hl _ _ (program_free T σ κ l f2 f3 (by omega) (by omega))).mono ?_
  rintro e w' ⟨rfl, h1, h2⟩
  exact ⟨_, rfl, h1, ⟨f1, f2, f3, f4, by rw [← f5]⟩, h2⟩
theorem crash_step (h : NorAt base w p b T) (hf : Free4 T ws) (A : Option Addr) (q c : Nat) (ks : List Bool) (hB : base ≤ w.heap.size) (hs : Sees w base A (cl ks)) (hl : ks.length = q) :
    Calls Try.prog 35 #[.pointer (some ⟨p, 0, none⟩), .slice A q c] w fun e w' => e = .returned (.tuple #[]) ∧ NorAt base w' p b T ∧ But p b w w' := by
  obtain ⟨f1, f2, f3, f4, f5⟩ := hf
  have h1 := Crash_any h (.inl f4) A q c ks hB hs hl
  rwa [crash_up T ks f4 f2 f3] at h1
end
end Go.Proofs.Ytpdfalgjmeagjaa
