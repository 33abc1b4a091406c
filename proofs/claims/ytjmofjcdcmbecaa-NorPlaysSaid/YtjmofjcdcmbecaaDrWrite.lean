/-
  What a drive's Write does: word by word as if programmed one behind the other.
-/
import Derived.Test.YtjmofjcdcmbecaaDrRead
import Derived.Test.YtjmofjcdcmbecaaSlice
namespace Go.Proofs.Ytjmofjcdcmbecaa
open Go.RowKit Go.Shelf
set_option linter.unusedVariables false
attribute [local go_sem] Oper.semAt_some

/-! ### Programming, plainly -/
theorem Fl.prog_append : ∀ (l1 l2 : List UInt32) (S : Fl) (j : Nat), S.prog j (l1 ++ l2) = match S.prog j l1 with
    | (T, true) => T.prog (j + l1.length) l2
    | (T, false) => (T, false)
  | [], l2, S, j => rfl
  | x :: l1, l2, S, j => by
    simp only [List.cons_append, Fl.prog]
    rcases S.step with ⟨T, _ | _⟩
    · rfl
    · simp only [List.length_cons]
      rw [Fl.prog_append l1 l2 (T.put1 j x) (j + 1), show j + 1 + l1.length = j + (l1.length + 1) from by omega]
theorem Fl.step_ws (S : Fl) : S.step.1.ws = S.ws := by
  obtain ⟨n, ws, g, ar, l, d, hf⟩ := S
  cases ar
  · rfl
  · cases l <;> rfl
theorem Fl.step_down {S T : Fl} (h : S.step = (T, true)) : T.down = S.down ∧ T.n = S.n ∧ T.ws = S.ws := by
  obtain ⟨n, ws, g, ar, l, d, hf⟩ := S
  cases ar
  · simp [Fl.step] at h; subst h; exact ⟨rfl, rfl, rfl⟩
  · cases l
    · simp [Fl.step] at h
    · simp [Fl.step] at h; subst h; exact ⟨rfl, rfl, rfl⟩
theorem Fl.prog_keep : ∀ (l : List UInt32) (S T : Fl) (j : Nat), S.prog j l = (T, true) → T.down = S.down ∧ T.n = S.n ∧ T.ws.length = S.ws.length
  | [], S, T, j, h => by simp [Fl.prog] at h; subst h; exact ⟨rfl, rfl, rfl⟩
  | x :: l, S, T, j, h => by
    simp only [Fl.prog] at h
    split at h
    · rename_i U hU
      obtain ⟨h1, h2, h3⟩ := Fl.step_down hU
      obtain ⟨k1, k2, k3⟩ := Fl.prog_keep l _ _ _ h
      refine ⟨k1.trans h1, k2.trans h2, k3.trans ?_⟩
      simp [Fl.put1, h3]
    · cases h
theorem Fl.prog_nn : ∀ (l : List UInt32) (S : Fl) (j : Nat), (S.prog j l).1.n = S.n
  | [], S, j => rfl
  | x :: l, S, j => by
    have h1 := S.step_n
    simp only [Fl.prog]
    revert h1
    rcases S.step with ⟨T, _ | _⟩
    · intro h1; exact h1
    · intro h1; exact (Fl.prog_nn l _ _).trans h1
theorem and_of_nset {x y : UInt32} (h : nset x y = 0) : y &&& x = x := by
  have h1 : ∀ i, (x.toNat &&& (4294967295 - y.toNat)).testBit i = false := fun i => by
    unfold nset at h
    rw [h]
    simp
  apply UInt32.toNat_inj.1
  rw [UInt32.toNat_and]
  apply Nat.eq_of_testBit_eq
  intro i
  have h2 := h1 i
  have hx := x.toNat_lt
  have hy := y.toNat_lt
  rw [Nat.testBit_and] at h2 ⊢
  rw [show 4294967295 - y.toNat = 2 ^ 32 - (y.toNat + 1) from by omega, Nat.testBit_two_pow_sub_succ hy] at h2
  by_cases hi : i < 32
  · simp only [hi, decide_true, Bool.true_and] at h2
    revert h2
    cases x.toNat.testBit i <;> cases y.toNat.testBit i <;> simp
  · have e1 : x.toNat.testBit i = false := Nat.testBit_lt_two_pow (Nat.lt_of_lt_of_le hx (Nat.pow_le_pow_right (by decide) (by omega)))
    simp [e1]
/-- Where no bit would be set, what was programmed is there; nothing else is another one. -/
theorem Fl.prog_words : ∀ (l : List UInt32) (S T : Fl) (j : Nat), S.prog j l = (T, true) → j + l.length ≤ S.ws.length → sets32 ((S.ws.drop j).take l.length) l = false → T.ws = splice S.ws j l
  | [], S, T, j, h, _, _ => by simp [Fl.prog] at h; subst h; simp [splice]
  | x :: l, S, T, j, h, hl, hs => by
    simp only [Fl.prog] at h
    split at h
    · rename_i U hU
      obtain ⟨h1, h2, h3⟩ := Fl.step_down hU
      simp only [List.length_cons] at hl hs
      have hj : j < S.ws.length := by omega
      rw [List.drop_eq_getElem_cons hj, List.take_succ_cons] at hs
      simp only [sets32, Bool.or_eq_false_iff, Bool.not_eq_false', beq_iff_eq] at hs
      have hput : (U.put1 j x).ws = S.ws.set j x := by
        simp only [Fl.put1, h3, List.getD_eq_getElem?_getD, List.getElem?_eq_getElem hj, Option.getD_some]
        rw [and_of_nset hs.1]
      have hd : ((S.ws.set j x).drop (j + 1)) = S.ws.drop (j + 1) := by
        rw [List.drop_set_of_lt (by omega)]
      rw [Fl.prog_words l _ _ _ h (by rw [hput]; simp; omega) (by rw [hput, hd]; exact hs.2), hput]
      unfold splice
      rw [show j + 1 + l.length = j + (l.length + 1) from by omega]
      have e1 : (S.ws.set j x).take (j + 1) = S.ws.take j ++ [x] := by
        rw [List.take_add_one, List.getElem?_set_self hj, List.take_set_of_le (Nat.le_refl _)]
        rfl
      have e2 : (S.ws.set j x).drop (j + (l.length + 1)) = S.ws.drop (j + (l.length + 1)) := List.drop_set_of_lt (by omega)
      rw [e1, e2]
      simp [List.append_assoc]
    · cases h
theorem splice_at {α : Type} (L X : List α) (j : Nat) (h : j + X.length ≤ L.length) : ((splice L j X).drop j).take X.length = X := by
  unfold splice
  rw [List.drop_append_of_le_length (by simp; omega)]
  rw [List.drop_of_length_le (by simp; omega), List.nil_append, List.take_append_of_le_length (Nat.le_refl _), List.take_length]
/-- 'l[x:y]'. -/
theorem run_between32 (A : Option Addr) (n c l h : Nat) (hl : l ≤ h) (hh : h ≤ n) (hc : n ≤ c) :
    ∃ A' : Option Addr, (∀ w, (Instr.slice 63 (.slice A n c) (some (.int .i64 (l : Int))) (some (.int .i64 (h : Int))) none).run Try.prog w = .ok (.slice A' (h - l) (c - l)) w) ∧ ∀ (w : World) (B : Nat) (xs : List UInt32), xs.length = n → Sees w B A (cw xs) → Sees w B A' (cw ((xs.drop l).take (h - l))) := by
  have hz : ∀ w, (sizeOf (Try.prog.elem 63)).run Try.prog w = .ok 1 w := fun w => by kernel_rfl
  have he : Try.prog.underlying 63 = some (.slice (Try.prog.elem 63)) := by kernel_rfl
  have hr : ∀ w, (Instr.slice 63 (.slice A n c) (some (.int .i64 (l : Int))) (some (.int .i64 (h : Int))) none).run Try.prog w = .ok (sliced A l h c 1) w := fun w => by
    rw [run_slice_lh w 63 A n c he .i64 .i64 (l : Int) (h : Int) (by omega) (by omega) (by omega), hz]
    simp only [Result.andThen, Int.toNat_natCast]
  have hcb : ∀ xs : List UInt32, cw ((xs.drop l).take (h - l)) = ((cw xs).drop l).take (h - l) := fun xs => by simp [cw]
  by_cases hlc : l = c
  · refine ⟨A, fun w => ?_, fun w B xs hx hs => ?_⟩
    · rw [hr]
      cases A <;> simp [sliced, hlc]
    · rw [show h - l = 0 from by omega, List.take_zero]
      exact Sees.nil
  · refine ⟨A.map (·.add l), fun w => ?_, fun w B xs hx hs => ?_⟩
    · rw [hr]
      cases A <;> simp [sliced, Ne.symm hlc]
    · rw [hcb]
      by_cases hln : l < n
      · exact (hs.add l (by simp; omega)).take_ _
      · rw [List.drop_of_length_le (by simp; omega), List.take_nil]
        exact Sees.nil
/-- A piece more, or the failure within it. -/
theorem piece_step {S T T' : Fl} {J c e s α r : Nat} {l : List UInt32} (hT : S.prog J (l.take c) = (T, true)) (hd : S.down = false) (hce : c ≤ e) (hel : e ≤ l.length) (hs : s * 64 + α = J + c) (hsn : s < S.n) (hα : α + (e - c) ≤ 64)
    (hr : T.program (s : Int) (α : Int) ((l.drop c).take (e - c)) = (T', r)) : (r = 0 ∧ S.prog J (l.take e) = (T', true)) ∨ (r = 40 ∧ S.prog J l = (T', false)) := by
  obtain ⟨k1, k2, k3⟩ := Fl.prog_keep _ _ _ _ hT
  have hlen : ((l.drop c).take (e - c)).length = e - c := by simp; omega
  have hpl : T.place (s : Int) (α : Int) ((l.drop c).take (e - c)).length = true := by
    rw [hlen]
    simp [Fl.place, Fl.sector]
    omega
  have he : l.take e = l.take c ++ (l.drop c).take (e - c) := by
    rw [← List.take_add, show c + (e - c) = e from by omega]
  have h1 : S.prog J (l.take e) = T.prog (s * 64 + α) ((l.drop c).take (e - c)) := by
    rw [he, Fl.prog_append, hT]
    simp only
    rw [List.length_take, Nat.min_eq_left (by omega), hs]
  unfold Fl.program at hr
  rw [hpl, k1, hd] at hr
  simp only [Int.toNat_natCast] at hr
  rw [← h1] at hr
  revert hr
  rcases hq : S.prog J (l.take e) with ⟨U, _ | _⟩
  · intro hr
    simp only [Prod.mk.injEq] at hr
    obtain ⟨rfl, rfl⟩ := hr
    refine .inr ⟨rfl, ?_⟩
    rw [← List.take_append_drop e l, Fl.prog_append, hq]
  · intro hr
    simp only [Prod.mk.injEq] at hr
    obtain ⟨rfl, rfl⟩ := hr
    exact .inl ⟨rfl, rfl⟩
/-- The result, of one cell. -/
theorem results_cell1 {P : Program} {fn : Func} {tmps : Array Value} {w : World} {p : Tmp} {T : TypeId} {a : Addr} {u : Value} (hr : fn.results = #[.cell p T]) (hp : tmps.getD p undef = .pointer (some a)) (hT : plainT P T = true) (hu : w.cell? a = some u) : (results fn tmps).run P w = .ok u w := by
  have hp' : tmps[p]?.getD undef = .pointer (some a) := by simpa using hp
  simp [results, hr, hp', asAddr, load_plain hT hu]
/-- What the call holds between two rounds: the flash as it is then, its own boxes. -/
structure WInv (base : Nat) (w w3 : World) (d p b n c : Nat) (A : Option Addr) (E : Nat) (T : Fl) (W : World) : Prop where
  nor : NorAt base W p b T
  k3 : W.heap[w.heap.size]? = some (.cells #[.pointer (some ⟨d, 0, none⟩)] 85)
  k5 : W.heap[w.heap.size + 1]? = some (.cells #[.slice A n c] 63)
  k6 : W.heap[w.heap.size + 1 + 1]? = some (.cells #[.int .i64 (E : Int)] 60)
  but : But p b w W
  size : w3.heap.size ≤ W.heap.size
theorem NorAt.grown {base p b B : Nat} {T : Fl} {W W' : World} {row : Option Nat} (h : NorAt base W p b T) (hg : W.grownBy W' row) (hr : ∀ r, row = some r → B ≤ r ∧ ∃ o : Obj, W.heap[r]? = some o ∧ o.isCells = false) : NorAt base W' p b T :=
  ⟨fresh_grown h.obj hg hr, fresh_grown h.row hg hr, h.ne, h.n_le, h.left_le⟩
theorem But.grown {p b B : Nat} {w W W' : World} {row : Option Nat} (h : But p b w W) (hg : W.grownBy W' row) (hB : w.heap.size ≤ B) (hr : ∀ r, row = some r → B ≤ r) : But p b w W' :=
  ⟨hg.os.trans h.os, hg.tape.trans h.tape, hg.output.trans h.output, Nat.le_trans h.size hg.size, fun k h1 h2 h3 => (hg.block k (Nat.lt_of_lt_of_le h1 h.size) (fun e => by have := hr k e.symm; omega)).trans (h.keep k h1 h2 h3)⟩
theorem WInv.grown {base d p b n c B E : Nat} {w w3 W W' : World} {A : Option Addr} {T : Fl} {row : Option Nat} (h : WInv base w w3 d p b n c A E T W) (hg : W.grownBy W' row) (hB : w.heap.size ≤ B) (hr : ∀ r, row = some r → B ≤ r ∧ ∃ o : Obj, W.heap[r]? = some o ∧ o.isCells = false) : WInv base w w3 d p b n c A E T W' :=
  ⟨h.nor.grown hg hr, (cells_kept hg hr h.k3).trans h.k3, (cells_kept hg hr h.k5).trans h.k5, (cells_kept hg hr h.k6).trans h.k6, h.but.grown hg hB (fun r e => (hr r e).1), Nat.le_trans h.size hg.size⟩
theorem WInv.below {base d p b n c E : Nat} {w w3 W W' : World} {A : Option Addr} {T : Fl} (h : WInv base w w3 d p b n c A E T W) (x : Below W.heap.size W W') : WInv base w w3 d p b n c A E T W' :=
  have hl := fun {k : Nat} {o : Obj} (q : W.heap[k]? = some o) => (x.block k (Array.getElem?_eq_some_iff.1 q).1).trans q
  ⟨h.nor.below x, hl h.k3, hl h.k5, hl h.k6, h.but.then_ (But.of_below x), Nat.le_trans h.size x.size⟩
/-- The flash is another one. -/
theorem WInv.turn {base d p b n c E : Nat} {w w3 W W' : World} {A : Option Addr} {T T' : Fl} (h : WInv base w w3 d p b n c A E T W) (hp : p < w.heap.size) (hb : b < w.heap.size) (hN : NorAt base W' p b T') (x : But p b W W') : WInv base w w3 d p b n c A E T' W' :=
  have hl := fun {k : Nat} {o : Obj} (q : W.heap[k]? = some o) (hk : w.heap.size ≤ k) => (x.keep k (Array.getElem?_eq_some_iff.1 q).1 (by omega) (by omega)).trans q
  ⟨hN, hl h.k3 (by omega), hl h.k5 (by omega), hl h.k6 (by omega), h.but.then_ x, Nat.le_trans h.size x.size⟩
theorem setCell_ne (X : World) (g j k : Nat) (u : Value) (h : k ≠ g) : (X.setCell ⟨g, j, none⟩ u).heap[k]? = X.heap[k]? := by
  simp only [World.setCell, Array.getElem?_modify]
  rw [if_neg (Ne.symm h)]
/-- The result is written. -/
theorem WInv.put {base d p b n c E : Nat} {w w3 W : World} {A : Option Addr} {T : Fl} (h : WInv base w w3 d p b n c A E T W) (hp : p < w.heap.size) (hb : b < w.heap.size) (E' : Nat) : WInv base w w3 d p b n c A E' T (W.setCell ⟨w.heap.size + 1 + 1, 0, none⟩ (.int .i64 (E' : Int))) := by
  have b6 : Boxed W (w.heap.size + 1 + 1) 60 (.int .i64 (E : Int)) := h.k6
  have hk := fun k (hk : k ≠ w.heap.size + 1 + 1) => setCell_ne W (w.heap.size + 1 + 1) 0 k (.int .i64 (E' : Int)) hk
  exact ⟨⟨h.nor.obj.kept (hk p (by omega)), h.nor.row.kept (hk b (by omega)), h.nor.ne, h.nor.n_le, h.nor.left_le⟩, (hk _ (by omega)).trans h.k3, (hk _ (by omega)).trans h.k5, b6.set _,
    ⟨h.but.os, h.but.tape, h.but.output, by simpa [World.setCell] using h.but.size, fun k h1 h2 h3 => (hk k (by omega)).trans (h.but.keep k h1 h2 h3)⟩, by simpa [World.setCell] using h.size⟩
end Go.Proofs.Ytjmofjcdcmbecaa
