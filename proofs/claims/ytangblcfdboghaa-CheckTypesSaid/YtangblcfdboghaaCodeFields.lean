/-
  What fields of package code answers, for every input: a map of closures by letters; and what is looked up in it.
-/
import Derived.Test.YtangblcfdboghaaCodeMay
namespace Go.Proofs.Ytangblcfdboghaa
open Go.RowKit Go.Maps
set_option linter.unusedVariables false

/-- A store into a map that a literal makes. -/
theorem wpList_insert_own {H : Type} {P : Program} (w : World) {ops : Array Oper} {rest : List Oper} {o : Oper} {a : Act} {Q : Exit → Act → World → Prop}
    (hg : o.guard = none) (m x v : Operand) (t : TypeId) (hop : o.op = Op.insert t m x v)
    (k e : TypeId) (K : Keyed P k) (ht : P.underlying t = some (.map k e)) (R : Value → Option (DataW H × List MemPlace)) (b n : Nat) (D : DataW H)
    (hm : a.eval m = .map (some b)) (hown : w.ownsMap P k R b n D) (hn : n < maxLen) (key val : Value) (kl : Lit) (hx : a.eval x = key) (hv : a.eval v = val) (hkey : keyOf P k key = some kl)
    (d : DataW H) (ps : List MemPlace) (hval : R val = some (d, ps))
    (hK : ∀ w', w'.ownsMap P k R b (n + 1) (D.put kl d) → w.grownBy w' (some b) → wpList P ops Q rest (a.put o.dst undef) w') :
    wpList P ops Q (o :: rest) a w := by
  refine wpList_plain hg fun K' hK' => ?_
  obtain ⟨w', hrun, r1, r2⟩ := hown.update K ht hn hkey hval
  unfold Oper.wp
  simp [execOp, hop, hm, hx, hv, hrun, Result.andThen]
  exact hK' _ _ (hK w' r1 r2)
theorem Fresh.grown_ {w w' : World} {base : Nat} {e : TypeId} {g b n : Nat} {xs : List Value} (h : Fresh base e w (some ⟨g, 0, none⟩) n n xs) (hg : w.grownBy w' (some b)) (hne : g ≠ b) : Fresh base e w' (some ⟨g, 0, none⟩) n n xs :=
  Fresh.of_block (by rw [hg.block g (Array.getElem?_eq_some_iff.1 h.block.1).1 (by simpa using hne)]; exact h.block.1) h.block.2 h.len h.cap.2
theorem law5 : Keyed Try.prog 5 := int_keyed Try.underlying5
theorem key5 (c : Int) (h : 0 ≤ c ∧ c < 256) : keyOf Try.prog 5 (.int .u8 c) = some (.int .u8 c) := keyOf_int_mk Try.underlying5 (by simp [Lit.wf, IntKind.min, IntKind.max, IntKind.bits, IntKind.signed]; omega)
/-- How a function among the closures reads: it is held as it is. -/
abbrev fnElem (v : Value) : Option (DataW Value × List MemPlace) := some (.held v, [])
/-- The closure of a letter, over a program that lies in block g. -/
def cloV (g : Nat) (c : Nat) : Value :=
  if c = 48 then .func (.func 85) #[] #[]
  else if c = 116 then .func (.func 86) #[] #[]
  else if c = 119 then .func (.func 87) #[] #[]
  else if c = 114 then .func (.func 89) #[] #[]
  else if c = 118 then .func (.func 90) #[] #[.pointer (some ⟨g, 0, none⟩)]
  else if c = 115 then .func (.func 92) #[] #[.pointer (some ⟨g, 0, none⟩)]
  else if c = 106 then .func (.func 93) #[] #[.pointer (some ⟨g, 0, none⟩)]
  else if c = 98 then .func (.func 94) #[] #[.pointer (some ⟨g, 0, none⟩)]
  else if c = 111 then .func (.func 95) #[] #[.pointer (some ⟨g, 0, none⟩)]
  else undef
def fkeys : List Nat := [48, 116, 119, 114, 118, 115, 106, 98, 111]
def fdat (g : Nat) (l : List Nat) : DataW Value := l.foldl (fun (D : DataW Value) (c : Nat) => D.put (.int .u8 (c : Int)) (.held (cloV g c))) (.map [])
theorem fdat_snoc (g : Nat) (l : List Nat) (c : Nat) : fdat g (l ++ [c]) = (fdat g l).put (.int .u8 (c : Int)) (.held (cloV g c)) := by simp [fdat, List.foldl_append]
theorem fdat_isMap (g : Nat) (l : List Nat) : IsMap (fdat g l) := by
  have : ∀ (l : List Nat) (D : DataW Value), IsMap D → IsMap (l.foldl (fun (D : DataW Value) (c : Nat) => D.put (.int .u8 (c : Int)) (.held (cloV g c))) D) := by
    intro l
    induction l with
    | nil => intro D h; exact h
    | cons a l ih => intro D h; exact ih _ (h.put _ _)
  exact this l _ isMap_empty
theorem fdat_at (g : Nat) (z : DataW Value) : ∀ (n : Nat) (l : List Nat) (c : Nat), l.length = n → c ∈ l → (fdat g l).atKey (.int .u8 (c : Int)) z = .held (cloV g c) := by
  intro n
  induction n with
  | zero => intro l c hl h; rw [List.eq_nil_of_length_eq_zero hl] at h; cases h
  | succ n ih =>
    intro l c hl h
    have hne : l ≠ [] := by intro e; rw [e] at hl; cases hl
    have e : l = l.dropLast ++ [l.getLast hne] := (List.dropLast_concat_getLast hne).symm
    rw [e, fdat_snoc]
    by_cases hc : c = l.getLast hne
    · rw [← hc]
      exact atKey_put_same (fdat_isMap _ _) (by trivial) _ _
    · rw [atKey_put_other (by simp; omega)]
      refine ih _ _ (by simp [hl]) ?_
      rw [e] at h
      simp at h
      rcases h with h | h
      · exact h
      · exact absurd h hc
def zfn : Value := .nilFunc
/-- The closures lie here: block b is their map, block g holds the program that they look at. -/
structure FnsAt (base : Nat) (w : World) (b g : Nat) (m : Pm) : Prop where
  map : w.ownsMap Try.prog 5 fnElem b 9 (fdat g fkeys)
  pg : Fresh base 26 w (some ⟨g, 0, none⟩) 4 4 m.cells
theorem FnsAt.below {base : Nat} {w w' : World} {b g : Nat} {m : Pm} (h : FnsAt base w b g m) (x : Below w.heap.size w w') : FnsAt base w' b g m := ⟨own_below h.map x, h.pg.below x⟩
theorem FnsAt.look {base : Nat} {w : World} {b g : Nat} {m : Pm} (h : FnsAt base w b g m) (c : Nat) (hc : c ∈ fkeys) (hlt : c < 256) : (Instr.lookup 113 (.map (some b)) (.int .u8 (c : Int)) false).run Try.prog w = .ok (cloV g c) w := by
  have hz : (zeroValue 119).run Try.prog w = .ok zfn w := by kernel_rfl
  obtain ⟨v, ps, hrun, hv⟩ := h.map.lookup law5 Try.underlying113 hz (zd := .held zfn) (zp := []) rfl (key5 (c : Int) ⟨by omega, by omega⟩)
  rw [fdat_at g _ 9 _ c rfl hc] at hv
  simp only [fnElem, Option.some.injEq, Prod.mk.injEq, DataW.held.injEq] at hv
  rw [hrun, hv.1]

set_option maxHeartbeats 4000000 in
set_option maxRecDepth 100000 in
theorem fields_any (m : Pm) (w : World) :
    Calls Try.prog 73 #[.agg m.cells.toArray] w fun e w' => ∃ b, e = .returned (.map (some b)) ∧ (∃ g, FnsAt w.heap.size w' b g m) ∧ Below w.heap.size w w' := by
  have hmm := @run_makeMap Try.prog
  go_enter Try.func73, Try.ntmps73
  go_wp2_with (first
    | (with_reducible refine wpList_box (o := ⟨some 1, _, _, _, _, _⟩) rfl (.tmp 0) 26 rfl m.cells rfl 4 rfl (by decide) ?_; intro g w1 hg hG hB; have hown := World.ownsMap_made w1 Try.prog 5 fnElem; have hlt0 := hG.lt_size; have hG := hG.below (below_alloc w1 (.map #[] 0)); have hgs := hB.size; have hne : g ≠ w1.heap.size := by have := hlt0; omega
       have hB := hB.alloc hB.size (.map #[] 0))
    | (refine wpList_insert_own _ rfl _ _ _ 113 rfl 5 119 law5 Try.underlying113 fnElem _ _ _ rfl hown ?_ _ _ _ rfl rfl (key5 _ ?_) _ _ rfl ?_
       · unfold maxLen; omega
       · omega
       intro w2 hown hgr; have hG := hG.grown_ hgr hne; have hB := hB.grown hgr hB.size (fun j hj => (Option.some.inj hj) ▸ hgs)))
  go_ret
  exact ⟨_, rfl, ⟨g, ⟨hown, hG⟩⟩, hB⟩
end Go.Proofs.Ytangblcfdboghaa
