/-
  What Read of package code answers, for every input.
-/
import Derived.Test.YtangblcfdboghaaCodeReadReg
namespace Go.Proofs.Ytangblcfdboghaa
open Go.RowKit
set_option linter.unusedVariables false

section
variable {P : Program} {w : World} {ops : Array Oper} {rest : List Oper} {o : Oper} {a : Act} {Q : Exit → Act → World → Prop}
/-- A value of one cell is laid in a new block. -/
theorem wpList_box1 (hg : o.guard = none) (x : Operand) (T : TypeId) (hop : o.op = .box T x) (z : Value) (hx : a.eval x = z) (hc : z.cells = #[z])
    (hK : ∀ g w', w.heap.size ≤ g → Fresh w.heap.size T w' (some ⟨g, 0, none⟩) 1 1 [z] → Below w.heap.size w w' → wpList P ops Q rest (a.put o.dst (.pointer (some ⟨g, 0, none⟩))) w') : wpList P ops Q (o :: rest) a w := by
  refine wpList_plain hg fun K hK' => ?_
  have hrun : (execOp a.eval o).run P w = .ok (.value (.pointer (some ⟨w.heap.size, 0, none⟩))) (w.alloc (.cells #[z] T (0, 0))) := by
    simp only [execOp, hop, hx, Instr.box, newVar, newRow, hc]
    rfl
  unfold Oper.wp
  rw [hrun]
  exact hK' _ _ (hK _ _ (Nat.le_refl _) (Fresh.new w T [z] 1 rfl (by omega)) (below_alloc _ _))
theorem exec_bs1 {T E : TypeId} (x : Operand) (hop : o.op = .buildSlice T 1 #[(0, x)]) (ys : List Value) (hx : a.eval x = .agg ys.toArray) (hrun : ∀ w, (Instr.buildSlice T 1 #[(0, .agg ys.toArray)]).run P w = .ok (.slice (some ⟨w.heap.size, 0, none⟩) 1 1) (w.alloc (.cells ys.toArray E (0, 0)))) :
    (execOp a.eval o).run P w = .ok (.value (.slice (some ⟨w.heap.size, 0, none⟩) 1 1)) (w.alloc (.cells ys.toArray E (0, 0))) := by
  unfold execOp
  simp only [hop, List.map_toArray, List.map_cons, List.map_nil, hx, Sem.run_bind, hrun w, Result.andThen_ok]
  rfl
theorem wpList_bs1 {T : TypeId} (E : TypeId) (hg : o.guard = none) (x : Operand) (hop : o.op = .buildSlice T 1 #[(0, x)]) (ys : List Value) (hx : a.eval x = .agg ys.toArray) (hn : ys.length = 4) (hrun : ∀ w, (Instr.buildSlice T 1 #[(0, .agg ys.toArray)]).run P w = .ok (.slice (some ⟨w.heap.size, 0, none⟩) 1 1) (w.alloc (.cells ys.toArray E (0, 0))))
    (hK : ∀ g w', w.heap.size ≤ g → Fresh w.heap.size E w' (some ⟨g, 0, none⟩) 4 4 ys → Below w.heap.size w w' → wpList P ops Q rest (a.put o.dst (.slice (some ⟨g, 0, none⟩) 1 1)) w') : wpList P ops Q (o :: rest) a w := by
  refine wpList_plain hg fun K hK' => ?_
  unfold Oper.wp
  rw [exec_bs1 x hop ys hx hrun]
  exact hK' _ _ (hK _ _ (Nat.le_refl _) (Fresh.new w E ys 4 hn (by omega)) (below_alloc _ _))
end
theorem zeroCode : ((Try.prog.info? 26).map (·.zero)) = some (some (.agg noCells.toArray)) := by kernel_rfl
theorem zeroInt : ((Try.prog.info? 3).map (·.zero)) = some (some (.int .i64 0)) := by kernel_rfl
theorem zeroBool : ((Try.prog.info? 4).map (·.zero)) = some (some (.bool false)) := by kernel_rfl
theorem zeroFn : ((Try.prog.info? 81).map (·.zero)) = some (some .nilFunc) := by kernel_rfl
theorem sizeInt : ((Try.prog.info? 3).map (·.size)) = some 1 := by kernel_rfl
theorem sizeInt64 : ((Try.prog.info? 2).map (·.size)) = some 1 := by kernel_rfl
theorem sizeBool : ((Try.prog.info? 4).map (·.size)) = some 1 := by kernel_rfl
theorem sizeFn : ((Try.prog.info? 81).map (·.size)) = some 1 := by kernel_rfl
theorem rng_le (t : Nat) {lo hi : Int} (h : rng t = (lo, hi)) : lo ≤ hi := by
  have h0 : (rng t).1 ≤ (rng t).2 := by
    unfold rng
    repeat' split
    all_goals simp
  rw [h] at h0
  exact h0
/-- What the operations that add a block yield. -/
def blkPr (gc gn : Nat) (Ab : Option Addr) (nb cb' x : Nat) (k : Nat) (v : Value) (_ : World) : Prop :=
  match k with
  | 0 => v = .pointer (some ⟨gc, 2, none⟩)
  | 1 => v = .slice Ab nb cb'
  | 2 => v = .func (.func 46) #[] #[.pointer (some ⟨gn, 0, none⟩)]
  | 3 => v = .int .u8 (x : Int)
  | 6 => v = .pointer (some ⟨gc, 2, none⟩)
  | _ => True
/-- What the operations that add an instruction yield. -/
def jnPr (gb ga gt gc gn : Nat) (Ai : Option Addr) (ni ci x1 x2 x3 x4 : Nat) (v : Jn) (k : Nat) (u : Value) (_ : World) : Prop :=
  match k with
  | 0 => u = .pointer (some ⟨gc, 3, none⟩)
  | 1 => u = .slice Ai ni ci
  | 2 => u = .func (.func 46) #[] #[.pointer (some ⟨gn, 0, none⟩)]
  | 3 => u = .int .u8 (x1 : Int)
  | 4 => u = .func (.func 46) #[] #[.pointer (some ⟨gn, 0, none⟩)]
  | 5 => u = .int .u8 (x2 : Int)
  | 6 => u = numV gb ga gt
  | 7 => u = .int .u64 (x3 : Int)
  | 8 => u = .int .i64 (x3 : Int)
  | 9 => u = numV gb ga gt
  | 10 => u = .int .u64 (x4 : Int)
  | 11 => u = .int .i64 (unfF x4)
  | 12 => u = .agg v.cells.toArray
  | 15 => u = .pointer (some ⟨gc, 3, none⟩)
  | _ => True
/-- The calls go one behind the other. -/
def Ord4 (ls : Array Bool) : Prop := (ls.getD 5 false = true → ls.getD 3 false = true) ∧ (ls.getD 7 false = true → ls.getD 5 false = true) ∧ (ls.getD 10 false = true → ls.getD 7 false = true)
theorem ord_other {ls : Array Bool} (h : Ord4 ls) (i : Nat) (h3 : i ≠ 3) (h5 : i ≠ 5) (h7 : i ≠ 7) (h10 : i ≠ 10) : Ord4 (ls.setIfInBounds i true) := by
  unfold Ord4
  rw [setNeR _ _ _ h3, setNeR _ _ _ h5, setNeR _ _ _ h7, setNeR _ _ _ h10]
  exact h
/-- What is read is small enough to lie in memory. -/
theorem rvar_ok (l : List UInt8) (s : Rs) : (rvar l s).1.Ok := by
  have h1 := rname_le l s
  have h2 := rnum_le l 255 (rname l s).2
  have h3 := rnum_le l 255 (rnum l 255 (rname l s).2).2
  simp only [rvar]
  generalize (rnum l 255 (rnum l 255 (rname l s).2).2) = r3 at h3 ⊢
  have h4 := rnum_le l ((rng r3.1).2 - (rng r3.1).1).toNat r3.2
  have h5 := rng_width r3.1
  have h6 := rng_wide r3.1
  exact ⟨by simp only []; unfold maxLen; omega, by simp only []; omega, by simp only []; omega, by simp only []; omega⟩
theorem rjn_ok (l : List UInt8) (s : Rs) : (rjn l s).1.Ok := by
  have h1 := rnum_le l 255 s
  have h2 := rnum_le l 255 (rnum l 255 s).2
  have h3 := rnum_le l 9223372036854775807 (rnum l 255 (rnum l 255 s).2).2
  have h4 := rnum_le l 18446744073709551615 (rnum l 9223372036854775807 (rnum l 255 (rnum l 255 s).2).2).2
  simp only [rjn]
  refine ⟨by simp only []; omega, by simp only []; omega, by simp only []; omega, ?_⟩
  simp only []
  generalize (rnum l 18446744073709551615 (rnum l 9223372036854775807 (rnum l 255 (rnum l 255 s).2).2).2).1 = z at h4
  unfold unfF
  split <;> omega
theorem rlist_all {α : Type} {f : Rs → α × Rs} {Q : α → Prop} (h : ∀ s, Q (f s).1) : ∀ (n : Nat) (s : Rs), ∀ x ∈ (rlist f n s).1, Q x
  | 0, s, x, hx => by simp [rlist] at hx
  | n + 1, s, x, hx => by
    simp only [rlist, List.mem_cons] at hx
    rcases hx with rfl | hx
    · exact h s
    · exact rlist_all h n _ x hx
theorem read_small (l : List UInt8) : (∀ v ∈ (readP l).1.vars, v.Ok) ∧ (∀ j ∈ (readP l).1.ins, j.Ok) ∧ (readP l).1.name.length ≤ maxLen := by
  refine ⟨rlist_all (rvar_ok l) _ _, rlist_all (rjn_ok l) _ _, ?_⟩
  have := rname_le l (0, true)
  simp only [readP]
  unfold maxLen
  omega
theorem cd_one (nm : List UInt8) (Av : Option Addr) (nv cv : Nat) (Ab : Option Addr) (nb cb' : Nat) (Ai : Option Addr) (ni ci : Nat) : ∀ u ∈ [sv nm, .slice Av nv cv, .slice Ab nb cb', .slice Ai ni ci], u.oneCell' = true := by
  intro u hu
  simp at hu
  rcases hu with rfl | rfl | rfl | rfl <;> rfl

/-- What Read answers: the program, if it is one, or none and the mark. -/
def ReadOut (l : List UInt8) (e : Ending) (w' : World) : Prop :=
  if readOk l = true then ∃ m : Pm, m.p = (readP l).1 ∧ e = .returned (.tuple #[.agg m.cells.toArray, .int .i64 0]) ∧ PmAt w'.heap.size w' m else e = .returned (.tuple #[.agg noCells.toArray, .int .i64 130])
theorem ReadOut.no {l : List UInt8} {w' : World} (h : readOk l = false) : ReadOut l (.returned (.tuple #[.agg noCells.toArray, .int .i64 130])) w' := by
  unfold ReadOut
  rw [h]
  rfl
theorem ReadOut.yes {l : List UInt8} {w' : World} (m : Pm) (h : readOk l = true) (hm : m.p = (readP l).1) (hp : PmAt w'.heap.size w' m) : ReadOut l (.returned (.tuple #[.agg m.cells.toArray, .int .i64 0])) w' := by
  unfold ReadOut
  rw [h]
  exact ⟨m, hm, rfl, hp⟩

set_option maxHeartbeats 16000000 in
set_option maxRecDepth 100000 in
theorem Read_any (A : Option Addr) (n c : Nat) (l : List UInt8) (w : World) (hs : Sees w w.heap.size A (cb l)) (hl : l.length = n) (hc : n ≤ c) (hn : n ≤ 1000000) :
    Calls Try.prog 16 #[.slice A n c] w fun e w' => ReadOut l e w' ∧ Below w.heap.size w w' := by
  have HL := Lib.hid hl
  clear hl
  go_enter Try.func16, Try.ntmps16
  go_wp2_with (first
    | (with_reducible refine wpList_box1 (o := ⟨some 1, _, _, _, _, _⟩) rfl (.tmp 0) 27 rfl (.slice A n c) rfl (slice_cells _ _ _) ?_; intro gb w1 hgb hF1 hB1)
    | (with_reducible refine wpList_alloc (o := ⟨some 2, _, _, _, _, _⟩) rfl 26 rfl noCells zeroCode 4 rfl (by decide) ?_; intro gr w2 hgr hF2 hB2)
    | (with_reducible refine wpList_alloc1 (o := ⟨some 4, _, _, _, _, _⟩) rfl 3 rfl (.int .i64 0) rfl zeroInt ?_; intro ga w3 hga hF3 hB3)
    | (with_reducible refine wpList_alloc1 (o := ⟨some 5, _, _, _, _, _⟩) rfl 4 rfl (.bool false) rfl zeroBool ?_; intro gt w4 hgt hF4 hB4; have hB14 := Below.then_ (Below.then_ (Below.then_ hB1 hB2) hB3) hB4)
    | (
        with_reducible refine wpList_store1 rfl rfl (.tmp 4) (.const (.int .i64 0)) 3 rfl ga 0 w2.heap.size 3 1 [.int .i64 0] (.int .i64 0) ?_ ?_ ?_ ?_ sizeInt ?_ ?_ w ?_ ?_ ?_
        · rfl
        · rfl
        · rfl
        · rfl
        · exact hF3.below hB4
        · omega
        · exact hB14
        · exact Nat.le_trans (Nat.le_trans hB1.size hB2.size) hga))
  intro w5 hF5 hB5 hoth5 hz5
  have hgat : ga ≠ gt := Nat.ne_of_lt (Nat.lt_of_lt_of_le hF3.lt_size hgt)
  have hgrt : gr < w2.heap.size := hF2.lt_size
  have hgbt : gb < w1.heap.size := hF1.lt_size
  have hF4' := hF4.other (Ne.symm hgat) hoth5
  go_wp2_with (
      with_reducible refine wpList_store1 rfl rfl (.tmp 5) (.const (.bool true)) 4 rfl gt 0 w3.heap.size 4 1 [.bool false] (.bool true) ?_ ?_ ?_ ?_ sizeBool ?_ ?_ w ?_ ?_ ?_
      · rfl
      · rfl
      · rfl
      · rfl
      · exact hF4'
      · omega
      · exact hB5
      · exact Nat.le_trans (Nat.le_trans (Nat.le_trans hB1.size hB2.size) hB3.size) hgt)
  intro w6 hF6 hB6 hoth6 hz6
  have z1 := hB1.size
  have z2 := hB2.size
  have z3 := hB3.size
  have z4 := hB4.size
  have hR6 : RdAt w.heap.size gb ga gt w6 A n c l (0, true) := by
    have e1 := ((hF1.below hB2).below hB3).below hB4
    refine ⟨((e1.other (by omega) hoth5).other (by omega) hoth6).lower (Nat.le_refl _), (hF5.other hgat hoth6).lower (by omega), hF6.lower (by omega), hs.below hB6, HL.out, hc, hn, Nat.zero_le _, by omega, by omega, hgat, hB6.size⟩
  have hG6 : Fresh w.heap.size 26 w6 (some ⟨gr, 0, none⟩) 4 4 noCells := (((hF2.below hB3).below hB4).other (by omega) hoth5 |>.other (by omega) hoth6).lower (by omega)
  have hS6 := hB6.size
  clear hF1 hF2 hF3 hF4 hF4' hF5 hF6 hB1 hB2 hB3 hB4 hB5 hoth5 hoth6 hz5 hz6 hB14 hgrt hgbt z1 z2 z3 z4 hga hgt hgr hgb
  go_wp2_with (first
    | (with_reducible refine wpList_alloc1 (o := ⟨some 6, _, _, _, _, _⟩) rfl 81 rfl .nilFunc rfl zeroFn ?_; intro gn w7 hgn hF7 hB7)
    | (
        with_reducible refine wpList_store1 rfl rfl (.tmp 6) (.tmp 13) 81 rfl gn 0 w6.heap.size 81 1 [.nilFunc] (numV gb ga gt) ?_ ?_ ?_ ?_ sizeFn ?_ ?_ w ?_ ?_ ?_
        · rfl
        · rfl
        · rfl
        · rfl
        · exact hF7
        · omega
        · exact Below.then_ hB6 hB7
        · exact Nat.le_trans hB6.size hgn))
  intro w8 hF8 hB8 hoth8 hz8
  have hg7 := hB7.size
  have hR8 : RdAt w.heap.size gb ga gt w8 A n c l (0, true) := by
    have h7 := hR6.below hB7
    have b1 := hR6.bytes.lt_size
    have b2 := hR6.at_.lt_size
    have b3 := hR6.there.lt_size
    exact ⟨h7.bytes.other (by omega) hoth8, h7.at_.other (by omega) hoth8, h7.there.other (by omega) hoth8, hs.below hB8, HL.out, hc, hn, Nat.zero_le _, h7.hba, h7.hbt, h7.hat, hB8.size⟩
  have hG8 : Fresh w.heap.size 26 w8 (some ⟨gr, 0, none⟩) 4 4 noCells := (hG6.below hB7).other (by have := hG6.lt_size; omega) hoth8
  have hN8 : Fresh w.heap.size 81 w8 (some ⟨gn, 0, none⟩) 1 1 [numV gb ga gt] := hF8.lower hB6.size
  clear hF7 hB7 hF8 hoth8 hz8 hR6 hG6 hB6 hgn hg7 hS6
  obtain ⟨⟨nm, s1⟩, hnm⟩ : ∃ r, rname l (0, true) = r := ⟨_, rfl⟩
  have SN := name_any w.heap.size gb ga gt w8 A n c l (0, true) hR8
  rw [hnm] at SN
  simp only [] at SN
  have HNM := Lib.hid hnm
  clear hnm
  go_wp2_with (first
    | (go_at_call 47; refine SN.mono ?_; rintro e w9 ⟨rfl, hR9, hU9⟩)
    | (with_reducible refine wpList_alloc (o := ⟨some 9, _, _, _, _, _⟩) rfl 26 rfl noCells zeroCode 4 rfl (by decide) ?_; intro gc w10 hgc hF10 hB10)
    | (
        with_reducible refine wpList_store rfl rfl (.tmp 9) (.tmp 18) 26 rfl gc 0 w9.heap.size 26 4 noCells (cdCells ⟨nm, [], [], []⟩ none 0 none 0 none 0) ?_ ?_ 4 ?_ ?_ ?_ ?_ ?_ w9 ?_ ?_ ?_
        · rfl
        · rfl
        · rfl
        · exact aggCode'
        · exact hF10
        · omega
        · exact cd_one _ _ _ _ _ _ _ _ _ _
        · exact hB10
        · exact hgc))
  intro w11 hF11 hB11 hoth11 hz11
  rw [splice4 (n := 4) rfl rfl] at hF11
  have hB9 := hU9.below hR8.at_.block.2 hR8.there.block.2 hR8.hbase
  have hR11 : RS w.heap.size gb ga gt gn gc gr w11 A n c l s1 ⟨nm, [], [], []⟩ none 0 none 0 none 0 := by
    have K : ∀ e, e ≠ 3 → e ≠ 4 → KeepT e w8 w9 := fun e n1 n2 => KeepT.of_but2 hU9 hR8.at_ hR8.there n1 n2
    have hG9 := hG8.keepT (K _ (by decide) (by decide))
    exact ⟨hR9.below hB11, (hN8.keepT (K _ (by decide) (by decide))).below hB11, hF11.lower hR9.hbase, hG9.below hB11, Nat.ne_of_lt (Nat.lt_of_lt_of_le hG9.lt_size hgc), OwnQ.nil, ⟨rfl, .inl ⟨rfl, rfl⟩⟩, OwnQ.nil⟩
  have hBw11 : Below w.heap.size w w11 := (hB8.trans hB9).trans (hB11.mono hR9.hbase)
  clear hF10 hF11 hB10 hB11 hoth11 hz11 hR9 hU9 hgc hB9 SN hR8 hG8 hN8 hB8 hgat
  obtain ⟨⟨nv, s2⟩, hnv⟩ : ∃ r, rnum l 200 s1 = r := ⟨_, rfl⟩
  have S1 := hR11.number 200 (by omega)
  have hnvle := rnum_le l 200 s1
  rw [hnv] at S1 hnvle
  simp only [] at S1 hnvle
  have HNV := Lib.hid hnv
  clear hnv
  have cN := hR11.nu.cell_ (k := 0) rfl
  go_wp2_with (go_at_call 44; refine S1.mono ?_; rintro e w12 ⟨rfl, hR12, hB12, hU12⟩)
  have hBw12 := hBw11.trans hB12
  clear S1 cN hR11 hB12 hU12 hBw11
  go_loopw [10, 11, 12, 21] (fun s10 s11 s12 i wr => ∃ k : Nat, k ≤ nv ∧ i = .int .u64 k ∧ (∃ Av cv, RS w.heap.size gb ga gt gn gc gr wr A n c l (rlist (rvar l) k s2).2 ⟨nm, (rlist (rvar l) k s2).1, [], []⟩ Av cv none 0 none 0) ∧ Below w.heap.size w wr) (fun _ _ _ i _ => nv - (intOf i).toNat)
  case atStart => exact ⟨0, by omega, rfl, ⟨none, 0, hR12⟩, hBw12⟩
  case round =>
    obtain ⟨k, hk, rfl, ⟨Av, cv, hR⟩, hBr⟩ := hrel
    clear hR12 hBw12
    by_cases hlt : k < nv
    · as_aux_lemma =>
        obtain ⟨⟨V, s⟩, hV⟩ : ∃ r, rlist (rvar l) k s2 = r := ⟨_, rfl⟩
        have hVl : V.length = k := by
          have := rlist_len (rvar l) k s2
          rwa [hV] at this
        rw [hV] at hR
        simp only [] at hR
        obtain ⟨⟨x1, t1⟩, e1⟩ : ∃ r, rname l s = r := ⟨_, rfl⟩
        obtain ⟨⟨x2, t2⟩, e2⟩ : ∃ r, rnum l 255 t1 = r := ⟨_, rfl⟩
        obtain ⟨⟨x3, t3⟩, e3⟩ : ∃ r, rnum l 255 t2 = r := ⟨_, rfl⟩
        obtain ⟨⟨lo, hi⟩, er⟩ : ∃ r, rng x3 = r := ⟨_, rfl⟩
        have hw1 := rng_width x3
        have hw2 := rng_wide x3
        rw [er] at hw1 hw2
        simp only [] at hw1 hw2
        obtain ⟨d, hd⟩ : ∃ d : Nat, (hi - lo).toNat = d := ⟨_, rfl⟩
        obtain ⟨⟨x4, t4⟩, e4⟩ : ∃ r, rnum l d t3 = r := ⟨_, rfl⟩
        have l2 := rnum_le l 255 t1
        have l3 := rnum_le l 255 t2
        have l4 := rnum_le l d t3
        rw [e2] at l2
        rw [e3] at l3
        rw [e4] at l4
        simp only [] at l2 l3 l4
        have hlh : lo ≤ hi := rng_le x3 er
        have hd2 : hi - lo = (d : Int) := by omega
        have hd3 : d < 4294967296 := by omega
        obtain ⟨v, hv⟩ : ∃ v : Vr, v = ⟨x1, x2, x3, lo + (x4 : Int)⟩ := ⟨_, rfl⟩
        have evar : rvar l s = (v, t4) := by
          simp only [rvar, e1, e2, e3, er]
          rw [hd, e4, hv]
        have SRg : ∀ wq, Calls Try.prog 18 #[.int .u8 (x3 : Int)] wq fun e w' => e = .returned (.tuple #[.int .i64 lo, .int .i64 hi]) ∧ wq = w' := fun wq => by
          have := Range_any x3 wq
          rwa [er] at this
        have hq0 : ∀ q, (Value.slice Av V.length cv).ownBlock = some q → True := fun _ _ => trivial
        have HD2 := Lib.hid hd2
        have HV := Lib.hid hV
        have HVL := Lib.hid hVl
        have HEV := Lib.hid evar
        have HVV := Lib.hid hv
        have HW := Lib.hid hw2
        clear hd hd2 hV hVl evar hv er hq0 hw1 hw2
        have hlo1 : -2147483648 ≤ lo := by have := HW.out; omega
        have hlo2 : lo ≤ 0 := by have := HW.out; omega
        go_wp2_with (first
          | (go_at_call 47; refine (RS.name hR).mono ?_; rw [e1]; simp only []; rintro e w13 ⟨rfl, hR, hB13, hU13⟩; have hBr := hBr.trans hB13)
          | (go_at_call 46; refine (RS.small hR).mono ?_; rw [e2]; simp only []; rintro e w14 ⟨rfl, hR, hB14, hU14⟩; have hBr := hBr.trans hB14)
          | (go_at_call 46; refine (RS.small hR).mono ?_; rw [e3]; simp only []; rintro e w15 ⟨rfl, hR, hB15, hU15⟩; have hBr := hBr.trans hB15)
          | (with_reducible refine wpList_alloc (o := ⟨some 10, _, _, _, _, _⟩) rfl 56 rfl (Vr.cells default) zeroVar 4 (vr4 _) (by decide) ?_; intro g10 w16 hg10 hF16 hB16)
          | (
              with_reducible refine wpList_store rfl rfl (.tmp 10) (.tmp 29) 56 rfl g10 0 w15.heap.size 56 4 (Vr.cells default) (Vr.cells ⟨x1, x2, x3, 0⟩) ?_ ?_ 4 ?_ ?_ ?_ ?_ ?_ w15 ?_ ?_ ?_
              · rfl
              · rfl
              · rfl
              · exact aggVar
              · exact hF16
              · omega
              · exact vr_one _
              · exact hB16
              · exact hg10))
        intro w17 hF17 hB17 hoth17 hz17
        rw [splice4 (n := 4) rfl rfl] at hF17
        have hav : ∀ q, (Value.slice Av V.length cv).ownBlock = some q → q ≠ g10 := fun q hq => by
          obtain ⟨_, ys, fz, hy⟩ := hR.vs.block q hq
          have := (Array.getElem?_eq_some_iff.1 hy).1
          omega
        have hbg10 : w.heap.size ≤ g10 := Nat.le_trans hR.rd.hbase hg10
        have hR17 := hR.below hB17
        have hBr17 := hBr.trans (hB17.mono hR.rd.hbase)
        have f2 := hF17.cell_ (k := 2) rfl
        have cN17 := hR17.nu.cell_ (k := 0) rfl
        have hd1 : 0 ≤ hi - lo := by have := HD2.out; omega
        have hd4 : hi - lo < 4294967296 := by have := HD2.out; omega
        clear hF16 hB16 hoth17 hz17 hR hBr hB13 hU13 hB14 hU14 hB15 hU15
        go_wp2_with (first
          | (go_at_call 18; refine (SRg _).mono ?_; rintro e w' ⟨rfl, rfl⟩)
          | (go_at_call 44; rw [HD2.out]; refine (RS.number hR17 d (by omega)).mono ?_; rw [e4]; simp only []; rintro e w18 ⟨rfl, hR18, hB18, hU18⟩; have hF18 := hF17.keepT (KeepT.of_but2 hU18 hR17.rd.at_ hR17.rd.there (by decide) (by decide)))
          | (
              with_reducible refine wpList_store1 rfl rfl (.tmp 45) (.tmp 44) 2 rfl g10 3 w15.heap.size 56 4 (Vr.cells ⟨x1, x2, x3, 0⟩) (.int .i64 (lo + (x4 : Int))) ?_ ?_ ?_ ?_ sizeInt64 ?_ ?_ w ?_ ?_ ?_
              · rfl
              · rfl
              · rfl
              · rfl
              · exact hF18
              · omega
              · exact hBr17.trans hB18
              · exact hbg10))
        intro w19 hF19 hB19 hoth19 hz19
        have hF19 : Fresh w15.heap.size 56 w19 (some ⟨g10, 0, none⟩) 4 4 v.cells := by
          rw [HVV.out]
          exact hF19
        have hR19 := hR18.aside hF18.block.1 hoth19 hav hB19 (hBr17.trans hB18) hbg10 hz19
        have hBr19 : Below w.heap.size w w19 := hB19
        have hbs : ∀ wq, (Instr.buildSlice 22 1 #[(0, .agg v.cells.toArray)]).run Try.prog wq = .ok (.slice (some ⟨wq.heap.size, 0, none⟩) 1 1) (wq.alloc (.cells v.cells.toArray 56 (0, 0))) := fun wq => run_bs1V _ _ _ _ wq
        have c1 := hR19.cd.cell_ (k := 1) rfl
        have hS19 := hF19.sees
        clear hR17 hR18 hB18 hU18 hF17 hF18 hB17 hoth19 hz19 cN17 f2 SRg hBr17
        go_wp2_with (first
          | (with_reducible refine wpList_load rfl (.tmp 10) 56 rfl g10 0 _ rfl v.cells 4 (vr4 v) aggVar hS19 ?_)
          | (
              with_reducible refine wpList_bs1 (T := 22) 56 rfl (.tmp 48) rfl v.cells ?_ ?_ ?_ ?_
              · rfl
              · exact vr4 v
              · exact hbs
              intro g20 w20 hg20 hF20 hB20)
          | (
              with_reducible refine wpList_appQ (f := Vr.cells) vr4 vr_one rfl (.tmp 47) (.tmp 49) 22 56 _ 32 rfl ?_ infoVar ?_ ?_ w.heap.size Av V.length cv V v g20 ?_ ?_ ?_ ?_ ?_ ?_ ?_
              · exact Try.underlying22
              · rfl
              · omega
              · rfl
              · rfl
              · exact (hR19.below hB20).vs
              · intro j u hu
                exact hF20.cell_ hu
              · have := HVL.out
                omega
              · exact Nat.le_trans hR19.rd.hbase hB20.size))
        intro A' c' w21 hA21 hg21
        have hR20 := hR19.below hB20
        have hcd := hR20.cd.keepT (KeepT.of_grown hg21 (fun q hq => by
          obtain ⟨_, ys, fz, hy⟩ := hR20.vs.block q hq
          exact ⟨ys, _, fz, hy, by decide⟩))
        have c1 := hcd.cell_ (k := 1) rfl
        have f1 := hcd.frozenAt (j := 1)
        have hfin := hR20.addVar hA21 hg21 rfl
        have hBr20 := hBr19.trans (hB20.mono hR19.rd.hbase)
        clear hF19 hB19 hbs hS19 hF20 hcd
        go_wp2_with fail
        go_roundw
        case rel =>
          refine ⟨k + 1, by omega, by go_num, ⟨A', c', ?_⟩, hBr20.trans hfin.2⟩
          have e5 : rlist (rvar l) (k + 1) s2 = (V ++ [v], t4) := by rw [rlist_snoc, HV.out]; simp only []; rw [HEV.out]
          rw [e5]
          exact hfin.1
        case measure => simp [intOf]; omega
    · as_aux_lemma =>
        have hkn : k = nv := by omega
        subst hkn
        obtain ⟨⟨V, s3⟩, hV⟩ : ∃ r, rlist (rvar l) k s2 = r := ⟨_, rfl⟩
        rw [hV] at hR
        simp only [] at hR
        have HV := Lib.hid hV
        obtain ⟨⟨nb, s4⟩, hnb⟩ : ∃ r, rnum l 100 s3 = r := ⟨_, rfl⟩
        have S1 := hR.number 100 (by omega)
        have hnble := rnum_le l 100 s3
        rw [hnb] at S1 hnble
        simp only [] at S1 hnble
        have HNB := Lib.hid hnb
        clear hnb hV
        have cN := hR.nu.cell_ (k := 0) rfl
        go_wp2_with (go_at_call 44; refine S1.mono ?_; rintro e w13 ⟨rfl, hR13, hB13, hU13⟩)
        have hBw13 := hBr.trans hB13
        clear S1 cN hR hB13 hU13 hBr
        go_loopw [55] (fun i wq => ∃ k2 : Nat, k2 ≤ nb ∧ i = .int .u64 k2 ∧ (∃ Ab cb', RS w.heap.size gb ga gt gn gc gr wq A n c l (rlist (rblk l) k2 s4).2 ⟨nm, V, (rlist (rblk l) k2 s4).1, []⟩ Av cv Ab cb' none 0) ∧ Below w.heap.size w wq) (fun i _ => nb - (intOf i).toNat)
        case atStart => exact ⟨0, by omega, rfl, ⟨none, 0, hR13⟩, hBw13⟩
        case round =>
          obtain ⟨k2, hk2, rfl, ⟨Ab, cb', hR⟩, hBr⟩ := hrel
          clear hR13 hBw13
          by_cases hlt2 : k2 < nb
          · as_aux_lemma =>
              obtain ⟨⟨Bk, s⟩, hBk⟩ : ∃ r, rlist (rblk l) k2 s4 = r := ⟨_, rfl⟩
              have hBl : Bk.length = k2 := by
                have := rlist_len (rblk l) k2 s4
                rwa [hBk] at this
              rw [hBk] at hR
              simp only [] at hR
              obtain ⟨⟨x, s5⟩, e1⟩ : ∃ r, rnum l 255 s = r := ⟨_, rfl⟩
              have l1 := rnum_le l 255 s
              rw [e1] at l1
              simp only [] at l1
              have hxt : (UInt8.ofNat x).toNat = x := ofNat_toNat _ (by omega)
              have HBK := Lib.hid hBk
              have HBL := Lib.hid hBl
              have HE1 := Lib.hid e1
              have HXT := Lib.hid hxt
              clear hBk hBl e1 hxt
              obtain ⟨C, hC⟩ : ∃ C : RegC, C = ⟨w.heap.size, gb, ga, gt, gn, gc, gr, wr, A, n, c, l, 29, 1, Ab, Bk.length, cb', cb Bk, [.int .u8 (x : Int)], cdCells ⟨nm, V, Bk, []⟩ Av cv Ab cb' none 0, 2, 4, 61, 5, 62, 7, fun wz => OwnQ 56 Vr.cells w.heap.size wz Av V.length cv V ∧ OwnQ 53 Jn.cells w.heap.size wz none 0 0 []⟩ := ⟨_, rfl⟩
              have F : C.Fit := by
                rw [hC]
                exact ⟨by simp only []; decide, fun w1 w2 K h => ⟨h.1.keepT (K _ (by simp only []; decide) (by decide) (by decide) (by decide)), h.2.keepT (K _ (by simp only []; decide) (by decide) (by decide) (by decide))⟩, hR.hne, by simp only []; decide, by simp only []; decide, by simp only []; decide, by simp only []; decide⟩
              have k1 : C.iB = 4 := by rw [hC]
              have k2 : C.iA = 5 := by rw [hC]
              have k3 : C.iS = 7 := by rw [hC]
              have k4 : C.sB = 61 := by rw [hC]
              have k5 : C.sA = 62 := by rw [hC]
              have hd0 : Below wr.heap.size wr { wr with drawn := wr.drawn + 1 } := ⟨rfl, rfl, rfl, Nat.le_refl _, fun _ _ => rfl⟩
              have hnl : C.nD ≤ 1000000 := by
                rw [hC]
                have := HBL.out
                simp only []
                omega
              have E3 : C.news.length = C.sz := by rw [hC]; rfl
              have hbs : ∀ wq, (Instr.buildSlice 23 1 #[(0, .int .u8 (x : Int))]).run Try.prog wq = .ok (.slice (some ⟨wq.heap.size, 0, none⟩) 1 1) (wq.alloc (.cells #[.int .u8 (x : Int)] 29 (0, 0))) := fun wq => by kernel_rfl
              go_wp2_with fail
              refine region_L (blkPr gc gn Ab Bk.length cb' x) (RegJ C (fun ls => cond (ls.getD 3 false) s5 s)) (by kernel_rfl) (by kernel_rfl) ?_ ?_ ?_
              · have h := hR.below hd0
                rw [hC]
                exact ⟨h.rd, h.nu, h.res, ⟨h.vs, h.js⟩, hd0.mono hR.rd.hbase, fun q => by simp at q, fun q => by simp at q, fun q => by simp at q, fun _ => ⟨h.bs, h.cd, fun q => by simp at q⟩, fun q => by simp at q⟩
              · refine ⟨?_, ?_, ?_, ?_, ?_, ?_, ?_, ?_, trivial⟩
                all_goals intro listed a1 wz hk h1 hd
                · have f1 : a1.eval (.tmp 9) = .pointer (some ⟨gc, 0, none⟩) := hk.ev_old 9 (by kernel_rfl)
                  have g1 : a1.tmps[9]?.getD undef = .pointer (some ⟨gc, 0, none⟩) := by simpa [Act.eval] using f1
                  exact stepL_value rfl (v := .pointer (some ⟨gc, 2, none⟩)) (by go_simp) rfl (hk.inv.read F 0 57 _ (by omega) (by omega) (by omega) (by omega) (by omega) (by simp only [setNeR _ 0 3 (by decide)]))
                · obtain ⟨v0, e0, q0, rfl, _⟩ := hk.ev_new hd 0 57 (by kernel_rfl) rfl
                  have hcd := hk.inv.before F h1
                  rw [hC] at hcd
                  have c1 := hcd.cell_ (k := 2) rfl
                  exact stepL_value rfl (v := .slice Ab Bk.length cb') (by go_simp) rfl (hk.inv.read F 1 58 _ (by omega) (by omega) (by omega) (by omega) (by omega) (by simp only [setNeR _ 1 3 (by decide)]))
                · have f1 : a1.eval (.tmp 7) = .func (.func 46) #[] #[.pointer (some ⟨gn, 0, none⟩)] := hk.ev_old 7 (by kernel_rfl)
                  have g1 : a1.tmps[7]?.getD undef = .func (.func 46) #[] #[.pointer (some ⟨gn, 0, none⟩)] := by simpa [Act.eval] using f1
                  exact stepL_value rfl (v := .func (.func 46) #[] #[.pointer (some ⟨gn, 0, none⟩)]) (by go_simp) rfl (hk.inv.read F 2 59 _ (by omega) (by omega) (by omega) (by omega) (by omega) (by simp only [setNeR _ 2 3 (by decide)]))
                · obtain ⟨v2, e2, q2, rfl, _⟩ := hk.ev_new hd 2 59 (by kernel_rfl) rfl
                  obtain ⟨r1, r2, _⟩ := hk.inv
                  simp only [falseR h1, cond_false] at r1
                  rw [hC] at r1 r2
                  refine stepL_enter rfl (f := 46) (args := #[.pointer (some ⟨gn, 0, none⟩)]) (by go_simp) ?_
                  refine (small_any w.heap.size gb ga gt gn w.heap.size wz A n c l s r1 r2).mono ?_
                  rw [HE1.out]
                  simp only []
                  rintro e w5 ⟨rfl, hr5, hu5⟩
                  refine ⟨_, rfl, rfl, hk.inv.turn F 3 60 _ (by omega) (by omega) (by omega) (by omega) (by omega) (by rw [hC]; exact hu5) ?_, fun _ _ h => h⟩
                  simp only [setEqR h1]
                  rw [hC]
                  exact hr5
                · obtain ⟨v3, e3, q3, rfl, _⟩ := hk.ev_new hd 3 60 (by kernel_rfl) rfl
                  have hsz : C.sB < a1.tmps.size := by rw [hk.size, k4]; simp
                  have hb := hk.inv.built F (by rw [hC]; exact h1) hsz E3 (by rw [hC]; simp only [setNeR _ 4 3 (by decide)]) (by omega)
                  rw [hC] at hb
                  rw [hC]
                  exact stepL_run rfl (v := .slice (some ⟨wz.heap.size, 0, none⟩) 1 1) (w' := wz.alloc (.cells #[.int .u8 (x : Int)] 29 (0, 0))) (by go_simp) trivial hb (fun _ _ h => h)
                · obtain ⟨v1, e1, q1, rfl, _⟩ := hk.ev_new hd 1 58 (by kernel_rfl) rfl
                  obtain ⟨v4, e4, q4, _, l4⟩ := hk.ev_new hd 4 61 (by kernel_rfl) rfl
                  have hJ := hk.inv
                  obtain ⟨r1, _, _, _, _, _, _, _, j6, _⟩ := hk.inv
                  have l5 := falseR h1
                  rw [hC] at j6 r1
                  obtain ⟨m1, m2, m3⟩ := j6 l5
                  obtain ⟨g, g1, g2, g3⟩ := m3 l4
                  have hx4 : a1.eval (.tmp 61) = .slice (some ⟨g, 0, none⟩) 1 1 := by
                    simp only [Act.eval, Array.getD_eq_getD_getElem?]
                    rw [g1]
                    rfl
                  have hsz : C.sA < a1.tmps.size := by rw [hk.size, k5]; simp
                  refine stepL_app (ops := #[]) rfl (.tmp 58) (.tmp 61) 23 29 (.int .u8 0) 1 1 rfl Try.underlying23 infoKind rfl (by omega) (by omega) w.heap.size Ab Bk.length cb' g (cb Bk) [.int .u8 (x : Int)] e1 hx4 m1 ?_ rfl (by simp [Value.oneCell']) (by rw [hC] at hnl; exact hnl) r1.hbase (fun _ _ => trivial) (fun _ _ _ h => h) ?_
                  · intro j u hu
                    rw [cell_of_row wz g j _ _ _ g2]
                    simpa using hu
                  · intro A' c' w5 hown hgr
                    have hb := hJ.added F (by rw [hC]; exact h1) (by rw [hC]; exact l4) hsz (by rw [hC]; simp only [setNeR _ 5 3 (by decide)]) (w' := w5) (A' := A') (c' := c') (by rw [hC]; exact hown) (by rw [hC]; exact hgr)
                    rw [hC] at hb ⊢
                    exact hb
                · have f1 : a1.eval (.tmp 9) = .pointer (some ⟨gc, 0, none⟩) := hk.ev_old 9 (by kernel_rfl)
                  have g1 : a1.tmps[9]?.getD undef = .pointer (some ⟨gc, 0, none⟩) := by simpa [Act.eval] using f1
                  exact stepL_value rfl (v := .pointer (some ⟨gc, 2, none⟩)) (by go_simp) rfl (hk.inv.read F 6 63 _ (by omega) (by omega) (by omega) (by omega) (by omega) (by simp only [setNeR _ 6 3 (by decide)]))
                · obtain ⟨v6, e6, q6, rfl, _⟩ := hk.ev_new hd 6 63 (by kernel_rfl) rfl
                  obtain ⟨v5, e5, q5, _, l5⟩ := hk.ev_new hd 5 62 (by kernel_rfl) rfl
                  have hJ := hk.inv
                  obtain ⟨r1, _, _, _, _, _, _, _, _, j7⟩ := hk.inv
                  have l7 := falseR h1
                  rw [hC] at j7
                  obtain ⟨A', c', m1, m2, m3⟩ := j7 l5
                  simp only [l7, cond_false] at m3
                  have c1 := m3.cell_ (k := 2) rfl
                  have f1 := m3.frozenAt (j := 2)
                  have hx5 : a1.eval (.tmp 62) = .slice A' (Bk.length + 1) c' := by
                    simp only [Act.eval, Array.getD_eq_getD_getElem?]
                    rw [m1]
                    rfl
                  have g5 : a1.tmps[62]?.getD undef = .slice A' (Bk.length + 1) c' := by rw [m1]; rfl
                  obtain rfl : v5 = .slice A' (Bk.length + 1) c' := e5.symm.trans hx5
                  have l1 : listed.getD 1 false = true := hd { on := 1, ground := .phase } (by simp) rfl
                  have hb := hJ.stored F (by rw [hC]; exact h1) (by rw [hC]; exact l5) l1 (by rw [hC]; simp only [setNeR _ 7 3 (by decide)]) (A' := A') (c' := c') (by rw [hC]; exact m1)
                  rw [hC] at hb ⊢
                  exact stepL_skip rfl rfl (w' := wz.setCell ⟨gc, 2, none⟩ (.slice A' (Bk.length + 1) c')) (by go_simp) trivial hb (fun _ _ h => h)
              · intro listed a1 w6 hJ hall hp
                obtain ⟨r1, r2, r3, r4, r5, _, _, _, _, j7⟩ := hJ
                have l3 : listed.getD 3 false = true := hall 3 (by decide)
                have l5 : listed.getD 5 false = true := hall 5 (by decide)
                have l7 : listed.getD 7 false = true := hall 7 (by decide)
                simp only [l3, cond_true] at r1
                rw [hC] at r1 r2 r3 r4 r5 j7
                obtain ⟨A', c', m1, m2, m3⟩ := j7 l5
                simp only [l7, cond_true] at m3
                have ex : [Value.int .u8 (x : Int)] = cb [UInt8.ofNat x] := by simp [cb, HXT.out]
                have hfin : RS w.heap.size gb ga gt gn gc gr w6 A n c l s5 ⟨nm, V, Bk ++ [UInt8.ofNat x], []⟩ Av cv A' c' none 0 := by
                  refine ⟨r1, r2, ?_, r3, hR.hne, r4.1, ?_, r4.2⟩
                  · simpa [cdCells] using m3
                  · have e9 : cb (Bk ++ [UInt8.ofNat x]) = cb Bk ++ [.int .u8 (x : Int)] := by rw [ex]; simp [cb]
                    show Fresh w.heap.size 29 w6 A' (Bk ++ [UInt8.ofNat x]).length c' (cb (Bk ++ [UInt8.ofNat x]))
                    rw [e9, List.length_append]
                    exact m2
                have hBr6 : Below w.heap.size w w6 := hBr.trans r5
                obtain ⟨v0, p0, v1, p1, v2, p2, v3, p3, v4, p4, v5, p5, v6, p6, rfl⟩ := hp
                simp only [Act.put, List.setIfInBounds_toArray, List.set_cons_succ, List.set_cons_zero]
                clear hall r1 r2 r3 r4 r5 j7 m1 m2 m3 hC F hnl E3 hbs hd0 hR k1 k2 k3 k4 k5
                go_wp2_with fail
                go_roundw
                case rel =>
                  refine ⟨k2 + 1, by omega, by go_num, ⟨A', c', ?_⟩, hBr6⟩
                  have e5 : rlist (rblk l) (k2 + 1) s4 = (Bk ++ [UInt8.ofNat x], s5) := by rw [rlist_snoc, HBK.out]; simp only [rblk]; rw [HE1.out]
                  rw [e5]
                  exact hfin
                case measure => simp [intOf]; omega
          · as_aux_lemma =>
              have hkn : k2 = nb := by omega
              subst hkn
              obtain ⟨⟨Bk, s4e⟩, hBk⟩ : ∃ r, rlist (rblk l) k2 s4 = r := ⟨_, rfl⟩
              rw [hBk] at hR
              simp only [] at hR
              have HBK := Lib.hid hBk
              obtain ⟨⟨ni, sj⟩, hni⟩ : ∃ r, rnum l 2000 s4e = r := ⟨_, rfl⟩
              have S1 := hR.number 2000 (by omega)
              have hnile := rnum_le l 2000 s4e
              rw [hni] at S1 hnile
              simp only [] at S1 hnile
              have HNI := Lib.hid hni
              clear hni hBk
              have cN := hR.nu.cell_ (k := 0) rfl
              go_wp2_with (go_at_call 44; refine S1.mono ?_; rintro e w13 ⟨rfl, hR13, hB13, hU13⟩)
              have hBw13 := hBr.trans hB13
              clear S1 cN hR hB13 hU13 hBr
              go_loopw [67] (fun i wq => ∃ k3 : Nat, k3 ≤ ni ∧ i = .int .u64 k3 ∧ (∃ Ai ci, RS w.heap.size gb ga gt gn gc gr wq A n c l (rlist (rjn l) k3 sj).2 ⟨nm, V, Bk, (rlist (rjn l) k3 sj).1⟩ Av cv Ab cb' Ai ci) ∧ Below w.heap.size w wq) (fun i _ => ni - (intOf i).toNat)
              case atStart => exact ⟨0, by omega, rfl, ⟨none, 0, hR13⟩, hBw13⟩
              case round =>
                obtain ⟨k3, hk3, rfl, ⟨Ai, ci, hR⟩, hBr⟩ := hrel
                clear hR13 hBw13
                by_cases hlt3 : k3 < ni
                · as_aux_lemma =>
                    obtain ⟨⟨Js, s⟩, hJs⟩ : ∃ r, rlist (rjn l) k3 sj = r := ⟨_, rfl⟩
                    have hJl : Js.length = k3 := by
                      have := rlist_len (rjn l) k3 sj
                      rwa [hJs] at this
                    rw [hJs] at hR
                    simp only [] at hR
                    obtain ⟨⟨x1, s5⟩, e1⟩ : ∃ r, rnum l 255 s = r := ⟨_, rfl⟩
                    obtain ⟨⟨x2, s6⟩, e2⟩ : ∃ r, rnum l 255 s5 = r := ⟨_, rfl⟩
                    obtain ⟨⟨x3, s7⟩, e3⟩ : ∃ r, rnum l 9223372036854775807 s6 = r := ⟨_, rfl⟩
                    obtain ⟨⟨x4, s8⟩, e4⟩ : ∃ r, rnum l 18446744073709551615 s7 = r := ⟨_, rfl⟩
                    have l3 := rnum_le l 9223372036854775807 s6
                    have l4 := rnum_le l 18446744073709551615 s7
                    rw [e3] at l3
                    rw [e4] at l4
                    simp only [] at l3 l4
                    obtain ⟨v, hvv⟩ : ∃ v : Jn, v = ⟨x1, x2, (x3 : Int), unfF x4⟩ := ⟨_, rfl⟩
                    have HJS := Lib.hid hJs
                    have HJL := Lib.hid hJl
                    have HE1 := Lib.hid e1
                    have HE2 := Lib.hid e2
                    have HE3 := Lib.hid e3
                    have HE4 := Lib.hid e4
                    clear hJs hJl e1 e2 e3 e4
                    obtain ⟨C, hC⟩ : ∃ C : RegC, C = ⟨w.heap.size, gb, ga, gt, gn, gc, gr, wr, A, n, c, l, 53, 4, Ai, Js.length, ci, jcs Js, v.cells, cdCells ⟨nm, V, Bk, Js⟩ Av cv Ab cb' Ai ci, 3, 13, 82, 14, 83, 16, fun wz => OwnQ 56 Vr.cells w.heap.size wz Av V.length cv V ∧ Fresh w.heap.size 29 wz Ab Bk.length cb' (cb Bk)⟩ := ⟨_, rfl⟩
                    have F : C.Fit := by
                      rw [hC]
                      exact ⟨by simp only []; decide, fun w1 w2 K h => ⟨h.1.keepT (K _ (by simp only []; decide) (by decide) (by decide) (by decide)), h.2.keepT (K _ (by simp only []; decide) (by decide) (by decide) (by decide))⟩, hR.hne, by simp only []; decide, by simp only []; decide, by simp only []; decide, by simp only []; decide⟩
                    have k1 : C.iB = 13 := by rw [hC]
                    have k2 : C.iA = 14 := by rw [hC]
                    have k3 : C.iS = 16 := by rw [hC]
                    have k4 : C.sB = 82 := by rw [hC]
                    have k5 : C.sA = 83 := by rw [hC]
                    have hd0 : Below wr.heap.size wr { wr with drawn := wr.drawn + 1 } := ⟨rfl, rfl, rfl, Nat.le_refl _, fun _ _ => rfl⟩
                    have hnl : C.nD ≤ 1000000 := by
                      rw [hC]
                      have := HJL.out
                      simp only []
                      omega
                    have E3 : C.news.length = C.sz := by rw [hC]; rfl
                    have hbs : ∀ wq, (Instr.buildSlice 24 1 #[(0, .agg v.cells.toArray)]).run Try.prog wq = .ok (.slice (some ⟨wq.heap.size, 0, none⟩) 1 1) (wq.alloc (.cells v.cells.toArray 53 (0, 0))) := fun wq => run_bs1I _ _ _ _ wq
                    go_wp2_with fail
                    refine region_L (jnPr gb ga gt gc gn Ai Js.length ci x1 x2 x3 x4 v) (fun ls a w => RegJ C (fun ls => cond (ls.getD 10 false) s8 (cond (ls.getD 7 false) s7 (cond (ls.getD 5 false) s6 (cond (ls.getD 3 false) s5 s)))) ls a w ∧ Ord4 ls) (by kernel_rfl) (by kernel_rfl) ?_ ?_ ?_
                    · have h := hR.below hd0
                      rw [hC]
                      exact ⟨⟨h.rd, h.nu, h.res, ⟨h.vs, h.bs⟩, hd0.mono hR.rd.hbase, fun q => by simp at q, fun q => by simp at q, fun q => by simp at q, fun _ => ⟨h.js, h.cd, fun q => by simp at q⟩, fun q => by simp at q⟩, fun q => by simp at q, fun q => by simp at q, fun q => by simp at q⟩
                    · refine ⟨?_, ?_, ?_, ?_, ?_, ?_, ?_, ?_, ?_, ?_, ?_, ?_, ?_, ?_, ?_, ?_, ?_, trivial⟩
                      all_goals intro listed a1 wz hk h1 hd
                      · have f1 : a1.eval (.tmp 9) = .pointer (some ⟨gc, 0, none⟩) := hk.ev_old 9 (by kernel_rfl)
                        have g1 : a1.tmps[9]?.getD undef = .pointer (some ⟨gc, 0, none⟩) := by simpa [Act.eval] using f1
                        exact stepL_value rfl (v := .pointer (some ⟨gc, 3, none⟩)) (by go_simp) rfl ⟨hk.inv.1.read F 0 69 _ (by omega) (by omega) (by omega) (by omega) (by omega) (by simp only [setNeR _ 0 3 (by decide), setNeR _ 0 5 (by decide), setNeR _ 0 7 (by decide), setNeR _ 0 10 (by decide)]), (ord_other hk.inv.2 0 (by decide) (by decide) (by decide) (by decide))⟩
                      · obtain ⟨v0, e0, q0, rfl, _⟩ := hk.ev_new hd 0 69 (by kernel_rfl) rfl
                        have hcd := hk.inv.1.before F h1
                        rw [hC] at hcd
                        have c1 := hcd.cell_ (k := 3) rfl
                        exact stepL_value rfl (v := .slice Ai Js.length ci) (by go_simp) rfl ⟨hk.inv.1.read F 1 70 _ (by omega) (by omega) (by omega) (by omega) (by omega) (by simp only [setNeR _ 1 3 (by decide), setNeR _ 1 5 (by decide), setNeR _ 1 7 (by decide), setNeR _ 1 10 (by decide)]), (ord_other hk.inv.2 1 (by decide) (by decide) (by decide) (by decide))⟩
                      · have f1 : a1.eval (.tmp 7) = .func (.func 46) #[] #[.pointer (some ⟨gn, 0, none⟩)] := hk.ev_old 7 (by kernel_rfl)
                        have g1 : a1.tmps[7]?.getD undef = .func (.func 46) #[] #[.pointer (some ⟨gn, 0, none⟩)] := by simpa [Act.eval] using f1
                        exact stepL_value rfl (v := .func (.func 46) #[] #[.pointer (some ⟨gn, 0, none⟩)]) (by go_simp) rfl ⟨hk.inv.1.read F 2 71 _ (by omega) (by omega) (by omega) (by omega) (by omega) (by simp only [setNeR _ 2 3 (by decide), setNeR _ 2 5 (by decide), setNeR _ 2 7 (by decide), setNeR _ 2 10 (by decide)]), (ord_other hk.inv.2 2 (by decide) (by decide) (by decide) (by decide))⟩
                      · obtain ⟨v2, e2, q2, rfl, _⟩ := hk.ev_new hd 2 71 (by kernel_rfl) rfl
                        obtain ⟨⟨r1, r2, _⟩, o1, o2, o3⟩ := hk.inv
                        have l0 := falseR h1
                        have n5 : listed.getD 5 false = false := by
                          cases e : listed.getD 5 false
                          · rfl
                          · have := o1 e
                            rw [l0] at this
                            cases this
                        have n7 : listed.getD 7 false = false := by
                          cases e : listed.getD 7 false
                          · rfl
                          · have := o2 e
                            rw [n5] at this
                            cases this
                        have n10 : listed.getD 10 false = false := by
                          cases e : listed.getD 10 false
                          · rfl
                          · have := o3 e
                            rw [n7] at this
                            cases this
                        simp only [l0, n5, n7, n10, cond_false] at r1
                        rw [hC] at r1 r2
                        refine stepL_enter rfl (f := 46) (args := #[.pointer (some ⟨gn, 0, none⟩)]) (by go_simp) ?_
                        refine (small_any w.heap.size gb ga gt gn w.heap.size wz A n c l s r1 r2).mono ?_
                        rw [HE1.out]
                        simp only []
                        rintro e w5 ⟨rfl, hr5, hu5⟩
                        refine ⟨_, rfl, rfl, ⟨hk.inv.1.turn F 3 72 _ (by omega) (by omega) (by omega) (by omega) (by omega) (by rw [hC]; exact hu5) ?_, ?_⟩, fun _ _ h => h⟩
                        · simp only [setEqR h1, setNeR _ 3 5 (by decide), setNeR _ 3 7 (by decide), setNeR _ 3 10 (by decide), n5, n7, n10, cond_false, cond_true]
                          rw [hC]
                          exact hr5
                        · refine ⟨fun q => ?_, fun q => ?_, fun q => ?_⟩
                          · exact setEqR h1
                          · rw [setNeR _ 3 7 (by decide)] at q; rw [setNeR _ 3 5 (by decide)]; exact o2 q
                          · rw [setNeR _ 3 10 (by decide)] at q; rw [setNeR _ 3 7 (by decide)]; exact o3 q
                      · have f1 : a1.eval (.tmp 7) = .func (.func 46) #[] #[.pointer (some ⟨gn, 0, none⟩)] := hk.ev_old 7 (by kernel_rfl)
                        have g1 : a1.tmps[7]?.getD undef = .func (.func 46) #[] #[.pointer (some ⟨gn, 0, none⟩)] := by simpa [Act.eval] using f1
                        exact stepL_value rfl (v := .func (.func 46) #[] #[.pointer (some ⟨gn, 0, none⟩)]) (by go_simp) rfl ⟨hk.inv.1.read F 4 73 _ (by omega) (by omega) (by omega) (by omega) (by omega) (by simp only [setNeR _ 4 3 (by decide), setNeR _ 4 5 (by decide), setNeR _ 4 7 (by decide), setNeR _ 4 10 (by decide)]), (ord_other hk.inv.2 4 (by decide) (by decide) (by decide) (by decide))⟩
                      · obtain ⟨v4, e4, q4, rfl, _⟩ := hk.ev_new hd 4 73 (by kernel_rfl) rfl
                        obtain ⟨⟨r1, r2, _⟩, o1, o2, o3⟩ := hk.inv
                        have lp : listed.getD 3 false = true := hd { on := 3, ground := .chain } (by simp) rfl
                        have l0 := falseR h1
                        have n7 : listed.getD 7 false = false := by
                          cases e : listed.getD 7 false
                          · rfl
                          · have := o2 e
                            rw [l0] at this
                            cases this
                        have n10 : listed.getD 10 false = false := by
                          cases e : listed.getD 10 false
                          · rfl
                          · have := o3 e
                            rw [n7] at this
                            cases this
                        simp only [l0, n7, n10, lp, cond_false, cond_true] at r1
                        rw [hC] at r1 r2
                        refine stepL_enter rfl (f := 46) (args := #[.pointer (some ⟨gn, 0, none⟩)]) (by go_simp) ?_
                        refine (small_any w.heap.size gb ga gt gn w.heap.size wz A n c l s5 r1 r2).mono ?_
                        rw [HE2.out]
                        simp only []
                        rintro e w5 ⟨rfl, hr5, hu5⟩
                        refine ⟨_, rfl, rfl, ⟨hk.inv.1.turn F 5 74 _ (by omega) (by omega) (by omega) (by omega) (by omega) (by rw [hC]; exact hu5) ?_, ?_⟩, fun _ _ h => h⟩
                        · simp only [setEqR h1, setNeR _ 5 3 (by decide), setNeR _ 5 7 (by decide), setNeR _ 5 10 (by decide), n7, n10, lp, cond_false, cond_true]
                          rw [hC]
                          exact hr5
                        · refine ⟨fun q => ?_, fun q => ?_, fun q => ?_⟩
                          · rw [setNeR _ 5 3 (by decide)]; exact lp
                          · exact setEqR h1
                          · rw [setNeR _ 5 10 (by decide)] at q; rw [setNeR _ 5 7 (by decide)]; exact o3 q
                      · have f1 : a1.eval (.tmp 6) = .pointer (some ⟨gn, 0, none⟩) := hk.ev_old 6 (by kernel_rfl)
                        have g1 : a1.tmps[6]?.getD undef = .pointer (some ⟨gn, 0, none⟩) := by simpa [Act.eval] using f1
                        obtain ⟨_, r2, _⟩ := hk.inv.1
                        rw [hC] at r2
                        have c1 := r2.cell_ (k := 0) rfl
                        exact stepL_value rfl (v := numV gb ga gt) (by go_simp) rfl ⟨hk.inv.1.read F 6 75 _ (by omega) (by omega) (by omega) (by omega) (by omega) (by simp only [setNeR _ 6 3 (by decide), setNeR _ 6 5 (by decide), setNeR _ 6 7 (by decide), setNeR _ 6 10 (by decide)]), (ord_other hk.inv.2 6 (by decide) (by decide) (by decide) (by decide))⟩
                      · obtain ⟨v6, e6, q6, rfl, _⟩ := hk.ev_new hd 6 75 (by kernel_rfl) rfl
                        obtain ⟨⟨r1, r2, _⟩, o1, o2, o3⟩ := hk.inv
                        have lp : listed.getD 5 false = true := hd { on := 5, ground := .chain } (by simp) rfl
                        have l0 := falseR h1
                        have n10 : listed.getD 10 false = false := by
                          cases e : listed.getD 10 false
                          · rfl
                          · have := o3 e
                            rw [l0] at this
                            cases this
                        simp only [l0, n10, lp, cond_false, cond_true] at r1
                        rw [hC] at r1 r2
                        refine stepL_enter rfl (f := 44) (args := #[.int .u64 9223372036854775807, .pointer (some ⟨gb, 0, none⟩), .pointer (some ⟨ga, 0, none⟩), .pointer (some ⟨gt, 0, none⟩)]) (by go_simp) ?_
                        refine (number_any w.heap.size gb ga gt wz A n c l s6 9223372036854775807 r1 (by omega)).mono ?_
                        rw [HE3.out]
                        simp only []
                        rintro e w5 ⟨rfl, hr5, hu5⟩
                        refine ⟨_, rfl, rfl, ⟨hk.inv.1.turn F 7 76 _ (by omega) (by omega) (by omega) (by omega) (by omega) (by rw [hC]; exact hu5) ?_, ?_⟩, fun _ _ h => h⟩
                        · simp only [setEqR h1, setNeR _ 7 3 (by decide), setNeR _ 7 5 (by decide), setNeR _ 7 10 (by decide), n10, lp, cond_false, cond_true]
                          rw [hC]
                          exact hr5
                        · refine ⟨fun q => ?_, fun q => ?_, fun q => ?_⟩
                          · rw [setNeR _ 7 5 (by decide)] at q; rw [setNeR _ 7 3 (by decide)]; exact o1 q
                          · rw [setNeR _ 7 5 (by decide)]; exact lp
                          · exact setEqR h1
                      · obtain ⟨v7, e7, q7, rfl, _⟩ := hk.ev_new hd 7 76 (by kernel_rfl) rfl
                        exact stepL_value rfl (v := .int .i64 (x3 : Int)) (by go_simp; rw [IntKind.wrap_i64]; omega) rfl ⟨hk.inv.1.read F 8 77 _ (by omega) (by omega) (by omega) (by omega) (by omega) (by simp only [setNeR _ 8 3 (by decide), setNeR _ 8 5 (by decide), setNeR _ 8 7 (by decide), setNeR _ 8 10 (by decide)]), (ord_other hk.inv.2 8 (by decide) (by decide) (by decide) (by decide))⟩
                      · have f1 : a1.eval (.tmp 6) = .pointer (some ⟨gn, 0, none⟩) := hk.ev_old 6 (by kernel_rfl)
                        have g1 : a1.tmps[6]?.getD undef = .pointer (some ⟨gn, 0, none⟩) := by simpa [Act.eval] using f1
                        obtain ⟨_, r2, _⟩ := hk.inv.1
                        rw [hC] at r2
                        have c1 := r2.cell_ (k := 0) rfl
                        exact stepL_value rfl (v := numV gb ga gt) (by go_simp) rfl ⟨hk.inv.1.read F 9 78 _ (by omega) (by omega) (by omega) (by omega) (by omega) (by simp only [setNeR _ 9 3 (by decide), setNeR _ 9 5 (by decide), setNeR _ 9 7 (by decide), setNeR _ 9 10 (by decide)]), (ord_other hk.inv.2 9 (by decide) (by decide) (by decide) (by decide))⟩
                      · obtain ⟨v9, e9, q9, rfl, _⟩ := hk.ev_new hd 9 78 (by kernel_rfl) rfl
                        obtain ⟨⟨r1, r2, _⟩, o1, o2, o3⟩ := hk.inv
                        have lp : listed.getD 7 false = true := hd { on := 7, ground := .chain } (by simp) rfl
                        have l0 := falseR h1
                        simp only [l0, lp, cond_false, cond_true] at r1
                        rw [hC] at r1 r2
                        refine stepL_enter rfl (f := 44) (args := #[.int .u64 18446744073709551615, .pointer (some ⟨gb, 0, none⟩), .pointer (some ⟨ga, 0, none⟩), .pointer (some ⟨gt, 0, none⟩)]) (by go_simp) ?_
                        refine (number_any w.heap.size gb ga gt wz A n c l s7 18446744073709551615 r1 (by omega)).mono ?_
                        rw [HE4.out]
                        simp only []
                        rintro e w5 ⟨rfl, hr5, hu5⟩
                        refine ⟨_, rfl, rfl, ⟨hk.inv.1.turn F 10 79 _ (by omega) (by omega) (by omega) (by omega) (by omega) (by rw [hC]; exact hu5) ?_, ?_⟩, fun _ _ h => h⟩
                        · simp only [setEqR h1, setNeR _ 10 3 (by decide), setNeR _ 10 5 (by decide), setNeR _ 10 7 (by decide), lp, cond_true]
                          rw [hC]
                          exact hr5
                        · refine ⟨fun q => ?_, fun q => ?_, fun q => ?_⟩
                          · rw [setNeR _ 10 5 (by decide)] at q; rw [setNeR _ 10 3 (by decide)]; exact o1 q
                          · rw [setNeR _ 10 7 (by decide)] at q; rw [setNeR _ 10 5 (by decide)]; exact o2 q
                          · rw [setNeR _ 10 7 (by decide)]; exact lp
                      · obtain ⟨v10, e10, q10, rfl, _⟩ := hk.ev_new hd 10 79 (by kernel_rfl) rfl
                        refine stepL_enter rfl (f := 49) (args := #[.int .u64 (x4 : Int)]) (by go_simp) ?_
                        refine (unfolded_any x4 _ (by omega)).mono ?_
                        rintro e w5 ⟨rfl, rfl⟩
                        exact ⟨_, rfl, rfl, ⟨hk.inv.1.read F 11 80 _ (by omega) (by omega) (by omega) (by omega) (by omega) (by simp only [setNeR _ 11 3 (by decide), setNeR _ 11 5 (by decide), setNeR _ 11 7 (by decide), setNeR _ 11 10 (by decide)]), (ord_other hk.inv.2 11 (by decide) (by decide) (by decide) (by decide))⟩, fun _ _ h => h⟩
                      · obtain ⟨v3, e3, q3, rfl, _⟩ := hk.ev_new hd 3 72 (by kernel_rfl) rfl
                        obtain ⟨v5, e5, q5, rfl, _⟩ := hk.ev_new hd 5 74 (by kernel_rfl) rfl
                        obtain ⟨v8, e8, q8, rfl, _⟩ := hk.ev_new hd 8 77 (by kernel_rfl) rfl
                        obtain ⟨v11, e11, q11, rfl, _⟩ := hk.ev_new hd 11 80 (by kernel_rfl) rfl
                        rw [hvv]
                        exact stepL_value rfl (v := .agg (Jn.cells ⟨x1, x2, (x3 : Int), unfF x4⟩).toArray) (by go_simp; rfl) rfl ⟨hk.inv.1.read F 12 81 _ (by omega) (by omega) (by omega) (by omega) (by omega) (by simp only [setNeR _ 12 3 (by decide), setNeR _ 12 5 (by decide), setNeR _ 12 7 (by decide), setNeR _ 12 10 (by decide)]), (ord_other hk.inv.2 12 (by decide) (by decide) (by decide) (by decide))⟩
                      · obtain ⟨v12, e12, q12, rfl, _⟩ := hk.ev_new hd 12 81 (by kernel_rfl) rfl
                        have hsz : C.sB < a1.tmps.size := by rw [hk.size, k4]; simp
                        have hb := hk.inv.1.built F (by rw [hC]; exact h1) hsz E3 (by rw [hC]; simp only [setNeR _ 13 3 (by decide), setNeR _ 13 5 (by decide), setNeR _ 13 7 (by decide), setNeR _ 13 10 (by decide)]) (by omega)
                        rw [hC] at hb
                        rw [hC]
                        exact stepL_run rfl (v := .slice (some ⟨wz.heap.size, 0, none⟩) 1 1) (w' := wz.alloc (.cells v.cells.toArray 53 (0, 0))) (exec_bs1 (.tmp 81) rfl v.cells e12 hbs) trivial ⟨hb, (ord_other hk.inv.2 13 (by decide) (by decide) (by decide) (by decide))⟩ (fun _ _ h => h)
                      · obtain ⟨v1, e1, q1, rfl, _⟩ := hk.ev_new hd 1 70 (by kernel_rfl) rfl
                        obtain ⟨v4, e4, q4, _, l4⟩ := hk.ev_new hd 13 82 (by kernel_rfl) rfl
                        have hJ := hk.inv.1
                        obtain ⟨r1, _, _, _, _, _, _, _, j6, _⟩ := hk.inv.1
                        have l5 := falseR h1
                        rw [hC] at j6 r1
                        obtain ⟨m1, m2, m3⟩ := j6 l5
                        obtain ⟨g, g1, g2, g3⟩ := m3 l4
                        have hx4 : a1.eval (.tmp 82) = .slice (some ⟨g, 0, none⟩) 1 1 := by
                          simp only [Act.eval, Array.getD_eq_getD_getElem?]
                          rw [g1]
                          rfl
                        have hsz : C.sA < a1.tmps.size := by rw [hk.size, k5]; simp
                        refine stepL_app (ops := #[]) rfl (.tmp 70) (.tmp 82) 24 53 _ 4 24 rfl Try.underlying24 infoIns rfl (by omega) (by omega) w.heap.size Ai Js.length ci g (jcs Js) v.cells e1 hx4 m1 ?_ (jn4 v) (jn_one v) (by rw [hC] at hnl; exact hnl) r1.hbase (fun _ _ => trivial) (fun _ _ _ h => h) ?_
                        · intro j u hu
                          rw [cell_of_row wz g j _ _ _ g2]
                          simpa using hu
                        · intro A' c' w5 hown hgr
                          have hb := hJ.added F (by rw [hC]; exact h1) (by rw [hC]; exact l4) hsz (by rw [hC]; simp only [setNeR _ 14 3 (by decide), setNeR _ 14 5 (by decide), setNeR _ 14 7 (by decide), setNeR _ 14 10 (by decide)]) (w' := w5) (A' := A') (c' := c') (by rw [hC]; exact hown) (by rw [hC]; exact hgr)
                          rw [hC] at hb ⊢
                          exact ⟨hb, (ord_other hk.inv.2 14 (by decide) (by decide) (by decide) (by decide))⟩
                      · have f1 : a1.eval (.tmp 9) = .pointer (some ⟨gc, 0, none⟩) := hk.ev_old 9 (by kernel_rfl)
                        have g1 : a1.tmps[9]?.getD undef = .pointer (some ⟨gc, 0, none⟩) := by simpa [Act.eval] using f1
                        exact stepL_value rfl (v := .pointer (some ⟨gc, 3, none⟩)) (by go_simp) rfl ⟨hk.inv.1.read F 15 84 _ (by omega) (by omega) (by omega) (by omega) (by omega) (by simp only [setNeR _ 15 3 (by decide), setNeR _ 15 5 (by decide), setNeR _ 15 7 (by decide), setNeR _ 15 10 (by decide)]), (ord_other hk.inv.2 15 (by decide) (by decide) (by decide) (by decide))⟩
                      · obtain ⟨v6, e6, q6, rfl, _⟩ := hk.ev_new hd 15 84 (by kernel_rfl) rfl
                        obtain ⟨v5, e5, q5, _, l5⟩ := hk.ev_new hd 14 83 (by kernel_rfl) rfl
                        have hJ := hk.inv.1
                        obtain ⟨r1, _, _, _, _, _, _, _, _, j7⟩ := hk.inv.1
                        have l7 := falseR h1
                        rw [hC] at j7
                        obtain ⟨A', c', m1, m2, m3⟩ := j7 l5
                        simp only [l7, cond_false] at m3
                        have c1 := m3.cell_ (k := 3) rfl
                        have f1 := m3.frozenAt (j := 3)
                        have hx5 : a1.eval (.tmp 83) = .slice A' (Js.length + 1) c' := by
                          simp only [Act.eval, Array.getD_eq_getD_getElem?]
                          rw [m1]
                          rfl
                        have g5 : a1.tmps[83]?.getD undef = .slice A' (Js.length + 1) c' := by rw [m1]; rfl
                        obtain rfl : v5 = .slice A' (Js.length + 1) c' := e5.symm.trans hx5
                        have l1 : listed.getD 1 false = true := hd { on := 1, ground := .phase } (by simp) rfl
                        have hb := hJ.stored F (by rw [hC]; exact h1) (by rw [hC]; exact l5) l1 (by rw [hC]; simp only [setNeR _ 16 3 (by decide), setNeR _ 16 5 (by decide), setNeR _ 16 7 (by decide), setNeR _ 16 10 (by decide)]) (A' := A') (c' := c') (by rw [hC]; exact m1)
                        rw [hC] at hb ⊢
                        exact stepL_skip rfl rfl (w' := wz.setCell ⟨gc, 3, none⟩ (.slice A' (Js.length + 1) c')) (by go_simp) trivial ⟨hb, (ord_other hk.inv.2 16 (by decide) (by decide) (by decide) (by decide))⟩ (fun _ _ h => h)
                    · intro listed a1 w6 hJ hall hp
                      obtain ⟨⟨r1, r2, r3, r4, r5, _, _, _, _, j7⟩, _⟩ := hJ
                      have l10 : listed.getD 10 false = true := hall 10 (by decide)
                      have l14 : listed.getD 14 false = true := hall 14 (by decide)
                      have l16 : listed.getD 16 false = true := hall 16 (by decide)
                      simp only [l10, cond_true] at r1
                      rw [hC] at r1 r2 r3 r4 r5 j7
                      obtain ⟨A', c', m1, m2, m3⟩ := j7 l14
                      simp only [l16, cond_true] at m3
                      have hfin : RS w.heap.size gb ga gt gn gc gr w6 A n c l s8 ⟨nm, V, Bk, Js ++ [v]⟩ Av cv Ab cb' A' c' := by
                        refine ⟨r1, r2, ?_, r3, hR.hne, r4.1, r4.2, ?_⟩
                        · simpa [cdCells] using m3
                        · show w6.ownsRow w.heap.size 53 4 (.slice A' (Js ++ [v]).length c') (Js ++ [v]).length (quads Jn.cells (Js ++ [v]))
                          rw [List.length_append, show quads Jn.cells (Js ++ [v]) = jcs Js ++ v.cells from by simp [quads]]
                          exact m2
                      have hBr6 : Below w.heap.size w w6 := hBr.trans r5
                      obtain ⟨v0, p0, v1, p1, v2, p2, v3, p3, v4, p4, v5, p5, v6, p6, v7, p7, v8, p8, v9, p9, v10, p10, v11, p11, v12, p12, v13, p13, v14, p14, v15, p15, rfl⟩ := hp
                      simp only [Act.put, List.setIfInBounds_toArray, List.set_cons_succ, List.set_cons_zero]
                      clear hall r1 r2 r3 r4 r5 j7 m1 m2 m3 hC F hnl E3 hbs hd0 hR k1 k2 k3 k4 k5
                      go_wp2_with fail
                      go_roundw
                      case rel =>
                        refine ⟨k3 + 1, by omega, by go_num, ⟨A', c', ?_⟩, hBr6⟩
                        have e5 : rlist (rjn l) (k3 + 1) sj = (Js ++ [v], s8) := by
                          rw [rlist_snoc, HJS.out]
                          simp only [rjn]
                          rw [HE1.out]
                          simp only []
                          rw [HE2.out]
                          simp only []
                          rw [HE3.out]
                          simp only []
                          rw [HE4.out, hvv]
                        rw [e5]
                        exact hfin
                      case measure => simp [intOf]; omega
                · as_aux_lemma =>
                    have hkn : k3 = ni := by omega
                    subst hkn
                    obtain ⟨⟨Js, s⟩, hJs⟩ : ∃ r, rlist (rjn l) k3 sj = r := ⟨_, rfl⟩
                    rw [hJs] at hR
                    simp only [] at hR
                    have eP : readP l = (⟨nm, V, Bk, Js⟩, s) := by
                      simp only [readP]
                      rw [HNM.out]
                      simp only []
                      rw [HNV.out]
                      simp only []
                      rw [HV.out]
                      simp only []
                      rw [HNB.out]
                      simp only []
                      rw [HBK.out]
                      simp only []
                      rw [HNI.out]
                      simp only []
                      rw [hJs]
                    have hok := read_small l
                    rw [eP] at hok
                    simp only [] at hok
                    obtain ⟨m, hm⟩ : ∃ m : Pm, m = ⟨⟨nm, V, Bk, Js⟩, Av, V.length, cv, Ab, Bk.length, cb', Ai, Js.length, ci⟩ := ⟨_, rfl⟩
                    have hcells : cdCells ⟨nm, V, Bk, Js⟩ Av cv Ab cb' Ai ci = m.cells := by rw [hm]; rfl
                    have hm1 : PmAt wr.heap.size wr m := by
                      rw [hm]
                      exact ⟨hR.vs.sees, hR.bs.sees, hR.js.sees, rfl, rfl, rfl, hR.vs.cap, hR.bs.cap, hR.js.cap, hok.1, hok.2.1, hok.2.2⟩
                    have hcd := hR.cd
                    rw [hcells] at hcd
                    have hmp : m.p = ⟨nm, V, Bk, Js⟩ := by rw [hm]
                    have SR := Right_any m wr hm1
                    have hlo : readOk l = (s.2 && (decide (s.1 = l.length) && m.p.right)) := by rw [readOk, eP, hmp]
                    have hplace := hR.rd.place
                    have ca := hR.rd.at_.cell_ (k := 0) rfl
                    have ct := hR.rd.there.cell_ (k := 0) rfl
                    have cby := hR.rd.bytes.cell_ (k := 0) rfl
                    have hne := hR.hne
                    have hres := hR.res
                    have HP := Lib.hid eP
                    have HLO := Lib.hid hlo
                    have HM := Lib.hid hm
                    clear hJs eP hok hlo hmp hcells hm HV HBK
                    clear HNM HNV HNB HNI
                    obtain ⟨s1', ok⟩ := s
                    simp only [] at ca ct hplace
                    cases ok
                    · clear SR
                      go_wp2_with (first
                        | (
                            with_reducible refine wpList_store rfl rfl (.tmp 2) (.tmp 99) 26 rfl gr 0 w.heap.size 26 4 noCells noCells ?_ ?_ 4 ?_ ?_ ?_ ?_ ?_ w ?_ ?_ ?_
                            · rfl
                            · rfl
                            · rfl
                            · exact aggCode'
                            · exact hres
                            · omega
                            · exact cd_one _ _ _ _ _ _ _ _ _ _
                            · exact hBr
                            · exact hres.block.2)
                        | fail)
                      intro w7 hF7 hB7 hoth7 hz7
                      rw [splice4 (n := 4) rfl rfl] at hF7
                      go_wp2_with fail
                      exact post_cell_tmp rfl rfl _ rfl noCells 4 rfl aggCode' hF7.sees rfl ⟨ReadOut.no (by rw [HLO.out]; simp), hB7⟩
                    · by_cases hp : s1' = n
                      · subst hp
                        obtain ⟨rt, hrt⟩ : ∃ rt, m.p.right = rt := ⟨_, rfl⟩
                        rw [hrt] at SR
                        have HRT := Lib.hid hrt
                        clear hrt
                        cases rt
                        · go_wp2_with (first
                            | (
                                with_reducible refine wpList_store rfl rfl (.tmp 2) (.tmp 99) 26 rfl gr 0 w.heap.size 26 4 noCells noCells ?_ ?_ 4 ?_ ?_ ?_ ?_ ?_ w ?_ ?_ ?_
                                · rfl
                                · rfl
                                · rfl
                                · exact aggCode'
                                · exact hres
                                · omega
                                · exact cd_one _ _ _ _ _ _ _ _ _ _
                                · exact hBr
                                · exact hres.block.2)
                            | (with_reducible refine wpList_load_g (.tmp 9) 26 rfl gc 0 _ rfl m.cells 4 rfl aggCode' hcd.sees rfl ?_)
                            | (go_at_call 26; refine SR.mono ?_; rintro e w8 ⟨rfl, hB8⟩; have hR8 := hR.below hB8; have hcd := hcd.below hB8; have hres := hres.below hB8; have hBr := hBr.trans (hB8.mono hBr.size)))
                          intro w7 hF7 hB7 hoth7 hz7
                          rw [splice4 (n := 4) rfl rfl] at hF7
                          go_wp2_with fail
                          exact post_cell_tmp rfl rfl _ rfl noCells 4 rfl aggCode' hF7.sees rfl ⟨ReadOut.no (by rw [HLO.out]; simp [HRT.out]), hB7⟩
                        · go_wp2_with (first
                          | (with_reducible refine wpList_load_g (.tmp 9) 26 rfl gc 0 _ rfl m.cells 4 rfl aggCode' hcd.sees rfl ?_)
                          | (go_at_call 26; refine SR.mono ?_; rintro e w8 ⟨rfl, hB8⟩; have hR8 := hR.below hB8; have hcd := hcd.below hB8; have hres := hres.below hB8; have hBr := hBr.trans (hB8.mono hBr.size))
                          | (
                              with_reducible refine wpList_store rfl rfl (.tmp 2) (.tmp 100) 26 rfl gr 0 w.heap.size 26 4 noCells m.cells ?_ ?_ 4 ?_ ?_ ?_ ?_ ?_ w ?_ ?_ ?_
                              · rfl
                              · rfl
                              · rfl
                              · exact aggCode'
                              · exact hres
                              · omega
                              · exact cd_one _ _ _ _ _ _ _ _ _ _
                              · exact hBr
                              · exact hres.block.2))
                          intro w7 hF7 hB7 hoth7 hz7
                          rw [splice4 (n := 4) rfl rfl] at hF7
                          have K : ∀ e, e ≠ 26 → KeepT e w8 w7 := fun e he => KeepT.of_other hres.block.1 he hoth7
                          have q1 := (hR8.vs.keepT (K _ (by decide))).sees
                          have q2 := (hR8.bs.keepT (K _ (by decide))).sees
                          have q3 := (hR8.js.keepT (K _ (by decide))).sees
                          have hm7 : PmAt w7.heap.size w7 m := by
                            have e1 := HM.out
                            have f1 := hm1.nv
                            have f2 := hm1.nb
                            have f3 := hm1.ni
                            have f4 := hm1.cv
                            have f5 := hm1.cb
                            have f6 := hm1.ci
                            have f7 := hm1.okv
                            have f8 := hm1.oki
                            have f9 := hm1.name
                            rw [e1] at f1 f2 f3 f4 f5 f6 f7 f8 f9 ⊢
                            exact ⟨q1, q2, q3, f1, f2, f3, f4, f5, f6, f7, f8, f9⟩
                          clear K q1 q2 q3 hR8 hR hoth7 hm1
                          go_wp2_with fail
                          exact post_cell_tmp rfl rfl _ rfl m.cells 4 rfl aggCode' hF7.sees rfl ⟨ReadOut.yes m (by rw [HLO.out]; simp [HL.out, HRT.out]) (by rw [HP.out, HM.out]) hm7, hB7⟩
                      · clear SR
                        have hp2 : ¬ ((s1' : Int) = (n : Int)) := by omega
                        go_wp2_with (first
                          | (
                              with_reducible refine wpList_store rfl rfl (.tmp 2) (.tmp 99) 26 rfl gr 0 w.heap.size 26 4 noCells noCells ?_ ?_ 4 ?_ ?_ ?_ ?_ ?_ w ?_ ?_ ?_
                              · rfl
                              · rfl
                              · rfl
                              · exact aggCode'
                              · exact hres
                              · omega
                              · exact cd_one _ _ _ _ _ _ _ _ _ _
                              · exact hBr
                              · exact hres.block.2)
                          | fail)
                        intro w7 hF7 hB7 hoth7 hz7
                        rw [splice4 (n := 4) rfl rfl] at hF7
                        go_wp2_with fail
                        exact post_cell_tmp rfl rfl _ rfl noCells 4 rfl aggCode' hF7.sees rfl ⟨ReadOut.no (by rw [HLO.out]; simp [HL.out, hp]), hB7⟩
end Go.Proofs.Ytangblcfdboghaa
