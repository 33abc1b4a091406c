/-
  What Bytes of package code answers of a right program.
-/
import Derived.Test.YtangblcfdboghaaCodeWrite
import Derived.Test.YtangblcfdboghaaCodeRight
import Derived.Test.YtangblcfdboghaaStrBytes
import Derived.Test.YtangblcfdboghaaSlice
namespace Go.Proofs.Ytangblcfdboghaa
open Go.RowKit
set_option linter.unusedVariables false
theorem pm4' (m : Pm) : m.cells.length = 4 := rfl
theorem aggCode' : aggB Try.prog 26 4 = true := by kernel_rfl
theorem zeroBuf : ((Try.prog.info? 27).map (·.zero)) = some (some (.slice none 0 0)) := by kernel_rfl
theorem sizeBuf : ((Try.prog.info? 27).map (·.size)) = some 1 := by kernel_rfl
theorem slice_cells (A : Option Addr) (n c : Nat) : (Value.slice A n c).cells = #[.slice A n c] := rfl
theorem slice_one (A : Option Addr) (n c : Nat) : (Value.slice A n c).oneCell' = true := rfl
theorem digl_one (n : Nat) : digl [n] = digs n := by simp [digl]
theorem below_of {gb B : Nat} {a b c w : World} (h1 : Below gb a b) (h2 : Below B w c) (h3 : Below B w b) (ho : ∀ k, k ≠ gb → c.heap[k]? = b.heap[k]?) (hz : b.heap.size ≤ c.heap.size) : Below gb a c :=
  ⟨h2.os.trans (h3.os.symm.trans h1.os), h2.tape.trans (h3.tape.symm.trans h1.tape), h2.output.trans (h3.output.symm.trans h1.output), Nat.le_trans h1.size hz, fun k hk => (ho k (by omega)).trans (h1.block k hk)⟩
theorem buf_set {gb B b1 n c : Nat} {A : Option Addr} {w w' : World} {u : Value} {l : List UInt8} (hG : Fresh B 27 w' (some ⟨gb, 0, none⟩) 1 1 [u]) (hu : u = .slice A n c) (hF : Fresh b1 5 w A n c (cb l)) (hb : gb < b1) (hl : l.length = n) (ho : ∀ k, k ≠ gb → w'.heap[k]? = w.heap[k]?) : BufAt gb w' l := by
  subst hu
  exact ⟨A, n, c, hl, Fresh.of_block hG.block.1 (Nat.le_refl _) rfl (by unfold maxLen; omega), (hF.lower hb).heap (fun k hk => ho k (by omega))⟩
theorem flat_le {α : Type} (f : α → List UInt8) (B : Nat) : ∀ l : List α, (∀ x ∈ l, (f x).length ≤ B) → (l.flatMap f).length ≤ B * l.length
  | [], _ => by simp
  | x :: l, h => by
    have h1 := flat_le f B l (fun y hy => h y (by simp [hy]))
    have h2 := h x (by simp)
    simp only [List.flatMap_cons, List.length_append, List.length_cons, Nat.mul_succ]
    omega
theorem len_vr (v : Vr) (h : v.name.length ≤ 40) : (Vr.bytes v).length ≤ 80 := by
  have h1 := len_digl v.nums
  have h2 := (nd_bd v.name.length).2
  simp only [Vr.bytes, blob, List.length_append, len_digs, Vr.nums, List.length_cons, List.length_nil] at h1 ⊢
  omega
theorem len_jn (j : Jn) : (Jn.bytes j).length ≤ 40 := by
  have h1 := len_digl j.nums
  simpa [Jn.bytes, Jn.nums] using h1
theorem vr_step {l : List Vr} {k : Nat} {v : Vr} (h : l[k]? = some v) : (l.take (k + 1)).flatMap Vr.bytes = (l.take k).flatMap Vr.bytes ++ (blob v.name ++ digl v.nums) := by
  rw [List.take_add_one, h]
  simp [Vr.bytes]
theorem jn_step {l : List Jn} {k : Nat} {v : Jn} (h : l[k]? = some v) : (l.take (k + 1)).flatMap Jn.bytes = (l.take k).flatMap Jn.bytes ++ digl v.nums := by
  rw [List.take_add_one, h]
  simp [Jn.bytes]
theorem bl_step {l : List UInt8} {k : Nat} {v : UInt8} (h : l[k]? = some v) : blB (l.take (k + 1)) = blB (l.take k) ++ digs v.toNat := by
  rw [List.take_add_one, h]
  simp [blB]
theorem len_blobn {l : List UInt8} (h : l.length ≤ 40) : (blob l).length ≤ 50 := by
  have := (nd_bd l.length).2
  simp only [blob, List.length_append, len_digs]
  omega
/-- What a right program has. -/
structure Facts (p : Pg) : Prop where
  name : p.name.length ≤ 40
  vars : p.vars.length ≤ 200
  var : ∀ v ∈ p.vars, v.right = true
  blocks : p.blocks.length ≤ 100
  ins : p.ins.length ≤ 2000
  jn : ∀ j ∈ p.ins, jnOk p j = true
theorem Pg.facts {p : Pg} (h : p.right = true) : Facts p := by
  simp only [Pg.right, nameOk, varsOk, blocksOk, insOk, Bool.and_eq_true, decide_eq_true_eq, List.all_eq_true] at h
  exact ⟨h.1.2, h.2.1.1, h.2.1.2.1, h.2.2.1.1, h.2.2.2.1.2, h.2.2.2.2⟩
theorem Vr.right_facts {v : Vr} (h : v.right = true) : v.name.length ≤ 40 ∧ (rng v.typ).1 ≤ v.first ∧ v.first ≤ (rng v.typ).2 := by
  simp only [Vr.right, nameOk, inR, Bool.and_eq_true, decide_eq_true_eq] at h
  exact ⟨h.1.1.1.1.2, h.2.1, h.2.2⟩
theorem jn_a {p : Pg} {j : Jn} (h : jnOk p j = true) : 0 ≤ j.a := by
  have hz : ∀ (c : Nat), (c = 48 ∨ c = 118 ∨ c = 115 ∨ c = 116 ∨ c = 106 ∨ c = 98) → mayF p j c j.a = true → 0 ≤ j.a := by
    intro c hc hm
    rcases hc with rfl | rfl | rfl | rfl | rfl | rfl <;> simp [mayF, isPl, isTy] at hm <;> omega
  rcases letF_cases j.op with hL | hL | hL | hL | hL | hL | hL | hL | hL | hL | hL
  · rw [jnOk_none hL] at h; cases h
  all_goals
    rw [jnOk_some hL] at h
    simp only [Bool.and_eq_true] at h
    exact hz _ (by decide) h.2.1
/-- What the operations of an instruction's round yield. -/
def jnFacts (gb g13 na : Nat) (j : Jn) (k : Nat) (v : Value) (w : World) : Prop :=
  match k with
  | 0 => v = .func (.func 37) #[] #[.pointer (some ⟨gb, 0, none⟩)]
  | 1 => v = .pointer (some ⟨g13, 0, none⟩)
  | 2 => v = .int .u8 (j.op : Int)
  | 3 => v = .int .u64 (j.op : Int)
  | 4 => v = .pointer (some ⟨g13, 1, none⟩)
  | 5 => v = .int .u8 (j.t : Int)
  | 6 => v = .int .u64 (j.t : Int)
  | 7 => v = .pointer (some ⟨g13, 2, none⟩)
  | 8 => v = .int .i64 (na : Int)
  | 9 => v = .int .u64 (na : Int)
  | 10 => v = .pointer (some ⟨g13, 3, none⟩)
  | 11 => v = .int .i64 j.n
  | 12 => v = .int .u64 (foldF j.n : Int)
  | 13 => ∃ bn, v = .slice (some ⟨bn, 0, none⟩) 4 4 ∧ Fresh (gb + 1) 74 w (some ⟨bn, 0, none⟩) 4 4 (cu [j.op, j.t, na, foldF j.n])
  | _ => True
theorem jnFacts_stab (gb g13 na : Nat) (j : Jn) : ∀ i v w w', Below w.heap.size w w' → jnFacts gb g13 na j i v w → jnFacts gb g13 na j i v w' := by
  intro i v w w' hb h
  by_cases hi : i = 13
  · subst hi
    obtain ⟨bn, h1, h2⟩ := h
    exact ⟨bn, h1, h2.below hb⟩
  · unfold jnFacts at h ⊢
    split at h <;> first | exact h | exact absurd rfl hi
theorem fold64 {n : Int} (h : -9223372036854775808 ≤ n ∧ n < 9223372036854775808) : foldF n < 18446744073709551616 := by
  unfold foldF
  split <;> omega
theorem rng_wide (t : Nat) : (rng t).2 - (rng t).1 ≤ 4294967295 ∧ -2147483648 ≤ (rng t).1 ∧ (rng t).1 ≤ 0 := by
  unfold rng
  repeat' split
  all_goals simp

set_option maxHeartbeats 16000000 in
set_option maxRecDepth 100000 in
theorem Bytes_yes0 (m : Pm) (w : World) (hm : PmAt w.heap.size w m) (hr : m.p.right = true) (SR : ∀ wq, PmAt wq.heap.size wq m → Calls Try.prog 26 #[.agg m.cells.toArray] wq fun e w' => e = .returned (.bool true) ∧ Below wq.heap.size wq w') :
    Calls Try.prog 14 #[.agg m.cells.toArray] w fun e w' => ∃ A c, e = .returned (.tuple #[.slice A m.p.bytes.length c, .int .i64 0]) ∧ Fresh w.heap.size 5 w' A m.p.bytes.length c (cb m.p.bytes) ∧ Below w.heap.size w w' := by
  have hfa := Pg.facts hr
  have hsm := hm.small
  obtain ⟨pn, pv, pb, pi, hsz1, hsz2, hsz3⟩ := (⟨hfa.name, hfa.vars, hfa.blocks, hfa.ins, hm.nv, hm.nb, hm.ni⟩ : _ ∧ _ ∧ _ ∧ _ ∧ _ ∧ _ ∧ _)
  have NV := Lib.hid hsz1
  have NB := Lib.hid hsz2
  have NI := Lib.hid hsz3
  have PV : m.nv ≤ 200 := by omega
  have PB : m.nb ≤ 100 := by omega
  have PI : m.ni ≤ 2000 := by omega
  clear hsz1 hsz2 hsz3 pv pb pi
  have LB := len_blobn pn
  go_enter Try.func14, Try.ntmps14
  go_wp2_with (first
    | (with_reducible refine wpList_box (o := ⟨some 1, _, _, _, _, _⟩) rfl (.tmp 0) 26 rfl m.cells rfl 4 (pm4' m) (by decide) ?_; intro g w1 hg hG hB)
    | (with_reducible refine wpList_load rfl (.tmp 1) 26 rfl g 0 _ rfl m.cells 4 (pm4' m) aggCode' hG.sees ?_)
    | (go_at_call 26; refine (SR _ (hm.step hB)).mono ?_; rintro e w2 ⟨rfl, hB2⟩)
    | (with_reducible refine wpList_alloc1 (o := ⟨some 4, _, _, _, _, _⟩) rfl 27 rfl (.slice none 0 0) rfl zeroBuf ?_; intro gb w3 hgb hF3 hB3; have hG3 := (hG.below hB2).below hB3; have c0 := hG3.cell_ (k := 0) rfl; have c1 := hG3.cell_ (k := 1) rfl; have c2b := hG3.cell_ (k := 2) rfl; have c3b := hG3.cell_ (k := 3) rfl; have d0 := hF3.cell_ (k := 0) rfl; have hggb : g < gb := Nat.lt_of_lt_of_le (hG.below hB2).lt_size hgb; have hB03 := Below.then_ (Below.then_ hB hB2) hB3; have hwgb : w.heap.size ≤ gb := Nat.le_trans hg (Nat.le_of_lt hggb); have hgb3 := hF3.lt_size)
    | (with_reducible refine wpList_str8 rfl (.tmp 20) 9 27 5 rfl Try.underlying9 Try.underlying27 Try.underlying5 m.p.name rfl ?_; intro A5 c5 w5 hS5 hB5)
    | (go_at_call 39; refine (Blob_any none A5 0 c5 0 _ [] m.p.name _ Sees.nil hS5 rfl rfl (by omega) (by omega)).mono ?_; rintro e w6 ⟨rfl, hF6, hB6⟩; rw [Nat.zero_add] at hF6; have hGb6 := (hF3.below hB5).below hB6; have hB06 := Below.then_ (Below.then_ hB03 hB5) hB6)
    | (with_reducible refine wpList_store1 rfl rfl (.tmp 4) (.tmp 22) 27 rfl gb 0 w2.heap.size 27 1 [.slice none 0 0] (.slice (some ⟨w5.heap.size, 0, none⟩) (nd m.p.name.length + m.p.name.length) (nd m.p.name.length + m.p.name.length)) ?_ ?_ ?_ ?_ sizeBuf ?_ ?_ w ?_ ?_ ?_
       · rfl
       · rfl
       · exact slice_cells _ _ _
       · exact slice_one _ _ _
       · exact hGb6
       · omega
       · exact hB06
       · exact hwgb))
  intro w7 hF7 hB7 hoth7 hz7
  have hBuf7 := buf_set hF7 rfl hF6 (by have := hB5.size; omega) (by simp [blob, len_digs]) hoth7
  have hBg7 := below_of ((hB5.mono (Nat.le_of_lt hgb3)).trans (hB6.mono (Nat.le_trans (Nat.le_of_lt hgb3) hB5.size))) hB7 hB06 hoth7 hz7
  have c1b := c1
  have c1 := (hBg7.cell (p := ⟨g, 1, none⟩) hggb).trans c1
  go_wp2_with (
    go_at_call 37
    refine (write_any gb w7.heap.size 1 [m.nv] ([] ++ blob m.p.name) _ ?_ ?_ (hBuf7.below (below_alloc _ _)) ?_).mono ?_
    · exact (Fresh.new w7 74 (cu [m.nv]) 1 rfl (by omega)).lower (by have := hBg7.size; omega)
    · intro x hx; simp at hx; omega
    · simp; omega
    rintro e w8 ⟨rfl, hBuf8, hB8⟩
    have hBg8 := hBg7.trans (((below_alloc w7 _).mono (Nat.le_trans (Nat.le_of_lt hgb3) hBg7.size)).trans hB8)
    have c1 := (hBg8.cell (p := ⟨g, 1, none⟩) hggb).trans c1b)
  have hgb8 : gb < w8.heap.size := Nat.lt_of_lt_of_le hgb3 hBg8.size
  obtain ⟨L1, hL1⟩ : ∃ L, L = [] ++ blob m.p.name ++ digl [m.nv] := ⟨_, rfl⟩
  rw [← hL1] at hBuf8
  have HL1 : L1.length ≤ 60 := by
    rw [hL1]
    have := (nd_bd m.nv).2
    simp only [List.nil_append, List.length_append, digl_one, len_digs]
    omega
  have EL1 := Lib.hid hL1
  clear hL1 hBuf7 hBg7 hB7 hF7 hoth7 hz7 hF6 hB6 hGb6 hB06 hS5 hB5 hF3 hB8 d0 c0 c1b
  go_loopw [7, 8, 9, 33] (fun s7 s8 s9 i wr => ∃ k : Nat, k ≤ m.nv ∧ i = .int .i64 k ∧ BufAt gb wr (L1 ++ (m.p.vars.take k).flatMap Vr.bytes) ∧ Below gb w3 wr) (fun _ _ _ i _ => m.nv - (intOf i).toNat)
  case atStart => exact ⟨0, by omega, rfl, by simpa using hBuf8, hBg8⟩
  case round =>
    obtain ⟨k, hk, rfl, hBuf, hBg⟩ := hrel
    have hBw : Below w.heap.size w wr := hB03.trans (hBg.mono hwgb)
    by_cases hlt : k < m.nv
    · as_aux_lemma =>
        have hlen : (L1 ++ (m.p.vars.take k).flatMap Vr.bytes).length ≤ 60 + 80 * 200 := by
          have h1 := flat_le Vr.bytes 80 (m.p.vars.take k) (fun x hx => len_vr x (Vr.right_facts (hfa.var x (List.mem_of_mem_take hx))).1)
          have h2 : (m.p.vars.take k).length ≤ 200 := by rw [List.length_take]; omega
          rw [List.length_append]
          omega
        obtain ⟨b, o, hA, hb, v, HX, hx, hc⟩ := (hm.vars.below hBw).quad vr4 NV.out hlt
        have hvf := Vr.right_facts (hfa.var v hx)
        have hvk := hm.okv v hx
        have hvt := hvk.typ
        have hvc := hvk.cls
        have hrw := rng_wide v.typ
        rw [hA]
        obtain ⟨⟨lo, hi⟩, hrng⟩ : ∃ r, rng v.typ = r := ⟨_, rfl⟩
        have SRg : ∀ wq, Calls Try.prog 18 #[.int .u8 (v.typ : Int)] wq fun e w' => e = .returned (.tuple #[.int .i64 lo, .int .i64 hi]) ∧ wq = w' := fun wq => by
          have := Range_any v.typ wq
          rwa [hrng] at this
        have HRG := Lib.hid hrng
        rw [hrng] at hvf hrw
        simp only [] at hvf hrw
        obtain ⟨d, hd⟩ : ∃ d : Nat, v.first - lo = (d : Int) := ⟨(v.first - lo).toNat, by omega⟩
        have hd64 : d < 4294967296 := by omega
        have hdn : (v.first - lo).toNat = d := by omega
        have hnl := hvf.1
        have HD := Lib.hid hd
        have HDN := Lib.hid hdn
        clear hrng hvf hrw hvk hd hdn
        go_wp2_with (first
          | (with_reducible refine wpList_load rfl (.tmp 35) 56 rfl b (o + k * 4) _ rfl v.cells 4 (vr4 v) aggVar hc ?_)
          | (with_reducible refine wpList_alloc (o := ⟨some 7, _, _, _, _, _⟩) rfl 56 rfl (Vr.cells default) zeroVar 4 (vr4 _) (by decide) ?_; intro g7 w4 hg7 hF4 hB4)
          | (with_reducible refine wpList_store rfl rfl (.tmp 7) (.tmp 36) 56 rfl g7 0 wr.heap.size 56 4 (Vr.cells default) v.cells rfl rfl 4 (vr4 v) aggVar hF4 (by omega) (vr_one v) wr hB4 hg7 ?_))
        intro w5 hF5 hB5 hoth5 hz5
        rw [splice4 (vr4 default) (vr4 v)] at hF5
        have f0 := hF5.cell_ (k := 0) rfl
        have f2 := hF5.cell_ (k := 2) rfl
        obtain ⟨A5, n5, c5, hn5, hGb5, hA5⟩ := hBuf.below hB5
        have d0 := hGb5.cell_ (k := 0) rfl
        go_wp2_with (first
          | (go_at_call 18; refine (SRg _).mono ?_; rintro e w' ⟨rfl, rfl⟩)
          | (with_reducible refine wpList_str8 rfl (.tmp 45) 9 27 5 rfl Try.underlying9 Try.underlying27 Try.underlying5 v.name rfl ?_; intro A6 c6 w6 hS6 hB6)
          | (go_at_call 39; refine (Blob_any A5 A6 c5 c6 n5 _ _ v.name _ (hA5.sees.step hB6) hS6 hn5 rfl (by omega) (by omega)).mono ?_; rintro e w7 ⟨rfl, hF7, hB7⟩)
          | (with_reducible refine wpList_store1 rfl rfl (.tmp 4) (.tmp 47) 27 rfl gb 0 gb 27 1 [.slice A5 n5 c5] (.slice (some ⟨w6.heap.size, 0, none⟩) (n5 + (nd v.name.length + v.name.length)) (n5 + (nd v.name.length + v.name.length))) ?_ ?_ ?_ ?_ sizeBuf ?_ ?_ w ?_ ?_ ?_
             · rfl
             · rfl
             · exact slice_cells _ _ _
             · exact slice_one _ _ _
             · exact (hGb5.below hB6).below hB7
             · omega
             · exact (Below.then_ (Below.then_ (hBw.trans (hB5.mono hBw.size)) hB6) hB7)
             · exact hwgb))
        intro w8 hF8 hB8 hoth8 hz8
        have hBuf8 := buf_set hF8 rfl hF7 (by have h1 := hBg.size; have h2 := hB5.size; have h3 := hB6.size; omega) (by rw [List.length_append, hn5, blob, List.length_append, len_digs]) hoth8
        have hB57 := (hB5.trans (hB6.mono hB5.size)).trans (hB7.mono (Nat.le_trans hB5.size hB6.size))
        have hg7b : g7 ≠ gb := by have := hBg.size; omega
        have hF58 := ((hF5.below hB6).below hB7).other hg7b hoth8
        have f1 := hF58.cell_ (k := 1) rfl
        have f2 := hF58.cell_ (k := 2) rfl
        have f3 := hF58.cell_ (k := 3) rfl
        have hBg8 := below_of (hBg.trans (hB57.mono (Nat.le_trans (Nat.le_of_lt hgb3) hBg.size))) hB8 (hBw.trans (hB57.mono hBw.size)) hoth8 hz8
        clear hF8 hF7 hB7 hB8 hoth8 hz8 hF5 hoth5 hz5 hS6 hB6 hGb5 hA5 d0 f0 hBuf hF4 hB4 hc
        have hd1 : 0 ≤ v.first - lo := by have := HD.out; omega
        have hd2 : v.first - lo < 4294967296 := by have := HD.out; omega
        go_wp2_with (
          go_at_call 37
          rw [HD.out]
          refine (write_any gb w8.heap.size 3 [v.cls, v.typ, d] _ _ ?_ ?_ (hBuf8.below (below_alloc _ _)) ?_).mono ?_
          · exact (Fresh.new w8 74 (cu [v.cls, v.typ, d]) 3 rfl (by omega)).lower (by have := hBg8.size; omega)
          · intro x hx; simp at hx; omega
          · have h1 := len_blobn hnl
            rw [List.length_append]
            omega
          rintro e w9 ⟨rfl, hBuf9, hB9⟩)
        go_roundw
        case rel =>
          refine ⟨k + 1, by omega, by go_num, ?_, hBg8.trans (((below_alloc w8 _).mono (Nat.le_trans (Nat.le_of_lt hgb3) hBg8.size)).trans hB9)⟩
          have e1 : v.nums = [v.cls, v.typ, d] := by rw [Vr.nums, HRG.out, HDN.out]
          rw [vr_step HX.out, e1, ← List.append_assoc, ← List.append_assoc]
          exact hBuf9
        case measure => simp [intOf]; omega
    · as_aux_lemma =>
        have hk2 : k = m.nv := by omega
        have hall : m.p.vars.take k = m.p.vars := List.take_of_length_le (by rw [NV.out]; omega)
        rw [hall] at hBuf
        have hlen : (L1 ++ m.p.vars.flatMap Vr.bytes).length ≤ 60 + 80 * 200 := by
          have h1 := flat_le Vr.bytes 80 m.p.vars (fun x hx => len_vr x (Vr.right_facts (hfa.var x hx)).1)
          have h2 := hfa.vars
          rw [List.length_append]
          omega
        have c2 := (hBg.cell (p := ⟨g, 2, none⟩) hggb).trans c2b
        clear hall hk2 hBuf8 hBg8
        go_wp2_with (
          go_at_call 37
          refine (write_any gb wr.heap.size 1 [m.nb] _ _ ?_ ?_ (hBuf.below (below_alloc _ _)) ?_).mono ?_
          · exact (Fresh.new wr 74 (cu [m.nb]) 1 rfl (by omega)).lower (by have := hBg.size; omega)
          · intro x hx; simp at hx; omega
          · omega
          rintro e w9 ⟨rfl, hBuf9, hB9⟩
          have hBg9 := hBg.trans (((below_alloc wr _).mono (Nat.le_trans (Nat.le_of_lt hgb3) hBg.size)).trans hB9)
          have c2 := (hBg9.cell (p := ⟨g, 2, none⟩) hggb).trans c2b)
        obtain ⟨L2, hL2⟩ : ∃ L, L = L1 ++ m.p.vars.flatMap Vr.bytes ++ digl [m.nb] := ⟨_, rfl⟩
        rw [← hL2] at hBuf9
        have HL2 : L2.length ≤ 20000 := by
          rw [hL2, List.length_append, digl_one, len_digs]
          have := (nd_bd m.nb).2
          omega
        have EL2 := Lib.hid hL2
        clear hL2 hBuf hlen hB9 hBw
        clear hBg c2
        go_loopw [11, 73] (fun s11 i wq => ∃ k : Nat, k ≤ m.nb ∧ i = .int .i64 k ∧ BufAt gb wq (L2 ++ blB (m.p.blocks.take k)) ∧ Below gb w3 wq) (fun _ i _ => m.nb - (intOf i).toNat)
        case atStart => exact ⟨0, by omega, rfl, by simpa [blB] using hBuf9, hBg9⟩
        case round =>
          obtain ⟨k2, hk2, rfl, hBuf, hBg⟩ := hrel
          have hBw : Below w.heap.size w wr := hB03.trans (hBg.mono hwgb)
          by_cases hlt2 : k2 < m.nb
          · as_aux_lemma =>
              have hlen : (L2 ++ blB (m.p.blocks.take k2)).length ≤ 20000 + 10 * 100 := by
                have h1 := flat_le (fun (x : UInt8) => digs x.toNat) 10 (m.p.blocks.take k2) (fun x _ => by rw [len_digs]; exact (nd_bd _).2)
                have h2 : (m.p.blocks.take k2).length ≤ 100 := by rw [List.length_take]; omega
                rw [List.length_append, blB]
                omega
              obtain ⟨b, o, hA, hb, v, HX, hx, hc⟩ := (hm.blocks.below hBw).byte NB.out hlt2
              rw [hA]
              clear hBuf9 hBg9
              go_wp2_with (
                go_at_call 37
                refine (write_any gb wr.heap.size 1 [v.toNat] _ _ ?_ ?_ (hBuf.below (below_alloc _ _)) ?_).mono ?_
                · exact (Fresh.new wr 74 (cu [v.toNat]) 1 rfl (by omega)).lower (by have := hBg.size; omega)
                · intro x hx; simp at hx; omega
                · omega
                rintro e w9 ⟨rfl, hBuf9, hB9⟩)
              go_roundw
              case rel =>
                refine ⟨k2 + 1, by omega, by go_num, ?_, hBg.trans (((below_alloc wr _).mono (Nat.le_trans (Nat.le_of_lt hgb3) hBg.size)).trans hB9)⟩
                rw [bl_step HX.out, ← List.append_assoc, ← digl_one]
                exact hBuf9
              case measure => simp [intOf]; omega
          · as_aux_lemma =>
              have hall : m.p.blocks.take k2 = m.p.blocks := List.take_of_length_le (by rw [NB.out]; omega)
              rw [hall] at hBuf
              have hlen : (L2 ++ blB m.p.blocks).length ≤ 20000 + 10 * 100 := by
                have h1 := flat_le (fun (x : UInt8) => digs x.toNat) 10 m.p.blocks (fun x _ => by rw [len_digs]; exact (nd_bd _).2)
                have h2 := hfa.blocks
                rw [List.length_append, blB]
                omega
              have c3 := (hBg.cell (p := ⟨g, 3, none⟩) hggb).trans c3b
              clear hall hBuf9 hBg9
              go_wp2_with (
                go_at_call 37
                refine (write_any gb wr.heap.size 1 [m.ni] _ _ ?_ ?_ (hBuf.below (below_alloc _ _)) ?_).mono ?_
                · exact (Fresh.new wr 74 (cu [m.ni]) 1 rfl (by omega)).lower (by have := hBg.size; omega)
                · intro x hx; simp at hx; omega
                · omega
                rintro e w9 ⟨rfl, hBuf9, hB9⟩
                have hBg9 := hBg.trans (((below_alloc wr _).mono (Nat.le_trans (Nat.le_of_lt hgb3) hBg.size)).trans hB9)
                have c3 := (hBg9.cell (p := ⟨g, 3, none⟩) hggb).trans c3b)
              obtain ⟨L3, hL3⟩ : ∃ L, L = L2 ++ blB m.p.blocks ++ digl [m.ni] := ⟨_, rfl⟩
              rw [← hL3] at hBuf9
              have HL3 : L3.length ≤ 30000 := by
                rw [hL3, List.length_append, digl_one, len_digs]
                have := (nd_bd m.ni).2
                omega
              have EL3 := Lib.hid hL3
              clear hL3 hBuf hlen hB9 hBw
              clear hBg c3
              go_loopw [13, 93] (fun s13 i wq => ∃ k : Nat, k ≤ m.ni ∧ i = .int .i64 k ∧ BufAt gb wq (L3 ++ (m.p.ins.take k).flatMap Jn.bytes) ∧ Below gb w3 wq) (fun _ i _ => m.ni - (intOf i).toNat)
              case atStart => exact ⟨0, by omega, rfl, by simpa using hBuf9, hBg9⟩
              case round =>
                obtain ⟨k3, hk3, rfl, hBuf, hBg⟩ := hrel
                have hBw : Below w.heap.size w wr := hB03.trans (hBg.mono hwgb)
                clear hBuf9 hBg9
                by_cases hlt3 : k3 < m.ni
                · as_aux_lemma =>
                    have hlen : (L3 ++ (m.p.ins.take k3).flatMap Jn.bytes).length ≤ 30000 + 40 * 2000 := by
                      have h1 := flat_le Jn.bytes 40 (m.p.ins.take k3) (fun x _ => len_jn x)
                      have h2 : (m.p.ins.take k3).length ≤ 2000 := by rw [List.length_take]; omega
                      rw [List.length_append]
                      omega
                    obtain ⟨b, o, hA, hb, j, HX, hx, hc⟩ := (hm.ins.below hBw).quad jn4 NI.out hlt3
                    have hj := hm.oki j hx
                    have hjo := hj.op
                    have hjt := hj.t
                    have hja := hj.a
                    have hjn := hj.n
                    have hja0 := jn_a (hfa.jn j hx)
                    obtain ⟨na, hna⟩ : ∃ na : Nat, j.a = (na : Int) := ⟨j.a.toNat, by omega⟩
                    have hna2 : na < 9223372036854775808 := by omega
                    have HNA := Lib.hid hna
                    clear hna hja hja0
                    clear hj
                    rw [hA]
                    go_wp2_with (first
                      | (with_reducible refine wpList_load rfl (.tmp 95) 53 rfl b (o + k3 * 4) _ rfl j.cells 4 (jn4 j) aggIns hc ?_)
                      | (with_reducible refine wpList_alloc (o := ⟨some 13, _, _, _, _, _⟩) rfl 53 rfl (Jn.cells default) zeroIns 4 (jn4 _) (by decide) ?_; intro g13 w4 hg13 hF4 hB4)
                      | (with_reducible refine wpList_store rfl rfl (.tmp 13) (.tmp 96) 53 rfl g13 0 wr.heap.size 53 4 (Jn.cells default) j.cells rfl rfl 4 (jn4 j) aggIns hF4 (by omega) (jn_one j) wr hB4 hg13 ?_))
                    intro w5 hF5 hB5 hoth5 hz5
                    rw [splice4 (jn4 default) (jn4 j)] at hF5
                    go_wp2_with fail
                    refine region_all_tail 14 (jnFacts gb g13 na j) (by kernel_rfl) (by kernel_rfl) (by kernel_rfl) (jnFacts_stab _ _ _ _) ?_ ?_
                    · intro w0 hb0
                      simp only [List.take_succ_cons, List.take_zero]
                      refine ⟨?_, ?_, ?_, ?_, ?_, ?_, ?_, ?_, ?_, ?_, ?_, ?_, ?_, ?_, trivial⟩
                      all_goals intro listed a1 w' hk hd
                      · have f5_ : a1.eval (.tmp 5) = .func (.func 37) #[] #[.pointer (some ⟨gb, 0, none⟩)] := hk.ev_old 5 (by kernel_rfl)
                        have g5_ : a1.tmps[5]?.getD undef = .func (.func 37) #[] #[.pointer (some ⟨gb, 0, none⟩)] := by simpa [Act.eval] using f5_
                        exact stepOk_value rfl (v := .func (.func 37) #[] #[.pointer (some ⟨gb, 0, none⟩)]) (by go_simp) rfl
                      · have f13_ : a1.eval (.tmp 13) = .pointer (some ⟨g13, 0, none⟩) := hk.ev_old 13 (by kernel_rfl)
                        have g13_ : a1.tmps[13]?.getD undef = .pointer (some ⟨g13, 0, none⟩) := by simpa [Act.eval] using f13_
                        exact stepOk_value rfl (v := .pointer (some ⟨g13, 0, none⟩)) (by go_simp) rfl
                      · obtain ⟨v1, e1, q1, rfl⟩ := hk.ev_new hd 1 98 (by kernel_rfl) rfl
                        have cc := ((hF5.below hb0).below hk.below).cell_ (k := 0) rfl
                        exact stepOk_value rfl (v := .int .u8 (j.op : Int)) (by go_simp) rfl
                      · obtain ⟨v2, e2, q2, rfl⟩ := hk.ev_new hd 2 99 (by kernel_rfl) rfl
                        exact stepOk_value rfl (v := .int .u64 (j.op : Int)) (by go_simp; rw [IntKind.wrap_u64]; omega) rfl
                      · have f13_ : a1.eval (.tmp 13) = .pointer (some ⟨g13, 0, none⟩) := hk.ev_old 13 (by kernel_rfl)
                        have g13_ : a1.tmps[13]?.getD undef = .pointer (some ⟨g13, 0, none⟩) := by simpa [Act.eval] using f13_
                        exact stepOk_value rfl (v := .pointer (some ⟨g13, 1, none⟩)) (by go_simp) rfl
                      · obtain ⟨v4, e4, q4, rfl⟩ := hk.ev_new hd 4 101 (by kernel_rfl) rfl
                        have cc := ((hF5.below hb0).below hk.below).cell_ (k := 1) rfl
                        exact stepOk_value rfl (v := .int .u8 (j.t : Int)) (by go_simp) rfl
                      · obtain ⟨v5, e5, q5, rfl⟩ := hk.ev_new hd 5 102 (by kernel_rfl) rfl
                        exact stepOk_value rfl (v := .int .u64 (j.t : Int)) (by go_simp; rw [IntKind.wrap_u64]; omega) rfl
                      · have f13_ : a1.eval (.tmp 13) = .pointer (some ⟨g13, 0, none⟩) := hk.ev_old 13 (by kernel_rfl)
                        have g13_ : a1.tmps[13]?.getD undef = .pointer (some ⟨g13, 0, none⟩) := by simpa [Act.eval] using f13_
                        exact stepOk_value rfl (v := .pointer (some ⟨g13, 2, none⟩)) (by go_simp) rfl
                      · obtain ⟨v7, e7, q7, rfl⟩ := hk.ev_new hd 7 104 (by kernel_rfl) rfl
                        have cc := ((hF5.below hb0).below hk.below).cell_ (k := 2) rfl
                        rw [HNA.out] at cc
                        exact stepOk_value rfl (v := .int .i64 (na : Int)) (by go_simp) rfl
                      · obtain ⟨v8, e8, q8, rfl⟩ := hk.ev_new hd 8 105 (by kernel_rfl) rfl
                        exact stepOk_value rfl (v := .int .u64 (na : Int)) (by go_simp; rw [IntKind.wrap_u64]; omega) rfl
                      · have f13_ : a1.eval (.tmp 13) = .pointer (some ⟨g13, 0, none⟩) := hk.ev_old 13 (by kernel_rfl)
                        have g13_ : a1.tmps[13]?.getD undef = .pointer (some ⟨g13, 0, none⟩) := by simpa [Act.eval] using f13_
                        exact stepOk_value rfl (v := .pointer (some ⟨g13, 3, none⟩)) (by go_simp) rfl
                      · obtain ⟨v10, e10, q10, rfl⟩ := hk.ev_new hd 10 107 (by kernel_rfl) rfl
                        have cc := ((hF5.below hb0).below hk.below).cell_ (k := 3) rfl
                        exact stepOk_value rfl (v := .int .i64 j.n) (by go_simp) rfl
                      · obtain ⟨v11, e11, q11, rfl⟩ := hk.ev_new hd 11 108 (by kernel_rfl) rfl
                        refine stepOk_enter rfl (f := 40) (args := #[.int .i64 j.n]) (by go_simp) ?_
                        refine (folded_any j.n _ hjn).mono ?_
                        rintro e w' ⟨rfl, rfl⟩
                        exact ⟨_, rfl, rfl, Below.refl _ _⟩
                      · obtain ⟨v3, e3, q3, rfl⟩ := hk.ev_new hd 3 100 (by kernel_rfl) rfl
                        obtain ⟨v6, e6, q6, rfl⟩ := hk.ev_new hd 6 103 (by kernel_rfl) rfl
                        obtain ⟨v9, e9, q9, rfl⟩ := hk.ev_new hd 9 106 (by kernel_rfl) rfl
                        obtain ⟨v12, e12, q12, rfl⟩ := hk.ev_new hd 12 109 (by kernel_rfl) rfl
                        refine stepOk_run rfl (v := .slice (some ⟨w'.heap.size, 0, none⟩) 4 4) (w' := w'.alloc (.cells (cu [j.op, j.t, na, foldF j.n]).toArray 74 (0, 0))) (by go_simp) ⟨_, rfl, (Fresh.new w' 74 (cu [j.op, j.t, na, foldF j.n]) 4 rfl (by omega)).lower ?_⟩ (below_alloc _ _)
                        have h2 := hb0.size
                        have h3 := hk.below.size
                        have h4 := hB5.size
                        have h5 := hBg.size
                        omega
                    · intro a1 w' hbw hp
                      obtain ⟨v0, p0, v1, p1, v2, p2, v3, p3, v4, p4, v5, p5, v6, p6, v7, p7, v8, p8, v9, p9, v10, p10, v11, p11, v12, p12, v13, p13, rfl⟩ := hp
                      simp only [jnFacts] at p0 p1 p2 p3 p4 p5 p6 p7 p8 p9 p10 p11 p12 p13
                      subst p0 p1 p2 p3 p4 p5 p6 p7 p8 p9 p10 p11 p12
                      obtain ⟨bn, rfl, hX13⟩ := p13
                      simp only [List.drop_succ_cons, List.drop_zero, Act.put, List.setIfInBounds_toArray, List.set_cons_succ, List.set_cons_zero]
                      have hBw5 := hB5.trans (hbw.mono hB5.size)
                      have hBg5 := hBg.trans (hBw5.mono (Nat.le_trans (Nat.le_of_lt hgb3) hBg.size))
                      go_wp2_with (
                        go_at_call 37
                        refine (write_any gb bn 4 [j.op, j.t, na, foldF j.n] _ _ hX13 ?_ (hBuf.below hBw5) ?_).mono ?_
                        · have h1 := fold64 hjn
                          intro x hx
                          simp at hx
                          rcases hx with rfl | rfl | rfl | rfl <;> omega
                        · omega
                        rintro e w9 ⟨rfl, hBuf9, hB9⟩)
                      go_roundw
                      case rel =>
                        refine ⟨k3 + 1, by omega, by go_num, ?_, hBg5.trans hB9⟩
                        have e1 : j.nums = [j.op, j.t, na, foldF j.n] := by rw [Jn.nums, HNA.out]; simp
                        rw [jn_step HX.out, e1, ← List.append_assoc]
                        exact hBuf9
                      case measure => simp [intOf]; omega
                · as_aux_lemma =>
                    have hall : m.p.ins.take k3 = m.p.ins := List.take_of_length_le (by rw [NI.out]; omega)
                    rw [hall] at hBuf
                    have eL : L3 ++ m.p.ins.flatMap Jn.bytes = m.p.bytes := by
                      rw [EL3.out, EL2.out, EL1.out, Pg.bytes, NV.out, NB.out, NI.out]
                      simp only [digl_one, List.nil_append, List.append_assoc]
                    rw [eL] at hBuf
                    obtain ⟨A9, n9, c9, hn9, hG9, hA9⟩ := hBuf
                    subst hn9
                    have d9 := hG9.cell_ (k := 0) rfl
                    go_wp2_with fail
                    go_ret2
                    exact ⟨A9, c9, rfl, hA9.lower (by omega), hBw⟩
end Go.Proofs.Ytangblcfdboghaa
