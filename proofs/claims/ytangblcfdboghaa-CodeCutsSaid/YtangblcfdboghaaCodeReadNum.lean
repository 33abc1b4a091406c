/-
  The closures of code.Read: a number, a small number, a name, at a place that moves.
-/
import Derived.Test.YtangblcfdboghaaCodeReadPure
import Derived.Test.YtangblcfdboghaaCodeBytes
namespace Go.Proofs.Ytangblcfdboghaa
open Go.RowKit
set_option linter.unusedVariables false

/-- The captured variables of Read: the bytes, the place, whether all was there. -/
structure RdAt (base gb ga gt : Nat) (w : World) (A : Option Addr) (n c : Nat) (l : List UInt8) (s : Rs) : Prop where
  bytes : Fresh base 27 w (some ⟨gb, 0, none⟩) 1 1 [.slice A n c]
  at_ : Fresh base 3 w (some ⟨ga, 0, none⟩) 1 1 [.int .i64 (s.1 : Int)]
  there : Fresh base 4 w (some ⟨gt, 0, none⟩) 1 1 [.bool s.2]
  sees : Sees w base A (cb l)
  len : l.length = n
  cap : n ≤ c
  small : n ≤ 1000000
  place : s.1 ≤ l.length
  hba : gb ≠ ga
  hbt : gb ≠ gt
  hat : ga ≠ gt
  hbase : base ≤ w.heap.size
/-- Writes nothing that was there but these two variables. -/
structure But2 (ga gt : Nat) (w w' : World) : Prop where
  os : w'.os = w.os
  tape : w'.tape = w.tape
  output : w'.output = w.output
  size : w.heap.size ≤ w'.heap.size
  keep : ∀ k, k < w.heap.size → k ≠ ga → k ≠ gt → w'.heap[k]? = w.heap[k]?
theorem But2.refl (ga gt : Nat) (w : World) : But2 ga gt w w := ⟨rfl, rfl, rfl, Nat.le_refl _, fun _ _ _ _ => rfl⟩
theorem But2.of_below {ga gt : Nat} {w w' : World} (h : Below w.heap.size w w') : But2 ga gt w w' := ⟨h.os, h.tape, h.output, h.size, fun k hk _ _ => h.block k hk⟩
theorem But2.then_ {ga gt : Nat} {a b c : World} (h : But2 ga gt a b) (k : But2 ga gt b c) : But2 ga gt a c :=
  ⟨k.os.trans h.os, k.tape.trans h.tape, k.output.trans h.output, Nat.le_trans h.size k.size, fun j hj h1 h2 => (k.keep j (Nat.lt_of_lt_of_le hj h.size) h1 h2).trans (h.keep j hj h1 h2)⟩
theorem But2.below {ga gt B : Nat} {w w' : World} (h : But2 ga gt w w') (h1 : B ≤ ga) (h2 : B ≤ gt) (hB : B ≤ w.heap.size) : Below B w w' :=
  ⟨h.os, h.tape, h.output, h.size, fun k hk => h.keep k (by omega) (by omega) (by omega)⟩
theorem But2.setCell {ga gt : Nat} {w w' : World} (h : But2 ga gt w w') (a : Nat) (ha : a = ga ∨ a = gt) (u : Value) : But2 ga gt w (w'.setCell ⟨a, 0, none⟩ u) :=
  ⟨h.os, h.tape, h.output, by simpa using h.size, fun k hk h1 h2 => (heap_setCell_other w' ⟨a, 0, none⟩ k u (by rcases ha with rfl | rfl <;> simpa)).trans (h.keep k hk h1 h2)⟩
theorem Fresh.but2 {ga gt base g n : Nat} {e : TypeId} {w w' : World} {xs : List Value} (h : Fresh base e w (some ⟨g, 0, none⟩) n n xs) (k : But2 ga gt w w') (h1 : g ≠ ga) (h2 : g ≠ gt) : Fresh base e w' (some ⟨g, 0, none⟩) n n xs :=
  Fresh.of_block (by rw [k.keep g h.lt_size h1 h2]; exact h.block.1) h.block.2 h.len h.cap.2
section
variable {base gb ga gt : Nat} {w w' : World} {A : Option Addr} {n c : Nat} {l : List UInt8} {s : Rs}
theorem RdAt.below (h : RdAt base gb ga gt w A n c l s) (x : Below w.heap.size w w') : RdAt base gb ga gt w' A n c l s :=
  ⟨h.bytes.below x, h.at_.below x, h.there.below x, h.sees.below (x.mono h.hbase), h.len, h.cap, h.small, h.place, h.hba, h.hbt, h.hat, Nat.le_trans h.hbase x.size⟩
theorem RdAt.setThere (h : RdAt base gb ga gt w A n c l s) (b : Bool) : RdAt base gb ga gt (w.setCell ⟨gt, 0, none⟩ (.bool b)) A n c l (s.1, b) := by
  have hb := h.there.block.2
  have ho : ∀ k, k ≠ gt → (w.setCell ⟨gt, 0, none⟩ (.bool b)).heap[k]? = w.heap[k]? := fun k hk => heap_setCell_other w _ k _ hk
  exact ⟨h.bytes.other h.hbt ho, h.at_.other h.hat ho, h.there.store 0 _, h.sees.keep (fun p hp => World.cell?_of_block (w := w) (ho p.block (by omega))), h.len, h.cap, h.small, h.place, h.hba, h.hbt, h.hat, by simpa using h.hbase⟩
theorem RdAt.setAt (h : RdAt base gb ga gt w A n c l s) (q : Nat) (hq : q ≤ l.length) : RdAt base gb ga gt (w.setCell ⟨ga, 0, none⟩ (.int .i64 (q : Int))) A n c l (q, s.2) := by
  have hb := h.at_.block.2
  have ho : ∀ k, k ≠ ga → (w.setCell ⟨ga, 0, none⟩ (.int .i64 (q : Int))).heap[k]? = w.heap[k]? := fun k hk => heap_setCell_other w _ k _ hk
  exact ⟨h.bytes.other h.hba ho, h.at_.store 0 _, h.there.other h.hat.symm ho, h.sees.keep (fun p hp => World.cell?_of_block (w := w) (ho p.block (by omega))), h.len, h.cap, h.small, hq, h.hba, h.hbt, h.hat, by simpa using h.hbase⟩
end
theorem getB_place {l : List UInt8} {p : Nat} {x : List UInt8} {q : Nat} (h : getB l p 40 = (x, q, 0)) : q ≤ l.length := by
  unfold getB at h
  by_cases h1 : (getU l p).2.2 ≠ 0
  · rw [if_pos h1] at h; simp only [Prod.mk.injEq] at h; exact absurd h.2.2 h1
  · rw [if_neg h1] at h
    by_cases h2 : (40 : Int) < (getU l p).1
    · rw [if_pos h2] at h; simp at h
    · rw [if_neg h2] at h
      by_cases h3 : l.length < (getU l p).2.1 + (getU l p).1
      · rw [if_pos h3] at h; simp at h
      · rw [if_neg h3] at h
        simp only [Prod.mk.injEq] at h
        omega
theorem sees_two {ga gt B0 m c1 q : Nat} {w1 : World} {A1 : Option Addr} {x : List UInt8} {b : Bool} (hF : Fresh B0 5 w1 A1 m c1 (cb x)) (hga : ga < B0) (hgt : gt < B0) :
    Sees ((w1.setCell ⟨gt, 0, none⟩ (.bool b)).setCell ⟨ga, 0, none⟩ (.int .i64 (q : Int))) w1.heap.size A1 (cb x) :=
  (hF.heap (fun k hk => (heap_setCell_other _ ⟨ga, 0, none⟩ k _ (by simp; omega)).trans (heap_setCell_other w1 ⟨gt, 0, none⟩ k _ (by simp; omega)))).sees.more (by simp)
theorem rnum_yes {l : List UInt8} {most : Nat} {s : Rs} {x q : Nat} (h1 : s.2 = true) (h2 : getU l s.1 = (x, q, 0)) (h3 : x ≤ most) : rnum l most s = (x, q, true) := by
  simp [rnum, h1, h2, h3]
theorem rnum_no {l : List UInt8} {most : Nat} {s : Rs} (h : ¬ (s.2 = true ∧ (getU l s.1).2.2 = 0 ∧ (getU l s.1).1 ≤ most)) : rnum l most s = (0, s.1, false) := by
  rw [rnum, if_neg h]

set_option maxHeartbeats 4000000 in
set_option maxRecDepth 100000 in
theorem number_any (base gb ga gt : Nat) (w : World) (A : Option Addr) (n c : Nat) (l : List UInt8) (s : Rs) (most : Nat) (h : RdAt base gb ga gt w A n c l s) (hm : most < 18446744073709551616) :
    Calls Try.prog 44 #[.int .u64 (most : Int), .pointer (some ⟨gb, 0, none⟩), .pointer (some ⟨ga, 0, none⟩), .pointer (some ⟨gt, 0, none⟩)] w
      fun e w' => e = .returned (.int .u64 ((rnum l most s).1 : Int)) ∧ RdAt base gb ga gt w' A n c l (rnum l most s).2 ∧ But2 ga gt w w' := by
  obtain ⟨p, ok⟩ := s
  obtain ⟨⟨x, q, r⟩, hg⟩ : ∃ t, getU l p = t := ⟨_, rfl⟩
  have SG : ∀ wq, Sees wq wq.heap.size A (cb l) → Calls Try.prog 45 #[.slice A n c, .int .i64 (p : Int)] wq fun e w' => e = .returned (.tuple #[.int .u64 (x : Int), .int .i64 (q : Int), .int .i64 (r : Int)]) ∧ wq = w' := fun wq hs =>
    GetUint_eq hg A c n wq hs h.len (by have := h.small; omega)
  have hsees := h.sees.more h.hbase
  have c0 := h.bytes.cell_ (k := 0) rfl
  have c1 := h.at_.cell_ (k := 0) rfl
  have c2 := h.there.cell_ (k := 0) rfl
  have f1 := h.at_.frozenAt (j := 0)
  have f2 := h.there.frozenAt (j := 0)
  simp only [] at c1 c2
  cases ok
  · have er : rnum l most (p, false) = (0, p, false) := rnum_no (by simp)
    go_enter Try.func44, Try.ntmps44
    go_wp2_with (go_at_call 45; refine (SG _ hsees).mono ?_; rintro e w' ⟨rfl, rfl⟩)
    go_ret
    rw [er]
    exact ⟨rfl, h.setThere false, (But2.refl ga gt w).setCell gt (.inr rfl) _⟩
  · by_cases hr : r = 0
    · subst hr
      have hok := getU_ok hg
      by_cases hx : x ≤ most
      · have er : rnum l most (p, true) = (x, q, true) := rnum_yes rfl hg hx
        have g1 : decide (x ≤ most) = true := by simpa using hx
        have HQ := Lib.hid hok
        have HX := Lib.hid hx
        clear hok hx
        have h1' := h.setThere true
        have c1' := h1'.at_.cell_ (k := 0) rfl
        have f1' := h1'.at_.frozenAt (j := 0)
        simp only [] at c1'
        go_enter Try.func44, Try.ntmps44
        go_wp2_with (go_at_call 45; refine (SG _ hsees).mono ?_; rintro e w' ⟨rfl, rfl⟩)
        go_ret
        rw [er]
        exact ⟨rfl, (h.setThere true).setAt q HQ.out.2.2.1, ((But2.refl ga gt w).setCell gt (.inr rfl) _).setCell ga (.inl rfl) _⟩
      · have er : rnum l most (p, true) = (0, p, false) := rnum_no (by rw [hg]; simp [hx])
        have g1 : decide (x ≤ most) = false := by simpa using hx
        have HX := Lib.hid hx
        clear hok hx
        go_enter Try.func44, Try.ntmps44
        go_wp2_with (go_at_call 45; refine (SG _ hsees).mono ?_; rintro e w' ⟨rfl, rfl⟩)
        go_ret
        rw [er]
        exact ⟨rfl, h.setThere false, (But2.refl ga gt w).setCell gt (.inr rfl) _⟩
    · have er : rnum l most (p, true) = (0, p, false) := rnum_no (by rw [hg]; simp [hr])
      have g1 : ((r : Int) == 0) = false := by simp; omega
      have HR := Lib.hid hr
      clear hr
      go_enter Try.func44, Try.ntmps44
      go_wp2_with (go_at_call 45; refine (SG _ hsees).mono ?_; rintro e w' ⟨rfl, rfl⟩)
      go_ret
      rw [er]
      exact ⟨rfl, h.setThere false, (But2.refl ga gt w).setCell gt (.inr rfl) _⟩
/-- The closure of a number, as a value. -/
abbrev numV (gb ga gt : Nat) : Value := .func (.func 44) #[] #[.pointer (some ⟨gb, 0, none⟩), .pointer (some ⟨ga, 0, none⟩), .pointer (some ⟨gt, 0, none⟩)]
set_option maxHeartbeats 4000000 in
set_option maxRecDepth 100000 in
theorem small_any (base gb ga gt gn b1 : Nat) (w : World) (A : Option Addr) (n c : Nat) (l : List UInt8) (s : Rs) (h : RdAt base gb ga gt w A n c l s) (hN : Fresh b1 81 w (some ⟨gn, 0, none⟩) 1 1 [numV gb ga gt]) :
    Calls Try.prog 46 #[.pointer (some ⟨gn, 0, none⟩)] w
      fun e w' => e = .returned (.int .u8 ((rnum l 255 s).1 : Int)) ∧ RdAt base gb ga gt w' A n c l (rnum l 255 s).2 ∧ But2 ga gt w w' := by
  have c0 := hN.cell_ (k := 0) rfl
  have hle := rnum_le l 255 s
  have S : Calls Try.prog 44 #[.int .u64 255, .pointer (some ⟨gb, 0, none⟩), .pointer (some ⟨ga, 0, none⟩), .pointer (some ⟨gt, 0, none⟩)] w
      fun e w' => e = .returned (.int .u64 ((rnum l 255 s).1 : Int)) ∧ RdAt base gb ga gt w' A n c l (rnum l 255 s).2 ∧ But2 ga gt w w' := number_any base gb ga gt w A n c l s 255 h (by omega)
  obtain ⟨⟨x, s'⟩, hx⟩ : ∃ t, rnum l 255 s = t := ⟨_, rfl⟩
  rw [hx] at S hle ⊢
  simp only [] at S hle ⊢
  have hw : IntKind.u8.wrap (x : Int) = (x : Int) := by simp [IntKind.wrap, IntKind.bits, IntKind.signed]; omega
  go_enter Try.func46, Try.ntmps46
  go_wp2_with (go_at_call 44; refine S.mono ?_; rintro e w1 ⟨rfl, hR1, hB1⟩)
  go_ret
  exact ⟨rfl, hR1, hB1⟩
set_option maxHeartbeats 4000000 in
set_option maxRecDepth 100000 in
theorem name_any (base gb ga gt : Nat) (w : World) (A : Option Addr) (n c : Nat) (l : List UInt8) (s : Rs) (h : RdAt base gb ga gt w A n c l s) :
    Calls Try.prog 47 #[.pointer (some ⟨gb, 0, none⟩), .pointer (some ⟨ga, 0, none⟩), .pointer (some ⟨gt, 0, none⟩)] w
      fun e w' => e = .returned (sv (rname l s).1) ∧ RdAt base gb ga gt w' A n c l (rname l s).2 ∧ But2 ga gt w w' := by
  obtain ⟨p, ok⟩ := s
  obtain ⟨⟨x, q, r⟩, hg⟩ : ∃ t, getB l p 40 = t := ⟨_, rfl⟩
  have SG : ∀ wq, Sees wq wq.heap.size A (cb l) → Calls Try.prog 48 #[.slice A n c, .int .i64 (p : Int), .int .i64 40] wq (Tells wq (x, q, r)) := fun wq hs => by
    have := GetBlob_any A c n p 40 l wq hs h.len h.cap (by have := h.small; omega) (by omega)
    rwa [hg] at this
  have hsees := h.sees.more h.hbase
  have c0 := h.bytes.cell_ (k := 0) rfl
  have c1 := h.at_.cell_ (k := 0) rfl
  simp only [] at c1
  cases ok
  · have er : rname l (p, false) = ([], p, false) := by simp [rname]
    go_enter Try.func47, Try.ntmps47
    go_wp2_with (go_at_call 48; refine (SG _ hsees).mono ?_; rintro e w1 ⟨A1, c1', rfl, hF1, hB1⟩; have h1 := h.below hB1; have c2 := h1.there.cell_ (k := 0) rfl; have f2 := h1.there.frozenAt (j := 0); simp only [] at c2)
    go_ret
    rw [er]
    exact ⟨rfl, h1.setThere false, (But2.of_below hB1).setCell gt (.inr rfl) _⟩
  · by_cases hr : r = 0
    · subst hr
      have er : rname l (p, true) = (x, q, true) := by simp [rname, hg]
      have hq : q ≤ l.length := getB_place hg
      go_enter Try.func47, Try.ntmps47
      go_wp2_with (go_at_call 48; refine (SG _ hsees).mono ?_; rintro e w1 ⟨A1, c1', rfl, hF1, hB1⟩; have h1 := h.below hB1; have c2 := h1.there.cell_ (k := 0) rfl; have f2 := h1.there.frozenAt (j := 0); have h2 := h1.setThere true; have f3 := h2.at_.frozenAt (j := 0); have c3 := h2.at_.cell_ (k := 0) rfl; have h3 := h2.setAt q hq; have hF3 : Sees ((w1.setCell ⟨gt, 0, none⟩ (.bool true)).setCell ⟨ga, 0, none⟩ (.int .i64 (q : Int))) w1.heap.size A1 (cb x) := sees_two hF1 h.at_.lt_size h.there.lt_size; have hstr := run_str hF3 rfl c1'; simp only [] at c2 c3)
      go_ret
      rw [er]
      exact ⟨rfl, h3, ((But2.of_below hB1).setCell gt (.inr rfl) _).setCell ga (.inl rfl) _⟩
    · have er : rname l (p, true) = ([], p, false) := by simp [rname, hg, hr]
      have g1 : ((r : Int) == 0) = false := by simp; omega
      go_enter Try.func47, Try.ntmps47
      go_wp2_with (go_at_call 48; refine (SG _ hsees).mono ?_; rintro e w1 ⟨A1, c1', rfl, hF1, hB1⟩; have h1 := h.below hB1; have c2 := h1.there.cell_ (k := 0) rfl; have f2 := h1.there.frozenAt (j := 0); simp only [] at c2)
      go_ret
      rw [er]
      exact ⟨rfl, h1.setThere false, (But2.of_below hB1).setCell gt (.inr rfl) _⟩
end Go.Proofs.Ytangblcfdboghaa
