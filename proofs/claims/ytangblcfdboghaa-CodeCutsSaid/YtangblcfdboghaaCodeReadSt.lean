/-
  What code.Read holds while it reads: the place, and the program so far; what each step leaves of it.
-/
import Derived.Test.YtangblcfdboghaaOwnQuad
namespace Go.Proofs.Ytangblcfdboghaa
open Go.RowKit
set_option linter.unusedVariables false

theorem RdAt.keepT {base gb ga gt : Nat} {w w' : World} {A : Option Addr} {n c : Nat} {l : List UInt8} {s : Rs} (h : RdAt base gb ga gt w A n c l s) (k1 : KeepT 27 w w') (k2 : KeepT 3 w w') (k3 : KeepT 4 w w') (hB : Below base w w') : RdAt base gb ga gt w' A n c l s :=
  ⟨h.bytes.keepT k1, h.at_.keepT k2, h.there.keepT k3, h.sees.below hB, h.len, h.cap, h.small, h.place, h.hba, h.hbt, h.hat, Nat.le_trans h.hbase hB.size⟩
/-- The cells of a program whose lists lie here. -/
abbrev cdCells (p : Pg) (Av : Option Addr) (cv : Nat) (Ab : Option Addr) (cb' : Nat) (Ai : Option Addr) (ci : Nat) : List Value := [sv p.name, .slice Av p.vars.length cv, .slice Ab p.blocks.length cb', .slice Ai p.ins.length ci]
def noCells : List Value := [sv [], .slice none 0 0, .slice none 0 0, .slice none 0 0]
structure RS (base gb ga gt gn gc gr : Nat) (w : World) (A : Option Addr) (n c : Nat) (l : List UInt8) (s : Rs) (p : Pg) (Av : Option Addr) (cv : Nat) (Ab : Option Addr) (cb' : Nat) (Ai : Option Addr) (ci : Nat) : Prop where
  rd : RdAt base gb ga gt w A n c l s
  nu : Fresh base 81 w (some ⟨gn, 0, none⟩) 1 1 [numV gb ga gt]
  cd : Fresh base 26 w (some ⟨gc, 0, none⟩) 4 4 (cdCells p Av cv Ab cb' Ai ci)
  res : Fresh base 26 w (some ⟨gr, 0, none⟩) 4 4 noCells
  hne : gr ≠ gc
  vs : OwnQ 56 Vr.cells base w Av p.vars.length cv p.vars
  bs : Fresh base 29 w Ab p.blocks.length cb' (cb p.blocks)
  js : OwnQ 53 Jn.cells base w Ai p.ins.length ci p.ins
section
variable {base gb ga gt gn gc gr : Nat} {w w' : World} {A : Option Addr} {n c : Nat} {l : List UInt8} {s s' : Rs} {p : Pg} {Av : Option Addr} {cv : Nat} {Ab : Option Addr} {cb' : Nat} {Ai : Option Addr} {ci : Nat}
theorem RS.below (h : RS base gb ga gt gn gc gr w A n c l s p Av cv Ab cb' Ai ci) (x : Below w.heap.size w w') : RS base gb ga gt gn gc gr w' A n c l s p Av cv Ab cb' Ai ci :=
  ⟨h.rd.below x, h.nu.below x, h.cd.below x, h.res.below x, h.hne, h.vs.below x, h.bs.below x, h.js.below x⟩
theorem RS.but2 (h : RS base gb ga gt gn gc gr w A n c l s p Av cv Ab cb' Ai ci) (k : But2 ga gt w w') (hs : RdAt base gb ga gt w' A n c l s') : RS base gb ga gt gn gc gr w' A n c l s' p Av cv Ab cb' Ai ci ∧ Below base w w' := by
  have K : ∀ e, e ≠ 3 → e ≠ 4 → KeepT e w w' := fun e n1 n2 => KeepT.of_but2 k h.rd.at_ h.rd.there n1 n2
  exact ⟨⟨hs, h.nu.keepT (K _ (by decide) (by decide)), h.cd.keepT (K _ (by decide) (by decide)), h.res.keepT (K _ (by decide) (by decide)), h.hne, h.vs.keepT (K _ (by decide) (by decide)), h.bs.keepT (K _ (by decide) (by decide)), h.js.keepT (K _ (by decide) (by decide))⟩,
    k.below h.rd.at_.block.2 h.rd.there.block.2 h.rd.hbase⟩
theorem RS.number (h : RS base gb ga gt gn gc gr w A n c l s p Av cv Ab cb' Ai ci) (most : Nat) (hm : most < 18446744073709551616) :
    Calls Try.prog 44 #[.int .u64 (most : Int), .pointer (some ⟨gb, 0, none⟩), .pointer (some ⟨ga, 0, none⟩), .pointer (some ⟨gt, 0, none⟩)] w
      fun e w' => e = .returned (.int .u64 ((rnum l most s).1 : Int)) ∧ RS base gb ga gt gn gc gr w' A n c l (rnum l most s).2 p Av cv Ab cb' Ai ci ∧ Below base w w' ∧ But2 ga gt w w' := by
  refine (number_any base gb ga gt w A n c l s most h.rd hm).mono ?_
  rintro e w' ⟨rfl, h1, h2⟩
  have := h.but2 h2 h1
  exact ⟨rfl, this.1, this.2, h2⟩
theorem RS.small (h : RS base gb ga gt gn gc gr w A n c l s p Av cv Ab cb' Ai ci) :
    Calls Try.prog 46 #[.pointer (some ⟨gn, 0, none⟩)] w
      fun e w' => e = .returned (.int .u8 ((rnum l 255 s).1 : Int)) ∧ RS base gb ga gt gn gc gr w' A n c l (rnum l 255 s).2 p Av cv Ab cb' Ai ci ∧ Below base w w' ∧ But2 ga gt w w' := by
  refine (small_any base gb ga gt gn base w A n c l s h.rd h.nu).mono ?_
  rintro e w' ⟨rfl, h1, h2⟩
  have := h.but2 h2 h1
  exact ⟨rfl, this.1, this.2, h2⟩
theorem RS.name (h : RS base gb ga gt gn gc gr w A n c l s p Av cv Ab cb' Ai ci) :
    Calls Try.prog 47 #[.pointer (some ⟨gb, 0, none⟩), .pointer (some ⟨ga, 0, none⟩), .pointer (some ⟨gt, 0, none⟩)] w
      fun e w' => e = .returned (sv (rname l s).1) ∧ RS base gb ga gt gn gc gr w' A n c l (rname l s).2 p Av cv Ab cb' Ai ci ∧ Below base w w' ∧ But2 ga gt w w' := by
  refine (name_any base gb ga gt w A n c l s h.rd).mono ?_
  rintro e w' ⟨rfl, h1, h2⟩
  have := h.but2 h2 h1
  exact ⟨rfl, this.1, this.2, h2⟩
/-- The rows of other elements are as they were; the block of the program is written. -/
theorem RS.turn (h : RS base gb ga gt gn gc gr w A n c l s p Av cv Ab cb' Ai ci) {w2 w3 : World} {row : Option Nat} (hg : w.grownBy w2 row) (t : TypeId) (hrow : ∀ g, row = some g → base ≤ g ∧ ∃ ys fz, w.heap[g]? = some (.cells ys t fz))
    (ht : t ≠ 27 ∧ t ≠ 3 ∧ t ≠ 4 ∧ t ≠ 81 ∧ t ≠ 26) (i : Nat) (u : Value) (h3 : w3 = w2.setCell ⟨gc, i, none⟩ u) :
    RdAt base gb ga gt w3 A n c l s ∧ Fresh base 81 w3 (some ⟨gn, 0, none⟩) 1 1 [numV gb ga gt] ∧ Fresh base 26 w3 (some ⟨gc, 0, none⟩) 4 4 ((cdCells p Av cv Ab cb' Ai ci).set i u) ∧ Fresh base 26 w3 (some ⟨gr, 0, none⟩) 4 4 noCells ∧ Below base w w3 ∧
      (∀ e, e ≠ t → e ≠ 26 → KeepT e w w3) ∧ (∀ e, e ≠ 26 → KeepT e w2 w3) := by
  subst h3
  have K1 : ∀ e, e ≠ t → KeepT e w w2 := fun e he => KeepT.of_grown hg (fun g hgr => by
    obtain ⟨_, ys, fz, hy⟩ := hrow g hgr
    exact ⟨ys, t, fz, hy, he⟩)
  have hB : Below base w w2 := ⟨hg.os, hg.tape, hg.output, hg.size, fun k hk => hg.block k (Nat.lt_of_lt_of_le hk h.rd.hbase) (fun e => by
    have := (hrow k e.symm).1
    omega)⟩
  have c2 := h.cd.keepT (K1 _ (by exact fun e => ht.2.2.2.2 e.symm))
  have ho : ∀ k, k ≠ gc → (w2.setCell ⟨gc, i, none⟩ u).heap[k]? = w2.heap[k]? := fun k hk => heap_setCell_other w2 _ k _ hk
  have K2 : ∀ e, e ≠ 26 → KeepT e w2 (w2.setCell ⟨gc, i, none⟩ u) := fun e he => KeepT.of_other c2.block.1 he ho
  have K : ∀ e, e ≠ t → e ≠ 26 → KeepT e w (w2.setCell ⟨gc, i, none⟩ u) := fun e he hc => (K1 e he).then_ (K2 e hc)
  have hB3 : Below base w (w2.setCell ⟨gc, i, none⟩ u) := hB.setCell c2.block.2 _
  have r2 := h.res.keepT (K1 _ (by exact fun e => ht.2.2.2.2 e.symm))
  refine ⟨h.rd.keepT (K _ (fun e => ht.1 e.symm) (by decide)) (K _ (fun e => ht.2.1 e.symm) (by decide)) (K _ (fun e => ht.2.2.1 e.symm) (by decide)) hB3, h.nu.keepT (K _ (fun e => ht.2.2.2.1 e.symm) (by decide)), c2.store i u, r2.other h.hne ho, hB3, K, K2⟩
/-- A block of a variable that is none of the program's own is written. -/
theorem RS.aside (h : RS base gb ga gt gn gc gr w A n c l s p Av cv Ab cb' Ai ci) {g B : Nat} {w0 : World} {ys : Array Value} {fz : Nat × Nat} (hg : w.heap[g]? = some (.cells ys 56 fz)) (ho : ∀ k, k ≠ g → w'.heap[k]? = w.heap[k]?) (hv : ∀ q, (Value.slice Av p.vars.length cv).ownBlock = some q → q ≠ g)
    (h2 : Below B w0 w') (h1 : Below B w0 w) (hb : base ≤ g) (hsz : w.heap.size ≤ w'.heap.size) : RS base gb ga gt gn gc gr w' A n c l s p Av cv Ab cb' Ai ci := by
  have K : ∀ e, e ≠ 56 → KeepT e w w' := fun e he => KeepT.of_other hg he ho
  have hB : Below base w w' := ⟨h2.os.trans h1.os.symm, h2.tape.trans h1.tape.symm, h2.output.trans h1.output.symm, hsz, fun k hk => ho k (by omega)⟩
  refine ⟨h.rd.keepT (K _ (by decide)) (K _ (by decide)) (K _ (by decide)) hB, h.nu.keepT (K _ (by decide)), h.cd.keepT (K _ (by decide)), h.res.keepT (K _ (by decide)), h.hne, ?_, h.bs.keepT (K _ (by decide)), h.js.keepT (K _ (by decide))⟩
  refine ⟨h.vs.1, ?_⟩
  rcases h.vs.2 with hn | ⟨q, cap, cur, hq, hbg, hh, rest⟩
  · exact .inl hn
  · exact .inr ⟨q, cap, cur, hq, hbg, by rw [ho q (hv q (by rw [hq]; rfl))]; exact hh, rest⟩
theorem RS.addVar (h : RS base gb ga gt gn gc gr w A n c l s p Av cv Ab cb' Ai ci) {w2 w3 : World} {A' : Option Addr} {c' : Nat} {v : Vr} (hA : OwnQ 56 Vr.cells base w2 A' (p.vars.length + 1) c' (p.vars ++ [v])) (hg : w.grownBy w2 (Value.slice Av p.vars.length cv).ownBlock) (h3 : w3 = w2.setCell ⟨gc, 1, none⟩ (.slice A' (p.vars.length + 1) c')) :
    RS base gb ga gt gn gc gr w3 A n c l s ⟨p.name, p.vars ++ [v], p.blocks, p.ins⟩ A' c' Ab cb' Ai ci ∧ Below base w w3 := by
  obtain ⟨r1, r2, r3, r4, r5, K, K2⟩ := h.turn hg 56 h.vs.block (by decide) 1 _ h3
  refine ⟨⟨r1, r2, ?_, r4, h.hne, ?_, h.bs.keepT (K _ (by decide) (by decide)), h.js.keepT (K _ (by decide) (by decide))⟩, r5⟩
  · simpa [cdCells] using r3
  · simpa using hA.keepT (K2 _ (by decide))
theorem RS.addBlk (h : RS base gb ga gt gn gc gr w A n c l s p Av cv Ab cb' Ai ci) {w2 w3 : World} {A' : Option Addr} {c' : Nat} {v : UInt8} (hA : Fresh base 29 w2 A' (p.blocks.length + 1) c' (cb p.blocks ++ [.int .u8 (v.toNat : Int)])) (hg : w.grownBy w2 (Value.slice Ab p.blocks.length cb').ownBlock) (h3 : w3 = w2.setCell ⟨gc, 2, none⟩ (.slice A' (p.blocks.length + 1) c')) :
    RS base gb ga gt gn gc gr w3 A n c l s ⟨p.name, p.vars, p.blocks ++ [v], p.ins⟩ Av cv A' c' Ai ci ∧ Below base w w3 := by
  obtain ⟨r1, r2, r3, r4, r5, K, K2⟩ := h.turn hg 29 h.bs.blockT (by decide) 2 _ h3
  refine ⟨⟨r1, r2, ?_, r4, h.hne, h.vs.keepT (K _ (by decide) (by decide)), ?_, h.js.keepT (K _ (by decide) (by decide))⟩, r5⟩
  · simpa [cdCells] using r3
  · simpa using hA.keepT (K2 _ (by decide))
theorem RS.addIns (h : RS base gb ga gt gn gc gr w A n c l s p Av cv Ab cb' Ai ci) {w2 w3 : World} {A' : Option Addr} {c' : Nat} {v : Jn} (hA : OwnQ 53 Jn.cells base w2 A' (p.ins.length + 1) c' (p.ins ++ [v])) (hg : w.grownBy w2 (Value.slice Ai p.ins.length ci).ownBlock) (h3 : w3 = w2.setCell ⟨gc, 3, none⟩ (.slice A' (p.ins.length + 1) c')) :
    RS base gb ga gt gn gc gr w3 A n c l s ⟨p.name, p.vars, p.blocks, p.ins ++ [v]⟩ Av cv Ab cb' A' c' ∧ Below base w w3 := by
  obtain ⟨r1, r2, r3, r4, r5, K, K2⟩ := h.turn hg 53 h.js.block (by decide) 3 _ h3
  refine ⟨⟨r1, r2, ?_, r4, h.hne, h.vs.keepT (K _ (by decide) (by decide)), h.bs.keepT (K _ (by decide) (by decide)), ?_⟩, r5⟩
  · simpa [cdCells] using r3
  · simpa using hA.keepT (K2 _ (by decide))
end
end Go.Proofs.Ytangblcfdboghaa
