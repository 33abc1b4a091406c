/-
  A program is read as it was written; what is read of any bytes, written again, is those bytes, and is right.
-/
import Derived.Test.YtangblcfdboghaaCodeRead
import Derived.Test.YtangblcfdboghaaCodeNo
import Derived.Test.YtangblcfdboghaaCodeSame
import Derived.Test.YtangblcfdboghaaRow
namespace Go.Proofs.Ytangblcfdboghaa
open Go.RowKit
set_option linter.unusedVariables false
set_option linter.constructorNameAsVariable false

theorem small_of {p : Pg} (h : p.right = true) (ho : ∀ j ∈ p.ins, j.Ok) : Small p :=
  ⟨fun j hj => ⟨(ho j hj).op, (ho j hj).t, jn_a ((Pg.facts h).jn j hj), (ho j hj).a.2, (ho j hj).n.1, (ho j hj).n.2⟩⟩
theorem bytes_le {p : Pg} (h : p.right = true) : p.bytes.length ≤ 1000000 := by
  have hf := Pg.facts h
  have h1 := flat_le Vr.bytes 80 p.vars (fun x hx => len_vr x (Vr.right_facts (hf.var x hx)).1)
  have h2 := flat_le (fun (x : UInt8) => digs x.toNat) 10 p.blocks (fun x _ => by rw [len_digs]; exact (nd_bd _).2)
  have h3 := flat_le Jn.bytes 40 p.ins (fun x _ => len_jn x)
  have q1 := hf.name
  have q2 := hf.vars
  have q3 := hf.blocks
  have q4 := hf.ins
  have n1 := (nd_bd p.name.length).2
  have n2 := (nd_bd p.vars.length).2
  have n3 := (nd_bd p.blocks.length).2
  have n4 := (nd_bd p.ins.length).2
  simp only [Pg.bytes, blob, blB, List.length_append, len_digs]
  omega
/-- Whether Right answers as it does. -/
theorem Right_is (m : Pm) (w : World) (hm : PmAt w.heap.size w m) (r : Bool) (hr : m.p.right = r) : Calls Try.prog 26 #[.agg m.cells.toArray] w fun e w' => e = .returned (.bool r) ∧ Below w.heap.size w w' := by
  have := Right_any m w hm
  rwa [hr] at this
/-- A program's bytes, read: the program. -/
theorem Read_back (m : Pm) (hr : m.p.right = true) (ho : ∀ j ∈ m.p.ins, j.Ok) (A : Option Addr) (n c : Nat) (w : World) (hs : Sees w w.heap.size A (cb m.p.bytes)) (hl : m.p.bytes.length = n) (hc : n ≤ c) :
    Calls Try.prog 16 #[.slice A n c] w fun e w' => (∃ d : Pm, e = .returned (.tuple #[.agg d.cells.toArray, .int .i64 0]) ∧ d.p = m.p ∧ PmAt w'.heap.size w' d) ∧ Below w.heap.size w w' := by
  refine (Read_any A n c m.p.bytes w hs hl hc (by rw [← hl]; exact bytes_le hr)).mono ?_
  rintro e w' ⟨h, hB⟩
  obtain ⟨h1, h2⟩ := readOk_bytes hr (small_of hr ho)
  unfold ReadOut at h
  rw [if_pos h1] at h
  obtain ⟨d, hd, he, hp⟩ := h
  exact ⟨⟨d, he, hd.trans h2, hp⟩, hB⟩
/-- Any bytes, read: none, or the program whose bytes they are. -/
theorem Read_yes (A : Option Addr) (n c : Nat) (l : List UInt8) (w : World) (hs : Sees w w.heap.size A (cb l)) (hl : l.length = n) (hc : n ≤ c) (hn : n ≤ 1000000) (hy : readOk l = true) :
    Calls Try.prog 16 #[.slice A n c] w fun e w' => (∃ d : Pm, e = .returned (.tuple #[.agg d.cells.toArray, .int .i64 0]) ∧ d.p.right = true ∧ d.p.bytes = l ∧ PmAt w'.heap.size w' d) ∧ Below w.heap.size w w' := by
  refine (Read_any A n c l w hs hl hc hn).mono ?_
  rintro e w' ⟨h, hB⟩
  obtain ⟨h1, h2⟩ := readOk_is hy
  unfold ReadOut at h
  rw [if_pos hy] at h
  obtain ⟨d, hd, he, hp⟩ := h
  exact ⟨⟨d, he, by rw [hd]; exact h1, by rw [hd]; exact h2, hp⟩, hB⟩
theorem Read_no (A : Option Addr) (n c : Nat) (l : List UInt8) (w : World) (hs : Sees w w.heap.size A (cb l)) (hl : l.length = n) (hc : n ≤ c) (hn : n ≤ 1000000) (hy : readOk l = false) :
    Calls Try.prog 16 #[.slice A n c] w fun e w' => e = .returned (.tuple #[.agg noCells.toArray, .int .i64 130]) ∧ Below w.heap.size w w' := by
  refine (Read_any A n c l w hs hl hc hn).mono ?_
  rintro e w' ⟨h, hB⟩
  unfold ReadOut at h
  rw [if_neg (by rw [hy]; simp)] at h
  exact ⟨h, hB⟩
theorem Bytes_is (m : Pm) (w : World) (hm : PmAt w.heap.size w m) (hr : m.p.right = true) (l : List UInt8) (hb : m.p.bytes = l) (n : Nat) (hl : l.length = n) :
    Calls Try.prog 14 #[.agg m.cells.toArray] w fun e w' => ∃ A c, e = .returned (.tuple #[.slice A n c, .int .i64 0]) ∧ Fresh w.heap.size 5 w' A n c (cb l) ∧ Below w.heap.size w w' := by
  have := Bytes_yes m w hm hr
  rw [hb, hl] at this
  exact this
theorem Same_yes (a b : Pm) (w : World) (ha : PmAt w.heap.size w a) (hb : PmAt w.heap.size w b) (h : a.p = b.p) :
    Calls Try.prog 22 #[.agg a.cells.toArray, .agg b.cells.toArray] w fun e w' => e = .returned (.bool true) ∧ Below w.heap.size w w' := by
  refine (Same_any a b w ha hb).mono ?_
  rintro e w' ⟨⟨r, he, hr⟩, hB⟩
  exact ⟨by rw [he, hr.2 h], hB⟩

end Go.Proofs.Ytangblcfdboghaa
