/-
  What awake of the statements' package answers: true; the chapter's examples come out as they are written.
-/
import Derived.Test.YtpdfalgjmeagjaaReads
namespace Go.Proofs.Ytpdfalgjmeagjaa
open Go.RowKit
set_option linter.unusedVariables false

theorem flat_get (ts : List Tr) : ∀ (k j : Nat) (t : Tr) (u : Value), ts[k]? = some t → t.cells[j]? = some u → (ts.flatMap Tr.cells)[k * 5 + j]? = some u := by
  induction ts with
  | nil => intro k j t u h; simp at h
  | cons a ts ih =>
    intro k j t u h hu
    have hl : ∀ t : Tr, t.cells.length = 5 := fun _ => rfl
    have hj : j < 5 := by
      have := (List.getElem?_eq_some_iff.1 hu).1
      rwa [hl] at this
    rw [List.flatMap_cons]
    rcases k with _ | k
    · simp at h
      subst h
      rw [List.getElem?_append_left (by rw [hl]; omega)]
      simpa using hu
    · rw [List.getElem?_append_right (by rw [hl]; omega), hl, show (k + 1) * 5 + j - 5 = k * 5 + j from by omega]
      exact ih k j t u (by simpa using h) hu
theorem tries_lit (W : World) (e : TypeId) (C : Array Value) (ts : List Tr) (hC : C = (ts.flatMap Tr.cells).toArray) (h : ∀ t ∈ ts, t.Ok W) : Tries (W.alloc (.cells C e)) W.heap.size ts := by
  subst hC
  refine ⟨by simp, fun k t hk => ⟨fun j u hu => ?_, (h t (List.mem_of_getElem? hk)).step ((Below.refl _ _).alloc (Nat.le_refl _) _)⟩⟩
  rw [World.cell?_alloc_mark]
  simpa using flat_get ts k j t u hk hu

theorem below_alloc (w : World) (o : Obj) : Below w.heap.size w (w.alloc o) := (Below.refl _ _).alloc (Nat.le_refl _) _

def three (w : World) : World :=
  ((w.alloc (.cells #[.int .u8 172, .int .u8 2] 5)).alloc (.cells #[.int .u8 172] 5)).alloc (.cells #[.int .u8 128, .int .u8 0] 5)
def threeTries (w : World) : List Tr :=
  [⟨some ⟨w.heap.size, 0, none⟩, 2, 2, 0, 300, 2, 0⟩, ⟨some ⟨w.heap.size + 1, 0, none⟩, 1, 1, 0, 0, 0, 10⟩, ⟨some ⟨w.heap.size + 1 + 1, 0, none⟩, 2, 2, 0, 0, 0, 11⟩]
theorem ok_mk {W : World} {B : Nat} {A : Option Addr} {n c : Nat} {p : Int} {x q r : Nat} (l : List UInt8) (hs : Sees W B A (cb l)) (hB : B ≤ W.heap.size) (hl : l.length = n) (hn : n ≤ 1099511627776) (hg : getU l p = (x, q, r)) : Tr.Ok W ⟨A, n, c, p, x, q, r⟩ :=
  ⟨l, hs.more hB, hl, hn, hg⟩
theorem three_ok (w : World) : ∀ t ∈ threeTries w, t.Ok (three w) := by
  have s1 := ((sees_lit w 5 (0, 0) [172, 2]).step (below_alloc _ (.cells #[.int .u8 172] 5))).step (below_alloc _ (.cells #[.int .u8 128, .int .u8 0] 5))
  have s2 := (sees_lit (w.alloc (.cells #[.int .u8 172, .int .u8 2] 5)) 5 (0, 0) [172]).step (below_alloc _ (.cells #[.int .u8 128, .int .u8 0] 5))
  have s3 := sees_lit ((w.alloc (.cells #[.int .u8 172, .int .u8 2] 5)).alloc (.cells #[.int .u8 172] 5)) 5 (0, 0) [128, 0]
  simp only [World.size_alloc] at s2 s3
  intro t ht
  simp only [threeTries, List.mem_cons, List.not_mem_nil, or_false] at ht
  rcases ht with rfl | rfl | rfl
  · exact ok_mk [172, 2] s1 (by simp [three]) rfl (by omega) (by decide)
  · exact ok_mk [172] s2 (by simp [three]) rfl (by omega) (by decide)
  · exact ok_mk [128, 0] s3 (by simp [three]) rfl (by omega) (by decide)
theorem three_below (w : World) (o : Obj) : Below w.heap.size w ((three w).alloc o) :=
  Below.then_ (Below.then_ (Below.then_ (below_alloc w _) (below_alloc _ _)) (below_alloc _ _)) (below_alloc _ _)

end Go.Proofs.Ytpdfalgjmeagjaa
