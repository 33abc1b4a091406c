/-
  What awake of the statements' package answers: true; the chapter's examples come out as they are written.
-/
import Derived.Test.YtmkpopfaaebgfaaReads
namespace Go.Proofs.Ytmkpopfaaebgfaa
open Go.RowKit
set_option linter.unusedVariables false

theorem flat_get (ts : List Tr) : ∀ (k j : Nat) (t : Tr) (u : Value), ts[k]? = some t → t.cells[j]? = some u → (ts.flatMap Tr.cells)[k * 5 + j]? = some u := by
  induction ts with
  | nil => intro k j t u h; simp at h
  | cons a ts ih =>
    intro k j t u h hu
    have hl : ∀ t : Tr, t.cells.length = 5 := fun _ => rfl
    have hj : j < 5 := by
      have := (List.getElem?_eq_some_iff.1 hu).1
      rwa [hl] at this
    rw [List.flatMap_cons]
    rcases k with _ | k
    · simp at h
      subst h
      rw [List.getElem?_append_left (by rw [hl]; omega)]
      simpa using hu
    · rw [List.getElem?_append_right (by rw [hl]; omega), hl, show (k + 1) * 5 + j - 5 = k * 5 + j from by omega]
      exact ih k j t u (by simpa using h) hu
theorem tries_lit (W : World) (e : TypeId) (C : Array Value) (ts : List Tr) (hC : C = (ts.flatMap Tr.cells).toArray) (h : ∀ t ∈ ts, t.Ok W) : Tries (W.alloc (.cells C e)) W.heap.size ts := by
  subst hC
  refine ⟨by simp, fun k t hk => ⟨fun j u hu => ?_, (h t (List.mem_of_getElem? hk)).step ((Below.refl _ _).alloc (Nat.le_refl _) _)⟩⟩
  rw [World.cell?_alloc_mark]
  simpa using flat_get ts k j t u hk hu

theorem below_alloc (w : World) (o : Obj) : Below w.heap.size w (w.alloc o) := (Below.refl _ _).alloc (Nat.le_refl _) _

def three (w : World) : World :=
  ((w.alloc (.cells #[.int .u8 172, .int .u8 2] 5)).alloc (.cells #[.int .u8 172] 5)).alloc (.cells #[.int .u8 128, .int .u8 0] 5)
def threeTries (w : World) : List Tr :=
  [⟨some ⟨w.heap.size, 0, none⟩, 2, 2, 0, 300, 2, 0⟩, ⟨some ⟨w.heap.size + 1, 0, none⟩, 1, 1, 0, 0, 0, 10⟩, ⟨some ⟨w.heap.size + 1 + 1, 0, none⟩, 2, 2, 0, 0, 0, 11⟩]
theorem ok_mk {W : World} {B : Nat} {A : Option Addr} {n c : Nat} {p : Int} {x q r : Nat} (l : List UInt8) (hs : Sees W B A (cb l)) (hB : B ≤ W.heap.size) (hl : l.length = n) (hn : n ≤ 1099511627776) (hg : getU l p = (x, q, r)) : Tr.Ok W ⟨A, n, c, p, x, q, r⟩ :=
  ⟨l, hs.more hB, hl, hn, hg⟩
theorem three_ok (w : World) : ∀ t ∈ threeTries w, t.Ok (three w) := by
  have s1 := ((sees_lit w 5 (0, 0) [172, 2]).step (below_alloc _ (.cells #[.int .u8 172] 5))).step (below_alloc _ (.cells #[.int .u8 128, .int .u8 0] 5))
  have s2 := (sees_lit (w.alloc (.cells #[.int .u8 172, .int .u8 2] 5)) 5 (0, 0) [172]).step (below_alloc _ (.cells #[.int .u8 128, .int .u8 0] 5))
  have s3 := sees_lit ((w.alloc (.cells #[.int .u8 172, .int .u8 2] 5)).alloc (.cells #[.int .u8 172] 5)) 5 (0, 0) [128, 0]
  simp only [World.size_alloc] at s2 s3
  intro t ht
  simp only [threeTries, List.mem_cons, List.not_mem_nil, or_false] at ht
  rcases ht with rfl | rfl | rfl
  · exact ok_mk [172, 2] s1 (by simp [three]) rfl (by omega) (by decide)
  · exact ok_mk [172] s2 (by simp [three]) rfl (by omega) (by decide)
  · exact ok_mk [128, 0] s3 (by simp [three]) rfl (by omega) (by decide)
theorem three_tries (w : World) : Tries ((three w).alloc (.cells ((threeTries w).flatMap Tr.cells).toArray 154)) (w.heap.size + 1 + 1 + 1) (threeTries w) := by
  have h := tries_lit (three w) 154 _ (threeTries w) rfl (three_ok w)
  have e : (three w).heap.size = w.heap.size + 1 + 1 + 1 := by simp [three]
  rwa [e] at h
theorem three_below (w : World) (o : Obj) : Below w.heap.size w ((three w).alloc o) :=
  Below.then_ (Below.then_ (Below.then_ (below_alloc w _) (below_alloc _ _)) (below_alloc _ _)) (below_alloc _ _)

set_option maxRecDepth 100000 in
set_option maxHeartbeats 400000 in
theorem awake_any (w : World) : Calls Try.prog 18 #[] w fun e w' => e = .returned (.bool true) ∧ Below w.heap.size w w' := by
  have kc := fun (w : World) (C : Array Value) (n c : Nat) => Lib.run_convert_bytes_const (P := Try.prog) w 23 5 C n c Try.underlying23 Try.underlying5
  go_enter Try.func18, Try.ntmps18
  go_wp2_with fail
  refine (GetBlob_told (n := 3) (N := 0) (l := [2, 97, 98]) (L := []) (q := 0) (r := 3) (by decide) (sees_lit w 5 (3, 4) [2, 97, 98]) rfl (Nat.le_refl _) rfl (by omega) (by omega)).mono ?_
  rintro e w1 ⟨A1, c1, rfl, hF1, hB1⟩
  have hB1' := Below.then_ (below_alloc w _) hB1
  clear kc hF1
  go_wp2_with fail
  refine (Words_made (n := 5) (m := 2) (l := [1, 2, 3, 4, 5]) (L := [16909060, 100663295]) (sees_lit w1 5 (0, 0) [1, 2, 3, 4, 5]) rfl rfl (by decide) (by omega)).mono ?_
  rintro e w2 ⟨A2, c2, rfl, hF2, hB2⟩
  have hB2' := Below.then_ (below_alloc w1 _) hB2
  obtain ⟨b2, o2, rfl, hb2, hc2⟩ := hF2.sees (by simp)
  have d0 : w2.cell? ⟨b2, o2, none⟩ = some (.int .u32 16909060) := hc2 0 _ rfl
  have d1 : w2.cell? ⟨b2, o2 + 1, none⟩ = some (.int .u32 100663295) := hc2 1 _ rfl
  clear hc2
  go_wp2_with fail
  refine (Bytes_told (n := 2) (N := 5) (L := [1, 2, 3, 4, 5]) (r := 0) (by decide) hF2.sees rfl rfl (by omega)).mono ?_
  rintro e w3 ⟨A3, c3, rfl, hF3, hB3⟩
  go_wp2_with fail
  refine (writes_any _).mono ?_
  rintro e w4 ⟨rfl, hB4⟩
  go_wp2_with fail
  refine (reads_any _ 3 3 (threeTries w4) _ (three_tries w4) rfl (by omega)).mono ?_
  rintro e w5 ⟨rfl, hB5⟩
  have hB6 := Below.then_ hB4 (Below.then_ (three_below w4 _) hB5)
  have hB7 := Below.then_ hB3 hB6
  have e0 := (hB7.cell (p := ⟨b2, o2, none⟩) hb2).trans d0
  have e1 := (hB7.cell (p := ⟨b2, o2 + 1, none⟩) hb2).trans d1
  have s3 := run_str (n := 5) (hF3.below hB6).sees rfl c3
  have HB := Lib.hid (Below.then_ hB1' (Below.then_ hB2' hB7))
  clear hB1 hB1' hB2 hB2' hB3 hB4 hB5 hB6 hB7 hF2 hF3 d0 d1
  go_wp2
  go_ret
  exact ⟨rfl, HB.out⟩
end Go.Proofs.Ytmkpopfaaebgfaa
