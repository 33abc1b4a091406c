/-
  The path of a leaf, as the program tells it.
-/
import Derived.Test.YtdpbnppngkamiaaMerkNode
import Derived.Great.FillDense
import Derived.Great.BuildSlice
import Derived.Test.YtdpbnppngkamiaaMerkRoot
import Derived.Test.YtdpbnppngkamiaaRegionJKL
import Derived.Maps.AppendAt
namespace Go.Proofs.Ytdpbnppngkamiaa
open Go.RowKit
set_option linter.unusedVariables false

theorem flat_cells (ds : List (List UInt8)) : ((ds.map fun d => Value.agg (cb d).toArray).flatMap fun v => v.cells.toList) = cb ds.flatten := by
  induction ds with
  | nil => rfl
  | cons d ds ih =>
    rw [List.map_cons, List.flatMap_cons, ih, List.flatten_cons, ← cb_app]
    rfl
theorem run_bsD (w : World) (ds : List (List UInt8)) (ha : ∀ d ∈ ds, d.length = 32) (h0 : 0 < ds.length) (hl : ds.length ≤ 1000) (parts : Array (Nat × Value)) (hp : parts.toList = ((ds.map fun d => Value.agg (cb d).toArray).zipIdx 0).map fun x => (x.2, x.1)) :
    (Instr.buildSlice 81 ds.length parts).run Try.prog w = .ok (.slice (some ⟨w.heap.size, 0, none⟩) ds.length ds.length) (w.alloc (.cells (cb ds.flatten).toArray 83)) := by
  obtain ⟨i0, hi, hz0, hz1, hz2⟩ := info_parts infoD
  refine run_buildSlice w 81 83 ds.length parts _ i0 _ Try.underlying81 hi hz0 (by rw [hz1]; omega) (by rw [hz1]; omega) ?_
  rw [hp, hz1, ← flat_cells]
  refine Great.fill_whole (by omega) _ _ (fun v hv => ?_) (by simp)
  obtain ⟨d, hd, rfl⟩ := List.mem_map.1 hv
  simp [Value.cells, ha d hd]
theorem run_bs1 (a : List UInt8) (ha : a.length = 32) (w : World) : (Instr.buildSlice 81 1 #[(0, .agg (cb a).toArray)]).run Try.prog w = .ok (.slice (some ⟨w.heap.size, 0, none⟩) 1 1) (w.alloc (.cells (cb [a].flatten).toArray 83)) :=
  run_bsD w [a] (fun d hd => by simp at hd; rw [hd]; exact ha) (by simp) (by simp) _ rfl
theorem run_bs2 (a b : List UInt8) (ha : a.length = 32) (hb : b.length = 32) (w : World) : (Instr.buildSlice 81 2 #[(0, .agg (cb a).toArray), (1, .agg (cb b).toArray)]).run Try.prog w = .ok (.slice (some ⟨w.heap.size, 0, none⟩) 2 2) (w.alloc (.cells (cb [a, b].flatten).toArray 83)) :=
  run_bsD w [a, b] (fun d hd => by simp at hd; rcases hd with rfl | rfl <;> assumption) (by simp) (by simp) _ rfl
theorem run_bs4 (a b c d : List UInt8) (ha : a.length = 32) (hb : b.length = 32) (hc : c.length = 32) (hd : d.length = 32) (w : World) : (Instr.buildSlice 81 4 #[(0, .agg (cb a).toArray), (1, .agg (cb b).toArray), (2, .agg (cb c).toArray), (3, .agg (cb d).toArray)]).run Try.prog w = .ok (.slice (some ⟨w.heap.size, 0, none⟩) 4 4) (w.alloc (.cells (cb [a, b, c, d].flatten).toArray 83)) :=
  run_bsD w [a, b, c, d] (fun x hx => by simp at hx; rcases hx with rfl | rfl | rfl | rfl <;> assumption) (by simp) (by simp) _ rfl
theorem exec_bs1 {o : Oper} {a : Act} {w : World} (x : Operand) (hop : o.op = .buildSlice 81 1 #[(0, x)]) (d : List UInt8) (hx : a.eval x = .agg (cb d).toArray) (hd : d.length = 32) :
    (execOp a.eval o).run Try.prog w = .ok (.value (.slice (some ⟨w.heap.size, 0, none⟩) 1 1)) (w.alloc (.cells (cb [d].flatten).toArray 83)) := by
  unfold execOp
  simp only [hop, List.map_toArray, List.map_cons, List.map_nil, hx, Sem.run_bind, run_bs1 d hd w, Result.andThen_ok]
  rfl
theorem exec_bs2 {o : Oper} {a : Act} {w : World} (x y : Operand) (hop : o.op = .buildSlice 81 2 #[(0, x), (1, y)]) (d e : List UInt8) (hx : a.eval x = .agg (cb d).toArray) (hy : a.eval y = .agg (cb e).toArray) (hd : d.length = 32) (he : e.length = 32) :
    (execOp a.eval o).run Try.prog w = .ok (.value (.slice (some ⟨w.heap.size, 0, none⟩) 2 2)) (w.alloc (.cells (cb [d, e].flatten).toArray 83)) := by
  unfold execOp
  simp only [hop, List.map_toArray, List.map_cons, List.map_nil, hx, hy, Sem.run_bind, run_bs2 d e hd he w, Result.andThen_ok]
  rfl
theorem exec_bs4 {o : Oper} {a : Act} {w : World} (x y z u : Operand) (hop : o.op = .buildSlice 81 4 #[(0, x), (1, y), (2, z), (3, u)]) (d e f g : List UInt8) (hx : a.eval x = .agg (cb d).toArray) (hy : a.eval y = .agg (cb e).toArray) (hz : a.eval z = .agg (cb f).toArray) (hu : a.eval u = .agg (cb g).toArray) (hd : d.length = 32) (he : e.length = 32) (hf : f.length = 32) (hg : g.length = 32) :
    (execOp a.eval o).run Try.prog w = .ok (.value (.slice (some ⟨w.heap.size, 0, none⟩) 4 4)) (w.alloc (.cells (cb [d, e, f, g].flatten).toArray 83)) := by
  unfold execOp
  simp only [hop, List.map_toArray, List.map_cons, List.map_nil, hx, hy, hz, hu, Sem.run_bind, run_bs4 d e f g hd he hf hg w, Result.andThen_ok]
  rfl
theorem own_new (w : World) (ds : List (List UInt8)) (ha : ∀ d ∈ ds, d.length = 32) (n : Nat) (hn : ds.length = n) (hl : n ≤ 1000) : OwnD w.heap.size (w.alloc (.cells (cb ds.flatten).toArray 83)) (some ⟨w.heap.size, 0, none⟩) n n ds :=
  OwnD.of_fresh (Fresh.new w 83 (cb ds.flatten) (32 * n) (by rw [List.length_map, len_flat ha, hn]) (by omega)) ha (by unfold maxLen; omega)
end Go.Proofs.Ytdpbnppngkamiaa

namespace Go.Proofs.Ytdpbnppngkamiaa
open Go.RowKit
set_option linter.unusedVariables false

theorem getD_setNeM (listed : Array Bool) (i j : Nat) (h : i ≠ j) : (listed.setIfInBounds i true).getD j false = listed.getD j false := by
  simp [Array.getD_eq_getD_getElem?, h]
theorem put_otherM (a : Act) (t s : Nat) (v : Value) (h : t ≠ s) : (a.put (some t) v).tmps[s]? = a.tmps[s]? := by
  simp [Act.put, h]
theorem put_selfM (a : Act) (t : Nat) (v : Value) (h : t < a.tmps.size) : (a.put (some t) v).tmps[t]? = some v := by
  simp [Act.put, h]
theorem getD_setEqM (listed : Array Bool) (i : Nat) (h : i < listed.size) : (listed.setIfInBounds i true).getD i false = true := by
  simp [h]
theorem sizeOf_getM {listed : Array Bool} {i : Nat} (h : listed.getD i true = false) : i < listed.size ∧ listed.getD i false = false := by
  rcases Nat.lt_or_ge i listed.size with h1 | h1
  · refine ⟨h1, ?_⟩
    simp [h1] at h ⊢
    exact h
  · simp [Array.getElem?_eq_none h1] at h
theorem Fresh.stayM {w w' : World} {base : Nat} {e : TypeId} {A : Option Addr} {n c : Nat} {xs : List Value} (h : Fresh base e w A n c xs) (hk : ∀ k, base ≤ k → k < w.heap.size → w'.heap[k]? = w.heap[k]?) : Fresh base e w' A n c xs := by
  refine ⟨h.1, ?_⟩
  rcases h.2 with h3 | ⟨g', cap, cur, hv, hg, hh, hr⟩
  · exact .inl h3
  · exact .inr ⟨g', cap, cur, hv, hg, by rw [hk g' hg (Array.getElem?_eq_some_iff.1 hh).1]; exact hh, hr⟩
theorem fresh_unlikeD {w : World} {b1 b2 : Nat} {e1 : TypeId} {g n m d : Nat} {B : Option Addr} {xs : List Value} {ds : List (List UInt8)} (h : Fresh b1 e1 w (some ⟨g, 0, none⟩) n n xs) (k : OwnD b2 w B m d ds) (hne : e1 ≠ 83) : (Value.slice (some ⟨g, 0, none⟩) n n).ownBlock = none ∨ (Value.slice (some ⟨g, 0, none⟩) n n).ownBlock ≠ (Value.slice B m d).ownBlock := by
  right
  rcases k.row.2 with ⟨kv, _⟩ | ⟨q, cap2, cur2, kv, _, kg, _⟩
  · rw [kv]; simp [Value.ownBlock]
  · rw [kv]
    simp only [Value.ownBlock, ne_eq, Option.some.injEq]
    rintro rfl
    have hb := h.block.1
    rw [hb] at kg
    simp at kg
    exact hne kg.2
def mpF (gp g o n c gq m cB place B0 : Nat) (B : Option Addr) (d : List UInt8) (k : Nat) (v : Value) (w : World) : Prop :=
  match k with
  | 0 => v = .pointer (some ⟨gp, 1, none⟩)
  | 1 => v = .slice B m cB
  | 2 => v = .slice (some ⟨g, o, none⟩) n c
  | 3 => v = .int .i64 (place : Int)
  | 4 => v = .int .i64 (sibF place : Int)
  | 5 => v = .pointer (some ⟨g, o + 32 * sibF place, none⟩)
  | 6 => v = .agg (cb d).toArray
  | 7 => ∃ gb, v = .slice (some ⟨gb, 0, none⟩) 1 1 ∧ Fresh B0 83 w (some ⟨gb, 0, none⟩) 32 32 (cb [d].flatten)
  | 9 => v = .pointer (some ⟨gp, 1, none⟩)
  | _ => True
theorem mpF_keep {gp g o n c gq m cB place B0 : Nat} {B : Option Addr} {d : List UInt8} {w w' : World} (hk : ∀ k, B0 ≤ k → k < w.heap.size → w'.heap[k]? = w.heap[k]?) : ∀ k v, mpF gp g o n c gq m cB place B0 B d k v w → mpF gp g o n c gq m cB place B0 B d k v w' := by
  intro k v h
  unfold mpF at *
  split at h <;> first | exact h | (obtain ⟨gb, h1, h2⟩ := h; exact ⟨gb, h1, h2.stayM hk⟩) | trivial
/-- Behind the path's growing; its new slice laid down, or not yet. -/
structure GrownP (w0 w1 : World) (gp gq leaf place : Nat) (B : Option Addr) (m cB : Nat) (bs : List (List UInt8)) (d : List UInt8) (A' : Option Addr) (c' : Nat) (done : Bool) (w : World) : Prop where
  obj : Fresh w0.heap.size 88 w (some ⟨gp, 0, none⟩) 2 2 (match done with | true => [.int .i64 (leaf : Int), .slice A' (m + 1) c'] | false => [.int .i64 (leaf : Int), .slice B m cB])
  plc : Fresh w0.heap.size 3 w (some ⟨gq, 0, none⟩) 1 1 [.int .i64 (place : Int)]
  row : OwnD w0.heap.size w A' (m + 1) c' (bs ++ [d])
  keep : ∀ b, b < w1.heap.size → b ≠ gp → some b ≠ (Value.slice B m cB).ownBlock → w.heap[b]? = w1.heap[b]?
  size : w1.heap.size ≤ w.heap.size
  bel : Below w0.heap.size w0 w
  own : (Value.slice A' (m + 1) c').ownBlock = (Value.slice B m cB).ownBlock ∨ ∀ k, (Value.slice A' (m + 1) c').ownBlock = some k → w1.heap.size ≤ k
def mpJ (w0 w1 : World) (gp gq leaf place : Nat) (B : Option Addr) (m cB : Nat) (bs : List (List UInt8)) (d : List UInt8) (listed : Array Bool) (act : Act) (w : World) : Prop :=
  w1.heap.size ≤ w.heap.size ∧ (listed.getD 8 false = false → Below w1.heap.size w1 w) ∧ (∀ b, b < w1.heap.size → b ≠ gp → some b ≠ (Value.slice B m cB).ownBlock → w.heap[b]? = w1.heap[b]?) ∧
  (listed.getD 8 false = true → ∃ A' c', act.tmps[15]? = some (.slice A' (m + 1) c') ∧ GrownP w0 w1 gp gq leaf place B m cB bs d A' c' (listed.getD 10 false) w) ∧
  (listed.getD 8 false = true → listed.getD 1 false = true) ∧ (listed.getD 10 false = true → listed.getD 8 false = true)
section
variable {w w' w0 w1 : World} {gp gq leaf place m cB c' : Nat} {B A' : Option Addr} {bs : List (List UInt8)} {d : List UInt8} {done : Bool} {listed : Array Bool} {act : Act}
theorem Sees.keepAt {B' B2 g o : Nat} {xs : List Value} (h : Sees w B' (some ⟨g, o, none⟩) xs) (hk : w'.heap[g]? = w.heap[g]?) (hB : B' ≤ B2) : Sees w' B2 (some ⟨g, o, none⟩) xs := fun hn => by
  obtain ⟨b, o', e, hb, hc⟩ := h hn
  obtain ⟨rfl, rfl⟩ : g = b ∧ o = o' := by simpa using e
  exact ⟨g, o, rfl, by omega, fun j u hu => (World.cell?_of_block (w := w) hk).trans (hc j u hu)⟩
theorem GrownP.below (h : GrownP w0 w1 gp gq leaf place B m cB bs d A' c' done w) (y : Below w.heap.size w w') : GrownP w0 w1 gp gq leaf place B m cB bs d A' c' done w' :=
  ⟨h.obj.below y, h.plc.below y, h.row.below y, fun b hb h1 h2 => (y.block b (Nat.lt_of_lt_of_le hb h.size)).trans (h.keep b hb h1 h2), Nat.le_trans h.size y.size, h.bel.trans (y.mono h.bel.size), h.own⟩
theorem GrownP.lay (h : GrownP w0 w1 gp gq leaf place B m cB bs d A' c' false w) (hpq : gp ≠ gq) : GrownP w0 w1 gp gq leaf place B m cB bs d A' c' true (w.setCell ⟨gp, 1, none⟩ (.slice A' (m + 1) c')) := by
  have ho : ∀ j, j ≠ gp → (w.setCell ⟨gp, 1, none⟩ (.slice A' (m + 1) c')).heap[j]? = w.heap[j]? := fun j hj => Below.heap_setCell _ _ _ _ hj
  have hb := h.obj.block
  exact ⟨h.obj.store 1 _, h.plc.other (Ne.symm hpq) ho, h.row.apart hb.1 (by decide) ho, fun b hb h1 h2 => (ho b h1).trans (h.keep b hb h1 h2), by simpa [World.setCell] using h.size, h.bel.setCell hb.2 _, h.own⟩
theorem mpJ.below (h : mpJ w0 w1 gp gq leaf place B m cB bs d listed act w) (y : Below w.heap.size w w') : mpJ w0 w1 gp gq leaf place B m cB bs d listed act w' := by
  obtain ⟨h1, h2, hK, h3, h4⟩ := h
  refine ⟨Nat.le_trans h1 y.size, fun e => (h2 e).trans (y.mono h1), fun b hb k1 k2 => (y.block b (by omega)).trans (hK b hb k1 k2), fun e => ?_, h4⟩
  obtain ⟨A', c', e1, e2⟩ := h3 e
  exact ⟨A', c', e1, e2.below y⟩
theorem mpJ.other (h : mpJ w0 w1 gp gq leaf place B m cB bs d listed act w) (i t : Nat) (v : Value) (hi : i ≠ 8) (hi2 : i ≠ 10) (ht : t ≠ 15) : mpJ w0 w1 gp gq leaf place B m cB bs d (listed.setIfInBounds i true) (act.put (some t) v) w := by
  obtain ⟨h1, h2, hK, h3, h4, h5⟩ := h
  refine ⟨h1, ?_, hK, ?_, ?_, ?_⟩
  · rw [getD_setNeM _ _ _ hi]
    exact h2
  · rw [getD_setNeM _ _ _ hi, getD_setNeM _ _ _ hi2, put_otherM _ _ _ _ ht]
    exact h3
  · rw [getD_setNeM _ _ _ hi]
    intro e
    by_cases e1 : i = 1
    · subst e1
      refine getD_setEqM _ _ ?_
      have := h4 e
      rcases Nat.lt_or_ge 1 listed.size with k | k
      · exact k
      · simp [Array.getElem?_eq_none k] at this
    · rw [getD_setNeM _ _ _ e1]
      exact h4 e
  · rw [getD_setNeM _ _ _ hi, getD_setNeM _ _ _ hi2]
    exact h5
theorem mpJ.not8 (h : mpJ w0 w1 gp gq leaf place B m cB bs d listed act w) (hn : listed.getD 1 true = false) : listed.getD 8 false = false := by
  cases e : listed.getD 8 false
  · rfl
  · have k1 := h.2.2.2.2.1 e
    rw [(sizeOf_getM hn).2] at k1
    cases k1
end
section
variable {w : World}
set_option maxHeartbeats 4000000 in
set_option maxRecDepth 100000 in
theorem Path1_any {w0 : World} (gp gq leaf place m cB : Nat) (B : Option Addr) (bs : List (List UInt8)) (hobj : Fresh w0.heap.size 88 w (some ⟨gp, 0, none⟩) 2 2 [.int .i64 (leaf : Int), .slice B m cB]) (hplc : Fresh w0.heap.size 3 w (some ⟨gq, 0, none⟩) 1 1 [.int .i64 (place : Int)]) (hrow : OwnD w0.heap.size w B m cB bs) (hm : m ≤ 100) (hplt : place < 1000000) (hpq : gp ≠ gq)
    (A : Option Addr) (n c : Nat) (ds : List (List UInt8)) (hd : Digs w A n ds) (hn : 1 < n) (hn2 : n ≤ 1000) (hsib : sibF place < n) (hA : ∀ g o, A = some ⟨g, o, none⟩ → g ≠ gp ∧ some g ≠ (Value.slice B m cB).ownBlock) (hbel : Below w0.heap.size w0 w) :
    Calls Try.prog 95 #[.slice A n c, .pointer (some ⟨gp, 0, none⟩), .pointer (some ⟨gq, 0, none⟩)] w fun e w' => e = .returned (.tuple #[]) ∧ ∃ A' c', Fresh w0.heap.size 88 w' (some ⟨gp, 0, none⟩) 2 2 [.int .i64 (leaf : Int), .slice A' (m + 1) c'] ∧ Fresh w0.heap.size 3 w' (some ⟨gq, 0, none⟩) 1 1 [.int .i64 ((place / 2 : Nat) : Int)] ∧ OwnD w0.heap.size w' A' (m + 1) c' (bs ++ [dAt ds (sibF place)]) ∧
      (∀ b, b < w.heap.size → b ≠ gp → b ≠ gq → some b ≠ (Value.slice B m cB).ownBlock → w'.heap[b]? = w.heap[b]?) ∧ w.heap.size ≤ w'.heap.size ∧ Below w0.heap.size w0 w' ∧ ((Value.slice A' (m + 1) c').ownBlock = (Value.slice B m cB).ownBlock ∨ ∀ k, (Value.slice A' (m + 1) c').ownBlock = some k → w.heap.size ≤ k) := by
  obtain ⟨g, o, rfl, hgB, hS, hDL⟩ := hd.at_ hsib
  obtain ⟨hgp, hgBo⟩ := hA g o rfl
  have HDL := Lib.hid hDL
  have hqB : some gq ≠ (Value.slice B m cB).ownBlock := by
    rcases fresh_unlikeD hplc hrow (by decide) with h | h
    · simp [Value.ownBlock] at h
    · exact h
  obtain ⟨d, hdd⟩ : ∃ d, dAt ds (sibF place) = d := ⟨_, rfl⟩
  rw [hdd] at hS HDL ⊢
  have hsz0 := hbel.size
  have hq2 : Int.tdiv (place : Int) 2 = ((place / 2 : Nat) : Int) := by rw [Int.tdiv_eq_ediv_of_nonneg (by omega)]; omega
  have hn1 : decide ((n : Int) = 1) = false := by simp; omega
  have hn1' : ((n : Int) == 1) = false := by simp; omega
  clear hA hDL hdd hd
  go_enter Try.func95, Try.ntmps95
  go_wp2_with fail
  obtain ⟨w1, hw1⟩ : ∃ w1, w1 = w := ⟨w, rfl⟩
  rw [← hw1] at hobj hplc hrow hbel hS hgB hsz0
  rw [← hw1]
  refine region_L (mpF gp g o n c gq m cB place w1.heap.size B d) (mpJ w0 w1 gp gq leaf place B m cB bs d) (by kernel_rfl) (by kernel_rfl) ⟨Nat.le_refl _, fun _ => ⟨rfl, rfl, rfl, Nat.le_refl _, fun _ _ => rfl⟩, fun _ _ _ _ => rfl, fun h => (by simp at h), fun h => (by simp at h), fun h => (by simp at h)⟩ ?_ ?_
  · refine ⟨?_, ?_, ?_, ?_, ?_, ?_, ?_, ?_, ?_, ?_, ?_, trivial⟩
    all_goals intro listed a1 w' hk h1 hd
    · have f1_ : a1.eval (.tmp 1) = .pointer (some ⟨gp, 0, none⟩) := hk.ev_old 1 (by kernel_rfl)
      have g1_ : a1.tmps[1]?.getD undef = .pointer (some ⟨gp, 0, none⟩) := by simpa [Act.eval] using f1_
      exact stepL_value rfl (v := .pointer (some ⟨gp, 1, none⟩)) (by go_simp) rfl (hk.inv.other 0 7 _ (by omega) (by omega) (by omega))
    · obtain ⟨v0, e0, q0, rfl, l0⟩ := hk.ev_new hd 0 7 (by kernel_rfl) rfl
      have n8 := hk.inv.not8 h1
      have cc : w'.cell? ⟨gp, 1, none⟩ = some (.slice B m cB) := (hobj.below (hk.inv.2.1 n8)).cell_ rfl
      exact stepL_value rfl (v := .slice B m cB) (by go_simp) rfl (hk.inv.other 1 8 _ (by omega) (by omega) (by omega))
    · have f0_ : a1.eval (.tmp 0) = .slice (some ⟨g, o, none⟩) n c := hk.ev_old 0 (by kernel_rfl)
      have g0_ : a1.tmps[0]?.getD undef = .slice (some ⟨g, o, none⟩) n c := by simpa [Act.eval] using f0_
      exact stepL_value rfl (v := .slice (some ⟨g, o, none⟩) n c) (by go_simp) rfl (hk.inv.other 2 9 _ (by omega) (by omega) (by omega))
    · have f2_ : a1.eval (.tmp 2) = .pointer (some ⟨gq, 0, none⟩) := hk.ev_old 2 (by kernel_rfl)
      have g2_ : a1.tmps[2]?.getD undef = .pointer (some ⟨gq, 0, none⟩) := by simpa [Act.eval] using f2_
      have cc : w'.cell? ⟨gq, 0, none⟩ = some (.int .i64 (place : Int)) := (World.cell?_of_block (w := w1) (hk.inv.2.2.1 gq hplc.lt_size (Ne.symm hpq) hqB)).trans (hplc.cell_ rfl)
      exact stepL_value rfl (v := .int .i64 (place : Int)) (by go_simp) rfl (hk.inv.other 3 10 _ (by omega) (by omega) (by omega))
    · obtain ⟨v3, e3, q3, rfl, l3⟩ := hk.ev_new hd 3 10 (by kernel_rfl) rfl
      refine stepL_enter rfl (f := 96) (args := #[.int .i64 (place : Int)]) (by go_simp) ?_
      refine (beside_same (w := w') place hplt).mono ?_
      rintro e w5 ⟨rfl, rfl⟩
      exact ⟨_, rfl, rfl, (hk.inv.other 4 11 _ (by omega) (by omega) (by omega)), fun _ _ h => h⟩
    · obtain ⟨v2, e2, q2, rfl, l2⟩ := hk.ev_new hd 2 9 (by kernel_rfl) rfl
      obtain ⟨v4, e4, q4, rfl, l4⟩ := hk.ev_new hd 4 11 (by kernel_rfl) rfl
      exact stepL_value rfl (run_ixL (.tmp 9) (.tmp 11) rfl e2 e4 (j := sibF place) rfl hsib rfl) rfl (hk.inv.other 5 12 _ (by omega) (by omega) (by omega))
    · obtain ⟨v5, e5, q5, rfl, l5⟩ := hk.ev_new hd 5 12 (by kernel_rfl) rfl
      exact stepL_value rfl (run_load_agg (.tmp 12) 83 rfl e5 (cb d) 32 (by rw [List.length_map]; exact HDL.out) (by kernel_rfl) (hS.keepAt (hk.inv.2.2.1 g hgB hgp hgBo) hk.inv.1)) rfl (hk.inv.other 6 13 _ (by omega) (by omega) (by omega))
    · obtain ⟨v6, e6, q6, rfl, l6⟩ := hk.ev_new hd 6 13 (by kernel_rfl) rfl
      have hba := below_alloc w' (.cells (cb [d].flatten).toArray 83)
      refine stepL_run rfl (v := .slice (some ⟨w'.heap.size, 0, none⟩) 1 1) (w' := w'.alloc (.cells (cb [d].flatten).toArray 83)) (exec_bs1 (.tmp 13) rfl d e6 HDL.out) ⟨w'.heap.size, rfl, (Fresh.new w' 83 (cb [d].flatten) 32 (by simp [HDL.out]) (by omega)).lower hk.inv.1⟩ ((hk.inv.below hba).other 7 14 _ (by omega) (by omega) (by omega)) (mpF_keep fun k _ hk2 => hba.block k hk2)
    · obtain ⟨v1, e1, q1, rfl, l1⟩ := hk.ev_new hd 1 8 (by kernel_rfl) rfl
      obtain ⟨v7, e7, q7, hv7, l7⟩ := hk.ev_new hd 7 14 (by kernel_rfl) rfl
      obtain ⟨gb, rfl, hgb⟩ := hv7
      obtain ⟨s8, n8⟩ := sizeOf_getM h1
      have n10 : listed.getD 10 false = false := by
        cases e : listed.getD 10 false
        · rfl
        · rw [hk.inv.2.2.2.2.2 e] at n8; cases n8
      have hb0 := hk.inv.2.1 n8
      have hsz := hk.inv.1
      have hrow5 := hrow.below hb0
      obtain ⟨i0, hi, hz0, hz1, hz2⟩ := info_parts infoD
      obtain ⟨v', w5, hr, hown, hgr, hnil, hat⟩ := run_append_own_at (P := Try.prog) w' w0.heap.size 81 81 83 i0 (.agg (cb (List.replicate 32 0)).toArray) 32 32 Try.underlying81 hi hz0 hz1 hz2 (by simp [Value.cells]) (by omega) (.slice B m cB) m _ hrow5.row ⟨gb, 0, none⟩ 1 1 (cb d) (by rw [List.length_map, HDL.out]) (fun j u hj => by rw [Addr.add_lit, Nat.zero_add]; exact hgb.cell_ (by simpa using hj)) (cb_one _) (by unfold maxLen; omega) (by omega) (by omega)
      obtain ⟨A', c', rfl⟩ : ∃ A' c', v' = .slice A' (m + 1) c' := by
        rcases hown.2 with ⟨rfl, h0⟩ | ⟨g', cap, cu, rfl, _⟩
        · simp at h0
        · exact ⟨_, _, rfl⟩
      have hG : GrownP w0 w1 gp gq leaf place B m cB bs d A' c' false w5 := ⟨World.ownsRow.kept (hobj.below hb0) hgr (fresh_unlikeD (hobj.below hb0) hrow5 (by decide)), World.ownsRow.kept (hplc.below hb0) hgr (fresh_unlikeD (hplc.below hb0) hrow5 (by decide)), ⟨by rw [List.flatten_append, ← cb_app]; simpa using hown, all_app hrow.all (fun x hx => by simp at hx; rw [hx]; exact HDL.out)⟩, fun b hb _ h2 => (hgr.block b (by omega) h2).trans (hb0.block b hb), Nat.le_trans hsz hgr.size, (hbel.trans (hb0.mono hsz0)).grown hgr (by omega) (fun k hk => (hrow5.row.lt k hk).1), by
        rcases hat with h6 | h6
        · exact .inl h6
        · exact .inr fun k e => by rw [h6] at e; simp at e; omega⟩
      refine stepL_run rfl (v := .slice A' (m + 1) c') (w' := w5) ?_ trivial ⟨Nat.le_trans hsz hgr.size, ?_, hG.keep, fun _ => ⟨A', c', put_selfM _ _ _ (by rw [hk.size]; exact (show (15 : Nat) < 19 by decide)), ?_⟩, fun _ => ?_, fun _ => getD_setEqM _ _ s8⟩ (mpF_keep fun k hB hlt => hgr.block k hlt fun e => by have := hrow.row.lt k e.symm; omega)
      · unfold execOp
        simp only [resolve, invoke, builtin, Sem.run_bind, Sem.run_pure, Result.andThen_ok, List.map_toArray, List.map_cons, List.map_nil, e1, e7, hr]
      · intro e
        rw [getD_setEqM _ _ s8] at e
        cases e
      · rw [getD_setNeM _ _ _ (by omega), n10]
        exact hG
      · rw [getD_setNeM _ _ _ (by omega)]
        exact l1
    · have f1_ : a1.eval (.tmp 1) = .pointer (some ⟨gp, 0, none⟩) := hk.ev_old 1 (by kernel_rfl)
      have g1_ : a1.tmps[1]?.getD undef = .pointer (some ⟨gp, 0, none⟩) := by simpa [Act.eval] using f1_
      exact stepL_value rfl (v := .pointer (some ⟨gp, 1, none⟩)) (by go_simp) rfl (hk.inv.other 9 16 _ (by omega) (by omega) (by omega))
    · obtain ⟨v9, e9, q9, rfl, l9⟩ := hk.ev_new hd 9 16 (by kernel_rfl) rfl
      obtain ⟨v8, e8, q8, -, l8⟩ := hk.ev_new hd 8 15 (by kernel_rfl) rfl
      obtain ⟨s10, n10⟩ := sizeOf_getM h1
      obtain ⟨j1, j2, jK, j3, j4, j5⟩ := hk.inv
      obtain ⟨A', c', e15, hG⟩ := j3 l8
      rw [n10] at hG
      rw [q8] at e15
      obtain rfl : v8 = .slice A' (m + 1) c' := by simpa using e15
      have kc : w'.cell? ⟨gp, 1, none⟩ = some (.slice B m cB) := hG.obj.cell_ rfl
      have kz : w'.frozen? ⟨gp, 1, none⟩ = false := hG.obj.frozenAt
      refine stepL_skip rfl rfl (w' := w'.setCell ⟨gp, 1, none⟩ (.slice A' (m + 1) c')) (by go_simp) trivial ⟨by simpa [World.setCell] using j1, ?_, (hG.lay hpq).keep, fun _ => ⟨A', c', q8, ?_⟩, ?_, ?_⟩ (mpF_keep fun k hB hlt => Below.heap_setCell _ _ _ _ (fun e => by have := hobj.lt_size; simp at e; omega))
      · intro e
        rw [getD_setNeM _ _ _ (by omega), l8] at e
        cases e
      · rw [getD_setEqM _ _ s10]
        exact hG.lay hpq
      · rw [getD_setNeM _ _ _ (by omega)]
        rw [getD_setNeM _ _ _ (by omega)]
        exact j4
      · intro _
        rw [getD_setNeM _ _ _ (by omega)]
        exact l8
  · intro listed a1 w6 hJ hall hp
    obtain ⟨A', c', -, hG⟩ := hJ.2.2.2.1 (hall 8 (by decide))
    rw [hall 10 (by decide)] at hG
    obtain ⟨v0, p0, v1, p1, v2, p2, v3, p3, v4, p4, v5, p5, v6, p6, v7, p7, v8, p8, v9, p9, rfl⟩ := hp
    clear p0 p1 p2 p3 p4 p5 p6 p7 p8 p9 hJ hall
    simp only [Act.put, List.setIfInBounds_toArray, List.set_cons_succ, List.set_cons_zero]
    have kc : w6.cell? ⟨gq, 0, none⟩ = some (.int .i64 (place : Int)) := hG.plc.cell_ rfl
    have kz : w6.frozen? ⟨gq, 0, none⟩ = false := hG.plc.frozenAt
    have HQ2 := Lib.hid hq2
    have hG' := Lib.hid hG
    have hq3 : (place : Int) / 2 = ((place / 2 : Nat) : Int) := by omega
    clear hG hq2 hq3
    go_wp2_with fail
    subst hw1
    have hG := hG'.out
    have hq4 : (place : Int) / 2 = ((place / 2 : Nat) : Int) := by omega
    rw [hq4]
    have ho : ∀ j, j ≠ gq → (w6.setCell ⟨gq, 0, none⟩ (.int .i64 ((place / 2 : Nat) : Int))).heap[j]? = w6.heap[j]? := fun j hj => Below.heap_setCell _ _ _ _ hj
    have hb := hG.plc.block
    exact ⟨rfl, .tuple #[], by kernel_rfl, rfl, A', c', hG.obj.other hpq ho, hG.plc.store 0 _, hG.row.apart hb.1 (by decide) ho, fun b hb h1 h2 h3 => (ho b h2).trans (hG.keep b hb h1 h3), by simpa [World.setCell] using hG.size, hG.bel.setCell hb.2 _, hG.own⟩
/-- At the root's level nothing is added. -/
theorem Path1_end (gp gq : Nat) (A : Option Addr) (c : Nat) : Calls Try.prog 95 #[.slice A 1 c, .pointer (some ⟨gp, 0, none⟩), .pointer (some ⟨gq, 0, none⟩)] w fun e w' => e = .returned (.tuple #[]) ∧ w' = w := by
  go_enter Try.func95, Try.ntmps95
  go_wp2_with fail
  exact ⟨rfl, .tuple #[], by kernel_rfl, rfl, rfl⟩
end
end Go.Proofs.Ytdpbnppngkamiaa

namespace Go.Proofs.Ytdpbnppngkamiaa
open Go.RowKit
set_option linter.unusedVariables false

def pathI (D : Dg) (l : List (List UInt8)) (h leaf : Nat) (w0 : World) (gp gq : Nat) (k : Nat) (S : Nat → Prop) (w : World) : Prop :=
  ∃ B m cB, S = (fun b => b = gp ∨ b = gq ∨ some b = (Value.slice B m cB).ownBlock) ∧ gp ≠ gq ∧ m = min k h ∧ Fresh w0.heap.size 88 w (some ⟨gp, 0, none⟩) 2 2 [.int .i64 (leaf : Int), .slice B m cB] ∧ Fresh w0.heap.size 3 w (some ⟨gq, 0, none⟩) 1 1 [.int .i64 ((leaf / 2 ^ m : Nat) : Int)] ∧ OwnD w0.heap.size w B m cB ((pathF D l h leaf).take k)
theorem path_take (D : Dg) (l : List (List UInt8)) (h leaf k : Nat) (hk : k < h) : (pathF D l h leaf).take (k + 1) = (pathF D l h leaf).take k ++ [dAt (levF D l k) (sibF (leaf / 2 ^ k))] := by
  rw [List.take_add_one]
  congr 1
  simp [pathF, hk]
theorem pathTeller (D : Dg) (l : List (List UInt8)) (h leaf : Nat) (hh : h ≤ 8) (hl : l.length = 2 ^ h) (ha : ∀ d ∈ l, d.length = 32) (hf : leaf < 2 ^ h) (w0 : World) (gp gq : Nat) : Teller D l h w0 95 [.pointer (some ⟨gp, 0, none⟩), .pointer (some ⟨gq, 0, none⟩)] (pathI D l h leaf w0 gp gq) where
  enter := fun args w => by kernel_rfl
  keep := fun k S w w' hI hb => by
    obtain ⟨B, m, cB, h1, h2, h3, h4, h5, h6⟩ := hI
    exact ⟨B, m, cB, h1, h2, h3, h4.below hb, h5.below hb, h6.below hb⟩
  own := fun k S w hI b hs => by
    obtain ⟨B, m, cB, rfl, h2, h3, h4, h5, h6⟩ := hI
    rcases hs with rfl | rfl | hs
    · exact h4.lt_size
    · exact h5.lt_size
    · exact (h6.row.lt b hs.symm).2
  tell := fun k S w A n c hI hk hn hd hA hB => by
    obtain ⟨B, m, cB, rfl, hpq, hm, hobj, hplc, hrow⟩ := hI
    by_cases hkh : k < h
    · obtain rfl : m = k := by omega
      obtain ⟨r, hr⟩ : ∃ r, h - m = r + 1 := ⟨h - m - 1, by omega⟩
      have h2r : 0 < 2 ^ r := Nat.pow_pos (by decide)
      have hn2 : n = 2 * 2 ^ r := by rw [hn, hr, Nat.pow_succ]; omega
      have hr7 : 2 ^ r ≤ 2 ^ 7 := Nat.pow_le_pow_right (by decide) (by omega)
      have hp := place_lt (k := m) (by omega) hf
      have hpl : leaf / 2 ^ m < 1000000 := by
        have : 2 ^ h ≤ 2 ^ 8 := Nat.pow_le_pow_right (by decide) hh
        exact Nat.lt_of_le_of_lt (Nat.div_le_self _ _) (by omega)
      have hs : sibF (leaf / 2 ^ m) < n := by
        rw [hn]
        rw [hr] at hp ⊢
        exact sib_lt hp
      refine (Path1_any gp gq leaf (leaf / 2 ^ m) m cB B _ hobj hplc hrow (by omega) hpl hpq A n c _ hd (by omega) (by omega) hs (fun g o e => ⟨fun e2 => hA g o e (.inl e2), fun e2 => hA g o e (.inr (.inr e2))⟩) hB).mono ?_
      rintro e w' ⟨rfl, A', c', r1, r2, r3, r4, r5, r6, r7⟩
      refine ⟨rfl, _, ⟨A', m + 1, c', rfl, hpq, by omega, r1, ?_, ?_⟩, r6, r5, fun b hb hs => r4 b hb (fun e => hs (.inl e)) (fun e => hs (.inr (.inl e))) (fun e => hs (.inr (.inr e))), fun b hs => ?_⟩
      · rw [Nat.pow_succ, ← Nat.div_div_eq_div_mul]
        exact r2
      · rw [path_take D l h leaf m hkh]
        exact r3
      · rcases hs with e | e | e
        · exact .inl (.inl e)
        · exact .inl (.inr (.inl e))
        · rcases r7 with h7 | h7
          · rw [h7] at e
            exact .inl (.inr (.inr e))
          · exact .inr (h7 b e.symm)
    · obtain rfl : k = h := by omega
      obtain rfl : m = k := by omega
      rw [Nat.sub_self, Nat.pow_zero] at hn
      subst hn
      refine (Path1_end gp gq A c).mono ?_
      rintro e w' ⟨rfl, rfl⟩
      refine ⟨rfl, _, ⟨B, m, cB, rfl, hpq, by omega, hobj, hplc, ?_⟩, hB, Nat.le_refl _, fun _ _ _ => rfl, fun b hs => .inl hs⟩
      rw [List.take_of_length_le (by rw [len_pathF]; omega)]
      rw [List.take_of_length_le (by rw [len_pathF]; omega)] at hrow
      exact hrow
def zPath : List Value := [.int .i64 0, .slice none 0 0]
theorem zPath_one : ∀ u ∈ zPath, u.oneCell' = true := allOne_out (by kernel_rfl)
theorem bdp (w : World) : (Instr.build 88 #[]).run Try.prog w = .ok (.agg zPath.toArray) w := run_build w _ _ _ (by kernel_rfl)
theorem wpList_bp {w : World} {ops : Array Oper} {rest : List Oper} {o : Oper} {a : Act} {Q : Exit → Act → World → Prop} (hg : o.guard = none) (hop : o.op = .build 88 #[]) (hK : wpList Try.prog ops Q rest (a.put o.dst (.agg zPath.toArray)) w) : wpList Try.prog ops Q (o :: rest) a w := by
  refine wpList_is hg (v := .agg zPath.toArray) ?_ hK
  unfold execOp
  simp [hop, bdp]
theorem splice_pa (X Y : List Value) (hx : X.length = 2) (hy : Y.length = 2) : splice X 0 Y = Y := by
  simp [splice, hx, hy]
section
variable {w : World}
set_option maxHeartbeats 2000000 in
set_option maxRecDepth 100000 in
theorem Path_no {T : Option Addr} (A : Option Addr) (n c : Nat) (leaf : Int) (hn : n ≤ 9223372036854775807) (hm : mayB n = false ∨ leaf < 0 ∨ (n : Int) ≤ leaf) :
    Calls Try.prog 42 #[.pointer T, .slice A n c, .int .i64 leaf] w fun e w' => e = .returned (.tuple #[.agg zPath.toArray, .int .i64 2]) ∧ Below w.heap.size w w' := by
  have hM := fun w => mayBe_same A n c hn (w := w)
  have cs : mayB n = false ∨ (mayB n = true ∧ leaf < 0) ∨ (mayB n = true ∧ 0 ≤ leaf ∧ (n : Int) ≤ leaf) := by
    cases h : mayB n
    · exact .inl rfl
    · rw [h] at hm
      rcases hm with h1 | h1 | h1
      · cases h1
      · exact .inr (.inl ⟨rfl, h1⟩)
      · exact .inr (.inr ⟨rfl, by omega, h1⟩)
  rcases cs with h1 | ⟨h1, h2⟩ | ⟨h1, h2, h3⟩
  all_goals
    rw [h1] at hM
    have HM := Lib.hid hM
    clear hn hM hm h1
    go_enter Try.func42, Try.ntmps42
    go_wp2_with (first
      | (with_reducible refine wpList_alloc (o := ⟨some 6, _, _, _, _, _⟩) rfl 88 rfl zPath (by kernel_rfl) 2 rfl (by decide) ?_; intro gr w3 hgr hFr hBr)
      | (go_at_call 92; refine (HM.out w3).mono ?_; rintro e w4 ⟨rfl, rfl⟩)
      | (with_reducible refine wpList_bp rfl rfl ?_)
      | (with_reducible refine wpList_store rfl rfl (.tmp 6) (.tmp 23) 88 rfl gr 0 w.heap.size 88 2 zPath zPath rfl rfl 2 rfl (by kernel_rfl) hFr (by omega) zPath_one w hBr (by omega) ?_; intro w7 hF7 hB7 ho7 hz7))
    rw [splice_pa _ _ rfl rfl] at hF7
    exact bodyPost_ct rfl rfl _ rfl zPath 2 rfl (by kernel_rfl) hF7.sees rfl ⟨rfl, hB7⟩
set_option maxHeartbeats 4000000 in
set_option maxRecDepth 100000 in
theorem Path_yes {T : Option Addr} {D : Dg} (hG : OfAt w T D) (A : Option Addr) (n c : Nat) (ds : List (List UInt8)) (hd : Digs w A n ds) (h : Nat) (hh : h ≤ 8) (hn : n = 2 ^ h) (leaf : Nat) (hf : leaf < n) :
    Calls Try.prog 42 #[.pointer T, .slice A n c, .int .i64 (leaf : Int)] w fun e w' => ∃ B cB, e = .returned (.tuple #[.agg #[.int .i64 (leaf : Int), .slice B h cB], .int .i64 0]) ∧ OwnD w.heap.size w' B h cB (pathF D ds h leaf) ∧ Below w.heap.size w w' := by
  have hn256 : n ≤ 256 := by rw [hn]; exact Nat.le_trans (Nat.pow_le_pow_right (by decide) hh) (by decide)
  have hM := fun w => mayBe_same A n c (by omega) (w := w)
  rw [(may_iff n).2 ⟨h, hh, hn⟩] at hM
  have HM := Lib.hid hM
  have HN := Lib.hid hn
  have HLEN := Lib.hid hd.len
  have HALL := Lib.hid hd.all
  clear hn hM
  go_enter Try.func42, Try.ntmps42
  go_wp2_with (first
    | (with_reducible refine wpList_alloc (o := ⟨some 6, _, _, _, _, _⟩) rfl 88 rfl zPath (by kernel_rfl) 2 rfl (by decide) ?_; intro gr w3 hgr hFr hBr)
    | (go_at_call 92; refine (HM.out w3).mono ?_; rintro e w4 ⟨rfl, rfl⟩)
    | (with_reducible refine wpList_alloc (o := ⟨some 8, _, _, _, _, _⟩) rfl 88 rfl zPath (by kernel_rfl) 2 rfl (by decide) ?_; intro gp w5 hgp hFp hBp)
    | (with_reducible refine wpList_store rfl rfl (.tmp 8) (.tmp 25) 88 rfl gp 0 _ 88 2 zPath [.int .i64 (leaf : Int), .slice none 0 0] rfl rfl 2 rfl (by kernel_rfl) hFp (by omega) (allOne_out (by kernel_rfl)) _ hBp hgp ?_; intro w6 hF6 hB6 ho6 hz6))
  rw [splice_pa _ _ rfl rfl] at hF6
  have z3 := hBr.size
  have z6 := hB6.size
  have lr := hFr.lt_size
  have lp := hF6.lt_size
  obtain ⟨w7, hw7⟩ : ∃ w7, w7 = w6.alloc (.cells #[.int .i64 (leaf : Int)] 3) := ⟨_, rfl⟩
  have hFq : Fresh w6.heap.size 3 w7 (some ⟨w6.heap.size, 0, none⟩) 1 1 [.int .i64 (leaf : Int)] := by rw [hw7]; exact Fresh.new w6 3 [.int .i64 (leaf : Int)] 1 rfl (by omega)
  have hB67 : Below w6.heap.size w6 w7 := by rw [hw7]; exact below_alloc _ _
  have z7 : w6.heap.size < w7.heap.size := hFq.lt_size
  rw [← hw7]
  obtain ⟨gq, hgq⟩ : ∃ gq, gq = w6.heap.size := ⟨_, rfl⟩
  rw [← hgq] at hFq z7 ⊢
  have hB36 := Below.then_ hBr hB6
  have hB7 := Below.then_ hB36 hB67
  have hgp2 : w.heap.size ≤ gp := by omega
  have hgq2 : w.heap.size ≤ gq := by omega
  have hpq : gp ≠ gq := by omega
  have nrp : gr ≠ gp := by omega
  have nrq : gr ≠ gq := by omega
  have hlr7 : gr < w7.heap.size := by omega
  have fr7 : w7.heap[gr]? = some (.cells zPath.toArray 88 (0, 0)) := by
    rw [hB67.block gr (by omega), hB6.block gr (by omega)]
    exact hFr.block.1
  have hgr2 : w.heap.size ≤ gr := hFr.block.2
  have fq7 := hFq.lower (base' := w.heap.size) (by omega)
  have fp7 := (hF6.below hB67).lower (base' := w.heap.size) z3
  have hlv := levels_any (pathTeller D ds h leaf hh (by rw [HLEN.out, HN.out]) HALL.out (by rw [← HN.out]; exact hf) w gp gq) hG hh (fun b => b = gp ∨ b = gq ∨ some b = (Value.slice none 0 0).ownBlock) A n c HN.out ⟨none, 0, 0, rfl, hpq, by omega, fp7, by rw [Nat.pow_zero, Nat.div_one]; exact fq7, OwnD.nil⟩ (hd.step hB7) (fun g o e hs => by
    obtain ⟨g', o', e', hg', _⟩ := hd.at_ (k := leaf) hf
    have e3 : g = g' := congrArg Addr.block (Option.some.inj (e.symm.trans e'))
    rcases hs with e4 | e4 | e4
    · omega
    · omega
    · simp [Value.ownBlock] at e4) hB7
  clear hF6 hFq hB67 hw7 hB36 fq7 fp7
  refine hlv.mono ?_
  rintro e w8 ⟨rfl, S8, ⟨B, m, cB, hS8, _, hm, hobj, hplc, hrow⟩, hB8, hz8, hk8, _⟩
  obtain rfl : m = h := by omega
  have fr8 : Fresh w.heap.size 88 w8 (some ⟨gr, 0, none⟩) 2 2 zPath := Fresh.of_block (by rw [hk8 gr hlr7 (fun hs => by rcases hs with e4 | e4 | e4 <;> first | exact nrp e4 | exact nrq e4 | (simp [Value.ownBlock] at e4))]; exact fr7) hgr2 rfl (by unfold maxLen; omega)
  rw [List.take_of_length_le (by rw [len_pathF]; omega)] at hrow
  clear hlv hk8 hplc hS8 hm fr7
  go_wp2_with (first
    | (with_reducible refine wpList_load (o := ⟨some 31, _, _, _, _, _⟩) rfl (.tmp 8) 88 rfl gp 0 _ rfl [.int .i64 (leaf : Int), .slice B m cB] 2 rfl (by kernel_rfl) hobj.sees ?_)
    | (with_reducible refine wpList_store rfl rfl (.tmp 6) (.tmp 31) 88 rfl gr 0 w.heap.size 88 2 zPath [.int .i64 (leaf : Int), .slice B m cB] rfl rfl 2 rfl (by kernel_rfl) fr8 (by omega) (allOne_out (by kernel_rfl)) w hB8 hgr2 ?_; intro w9 hF9 hB9 ho9 hz9))
  rw [splice_pa _ _ rfl rfl] at hF9
  have hrow9 := hrow.apart fr8.block.1 (by decide) ho9
  exact bodyPost_ct rfl rfl _ rfl [.int .i64 (leaf : Int), .slice B m cB] 2 rfl (by kernel_rfl) hF9.sees rfl ⟨B, cB, rfl, hrow9, hB9⟩
end
end Go.Proofs.Ytdpbnppngkamiaa
