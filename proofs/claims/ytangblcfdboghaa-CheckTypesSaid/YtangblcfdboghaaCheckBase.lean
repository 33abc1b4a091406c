/-
  What layer 14's texts lean on beside check.done: blocks told apart by what they hold, whether a program is great, a slice of bools as an argument.
-/
import Derived.Test.YtangblcfdboghaaCheckDone
import Derived.Test.YtangblcfdboghaaRow
import Derived.Deep.Slices
import Derived.Deep.Grids
namespace Go.Proofs.Ytangblcfdboghaa
open Go.RowKit
set_option linter.unusedVariables false
set_option linter.constructorNameAsVariable false

/-- Blocks of such elements are as they were. -/
def KeepB (e : TypeId) (w w' : World) : Prop := ∀ (k : Nat) (xs : Array Value) (fz : Nat × Nat), w.heap[k]? = some (.cells xs e fz) → w'.heap[k]? = w.heap[k]?
theorem KeepB.refl (e : TypeId) (w : World) : KeepB e w w := fun _ _ _ _ => rfl
theorem KeepB.then_ {e : TypeId} {a b c : World} (h : KeepB e a b) (k : KeepB e b c) : KeepB e a c := fun j xs fz hj => by
  have h1 := h j xs fz hj
  exact (k j xs fz (h1.trans hj)).trans h1
theorem KeepB.of_below {e : TypeId} {w w' : World} (h : Below w.heap.size w w') : KeepB e w w' := fun k xs fz hk => h.block k (Array.getElem?_eq_some_iff.1 hk).1
theorem KeepB.of_other {e : TypeId} {w w' : World} {g : Nat} {t : TypeId} {ys : Array Value} {fz' : Nat × Nat} (hg : w.heap[g]? = some (.cells ys t fz')) (hne : e ≠ t) (h : ∀ k, k ≠ g → w'.heap[k]? = w.heap[k]?) : KeepB e w w' := fun k xs fz hk => by
  refine h k (fun e1 => ?_)
  rw [e1, hg] at hk
  simp at hk
  exact hne hk.2.1.symm
theorem KeepB.of_grown {e : TypeId} {w w' : World} {row : Option Nat} (hg : w.grownBy w' row) (hr : ∀ g, row = some g → ∃ ys t fz, w.heap[g]? = some (.cells ys t fz) ∧ e ≠ t) : KeepB e w w' := fun k xs fz hk => by
  refine hg.block k (Array.getElem?_eq_some_iff.1 hk).1 (fun e1 => ?_)
  obtain ⟨ys, t, fz', h1, h2⟩ := hr k e1.symm
  rw [h1] at hk
  simp at hk
  exact h2 hk.2.1.symm
theorem Fresh.keepB {base : Nat} {e : TypeId} {w w' : World} {A : Option Addr} {n c : Nat} {xs : List Value} (h : Fresh base e w A n c xs) (k : KeepB e w w') : Fresh base e w' A n c xs := by
  refine ⟨h.1, ?_⟩
  rcases h.2 with hn | ⟨g, cap, cur, hv, hbg, hg, rest⟩
  · exact .inl hn
  · exact .inr ⟨g, cap, cur, hv, hbg, by rw [k g _ _ hg]; exact hg, rest⟩

theorem Right_ok (m : Pm) (w : World) (hm : PmAt w.heap.size w m) (r : Bool) (hr : m.p.right = r) : Calls Try.prog 26 #[.agg m.cells.toArray] w fun e w' => e = .returned (.bool r) ∧ Below w.heap.size w w' := by
  have := Right_any m w hm
  rwa [hr] at this
def noC : List Value := [sv [], .slice none 0 0, .slice none 0 0, .slice none 0 0]
theorem zeroC : ((Try.prog.info? 26).map (·.zero)) = some (some (.agg noC.toArray)) := by kernel_rfl
theorem cd1 (nm : List UInt8) (Av : Option Addr) (nv cv : Nat) (Ab : Option Addr) (nb cb' : Nat) (Ai : Option Addr) (ni ci : Nat) : ∀ u ∈ [sv nm, .slice Av nv cv, .slice Ab nb cb', .slice Ai ni ci], u.oneCell' = true := by
  intro u hu
  simp at hu
  rcases hu with rfl | rfl | rfl | rfl <;> rfl
theorem pm_one (m : Pm) : ∀ u ∈ m.cells, u.oneCell' = true := cd1 _ _ _ _ _ _ _ _ _ _
/-- Whether a program has more than is looked at. -/
def GreatC (m : Pm) (e : Ending) : Prop := ∃ b, e = .returned (.bool b) ∧ (b = false → m.nv ≤ 220 ∧ m.nb ≤ 120 ∧ m.ni ≤ 2100 ∧ m.p.name.length ≤ 3000)
set_option maxHeartbeats 8000000 in
set_option maxRecDepth 100000 in
theorem GreatC_any (m : Pm) (w : World) (hm : PmAt w.heap.size w m) :
    Calls Try.prog 12 #[.agg m.cells.toArray] w fun e w' => GreatC m e ∧ Below w.heap.size w w' := by
  have hnm := hm.name
  have hsm := hm.small
  unfold maxLen at hnm
  go_enter Try.func12, Try.ntmps12
  have NV := Lib.hid hm.nv
  by_cases q : m.nv ≤ 220 ∧ m.nb ≤ 120 ∧ m.ni ≤ 2100 ∧ m.p.name.length ≤ 3000
  · obtain ⟨q1, q2, q3, q4⟩ := q
    go_wp2_with (first
        | (with_reducible refine wpList_box (o := ⟨some 1, _, _, _, _, _⟩) rfl (.tmp 0) 26 rfl m.cells rfl 4 (pm4 m) (by decide) ?_; intro g w1 hg hG hB; have c0 := hG.cell_ (k := 0) rfl; have c1 := hG.cell_ (k := 1) rfl; have c2 := hG.cell_ (k := 2) rfl; have c3 := hG.cell_ (k := 3) rfl))
    go_loopw [3, 4, 30] (fun z v i wr => ∃ k : Nat, ∃ y : Int, k ≤ m.nv ∧ i = .int .i64 k ∧ z = .int .i64 y ∧ (-9223372036854775808 ≤ y ∧ y < 9223372036854775808) ∧ wr = w1) (fun _ _ i _ => m.nv - (intOf i).toNat)
    case atStart => exact ⟨0, 0, by omega, rfl, rfl, by omega, rfl⟩
    case round =>
      obtain ⟨k, y, hk, rfl, rfl, hy, rfl⟩ := hrel
      by_cases hlt : k < m.nv
      · obtain ⟨b, o, hA, hb, v, HX, hx, hc⟩ := (hm.vars.below hB).quad vr4 NV.out hlt
        have d0 := hc.cell4 0 _ rfl
        simp only [Nat.add_zero] at d0
        have hvn := (hm.okv v hx).name
        unfold maxLen at hvn
        rw [hA]
        go_wp2_with fail
        go_roundw
        case rel => exact ⟨k + 1, wrap64 (y + v.name.length), by omega, by go_num, rfl, by unfold wrap64; omega, trivial⟩
        case measure => simp [intOf]; omega
      · go_wp2_with fail
        go_ret
        exact ⟨⟨_, rfl, fun _ => ⟨q1, q2, q3, q4⟩⟩, hB⟩
  · by_cases q1 : m.nv ≤ 220
    · by_cases q2 : m.nb ≤ 120
      · by_cases q3 : m.ni ≤ 2100
        · have q4 : ¬ m.p.name.length ≤ 3000 := fun h => q ⟨q1, q2, q3, h⟩
          go_wp2_with (first
              | (with_reducible refine wpList_box (o := ⟨some 1, _, _, _, _, _⟩) rfl (.tmp 0) 26 rfl m.cells rfl 4 (pm4 m) (by decide) ?_; intro g w1 hg hG hB; have c0 := hG.cell_ (k := 0) rfl; have c1 := hG.cell_ (k := 1) rfl; have c2 := hG.cell_ (k := 2) rfl; have c3 := hG.cell_ (k := 3) rfl))
          go_ret
          exact ⟨⟨true, rfl, fun h => by cases h⟩, hB⟩
        · go_wp2_with (first
              | (with_reducible refine wpList_box (o := ⟨some 1, _, _, _, _, _⟩) rfl (.tmp 0) 26 rfl m.cells rfl 4 (pm4 m) (by decide) ?_; intro g w1 hg hG hB; have c0 := hG.cell_ (k := 0) rfl; have c1 := hG.cell_ (k := 1) rfl; have c2 := hG.cell_ (k := 2) rfl; have c3 := hG.cell_ (k := 3) rfl))
          go_ret
          exact ⟨⟨true, rfl, fun h => by cases h⟩, hB⟩
      · go_wp2_with (first
            | (with_reducible refine wpList_box (o := ⟨some 1, _, _, _, _, _⟩) rfl (.tmp 0) 26 rfl m.cells rfl 4 (pm4 m) (by decide) ?_; intro g w1 hg hG hB; have c0 := hG.cell_ (k := 0) rfl; have c1 := hG.cell_ (k := 1) rfl; have c2 := hG.cell_ (k := 2) rfl; have c3 := hG.cell_ (k := 3) rfl))
        go_ret
        exact ⟨⟨true, rfl, fun h => by cases h⟩, hB⟩
    · go_wp2_with (first
          | (with_reducible refine wpList_box (o := ⟨some 1, _, _, _, _, _⟩) rfl (.tmp 0) 26 rfl m.cells rfl 4 (pm4 m) (by decide) ?_; intro g w1 hg hG hB; have c0 := hG.cell_ (k := 0) rfl; have c1 := hG.cell_ (k := 1) rfl; have c2 := hG.cell_ (k := 2) rfl; have c3 := hG.cell_ (k := 3) rfl))
      go_ret
      exact ⟨⟨true, rfl, fun h => by cases h⟩, hB⟩
section
variable {H : Type} {enc : TypeId × Value → H} {w : World} {held : Bool}
theorem boolsC {fuel : Nat} {v : Value} {x : DataW H × List MemPlace} (h : DataW.trod enc Try.prog w 0 (fun _ => true) held fuel 66 [v] = some x) : ∃ (A : Option Addr) (m c : Nat) (b : List Bool), v = .slice A m c ∧ b.length = m ∧ Sees w w.heap.size A (b.map Value.bool) := by
  rcases Deep.open_bools Try.underlying66 Try.underlying4 (by kernel_rfl) h with ⟨hcs, _⟩ | ⟨⟨g, o, s⟩, len, cap, B, hcs, _, hl, hm, _, hcell⟩
  · simp at hcs
    exact ⟨none, 0, 0, [], hcs, rfl, Sees.nil⟩
  · simp at hcs
    refine ⟨some ⟨g, o, s⟩, len, cap, (List.range len).map B, hcs, by simp, fun hn => ?_⟩
    have hn' : 0 < len := by simpa using hn
    have h0 := hcell 0 (by omega)
    have hs : s = none := by simpa [Addr.add] using World.cell?_spot h0
    subst hs
    rw [Addr.add_lit] at h0
    refine ⟨g, o, rfl, World.block_lt_of_cell? _ _ h0, fun j u hu => ?_⟩
    have hj : j < len := by have := (List.getElem?_eq_some_iff.1 hu).1; simpa using this
    have h1 := hcell j (by omega)
    rw [Addr.add_lit] at h1
    rw [h1]
    simpa [hj] using hu
end
end Go.Proofs.Ytangblcfdboghaa
