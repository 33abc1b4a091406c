/-
  The node of two digests, as the program makes it, by a table or by none.
-/
import Derived.Test.YtpdfalgjmeagjaaLamAwake
import Derived.Laws.Slices
import Derived.Deep.OwnRows
import Derived.Test.YtpdfalgjmeagjaaShaSum
import Derived.Test.YtpdfalgjmeagjaaText600
import Derived.Test.YtpdfalgjmeagjaaPb
namespace Go.Proofs.Ytpdfalgjmeagjaa
open Go.RowKit
set_option linter.unusedVariables false

/-- The node of two digests; one level up; the levels. -/
def nodeF (D : Dg) (a b : List UInt8) : List UInt8 := D.of (textF 4 [a, b])
theorem len_nodeF (D : Dg) (a b : List UInt8) : (nodeF D a b).length = 32 := D.lof _
/-- A digest of a list by its place. -/
def dAt (l : List (List UInt8)) (i : Nat) : List UInt8 := l.getD i []
def upF (D : Dg) (l : List (List UInt8)) : List (List UInt8) := (List.range (l.length / 2)).map fun i => nodeF D (dAt l (2 * i)) (dAt l (2 * i + 1))
def levF (D : Dg) (l : List (List UInt8)) : Nat → List (List UInt8)
  | 0 => l
  | h + 1 => upF D (levF D l h)
def rootF (D : Dg) (l : List (List UInt8)) (h : Nat) : List UInt8 := dAt (levF D l h) 0
/-- The place that has the same node. -/
def sibF (p : Nat) : Nat := if p % 2 = 0 then p + 1 else p - 1
def pathF (D : Dg) (l : List (List UInt8)) (h leaf : Nat) : List (List UInt8) := (List.range h).map fun k => dAt (levF D l k) (sibF (leaf / 2 ^ k))
def climbF (D : Dg) : List UInt8 → Nat → List (List UInt8) → List UInt8
  | x, _, [] => x
  | x, n, b :: bs => climbF D (if n % 2 = 0 then nodeF D x b else nodeF D b x) (n / 2) bs

theorem len_upF (D : Dg) (l : List (List UInt8)) : (upF D l).length = l.length / 2 := by simp [upF]
theorem dAt_lt {l : List (List UInt8)} {i : Nat} (h : i < l.length) : dAt l i = l[i] := by simp [dAt, h]
theorem dAt_some {l : List (List UInt8)} {i : Nat} {d : List UInt8} (h : l[i]? = some d) : dAt l i = d := by simp [dAt, h]
theorem some_dAt {l : List (List UInt8)} {i : Nat} (h : i < l.length) : l[i]? = some (dAt l i) := by rw [dAt_lt h]; exact List.getElem?_eq_getElem h
theorem dAt_append_left {a b : List (List UInt8)} {i : Nat} (h : i < a.length) : dAt (a ++ b) i = dAt a i := by simp [dAt, List.getElem?_append_left h]
theorem dAt_append_right {a b : List (List UInt8)} {i : Nat} (h : a.length ≤ i) : dAt (a ++ b) i = dAt b (i - a.length) := by simp [dAt, List.getElem?_append_right h]
theorem dAt_upF (D : Dg) {l : List (List UInt8)} {i : Nat} (h : i < l.length / 2) : dAt (upF D l) i = nodeF D (dAt l (2 * i)) (dAt l (2 * i + 1)) := by
  rw [dAt_lt (by rw [len_upF]; exact h)]
  simp [upF]
theorem all_upF (D : Dg) (l : List (List UInt8)) : ∀ d ∈ upF D l, d.length = 32 := by
  intro d hd
  obtain ⟨i, _, rfl⟩ := List.mem_map.1 hd
  exact len_nodeF _ _ _
theorem all_levF (D : Dg) (l : List (List UInt8)) (hl : ∀ d ∈ l, d.length = 32) : ∀ h, ∀ d ∈ levF D l h, d.length = 32
  | 0 => hl
  | h + 1 => all_upF D _
theorem len_levF (D : Dg) (l : List (List UInt8)) : ∀ h, (levF D l h).length = l.length / 2 ^ h
  | 0 => by simp [levF]
  | h + 1 => by rw [levF, len_upF, len_levF D l h, Nat.div_div_eq_div_mul, Nat.pow_succ]
theorem len_dAt {l : List (List UInt8)} (hl : ∀ d ∈ l, d.length = 32) {i : Nat} (h : i < l.length) : (dAt l i).length = 32 := by
  rw [dAt_lt h]
  exact hl _ (List.getElem_mem _)
theorem len_pathF (D : Dg) (l : List (List UInt8)) (h leaf : Nat) : (pathF D l h leaf).length = h := by simp [pathF]
/-- Two to the power of h leaves: how many a level has. -/
theorem len_lev2 (D : Dg) {l : List (List UInt8)} {h k : Nat} (hl : l.length = 2 ^ h) (hk : k ≤ h) : (levF D l k).length = 2 ^ (h - k) := by
  rw [len_levF, hl, Nat.pow_div hk (by decide)]
theorem place_lt {h k leaf : Nat} (hk : k ≤ h) (hf : leaf < 2 ^ h) : leaf / 2 ^ k < 2 ^ (h - k) := by
  rw [Nat.div_lt_iff_lt_mul (Nat.pow_pos (by decide)), ← Nat.pow_add, Nat.sub_add_cancel hk]
  exact hf
theorem sib_lt {p m : Nat} (h : p < 2 ^ (m + 1)) : sibF p < 2 ^ (m + 1) := by
  rw [Nat.pow_succ] at *
  unfold sibF
  split <;> omega
theorem all_pathF (D : Dg) {l : List (List UInt8)} {h leaf : Nat} (hl : l.length = 2 ^ h) (ha : ∀ d ∈ l, d.length = 32) (hf : leaf < 2 ^ h) : ∀ d ∈ pathF D l h leaf, d.length = 32 := by
  intro d hd
  obtain ⟨k, hk, rfl⟩ := List.mem_map.1 hd
  have hk2 := List.mem_range.1 hk
  refine len_dAt (all_levF D l ha k) ?_
  rw [len_lev2 D hl (by omega)]
  have h1 := place_lt (k := k) (by omega) hf
  obtain ⟨m, hm⟩ : ∃ m, h - k = m + 1 := ⟨h - k - 1, by omega⟩
  rw [hm] at h1 ⊢
  exact sib_lt h1
/-- From a place of a level up, beside what stands there. -/
theorem climb_up (D : Dg) {l : List (List UInt8)} {h leaf : Nat} (hl : l.length = 2 ^ h) (hf : leaf < 2 ^ h) : ∀ m k, k + m = h →
    climbF D (dAt (levF D l k) (leaf / 2 ^ k)) (leaf / 2 ^ k) ((List.range' k m).map fun k => dAt (levF D l k) (sibF (leaf / 2 ^ k))) = rootF D l h := by
  intro m
  induction m with
  | zero =>
    intro k hk
    obtain rfl : k = h := by omega
    simp only [List.range'_zero, List.map_nil, climbF]
    rw [Nat.div_eq_of_lt hf]
    rfl
  | succ m ih =>
    intro k hk
    rw [List.range'_succ, List.map_cons, climbF]
    have hp := place_lt (k := k) (by omega) hf
    have hlen := len_lev2 D hl (k := k) (by omega)
    have e2 : leaf / 2 ^ k / 2 = leaf / 2 ^ (k + 1) := by rw [Nat.div_div_eq_div_mul, Nat.pow_succ]
    rw [e2, ← ih (k + 1) (by omega)]
    congr 1
    have hpow : 2 ^ (h - k) = 2 * 2 ^ m := by rw [show h - k = m + 1 from by omega, Nat.pow_succ, Nat.mul_comm]
    rw [hpow] at hp hlen
    rw [levF, dAt_upF D (by rw [hlen]; omega), ← e2]
    obtain ⟨p, hpp⟩ : ∃ p, leaf / 2 ^ k = p := ⟨_, rfl⟩
    rw [hpp]
    unfold sibF
    by_cases h2 : p % 2 = 0
    · rw [if_pos h2, if_pos h2, show 2 * (p / 2) = p from by omega]
    · rw [if_neg h2, if_neg h2, show 2 * (p / 2) = p - 1 from by omega, show p - 1 + 1 = p from by omega]
theorem climb_root (D : Dg) {l : List (List UInt8)} {h leaf : Nat} (hl : l.length = 2 ^ h) (hf : leaf < 2 ^ h) : climbF D (dAt l leaf) leaf (pathF D l h leaf) = rootF D l h := by
  have := climb_up D hl hf h 0 (by omega)
  simpa [levF, pathF, List.range_eq_range'] using this
/-- Two lists of leaves, one behind the other. -/
theorem lev_append (D : Dg) {a b : List (List UInt8)} {h : Nat} (ha : a.length = 2 ^ h) (hb : b.length = 2 ^ h) : ∀ k, k ≤ h → levF D (a ++ b) k = levF D a k ++ levF D b k := by
  intro k
  induction k with
  | zero => intro _; rfl
  | succ k ih =>
    intro hk
    rw [levF, ih (by omega), levF, levF]
    have h1 := len_lev2 D ha (k := k) (by omega)
    have h2 := len_lev2 D hb (k := k) (by omega)
    have hpow : 2 ^ (h - k) = 2 * 2 ^ (h - k - 1) := by rw [show h - k = (h - k - 1) + 1 from by omega, Nat.pow_succ, Nat.mul_comm]; simp
    rw [hpow] at h1 h2
    generalize hA : levF D a k = A at *
    generalize hB : levF D b k = B at *
    generalize 2 ^ (h - k - 1) = m at *
    apply List.ext_getElem?
    intro i
    by_cases hi : i < m
    · rw [List.getElem?_append_left (by rw [len_upF]; omega), some_dAt (by rw [len_upF, List.length_append]; omega), some_dAt (by rw [len_upF]; omega), dAt_upF D (by rw [List.length_append]; omega), dAt_upF D (by omega), dAt_append_left (by omega), dAt_append_left (by omega)]
    · by_cases hi2 : i < 2 * m
      · rw [List.getElem?_append_right (by rw [len_upF]; omega), some_dAt (by rw [len_upF, List.length_append]; omega), some_dAt (by rw [len_upF, len_upF]; omega), dAt_upF D (by rw [List.length_append]; omega), dAt_upF D (by rw [len_upF]; omega), dAt_append_right (by omega), dAt_append_right (by omega), len_upF, h1, show 2 * m / 2 = m from by omega, show 2 * i - 2 * m = 2 * (i - m) from by omega, show 2 * i + 1 - 2 * m = 2 * (i - m) + 1 from by omega]
      · rw [List.getElem?_eq_none (by rw [len_upF, List.length_append]; omega), List.getElem?_eq_none (by rw [List.length_append, len_upF, len_upF]; omega)]
theorem root_append (D : Dg) {a b : List (List UInt8)} {h : Nat} (ha : a.length = 2 ^ h) (hb : b.length = 2 ^ h) : rootF D (a ++ b) (h + 1) = nodeF D (rootF D a h) (rootF D b h) := by
  have h1 := len_lev2 D ha (Nat.le_refl h)
  have h2 := len_lev2 D hb (Nat.le_refl h)
  rw [Nat.sub_self, Nat.pow_zero] at h1 h2
  unfold rootF
  rw [levF, lev_append D ha hb h (Nat.le_refl _), dAt_upF D (by rw [List.length_append]; omega), dAt_append_left (by omega), dAt_append_right (by omega), h1]
theorem path_left (D : Dg) {a b : List (List UInt8)} {h leaf : Nat} (ha : a.length = 2 ^ h) (hb : b.length = 2 ^ h) (hf : leaf < 2 ^ h) : pathF D (a ++ b) (h + 1) leaf = pathF D a h leaf ++ [rootF D b h] := by
  unfold pathF
  rw [List.range_succ, List.map_append]
  congr 1
  · apply List.map_congr_left
    intro k hk
    have hk2 := List.mem_range.1 hk
    have h1 := len_lev2 D ha (k := k) (by omega)
    have hp := place_lt (k := k) (by omega) hf
    have hs : sibF (leaf / 2 ^ k) < 2 ^ (h - k) := by
      obtain ⟨m, hm⟩ : ∃ m, h - k = m + 1 := ⟨h - k - 1, by omega⟩
      rw [hm] at hp ⊢
      exact sib_lt hp
    rw [lev_append D ha hb k (by omega), dAt_append_left (by omega)]
  · have h1 := len_lev2 D ha (Nat.le_refl h)
    rw [Nat.sub_self, Nat.pow_zero] at h1
    simp only [List.map_cons, List.map_nil, Nat.div_eq_of_lt hf]
    rw [lev_append D ha hb h (Nat.le_refl _), show sibF 0 = 1 from rfl, dAt_append_right (by omega), h1]
    rfl
theorem path_right (D : Dg) {a b : List (List UInt8)} {h leaf : Nat} (ha : a.length = 2 ^ h) (hb : b.length = 2 ^ h) (hf : leaf < 2 ^ h) : pathF D (a ++ b) (h + 1) (leaf + 2 ^ h) = pathF D b h leaf ++ [rootF D a h] := by
  unfold pathF
  rw [List.range_succ, List.map_append]
  congr 1
  · apply List.map_congr_left
    intro k hk
    have hk2 := List.mem_range.1 hk
    have h1 := len_lev2 D ha (k := k) (by omega)
    have hp := place_lt (k := k) (by omega) hf
    have e1 : (leaf + 2 ^ h) / 2 ^ k = leaf / 2 ^ k + 2 ^ (h - k) := by
      rw [show 2 ^ h = 2 ^ (h - k) * 2 ^ k from by rw [← Nat.pow_add, Nat.sub_add_cancel (by omega)], Nat.add_mul_div_right _ _ (Nat.pow_pos (by decide))]
    obtain ⟨m, hm⟩ : ∃ m, 2 ^ (h - k) = 2 * m := ⟨2 ^ (h - k - 1), by rw [show h - k = (h - k - 1) + 1 from by omega, Nat.pow_succ, Nat.mul_comm]; simp⟩
    have hs : sibF (leaf / 2 ^ k + 2 ^ (h - k)) = sibF (leaf / 2 ^ k) + 2 ^ (h - k) := by
      rw [hm]
      generalize leaf / 2 ^ k = p
      unfold sibF
      split <;> split <;> omega
    rw [e1, hs, lev_append D ha hb k (by omega), dAt_append_right (by omega), h1, Nat.add_sub_cancel]
  · have h1 := len_lev2 D ha (Nat.le_refl h)
    rw [Nat.sub_self, Nat.pow_zero] at h1
    have e1 : (leaf + 2 ^ h) / 2 ^ h = 1 := by
      rw [Nat.add_div_right _ (Nat.pow_pos (by decide)), Nat.div_eq_of_lt hf]
    simp only [List.map_cons, List.map_nil, e1]
    rw [lev_append D ha hb h (Nat.le_refl _), show sibF 1 = 0 from rfl, dAt_append_left (by omega)]
    rfl
/-- Climbing goes step by step. -/
theorem climb_append (D : Dg) : ∀ (a b : List (List UInt8)) (x : List UInt8) (n : Nat), climbF D x n (a ++ b) = climbF D (climbF D x (n % 2 ^ a.length) a) (n / 2 ^ a.length) b
  | [], b, x, n => by simp [climbF]
  | c :: a, b, x, n => by
    rw [List.cons_append, climbF, climb_append D a b, climbF, List.length_cons]
    have e1 : n % 2 ^ (a.length + 1) % 2 = n % 2 := by
      rw [Nat.pow_succ, Nat.mul_comm]
      exact Nat.mod_mul_right_mod _ _ _
    have e2 : n % 2 ^ (a.length + 1) / 2 = n / 2 % 2 ^ a.length := by
      rw [Nat.pow_succ, Nat.mul_comm, Nat.mod_mul_right_div_self]
    have e3 : n / 2 / 2 ^ a.length = n / 2 ^ (a.length + 1) := by
      rw [Nat.div_div_eq_div_mul, Nat.pow_succ, Nat.mul_comm]
    rw [e1, e2, e3]
theorem len_climbF (D : Dg) : ∀ (bs : List (List UInt8)) (x : List UInt8) (n : Nat), x.length = 32 → (climbF D x n bs).length = 32
  | [], x, n, h => h
  | b :: bs, x, n, h => by
    rw [climbF]
    refine len_climbF D bs _ _ ?_
    split <;> exact len_nodeF _ _ _
theorem len_rootF (D : Dg) {l : List (List UInt8)} {h : Nat} (hl : l.length = 2 ^ h) (ha : ∀ d ∈ l, d.length = 32) : (rootF D l h).length = 32 := by
  refine len_dAt (all_levF D l ha h) ?_
  rw [len_lev2 D hl (Nat.le_refl _), Nat.sub_self]
  decide
end Go.Proofs.Ytpdfalgjmeagjaa

namespace Go.Proofs.Ytpdfalgjmeagjaa
open Go.RowKit
set_option linter.unusedVariables false

theorem len_flat {l : List (List UInt8)} (h : ∀ d ∈ l, d.length = 32) : l.flatten.length = 32 * l.length := by
  induction l with
  | nil => rfl
  | cons d l ih =>
    rw [List.flatten_cons, List.length_append, ih (fun x hx => h x (List.mem_cons_of_mem _ hx)), h d List.mem_cons_self, List.length_cons]
    omega
theorem drop_flat {l : List (List UInt8)} (h : ∀ d ∈ l, d.length = 32) : ∀ k, l.flatten.drop (32 * k) = (l.drop k).flatten := by
  induction l with
  | nil => intro k; simp
  | cons d l ih =>
    intro k
    rcases k with _ | k
    · simp
    · rw [List.drop_succ_cons, ← ih (fun x hx => h x (List.mem_cons_of_mem _ hx)) k, List.flatten_cons, List.drop_append, h d List.mem_cons_self, List.drop_eq_nil_of_le (by rw [h d List.mem_cons_self]; omega), List.nil_append, show 32 * (k + 1) - 32 = 32 * k from by omega]
theorem take_flat {l : List (List UInt8)} (h : ∀ d ∈ l, d.length = 32) : ∀ k, l.flatten.take (32 * k) = (l.take k).flatten := by
  induction l with
  | nil => intro k; simp
  | cons d l ih =>
    intro k
    rcases k with _ | k
    · simp
    · rw [List.take_succ_cons, List.flatten_cons, List.flatten_cons, ← ih (fun x hx => h x (List.mem_cons_of_mem _ hx)) k, List.take_append, h d List.mem_cons_self, List.take_of_length_le (by rw [h d List.mem_cons_self]; omega), show 32 * (k + 1) - 32 = 32 * k from by omega]
theorem all_take {l : List (List UInt8)} (h : ∀ d ∈ l, d.length = 32) (k : Nat) : ∀ d ∈ l.take k, d.length = 32 := fun d hd => h d (List.mem_of_mem_take hd)
theorem all_drop {l : List (List UInt8)} (h : ∀ d ∈ l, d.length = 32) (k : Nat) : ∀ d ∈ l.drop k, d.length = 32 := fun d hd => h d (List.mem_of_mem_drop hd)
theorem all_app {l m : List (List UInt8)} (h : ∀ d ∈ l, d.length = 32) (k : ∀ d ∈ m, d.length = 32) : ∀ d ∈ l ++ m, d.length = 32 := fun d hd => (List.mem_append.1 hd).elim (h d) (k d)
theorem chunk_flat {l : List (List UInt8)} (h : ∀ d ∈ l, d.length = 32) {k : Nat} (hk : k < l.length) : chunk l.flatten k = dAt l k := by
  have h2 : (l.drop k).flatten.take (32 * 1) = ((l.drop k).take 1).flatten := take_flat (all_drop h k) 1
  rw [chunk, drop_flat h]
  rw [Nat.mul_one] at h2
  rw [h2, dAt_lt hk, List.drop_eq_getElem_cons hk, List.take_succ_cons, List.take_zero, List.flatten_cons, List.flatten_nil, List.append_nil]
theorem cb_app (a b : List UInt8) : cb a ++ cb b = cb (a ++ b) := by simp [cb]

/-- A list of digests that can be read. -/
structure Digs (w : World) (A : Option Addr) (n : Nat) (ds : List (List UInt8)) : Prop where
  sees : Sees w w.heap.size A (cb ds.flatten)
  len : ds.length = n
  all : ∀ d ∈ ds, d.length = 32
section
variable {w w' : World} {A : Option Addr} {n c base : Nat} {ds : List (List UInt8)}
theorem Digs.step (h : Digs w A n ds) (x : Below w.heap.size w w') : Digs w' A n ds := ⟨h.sees.step x, h.len, h.all⟩
theorem Digs.nil : Digs w A 0 [] := ⟨Sees.nil, rfl, fun d hd => by simp at hd⟩
/-- Where one of them lies. -/
theorem Digs.at_ (h : Digs w A n ds) {k : Nat} (hk : k < n) : ∃ g o, A = some ⟨g, o, none⟩ ∧ g < w.heap.size ∧ Sees w w.heap.size (some ⟨g, o + 32 * k, none⟩) (cb (dAt ds k)) ∧ (dAt ds k).length = 32 := by
  have hl := h.len
  have hf := len_flat h.all
  obtain ⟨g, o, rfl, hg, hc⟩ := h.sees (by rw [List.length_map]; omega)
  have hs : Sees w w.heap.size (some ⟨g, o, none⟩) (cb ds.flatten) := fun _ => ⟨g, o, rfl, hg, hc⟩
  refine ⟨g, o, rfl, hg, ?_, len_dAt h.all (by omega)⟩
  have h1 := (hs.drop_ (32 * k)).take_ 32
  have e : ((cb ds.flatten).drop (32 * k)).take 32 = cb (chunk ds.flatten k) := by simp [cb, chunk, List.map_take, List.map_drop]
  rw [e, chunk_flat h.all (by omega)] at h1
  exact h1
theorem Digs.take_ (h : Digs w A n ds) {k : Nat} (hk : k ≤ n) : Digs w A k (ds.take k) := by
  refine ⟨?_, by rw [List.length_take, h.len]; omega, all_take h.all k⟩
  have h1 := h.sees.take_ (32 * k)
  have e : (cb ds.flatten).take (32 * k) = cb (ds.take k).flatten := by rw [← take_flat h.all k]; simp [cb, List.map_take]
  rwa [e] at h1
/-- A list of digests in new memory. -/
structure OwnD (base : Nat) (w : World) (A : Option Addr) (n c : Nat) (ds : List (List UInt8)) : Prop where
  row : w.ownsRow base 38 32 (.slice A n c) n (cb ds.flatten)
  all : ∀ d ∈ ds, d.length = 32
theorem OwnD.len (h : OwnD base w A n c ds) : ds.length = n := by
  have h1 := h.row.1
  rw [List.length_map, len_flat h.all] at h1
  omega
theorem OwnD.nil : OwnD base w none 0 0 [] := ⟨World.ownsRow_nil _ _ _ _, fun d hd => by simp at hd⟩
theorem OwnD.cap (h : OwnD base w A n c ds) : n ≤ c := by
  rcases h.row.2 with ⟨hv, rfl⟩ | ⟨g, cap, cur, hv, _, _, hn, hm, _⟩
  · exact Nat.zero_le _
  · simp at hv
    obtain ⟨_, rfl⟩ := hv
    exact hn
theorem OwnD.digs (h : OwnD base w A n c ds) : Digs w A n ds := by
  refine ⟨fun hn => ?_, h.len, h.all⟩
  rcases h.row.2 with ⟨hv, h0⟩ | ⟨g, cap, cur, hv, hb, hg, _, _, _, ht⟩
  · have := h.row.1
    rw [h0] at this
    omega
  · simp at hv
    obtain ⟨rfl, rfl⟩ := hv
    refine ⟨g, 0, rfl, (Array.getElem?_eq_some_iff.1 hg).1, fun j u hu => ?_⟩
    rw [Nat.zero_add, cell_of_row w g j cur _ (0, 0) hg]
    rw [← ht, List.getElem?_take] at hu
    split at hu
    · simpa using hu
    · cases hu
theorem OwnD.below (h : OwnD base w A n c ds) (hb : Below w.heap.size w w') : OwnD base w' A n c ds := by
  refine ⟨⟨h.row.1, ?_⟩, h.all⟩
  rcases h.row.2 with hn | ⟨g, cap, cur, hv, hbg, hg, rest⟩
  · exact .inl hn
  · exact .inr ⟨g, cap, cur, hv, hbg, by rw [hb.block g (Array.getElem?_eq_some_iff.1 hg).1]; exact hg, rest⟩
theorem OwnD.lower {base' : Nat} (h : OwnD base w A n c ds) (hb : base' ≤ base) : OwnD base' w A n c ds := by
  refine ⟨⟨h.row.1, ?_⟩, h.all⟩
  rcases h.row.2 with hn | ⟨g, cap, cur, hv, hbg, rest⟩
  · exact .inl hn
  · exact .inr ⟨g, cap, cur, hv, by omega, rest⟩
/-- What is kept wherever a block of another type alone is written. -/
theorem OwnD.apart {g : Nat} {e : TypeId} {xs : Array Value} {fz : Nat × Nat} (h : OwnD base w A n c ds) (hg : w.heap[g]? = some (.cells xs e fz)) (hne : e ≠ 38) (hk : ∀ j, j ≠ g → w'.heap[j]? = w.heap[j]?) : OwnD base w' A n c ds := by
  refine ⟨⟨h.row.1, ?_⟩, h.all⟩
  rcases h.row.2 with hn | ⟨g', cap, cur, hv, hbg, hh, rest⟩
  · exact .inl hn
  · have hgg : g' ≠ g := fun e1 => by
      rw [e1, hg] at hh
      simp at hh
      exact hne hh.2.1
    exact .inr ⟨g', cap, cur, hv, hbg, by rw [hk g' hgg]; exact hh, rest⟩
/-- A whole block of digests. -/
theorem OwnD.fresh {g : Nat} (h : OwnD base w (some ⟨g, 0, none⟩) n n ds) (hm : n ≤ 1099511627776) : Fresh base 38 w (some ⟨g, 0, none⟩) (32 * n) (32 * n) (cb ds.flatten) := by
  rcases h.row.2 with ⟨hv, _⟩ | ⟨g', cap, cur, hv, hb, hg, _, _, hs, ht⟩
  · simp at hv
  · simp only [Value.slice.injEq, Option.some.injEq, Addr.mk.injEq, and_true, true_and] at hv
    obtain ⟨rfl, rfl⟩ := hv
    have e1 : cur.toList = cb ds.flatten := by
      rw [← ht]
      exact (List.take_of_length_le (by simp [hs])).symm
    refine Fresh.of_block ?_ hb (by have := h.row.1; omega) (by unfold maxLen; omega)
    rw [hg, ← e1]
theorem OwnD.of_fresh {g : Nat} (h : Fresh base 38 w (some ⟨g, 0, none⟩) (32 * n) (32 * n) (cb ds.flatten)) (ha : ∀ d ∈ ds, d.length = 32) (hm : n ≤ maxLen) : OwnD base w (some ⟨g, 0, none⟩) n n ds := by
  have hb := h.block
  have hl := h.len
  exact ⟨⟨by omega, .inr ⟨g, n, _, rfl, hb.2, hb.1, Nat.le_refl _, hm, by simp at hl ⊢; omega, by
    rw [List.take_of_length_le (by simp at hl ⊢; omega)]⟩⟩, ha⟩
end

theorem elemD : Try.prog.underlying 144 = some (.slice (Try.prog.elem 144)) := by kernel_rfl
theorem infoD : (Try.prog.info? 38).map (fun i => (i.zero, i.size, i.bytes)) = some (some (.agg (cb (List.replicate 32 0)).toArray), 32, 32) := by kernel_rfl
theorem flat_zeros (n : Nat) : (List.replicate n (List.replicate 32 (0 : UInt8))).flatten = List.replicate (32 * n) 0 := by
  induction n with
  | zero => rfl
  | succ n ih => rw [List.replicate_succ, List.flatten_cons, ih, List.replicate_append_replicate, show 32 + 32 * n = 32 * (n + 1) from by omega]
/-- The place of one of a list's digests. -/
theorem run_ixL {o : Oper} {a : Act} {w : World} (x y : Operand) (hop : o.op = .indexAddr 144 x y) {g off n c j off' : Nat} {I : Int} (hx : a.eval x = .slice (some ⟨g, off, none⟩) n c) (hy : a.eval y = .int .i64 I) (hI : I = (j : Int)) (hj : j < n) (ho : off + 32 * j = off') :
    (execOp a.eval o).run Try.prog w = .ok (.value (.pointer (some ⟨g, off', none⟩))) w := by
  subst hI ho
  obtain ⟨i, hi, hz0, hz1, hz2⟩ := info_parts infoD
  unfold execOp
  simp [hop, hx, hy, Instr.indexAt, Instr.sureAddr, asIntOf, run_underlying Try.underlying144, sizeOf, typeInfo, hi, hz1, hj, Addr.add, Sem.run_bind, Nat.mul_comm]
/-- 'make([]api.Digest, n)'. -/
theorem wpList_mkD {w : World} {ops : Array Oper} {rest : List Oper} {o : Oper} {a : Act} {Q : Exit → Act → World → Prop} (hg : o.guard = none) (x y : Operand) (hop : o.op = Op.makeSlice 144 x y)
    (n : Nat) (hl : a.eval x = .int .i64 (n : Int)) (hl2 : a.eval y = .int .i64 (n : Int)) (hn : n ≤ 1000000000)
    (hK : ∀ w', OwnD w.heap.size w' (some ⟨w.heap.size, 0, none⟩) n n (List.replicate n (List.replicate 32 0)) → Below w.heap.size w w' → wpList Try.prog ops Q rest (a.put o.dst (.slice (some ⟨w.heap.size, 0, none⟩) n n)) w') :
    wpList Try.prog ops Q (o :: rest) a w := by
  obtain ⟨i0, hi, hz0, hz1, hz2⟩ := info_parts infoD
  refine wpList_make_full w hg x y 144 hop w.heap.size 38 i0 (.agg (cb (List.replicate 32 0)).toArray) 32 Try.underlying144 hi hz0 hz1 .i64 .i64 (n : Int) (n : Int) n hl hl2 rfl rfl (by rw [hz2]; omega) (by unfold maxLen; omega) (Nat.le_refl _) ?_
  intro w' h1 h2
  have e : (madeCells (Value.agg (cb (List.replicate 32 0)).toArray).cells (n * 32)).toList = cb (List.replicate n (List.replicate 32 0)).flatten := by
    rw [flat_zeros]
    apply List.ext_getElem?
    intro j
    by_cases hj : j < n * 32
    · simp [madeCells, Value.cells, cb, hj, show j < 32 * n from by omega, Nat.mod_lt]
      show (List.replicate 32 (Value.int .u8 0))[j % 32]'(by simp; omega) = _
      exact List.getElem_replicate _
    · rw [List.getElem?_eq_none (by simp [madeCells]; omega), List.getElem?_eq_none (by simp [cb]; omega)]
  rw [e] at h1
  exact hK w' ⟨h1, fun d hd => by rw [List.eq_of_mem_replicate hd]; rfl⟩ ((Below.refl _ _).grown h2 (Nat.le_refl _) (by simp))
/-- 'append(out, ds..)' onto a list of this call's own. -/
theorem wpList_appD {w : World} {ops : Array Oper} {rest : List Oper} {o : Oper} {a : Act} {Q : Exit → Act → World → Prop} (hg : o.guard = none) (s x : Operand)
    (hop : o.op = .call { callee := .builtin .append, args := #[s, x], argTypes := #[144, 144] })
    (base : Nat) (A : Option Addr) (n c : Nat) (ds : List (List UInt8)) (ad : Addr) (m cm : Nat) (es : List (List UInt8)) (w0 : World) (hs : a.eval s = .slice A n c) (hx : a.eval x = .slice (some ad) m cm) (hF : OwnD base w A n c ds)
    (hc : ∀ j u, (cb es.flatten)[j]? = some u → w.cell? (ad.add j) = some u) (he : ∀ d ∈ es, d.length = 32) (hm : es.length = m) (hn : n + m ≤ 1000000000) (hbase : w0.heap.size ≤ base) (hbw : base ≤ w.heap.size) (hb : Below w0.heap.size w0 w)
    (hK : ∀ A' c' w', OwnD base w' A' (n + m) c' (ds ++ es) → Below w0.heap.size w0 w' → w.grownBy w' (Value.slice A n c).ownBlock → wpList Try.prog ops Q rest (a.put o.dst (.slice A' (n + m) c')) w') :
    wpList Try.prog ops Q (o :: rest) a w := by
  obtain ⟨i0, hi, hz0, hz1, hz2⟩ := info_parts infoD
  refine wpList_append_own w hg s x 144 hop base 38 i0 _ 32 32 Try.underlying144 hi hz0 hz1 hz2 (by simp [Value.cells]) (by omega) _ n _ hs hF.row ad m cm (cb es.flatten) hx (by rw [List.length_map, len_flat he]; omega) hc (cb_one _) (by unfold maxLen; omega) (by omega) hbw ?_
  intro v' w' hown hgr hnil
  have hB : Below w0.heap.size w0 w' := hb.grown hgr hb.size (fun k hk => by have := hF.row.lt k hk; omega)
  rw [cb_app, ← List.flatten_append] at hown
  rcases hown.2 with ⟨rfl, h0⟩ | ⟨g', cap, cu, rfl, _⟩
  · have h1 : n = 0 ∧ m = 0 := by omega
    obtain ⟨h1, h2⟩ := h1
    rw [show (Value.slice none 0 0) = .slice none (n + m) 0 from by rw [h0]] at hown ⊢
    exact hK none 0 w' ⟨hown, all_app hF.all he⟩ hB hgr
  · exact hK _ cap w' ⟨hown, all_app hF.all he⟩ hB hgr
end Go.Proofs.Ytpdfalgjmeagjaa

namespace Go.Proofs.Ytpdfalgjmeagjaa
open Go.RowKit
set_option linter.unusedVariables false

/-- By a table; its keyed digests are none (not asked here). -/
def Dg.tabO (first keys : List UInt32) (h : first.length = 8) : Dg := ⟨ofF first keys, fun _ _ => List.replicate 32 0, fun b => len_ofF _ _ _ h, fun _ _ => List.length_replicate⟩
/-- What T points at makes digests so. -/
structure OfAt (w : World) (T : Option Addr) (D : Dg) : Prop where
  of : ∀ w', Below w.heap.size w w' → ∀ (A : Option Addr) (n c : Nat) (b : List UInt8), Sees w' w'.heap.size A (cb b) → b.length = n → n ≤ c → n ≤ 1099511627776 →
    Calls Try.prog 20 #[.pointer T, .slice A n c] w' fun e w'' => e = .returned (.agg (cb (D.of b)).toArray) ∧ Below w'.heap.size w' w''
theorem OfAt.step {w w' : World} {T : Option Addr} {D : Dg} (h : OfAt w T D) (x : Below w.heap.size w w') : OfAt w' T D :=
  ⟨fun w'' y => h.of w'' (Below.then_ x y)⟩
theorem OfAt.of_tab {w : World} {tb tf : Nat} {first keys : List UInt32} (h : Tab w tb tf first keys) : OfAt w (some ⟨tb, tf, none⟩) (Dg.tabO first keys h.l1) :=
  ⟨fun w' y A n c b h1 h2 h3 h4 => Of_any tb tf first keys A n c b w' (h.step y) h1 h2 h3 h4⟩
theorem sees_newO (w : World) (e : TypeId) (C : Array Value) (xs : List Value) (hC : C = xs.toArray) : Sees (w.alloc (.cells C e)) (w.alloc (.cells C e)).heap.size (some ⟨w.heap.size, 0, none⟩) xs := fun _ => by
  subst hC
  exact ⟨w.heap.size, 0, rfl, by simp, fun j u hu => by rw [Nat.zero_add, World.cell?_alloc_mark]; simpa using hu⟩
theorem parts_twoO (w : World) (e : TypeId) (C : Array Value) (p q : Pb) (hC : C = [p.cell, q.cell].toArray) (hp : p.Ok w) (hq : q.Ok w) : Parts (w.alloc (.cells C e)) (some ⟨w.heap.size, 0, none⟩) 2 [p, q] :=
  ⟨sees_newO w e C _ hC, rfl, fun r hr => by
    rcases List.mem_cons.1 hr with rfl | hr
    · exact hp.step (below_alloc _ _)
    · rcases List.mem_cons.1 hr with rfl | hr
      · exact hq.step (below_alloc _ _)
      · cases hr⟩
section
variable {w : World}
set_option maxHeartbeats 1000000 in
set_option maxRecDepth 100000 in
theorem TaggedO {T : Option Addr} {G : Dg} (hG : OfAt w T G) (tag : UInt8) (A : Option Addr) (n c : Nat) (ps : List Pb) (ls : List (List UInt8)) (hp : Parts w A n ps) (hls : ps.map Pb.l = ls) (hn : n ≤ 600) (hm : ∀ p ∈ ps, p.m ≤ 300) (R : List UInt8) (hR : G.of (textF tag ls) = R) :
    Calls Try.prog 158 #[.pointer T, .int .u8 (tag.toNat : Int), .slice A n c] w fun e w' => e = .returned (.agg (cb R).toArray) ∧ Below w.heap.size w w' := by
  have hlen : ls.length = n := by rw [← hls, List.length_map]; exact hp.len
  have hll : ∀ l ∈ ls, l.length ≤ 300 := by
    intro l hl
    rw [← hls] at hl
    obtain ⟨p, hpm, rfl⟩ := List.mem_map.1 hl
    rw [(hp.ok p hpm).len]
    exact hm p hpm
  obtain ⟨N, hN⟩ : ∃ N, (textF tag ls).length = N := ⟨_, rfl⟩
  have hNl : N ≤ 1000000 := by
    have h1 := blobs_le3 ls hll
    have h2 := nd_bd ls.length
    rw [← hN, textF, List.length_append, List.length_append, len_digs, show ([75, tag] : List UInt8).length = 2 from rfl]
    omega
  have HN := Lib.hid hN
  have HD := Lib.hid hR
  have HLD := Lib.hid (show R.length = 32 by rw [← hR]; exact G.lof _)
  clear hlen hll hN hR
  go_enter Try.func158, Try.ntmps158
  go_wp2_with (first
    | (with_reducible refine wpList_alloc (o := ⟨some 6, _, _, _, _, _⟩) rfl 38 rfl (cb (List.replicate 32 0)) (by kernel_rfl) 32 (by simp) (by decide) ?_; intro gr w1 hgr hFr hBr)
    | (go_at_call 26; refine (Text_600 tag A n c N ps ls (hp.step hBr) hls (by omega) hm HN.out).mono ?_; rintro e w2 ⟨A2, c2, rfl, hF2, hB2⟩; have hB02 := Below.then_ hBr hB2; have hcap := hF2.cap.1)
    | (go_at_call 20; refine (hG.of _ hB02 A2 N c2 (textF tag ls) hF2.sees HN.out hcap (by omega)).mono ?_; rintro e w3 ⟨rfl, hB3⟩; rw [HD.out]; have hB03 := Below.then_ hB02 hB3; have hF3 := ((hFr.below hB2).below hB3))
    | (with_reducible refine wpList_store rfl rfl (.tmp 6) (.tmp 11) 38 rfl gr 0 w.heap.size 38 32 (cb (List.replicate 32 0)) (cb R) rfl rfl 32 (by rw [List.length_map]; exact HLD.out) (by kernel_rfl) hF3 (by omega) (cb_one _) w hB03 (by omega) ?_; intro w9 hF9 hB9 _ _))
  rw [splice_zb 32 R HLD.out] at hF9
  exact bodyPost_cell rfl rfl (cb R) 32 (by rw [List.length_map]; exact HLD.out) (by kernel_rfl) hF9.sees rfl ⟨rfl, hB9⟩
end
end Go.Proofs.Ytpdfalgjmeagjaa

namespace Go.Proofs.Ytpdfalgjmeagjaa
open Go.RowKit
set_option linter.unusedVariables false

def mnF (T : Option Addr) (ga gb : Nat) (a b R : List UInt8) (j : Nat) (x : Value) (w : World) : Prop :=
  match j with
  | 0 => x = .pointer T
  | 1 => x = .slice (some ⟨ga, 0, none⟩) 32 32
  | 2 => x = .slice (some ⟨gb, 0, none⟩) 32 32
  | 3 => ∃ g, x = .slice (some ⟨g, 0, none⟩) 2 2 ∧ Parts w (some ⟨g, 0, none⟩) 2 [⟨some ⟨ga, 0, none⟩, 32, 32, a⟩, ⟨some ⟨gb, 0, none⟩, 32, 32, b⟩]
  | 4 => x = .agg (cb R).toArray
  | _ => True
theorem mnF_stab (T : Option Addr) (ga gb : Nat) (a b R : List UInt8) : ∀ j x w w', Below w.heap.size w w' → mnF T ga gb a b R j x w → mnF T ga gb a b R j x w' := by
  intro j x w w' hb h
  unfold mnF at *
  split at h <;> first | exact h | (obtain ⟨g, e, hP⟩ := h; exact ⟨g, e, hP.step hb⟩) | trivial

section
variable {w : World}
set_option maxHeartbeats 1000000 in
set_option maxRecDepth 100000 in
theorem Node_any {T : Option Addr} {G : Dg} (hG : OfAt w T G) (a b : List UInt8) (ha : a.length = 32) (hb : b.length = 32) :
    Calls Try.prog 169 #[.pointer T, .agg (cb a).toArray, .agg (cb b).toArray] w fun e w' => e = .returned (.agg (cb (nodeF G a b)).toArray) ∧ Below w.heap.size w w' := by
  have HA := Lib.hid ha
  have HB := Lib.hid hb
  have HL := Lib.hid (len_nodeF G a b)
  obtain ⟨R, hR⟩ : ∃ R, nodeF G a b = R := ⟨_, rfl⟩
  have HR : Hid (G.of (textF 4 [a, b]) = R) := Lib.hid hR
  rw [hR] at HL ⊢
  clear ha hb hR
  go_enter Try.func169, Try.ntmps169
  go_upto_region 1 with (first
    | (with_reducible refine wpList_box (o := ⟨some 4, _, _, _, _, _⟩) rfl (.tmp 1) 38 rfl (cb a) rfl 32 (by rw [List.length_map]; exact HA.out) (by decide) ?_; intro ga w1 hga hFa hBa)
    | (with_reducible refine wpList_box (o := ⟨some 5, _, _, _, _, _⟩) rfl (.tmp 2) 38 rfl (cb b) rfl 32 (by rw [List.length_map]; exact HB.out) (by decide) ?_; intro gb w2 hgb hFb hBb)
    | (with_reducible refine wpList_alloc (o := ⟨some 6, _, _, _, _, _⟩) rfl 38 rfl (cb (List.replicate 32 0)) (by kernel_rfl) 32 (len_zb 32) (by decide) ?_; intro gr w3 hgr hFr hBr))
  simp only [Act.put, List.setIfInBounds_toArray, List.set_cons_succ, List.set_cons_zero]
  have z1 := hBa.size
  have z2 := hBb.size
  have hB := Below.then_ (Below.then_ hBa hBb) hBr
  have fa := (hFa.below hBb).below hBr
  have fb := hFb.below hBr
  have fr := hFr.lower (base' := w.heap.size) (by omega)
  have hgr2 : w.heap.size ≤ gr := by omega
  clear hFa hFb hFr hBa hBb hBr hga hgb hgr z1 z2
  refine region_all_tail 5 (mnF T ga gb a b R) (by kernel_rfl) (by kernel_rfl) (by kernel_rfl) (mnF_stab _ _ _ _ _ _) ?_ ?_
  · intro w0 hb0
    simp only [List.take_succ_cons, List.take_zero]
    refine ⟨?_, ?_, ?_, ?_, ?_, trivial⟩
    all_goals intro listed a1 w' hk1 hd1
    · have f0_ : a1.eval (.tmp 0) = .pointer T := hk1.ev_old 0 (by kernel_rfl)
      have g0_ : a1.tmps[0]?.getD undef = .pointer T := by simpa [Act.eval] using f0_
      exact stepOk_value rfl (v := .pointer T) (by go_simp) rfl
    · have f4_ : a1.eval (.tmp 4) = .pointer (some ⟨ga, 0, none⟩) := hk1.ev_old 4 (by kernel_rfl)
      have g4_ : a1.tmps[4]?.getD undef = .pointer (some ⟨ga, 0, none⟩) := by simpa [Act.eval] using f4_
      have hsl := sl32_all ga
      exact stepOk_value rfl (v := .slice (some ⟨ga, 0, none⟩) 32 32) (by go_simp) rfl
    · have f5_ : a1.eval (.tmp 5) = .pointer (some ⟨gb, 0, none⟩) := hk1.ev_old 5 (by kernel_rfl)
      have g5_ : a1.tmps[5]?.getD undef = .pointer (some ⟨gb, 0, none⟩) := by simpa [Act.eval] using f5_
      have hsl := sl32_all gb
      exact stepOk_value rfl (v := .slice (some ⟨gb, 0, none⟩) 32 32) (by go_simp) rfl
    · obtain ⟨y1, e1, q1, rfl⟩ := hk1.ev_new hd1 1 8 (by kernel_rfl) rfl
      obtain ⟨y2, e2, q2, rfl⟩ := hk1.ev_new hd1 2 9 (by kernel_rfl) rfl
      refine stepOk_run rfl (v := .slice (some ⟨w'.heap.size, 0, none⟩) 2 2) (w' := w'.alloc (.cells #[.slice (some ⟨ga, 0, none⟩) 32 32, .slice (some ⟨gb, 0, none⟩) 32 32] 27)) (by go_simp) ⟨_, rfl, parts_twoO w' 27 _ ⟨some ⟨ga, 0, none⟩, 32, 32, a⟩ ⟨some ⟨gb, 0, none⟩, 32, 32, b⟩ rfl ⟨((fa.below hb0).below hk1.below).sees, HA.out, Nat.le_refl _⟩ ⟨((fb.below hb0).below hk1.below).sees, HB.out, Nat.le_refl _⟩⟩ (below_alloc _ _)
    · obtain ⟨y0, e0, q0, rfl⟩ := hk1.ev_new hd1 0 7 (by kernel_rfl) rfl
      obtain ⟨y3, e3, r3, q3⟩ := hk1.ev_new hd1 3 10 (by kernel_rfl) rfl
      obtain ⟨g3, rfl, hP3⟩ := q3
      have hbk := Below.then_ (Below.then_ hB hb0) hk1.below
      refine stepOk_enter rfl (f := 158) (args := #[.pointer T, .int .u8 4, .slice (some ⟨g3, 0, none⟩) 2 2]) (by go_simp) ?_
      have ho := TaggedO (hG.step hbk) 4 (some ⟨g3, 0, none⟩) 2 2 [⟨some ⟨ga, 0, none⟩, 32, 32, a⟩, ⟨some ⟨gb, 0, none⟩, 32, 32, b⟩] [a, b] hP3 rfl (by omega) (by intro p hp; simp at hp; rcases hp with rfl | rfl <;> (show 32 ≤ 300; omega)) R HR.out
      refine ho.mono ?_
      rintro e w5 ⟨rfl, hB5⟩
      exact ⟨_, rfl, rfl, hB5⟩
  · intro a1 w7 hb7 hp
    obtain ⟨x0, p0, x1, p1, x2, p2, x3, p3, x4, p4, rfl⟩ := hp
    simp only [mnF] at p0 p1 p2 p3 p4
    obtain ⟨g3, rfl, hP3⟩ := p3
    subst p0 p1 p2 p4
    simp only [List.drop_succ_cons, List.drop_zero, Act.put, List.setIfInBounds_toArray, List.set_cons_succ, List.set_cons_zero]
    have hBw := Below.then_ hB hb7
    go_wp2_with (with_reducible refine wpList_store rfl rfl (.tmp 6) (.tmp 11) 38 rfl gr 0 w.heap.size 38 32 (cb (List.replicate 32 0)) (cb R) rfl rfl 32 (by rw [List.length_map]; exact HL.out) (by kernel_rfl) (fr.below hb7) (by omega) (cb_one _) w hBw hgr2 ?_; intro w9 hF9 hB9 _ _)
    rw [splice_zb 32 R HL.out] at hF9
    exact bodyPost_cell rfl rfl (cb R) 32 (by rw [List.length_map]; exact HL.out) (by kernel_rfl) hF9.sees rfl ⟨rfl, hB9⟩
end
end Go.Proofs.Ytpdfalgjmeagjaa
