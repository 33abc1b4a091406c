/-
  The small machine, first part: values, memory, numbers, what is made, slices, appending, comparing, operations.
-/
import Derived.WalkKit
import Derived.WalkLawsBesides
import Derived.Laws.Rows
import Derived.Laws.CopyRow
import Derived.Laws.OwnMore
import Derived.Orders
import Derived.Below
import Derived.Laws.Bits64
import Derived.Laws.BitsLemmas
import Derived.Laws.BitsAllLaws
import Derived.Laws.Strings
import Derived.Laws.Append
import Derived.Laws.BytesString
import Derived.Laws.StructEq
/-
  A small machine of our own that runs a function's code in one order over a memory of its own numbering: its values, its memory, and when a world is as that memory says. No function of the program is named here.
-/
namespace Go.Proofs.Ytpdfalgjmeagjaa
open Go.RowKit
set_option linter.unusedVariables false

/-! ### Trees by numbers -/

inductive Tq (α : Type) where
  | nil
  | node (l : Tq α) (v : Option α) (r : Tq α)

namespace Tq
variable {α : Type}
def get : Nat → Tq α → Nat → Option α
  | 0, _, _ => none
  | _ + 1, .nil, _ => none
  | d + 1, .node l v r, k => match k with
    | 0 => v
    | m + 1 => match m % 2 with
      | 0 => get d l (m / 2)
      | _ => get d r (m / 2)
def set : Nat → Tq α → Nat → Option α → Tq α
  | 0, t, _, _ => t
  | d + 1, .nil, k, x => match k with
    | 0 => .node .nil x .nil
    | m + 1 => match m % 2 with
      | 0 => .node (set d .nil (m / 2) x) none .nil
      | _ => .node .nil none (set d .nil (m / 2) x)
  | d + 1, .node l v r, k, x => match k with
    | 0 => .node l x r
    | m + 1 => match m % 2 with
      | 0 => .node (set d l (m / 2) x) v r
      | _ => .node l v (set d r (m / 2) x)

theorem get_nil : ∀ (d k : Nat), get d (.nil : Tq α) k = none
  | 0, _ => rfl
  | _ + 1, _ => rfl
theorem half_ne {a b : Nat} (h : a ≠ b) (p : a % 2 = b % 2) : a / 2 ≠ b / 2 := by omega
theorem get_set : ∀ (d : Nat) (t : Tq α) (k : Nat) (x : Option α) (j : Nat), k ≠ j → get d (set d t k x) j = get d t j
  | 0, _, _, _, _, _ => rfl
  | d + 1, .nil, k, x, j, h => by
    rcases k with _ | k <;> rcases j with _ | j <;> simp only [set, get]
    · exact absurd rfl h
    · split <;> simp [get_nil]
    · split <;> simp [get]
    · have h' : k ≠ j := fun e => h (by rw [e])
      rcases Nat.mod_two_eq_zero_or_one k with p | p <;> rcases Nat.mod_two_eq_zero_or_one j with q | q <;> simp only [p, q, get, get_nil]
      · rw [get_set d .nil _ x _ (half_ne h' (by rw [p, q])), get_nil]
      · rw [get_set d .nil _ x _ (half_ne h' (by rw [p, q])), get_nil]
  | d + 1, .node l v r, k, x, j, h => by
    rcases k with _ | k <;> rcases j with _ | j <;> simp only [set, get]
    · exact absurd rfl h
    · split <;> simp [get]
    · have h' : k ≠ j := fun e => h (by rw [e])
      rcases Nat.mod_two_eq_zero_or_one k with p | p <;> rcases Nat.mod_two_eq_zero_or_one j with q | q <;> simp only [p, q, get]
      · rw [get_set d l _ x _ (half_ne h' (by rw [p, q]))]
      · rw [get_set d r _ x _ (half_ne h' (by rw [p, q]))]
theorem get_set_self : ∀ (d : Nat) (t : Tq α) (k : Nat) (x y : Option α), get d (set d t k x) k = y → y = x ∨ y = none
  | 0, _, _, _, y, h => .inr h.symm
  | d + 1, .nil, k, x, y, h => by
    rcases k with _ | k <;> simp only [set, get] at h
    · exact .inl h.symm
    · rcases Nat.mod_two_eq_zero_or_one k with p | p <;> simp only [p, get] at h <;> exact get_set_self d _ _ x y h
  | d + 1, .node l v r, k, x, y, h => by
    rcases k with _ | k <;> simp only [set, get] at h
    · exact .inl h.symm
    · rcases Nat.mod_two_eq_zero_or_one k with p | p <;> simp only [p, get] at h <;> exact get_set_self d _ _ x y h
theorem get_set_at : ∀ (d : Nat) (t : Tq α) (k : Nat) (x : Option α), k + 1 < 2 ^ d → get d (set d t k x) k = x
  | 0, _, _, _, h => by simp at h
  | d + 1, .nil, k, x, h => by
    have h2 : 2 ^ (d + 1) = 2 ^ d * 2 := Nat.pow_succ 2 d
    rcases k with _ | k
    · rfl
    · rcases Nat.mod_two_eq_zero_or_one k with p | p <;> simp only [set, p, get] <;> exact get_set_at d _ _ x (by omega)
  | d + 1, .node l v r, k, x, h => by
    have h2 : 2 ^ (d + 1) = 2 ^ d * 2 := Nat.pow_succ 2 d
    rcases k with _ | k
    · rfl
    · rcases Nat.mod_two_eq_zero_or_one k with p | p <;> simp only [set, p, get] <;> exact get_set_at d _ _ x (by omega)
end Tq

/-- How deep a tree is looked into. -/
abbrev deep : Nat := 40

/-! ### Values -/

/-- A slice's room: so much; or what its block has, less so many; or the same of an empty one, that begins elsewhere if it has none. -/
inductive Cap where
  | is (n : Nat)
  | upTo (d : Nat)
  | gone (d o : Nat)
def Cap.at_ (C : Nat) : Cap → Nat
  | .is n => n
  | .upTo d => C - d
  | .gone d _ => C - d
def Cap.off (C o : Nat) : Cap → Nat
  | .gone d o1 => if C ≤ d then o1 else o
  | _ => o

inductive AV where
  | bool (b : Bool)
  | int (k : IntKind) (n : Int)
  | string (s : ByteArray)
  | pointer (a : Option (Nat × Nat))
  | slice (a : Option (Nat × Nat)) (n : Nat) (c : Cap)
  | func (f : Fn) (first captured : List AV)
  | nilFunc
  | iface (t : TypeId) (v : AV)
  | nilIface
  | map (r : Option Nat)
  | agg (l : List AV)
  | tuple (l : List AV)
  | opq (v : Value)
instance : Inhabited AV := ⟨.tuple []⟩
abbrev AV.undef : AV := .tuple []

def AV.cells : AV → List AV
  | .agg l => l
  | v => [v]
def AV.one : AV → Bool
  | .agg _ | .tuple _ => false
  | _ => true

/-- Where each block of the small memory lies: its number in the world, and how many elements it has room for. -/
abbrev Pos := Nat → Option (Nat × Nat)

/-- A value that is handed on, and not looked into. -/
def opaqV : Value → Bool
  | .int _ _ | .string _ | .pointer _ | .slice _ _ _ | .map _ => true
  | _ => false
mutual
def con (ρ : Pos) : AV → Option Value
  | .opq v => match opaqV v with
    | true => some v
    | false => none
  | .bool b => some (.bool b)
  | .int k n => some (.int k n)
  | .string s => some (.string s)
  | .pointer none => some (.pointer none)
  | .pointer (some p) => (ρ p.1).map fun g => .pointer (some ⟨g.1, p.2, none⟩)
  | .slice none n (.is c) => some (.slice none n c)
  | .slice none _ (.upTo _) => none
  | .slice none _ (.gone _ _) => none
  | .slice (some p) n c => (ρ p.1).map fun g => .slice (some ⟨g.1, c.off g.2 p.2, none⟩) n (c.at_ g.2)
  | .func f x y => match conL ρ x, conL ρ y with
    | some xs, some ys => some (.func f xs.toArray ys.toArray)
    | _, _ => none
  | .nilFunc => some .nilFunc
  | .iface t v => match con ρ v with
    | some u => some (.iface t u)
    | none => none
  | .nilIface => some .nilIface
  | .map none => some (.map none)
  | .map (some _) => none
  | .agg l => match conL ρ l with
    | some xs => some (.agg xs.toArray)
    | none => none
  | .tuple l => match conL ρ l with
    | some xs => some (.tuple xs.toArray)
    | none => none
def conL (ρ : Pos) : List AV → Option (List Value)
  | [] => some []
  | v :: l => match con ρ v, conL ρ l with
    | some x, some xs => some (x :: xs)
    | _, _ => none
end

/-- One numbering has all that another one has. -/
def Pos.le (ρ ρ' : Pos) : Prop := ∀ b g, ρ b = some g → ρ' b = some g
theorem Pos.le_refl (ρ : Pos) : ρ.le ρ := fun _ _ h => h
theorem Pos.le_trans {a b c : Pos} (h : a.le b) (k : b.le c) : a.le c := fun x g e => k x g (h x g e)

theorem con_opq {ρ : Pos} {v u : Value} (e : con ρ (.opq v) = some u) : u = v ∧ opaqV v = true := by
  simp only [con] at e
  split at e
  · rename_i h
    simp at e
    exact ⟨e.symm, h⟩
  · simp at e
mutual
theorem con_mono {ρ ρ' : Pos} (h : ρ.le ρ') : ∀ (v : AV) (x : Value), con ρ v = some x → con ρ' v = some x
  | .opq _, _, e => e
  | .bool _, _, e => e
  | .int _ _, _, e => e
  | .string _, _, e => e
  | .pointer none, _, e => e
  | .pointer (some p), x, e => by
    simp only [con, Option.map_eq_some_iff] at e ⊢
    obtain ⟨g, hg, hx⟩ := e
    exact ⟨g, h _ _ hg, hx⟩
  | .slice none _ (.is _), _, e => e
  | .slice none _ (.upTo _), _, e => e
  | .slice none _ (.gone _ _), _, e => e
  | .slice (some p) n c, x, e => by
    simp only [con, Option.map_eq_some_iff] at e ⊢
    obtain ⟨g, hg, hx⟩ := e
    exact ⟨g, h _ _ hg, hx⟩
  | .func f a b, x, e => by
    simp only [con] at e ⊢
    cases ha : conL ρ a with
    | none => simp [ha] at e
    | some xs =>
      cases hb : conL ρ b with
      | none => simp [ha, hb] at e
      | some ys => simpa [conL_mono h a xs ha, conL_mono h b ys hb, ha, hb] using e
  | .nilFunc, _, e => e
  | .iface t v, x, e => by
    simp only [con] at e ⊢
    cases hv : con ρ v with
    | none => simp [hv] at e
    | some u => simpa [con_mono h v u hv, hv] using e
  | .nilIface, _, e => e
  | .map none, _, e => e
  | .map (some _), _, e => e
  | .agg l, x, e => by
    simp only [con] at e ⊢
    cases hl : conL ρ l with
    | none => simp [hl] at e
    | some xs => simpa [conL_mono h l xs hl, hl] using e
  | .tuple l, x, e => by
    simp only [con] at e ⊢
    cases hl : conL ρ l with
    | none => simp [hl] at e
    | some xs => simpa [conL_mono h l xs hl, hl] using e
theorem conL_mono {ρ ρ' : Pos} (h : ρ.le ρ') : ∀ (l : List AV) (x : List Value), conL ρ l = some x → conL ρ' l = some x
  | [], _, e => e
  | v :: l, x, e => by
    simp only [conL] at e ⊢
    cases hv : con ρ v with
    | none => simp [hv] at e
    | some u =>
      cases hl : conL ρ l with
      | none => simp [hv, hl] at e
      | some us => simpa [con_mono h v u hv, conL_mono h l us hl, hv, hl] using e
end

section
variable {ρ : Pos}
theorem conL_length : ∀ {l : List AV} {x : List Value}, conL ρ l = some x → x.length = l.length
  | [], x, e => by simp [conL] at e; simp [← e]
  | v :: l, x, e => by
    simp only [conL] at e
    cases hv : con ρ v with
    | none => simp [hv] at e
    | some u =>
      cases hl : conL ρ l with
      | none => simp [hv, hl] at e
      | some us =>
        simp [hv, hl] at e
        simp [← e, conL_length hl]
theorem conL_cons {v : AV} {l : List AV} {x : List Value} (e : conL ρ (v :: l) = some x) : ∃ u us, con ρ v = some u ∧ conL ρ l = some us ∧ x = u :: us := by
  simp only [conL] at e
  cases hv : con ρ v with
  | none => simp [hv] at e
  | some u =>
    cases hl : conL ρ l with
    | none => simp [hv, hl] at e
    | some us =>
      simp [hv, hl] at e
      exact ⟨u, us, rfl, rfl, e.symm⟩
theorem conL_mk {v : AV} {l : List AV} {u : Value} {us : List Value} (h : con ρ v = some u) (k : conL ρ l = some us) : conL ρ (v :: l) = some (u :: us) := by simp [conL, h, k]
theorem conL_get : ∀ {l : List AV} {x : List Value}, conL ρ l = some x → ∀ (j : Nat) (v : AV), l[j]? = some v → ∃ u, con ρ v = some u ∧ x[j]? = some u
  | [], _, _, j, v, h => by simp at h
  | a :: l, x, e, j, v, h => by
    obtain ⟨u, us, h1, h2, rfl⟩ := conL_cons e
    rcases j with _ | j
    · simp at h
      subst h
      exact ⟨u, h1, by simp⟩
    · obtain ⟨y, hy, hz⟩ := conL_get h2 j v (by simpa using h)
      exact ⟨y, hy, by simpa using hz⟩
theorem conL_of : ∀ {l : List AV} {x : List Value}, l.length = x.length → (∀ (j : Nat) (v : AV) (u : Value), l[j]? = some v → x[j]? = some u → con ρ v = some u) → conL ρ l = some x
  | [], [], _, _ => rfl
  | [], _ :: _, h, _ => by simp at h
  | _ :: _, [], h, _ => by simp at h
  | a :: l, b :: x, h, k => conL_mk (k 0 a b rfl rfl) (conL_of (by simpa using h) (fun j v u hv hu => k (j + 1) v u (by simpa using hv) (by simpa using hu)))
theorem conL_append {l m : List AV} {x y : List Value} (h : conL ρ l = some x) (k : conL ρ m = some y) : conL ρ (l ++ m) = some (x ++ y) := by
  induction l generalizing x with
  | nil => simp [conL] at h; subst h; simpa using k
  | cons a l ih =>
    obtain ⟨u, us, h1, h2, rfl⟩ := conL_cons h
    exact conL_mk h1 (ih h2)
theorem conL_take {l : List AV} {x : List Value} (h : conL ρ l = some x) (n : Nat) : conL ρ (l.take n) = some (x.take n) := by
  have hl := conL_length h
  refine conL_of (by simp [hl]) fun j v u hv hu => ?_
  rw [List.getElem?_take] at hv hu
  split at hv
  · rename_i hj
    rw [if_pos hj] at hu
    obtain ⟨y, h1, h2⟩ := conL_get h j v hv
    rw [hu] at h2
    simp at h2
    rw [h1, h2]
  · simp at hv
theorem conL_drop {l : List AV} {x : List Value} (h : conL ρ l = some x) (n : Nat) : conL ρ (l.drop n) = some (x.drop n) := by
  have hl := conL_length h
  refine conL_of (by simp [hl]) fun j v u hv hu => ?_
  rw [List.getElem?_drop] at hv hu
  obtain ⟨y, h1, h2⟩ := conL_get h _ v hv
  rw [hu] at h2
  simp at h2
  rw [h1, h2]
/-- A value's cells. -/
theorem con_cells {v : AV} {x : Value} (h : con ρ v = some x) : conL ρ v.cells = some x.cells.toList := by
  cases v <;> try (simp only [AV.cells, conL, h])
  case agg l =>
    simp only [con] at h
    cases hl : conL ρ l with
    | none => simp [hl] at h
    | some xs =>
      simp [hl] at h
      subst h
      simp [Value.cells]
  case pointer a => cases a <;> simp [con] at h <;> (try obtain ⟨_, _, _, rfl⟩ := h) <;> (try subst h) <;> rfl
  case slice a n c =>
    cases a
    · cases c <;> simp [con] at h
      subst h
      rfl
    · simp [con] at h
      obtain ⟨_, _, _, rfl⟩ := h
      rfl
  case func f a b =>
    simp only [con] at h
    split at h
    · simp at h; subst h; rfl
    · simp at h
  case iface t v =>
    simp only [con] at h
    split at h
    · simp at h; subst h; rfl
    · simp at h
  case map r =>
    cases r <;> simp [con] at h
    subst h; rfl
  case tuple l =>
    simp only [con] at h
    split at h
    · simp at h; subst h; rfl
    · simp at h
  case opq v =>
    obtain ⟨rfl, ho⟩ := con_opq h
    cases x <;> first | rfl | simp [opaqV] at ho
  all_goals (simp [con] at h; subst h; rfl)
theorem con_one {v : AV} {x : Value} (h : con ρ v = some x) (ho : v.one = true) : x.oneCell' = true := by
  cases v <;> simp [AV.one] at ho
  case pointer a => cases a <;> simp [con] at h <;> (try obtain ⟨_, _, _, rfl⟩ := h) <;> (try subst h) <;> rfl
  case slice a n c =>
    cases a
    · cases c <;> simp [con] at h
      subst h
      rfl
    · simp [con] at h
      obtain ⟨_, _, _, rfl⟩ := h
      rfl
  case func f a b =>
    simp only [con] at h
    split at h
    · simp at h; subst h; rfl
    · simp at h
  case iface t v =>
    simp only [con] at h
    split at h
    · simp at h; subst h; rfl
    · simp at h
  case map r =>
    cases r <;> simp [con] at h
    subst h; rfl
  case opq v =>
    obtain ⟨rfl, ho⟩ := con_opq h
    cases x <;> first | rfl | simp [opaqV] at ho
  all_goals (simp [con] at h; subst h; rfl)
end

/-! ### Memory -/

/-- A block's cells: a list; or so many, all as one, but for those that are told. -/
inductive Cel where
  | list (l : List AV)
  | tree (n : Nat) (z : AV) (t : Tq AV)
def Cel.size : Cel → Nat
  | .list l => l.length
  | .tree n _ _ => n
def Cel.get : Cel → Nat → Option AV
  | .list l, j => l[j]?
  | .tree n z t, j => match Nat.blt j n, Nat.blt j 549755813888 with
    | true, true => some ((t.get deep j).getD z)
    | _, _ => none
def Cel.set : Cel → Nat → AV → Cel
  | .list l, j, v => .list (l.set j v)
  | .tree n z t, j, v => .tree n z (t.set deep j (some v))

structure Blk where
  elem : TypeId
  cells : Cel
  /-- all of the block's cells -/
  whole : Bool
  /-- cells of an element, where more may stand behind -/
  esz : Nat
  /-- may be written -/
  rw : Bool

structure H where
  bl : Tq Blk
  next : Nat
def H.get (h : H) (b : Nat) : Option Blk := h.bl.get deep b
def H.set (h : H) (b : Nat) (x : Blk) : H := ⟨h.bl.set deep b (some x), h.next⟩
def H.del (h : H) (b : Nat) : H := ⟨h.bl.set deep b none, h.next⟩
/-- A block more, with a number of its own. -/
def H.push (h : H) (x : Blk) : H := ⟨h.bl.set deep h.next (some x), h.next + 1⟩

theorem H.get_set {h : H} {b c : Nat} {x y : Blk} (e : (h.set b x).get c = some y) : (c = b ∧ y = x) ∨ (c ≠ b ∧ h.get c = some y) := by
  by_cases hc : c = b
  · subst hc
    left
    rcases Tq.get_set_self deep h.bl c (some x) _ e with h1 | h1
    · exact ⟨rfl, by simpa using h1⟩
    · simp at h1
  · right
    refine ⟨hc, ?_⟩
    have := Tq.get_set deep h.bl b (some x) c (Ne.symm hc)
    unfold H.get H.set at e
    unfold H.get
    rw [← this]
    exact e
theorem H.get_del {h : H} {b c : Nat} {y : Blk} (e : (h.del b).get c = some y) : c ≠ b ∧ h.get c = some y := by
  by_cases hc : c = b
  · subst hc
    rcases Tq.get_set_self deep h.bl c none _ e with h1 | h1 <;> simp at h1
  · refine ⟨hc, ?_⟩
    have := Tq.get_set deep h.bl b none c (Ne.symm hc)
    unfold H.get H.del at e
    unfold H.get
    rw [← this]
    exact e
theorem H.get_push {h : H} {c : Nat} {x y : Blk} (e : (h.push x).get c = some y) : (c = h.next ∧ y = x) ∨ (c ≠ h.next ∧ h.get c = some y) :=
  H.get_set (h := h) (b := h.next) (x := x) e

/-! ### A world as the memory says -/

structure BlkIs (ρ : Pos) (C : Nat) (x : Blk) (cur : Array Value) (fz : Nat × Nat) : Prop where
  free : x.rw = true → fz.1 = fz.2 ∨ cur.size ≤ fz.1
  fits : x.cells.size ≤ cur.size
  whole : x.whole = true → cur.size = x.cells.size
  more : x.whole = false → cur.size = C * x.esz ∧ C ≤ maxLen
  cell : ∀ j v, x.cells.get j = some v → ∃ u, con ρ v = some u ∧ cur[j]? = some u
  /-- of a block with this mark no cell was ever frozen -/
  zero : x.whole = true → 2 ≤ x.esz → fz = (0, 0)

structure Rel (ρ : Pos) (h : H) (w : World) : Prop where
  at_ : ∀ b x, h.get b = some x → ∃ g C cur fz, ρ b = some (g, C) ∧ w.heap[g]? = some (.cells cur x.elem fz) ∧ BlkIs ρ C x cur fz
  inj : ∀ b c x y g C D, h.get b = some x → h.get c = some y → ρ b = some (g, C) → ρ c = some (g, D) → b ≠ c → x.rw = false ∧ y.rw = false

structure Ext (ρ : Pos) (h : H) (w : World) (ρ' : Pos) (h' : H) (w' : World) : Prop where
  le : ρ.le ρ'
  next : h.next ≤ h'.next
  os : w'.os = w.os
  tape : w'.tape = w.tape
  output : w'.output = w.output
  size : w.heap.size ≤ w'.heap.size
  keep : ∀ k, k < w.heap.size → (∀ b x C, h.get b = some x → x.rw = true → ρ b ≠ some (k, C)) → w'.heap[k]? = w.heap[k]?
  own : ∀ b x k C, h'.get b = some x → x.rw = true → ρ' b = some (k, C) → k < w.heap.size → ∃ b' x' C', h.get b' = some x' ∧ x'.rw = true ∧ ρ b' = some (k, C')
  only : ∀ b, b < h.next → ρ' b = ρ b
  ro : ∀ b x, h'.get b = some x → x.rw = false → h.get b = some x

section
variable {ρ ρ' ρ'' : Pos} {h h' h'' : H} {w w' w'' : World}

theorem Ext.refl (ρ : Pos) (h : H) (w : World) : Ext ρ h w ρ h w :=
  ⟨Pos.le_refl _, Nat.le_refl _, rfl, rfl, rfl, Nat.le_refl _, fun _ _ _ => rfl, fun b x k C hb hr hp _ => ⟨b, x, C, hb, hr, hp⟩, fun _ _ => rfl, fun _ _ hb _ => hb⟩
theorem Ext.trans (a : Ext ρ h w ρ' h' w') (b' : Ext ρ' h' w' ρ'' h'' w'') : Ext ρ h w ρ'' h'' w'' :=
  have only' : ∀ b, b < h.next → ρ'' b = ρ b := fun b hb => (b'.only b (Nat.lt_of_lt_of_le hb a.next)).trans (a.only b hb)
  ⟨Pos.le_trans a.le b'.le, Nat.le_trans a.next b'.next, b'.os.trans a.os, b'.tape.trans a.tape, b'.output.trans a.output, Nat.le_trans a.size b'.size,
    fun k hk hn => by
      rw [b'.keep k (Nat.lt_of_lt_of_le hk a.size) (fun c x C hc hr hp => by
        obtain ⟨c', x', C', h1, h2, h3⟩ := a.own c x k C hc hr hp hk
        exact hn c' x' C' h1 h2 h3)]
      exact a.keep k hk hn,
    fun c x k C hc hr hp hk => by
      obtain ⟨c', x', C', h1, h2, h3⟩   := b'.own c x k C hc hr hp (Nat.lt_of_lt_of_le hk a.size)
      exact a.own c' x' k C' h1 h2 h3 hk,
    fun b hb => (only' b hb), fun b x hb hr => a.ro b x (b'.ro b x hb hr) hr⟩
/-- A draw changes nothing of it. -/
theorem Rel.heap (r : Rel ρ h w) (e : w'.heap = w.heap) : Rel ρ h w' :=
  ⟨fun b x hb => by rw [e]; exact r.at_ b x hb, r.inj⟩
theorem Ext.drawn (e : w'.heap = w.heap) (h1 : w'.os = w.os) (h2 : w'.tape = w.tape) (h3 : w'.output = w.output) : Ext ρ h w ρ h w' :=
  ⟨Pos.le_refl _, Nat.le_refl _, h1, h2, h3, by rw [e]; exact Nat.le_refl _, fun _ _ _ => by rw [e], fun b x k C hb hr hp _ => ⟨b, x, C, hb, hr, hp⟩, fun _ _ => rfl, fun _ _ hb _ => hb⟩

theorem BlkIs.mono {C : Nat} {x : Blk} {cur : Array Value} {fz : Nat × Nat} (hx : BlkIs ρ C x cur fz) (l : ρ.le ρ') : BlkIs ρ' C x cur fz :=
  ⟨hx.free, hx.fits, hx.whole, hx.more, fun j v hv => by
    obtain ⟨u, h1, h2⟩ := hx.cell j v hv
    exact ⟨u, con_mono l v u h1, h2⟩, hx.zero⟩
/-- One place more. -/
def Pos.put (ρ : Pos) (b : Nat) (g : Nat × Nat) : Pos := fun c => if c = b then some g else ρ c
theorem Pos.put_self (ρ : Pos) (b : Nat) (g : Nat × Nat) : ρ.put b g b = some g := by simp [Pos.put]
theorem Pos.put_ne (ρ : Pos) {b c : Nat} (g : Nat × Nat) (e : c ≠ b) : ρ.put b g c = ρ c := by simp [Pos.put, e]
theorem Pos.le_put {b : Nat} (g : Nat × Nat) (hb : ρ b = none) : ρ.le (ρ.put b g) := fun c x hc => by
  by_cases e : c = b
  · subst e; rw [hb] at hc; cases hc
  · rw [Pos.put_ne ρ g e]; exact hc
/-- Behind one operation: no place more, or one, of the next number. -/
def Grow (ρ : Pos) (h : H) (ρ' : Pos) (h' : H) : Prop := (ρ' = ρ ∧ h'.next = h.next) ∨ (∃ g, ρ' = ρ.put h.next g ∧ h'.next = h.next + 1)
/-- No number from the next one on has a place. -/
def New (ρ : Pos) (h : H) : Prop := ∀ b, h.next ≤ b → ρ b = none
theorem New.grow (n : New ρ h) (g : Grow ρ h ρ' h') : New ρ' h' := by
  intro b hb
  rcases g with ⟨rfl, e⟩ | ⟨q, rfl, e⟩
  · exact n b (by omega)
  · rw [Pos.put_ne ρ q (by omega)]
    exact n b (by omega)
/-- A new block. -/
theorem Rel.push (r : Rel ρ h w) (hn : ρ h.next = none) (x : Blk) (C : Nat) (w1 : World) (hw : w1.heap = w.heap) (cur : Array Value) (fz : Nat × Nat) (hx : BlkIs ρ C x cur fz) :
    Rel (ρ.put h.next (w.heap.size, C)) (h.push x) (w1.alloc (.cells cur x.elem fz)) := by
  have l : ρ.le (ρ.put h.next (w.heap.size, C)) := Pos.le_put _ hn
  have hsz : w1.heap.size = w.heap.size := by rw [hw]
  have hold : ∀ k, k < w.heap.size → (w1.alloc (.cells cur x.elem fz)).heap[k]? = w.heap[k]? := fun k hk => by rw [heap_alloc_old w1 _ (by omega), hw]
  have hlt : ∀ {b : Nat} {y : Blk} {g D : Nat}, h.get b = some y → ρ b = some (g, D) → g < w.heap.size := fun {b y g D} hb hp => by
    obtain ⟨g', C', cur', fz', h1, h2, _⟩ := r.at_ b y hb
    rw [hp] at h1
    simp at h1
    rw [h1.1]
    exact (Array.getElem?_eq_some_iff.1 h2).1
  refine ⟨fun b y hb => ?_, fun b c y z g D E hb hc hpb hpc hne => ?_⟩
  · rcases H.get_push hb with ⟨rfl, rfl⟩ | ⟨hn, hb'⟩
    · exact ⟨w.heap.size, C, cur, fz, Pos.put_self _ _ _, by rw [← hsz]; exact heap_alloc_new _ _, hx.mono l⟩
    · obtain ⟨g, D, cur', fz', h1, h2, h3⟩ := r.at_ b y hb'
      exact ⟨g, D, cur', fz', by rw [Pos.put_ne _ _ hn]; exact h1, by rw [hold g (hlt hb' h1)]; exact h2, h3.mono l⟩
  · rcases H.get_push hb with ⟨rfl, rfl⟩ | ⟨hn, hb'⟩
    · rw [Pos.put_self] at hpb
      rcases H.get_push hc with ⟨rfl, rfl⟩ | ⟨hn', hc'⟩
      · exact absurd rfl hne
      · rw [Pos.put_ne _ _ hn'] at hpc
        have := hlt hc' hpc
        simp at hpb
        omega
    · rw [Pos.put_ne _ _ hn] at hpb
      rcases H.get_push hc with ⟨rfl, rfl⟩ | ⟨hn', hc'⟩
      · rw [Pos.put_self] at hpc
        have := hlt hb' hpb
        simp at hpc
        omega
      · rw [Pos.put_ne _ _ hn'] at hpc
        exact r.inj b c y z g D E hb' hc' hpb hpc hne
theorem Ext.push (r : Rel ρ h w) (hn : ρ h.next = none) (x : Blk) (hrw : x.rw = true) (C : Nat) (w1 : World) (hw : w1.heap = w.heap) (h1 : w1.os = w.os) (h2 : w1.tape = w.tape) (h3 : w1.output = w.output) (cur : Array Value) (fz : Nat × Nat) :
    Ext ρ h w (ρ.put h.next (w.heap.size, C)) (h.push x) (w1.alloc (.cells cur x.elem fz)) := by
  refine ⟨Pos.le_put _ hn, Nat.le_succ _, h1, h2, h3, ?_, fun k hk _ => ?_, fun b y k D hb hr hp hk => ?_, fun b hb => Pos.put_ne _ _ (Nat.ne_of_lt hb), fun b y hb hr => ?_⟩
  · show w.heap.size ≤ (w1.heap.push _).size
    rw [Array.size_push, hw]
    omega
  · rw [heap_alloc_old w1 _ (by rw [hw]; exact hk), hw]
  · rcases H.get_push hb with ⟨rfl, rfl⟩ | ⟨hn, hb'⟩
    · rw [Pos.put_self] at hp
      simp at hp
      omega
    · rw [Pos.put_ne _ _ hn] at hp
      exact ⟨b, y, D, hb', hr, hp⟩
  · rcases H.get_push hb with ⟨rfl, rfl⟩ | ⟨hn, hb'⟩
    · rw [hrw] at hr
      cases hr
    · exact hb'
/-- A block that is written. -/
theorem Rel.write (r : Rel ρ h w) {b g C : Nat} {x x' : Blk} (hb : h.get b = some x) (hr : x.rw = true) (hp : ρ b = some (g, C)) (cur' : Array Value) (fz' : Nat × Nat)
    (hg : w'.heap[g]? = some (.cells cur' x'.elem fz')) (hk : ∀ k, k ≠ g → w'.heap[k]? = w.heap[k]?) (hr' : x'.rw = true) (hx : BlkIs ρ C x' cur' fz') : Rel ρ (h.set b x') w' := by
  refine ⟨fun c y hc => ?_, fun c d y z q D E hc hd hpc hpd hne => ?_⟩
  · rcases H.get_set hc with ⟨rfl, rfl⟩ | ⟨hn, hc'⟩
    · exact ⟨g, C, cur', fz', hp, hg, hx⟩
    · obtain ⟨q, D, cu, fz, h1, h2, h3⟩ := r.at_ c y hc'
      refine ⟨q, D, cu, fz, h1, ?_, h3⟩
      rw [hk q (fun e => ?_)]
      · exact h2
      · subst e
        have := (r.inj b c x y q C D hb hc' hp h1 (Ne.symm hn)).1
        rw [hr] at this
        cases this
  · rcases H.get_set hc with ⟨rfl, rfl⟩ | ⟨hn, hc'⟩
    · rcases H.get_set hd with ⟨rfl, rfl⟩ | ⟨hn', hd'⟩
      · exact absurd rfl hne
      · have := (r.inj c d x z q D E hb hd' hpc hpd hne).1
        rw [hr] at this
        cases this
    · rcases H.get_set hd with ⟨rfl, rfl⟩ | ⟨hn', hd'⟩
      · have := (r.inj c d y x q D E hc' hb hpc hpd hne).2
        rw [hr] at this
        cases this
      · exact r.inj c d y z q D E hc' hd' hpc hpd hne
theorem Ext.write (r : Rel ρ h w) {b g C : Nat} {x x' : Blk} (hb : h.get b = some x) (hr : x.rw = true) (hr' : x'.rw = true) (hp : ρ b = some (g, C))
    (h1 : w'.os = w.os) (h2 : w'.tape = w.tape) (h3 : w'.output = w.output) (hs : w.heap.size ≤ w'.heap.size) (hk : ∀ k, k ≠ g → w'.heap[k]? = w.heap[k]?) : Ext ρ h w ρ (h.set b x') w' := by
  refine ⟨Pos.le_refl _, Nat.le_refl _, h1, h2, h3, hs, fun k _ hn => hk k (fun e => hn b x C hb hr (by rw [e]; exact hp)), fun c y k D hc hrc hpc hkl => ?_, fun _ _ => rfl, fun c y hc hrc => ?_⟩
  · rcases H.get_set hc with ⟨rfl, rfl⟩ | ⟨hn, hc'⟩
    · exact ⟨c, x, D, hb, hr, hpc⟩
    · exact ⟨c, y, D, hc', hrc, hpc⟩
  · rcases H.get_set hc with ⟨rfl, rfl⟩ | ⟨hn, hc'⟩
    · rw [hr'] at hrc
      cases hrc
    · exact hc'
/-- A block forgotten. -/
theorem Rel.del (r : Rel ρ h w) (b : Nat) : Rel ρ (h.del b) w :=
  ⟨fun c y hc => r.at_ c y (H.get_del hc).2, fun c d y z q D E hc hd hpc hpd hne => r.inj c d y z q D E (H.get_del hc).2 (H.get_del hd).2 hpc hpd hne⟩
theorem Ext.below (e : Ext ρ h w ρ' h' w') (hr : ∀ b x, h.get b = some x → x.rw = false) : Below w.heap.size w w' :=
  ⟨e.os, e.tape, e.output, e.size, fun k hk => e.keep k hk (fun b x C hb hx => by rw [hr b x hb] at hx; cases hx)⟩
end
end Go.Proofs.Ytpdfalgjmeagjaa

/-
  The small machine's reads and writes, and that the world's own do as they say.
-/
namespace Go.Proofs.Ytpdfalgjmeagjaa
open Go.RowKit
set_option linter.unusedVariables false

theorem Tq.set_set {α : Type} : ∀ (d : Nat) (t : Tq α) (k : Nat) (x y : Option α), Tq.set d (Tq.set d t k x) k y = Tq.set d t k y
  | 0, _, _, _, _ => rfl
  | d + 1, .nil, k, x, y => by
    rcases k with _ | k
    · rfl
    · rcases Nat.mod_two_eq_zero_or_one k with p | p <;> simp only [Tq.set, p, Tq.set_set d]
  | d + 1, .node l v r, k, x, y => by
    rcases k with _ | k
    · rfl
    · rcases Nat.mod_two_eq_zero_or_one k with p | p <;> simp only [Tq.set, p, Tq.set_set d]
theorem H.set_set (h : H) (b : Nat) (x y : Blk) : (h.set b x).set b y = h.set b y := by
  unfold H.set
  simp only [Tq.set_set]

/-! ### Reads -/

/-- So many cells from a place on, if they are all there. -/
def Cel.range (c : Cel) (o : Nat) : Nat → Option (List AV)
  | 0 => some []
  | n + 1 => match c.get o, c.range (o + 1) n with
    | some v, some l => some (v :: l)
    | _, _ => none
theorem Cel.range_get : ∀ {c : Cel} {n o : Nat} {l : List AV}, c.range o n = some l → l.length = n ∧ ∀ j v, l[j]? = some v → c.get (o + j) = some v
  | c, 0, o, l, h => by simp [Cel.range] at h; subst h; simp
  | c, n + 1, o, l, h => by
    simp only [Cel.range] at h
    split at h
    · rename_i v r hv hr
      simp at h
      subst h
      obtain ⟨h1, h2⟩ := Cel.range_get hr
      refine ⟨by simp [h1], fun j u hj => ?_⟩
      rcases j with _ | j
      · simp at hj; subst hj; simpa using hv
      · have := h2 j u (by simpa using hj)
        rwa [show o + 1 + j = o + (j + 1) from by omega] at this
    · simp at h
def isAggA (P : Program) (t : TypeId) : Bool :=
  match P.underlying t with
  | some (.struct _) | some (.array _ _) => true
  | _ => false
def sizeA (P : Program) (t : TypeId) : Option Nat := (P.info? t).map (·.size)

section
variable {P : Program} {ρ : Pos} {h : H} {w : World}

theorem Rel.cells (r : Rel ρ h w) {b o n : Nat} {x : Blk} {l : List AV} (hb : h.get b = some x) (hl : x.cells.range o n = some l) :
    ∃ g C vs, ρ b = some (g, C) ∧ conL ρ l = some vs ∧ ∀ j u, vs[j]? = some u → w.cell? ⟨g, o + j, none⟩ = some u := by
  obtain ⟨g, C, cur, fz, h1, h2, h3⟩ := r.at_ b x hb
  obtain ⟨hn, hg⟩ := Cel.range_get hl
  have key : ∀ j v, l[j]? = some v → ∃ u, con ρ v = some u ∧ cur[o + j]? = some u := fun j v hj => h3.cell _ _ (hg j v hj)
  have all : ∃ vs, conL ρ l = some vs ∧ ∀ j u, vs[j]? = some u → cur[o + j]? = some u := by
    clear hl hg hn
    induction l generalizing o with
    | nil => exact ⟨[], rfl, fun j u hj => by simp at hj⟩
    | cons v l ih =>
      obtain ⟨u, hu, hc⟩ := key 0 v rfl
      obtain ⟨us, hus, hcs⟩ := ih (o := o + 1) (fun j v' hj => by
        have := key (j + 1) v' (by simpa using hj)
        rwa [show o + (j + 1) = o + 1 + j from by omega] at this)
      refine ⟨u :: us, conL_mk hu hus, fun j y hj => ?_⟩
      rcases j with _ | j
      · simp at hj; subst hj; simpa using hc
      · have := hcs j y (by simpa using hj)
        rwa [show o + 1 + j = o + (j + 1) from by omega] at this
  obtain ⟨vs, hv, hc⟩ := all
  exact ⟨g, C, vs, h1, hv, fun j u hj => by rw [cell_of_row w g (o + j) cur x.elem fz h2]; exact hc j u hj⟩
theorem Rel.cell (r : Rel ρ h w) {b o : Nat} {x : Blk} {v : AV} (hb : h.get b = some x) (hl : x.cells.get o = some v) :
    ∃ g C u, ρ b = some (g, C) ∧ con ρ v = some u ∧ w.cell? ⟨g, o, none⟩ = some u := by
  obtain ⟨g, C, cur, fz, h1, h2, h3⟩ := r.at_ b x hb
  obtain ⟨u, hu, hc⟩ := h3.cell _ _ hl
  exact ⟨g, C, u, h1, hu, by rw [cell_of_row w g o cur x.elem fz h2]; exact hc⟩

/-- What is read of a variable. -/
def loadA (P : Program) (h : H) (t : TypeId) : AV → Option AV
  | .pointer (some p) => match h.get p.1, isAggA P t, sizeA P t, P.underlying t with
    | some x, true, some n, some _ => (x.cells.range p.2 n).map .agg
    | some x, false, some _, some _ => x.cells.get p.2
    | _, _, _, _ => none
  | _ => none
theorem run_isAgg {t : TypeId} {d : TypeDesc} (hd : P.underlying t = some d) : (isAgg t).run P w = .ok (isAggA P t) w := by
  unfold isAgg isAggA
  rw [Sem.run_bind, run_underlying hd w]
  simp only [Result.andThen_ok, hd]
  cases d <;> rfl
theorem run_sizeOf {t : TypeId} {n : Nat} (hn : sizeA P t = some n) : (sizeOf t).run P w = .ok n w := by
  unfold sizeA at hn
  obtain ⟨i, hi, rfl⟩ := Option.map_eq_some_iff.1 hn
  simp [sizeOf, typeInfo, hi]
theorem loadVar_sound (r : Rel ρ h w) {t : TypeId} {p : Nat × Nat} {v : AV} (e : loadA P h t (.pointer (some p)) = some v) :
    ∃ g C u, ρ p.1 = some (g, C) ∧ con ρ v = some u ∧ (loadVar t ⟨g, p.2, none⟩).run P w = .ok u w := by
  simp only [loadA] at e
  split at e
  · rename_i x n d hb ha hn hd
    obtain ⟨l, hl, rfl⟩ := Option.map_eq_some_iff.1 e
    obtain ⟨g, C, vs, h1, h2, h3⟩ := r.cells hb hl
    refine ⟨g, C, .agg vs.toArray, h1, by simp [con, h2], ?_⟩
    have hlen : vs.length = n := by rw [conL_length h2, (Cel.range_get hl).1]
    have hcs := run_loadCells_list (P := P) w ⟨g, p.2, none⟩ vs (fun j u hj => by rw [Addr.add_lit]; exact h3 j u hj)
    rw [hlen] at hcs
    simp [loadVar, Sem.run_bind, run_isAgg hd, ha, run_sizeOf hn, hcs]
  · rename_i x n d hb ha hn hd
    obtain ⟨g, C, u, h1, h2, h3⟩ := r.cell hb e
    refine ⟨g, C, u, h1, h2, ?_⟩
    simp [loadVar, Sem.run_bind, run_isAgg hd, ha, h3]
  · simp at e

/-! ### Writes -/

def Cel.sets (c : Cel) : Nat → List AV → Cel
  | _, [] => c
  | o, v :: l => (c.set o v).sets (o + 1) l
theorem Cel.size_set (c : Cel) (o : Nat) (v : AV) : (c.set o v).size = c.size := by cases c <;> simp [Cel.set, Cel.size]
theorem Cel.get_set {c : Cel} {o j : Nat} {v y : AV} (e : (c.set o v).get j = some y) : (j = o ∧ y = v) ∨ (j ≠ o ∧ c.get j = some y) := by
  cases c with
  | list l =>
    simp only [Cel.set, Cel.get, List.getElem?_set] at e ⊢
    by_cases hj : o = j
    · subst hj
      simp at e
      exact .inl ⟨rfl, e.2.symm⟩
    · rw [if_neg hj] at e
      exact .inr ⟨Ne.symm hj, e⟩
  | tree n z t =>
    simp only [Cel.set, Cel.get] at e ⊢
    by_cases hj : o = j
    · subst hj
      split at e
      · rename_i h1 h2
        rw [Tq.get_set_at deep t o (some v) (by have h3 : o < 549755813888 := by simpa using h2
                                                show o + 1 < 1099511627776
                                                omega)] at e
        exact .inl ⟨rfl, by simpa using e.symm⟩
      · simp at e
    · rw [Tq.get_set deep t o _ j hj] at e
      exact .inr ⟨Ne.symm hj, e⟩
theorem Cel.get_size {c : Cel} {j : Nat} {v : AV} (e : c.get j = some v) : j < c.size := by
  cases c with
  | list l => exact (List.getElem?_eq_some_iff.1 e).1
  | tree n z t =>
    simp only [Cel.get] at e
    split at e
    · rename_i hh _; simpa [Cel.size] using hh
    · simp at e

/-- The frozen cells of a row lie past its end. -/
theorem notFrozen {g o : Nat} {cur : Array Value} {e : TypeId} {fz : Nat × Nat} (hg : w.heap[g]? = some (.cells cur e fz)) (hf : fz.1 = fz.2 ∨ cur.size ≤ fz.1) (ho : o < cur.size) : w.frozen? ⟨g, o, none⟩ = false := by
  unfold World.frozen?
  simp only [hg]
  obtain ⟨lo, hi⟩ := fz
  simp at hf ⊢
  omega
/-- One cell is stored. -/
theorem store_sound (r : Rel ρ h w) {b o g C : Nat} {x : Blk} {v : AV} {u : Value} (hb : h.get b = some x) (hr : x.rw = true) (hp : ρ b = some (g, C)) (ho : o < x.cells.size) (hu : con ρ v = some u) (h1 : v.one = true) :
    ∃ w', (store ⟨g, o, none⟩ u).run P w = .ok () w' ∧ Rel ρ (h.set b { x with cells := x.cells.set o v }) w' ∧ Ext ρ h w ρ (h.set b { x with cells := x.cells.set o v }) w' := by
  obtain ⟨g', C', cur, fz, hp', hg, hx⟩ := r.at_ b x hb
  rw [hp] at hp'
  simp at hp'
  obtain ⟨rfl, rfl⟩ := hp'
  have hlt : o < cur.size := Nat.lt_of_lt_of_le ho hx.fits
  have hcell : w.cell? ⟨g, o, none⟩ = some cur[o] := by rw [cell_of_row w g o cur x.elem fz hg]; simp [hlt]
  have hfz := notFrozen hg (hx.free hr) hlt
  have hrun : (store ⟨g, o, none⟩ u).run P w = .ok () (w.setCell ⟨g, o, none⟩ u) := by
    rw [run_store P w _ u .plain (con_one hu h1), hcell]
    simp [hfz]
  have hgl : g < w.heap.size := (Array.getElem?_eq_some_iff.1 hg).1
  have hg' : (w.setCell ⟨g, o, none⟩ u).heap[g]? = some (.cells (cur.setIfInBounds o u) x.elem fz) := by
    simp only [World.setCell, Array.getElem?_modify, if_true, hg, Option.map_some]
    rfl
  have hk : ∀ k, k ≠ g → (w.setCell ⟨g, o, none⟩ u).heap[k]? = w.heap[k]? := fun k hk => heap_setCell_other w _ k u hk
  refine ⟨_, hrun, r.write hb hr hp (cur.setIfInBounds o u) fz hg' hk hr ?_, Ext.write r hb hr hr hp rfl rfl rfl (by simp [World.setCell]) hk⟩
  refine ⟨fun _ => by simpa using hx.free hr, by rw [Cel.size_set]; simpa using hx.fits, fun hw => by rw [Cel.size_set]; simpa using hx.whole hw, fun hw => by simpa using hx.more hw, fun j y hj => ?_, hx.zero⟩
  rcases Cel.get_set hj with ⟨rfl, rfl⟩ | ⟨hn, hj'⟩
  · exact ⟨u, hu, by simp [hlt]⟩
  · obtain ⟨q, h2, h3⟩ := hx.cell j y hj'
    exact ⟨q, h2, by rw [Array.getElem?_setIfInBounds_ne (Ne.symm hn)]; exact h3⟩
theorem Tq.get_set_of {α : Type} : ∀ (d : Nat) (t : Tq α) (k : Nat) (v : α) (y : Option α), Tq.get d t k = some v → Tq.get d (Tq.set d t k y) k = y
  | 0, _, _, _, _, h => by simp [Tq.get] at h
  | d + 1, .nil, k, _, _, h => by simp [Tq.get] at h
  | d + 1, .node l v r, k, u, y, h => by
    rcases k with _ | k
    · rfl
    · rcases Nat.mod_two_eq_zero_or_one k with p | p <;> simp only [Tq.set, p, Tq.get] at h ⊢ <;> exact Tq.get_set_of d _ _ u y h
theorem H.get_set_self {h : H} {b : Nat} {x : Blk} (y : Blk) (e : h.get b = some x) : (h.set b y).get b = some y := Tq.get_set_of deep h.bl b x (some y) e
theorem Rel.same (r : Rel ρ h w) {b : Nat} {x : Blk} (hb : h.get b = some x) (hr : x.rw = true) : Rel ρ (h.set b x) w ∧ Ext ρ h w ρ (h.set b x) w := by
  obtain ⟨g, C, cur, fz, hp, hg, hx⟩ := r.at_ b x hb
  exact ⟨r.write hb hr hp cur fz hg (fun _ _ => rfl) hr hx, Ext.write r hb hr hr hp rfl rfl rfl (Nat.le_refl _) (fun _ _ => rfl)⟩
/-- Many cells are stored, one behind the other. -/
theorem storeCells_sound {b g C : Nat} (o : Nat) : ∀ (l : List AV) (vs : List Value) (i : Nat) (h : H) (w : World) (x : Blk), Rel ρ h w → h.get b = some x → x.rw = true → ρ b = some (g, C) → conL ρ l = some vs → (∀ v ∈ l, v.one = true) → o + i + l.length ≤ x.cells.size →
    ∃ w', (storeCells ⟨g, o, none⟩ vs i).run P w = .ok () w' ∧ Rel ρ (h.set b { x with cells := x.cells.sets (o + i) l }) w' ∧ Ext ρ h w ρ (h.set b { x with cells := x.cells.sets (o + i) l }) w'
  | [], vs, i, h, w, x, r, hb, hr, hp, hv, h1, hs => by
    simp [conL] at hv
    subst hv
    obtain ⟨r1, r2⟩ := r.same hb hr
    exact ⟨w, rfl, r1, r2⟩
  | v :: l, vs, i, h, w, x, r, hb, hr, hp, hv, h1, hs => by
    obtain ⟨u, us, hu, hus, rfl⟩ := conL_cons hv
    obtain ⟨w1, e1, r1, x1⟩ := store_sound (P := P) (o := o + i) r hb hr hp (by simp at hs; omega) hu (h1 v (by simp))
    obtain ⟨w2, e2, r2, x2⟩ := storeCells_sound o l us (i + 1) _ w1 _ r1 (H.get_set_self _ hb) hr hp hus (fun y hy => h1 y (by simp [hy])) (by rw [Cel.size_set]; simp at hs; omega)
    rw [H.set_set] at r2 x2
    refine ⟨w2, ?_, ?_, ?_⟩
    · simp only [storeCells]
      rw [Sem.run_bind, Addr.add_lit, e1]
      exact e2
    · exact r2
    · exact x1.trans x2

/-- What a store makes of the memory. -/
def storeA (P : Program) (h : H) (t : TypeId) : AV → AV → Option H
  | .pointer (some p), v => match h.get p.1, sizeA P t with
    | some x, some n => match x.rw && Nat.beq v.cells.length n && Nat.ble (p.2 + n) x.cells.size && v.cells.all AV.one with
      | true => some (h.set p.1 { x with cells := x.cells.sets p.2 v.cells })
      | false => none
    | _, _ => none
  | _, _ => none
theorem storeVar_sound (r : Rel ρ h w) {t : TypeId} {p : Nat × Nat} {v : AV} {u : Value} {h' : H} (hu : con ρ v = some u) (e : storeA P h t (.pointer (some p)) v = some h') :
    ∃ g C w', ρ p.1 = some (g, C) ∧ (storeVar t ⟨g, p.2, none⟩ u).run P w = .ok () w' ∧ Rel ρ h' w' ∧ Ext ρ h w ρ h' w' := by
  simp only [storeA] at e
  split at e
  · rename_i x n hb hn
    split at e
    · rename_i hc
      simp only [Bool.and_eq_true] at hc
      obtain ⟨⟨⟨hr, hlen⟩, hfit⟩, hone⟩ := hc
      simp at e
      subst e
      obtain ⟨g, C, cur, fz, hp, _, _⟩ := r.at_ _ x hb
      have hcs := con_cells hu
      have hl := conL_length hcs
      have hlen' : v.cells.length = n := by simpa using hlen
      obtain ⟨w', e1, r1, x1⟩ := storeCells_sound (P := P) p.2 v.cells u.cells.toList 0 h w x r hb hr hp hcs (List.all_eq_true.1 hone) (by rw [hlen']; simpa using hfit)
      refine ⟨g, C, w', hp, ?_, r1, x1⟩
      have hsz : u.cells.size = n := by rw [← hlen']; simpa using hl
      simp [storeVar, run_sizeOf hn, hsz, e1]
    · simp at e
  · simp at e
end
end Go.Proofs.Ytpdfalgjmeagjaa

/-
  The small machine's arithmetic on whole numbers, strings and truths, and that the world's own does as it says.
-/
namespace Go.Proofs.Ytpdfalgjmeagjaa
open Go.RowKit
set_option linter.unusedVariables false

def wrapA (k : IntKind) (n : Int) : Int :=
  match k with
  | .u8 => n % 256
  | .u16 => n % 65536
  | .u32 => n % 4294967296
  | .u64 => n % 18446744073709551616
  | .i8 => (n + 128) % 256 - 128
  | .i16 => (n + 32768) % 65536 - 32768
  | .i32 => (n + 2147483648) % 4294967296 - 2147483648
  | .i64 => (n + 9223372036854775808) % 18446744073709551616 - 9223372036854775808
theorem wrapA_eq (k : IntKind) (n : Int) : k.wrap n = wrapA k n := by
  cases k <;> simp [IntKind.wrap, IntKind.bits, IntKind.signed, wrapA] <;> (split <;> omega)
def modA (k : IntKind) : Nat :=
  match k with
  | .u8 | .i8 => 256
  | .u16 | .i16 => 65536
  | .u32 | .i32 => 4294967296
  | .u64 | .i64 => 18446744073709551616
theorem modA_eq (k : IntKind) : 2 ^ k.bits = modA k := by cases k <;> rfl
def bitsN (k : IntKind) : Nat :=
  match k with
  | .u8 | .i8 => 8
  | .u16 | .i16 => 16
  | .u32 | .i32 => 32
  | .u64 | .i64 => 64
theorem bitsN_eq (k : IntKind) : k.bits = bitsN k := by cases k <;> rfl

/-- Operators on two whole numbers of one kind. -/
def numA (op : BinOp) (k : IntKind) (x y : Int) : Option AV :=
  match op with
  | .add => some (.int k (wrapA k (x + y)))
  | .sub => some (.int k (wrapA k (x - y)))
  | .mul => some (.int k (wrapA k (x * y)))
  | .quo => match y with
    | .ofNat 0 => none
    | y => some (.int k (wrapA k (x.tdiv y)))
  | .rem => match y with
    | .ofNat 0 => none
    | y => some (.int k (x.tmod y))
  | .and => match x, y with
    | .ofNat a, .ofNat b => some (.int k (wrapA k (Int.ofNat (Nat.land (a % modA k) (b % modA k)))))
    | _, _ => none
  | .or => match x, y with
    | .ofNat a, .ofNat b => some (.int k (wrapA k (Int.ofNat (Nat.lor (a % modA k) (b % modA k)))))
    | _, _ => none
  | .xor => match x, y with
    | .ofNat a, .ofNat b => some (.int k (wrapA k (Int.ofNat (Nat.xor (a % modA k) (b % modA k)))))
    | _, _ => none
  | .andNot => match x, y with
    | .ofNat a, .ofNat b => some (.int k (wrapA k (Int.ofNat (Nat.land (a % modA k) (modA k - 1 - b % modA k)))))
    | _, _ => none
  | .eql => some (.bool (x == y))
  | .neq => some (.bool (x != y))
  | .lss => some (.bool (decide (x < y)))
  | .leq => some (.bool (decide (x ≤ y)))
  | .gtr => some (.bool (decide (y < x)))
  | .geq => some (.bool (decide (y ≤ x)))
  | _ => none
def shiftA (op : BinOp) (k : IntKind) (x y : Int) : Option AV :=
  match y with
  | .ofNat n => match op with
    | .shl => some (.int k (wrapA k (x * Int.ofNat (2 ^ (min n (bitsN k))))))
    | .shr => some (.int k (x.fdiv (Int.ofNat (2 ^ (min n (bitsN k))))))
    | _ => none
  | _ => none
section
variable {P : Program} {w : World} {t : TypeId}
theorem ofNat_bits (k : IntKind) (a : Nat) : (BitVec.ofInt k.bits (Int.ofNat a)).toNat = a % modA k := by
  rw [← modA_eq]
  show (BitVec.ofInt k.bits ((a : Nat) : Int)).toNat = _
  rw [BitVec.ofInt_natCast, BitVec.toNat_ofNat]
theorem numA_sound {op : BinOp} {k : IntKind} {x y : Int} {v : AV} (hs : op ≠ .shl ∧ op ≠ .shr) (e : numA op k x y = some v) (ρ : Pos) :
    ∃ u, (binOp op t (.int k x) (.int k y)).run P w = .ok u w ∧ con ρ v = some u := by
  cases op <;> simp only [numA, Option.some.injEq, reduceCtorEq] at e <;> (try (exact absurd rfl hs.1)) <;> (try (exact absurd rfl hs.2))
  case add => subst e; exact ⟨_, by simp [binOp, Op.intArith, wrapA_eq], rfl⟩
  case sub => subst e; exact ⟨_, by simp [binOp, Op.intArith, wrapA_eq], rfl⟩
  case mul => subst e; exact ⟨_, by simp [binOp, Op.intArith, wrapA_eq], rfl⟩
  case quo =>
    split at e
    · simp at e
    · rename_i hy
      simp at e
      subst e
      have h0 : y ≠ 0 := fun h => hy h
      exact ⟨_, by simp [binOp, Op.intDiv, h0, wrapA_eq], rfl⟩
  case rem =>
    split at e
    · simp at e
    · rename_i hy
      simp at e
      subst e
      have h0 : y ≠ 0 := fun h => hy h
      exact ⟨_, by simp [binOp, Op.intDiv, h0], rfl⟩
  case and =>
    split at e <;> simp at e
    rename_i a b
    subst e
    exact ⟨_, by simp only [binOp, Op.intBits, ne_eq, not_true_eq_false, if_false, BitVec.toNat_and, ofNat_bits, wrapA_eq]; rfl, rfl⟩
  case or =>
    split at e <;> simp at e
    rename_i a b
    subst e
    exact ⟨_, by simp only [binOp, Op.intBits, ne_eq, not_true_eq_false, if_false, BitVec.toNat_or, ofNat_bits, wrapA_eq]; rfl, rfl⟩
  case xor =>
    split at e <;> simp at e
    rename_i a b
    subst e
    exact ⟨_, by simp only [binOp, Op.intBits, ne_eq, not_true_eq_false, if_false, BitVec.toNat_xor, ofNat_bits, wrapA_eq]; rfl, rfl⟩
  case andNot =>
    split at e <;> simp at e
    rename_i a b
    subst e
    refine ⟨_, ?_, rfl⟩
    simp only [binOp, Op.intBits, ne_eq, not_true_eq_false, if_false, BitVec.toNat_and, BitVec.toNat_not, ofNat_bits, wrapA_eq, modA_eq]
    rfl
  case eql => subst e; exact ⟨_, by simp [binOp, Op.intCmp], rfl⟩
  case neq => subst e; exact ⟨_, by simp [binOp, Op.intCmp], rfl⟩
  case lss => subst e; exact ⟨_, by simp [binOp, Op.intCmp], rfl⟩
  case leq => subst e; exact ⟨_, by simp [binOp, Op.intCmp], rfl⟩
  case gtr => subst e; exact ⟨_, by simp [binOp, Op.intCmp], rfl⟩
  case geq => subst e; exact ⟨_, by simp [binOp, Op.intCmp], rfl⟩
theorem two_pow_int (n : Nat) : (2 : Int) ^ n = Int.ofNat (2 ^ n) := by
  show _ = ((2 ^ n : Nat) : Int)
  simp
theorem shiftA_sound {op : BinOp} {k k' : IntKind} {x y : Int} {v : AV} (e : shiftA op k x y = some v) (ρ : Pos) :
    ∃ u, (Op.shift op k x k' y).run P w = .ok u w ∧ con ρ v = some u := by
  unfold shiftA at e
  split at e
  · rename_i n
    have hn : ¬ (Int.ofNat n < 0) := by simp
    have ht : (Int.ofNat n).toNat = n := rfl
    split at e <;> simp at e <;> subst e
    · exact ⟨_, by simp only [Op.shift, hn, if_false, ht, bitsN_eq, two_pow_int, wrapA_eq]; rfl, rfl⟩
    · exact ⟨_, by simp only [Op.shift, hn, if_false, ht, bitsN_eq, two_pow_int]; rfl, rfl⟩
  · simp at e

theorem blt_false {a b : Nat} (h : Nat.blt a b = false) : b ≤ a := by
  rcases Nat.lt_or_ge a b with k | k
  · have : Nat.blt a b = true := Nat.ble_eq_true_of_le k
    rw [h] at this
    cases this
  · exact k
theorem blt_true {a b : Nat} (h : Nat.blt a b = true) : a < b := Nat.le_of_ble_eq_true h
theorem size_data (x : ByteArray) : x.size = x.data.toList.length := (Array.length_toList).symm
def strA (op : BinOp) (x y : ByteArray) : Option AV :=
  match op with
  | .add => match Nat.blt 9223372036854775807 (x.data.toList.length + y.data.toList.length) with
    | false => some (.string ⟨⟨x.data.toList ++ y.data.toList⟩⟩)
    | true => none
  | .eql => some (.bool (x.data.toList == y.data.toList))
  | .neq => some (.bool (!(x.data.toList == y.data.toList)))
  | _ => none
theorem strA_sound {op : BinOp} {x y : ByteArray} {v : AV} (e : strA op x y = some v) (ρ : Pos) :
    ∃ u, (binOp op t (.string x) (.string y)).run P w = .ok u w ∧ con ρ v = some u := by
  unfold strA at e
  cases op <;> simp only [reduceCtorEq] at e
  case add =>
    split at e <;> simp at e
    rename_i hlt
    subst e
    refine ⟨.string (x ++ y), ?_, ?_⟩
    · have h1 : ¬ ((9223372036854775807 : Int) < ((x.size + y.size : Nat) : Int)) := by
        have h2 := blt_false hlt
        rw [← size_data, ← size_data] at h2
        omega
      have h5 : IntKind.i64.max = 9223372036854775807 := by decide
      simp only [binOp, Op.stringOp, h5]
      rw [if_neg (by simpa using h1)]
      rfl
    · have : x ++ y = ⟨⟨x.data.toList ++ y.data.toList⟩⟩ := by
        apply ByteArray.ext
        apply Array.ext'
        simp
      simp [con, this]
  case eql => simp at e; subst e; exact ⟨_, by simp [binOp, Op.stringOp, ByteArray.toList_eq], rfl⟩
  case neq => simp at e; subst e; exact ⟨_, by simp [binOp, Op.stringOp, ByteArray.toList_eq], rfl⟩
end
end Go.Proofs.Ytpdfalgjmeagjaa

/-
  The small machine's new memory: variables, boxes, literals, what is made; and constants.
-/
namespace Go.Proofs.Ytpdfalgjmeagjaa
open Go.RowKit
set_option linter.unusedVariables false

/-! ### Constants -/
def oneOf : Value → Option AV
  | .bool b => some (.bool b)
  | .int k n => some (.int k n)
  | .string s => some (.string s)
  | .pointer none => some (.pointer none)
  | .slice none n c => some (.slice none n (.is c))
  | .nilFunc => some .nilFunc
  | .nilIface => some .nilIface
  | .map none => some (.map none)
  | _ => none
def listOf : List Value → Option (List AV)
  | [] => some []
  | v :: l => match oneOf v, listOf l with
    | some x, some xs => some (x :: xs)
    | _, _ => none
def avOf : Value → Option AV
  | .agg ⟨l⟩ => (listOf l).map .agg
  | .tuple ⟨l⟩ => (listOf l).map .tuple
  | v => oneOf v
theorem oneOf_con {v : Value} {x : AV} (e : oneOf v = some x) (ρ : Pos) : con ρ x = some v := by
  unfold oneOf at e
  split at e <;> simp at e <;> subst e <;> simp [con]
theorem listOf_con : ∀ {l : List Value} {x : List AV} (_ : listOf l = some x) (ρ : Pos), conL ρ x = some l
  | [], x, e, ρ => by simp [listOf] at e; subst e; rfl
  | v :: l, x, e, ρ => by
    simp only [listOf] at e
    split at e
    · rename_i y ys h1 h2
      simp at e
      subst e
      exact conL_mk (oneOf_con h1 ρ) (listOf_con h2 ρ)
    · simp at e
theorem avOf_con {v : Value} {x : AV} (e : avOf v = some x) (ρ : Pos) : con ρ x = some v := by
  unfold avOf at e
  split at e
  · obtain ⟨l, hl, rfl⟩ := Option.map_eq_some_iff.1 e
    simp [con, listOf_con hl ρ]
  · obtain ⟨l, hl, rfl⟩ := Option.map_eq_some_iff.1 e
    simp [con, listOf_con hl ρ]
  · exact oneOf_con e ρ
theorem con_undef (ρ : Pos) : con ρ .undef = some undef := rfl

/-! ### New blocks -/
section
variable {P : Program} {ρ : Pos} {h : H} {w : World}
theorem BlkIs.list {l : List AV} {vs : List Value} (hv : conL ρ l = some vs) (e : TypeId) (s : Nat) (rw : Bool) : BlkIs ρ 0 ⟨e, .list l, true, s, rw⟩ vs.toArray (0, 0) :=
  ⟨fun _ => .inl rfl, by simp [Cel.size, conL_length hv], fun _ => by simp [Cel.size, conL_length hv], fun k => by simp at k, fun j v hj => by
    obtain ⟨u, h1, h2⟩ := conL_get hv j v hj
    exact ⟨u, h1, by simpa using h2⟩, fun _ _ => rfl⟩
theorem new_sound (r : Rel ρ h w) (hn : ρ h.next = none) {l : List AV} {vs : List Value} (hv : conL ρ l = some vs) (e : TypeId) :
    Rel (ρ.put h.next (w.heap.size, 0)) (h.push ⟨e, .list l, true, 0, true⟩) (w.alloc (.cells vs.toArray e (0, 0))) ∧
    Ext ρ h w (ρ.put h.next (w.heap.size, 0)) (h.push ⟨e, .list l, true, 0, true⟩) (w.alloc (.cells vs.toArray e (0, 0))) :=
  ⟨r.push hn ⟨e, .list l, true, 0, true⟩ 0 w rfl vs.toArray (0, 0) (BlkIs.list hv e 0 true), Ext.push r hn ⟨e, .list l, true, 0, true⟩ rfl 0 w rfl rfl rfl rfl vs.toArray (0, 0)⟩
theorem con_at (ρ : Pos) (b g C : Nat) (o : Nat) : con (ρ.put b (g, C)) (.pointer (some (b, o))) = some (.pointer (some ⟨g, o, none⟩)) := by simp [con, Pos.put_self]

theorem con_slice_at {ρ : Pos} (b g C o n c : Nat) : con (ρ.put b (g, C)) (.slice (some (b, o)) n (.is c)) = some (.slice (some ⟨g, o, none⟩) n c) := by simp [con, Pos.put_self, Cap.at_, Cap.off]

/-- What an operation that yields a value comes to. -/
def Yields (P : Program) (s : Sem Value) (ρ : Pos) (h : H) (w : World) (v : AV) (h' : H) : Prop :=
  ∃ ρ' u w', s.run P w = .ok u w' ∧ con ρ' v = some u ∧ Rel ρ' h' w' ∧ Ext ρ h w ρ' h' w' ∧ Grow ρ h ρ' h'
theorem Yields.same (r : Rel ρ h w) {s : Sem Value} {u : Value} {v : AV} (e : s.run P w = .ok u w) (hv : con ρ v = some u) : Yields P s ρ h w v h :=
  ⟨ρ, u, w, e, hv, r, Ext.refl _ _ _, .inl ⟨rfl, rfl⟩⟩

def zeroA (P : Program) (t : TypeId) : Option AV := match P.info? t with
  | some i => match i.zero with
    | some z => avOf z
    | none => none
  | none => none
theorem run_zero {t : TypeId} {z : AV} (e : zeroA P t = some z) (ρ : Pos) : ∃ v, (zeroValue t).run P w = .ok v w ∧ con ρ z = some v := by
  unfold zeroA at e
  split at e
  · rename_i i hi
    split at e
    · rename_i v hv
      exact ⟨v, by simp [zeroValue, typeInfo, hi, hv], avOf_con e ρ⟩
    · simp at e
  · simp at e

def allocA (P : Program) (h : H) (t : TypeId) : Option (AV × H) := match zeroA P t with
  | some z => some (.pointer (some (h.next, 0)), h.push ⟨t, .list z.cells, true, 0, true⟩)
  | none => none
theorem alloc_sound (r : Rel ρ h w) (hn : ρ h.next = none) {t : TypeId} {v : AV} {h' : H} (e : allocA P h t = some (v, h')) : Yields P (Instr.alloc t true (.tuple #[])) ρ h w v h' := by
  unfold allocA at e
  split at e <;> simp at e
  rename_i z hz
  obtain ⟨rfl, rfl⟩ := e
  obtain ⟨u, hu, hc⟩ := run_zero (w := w) hz ρ
  obtain ⟨r1, x1⟩ := new_sound r hn (con_cells hc) t
  refine ⟨_, _, _, ?_, con_at ρ h.next w.heap.size 0 0, r1, x1, .inr ⟨_, rfl, rfl⟩⟩
  simp [Instr.alloc, hu, newVar, newRow]
def boxA (h : H) (t : TypeId) (v : AV) : AV × H := (.pointer (some (h.next, 0)), h.push ⟨t, .list v.cells, true, 0, true⟩)
theorem box_sound (r : Rel ρ h w) (hn : ρ h.next = none) {t : TypeId} {x : AV} {u : Value} (hu : con ρ x = some u) : Yields P (Instr.box t u) ρ h w (boxA h t x).1 (boxA h t x).2 := by
  obtain ⟨r1, x1⟩ := new_sound r hn (con_cells hu) t
  refine ⟨_, _, _, ?_, con_at ρ h.next w.heap.size 0 0, r1, x1, .inr ⟨_, rfl, rfl⟩⟩
  simp [Instr.box, newVar, newRow]

/-! ### Literals -/
def setsL : List AV → Nat → List AV → List AV
  | c, _, [] => c
  | c, o, v :: l => setsL (c.set o v) (o + 1) l
def fillA (place : Nat → Option (Nat × Nat)) (cs : List AV) : List (Nat × AV) → Option (List AV)
  | [] => some cs
  | (i, v) :: rest => match place i with
    | none => none
    | some (off, size) => match Nat.beq v.cells.length size && Nat.ble (off + v.cells.length) cs.length with
      | true => fillA place (setsL cs off v.cells) rest
      | false => none
/-- Parts of a literal. -/
def partsOf (ρ : Pos) : List (Nat × AV) → Option (List (Nat × Value))
  | [] => some []
  | (i, v) :: l => match con ρ v, partsOf ρ l with
    | some u, some us => some ((i, u) :: us)
    | _, _ => none
theorem conL_set {l : List AV} {x : List Value} (e : conL ρ l = some x) {v : AV} {u : Value} (hv : con ρ v = some u) (o : Nat) : conL ρ (l.set o v) = some (x.set o u) := by
  have hl := conL_length e
  refine conL_of (by simp [hl]) fun j a b ha hb => ?_
  rw [List.getElem?_set] at ha hb
  by_cases hj : o = j
  · subst hj
    simp at ha hb
    rw [← ha.2, ← hb.2, hv]
  · rw [if_neg hj] at ha hb
    obtain ⟨y, h1, h2⟩ := conL_get e j a ha
    rw [hb] at h2
    simp at h2
    rw [h1, h2]
theorem sets_sound : ∀ (l : List AV) (us : List Value) (k off : Nat) (c : List AV) (x : Array Value), conL ρ l = some us → conL ρ c = some x.toList →
    conL ρ (setsL c (off + k) l) = some (((us.zipIdx k).foldl (fun cs q => cs.setIfInBounds (off + q.2) q.1) x).toList)
  | [], us, k, off, c, x, h1, h2 => by
    simp [conL] at h1
    subst h1
    exact h2
  | v :: l, us, k, off, c, x, h1, h2 => by
    obtain ⟨u, us', hu, hus, rfl⟩ := conL_cons h1
    simp only [setsL, List.zipIdx_cons, List.foldl_cons]
    rw [Nat.add_assoc]
    exact sets_sound l us' (k + 1) off (c.set (off + k) v) (x.setIfInBounds (off + k) u) hus (by
      rw [Array.toList_setIfInBounds]
      exact conL_set h2 hu _)
theorem fill_sound (place : Nat → Option (Nat × Nat)) : ∀ (ps : List (Nat × AV)) (qs : List (Nat × Value)) (c : List AV) (x : Array Value) (l : List AV), partsOf ρ ps = some qs → conL ρ c = some x.toList → fillA place c ps = some l →
    ∃ r, Instr.fill place x qs = some r ∧ conL ρ l = some r.toList
  | [], qs, c, x, l, h1, h2, h3 => by
    simp [partsOf] at h1
    simp [fillA] at h3
    subst h1 h3
    exact ⟨x, rfl, h2⟩
  | (i, v) :: ps, qs, c, x, l, h1, h2, h3 => by
    simp only [partsOf] at h1
    split at h1 <;> simp at h1
    rename_i u us hu hus
    subst h1
    simp only [fillA] at h3
    split at h3
    · simp at h3
    · rename_i off size hp
      split at h3
      · rename_i hc
        simp only [Bool.and_eq_true] at hc
        have hcl := con_cells hu
        have hlen := conL_length hcl
        have h4 : v.cells.length = size := by simpa using hc.1
        have h5 : off + v.cells.length ≤ c.length := by simpa using hc.2
        have hxl := conL_length h2
        have e1 : u.cells.size = v.cells.length := by simpa using hlen
        have e2 : x.size = c.length := by simpa using hxl
        obtain ⟨r, hr, hl⟩ := fill_sound place ps us _ _ l hus (sets_sound v.cells u.cells.toList 0 off c x hcl h2) h3
        refine ⟨r, ?_, hl⟩
        simp only [Instr.fill, hp]
        rw [if_neg (by
          simp only [ne_eq, Bool.or_eq_true, decide_eq_true_eq, not_or]
          omega)]
        rw [← hr]
        congr 1
        rw [← Array.foldl_toList, Array.toList_zipIdx]
      · simp at h3
/-- So many zeros of a pattern. -/
def zerosA (z : List AV) (n : Nat) : List AV := (List.range n).map fun i => (z[i % z.length]?).getD .undef
theorem zeros_sound {z : List AV} {x : Array Value} (e : conL ρ z = some x.toList) (n : Nat) (hz : n = 0 ∨ z ≠ []) : conL ρ (zerosA z n) = some ((Array.range n).map (x[· % x.size]!)).toList := by
  have hl := conL_length e
  have hs : x.size = z.length := by simpa using hl
  refine conL_of (by simp [zerosA]) fun j a b ha hb => ?_
  simp only [zerosA, List.getElem?_map, Array.toList_map, Array.toList_range] at ha hb
  rcases Nat.lt_or_ge j n with hj | hj
  · simp [hj] at ha hb
    rcases hz with rfl | hz
    · omega
    · have hpos : 0 < z.length := List.length_pos_iff.2 hz
      have hm : j % z.length < z.length := Nat.mod_lt _ hpos
      have h1 : z[j % z.length]? = some z[j % z.length] := List.getElem?_eq_getElem hm
      obtain ⟨y, h2, h3⟩ := conL_get e _ _ h1
      rw [h1] at ha
      simp at ha
      subst ha
      rw [h2]
      congr 1
      rw [← hb, hs, getElem!_def]
      simp only [Array.getElem?_toList] at h3
      rw [h3]
  · rw [List.getElem?_eq_none (by simpa using hj)] at ha
    simp at ha

/-- The struct's, or array's, places. -/
def placesL (P : Program) : List Field → Option (List (Nat × Nat))
  | [] => some []
  | f :: l => match sizeA P f.type, placesL P l with
    | some s, some ps => some ((f.offset, s) :: ps)
    | _, _ => none
theorem run_places : ∀ (l : List Field) (ps : List (Nat × Nat)), placesL P l = some ps → (l.mapM fun (f : Field) => Prod.mk f.offset <$> sizeOf f.type : Sem (List (Nat × Nat))).run P w = .ok ps w
  | [], ps, h => by simp [placesL] at h; subst h; rfl
  | f :: l, ps, h => by
    simp only [placesL] at h
    split at h <;> simp at h
    rename_i s qs hs hq
    subst h
    simp [List.mapM_cons, run_sizeOf hs, run_places l qs hq]
def placeA (P : Program) (t : TypeId) : Option (Nat → Option (Nat × Nat)) := match P.underlying t with
  | some (.struct ⟨fields⟩) => match placesL P fields with
    | some ps => some fun i => ps[i]?
    | none => none
  | some (.array _ elem) => match sizeA P elem with
    | some s => some fun i => some (i * s, s)
    | none => none
  | _ => none
def buildA (P : Program) (h : H) (t : TypeId) (ps : List (Nat × AV)) : Option (AV × H) := match zeroA P t, placeA P t with
  | some z, some place => match fillA place z.cells ps with
    | some l => some (.agg l, h)
    | none => none
  | _, _ => none
theorem build_sound (r : Rel ρ h w) {t : TypeId} {ps : List (Nat × AV)} {qs : List (Nat × Value)} {v : AV} {h' : H} (hq : partsOf ρ ps = some qs) (e : buildA P h t ps = some (v, h')) : Yields P (Instr.build t qs.toArray) ρ h w v h' := by
  unfold buildA at e
  split at e
  · rename_i z place hz hp
    split at e <;> simp at e
    rename_i l hl
    obtain ⟨rfl, rfl⟩ := e
    obtain ⟨u, hu, hc⟩ := run_zero (w := w) hz ρ
    obtain ⟨rr, hr, hlr⟩ := fill_sound place ps qs z.cells u.cells l hq (con_cells hc) hl
    refine Yields.same r (u := .agg rr) ?_ (by simp [con, hlr])
    unfold placeA at hp
    split at hp
    · rename_i fields hd
      split at hp <;> simp at hp
      rename_i pl hpl
      subst hp
      have h1 := run_places (w := w) fields pl hpl
      simp [Instr.build, hu, run_underlying hd, h1, hr]
    · rename_i n elem hd
      split at hp <;> simp at hp
      rename_i s hs
      subst hp
      simp [Instr.build, hu, run_underlying hd, run_sizeOf hs, hr]
    · simp at hp
  · simp at e

def buildSliceA (P : Program) (h : H) (t : TypeId) (n : Nat) (ps : List (Nat × AV)) : Option (AV × H) := match P.underlying t with
  | some (.slice elem) => match sizeA P elem, zeroA P elem with
    | some s, some z => match Nat.ble (n * s) 16777216, z.cells with
      | true, c :: cs => match fillA (fun i => some (i * s, s)) (zerosA (c :: cs) (n * s)) ps with
        | some l => some (.slice (some (h.next, 0)) n (.is n), h.push ⟨elem, .list l, true, 0, true⟩)
        | none => none
      | _, _ => none
    | _, _ => none
  | _ => none
theorem buildSlice_sound (r : Rel ρ h w) (hn : ρ h.next = none) {t n : Nat} {ps : List (Nat × AV)} {qs : List (Nat × Value)} {v : AV} {h' : H} (hq : partsOf ρ ps = some qs) (e : buildSliceA P h t n ps = some (v, h')) : Yields P (Instr.buildSlice t n qs.toArray) ρ h w v h' := by
  unfold buildSliceA at e
  split at e
  · rename_i elem hd
    split at e
    · rename_i s z hs hz
      split at e
      · rename_i c cs hle hcells
        split at e <;> simp at e
        rename_i l hl
        obtain ⟨rfl, rfl⟩ := e
        obtain ⟨u, hu, hc⟩ := run_zero (w := w) hz ρ
        have hcc := con_cells hc
        rw [hcells] at hcc
        have hle' : n * s ≤ 16777216 := by simpa using hle
        by_cases h0 : n * s = 0
        · obtain ⟨rr, hr, hlr⟩ := fill_sound (fun i => some (i * s, s)) ps qs _ #[] l hq (by rw [h0]; rfl) hl
          obtain ⟨r1, x1⟩ := new_sound r hn hlr elem
          refine ⟨_, .slice (some ⟨w.heap.size, 0, none⟩) n n, _, ?_, con_slice_at (ρ := ρ) h.next w.heap.size 0 0 n n, r1, x1, .inr ⟨_, rfl, rfl⟩⟩
          simp [Instr.buildSlice, run_underlying hd, run_sizeOf hs, h0, Array.range_zero', hr, newRow]
        · obtain ⟨rr, hr, hlr⟩ := fill_sound (fun i => some (i * s, s)) ps qs _ _ l hq (zeros_sound hcc (n * s) (.inr (by simp))) hl
          obtain ⟨r1, x1⟩ := new_sound r hn hlr elem
          have hgt : ¬ (16777216 < n * s) := by omega
          refine ⟨_, .slice (some ⟨w.heap.size, 0, none⟩) n n, _, ?_, con_slice_at (ρ := ρ) h.next w.heap.size 0 0 n n, r1, x1, .inr ⟨_, rfl, rfl⟩⟩
          simp [Instr.buildSlice, run_underlying hd, run_sizeOf hs, h0, hgt, hu, hr, newRow]
      · simp at e
    · simp at e
  · simp at e

/-- What 'make' makes. -/
def makeA (P : Program) (h : H) (t : TypeId) : AV → AV → Option (AV × H)
  | .int _ (.ofNat n), .int _ (.ofNat c) => match P.underlying t with
    | some (.slice elem) => match P.info? elem, zeroA P elem with
      | some i, some z => match Nat.ble n c && Nat.ble (i.bytes * c) 281474976710656 && Nat.ble c 9223372036854775807, z.cells with
        | true, [x] => some (.slice (some (h.next, 0)) n (.is c), h.push ⟨elem, .tree (c * i.size) x .nil, true, 0, true⟩)
        | true, x :: y :: l => some (.slice (some (h.next, 0)) n (.is c), h.push ⟨elem, .list (zerosA (x :: y :: l) (c * i.size)), true, 0, true⟩)
        | _, _ => none
      | _, _ => none
    | _ => none
  | _, _ => none
theorem BlkIs.made {z : AV} {x : Array Value} (e : conL ρ [z] = some x.toList) (n : Nat) (el : TypeId) (s : Nat) : BlkIs ρ 0 ⟨el, .tree n z .nil, true, s, true⟩ (madeCells x n) (0, 0) := by
  refine ⟨fun _ => .inl rfl, by simp [Cel.size, size_madeCells], fun _ => by simp [Cel.size, size_madeCells], fun k => by simp at k, fun j v hj => ?_, fun _ _ => rfl⟩
  have hjn := Cel.get_size hj
  simp only [Cel.get] at hj
  split at hj <;> simp [Tq.get_nil] at hj
  subst hj
  have hz := zeros_sound e n (.inr (by simp))
  obtain ⟨u, h1, h2⟩ := conL_get hz j z (by
    have : j < n := hjn
    simp [zerosA, this, Nat.mod_one])
  exact ⟨u, h1, by rw [← Array.getElem?_toList]; exact h2⟩
theorem make_sound (r : Rel ρ h w) (hn : ρ h.next = none) {t : TypeId} {a b : AV} {x y : Value} (ha : con ρ a = some x) (hb : con ρ b = some y) {v : AV} {h' : H} (e : makeA P h t a b = some (v, h')) : Yields P (Instr.makeSlice t x y) ρ h w v h' := by
  unfold makeA at e
  split at e
  · rename_i k n k' c
    simp [con] at ha hb
    subst ha hb
    split at e
    · rename_i elem hd
      split at e
      · rename_i i z hi hz
        have hz' : ∃ u, i.zero = some u ∧ avOf u = some z := by
          unfold zeroA at hz
          simp only [hi] at hz
          split at hz
          · rename_i u hu; exact ⟨u, hu, hz⟩
          · simp at hz
        obtain ⟨u, hu, huz⟩ := hz'
        have hcc := con_cells (avOf_con huz ρ)
        have hrun : ∀ (_ : n ≤ c) (_ : i.bytes * c ≤ 281474976710656) (_ : c ≤ 9223372036854775807), (Instr.makeSlice t (.int k (Int.ofNat n)) (.int k' (Int.ofNat c))).run P w = .ok (.slice (some ⟨w.heap.size, 0, none⟩) n c) (w.alloc (.cells (madeCells u.cells (c * i.size)) elem)) := fun h1 h2 h3 =>
          run_make (P := P) w t elem i u hd hi hu k k' (Int.ofNat n) (Int.ofNat c) (by simp) (by simpa using h1) (by
            show (i.bytes : Int) * ((c : Nat) : Int) ≤ 281474976710656
            have h4 : ((i.bytes * c : Nat) : Int) ≤ 281474976710656 := by omega
            rwa [Int.natCast_mul] at h4) (by show ((c : Nat) : Int) ≤ 9223372036854775807; omega)
        split at e
        · rename_i x' hc hcl
          simp only [Bool.and_eq_true] at hc
          simp at e
          obtain ⟨rfl, rfl⟩ := e
          rw [hcl] at hcc
          have hB := BlkIs.made hcc (c * i.size) elem 0
          refine ⟨_, _, _, hrun (by simpa using hc.1.1) (by simpa using hc.1.2) (by simpa using hc.2), con_slice_at (ρ := ρ) h.next w.heap.size 0 0 n c, r.push hn _ 0 w rfl _ _ hB, Ext.push r hn _ rfl 0 w rfl rfl rfl rfl _ _, .inr ⟨_, rfl, rfl⟩⟩
        · rename_i x' y' l' hc hcl
          simp only [Bool.and_eq_true] at hc
          simp at e
          obtain ⟨rfl, rfl⟩ := e
          rw [hcl] at hcc
          have hz2 := zeros_sound hcc (c * i.size) (.inr (by simp))
          obtain ⟨r1, x1⟩ := new_sound r hn hz2 elem
          rw [Array.toArray_toList] at r1 x1
          refine ⟨_, _, _, hrun (by simpa using hc.1.1) (by simpa using hc.1.2) (by simpa using hc.2), con_slice_at (ρ := ρ) h.next w.heap.size 0 0 n c, ?_, ?_, .inr ⟨_, rfl, rfl⟩⟩
          · exact r1
          · exact x1
        · simp at e
      · simp at e
    · simp at e
  · simp at e
end
end Go.Proofs.Ytpdfalgjmeagjaa

/-
  The small machine's places and slices: fields, elements, cuts, lengths, conversions, copy and append.
-/
namespace Go.Proofs.Ytpdfalgjmeagjaa
open Go.RowKit
set_option linter.unusedVariables false

section
variable {P : Program} {ρ : Pos} {h : H} {w : World}

theorem con_ptr {p : Nat × Nat} {u : Value} (e : con ρ (.pointer (some p)) = some u) : ∃ g C, ρ p.1 = some (g, C) ∧ u = .pointer (some ⟨g, p.2, none⟩) := by
  simp only [con, Option.map_eq_some_iff] at e
  obtain ⟨g, hg, rfl⟩ := e
  exact ⟨g.1, g.2, hg, rfl⟩
theorem con_sl {p : Nat × Nat} {n : Nat} {c : Cap} {u : Value} (e : con ρ (.slice (some p) n c) = some u) : ∃ g C, ρ p.1 = some (g, C) ∧ u = .slice (some ⟨g, c.off C p.2, none⟩) n (c.at_ C) := by
  simp only [con, Option.map_eq_some_iff] at e
  obtain ⟨g, hg, rfl⟩ := e
  exact ⟨g.1, g.2, hg, rfl⟩

/-! ### Places -/
def fieldAtA (P : Program) (t : TypeId) (f : Nat) : AV → Option AV
  | .pointer (some p) => match P.underlying t with
    | some (.struct ⟨fields⟩) => match fields[f]? with
      | some fl => match sizeA P fl.type with
        | some (_ + 1) => some (.pointer (some (p.1, p.2 + fl.offset)))
        | _ => none
      | none => none
    | _ => none
  | _ => none
theorem fieldAt_sound {t : TypeId} {f : Nat} {x v : AV} {u : Value} (hu : con ρ x = some u) (e : fieldAtA P t f x = some v) : ∃ y, (Instr.fieldAt t u f).run P w = .ok y w ∧ con ρ v = some y := by
  unfold fieldAtA at e
  split at e
  · rename_i p
    obtain ⟨g, C, hp, rfl⟩ := con_ptr hu
    split at e
    · rename_i fields hd
      split at e
      · rename_i fl hfl
        split at e <;> simp at e
        rename_i s hs
        subst e
        refine ⟨.pointer (some ⟨g, p.2 + fl.offset, none⟩), ?_, by simp [con, hp]⟩
        have h1 : (⟨fields⟩ : Array Field)[f]? = some fl := by simpa using hfl
        simp [Instr.fieldAt, run_underlying hd, h1, Instr.sureAddr, fieldPlace, run_sizeOf hs, Addr.add_lit]
      · simp at e
    · simp at e
  · simp at e
def indexAtA (P : Program) (t : TypeId) (x i : AV) : Option AV := match P.underlying t, x, i with
  | some (.slice e), .slice (some p) n (.is _), .int _ (.ofNat j) => match Nat.blt j n, sizeA P e with
    | true, some s => some (.pointer (some (p.1, p.2 + j * s)))
    | _, _ => none
  | some (.slice e), .slice (some p) n (.upTo _), .int _ (.ofNat j) => match Nat.blt j n, sizeA P e with
    | true, some s => some (.pointer (some (p.1, p.2 + j * s)))
    | _, _ => none
  | some (.array n e), .pointer (some p), .int _ (.ofNat j) => match Nat.blt j n, sizeA P e with
    | true, some s => some (.pointer (some (p.1, p.2 + j * s)))
    | _, _ => none
  | _, _, _ => none
theorem indexAt_sound {t : TypeId} {x i v : AV} {u y : Value} (hu : con ρ x = some u) (hy : con ρ i = some y) (e : indexAtA P t x i = some v) : ∃ z, (Instr.indexAt t u y).run P w = .ok z w ∧ con ρ v = some z := by
  unfold indexAtA at e
  split at e
  · rename_i el p n c k j hd
    obtain ⟨g, C, hp, rfl⟩ := con_sl hu
    simp [con] at hy
    subst hy
    split at e <;> simp at e
    rename_i s hlt hs
    subst e
    have hj : j < n := blt_true hlt
    refine ⟨.pointer (some ⟨g, p.2 + j * s, none⟩), ?_, by simp [con, hp]⟩
    simp [Instr.indexAt, asIntOf, run_underlying hd, hj, run_sizeOf hs, Addr.add_lit, Cap.off]
  · rename_i el p n c k j hd
    obtain ⟨g, C, hp, rfl⟩ := con_sl hu
    simp [con] at hy
    subst hy
    split at e <;> simp at e
    rename_i s hlt hs
    subst e
    have hj : j < n := blt_true hlt
    refine ⟨.pointer (some ⟨g, p.2 + j * s, none⟩), ?_, by simp [con, hp]⟩
    simp [Instr.indexAt, asIntOf, run_underlying hd, hj, run_sizeOf hs, Addr.add_lit, Cap.off]
  · rename_i n el p k j hd
    obtain ⟨g, C, hp, rfl⟩ := con_ptr hu
    simp [con] at hy
    subst hy
    split at e <;> simp at e
    rename_i s hlt hs
    subst e
    have hj : j < n := blt_true hlt
    refine ⟨.pointer (some ⟨g, p.2 + j * s, none⟩), ?_, by simp [con, hp]⟩
    simp [Instr.indexAt, asIntOf, run_underlying hd, hj, run_sizeOf hs, Addr.add_lit, Instr.sureAddr]
  · simp at e

/-! ### Parts of values -/
def partA (P : Program) (t : TypeId) (cs : List AV) (off : Nat) : Option AV := match isAggA P t, sizeA P t, P.underlying t with
  | true, some n, some _ => some (.agg ((cs.drop off).take n))
  | false, some _, some _ => cs[off]?
  | _, _, _ => none
theorem part_sound {t : TypeId} {cs : List AV} {xs : List Value} {off : Nat} {v : AV} (hc : conL ρ cs = some xs) (e : partA P t cs off = some v) : ∃ u, (part t xs.toArray off).run P w = .ok u w ∧ con ρ v = some u := by
  unfold partA at e
  split at e
  · rename_i n d ha hs hd
    simp at e
    subst e
    refine ⟨.agg ((xs.drop off).take n).toArray, ?_, by simp [con, conL_take (conL_drop hc off) n]⟩
    simp [part, run_isAgg hd, ha, run_sizeOf hs]
  · rename_i n d ha hs hd
    obtain ⟨u, h1, h2⟩ := conL_get hc _ _ e
    exact ⟨u, by simp [part, run_isAgg hd, ha, h2], h1⟩
  · simp at e
def fieldA (P : Program) (t : TypeId) (f : Nat) : AV → Option AV
  | .agg cs => match P.underlying t with
    | some (.struct ⟨fields⟩) => match fields[f]? with
      | some fl => partA P fl.type cs fl.offset
      | none => none
    | _ => none
  | _ => none
theorem con_agg {l : List AV} {u : Value} (e : con ρ (.agg l) = some u) : ∃ xs, conL ρ l = some xs ∧ u = .agg xs.toArray := by
  simp only [con] at e
  split at e <;> simp at e
  rename_i xs hx
  exact ⟨xs, hx, e.symm⟩
theorem con_tuple {l : List AV} {u : Value} (e : con ρ (.tuple l) = some u) : ∃ xs, conL ρ l = some xs ∧ u = .tuple xs.toArray := by
  simp only [con] at e
  split at e <;> simp at e
  rename_i xs hx
  exact ⟨xs, hx, e.symm⟩
theorem field_sound {t : TypeId} {f : Nat} {x v : AV} {u : Value} (hu : con ρ x = some u) (e : fieldA P t f x = some v) : ∃ y, (Instr.field t u f).run P w = .ok y w ∧ con ρ v = some y := by
  unfold fieldA at e
  split at e
  · rename_i cs
    obtain ⟨xs, hx, rfl⟩ := con_agg hu
    split at e
    · rename_i fields hd
      split at e
      · rename_i fl hfl
        obtain ⟨y, h1, h2⟩ := part_sound (w := w) hx e
        exact ⟨y, by simp [Instr.field, run_underlying hd, hfl, asAgg, h1], h2⟩
      · simp at e
    · simp at e
  · simp at e
def indexA (P : Program) (t : TypeId) (x i : AV) : Option AV := match P.underlying t, x, i with
  | some (.array n e), .agg cs, .int _ (.ofNat j) => match Nat.blt j n, sizeA P e with
    | true, some s => partA P e cs (j * s)
    | _, _ => none
  | some .string, .string s, .int _ (.ofNat j) => match s.data.toList[j]? with
    | some b => some (.int .u8 (Int.ofNat b.toNat))
    | none => none
  | _, _, _ => none
theorem index_sound {t : TypeId} {x i v : AV} {u y : Value} (hu : con ρ x = some u) (hy : con ρ i = some y) (e : indexA P t x i = some v) : ∃ z, (Instr.index t u y).run P w = .ok z w ∧ con ρ v = some z := by
  unfold indexA at e
  split at e
  · rename_i n el cs k j hd
    obtain ⟨xs, hx, rfl⟩ := con_agg hu
    simp [con] at hy
    subst hy
    split at e
    · rename_i s hlt hs
      have hj : j < n := blt_true hlt
      obtain ⟨z, h1, h2⟩ := part_sound (w := w) hx e
      exact ⟨z, by simp [Instr.index, asIntOf, run_underlying hd, hj, run_sizeOf hs, h1], h2⟩
    · simp at e
  · rename_i s k j hd
    simp [con] at hu hy
    subst hu hy
    split at e <;> simp at e
    rename_i b hb
    subst e
    refine ⟨.int .u8 b.toNat, ?_, rfl⟩
    have h1 : s[j]? = some b := by
      have h2 : j < s.size := by rw [size_data]; exact (List.getElem?_eq_some_iff.1 hb).1
      rw [getElem?_pos s j h2]
      have h3 := (List.getElem?_eq_some_iff.1 hb).2
      rw [← h3]
      simp [ByteArray.getElem_eq_getElem_data]
    simp [Instr.index, asIntOf, run_underlying hd, h1]
  · simp at e

/-! ### Cuts -/
/-- A bound that is told, or another number. -/
def boundA : Option AV → Nat → Option Nat
  | none, d => some d
  | some (.int _ (.ofNat n)), _ => some n
  | _, _ => none
def okMax : Option AV → Option AV → Bool
  | none, _ => true
  | some _, some _ => true
  | some _, none => false
theorem okMax_out {mx hi : Option AV} (e : okMax mx hi = true) : mx = none ∨ ∃ q, hi = some q := by
  cases mx <;> cases hi <;> simp_all [okMax]
def sliceA (P : Program) (h : H) (t : TypeId) (x : AV) (lo hi mx : Option AV) : Option AV := match P.underlying t, x with
  | some (.array n e), .pointer (some p) => match boundA lo 0, boundA hi n, boundA mx n, sizeA P e, okMax mx hi with
    | some l, some hh, some m, some s, true => match Nat.ble l hh && Nat.ble hh m && Nat.ble m n, Nat.beq m l with
      | true, true => some (.slice (some p) (hh - l) (.is (m - l)))
      | true, false => some (.slice (some (p.1, p.2 + l * s)) (hh - l) (.is (m - l)))
      | _, _ => none
    | _, _, _, _, _ => none
  | some (.slice e), .slice a n (.is c) => match boundA lo 0, boundA hi n, boundA mx c, sizeA P e, okMax mx hi with
    | some l, some hh, some m, some s, true => match Nat.ble l hh && Nat.ble hh m && Nat.ble m c, Nat.beq m l with
      | true, true => some (.slice a (hh - l) (.is (m - l)))
      | true, false => some (.slice (a.map fun p => (p.1, p.2 + l * s)) (hh - l) (.is (m - l)))
      | _, _ => none
    | _, _, _, _, _ => none
  | some (.slice e), .slice (some p) n (.upTo d) => match boundA lo 0, boundA hi n, mx, sizeA P e, h.get p.1 with
    | some l, some hh, none, some s, some b => match Nat.ble l hh && !b.whole && Nat.beq b.esz s && Nat.blt 0 s && Nat.beq p.2 (d * s) && Nat.ble (p.2 + hh * s) b.cells.size with
      | true => match l with
        | 0 => some (.slice (some p) hh (.upTo d))
        | l + 1 => match Nat.blt (l + 1) hh with
          | true => some (.slice (some (p.1, p.2 + (l + 1) * s)) (hh - (l + 1)) (.upTo (d + (l + 1))))
          | false => some (.slice (some (p.1, p.2 + (l + 1) * s)) 0 (.gone (d + (l + 1)) p.2))
      | false => none
    | _, _, _, _, _ => none
  | some .string, .string s => match boundA lo 0, boundA hi s.data.toList.length, mx with
    | some l, some hh, none => match Nat.ble l hh && Nat.ble hh s.data.toList.length with
      | true => some (.string ⟨⟨(s.data.toList.drop l).take (hh - l)⟩⟩)
      | false => none
    | _, _, _ => none
  | _, _ => none
/-- The bounds as the world has them. -/
def Bnd (ρ : Pos) : Option AV → Option Value → Prop
  | none, none => True
  | some a, some v => con ρ a = some v
  | _, _ => False
theorem bnd_none {o : Option Value} (hb : Bnd ρ none o) : o = none := by cases o <;> simp_all [Bnd]
theorem bound_sound {a : Option AV} {v : Option Value} {d n : Nat} (hb : Bnd ρ a v) (e : boundA a d = some n) : (a = none ∧ v = none ∧ n = d) ∨ ∃ k, (∃ b, a = some b) ∧ v = some (.int k (Int.ofNat n)) := by
  unfold boundA at e
  split at e
  · left
    exact ⟨rfl, bnd_none hb, by simpa using e.symm⟩
  · right
    rename_i m k _
    simp at e
    subst e
    cases v with
    | none => simp [Bnd] at hb
    | some v =>
      simp [Bnd, con] at hb
      exact ⟨k, ⟨_, rfl⟩, by rw [← hb]; rfl⟩
  · simp at e
theorem run_bound (k : IntKind) (n y : Nat) (code : BoundsCode) (hn : n ≤ y) : (Instr.sliceBound (.int k (n : Int)) y code).run P w = .ok n w := by
  simp [Instr.sliceBound, asIntOf, hn]
theorem run_bounds {b : Bool} {n c l hh m : Nat} {lo hi mx : Option AV} {lo' hi' mx' : Option Value} (h1 : Bnd ρ lo lo') (h2 : Bnd ρ hi hi') (h3 : Bnd ρ mx mx') (e1 : boundA lo 0 = some l) (e2 : boundA hi n = some hh) (e3 : boundA mx c = some m)
    (hmx : mx = none ∨ ∃ q, hi = some q) (a1 : l ≤ hh) (a2 : hi = none ∨ hh ≤ m) (a3 : m ≤ c) : (Instr.sliceBounds b n c lo' hi' mx').run P w = .ok (l, hh, m) w := by
  rcases bound_sound h1 e1 with ⟨rfl, rfl, rfl⟩ | ⟨k1, ⟨_, rfl⟩, rfl⟩ <;> rcases bound_sound h2 e2 with ⟨rfl, rfl, rfl⟩ | ⟨k2, ⟨_, rfl⟩, rfl⟩ <;> rcases bound_sound h3 e3 with ⟨rfl, rfl, rfl⟩ | ⟨k3, ⟨_, rfl⟩, rfl⟩ <;>
    simp at hmx a2 <;> simp [Instr.sliceBounds, run_bound, a1, a2, a3]
theorem slice_sound (r : Rel ρ h w) {t : TypeId} {x v : AV} {u : Value} {lo hi mx : Option AV} {lo' hi' mx' : Option Value} (hu : con ρ x = some u) (h1 : Bnd ρ lo lo') (h2 : Bnd ρ hi hi') (h3 : Bnd ρ mx mx') (e : sliceA P h t x lo hi mx = some v) :
    ∃ y, (Instr.sliceAt t u lo' hi' mx').run P w = .ok y w ∧ con ρ v = some y := by
  unfold sliceA at e
  split at e
  · rename_i n el p hd
    obtain ⟨g, C, hp, rfl⟩ := con_ptr hu
    have key : ∀ l hh m s, boundA lo 0 = some l → boundA hi n = some hh → boundA mx n = some m → sizeA P el = some s → (mx = none ∨ ∃ q, hi = some q) → (match Nat.ble l hh && Nat.ble hh m && Nat.ble m n, Nat.beq m l with
      | true, true => some (AV.slice (some p) (hh - l) (.is (m - l)))
      | true, false => some (.slice (some (p.1, p.2 + l * s)) (hh - l) (.is (m - l)))
      | _, _ => none) = some v → ∃ y, (Instr.sliceAt t (.pointer (some ⟨g, p.2, none⟩)) lo' hi' mx').run P w = .ok y w ∧ con ρ v = some y := by
      intro l hh m s e1 e2 e3 hs hm e
      split at e <;> simp at e
      · rename_i hc heq
        simp only [Bool.and_eq_true] at hc
        subst e
        have hb := run_bounds (P := P) (w := w) (b := false) h1 h2 h3 e1 e2 e3 hm (by simpa using hc.1.1) (.inr (by simpa using hc.1.2)) (by simpa using hc.2)
        have heq' : m = l := by simpa using heq
        exact ⟨.slice (some ⟨g, p.2, none⟩) (hh - l) (m - l), by simp [Instr.sliceAt, run_underlying hd, Instr.sureAddr, hb, run_sizeOf hs, heq'], by simp [con, hp, Cap.off, Cap.at_]⟩
      · rename_i hc heq
        simp only [Bool.and_eq_true] at hc
        subst e
        have hb := run_bounds (P := P) (w := w) (b := false) h1 h2 h3 e1 e2 e3 hm (by simpa using hc.1.1) (.inr (by simpa using hc.1.2)) (by simpa using hc.2)
        have hne : m ≠ l := fun q => by rw [q, Nat.beq_refl] at heq; cases heq
        exact ⟨.slice (some ⟨g, p.2 + l * s, none⟩) (hh - l) (m - l), by simp [Instr.sliceAt, run_underlying hd, Instr.sureAddr, hb, run_sizeOf hs, hne, Addr.add_lit], by simp [con, hp, Cap.off, Cap.at_]⟩
    split at e
    · rename_i e1 e2 e3 hs hm
      exact key _ _ _ _ e1 e2 e3 hs (okMax_out hm) e
    · simp at e
  · rename_i el a n c hd
    have hu' : ∃ a', u = .slice a' n c ∧ (∀ l m s, m ≠ l → con ρ (.slice (a.map fun p => (p.1, p.2 + l * s)) m (.is (m - l))) = some (.slice (a'.map (·.add (l * s))) m (m - l))) ∧ (∀ m k, con ρ (.slice a m (.is k)) = some (.slice a' m k)) := by
      cases a with
      | none =>
        simp [con] at hu
        exact ⟨none, hu.symm, fun l m s _ => by simp [con], fun m k => by simp [con]⟩
      | some p =>
        obtain ⟨g, C, hp, rfl⟩ := con_sl hu
        exact ⟨some ⟨g, p.2, none⟩, by simp [Cap.off, Cap.at_], fun l m s _ => by simp [con, hp, Cap.off, Cap.at_, Addr.add_lit], fun m k => by simp [con, hp, Cap.off, Cap.at_]⟩
    obtain ⟨a', rfl, k1, k2⟩ := hu'
    have k1' : ∀ l m s k, con ρ (.slice (a.map fun p => (p.1, p.2 + l * s)) m (.is k)) = some (.slice (a'.map (·.add (l * s))) m k) := by
      intro l m s k
      cases a with
      | none =>
        have := k2 0 0
        simp [con] at this
        simp [con, ← this]
      | some p =>
        have := k2 0 0
        obtain ⟨g, C, hp, e1⟩ := con_sl this
        simp [Cap.off, Cap.at_] at e1
        simp [con, hp, Cap.off, Cap.at_, e1, Addr.add_lit]
    have key : ∀ l hh m s, boundA lo 0 = some l → boundA hi n = some hh → boundA mx c = some m → sizeA P el = some s → (mx = none ∨ ∃ q, hi = some q) → (match Nat.ble l hh && Nat.ble hh m && Nat.ble m c, Nat.beq m l with
      | true, true => some (AV.slice a (hh - l) (.is (m - l)))
      | true, false => some (.slice (a.map fun p => (p.1, p.2 + l * s)) (hh - l) (.is (m - l)))
      | _, _ => none) = some v → ∃ y, (Instr.sliceAt t (.slice a' n c) lo' hi' mx').run P w = .ok y w ∧ con ρ v = some y := by
      intro l hh m s e1 e2 e3 hs hm e
      split at e <;> simp at e
      · rename_i hc heq
        simp only [Bool.and_eq_true] at hc
        subst e
        have hb := run_bounds (P := P) (w := w) (b := true) h1 h2 h3 e1 e2 e3 hm (by simpa using hc.1.1) (.inr (by simpa using hc.1.2)) (by simpa using hc.2)
        have heq' : m = l := by simpa using heq
        exact ⟨.slice a' (hh - l) (m - l), by simp [Instr.sliceAt, Instr.slice, run_underlying hd, hb, run_sizeOf hs, heq'], k2 _ _⟩
      · rename_i hc heq
        simp only [Bool.and_eq_true] at hc
        subst e
        have hb := run_bounds (P := P) (w := w) (b := true) h1 h2 h3 e1 e2 e3 hm (by simpa using hc.1.1) (.inr (by simpa using hc.1.2)) (by simpa using hc.2)
        have hne : m ≠ l := fun q => by rw [q, Nat.beq_refl] at heq; cases heq
        exact ⟨.slice (a'.map (·.add (l * s))) (hh - l) (m - l), by simp [Instr.sliceAt, Instr.slice, run_underlying hd, hb, run_sizeOf hs, hne], k1' _ _ _ _⟩
    split at e
    · rename_i e1 e2 e3 hs hm
      exact key _ _ _ _ e1 e2 e3 hs (okMax_out hm) e
    · simp at e
  · rename_i el p n d hd
    obtain ⟨g, C, hp, rfl⟩ := con_sl hu
    split at e
    · rename_i l hh s b e1 e2 hs hb
      split at e
      · rename_i hc
        simp only [Bool.and_eq_true] at hc
        obtain ⟨⟨⟨⟨⟨c1, c2⟩, c3⟩, c4⟩, c5⟩, c6⟩ := hc
        have c1 : l ≤ hh := by simpa using c1
        have c2 : b.whole = false := by simpa using c2
        have c3 : b.esz = s := by simpa using c3
        have c4 : 0 < s := blt_true c4
        have c5 : p.2 = d * s := by simpa using c5
        have c6 : p.2 + hh * s ≤ b.cells.size := by simpa using c6
        obtain ⟨g', C', cur, fz, hp', hg, hx⟩ := r.at_ _ b hb
        rw [hp] at hp'
        simp at hp'
        obtain ⟨rfl, rfl⟩ := hp'
        have hcap : hh ≤ C - d := by
          have h4 := hx.fits
          rw [(hx.more c2).1, c3] at h4
          have h5 : (d + hh) * s ≤ C * s := by rw [Nat.add_mul, ← c5]; omega
          have h6 := Nat.le_of_mul_le_mul_right h5 c4
          omega
        have hbd := run_bounds (P := P) (w := w) (b := true) (n := n) (c := C - d) (m := C - d) h1 h2 h3 e1 e2 rfl (.inl rfl) c1 (.inr hcap) (Nat.le_refl _)
        rcases l with _ | l
        · simp at e
          subst e
          refine ⟨.slice (some ⟨g, p.2, none⟩) hh (C - d), ?_, by simp [con, hp, Cap.off, Cap.at_]⟩
          simp only [Instr.sliceAt, Instr.slice, Sem.run_bind, run_underlying hd, Result.andThen_ok, Cap.at_, Cap.off, hbd, run_sizeOf hs, Sem.run_pure]
          by_cases h0 : C - d = 0 <;> simp [h0, Addr.add]
        · simp only at e
          split at e <;> simp at e <;> subst e
          · rename_i hlt
            have hlt := blt_true hlt
            have hne : ¬ (C - d = l + 1) := by omega
            refine ⟨.slice (some ⟨g, p.2 + (l + 1) * s, none⟩) (hh - (l + 1)) (C - d - (l + 1)), ?_, by simp [con, hp, Cap.off, Cap.at_, Nat.sub_sub]⟩
            simp [Instr.sliceAt, Instr.slice, run_underlying hd, Cap.at_, Cap.off, hbd, run_sizeOf hs, hne, Addr.add_lit]
          · rename_i hlt
            have hle := blt_false hlt
            have hz : hh - (l + 1) = 0 := by omega
            by_cases hC : C - d = l + 1
            · rw [hC] at hbd
              refine ⟨.slice (some ⟨g, p.2, none⟩) 0 0, ?_, ?_⟩
              · simp [Instr.sliceAt, Instr.slice, run_underlying hd, Cap.at_, Cap.off, hbd, run_sizeOf hs, hC, hz]
              · have : C ≤ d + (l + 1) := by omega
                have h0 : C - (d + (l + 1)) = 0 := by omega
                simp [con, hp, Cap.off, Cap.at_, this, h0]
            · refine ⟨.slice (some ⟨g, p.2 + (l + 1) * s, none⟩) 0 (C - d - (l + 1)), ?_, ?_⟩
              · simp [Instr.sliceAt, Instr.slice, run_underlying hd, Cap.at_, Cap.off, hbd, run_sizeOf hs, hC, hz, Addr.add_lit]
              · have : ¬ (C ≤ d + (l + 1)) := by omega
                simp [con, hp, Cap.off, Cap.at_, this, Nat.sub_sub]
      · simp at e
    · simp at e
  · rename_i s hd
    simp [con] at hu
    subst hu
    split at e
    · rename_i l hh e1 e2
      split at e <;> simp at e
      rename_i hc
      simp only [Bool.and_eq_true] at hc
      subst e
      rw [← size_data] at e2
      have hh2 : hh ≤ s.size := by rw [size_data]; simpa using hc.2
      have hb := run_bounds (P := P) (w := w) (b := false) (n := s.size) (c := s.size) (m := s.size) h1 h2 h3 e1 e2 rfl (.inl rfl) (by simpa using hc.1) (.inr hh2) (Nat.le_refl _)
      have h3' := bnd_none h3
      subst h3'
      refine ⟨.string (s.extract l hh), by simp [Instr.sliceAt, Instr.slice, run_underlying hd, hb], ?_⟩
      have : s.extract l hh = ⟨⟨(s.data.toList.drop l).take (hh - l)⟩⟩ := by
        apply ByteArray.ext
        apply Array.ext'
        simp [List.take_drop]
      simp [con, this]
    · simp at e
  · simp at e

/-! ### Lengths -/
def lenA (P : Program) (t : TypeId) (x : AV) : Option AV := match P.underlying t, x with
  | some .string, .string s => some (.int .i64 (Int.ofNat s.data.toList.length))
  | some (.array n _), _ => some (.int .i64 (Int.ofNat n))
  | some (.slice _), .slice _ n _ => some (.int .i64 (Int.ofNat n))
  | some (.slice _), .opq (.slice _ n _) => some (.int .i64 (Int.ofNat n))
  | some (.pointer arr), _ => match P.underlying arr with
    | some (.array n _) => some (.int .i64 (Int.ofNat n))
    | _ => none
  | _, _ => none
theorem con_slice_form {a : Option (Nat × Nat)} {n : Nat} {c : Cap} {u : Value} (e : con ρ (.slice a n c) = some u) : ∃ a' c', u = .slice a' n c' := by
  cases a with
  | none =>
    cases c <;> simp [con] at e
    exact ⟨_, _, e.symm⟩
  | some p =>
    obtain ⟨g, C, _, rfl⟩ := con_sl e
    exact ⟨_, _, rfl⟩
theorem len_sound {t : TypeId} {x v : AV} {u : Value} (hu : con ρ x = some u) (ts : Array TypeId) (ht : ts[0]? = some t) (ty : TypeId) (e : lenA P t x = some v) :
    ∃ y, (Builtin.len_ ts ty #[u]).run P w = .ok y w ∧ con ρ v = some y := by
  unfold lenA at e
  split at e
  · rename_i s hd
    simp [con] at hu e
    subst hu e
    exact ⟨.int .i64 s.size, by simp [Builtin.len_, ht, run_underlying hd, goInt], by simp [con]⟩
  · rename_i n el hd
    simp at e
    subst e
    exact ⟨.int .i64 n, by simp [Builtin.len_, ht, run_underlying hd, goInt], rfl⟩
  · rename_i el a n c hd
    simp at e
    subst e
    obtain ⟨a', c', rfl⟩ := con_slice_form hu
    exact ⟨.int .i64 n, by simp [Builtin.len_, ht, run_underlying hd, goInt], rfl⟩
  · rename_i el a n c hd
    simp at e
    subst e
    obtain ⟨rfl, -⟩ := con_opq hu
    exact ⟨.int .i64 n, by simp [Builtin.len_, ht, run_underlying hd, goInt], rfl⟩
  · rename_i arr hd
    split at e <;> simp at e
    rename_i n el hd2
    subst e
    exact ⟨.int .i64 n, by simp [Builtin.len_, ht, run_underlying hd, run_underlying hd2, goInt], rfl⟩
  · simp at e
def capA (P : Program) (t : TypeId) (x : AV) : Option AV := match P.underlying t, x with
  | some (.slice _), .slice (some _) _ (.is c) => some (.int .i64 (Int.ofNat c))
  | some (.slice _), .slice none _ (.is c) => some (.int .i64 (Int.ofNat c))
  | some (.array n _), _ => some (.int .i64 (Int.ofNat n))
  | _, _ => none
theorem cap_sound {t : TypeId} {x v : AV} {u : Value} (hu : con ρ x = some u) (ts : Array TypeId) (ht : ts[0]? = some t) (ty : TypeId) (e : capA P t x = some v) :
    ∃ y, (Builtin.cap_ ts ty #[u]).run P w = .ok y w ∧ con ρ v = some y := by
  unfold capA at e
  split at e
  · rename_i el p n c hd
    simp at e
    subst e
    obtain ⟨g, C, _, rfl⟩ := con_sl hu
    exact ⟨.int .i64 c, by simp [Builtin.cap_, ht, run_underlying hd, goInt, Cap.at_], rfl⟩
  · rename_i el n c hd
    simp [con] at e hu
    subst e hu
    exact ⟨.int .i64 c, by simp [Builtin.cap_, ht, run_underlying hd, goInt], rfl⟩
  · rename_i n el hd
    simp at e
    subst e
    exact ⟨.int .i64 n, by simp [Builtin.cap_, ht, run_underlying hd, goInt], rfl⟩
  · simp at e

/-! ### What a list is appended, or copied, from -/
/-- The first so many elements of it. -/
def srcA (h : H) (s : Nat) (m : Nat) : AV → Option (List AV)
  | .slice (some p) _ (.is _) => match m with
    | 0 => some []
    | m + 1 => match h.get p.1 with
      | some x => x.cells.range p.2 ((m + 1) * s)
      | none => none
  | .slice (some p) _ (.upTo _) => match m with
    | 0 => some []
    | m + 1 => match h.get p.1 with
      | some x => x.cells.range p.2 ((m + 1) * s)
      | none => none
  | .slice (some _) _ (.gone _ _) => match m with
    | 0 => some []
    | _ => none
  | .slice none _ _ => some []
  | .string b => match Nat.ble m b.data.toList.length with
    | true => some ((b.data.toList.take m).map fun c => .int .u8 (Int.ofNat c.toNat))
    | false => none
  | _ => none
def countA : AV → Option Nat
  | .slice _ n _ => some n
  | .string b => some b.data.toList.length
  | _ => none
theorem count_sound {x : AV} {u : Value} {n : Nat} (hu : con ρ x = some u) (e : countA x = some n) : (Builtin.lenOf u).run P w = .ok n w := by
  unfold countA at e
  split at e <;> simp at e <;> subst e
  · obtain ⟨a', c', rfl⟩ := con_slice_form hu
    rfl
  · simp [con] at hu
    subst hu
    simp [Builtin.lenOf]
    try rfl
theorem range_src (r : Rel ρ h w) {p : Nat × Nat} {x : Blk} {l : List AV} {n g C s m : Nat} (hp : ρ p.1 = some (g, C)) (hb : h.get p.1 = some x) (e : x.cells.range p.2 (m * s) = some l) (k c : Nat) :
    ∃ vs, (Builtin.firstCells s m (.slice (some ⟨g, p.2, none⟩) k c)).run P w = .ok vs.toArray w ∧ conL ρ l = some vs := by
  obtain ⟨g', C', vs, h1, h2, h3⟩ := r.cells hb e
  rw [hp] at h1
  simp at h1
  obtain ⟨rfl, rfl⟩ := h1
  refine ⟨vs, ?_, h2⟩
  exact run_firstCells_some (P := P) w s m ⟨g, p.2, none⟩ k c vs (by rw [conL_length h2, (Cel.range_get e).1]) (fun j u hj => by rw [Addr.add_lit]; exact h3 j u hj)
theorem src_sound (r : Rel ρ h w) {s m : Nat} {x : AV} {u : Value} {l : List AV} (hu : con ρ x = some u) (e : srcA h s m x = some l) :
    ∃ vs, (Builtin.firstCells s m u).run P w = .ok vs.toArray w ∧ conL ρ l = some vs := by
  unfold srcA at e
  split at e
  · rename_i p n c
    obtain ⟨g, C, hp, rfl⟩ := con_sl hu
    split at e
    · simp at e; subst e
      exact ⟨[], by simp [Builtin.firstCells, loadCells, loadCellsFrom], rfl⟩
    · split at e
      · rename_i b hb
        exact range_src (n := 0) r hp hb e _ _
      · simp at e
  · rename_i p n c
    obtain ⟨g, C, hp, rfl⟩ := con_sl hu
    split at e
    · simp at e; subst e
      exact ⟨[], by simp [Builtin.firstCells, loadCells, loadCellsFrom], rfl⟩
    · split at e
      · rename_i b hb
        exact range_src (n := 0) r hp hb e _ _
      · simp at e
  · rename_i p n c d
    obtain ⟨g, C, hp, rfl⟩ := con_sl hu
    split at e <;> simp at e
    subst e
    exact ⟨[], by simp [Builtin.firstCells, loadCells, loadCellsFrom], rfl⟩
  · rename_i n c
    simp at e
    subst e
    cases c <;> simp [con] at hu
    subst hu
    exact ⟨[], by simp [Builtin.firstCells], rfl⟩
  · rename_i b
    simp [con] at hu
    subst hu
    split at e <;> simp only [Option.some.injEq, reduceCtorEq] at e
    rename_i hm
    subst e
    refine ⟨(b.data.toList.take m).map fun c => .int .u8 (c.toNat : Int), ?_, ?_⟩
    · have h5 : (b.extract 0 m).data.toList = b.data.toList.take m := by simp
      have h6 : ((b.extract 0 m).data.map fun c => (Value.int .u8 (c.toNat : Int))) = ((b.data.toList.take m).map fun c => Value.int .u8 (c.toNat : Int)).toArray := by
        apply Array.ext'
        rw [Array.toList_map, h5]
      simp only [Builtin.firstCells, Sem.run_pure, h6]
    · generalize b.data.toList.take m = q
      induction q with
      | nil => rfl
      | cons a q ih => exact conL_mk rfl ih
  · simp at e
end
end Go.Proofs.Ytpdfalgjmeagjaa

/-
  The small machine's copy, append and conversions.
-/
namespace Go.Proofs.Ytpdfalgjmeagjaa
open Go.RowKit
set_option linter.unusedVariables false

section
variable {P : Program} {ρ : Pos} {h : H} {w : World}

/-- Cells written into a block, if they have place. -/
def putA (h : H) (p : Nat × Nat) (l : List AV) : Option H := match h.get p.1 with
  | some x => match x.rw && Nat.ble (p.2 + l.length) x.cells.size && l.all AV.one with
    | true => some (h.set p.1 { x with cells := x.cells.sets p.2 l })
    | false => none
  | none => none
theorem putA_next {p : Nat × Nat} {l : List AV} {h' : H} (e : putA h p l = some h') : h'.next = h.next := by
  unfold putA at e
  split at e
  · split at e <;> simp at e
    subst e
    rfl
  · simp at e
theorem put_sound (r : Rel ρ h w) {p : Nat × Nat} {l : List AV} {vs : List Value} {h' : H} {g C : Nat} (hp : ρ p.1 = some (g, C)) (hv : conL ρ l = some vs) (e : putA h p l = some h') :
    ∃ w', (storeCells ⟨g, p.2, none⟩ vs 0).run P w = .ok () w' ∧ Rel ρ h' w' ∧ Ext ρ h w ρ h' w' := by
  unfold putA at e
  split at e
  · rename_i x hb
    split at e <;> simp at e
    rename_i hc
    simp only [Bool.and_eq_true] at hc
    subst e
    exact storeCells_sound (P := P) p.2 l vs 0 h w x r hb hc.1.1 hp hv (List.all_eq_true.1 hc.2) (by simpa using hc.1.2)
  · simp at e

/-! ### copy -/
def copyA (P : Program) (h : H) (dT : TypeId) (d x : AV) : Option (AV × H) := match P.underlying dT, d, countA x with
  | some (.slice e), .slice (some p) n (.is _), some m => match sizeA P e with
    | some s => match srcA h s (Nat.min m n) x with
      | some l => match putA h p l with
        | some h' => some (.int .i64 (Int.ofNat (Nat.min m n)), h')
        | none => none
      | none => none
    | none => none
  | some (.slice e), .slice (some p) n (.upTo _), some m => match sizeA P e with
    | some s => match srcA h s (Nat.min m n) x with
      | some l => match putA h p l with
        | some h' => some (.int .i64 (Int.ofNat (Nat.min m n)), h')
        | none => none
      | none => none
    | none => none
  | some (.slice e), .slice none n _, some m => match sizeA P e, Nat.beq (Nat.min m n) 0 with
    | some s, true => match srcA h s 0 x with
      | some _ => some (.int .i64 0, h)
      | none => none
    | _, _ => none
  | _, _, _ => none
theorem copy_sound (r : Rel ρ h w) {dT : TypeId} {d x v : AV} {u y : Value} {h' : H} (hu : con ρ d = some u) (hy : con ρ x = some y) (ts : Array TypeId) (ht : ts[0]? = some dT) (ty : TypeId) (e : copyA P h dT d x = some (v, h')) :
    Yields P (Builtin.copy_ ts ty #[u, y]) ρ h w v h' := by
  have key : ∀ (el : TypeId) (p : Nat × Nat) (n m s : Nat) (c : Cap), P.underlying dT = some (.slice el) → (∀ C, c.off C p.2 = p.2) → con ρ (.slice (some p) n c) = some u → countA x = some m → sizeA P el = some s → ∀ l h'', srcA h s (Nat.min m n) x = some l → putA h p l = some h'' → v = .int .i64 (Int.ofNat (Nat.min m n)) → h' = h'' → Yields P (Builtin.copy_ ts ty #[u, y]) ρ h w v h' := by
    intro el p n m s c hd hc hu hm hs l h'' hl hp hv hh
    subst hv hh
    obtain ⟨g, C, hp', rfl⟩ := con_sl hu
    rw [hc]
    obtain ⟨vs, h1, h2⟩ := src_sound (P := P) r hy hl
    obtain ⟨w', h3, h4, h5⟩ := put_sound (P := P) r hp' h2 hp
    refine ⟨ρ, .int .i64 (Nat.min m n : Nat), w', ?_, rfl, h4, h5, .inl ⟨rfl, putA_next hp⟩⟩
    simp only [Builtin.copy_, ht, List.getElem?_toArray, List.getElem?_cons_zero, List.getElem?_cons_succ, Sem.run_bind, run_underlying hd, Result.andThen_ok, count_sound hy hm, run_sizeOf hs, h1, h3, Sem.run_pure, goInt]
  unfold copyA at e
  split at e
  · rename_i el p n c m hd hm
    split at e
    · rename_i s hs
      split at e
      · rename_i l hl
        split at e <;> simp at e
        rename_i h'' hp
        exact key el p n m s _ hd (fun _ => rfl) hu hm hs l h'' hl hp e.1.symm e.2.symm
      · simp at e
    · simp at e
  · rename_i el p n c m hd hm
    split at e
    · rename_i s hs
      split at e
      · rename_i l hl
        split at e <;> simp at e
        rename_i h'' hp
        exact key el p n m s _ hd (fun _ => rfl) hu hm hs l h'' hl hp e.1.symm e.2.symm
      · simp at e
    · simp at e
  · rename_i el n c m hd hm
    split at e
    · rename_i s hs hz
      split at e <;> simp at e
      rename_i l hl
      obtain ⟨rfl, rfl⟩ := e
      obtain ⟨vs, h1, h2⟩ := src_sound (P := P) r hy hl
      have hz' : Nat.min m n = 0 := by simpa using hz
      cases c <;> simp [con] at hu
      subst hu
      refine Yields.same r (u := .int .i64 0) ?_ rfl
      simp only [Builtin.copy_, ht, List.getElem?_toArray, List.getElem?_cons_zero, List.getElem?_cons_succ, Sem.run_bind, run_underlying hd, Result.andThen_ok, count_sound hy hm, run_sizeOf hs, hz', h1, Sem.run_pure, goInt]
      rfl
    · simp at e
  · simp at e

/-! ### append -/
/-- What is known of the element's type. -/
structure Elem where
  size : Nat
  bytes : Nat
def elemA (P : Program) (sT xT : TypeId) : Option (TypeId × Elem) := match P.underlying sT with
  | some (.slice e) => match P.info? e, zeroA P e, P.underlying xT with
    | some i, some z, some (.slice _) => match Nat.beq z.cells.length i.size with
      | true => some (e, ⟨i.size, i.bytes⟩)
      | false => none
    | some i, some z, some .string => match Nat.beq z.cells.length i.size with
      | true => some (e, ⟨i.size, i.bytes⟩)
      | false => none
    | _, _, _ => none
  | _ => none
/-- A block of its own, with room that is not known. -/
def grownA (h : H) (e : TypeId) (s : Nat) (l : List AV) (n : Nat) : AV × H := (.slice (some (h.next, 0)) n (.upTo 0), h.push ⟨e, .list l, false, s, true⟩)
/-- To a list that is nil; whose room is known; whose room is not. -/
def appendNil (h : H) (e : TypeId) (el : Elem) (m : Nat) (l : List AV) : Option (AV × H) := match m with
  | 0 => some (.slice none 0 (.is 0), h)
  | m + 1 => match Nat.ble ((m + 1) * el.bytes) 140737488355328 && Nat.ble (m + 1) 9223372036854775807 with
    | true => some (grownA h e el.size l (m + 1))
    | false => none
def appendIs (h : H) (e : TypeId) (el : Elem) (m : Nat) (l : List AV) (p : Nat × Nat) (n c : Nat) : Option (AV × H) := match m with
  | 0 => match Nat.ble n c with
    | true => some (.slice (some p) n (.is c), h)
    | false => none
  | m + 1 => match Nat.ble (n + (m + 1)) c with
    | true => match putA h (p.1, p.2 + n * el.size) l with
      | some h' => some (.slice (some p) (n + (m + 1)) (.is c), h')
      | none => none
    | false => match Nat.ble ((n + (m + 1)) * el.bytes) 140737488355328 && Nat.ble (n + (m + 1)) 9223372036854775807, srcA h el.size n (.slice (some p) n (.is c)) with
      | true, some old => match Nat.beq old.length (n * el.size) with
        | true => some (grownA h e el.size (old ++ l) (n + (m + 1)))
        | false => none
      | _, _ => none
def appendTo (h : H) (e : TypeId) (el : Elem) (m : Nat) (l : List AV) (p : Nat × Nat) (n dd : Nat) : Option (AV × H) := match h.get p.1 with
  | some b => match !b.whole && b.rw && Nat.beq b.elem e && Nat.beq b.esz el.size && Nat.blt 0 el.size && Nat.beq p.2 (dd * el.size) with
    | true => match Nat.ble (p.2 + (n + m) * el.size) b.cells.size with
      | true => match m with
        | 0 => some (.slice (some p) n (.upTo dd), h)
        | m + 1 => match putA h (p.1, p.2 + n * el.size) l with
          | some h' => some (.slice (some p) (n + (m + 1)) (.upTo dd), h')
          | none => none
      | false => match dd, Nat.ble ((n + m) * el.bytes) 140737488355328 && Nat.ble (n + m) 9223372036854775807 && l.all AV.one, b.cells.range 0 (n * el.size) with
        | 0, true, some old => some (grownA (h.del p.1) e el.size (old ++ l) (n + m))
        | _, _, _ => none
    | false => none
  | none => none
def appendA (P : Program) (h : H) (sT xT : TypeId) (d x : AV) : Option (AV × H) := match elemA P sT xT, countA x with
  | some (e, el), some m => match srcA h el.size m x with
    | some l => match Nat.beq l.length (m * el.size) with
      | true => match d with
        | .slice none 0 (.is 0) => appendNil h e el m l
        | .slice (some p) n (.is c) => appendIs h e el m l p n c
        | .slice (some p) n (.upTo dd) => appendTo h e el m l p n dd
        | _ => none
      | false => none
    | none => none
  | _, _ => none

/-- The source's type is none of whole numbers. -/
def listy : TypeDesc → Bool
  | .slice _ | .string => true
  | _ => false
theorem run_append_more {sT xT ty el : TypeId} {d2 : TypeDesc} {i : TypeInfo} {z : Value} {ts : Array TypeId} (t0 : ts[0]? = some sT) (t1 : ts[1]? = some xT) (hd : P.underlying sT = some (.slice el)) (hx : P.underlying xT = some d2) (hl : listy d2 = true)
    (hi : P.info? el = some i) (hz : i.zero = some z) {base : Option Addr} {n cap m : Nat} {y : Value} {olds news : Array Value} (hc : (Builtin.lenOf y).run P w = .ok m w)
    (ho : (Builtin.firstCells i.size n (.slice base n cap)).run P w.drew = .ok olds w.drew) (hn : (Builtin.firstCells i.size m y).run P w.drew = .ok news w.drew)
    (hgt : cap < n + m) (h63 : n + m ≤ 9223372036854775807) (hb : (n + m) * i.bytes ≤ 140737488355328) :
    (Builtin.append_ ts ty #[.slice base n cap, y]).run P w = .ok (.slice (some ⟨w.heap.size, 0, none⟩) (n + m) (grownCap w (n + m) cap el))
      (w.drew.alloc (.cells (olds ++ news ++ Builtin.zeroCells z.cells (grownCap w (n + m) cap el - (n + m))) el)) := by
  have hroom : ¬ (n + m ≤ cap) := by omega
  have h63' : ¬ (9223372036854775807 < ((n : Int) + (m : Int))) := by omega
  have hfit := growslice_fits hgt hb
  have h48' : ¬ (281474976710656 < Builtin.nextslicecap (n + m) cap * i.bytes) := by omega
  cases d2 <;> simp [listy] at hl <;>
    simp [Builtin.append_, t0, t1, run_underlying hd, run_underlying hx, sizeOf, typeInfo, zeroValue, hi, hz, hc, hroom, h63', h48', Question.forced, ho, hn, newRow, grownCap]
theorem run_append_in {sT xT ty el : TypeId} {d2 : TypeDesc} {i : TypeInfo} {ts : Array TypeId} (t0 : ts[0]? = some sT) (t1 : ts[1]? = some xT) (hd : P.underlying sT = some (.slice el)) (hx : P.underlying xT = some d2) (hl : listy d2 = true)
    (hi : P.info? el = some i) {a : Addr} {n cap m : Nat} {y : Value} {news : List Value} (hc : (Builtin.lenOf y).run P w = .ok m w) (hn : (Builtin.firstCells i.size m y).run P w = .ok news.toArray w) {w' : World}
    (hs : (storeCells (a.add (n * i.size)) news 0).run P w = .ok () w') (hle : n + m ≤ cap) :
    (Builtin.append_ ts ty #[.slice (some a) n cap, y]).run P w = .ok (.slice (some a) (n + m) cap) w' := by
  cases d2 <;> simp [listy] at hl <;>
    simp [Builtin.append_, t0, t1, run_underlying hd, run_underlying hx, sizeOf, typeInfo, hi, hc, hle, hn, hs]
theorem run_append_none {sT xT ty el : TypeId} {d2 : TypeDesc} {i : TypeInfo} {ts : Array TypeId} (t0 : ts[0]? = some sT) (t1 : ts[1]? = some xT) (hd : P.underlying sT = some (.slice el)) (hx : P.underlying xT = some d2) (hl : listy d2 = true)
    (hi : P.info? el = some i) {y : Value} (hc : (Builtin.lenOf y).run P w = .ok 0 w) {news : Array Value} (hn : (Builtin.firstCells i.size 0 y).run P w = .ok news w) :
    (Builtin.append_ ts ty #[.slice none 0 0, y]).run P w = .ok (.slice none 0 0) w := by
  cases d2 <;> simp [listy] at hl <;>
    simp [Builtin.append_, t0, t1, run_underlying hd, run_underlying hx, sizeOf, typeInfo, hi, hc, hn]

/-- Cells stored into a row, wherever in it. -/
theorem run_storeCells_free (g : Nat) (e : TypeId) (fz : Nat × Nat) (o : Nat) : ∀ (vs : List Value) (i : Nat) (w : World) (cur : Array Value), w.heap[g]? = some (.cells cur e fz) → (fz.1 = fz.2 ∨ cur.size ≤ fz.1) → o + i + vs.length ≤ cur.size → (∀ v ∈ vs, v.oneCell' = true) →
    ∃ w' cur', (storeCells ⟨g, o, none⟩ vs i).run P w = .ok () w' ∧ w'.heap[g]? = some (.cells cur' e fz) ∧ cur'.size = cur.size ∧ (∀ j u, vs[j]? = some u → cur'[o + i + j]? = some u) ∧ (∀ j, j < o + i → cur'[j]? = cur[j]?) ∧
      (∀ k, k ≠ g → w'.heap[k]? = w.heap[k]?) ∧ w'.os = w.os ∧ w'.tape = w.tape ∧ w'.output = w.output ∧ w.heap.size ≤ w'.heap.size
  | [], i, w, cur, hg, hf, hl, h1 => ⟨w, cur, rfl, hg, rfl, fun j u hj => by simp at hj, fun _ _ => rfl, fun _ _ => rfl, rfl, rfl, rfl, Nat.le_refl _⟩
  | v :: vs, i, w, cur, hg, hf, hl, h1 => by
    simp only [List.length_cons] at hl
    have hlt : o + i < cur.size := by omega
    have hcell : w.cell? ⟨g, o + i, none⟩ = some cur[o + i] := by rw [cell_of_row w g (o + i) cur e fz hg]; simp [hlt]
    have hrun : (store ⟨g, o + i, none⟩ v).run P w = .ok () (w.setCell ⟨g, o + i, none⟩ v) := by
      rw [run_store P w _ v .plain (h1 v (by simp)), hcell]
      simp [notFrozen hg hf hlt]
    have hg' : (w.setCell ⟨g, o + i, none⟩ v).heap[g]? = some (.cells (cur.setIfInBounds (o + i) v) e fz) := by
      simp only [World.setCell, Array.getElem?_modify, if_true, hg, Option.map_some]
      rfl
    obtain ⟨w', cur', e1, e2, e3, e4, e5, e6, e7, e8, e9, e10⟩ := run_storeCells_free g e fz o vs (i + 1) (w.setCell ⟨g, o + i, none⟩ v) (cur.setIfInBounds (o + i) v) hg' (by simpa using hf) (by simp; omega) (fun u hu => h1 u (by simp [hu]))
    refine ⟨w', cur', ?_, e2, by simpa using e3, fun j u hj => ?_, fun j hj => ?_, fun k hk => ?_, e7, e8, e9, ?_⟩
    · simp only [storeCells]
      rw [Sem.run_bind, Addr.add_lit, hrun]
      exact e1
    · rcases j with _ | j
      · simp at hj
        subst hj
        have := e5 (o + i) (by omega)
        simp only [Nat.add_zero]
        rw [this]
        simp [hlt]
      · have := e4 j u (by simpa using hj)
        rwa [show o + (i + 1) + j = o + i + (j + 1) from by omega] at this
    · rw [e5 j (by omega), Array.getElem?_setIfInBounds_ne (by omega)]
    · rw [e6 k hk, heap_setCell_other w _ k v hk]
    · simpa [World.setCell] using e10

theorem BlkIs.grown {e : TypeId} {s C : Nat} {l : List AV} {vs : List Value} {cur : Array Value} {fz : Nat × Nat} (hv : conL ρ l = some vs) (hf : fz.1 = fz.2 ∨ cur.size ≤ fz.1) (hs : cur.size = C * s) (hC : C ≤ maxLen) (hle : l.length ≤ cur.size) (hc : ∀ (j : Nat) (u : Value), vs[j]? = some u → cur[j]? = some u) :
    BlkIs ρ C ⟨e, .list l, false, s, true⟩ cur fz :=
  ⟨fun _ => hf, hle, fun k => by simp at k, fun _ => ⟨hs, hC⟩, fun j v hj => by
    obtain ⟨u, h1, h2⟩ := conL_get hv j v hj
    exact ⟨u, h1, hc j u h2⟩, fun k _ => by cases k⟩
/-- A block that has grown where it was. -/
theorem Rel.regrow (r : Rel ρ h w) (hn0 : ρ h.next = none) {b g C : Nat} {x x' : Blk} (hb : h.get b = some x) (hr : x.rw = true) (hp : ρ b = some (g, C)) {w' : World} (cur' : Array Value) (fz' : Nat × Nat)
    (hg : w'.heap[g]? = some (.cells cur' x'.elem fz')) (hk : ∀ k, k ≠ g → w'.heap[k]? = w.heap[k]?) (hr' : x'.rw = true) (hx : BlkIs ρ C x' cur' fz') : Rel (ρ.put h.next (g, C)) ((h.del b).push x') w' := by
  have l : ρ.le (ρ.put h.next (g, C)) := Pos.le_put _ hn0
  have hget : ∀ {c y}, ((h.del b).push x').get c = some y → (c = h.next ∧ y = x') ∨ (c ≠ h.next ∧ c ≠ b ∧ h.get c = some y) := fun {c y} e => by
    rcases H.get_push e with ⟨h1, h2⟩ | ⟨h1, h2⟩
    · exact .inl ⟨h1, h2⟩
    · exact .inr ⟨h1, H.get_del h2⟩
  have hne : ∀ {c y q D}, c ≠ b → h.get c = some y → ρ c = some (q, D) → q ≠ g := fun {c y q D} hc hy hq e => by
    subst e
    have := (r.inj b c x y q C D hb hy hp hq (Ne.symm hc)).1
    rw [hr] at this
    cases this
  refine ⟨fun c y hc => ?_, fun c d y z q D E hc hd hpc hpd hn => ?_⟩
  · rcases hget hc with ⟨rfl, rfl⟩ | ⟨h1, h2, h3⟩
    · exact ⟨g, C, cur', fz', Pos.put_self _ _ _, hg, hx.mono l⟩
    · obtain ⟨q, D, cu, fz, k1, k2, k3⟩ := r.at_ c y h3
      exact ⟨q, D, cu, fz, by rw [Pos.put_ne _ _ h1]; exact k1, by rw [hk q (hne h2 h3 k1)]; exact k2, k3.mono l⟩
  · rcases hget hc with ⟨rfl, rfl⟩ | ⟨h1, h2, h3⟩
    · rw [Pos.put_self] at hpc
      rcases hget hd with ⟨rfl, rfl⟩ | ⟨k1, k2, k3⟩
      · exact absurd rfl hn
      · rw [Pos.put_ne _ _ k1] at hpd
        simp at hpc
        exact absurd hpc.1.symm (hne k2 k3 hpd)
    · rw [Pos.put_ne _ _ h1] at hpc
      rcases hget hd with ⟨rfl, rfl⟩ | ⟨k1, k2, k3⟩
      · rw [Pos.put_self] at hpd
        simp at hpd
        exact absurd hpd.1.symm (hne h2 h3 hpc)
      · rw [Pos.put_ne _ _ k1] at hpd
        exact r.inj c d y z q D E h3 k3 hpc hpd hn
theorem Ext.regrow (r : Rel ρ h w) (hn0 : ρ h.next = none) {b g C : Nat} {x x' : Blk} (hb : h.get b = some x) (hr : x.rw = true) (hr' : x'.rw = true) (hp : ρ b = some (g, C)) {w' : World}
    (h1 : w'.os = w.os) (h2 : w'.tape = w.tape) (h3 : w'.output = w.output) (hs : w.heap.size ≤ w'.heap.size) (hk : ∀ k, k ≠ g → w'.heap[k]? = w.heap[k]?) : Ext ρ h w (ρ.put h.next (g, C)) ((h.del b).push x') w' := by
  refine ⟨Pos.le_put _ hn0, Nat.le_succ _, h1, h2, h3, hs, fun k _ hn => hk k (fun e => hn b x C hb hr (by rw [e]; exact hp)), fun c y k D hc hrc hpc hkl => ?_, fun c hc => Pos.put_ne _ _ (Nat.ne_of_lt hc), fun c y hc hrc => ?_⟩
  · rcases H.get_push hc with ⟨rfl, rfl⟩ | ⟨hn, hc'⟩
    · have hpc' : (ρ.put h.next (g, C)) h.next = some (k, D) := hpc
      rw [Pos.put_self] at hpc'
      simp at hpc'
      exact ⟨b, x, C, hb, hr, by rw [← hpc'.1]; exact hp⟩
    · have hpc' : (ρ.put h.next (g, C)) c = some (k, D) := hpc
      have hn' : c ≠ h.next := hn
      rw [Pos.put_ne _ _ hn'] at hpc'
      exact ⟨c, y, D, (H.get_del hc').2, hrc, hpc'⟩
  · rcases H.get_push hc with ⟨rfl, rfl⟩ | ⟨hn, hc'⟩
    · rw [hr'] at hrc
      cases hrc
    · exact (H.get_del hc').2
theorem Ext.del (r : Rel ρ h w) (b : Nat) : Ext ρ h w ρ (h.del b) w :=
  ⟨Pos.le_refl _, Nat.le_refl _, rfl, rfl, rfl, Nat.le_refl _, fun _ _ _ => rfl, fun c y k D hc hr hp _ => ⟨c, y, D, (H.get_del hc).2, hr, hp⟩, fun _ _ => rfl, fun _ _ hc _ => (H.get_del hc).2⟩

theorem elem_out {sT xT el : TypeId} {E : Elem} (e : elemA P sT xT = some (el, E)) : ∃ d2 i z, P.underlying sT = some (.slice el) ∧ P.underlying xT = some d2 ∧ listy d2 = true ∧ P.info? el = some i ∧ i.zero = some z ∧ E = ⟨i.size, i.bytes⟩ ∧ z.cells.size = i.size := by
  unfold elemA at e
  split at e
  · rename_i el' hd
    have key : ∀ (i : TypeInfo) (z : AV) (d2 : TypeDesc), P.info? el' = some i → zeroA P el' = some z → P.underlying xT = some d2 → listy d2 = true → (match Nat.beq z.cells.length i.size with
        | true => some (el', (⟨i.size, i.bytes⟩ : Elem))
        | false => none) = some (el, E) → ∃ d2 i z, P.underlying sT = some (.slice el) ∧ P.underlying xT = some d2 ∧ listy d2 = true ∧ P.info? el = some i ∧ i.zero = some z ∧ E = ⟨i.size, i.bytes⟩ ∧ z.cells.size = i.size := by
      intro i z d2 hi hz hx hl e
      split at e <;> simp at e
      rename_i hb
      obtain ⟨rfl, rfl⟩ := e
      unfold zeroA at hz
      simp only [hi] at hz
      split at hz
      · rename_i u hu
        have hlen := conL_length (con_cells (avOf_con hz (fun _ => none)))
        refine ⟨d2, i, u, hd, hx, hl, hi, hu, rfl, ?_⟩
        have hb' : z.cells.length = i.size := by simpa using hb
        rw [← hb']
        simpa using hlen
      · simp at hz
    split at e
    · rename_i i z _ hi hz hx
      exact key i z _ hi hz hx rfl e
    · rename_i i z hi hz hx
      exact key i z _ hi hz hx rfl e
    · simp at e
  · simp at e
/-- The new block of an append that had no room. -/
theorem grow_sound (r : Rel ρ h w) (hn0 : ρ h.next = none) {sT xT ty el : TypeId} {d2 : TypeDesc} {i : TypeInfo} {z : Value} {ts : Array TypeId} (t0 : ts[0]? = some sT) (t1 : ts[1]? = some xT) (hd : P.underlying sT = some (.slice el)) (hx : P.underlying xT = some d2) (hl : listy d2 = true)
    (hi : P.info? el = some i) (hz : i.zero = some z) (hzs : z.cells.size = i.size) {base : Option Addr} {n cap m : Nat} {y : Value} {olds news : List Value} (hc : (Builtin.lenOf y).run P w = .ok m w)
    (ho : (Builtin.firstCells i.size n (.slice base n cap)).run P w.drew = .ok olds.toArray w.drew) (hn : (Builtin.firstCells i.size m y).run P w.drew = .ok news.toArray w.drew)
    (hgt : cap < n + m) (h63 : n + m ≤ 9223372036854775807) (hb : (n + m) * i.bytes ≤ 140737488355328) {lo ln : List AV} (hlo : conL ρ lo = some olds) (hln : conL ρ ln = some news) (hol : olds.length = n * i.size) (hnl : news.length = m * i.size) :
    Yields P (Builtin.append_ ts ty #[.slice base n cap, y]) ρ h w (grownA h el i.size (lo ++ ln) (n + m)).1 (grownA h el i.size (lo ++ ln) (n + m)).2 := by
  have hrun := run_append_more (P := P) (w := w) (ty := ty) t0 t1 hd hx hl hi hz hc ho hn hgt h63 hb
  have hge := grownCap_ge w (n + m) cap el
  have hcm : grownCap w (n + m) cap el ≤ maxLen := grownCap_le_maxLen w (n + m) cap el h63
  generalize grownCap w (n + m) cap el = C at hrun hge hcm
  have hsz : (olds.toArray ++ news.toArray ++ Builtin.zeroCells z.cells (C - (n + m))).size = C * i.size := by
    simp only [Array.size_append, List.size_toArray, size_zeroCells, hzs, hol, hnl, ← Nat.add_mul]
    congr 1
    omega
  have hB : BlkIs ρ C ⟨el, .list (lo ++ ln), false, i.size, true⟩ (olds.toArray ++ news.toArray ++ Builtin.zeroCells z.cells (C - (n + m))) (0, 0) := by
    have hcl := conL_append hlo hln
    refine BlkIs.grown hcl (.inl rfl) hsz hcm ?_ fun j u hj => ?_
    · rw [← conL_length hcl, hsz]
      simp only [List.length_append, hol, hnl, ← Nat.add_mul]
      exact Nat.mul_le_mul_right _ hge
    · rw [Array.getElem?_append_left (by
        have := (List.getElem?_eq_some_iff.1 hj).1
        simpa using this)]
      simpa using hj
  exact ⟨_, _, _, hrun, by simp [grownA, con, Pos.put_self, Cap.at_, Cap.off], r.push hn0 _ C w.drew rfl _ _ hB, Ext.push r hn0 _ rfl C w.drew rfl rfl rfl rfl _ _, .inr ⟨_, rfl, rfl⟩⟩

theorem ble_and {a b c d : Nat} (e : (Nat.ble a b && Nat.ble c d) = true) : a ≤ b ∧ c ≤ d := by
  simp only [Bool.and_eq_true] at e
  exact ⟨Nat.le_of_ble_eq_true e.1, Nat.le_of_ble_eq_true e.2⟩
theorem append_sound (r : Rel ρ h w) (hn0 : ρ h.next = none) {sT xT : TypeId} {d x v : AV} {u y : Value} {h' : H} (hu : con ρ d = some u) (hy : con ρ x = some y) (ts : Array TypeId) (t0 : ts[0]? = some sT) (t1 : ts[1]? = some xT) (ty : TypeId) (e : appendA P h sT xT d x = some (v, h')) :
    Yields P (Builtin.append_ ts ty #[u, y]) ρ h w v h' := by
  unfold appendA at e
  split at e
  · rename_i el E m he hm
    obtain ⟨d2, i, z, hd, hx, hl, hi, hz, rfl, hzs⟩ := elem_out he
    simp only at e
    split at e
    · rename_i l hsrc
      split at e
      · rename_i hlen
        have hlen2 : l.length = m * i.size := by simpa using hlen
        clear hlen
        have hcount := fun w => count_sound (P := P) (w := w) hy hm
        obtain ⟨vs, hv1, hv2⟩ := src_sound (P := P) r hy hsrc
        obtain ⟨vs', hv3, hv4⟩ := src_sound (P := P) (r.heap (w' := w.drew) rfl) hy hsrc
        have hvv : vs' = vs := by rw [hv2] at hv4; simpa using hv4.symm
        subst hvv
        have hvl : vs'.length = m * i.size := by rw [conL_length hv2, hlen2]
        split at e
        · simp [con] at hu
          subst hu
          unfold appendNil at e
          split at e
          · simp at e
            obtain ⟨rfl, rfl⟩ := e
            exact Yields.same r (run_append_none (P := P) (w := w) (ty := ty) t0 t1 hd hx hl hi (hcount w) hv1) rfl
          · rename_i m
            split at e <;> simp only [Option.some.injEq, reduceCtorEq] at e
            rename_i hb
            obtain ⟨b1, b2⟩ := ble_and hb
            have := grow_sound (P := P) (ty := ty) (base := none) (n := 0) (cap := 0) (olds := []) (lo := []) r hn0 t0 t1 hd hx hl hi hz hzs (hcount w) (by simp [Builtin.firstCells]) hv3 (by omega) (by omega) (by simpa using b1) rfl hv2 (by simp) hvl
            simp only [Nat.zero_add, List.nil_append] at this
            rw [e] at this
            exact this
        · rename_i p n c
          obtain ⟨g, C, hp, rfl⟩ := con_sl hu
          unfold appendIs at e
          split at e
          · split at e <;> simp only [Option.some.injEq, reduceCtorEq, Prod.mk.injEq] at e
            rename_i hle
            obtain ⟨rfl, rfl⟩ := e
            have hle : n ≤ c := Nat.le_of_ble_eq_true hle
            have h0 : vs' = [] := List.eq_nil_of_length_eq_zero (by rw [hvl]; simp)
            subst h0
            have := run_append_in (P := P) (w := w) (w' := w) (ty := ty) (a := ⟨g, p.2, none⟩) (n := n) (cap := c) t0 t1 hd hx hl hi (hcount w) hv1 rfl (by omega)
            exact Yields.same r (by simpa [Cap.off, Cap.at_] using this) (by simp [con, hp, Cap.off, Cap.at_])
          · rename_i m
            split at e
            · rename_i hle
              have hle : n + (m + 1) ≤ c := Nat.le_of_ble_eq_true hle
              split at e <;> simp only [Option.some.injEq, reduceCtorEq, Prod.mk.injEq] at e
              rename_i h'' hput
              obtain ⟨rfl, rfl⟩ := e
              obtain ⟨w', s1, s2, s3⟩ := put_sound (P := P) (p := (p.1, p.2 + n * i.size)) r hp hv2 hput
              have := run_append_in (P := P) (w := w) (w' := w') (ty := ty) (a := ⟨g, p.2, none⟩) (n := n) (cap := c) t0 t1 hd hx hl hi (hcount w) hv1 (by rw [Addr.add_lit]; exact s1) hle
              exact ⟨ρ, _, w', this, by simp [con, hp, Cap.off, Cap.at_], s2, s3, .inl ⟨rfl, putA_next hput⟩⟩
            · rename_i hle
              have hlt : c < n + (m + 1) := by
                rcases Nat.lt_or_ge c (n + (m + 1)) with k | k
                · exact k
                · rw [Nat.ble_eq_true_of_le k] at hle; cases hle
              split at e
              · rename_i old hb hold
                obtain ⟨b1, b2⟩ := ble_and hb
                split at e <;> simp only [Option.some.injEq, reduceCtorEq] at e
                rename_i hol
                obtain ⟨os, ho1, ho2⟩ := src_sound (P := P) (r.heap (w' := w.drew) rfl) hu hold
                have := grow_sound (P := P) (ty := ty) r hn0 t0 t1 hd hx hl hi hz hzs (hcount w) ho1 hv3 hlt b2 b1 ho2 hv2 (by rw [conL_length ho2]; simpa using hol) hvl
                rw [e] at this
                exact this
              · simp at e
        · rename_i p n dd
          obtain ⟨g, C, hp, rfl⟩ := con_sl hu
          unfold appendTo at e
          split at e
          · rename_i b hb
            split at e
            · rename_i hc
              simp only [Bool.and_eq_true] at hc
              obtain ⟨⟨⟨⟨⟨d1, c2⟩, d3⟩, d4⟩, d5⟩, d6⟩ := hc
              have c1 : b.whole = false := by simpa using d1
              have c3 : b.elem = el := by simpa using d3
              have c4 : b.esz = i.size := by simpa using d4
              have c5 : 0 < i.size := blt_true d5
              have c6 : p.2 = dd * i.size := by simpa using d6
              clear d1 d3 d4 d5 d6
              obtain ⟨g', C', cur, fz, hp', hg, hB⟩ := r.at_ _ b hb
              rw [hp] at hp'
              simp at hp'
              obtain ⟨rfl, rfl⟩ := hp'
              have hcur := hB.more c1
              rw [c4] at hcur
              split at e
              · rename_i hfit
                have hfit : p.2 + (n + m) * i.size ≤ b.cells.size := Nat.le_of_ble_eq_true hfit
                have hroom : n + m ≤ C - dd := by
                  have h4 := hB.fits
                  rw [hcur.1] at h4
                  have h5 : (dd + (n + m)) * i.size ≤ C * i.size := by rw [Nat.add_mul, ← c6]; omega
                  have h6 := Nat.le_of_mul_le_mul_right h5 c5
                  omega
                split at e
                · simp only [Option.some.injEq, Prod.mk.injEq] at e
                  obtain ⟨rfl, rfl⟩ := e
                  have h0 : vs' = [] := List.eq_nil_of_length_eq_zero (by rw [hvl]; simp)
                  subst h0
                  have := run_append_in (P := P) (w := w) (w' := w) (ty := ty) (a := ⟨g, p.2, none⟩) (n := n) (cap := C - dd) t0 t1 hd hx hl hi (hcount w) hv1 rfl hroom
                  exact Yields.same r (by simpa [Cap.off, Cap.at_] using this) (by simp [con, hp, Cap.off, Cap.at_])
                · rename_i m
                  split at e <;> simp only [Option.some.injEq, reduceCtorEq, Prod.mk.injEq] at e
                  rename_i h'' hput
                  obtain ⟨rfl, rfl⟩ := e
                  obtain ⟨w', s1, s2, s3⟩ := put_sound (P := P) (p := (p.1, p.2 + n * i.size)) r hp hv2 hput
                  have := run_append_in (P := P) (w := w) (w' := w') (ty := ty) (a := ⟨g, p.2, none⟩) (n := n) (cap := C - dd) t0 t1 hd hx hl hi (hcount w) hv1 (by rw [Addr.add_lit]; exact s1) hroom
                  exact ⟨ρ, _, w', this, by simp [con, hp, Cap.off, Cap.at_], s2, s3, .inl ⟨rfl, putA_next hput⟩⟩
              · split at e <;> simp only [Option.some.injEq, reduceCtorEq] at e
                rename_i old hb2 hold
                simp only [Bool.and_eq_true] at hb2
                obtain ⟨⟨b1, b2⟩, b3⟩ := hb2
                have b1 : (n + m) * i.bytes ≤ 140737488355328 := Nat.le_of_ble_eq_true b1
                have b2 : n + m ≤ 9223372036854775807 := Nat.le_of_ble_eq_true b2
                have hp2 : p.2 = 0 := by rw [c6]; simp
                have hone : ∀ u ∈ vs', u.oneCell' = true := fun u hu => by
                  obtain ⟨j, hj, rfl⟩ := List.mem_iff_getElem.1 hu
                  have hjl : j < l.length := by rw [← conL_length hv2]; exact hj
                  obtain ⟨u', q1, q2⟩ := conL_get hv2 j _ (List.getElem?_eq_getElem hjl)
                  rw [List.getElem?_eq_getElem hj] at q2
                  simp at q2
                  rw [q2]
                  exact con_one q1 (List.all_eq_true.1 b3 _ (List.getElem_mem _))
                have hold2 : b.cells.range (p.1, p.2).2 (n * i.size) = some old := by simpa [hp2] using hold
                obtain ⟨os, ho1, ho2⟩ := range_src (P := P) (n := 0) (p := (p.1, p.2)) (r.heap (w' := w.drew) rfl) hp hb hold2 n C
                have hol : os.length = n * i.size := by rw [conL_length ho2, (Cel.range_get hold).1]
                have hcl := conL_append ho2 hv2
                by_cases hroom : n + m ≤ C
                · obtain ⟨w', cur', e1, e2, e3, e4, e5, e6, e7, e8, e9, e10⟩ := run_storeCells_free (P := P) g b.elem fz (n * i.size) vs' 0 w cur hg (hB.free c2) (by
                    rw [hcur.1, hvl, Nat.add_zero, ← Nat.add_mul]
                    exact Nat.mul_le_mul_right _ hroom) hone
                  have hB' : BlkIs ρ C ⟨el, .list (old ++ l), false, i.size, true⟩ cur' fz := by
                    refine BlkIs.grown hcl (by rw [e3]; exact hB.free c2) (by rw [e3]; exact hcur.1) hcur.2 ?_ fun j u hj => ?_
                    · rw [← conL_length hcl, e3, hcur.1]
                      simp only [List.length_append, hol, hvl, ← Nat.add_mul]
                      exact Nat.mul_le_mul_right _ hroom
                    · rcases Nat.lt_or_ge j os.length with k | k
                      · rw [List.getElem?_append_left k] at hj
                        rw [e5 j (by rw [hol] at k; omega)]
                        have k' : j < old.length := by rw [← conL_length ho2]; exact k
                        obtain ⟨u', q1, q2⟩ := conL_get ho2 j _ (List.getElem?_eq_getElem k')
                        have q3 := (Cel.range_get hold).2 j _ (List.getElem?_eq_getElem k')
                        obtain ⟨u2, q4, q5⟩ := hB.cell _ _ q3
                        rw [q1] at q4
                        rw [hj] at q2
                        simp at q4 q2
                        rw [Nat.zero_add] at q5
                        rw [q5, ← q4, ← q2]
                      · rw [List.getElem?_append_right k] at hj
                        have := e4 _ u hj
                        rw [hol] at this
                        rwa [show n * i.size + 0 + (j - n * i.size) = j from by rw [hol] at k; omega] at this
                  have hrun := run_append_in (P := P) (w := w) (w' := w') (ty := ty) (a := ⟨g, 0, none⟩) (n := n) (cap := C) t0 t1 hd hx hl hi (hcount w) hv1 (by rw [Addr.add_lit, Nat.zero_add]; exact e1) hroom
                  have hR := r.regrow hn0 (x' := ⟨el, .list (old ++ l), false, i.size, true⟩) hb c2 hp cur' fz (by rw [← c3]; exact e2) e6 rfl hB'
                  have hX := Ext.regrow (x' := ⟨el, .list (old ++ l), false, i.size, true⟩) r hn0 hb c2 rfl hp e7 e8 e9 e10 e6
                  simp only [grownA, Prod.mk.injEq] at e
                  obtain ⟨rfl, rfl⟩ := e
                  refine ⟨_, .slice (some ⟨g, 0, none⟩) (n + m) C, w', ?_, ?_, hR, hX, .inr ⟨_, rfl, rfl⟩⟩
                  · simpa [Cap.off, Cap.at_, hp2] using hrun
                  · show con (ρ.put h.next (g, C)) (.slice (some (h.next, 0)) (n + m) (.upTo 0)) = _
                    simp [con, Pos.put_self, Cap.off, Cap.at_]
                · have hG := grow_sound (P := P) (ty := ty) (base := some ⟨g, 0, none⟩) (n := n) (cap := C) (r.del p.1) hn0 t0 t1 hd hx hl hi hz hzs (hcount w) (by simpa [hp2] using ho1) hv3 (by omega) b2 b1 ho2 hv2 hol hvl
                  obtain ⟨ρ', u', w', g1, g2, g3, g4, g5⟩ := hG
                  rw [e] at g2 g3 g4 g5
                  exact ⟨ρ', u', w', by simpa [Cap.off, Cap.at_, hp2] using g1, g2, g3, (Ext.del r p.1).trans g4, g5⟩
            · simp at e
          · simp at e
        · simp at e
      · simp at e
    · simp at e
  · simp at e
end
end Go.Proofs.Ytpdfalgjmeagjaa

/-
  The small machine's conversions, and what it holds against each other by == and !=.
-/
namespace Go.Proofs.Ytpdfalgjmeagjaa
open Go.RowKit
set_option linter.unusedVariables false

section
variable {P : Program} {ρ : Pos} {h : H} {w : World}

/-! ### Conversions -/
def bytesOfA : List AV → Option (List Int)
  | [] => some []
  | .int .u8 n :: l => match bytesOfA l with
    | some ns => some (n :: ns)
    | none => none
  | _ => none
theorem bytesOf_con : ∀ {l : List AV} {ns : List Int} {vs : List Value}, bytesOfA l = some ns → conL ρ l = some vs → vs = ns.map (Value.int .u8)
  | [], ns, vs, e, c => by simp [bytesOfA] at e; simp [conL] at c; subst e c; rfl
  | v :: l, ns, vs, e, c => by
    obtain ⟨u, us, h1, h2, rfl⟩ := conL_cons c
    unfold bytesOfA at e
    split at e
    · simp at *
    · rename_i n l' heq
      simp at heq
      obtain ⟨rfl, rfl⟩ := heq
      split at e <;> simp at e
      rename_i ns' hns
      subst e
      simp [con] at h1
      subst h1
      rw [bytesOf_con hns h2]
      rfl
    · simp at e
/-- The bytes of whole numbers. -/
def pushed : List Int → List UInt8
  | [] => []
  | n :: l => UInt8.ofNat n.toNat :: pushed l
theorem fold_pushed : ∀ (ns : List Int) (s : ByteArray), (ns.foldl (fun r n => r.push (UInt8.ofNat n.toNat)) s).data.toList = s.data.toList ++ pushed ns
  | [], s => by simp [pushed]
  | n :: ns, s => by
    rw [List.foldl_cons, fold_pushed ns]
    simp [pushed]
def convA (P : Program) (h : H) (src dst : TypeId) (x : AV) : Option (AV × H) := match P.underlying src, P.underlying dst, x with
  | some _, some (.int k), .int _ n => some (.int k (wrapA k n), h)
  | some _, some .string, .string s => some (.string s, h)
  | some _, some (.slice e), .string s => match P.underlying e, Nat.blt s.data.toList.length 9223372036854775807 with
    | some (.int .u8), true => some (.slice (some (h.next, 0)) s.data.toList.length (.upTo 0), h.push ⟨e, .list (s.data.toList.map fun c => .int .u8 (Int.ofNat c.toNat)), false, 1, true⟩)
    | _, _ => none
  | some (.slice _), some (.slice e), .slice (some p) n c => match Nat.beq src dst, P.underlying e, h.get p.1, c with
    | true, some (.int .u8), some b, .is _ => match b.rw, Nat.blt b.esz 2 with
      | true, true => some (.slice (some p) n c, h)
      | _, _ => none
    | _, _, _, _ => none
  | some (.slice e), some .string, .slice (some p) n (.is _) => match P.underlying e, n, h.get p.1 with
    | some (.int .u8), 0, _ => some (.string ⟨⟨[]⟩⟩, h)
    | some (.int .u8), n + 1, some b => match b.cells.range p.2 (n + 1) with
      | some l => match bytesOfA l with
        | some ns => some (.string ⟨⟨pushed ns⟩⟩, h)
        | none => none
      | none => none
    | _, _, _ => none
  | some (.slice e), some .string, .slice (some p) n (.upTo _) => match P.underlying e, n, h.get p.1 with
    | some (.int .u8), 0, _ => some (.string ⟨⟨[]⟩⟩, h)
    | some (.int .u8), n + 1, some b => match b.cells.range p.2 (n + 1) with
      | some l => match bytesOfA l with
        | some ns => some (.string ⟨⟨pushed ns⟩⟩, h)
        | none => none
      | none => none
    | _, _, _ => none
  | some (.slice e), some .string, .slice none _ _ => match P.underlying e with
    | some (.int .u8) => some (.string ⟨⟨[]⟩⟩, h)
    | _ => none
  | _, _, _ => none
theorem freeze_row {g n : Nat} {cur : Array Value} {e : TypeId} {fz : Nat × Nat} (hg : w.heap[g]? = some (.cells cur e fz)) (hn : n = cur.size) (hf : fz.1 = fz.2 ∨ cur.size ≤ fz.1) :
    ∃ fz', (w.freeze ⟨g, n, none⟩ 1).heap[g]? = some (.cells cur e fz') ∧ (fz'.1 = fz'.2 ∨ cur.size ≤ fz'.1) ∧ (∀ k, k ≠ g → (w.freeze ⟨g, n, none⟩ 1).heap[k]? = w.heap[k]?) := by
  obtain ⟨lo, hi⟩ := fz
  refine ⟨if lo == hi then (n, n + 1) else (min lo n, max hi (n + 1)), ?_, ?_, fun k hk => ?_⟩
  · simp only [World.freeze, Nat.one_ne_zero, if_false, Array.getElem?_modify, if_true, hg, Option.map_some]
  · simp only at hf
    split
    · right; simp [hn]
    · rename_i hne
      right
      have h1 : lo ≠ hi := by simpa using hne
      have h2 := hf.resolve_left h1
      simp
      omega
  · simp only [World.freeze, Nat.one_ne_zero, if_false, Array.getElem?_modify]
    rw [if_neg (Ne.symm hk)]
theorem run_back {src dst e : TypeId} (hs : P.underlying src = some (.slice e)) (he : P.underlying e = some (.int .u8)) (hd : P.underlying dst = some .string) (r : Rel ρ h w) {p : Nat × Nat} {n c : Nat} {b : Blk} {l : List AV} {ns : List Int} {g C : Nat} (hp : ρ p.1 = some (g, C)) (hb : h.get p.1 = some b)
    (hl : b.cells.range p.2 n = some l) (hns : bytesOfA l = some ns) : (convert src dst (.slice (some ⟨g, p.2, none⟩) n c)).run P w = .ok (.string ⟨⟨pushed ns⟩⟩) w := by
  obtain ⟨g', C', vs, h1, h2, h3⟩ := r.cells hb hl
  rw [hp] at h1
  simp at h1
  obtain ⟨rfl, rfl⟩ := h1
  have hvs := bytesOf_con hns h2
  subst hvs
  have hlen : (ns.map (Value.int .u8)).length = n := by rw [conL_length h2, (Cel.range_get hl).1]
  have hcs := run_loadCells_list (P := P) w ⟨g, p.2, none⟩ (ns.map (Value.int .u8)) (fun j u hj => by rw [Addr.add_lit]; exact h3 j u hj)
  rw [hlen] at hcs
  rw [run_convert_bytes_string w src dst e _ _ _ hs he hd, run_bytesToString w _ _ _ ns hcs]
  congr 2
  apply ByteArray.ext
  apply Array.ext'
  rw [fold_pushed]
  rfl
theorem run_back0 {src dst e : TypeId} (hs : P.underlying src = some (.slice e)) (he : P.underlying e = some (.int .u8)) (hd : P.underlying dst = some .string) (a : Option Addr) (c : Nat) : (convert src dst (.slice a 0 c)).run P w = .ok (.string ⟨⟨[]⟩⟩) w := by
  rw [run_convert_bytes_string w src dst e _ _ _ hs he hd]
  cases a with
  | none => rfl
  | some a => exact run_bytesToString w a 0 c [] rfl
theorem conv_sound (r : Rel ρ h w) (hn : ρ h.next = none) {src dst : TypeId} {x v : AV} {u : Value} {h' : H} (hu : con ρ x = some u) (e : convA P h src dst x = some (v, h')) : Yields P (convert src dst u) ρ h w v h' := by
  unfold convA at e
  split at e
  · rename_i d1 k k' n hs hd
    simp [con] at hu e
    obtain ⟨rfl, rfl⟩ := e
    subst hu
    refine Yields.same r (u := .int k (wrapA k n)) ?_ rfl
    cases d1 <;> simp [convert, run_underlying hs, run_underlying hd, Conv.intToInt, wrapA_eq]
  · rename_i d1 s hs hd
    simp [con] at hu e
    obtain ⟨rfl, rfl⟩ := e
    subst hu
    refine Yields.same r (u := .string s) ?_ rfl
    cases d1 <;> simp [convert, run_underlying hs, run_underlying hd]
  · rename_i d1 el s hs hd
    split at e <;> simp only [Option.some.injEq, reduceCtorEq, Prod.mk.injEq] at e
    rename_i he hlt
    obtain ⟨rfl, rfl⟩ := e
    simp [con] at hu
    subst hu
    have hsz := size_data s
    have hlt' : s.size < 9223372036854775807 := by rw [hsz]; exact blt_true hlt
    have hge := grownCap_ge w s.size 0 el
    have hcm : grownCap w s.size 0 el ≤ maxLen := grownCap_le_maxLen w s.size 0 el (by unfold maxLen; omega)
    have hconv : (convert src dst (.string s)).run P w = (Conv.stringToBytes el s).run P w := by
      cases d1 <;> simp [convert, run_underlying hs, run_underlying hd, run_underlying he]
    let C := grownCap w s.size 0 el
    have hC : C = grownCap w s.size 0 el := rfl
    rw [← hC] at hge hcm
    let cur : Array Value := (s.data.map fun b => .int .u8 b.toNat) ++ Array.replicate (C - s.size) (.int .u8 0)
    have hcur : cur.size = C := by
      simp only [cur, Array.size_append, Array.size_map, Array.size_replicate]
      have : s.data.size = s.size := rfl
      omega
    have hrow : (w.drew.alloc (.cells cur el)).heap[w.heap.size]? = some (.cells cur el (0, 0)) := heap_alloc_new w.drew _
    obtain ⟨fz, f1, f2, f3⟩ := freeze_row (n := C) hrow hcur.symm (.inl rfl)
    have hsh : (w.drew.alloc (.cells cur el)).shape? w.heap.size = some (el, C) := by
      unfold World.shape?
      rw [hrow]
      show some (el, cur.size) = _
      rw [hcur]
    have hrun : (Conv.stringToBytes el s).run P w = .ok (.slice (some ⟨w.heap.size, 0, none⟩) s.size C) ((w.drew.alloc (.cells cur el)).freeze ⟨w.heap.size, C, none⟩ 1) := by
      simp only [Conv.stringToBytes, Sem.run_bind, run_choose, Question.forced, Bool.false_eq_true, if_false, Result.andThen_ok, newRow, run_newObj, Sem.run_pure, markStringish, run_shape]
      have e2 : (Question.appendCap s.size 0 el).cut (w.tape w.drawn (.appendCap s.size 0 el)) = C := rfl
      simp only [e2]
      have key : ∀ (o : Option (TypeId × Nat)), o = some (el, C) → ((Sem.run P (match o with
          | some (_, n) => freeze { block := w.heap.size, off := n } 1
          | _ => pure ()) (w.drew.alloc (.cells cur el))).andThen fun (a : Unit) w' => Result.ok (Value.slice (some ⟨w.heap.size, 0, none⟩) s.size C) w') =
          .ok (.slice (some ⟨w.heap.size, 0, none⟩) s.size C) ((w.drew.alloc (.cells cur el)).freeze ⟨w.heap.size, C, none⟩ 1) := by
        rintro _ rfl
        rfl
      exact key _ hsh
    have hl : conL ρ (s.data.toList.map fun c => AV.int .u8 (Int.ofNat c.toNat)) = some (s.data.toList.map fun c => Value.int .u8 (c.toNat : Int)) := by
      generalize s.data.toList = q
      induction q with
      | nil => rfl
      | cons a q ih => exact conL_mk rfl ih
    have hB : BlkIs ρ C ⟨el, .list (s.data.toList.map fun c => .int .u8 (Int.ofNat c.toNat)), false, 1, true⟩ cur fz := by
      refine BlkIs.grown hl f2 (by rw [hcur, Nat.mul_one]) hcm (by rw [List.length_map, ← hsz, hcur]; exact hge) fun j u hj => ?_
      rw [List.getElem?_map] at hj
      obtain ⟨b, hb, rfl⟩ := Option.map_eq_some_iff.1 hj
      have hjl : j < s.data.size := by simpa using (List.getElem?_eq_some_iff.1 hb).1
      show ((s.data.map fun b => Value.int .u8 b.toNat) ++ _)[j]? = _
      rw [Array.getElem?_append_left (by simpa using hjl), Array.getElem?_map]
      rw [Array.getElem?_toList] at hb
      rw [hb]
      rfl
    have hR := r.push hn ⟨el, .list (s.data.toList.map fun c => .int .u8 (Int.ofNat c.toNat)), false, 1, true⟩ C w.drew rfl cur fz hB
    have hX := Ext.push r hn ⟨el, .list (s.data.toList.map fun c => .int .u8 (Int.ofNat c.toNat)), false, 1, true⟩ rfl C w.drew rfl rfl rfl rfl cur fz
    have hheap : ((w.drew.alloc (.cells cur el)).freeze ⟨w.heap.size, C, none⟩ 1).heap = (w.drew.alloc (.cells cur el fz)).heap := by
      apply Array.ext_getElem?
      intro k
      by_cases hk : k = w.heap.size
      · subst hk
        rw [f1]
        exact (heap_alloc_new w.drew _).symm
      · rw [f3 k hk]
        show (w.heap.push _)[k]? = (w.heap.push _)[k]?
        rw [Array.getElem?_push, Array.getElem?_push, if_neg hk, if_neg hk]
    refine ⟨_, _, _, hconv.trans hrun, ?_, hR.heap hheap, hX.trans (Ext.drawn hheap ?_ ?_ ?_), .inr ⟨_, rfl, rfl⟩⟩
    · rw [← hsz]
      simp [con, Pos.put_self, Cap.off, Cap.at_]
    all_goals (unfold World.freeze; rw [if_neg (by decide)]; rfl)
  · rename_i el0 el p n c hs hd
    split at e
    · rename_i b k heq he hb
      split at e <;> simp only [Option.some.injEq, reduceCtorEq, Prod.mk.injEq] at e
      rename_i hrw hwh
      obtain ⟨rfl, rfl⟩ := e
      obtain ⟨g, C, hp, rfl⟩ := con_sl hu
      obtain ⟨g', C', cur, fz, hp', hg, hx⟩ := r.at_ _ b hb
      rw [hp] at hp'
      simp at hp'
      obtain ⟨rfl, rfl⟩ := hp'
      obtain ⟨fz', f1, f2, f3⟩ := freeze_row (n := cur.size) hg rfl (hx.free hrw)
      have hsd : src = dst := Nat.eq_of_beq_eq_true heq
      have hsh : w.shape? g = some (b.elem, cur.size) := by
        unfold World.shape?
        rw [hg]
      have hB : BlkIs ρ C b cur fz' := ⟨fun _ => f2, hx.fits, hx.whole, hx.more, hx.cell, fun _ k => absurd (blt_true hwh) (by omega)⟩
      have hR := r.write hb hrw hp cur fz' f1 f3 hrw hB
      have hX : Ext ρ h w ρ (h.set p.1 b) (w.freeze ⟨g, cur.size, none⟩ 1) := Ext.write r hb hrw hrw hp (by unfold World.freeze; rw [if_neg (by decide)]) (by unfold World.freeze; rw [if_neg (by decide)]) (by unfold World.freeze; rw [if_neg (by decide)]) (by simp [World.freeze]) f3
      have hh : h.set p.1 b = h.set p.1 b := rfl
      refine ⟨ρ, _, w.freeze ⟨g, cur.size, none⟩ 1, ?_, hu, ?_, ?_, .inl ⟨rfl, rfl⟩⟩
      · simp [convert, run_underlying hd, run_underlying he, hsd, markStringish, hsh]
      · refine ⟨fun c y hc => ?_, fun c d y z q D E hc hd hpc hpd hne => r.inj c d y z q D E hc hd hpc hpd hne⟩
        obtain ⟨q, D, cu, fy, k1, k2, k3⟩ := r.at_ c y hc
        by_cases hqg : q = g
        · subst hqg
          by_cases hcp : c = p.1
          · subst hcp
            rw [hb] at hc
            simp at hc
            subst hc
            rw [hp] at k1
            simp at k1
            subst k1
            exact ⟨q, C, cur, fz', hp, f1, hB⟩
          · have := (r.inj c p.1 y b q D C hc hb k1 hp hcp).2
            rw [hrw] at this
            cases this
        · exact ⟨q, D, cu, fy, k1, by rw [f3 q hqg]; exact k2, k3⟩
      · refine ⟨Pos.le_refl _, Nat.le_refl _, hX.os, hX.tape, hX.output, hX.size, fun k hk hkn => f3 k (fun e => hkn p.1 b C hb hrw (by rw [e]; exact hp)), fun b' x k C hb' hr hp' hk => ⟨b', x, C, hb', hr, hp'⟩, fun _ _ => rfl, fun _ _ hb' _ => hb'⟩
    · simp at e
  · rename_i el p n c hs hd
    obtain ⟨g, C, hp, rfl⟩ := con_sl hu
    split at e
    · rename_i he
      simp only [Option.some.injEq, Prod.mk.injEq] at e
      obtain ⟨rfl, rfl⟩ := e
      exact Yields.same r (run_back0 hs he hd _ _) rfl
    · rename_i n b he hb
      split at e
      · rename_i l hl
        split at e <;> simp only [Option.some.injEq, reduceCtorEq, Prod.mk.injEq] at e
        rename_i ns hns
        obtain ⟨rfl, rfl⟩ := e
        exact Yields.same r (run_back hs he hd r hp hb hl hns) rfl
      · simp at e
    · simp at e
  · rename_i el p n c hs hd
    obtain ⟨g, C, hp, rfl⟩ := con_sl hu
    split at e
    · rename_i he
      simp only [Option.some.injEq, Prod.mk.injEq] at e
      obtain ⟨rfl, rfl⟩ := e
      exact Yields.same r (run_back0 hs he hd _ _) rfl
    · rename_i n b he hb
      split at e
      · rename_i l hl
        split at e <;> simp only [Option.some.injEq, reduceCtorEq, Prod.mk.injEq] at e
        rename_i ns hns
        obtain ⟨rfl, rfl⟩ := e
        exact Yields.same r (run_back hs he hd r hp hb hl hns) rfl
      · simp at e
    · simp at e
  · rename_i el n c hs hd
    split at e <;> simp only [Option.some.injEq, reduceCtorEq, Prod.mk.injEq] at e
    rename_i he
    obtain ⟨rfl, rfl⟩ := e
    cases c <;> simp [con] at hu
    subst hu
    refine Yields.same r (u := .string ⟨⟨[]⟩⟩) ?_ rfl
    rw [run_convert_bytes_string w src dst el _ _ _ hs he hd]
    rfl
  · simp at e

/-! ### == and != -/
/-- Field by field, as long as they are the same. -/
def eqFields (P : Program) (f : TypeId → AV → AV → Option Bool) (xs ys : List AV) : List Field → Option Bool
  | [] => some true
  | fl :: l => match decide (fl.name = "_") with
    | true => eqFields P f xs ys l
    | false => match partA P fl.type xs fl.offset, partA P fl.type ys fl.offset with
      | some a, some b => match f fl.type a b with
        | some true => eqFields P f xs ys l
        | some false => some false
        | none => none
      | _, _ => none
def eqParts (P : Program) (f : TypeId → AV → AV → Option Bool) (e : TypeId) (s : Nat) (xs ys : List AV) : Nat → Nat → Option Bool
  | _, 0 => some true
  | i, m + 1 => match partA P e xs (i * s), partA P e ys (i * s) with
    | some a, some b => match f e a b with
      | some true => eqParts P f e s xs ys (i + 1) m
      | some false => some false
      | none => none
    | _, _ => none
def eqA (P : Program) : Nat → TypeId → AV → AV → Option Bool
  | 0, _, _, _ => none
  | d + 1, t, x, y => match P.underlying t, x, y with
    | some .bool, .bool a, .bool b => some (a == b)
    | some (.int _), .int k a, .int k' b => match decide (k = k') with
      | true => some (a == b)
      | false => none
    | some .string, .string a, .string b => some (a.data.toList == b.data.toList)
    | some (.pointer _), .pointer none, .pointer none => some true
    | some (.pointer _), .pointer none, .pointer (some _) => some false
    | some (.pointer _), .pointer (some _), .pointer none => some false
    | some (.pointer el), .pointer (some p), .pointer (some q) => match Nat.beq p.1 q.1 && Nat.beq p.2 q.2, sizeA P el with
      | true, some (_ + 1) => some true
      | _, _ => none
    | some (.slice _), .slice none _ _, .slice none _ _ => some true
    | some (.slice _), .slice none _ _, .slice (some _) _ _ => some false
    | some (.slice _), .slice (some _) _ _, .slice none _ _ => some false
    | some (.interface _), .nilIface, .nilIface => some true
    | some (.func _ _ _), .nilFunc, .nilFunc => some true
    | some (.struct ⟨fs⟩), .agg xs, .agg ys => match P.stoodInHeld t with
      | false => eqFields P (eqA P d) xs ys fs
      | true => none
    | some (.array n e), .agg xs, .agg ys => match sizeA P e with
      | some s => eqParts P (eqA P d) e s xs ys 0 n
      | none => none
    | _, _, _ => none
theorem run_partA {t : TypeId} {cs : List AV} {xs : List Value} {off : Nat} {v : AV} (hc : conL ρ cs = some xs) (e : partA P t cs off = some v) : ∃ u, con ρ v = some u ∧ ∀ w, (part t xs.toArray off).run P w = .ok u w := by
  unfold partA at e
  split at e
  · rename_i n d ha hs hd
    simp at e
    subst e
    exact ⟨.agg ((xs.drop off).take n).toArray, by simp [con, conL_take (conL_drop hc off) n], fun w => by simp [part, run_isAgg hd, ha, run_sizeOf hs]⟩
  · rename_i n d ha hs hd
    obtain ⟨u, h1, h2⟩ := conL_get hc _ _ e
    exact ⟨u, h1, fun w => by simp [part, run_isAgg hd, ha, h2]⟩
  · simp at e
theorem eq_sound : ∀ (d : Nat) (t : TypeId) (x y : AV) (u v : Value) (b : Bool), con ρ x = some u → con ρ y = some v → eqA P d t x y = some b → ∀ (D : Nat) (w : World), (Op.equalIn (d + D) t u v).run P w = .ok b w
  | 0, t, x, y, u, v, b, hu, hv, e, D, w => by simp [eqA] at e
  | d + 1, t, x, y, u, v, b, hu, hv, e, D, w => by
    have ih := eq_sound d
    have hD : d + 1 + D = (d + D) + 1 := by omega
    rw [hD]
    simp only [eqA] at e
    split at e
    · rename_i a c hd
      simp [con] at hu hv e
      subst hu hv e
      simp [Op.equalIn, run_underlying hd]
    · rename_i k0 k a k' c hd
      simp [con] at hu hv
      subst hu hv
      split at e <;> simp only [Option.some.injEq, reduceCtorEq] at e
      rename_i hk
      have hk : k = k' := by simpa using hk
      subst e hk
      simp [Op.equalIn, run_underlying hd]
    · rename_i a c hd
      simp [con] at hu hv
      simp only [Option.some.injEq] at e
      subst hu hv e
      have hb : (a == c) = (a.data.toList == c.data.toList) := by rw [beq_toListBytes, ByteArray.toList_eq, ByteArray.toList_eq]
      simp only [Op.equalIn, Sem.run_bind, run_underlying hd, Result.andThen_ok, Sem.run_pure, hb]
    · rename_i el hd
      simp [con] at hu hv e
      subst hu hv e
      simp [Op.equalIn, run_underlying hd]
    · rename_i el q hd
      obtain ⟨g, C, _, rfl⟩ := con_ptr hv
      simp [con] at hu e
      subst hu e
      simp [Op.equalIn, run_underlying hd]
    · rename_i el q hd
      obtain ⟨g, C, _, rfl⟩ := con_ptr hu
      simp [con] at hv e
      subst hv e
      simp [Op.equalIn, run_underlying hd]
    · rename_i el p q hd
      obtain ⟨g, C, hg, rfl⟩ := con_ptr hu
      obtain ⟨g', C', hg', rfl⟩ := con_ptr hv
      split at e <;> simp only [Option.some.injEq, reduceCtorEq] at e
      rename_i heq hs
      subst e
      simp only [Bool.and_eq_true] at heq
      have hp : p = q := Prod.ext (Nat.eq_of_beq_eq_true heq.1) (Nat.eq_of_beq_eq_true heq.2)
      subst hp
      rw [hg] at hg'
      simp at hg'
      obtain ⟨rfl, rfl⟩ := hg'
      simp [Op.equalIn, run_underlying hd, run_sizeOf hs, sameAddr]
    · rename_i el n c n' c' hd
      cases c <;> simp [con] at hu
      cases c' <;> simp [con] at hv
      simp at e
      subst hu hv e
      simp [Op.equalIn, run_underlying hd]
    · rename_i el n c q n' c' hd
      cases c <;> simp [con] at hu
      obtain ⟨g, C, _, rfl⟩ := con_sl hv
      simp at e
      subst hu e
      simp [Op.equalIn, run_underlying hd]
    · rename_i el q n c n' c' hd
      cases c' <;> simp [con] at hv
      obtain ⟨g, C, _, rfl⟩ := con_sl hu
      simp at e
      subst hv e
      simp [Op.equalIn, run_underlying hd]
    · rename_i ms hd
      simp [con] at hu hv e
      subst hu hv e
      simp [Op.equalIn, run_underlying hd]
    · rename_i _ _ _ hd
      simp [con] at hu hv e
      subst hu hv e
      simp [Op.equalIn, run_underlying hd]
    · rename_i fs xs ys hd
      obtain ⟨xv, hx, rfl⟩ := con_agg hu
      obtain ⟨yv, hy, rfl⟩ := con_agg hv
      cases hst : P.stoodInHeld t <;> rw [hst] at e <;> simp only [reduceCtorEq] at e
      simp only [Op.equalIn, Sem.run_bind, run_underlying hd, Result.andThen_ok, run_program, hst, Bool.false_eq_true, if_false, List.forIn_toArray]
      clear hd hu hv
      induction fs with
      | nil => simp [eqFields] at e; subst e; simp
      | cons fl fs ihf =>
        simp only [eqFields] at e
        split at e
        · rename_i hb
          have hb : fl.name = "_" := by simpa using hb
          have := ihf e
          simpa [List.forIn_cons, hb] using this
        · rename_i hb
          have hb : ¬ fl.name = "_" := by simpa using hb
          split at e
          · rename_i a c ha hc
            obtain ⟨pa, qa, ra⟩ := run_partA hx ha
            obtain ⟨pc, qc, rc⟩ := run_partA hy hc
            split at e
            · rename_i hf
              have hr := ih fl.type a c pa pc true qa qc hf D w
              have := ihf e
              simpa [List.forIn_cons, hb, ra, rc, hr] using this
            · rename_i hf
              have hr := ih fl.type a c pa pc false qa qc hf D w
              simp at e
              subst e
              simp [List.forIn_cons, hb, ra, rc, hr]
            · simp at e
          · simp at e
    · rename_i n el xs ys hd
      obtain ⟨xv, hx, rfl⟩ := con_agg hu
      obtain ⟨yv, hy, rfl⟩ := con_agg hv
      split at e
      · rename_i s hs
        simp only [Op.equalIn, Sem.run_bind, run_underlying hd, Result.andThen_ok, run_sizeOf hs]
        rw [Std.Legacy.Range.forIn_eq_forIn_range']
        simp only [Std.Legacy.Range.size, Nat.sub_zero, Nat.add_sub_cancel, Nat.div_one]
        have key : ∀ (m i : Nat), eqParts P (eqA P d) el s xs ys i m = some b → ∀ (init : MProd (Option Bool) PUnit), init.1 = none → True := fun _ _ _ _ _ => trivial
        clear key hd hu hv
        revert e
        generalize 0 = i
        induction n generalizing i with
        | zero =>
          intro e
          simp [eqParts] at e
          subst e
          simp
        | succ m ihm =>
          intro e
          simp only [eqParts] at e
          rw [List.range'_succ]
          split at e
          · rename_i a c ha hc
            obtain ⟨pa, qa, ra⟩ := run_partA hx ha
            obtain ⟨pc, qc, rc⟩ := run_partA hy hc
            split at e
            · rename_i hf
              have hr := ih el a c pa pc true qa qc hf D w
              have := ihm (i + 1) e
              simpa [List.forIn_cons, ra, rc, hr] using this
            · rename_i hf
              have hr := ih el a c pa pc false qa qc hf D w
              simp at e
              subst e
              simp [List.forIn_cons, ra, rc, hr]
            · simp at e
          · simp at e
      · simp at e
    · simp at e
end
end Go.Proofs.Ytpdfalgjmeagjaa

/-
  The small machine's operations, all but calls of functions, and that the world's own do as they say.
-/
namespace Go.Proofs.Ytpdfalgjmeagjaa
open Go.RowKit
set_option linter.unusedVariables false

/-- Operands. -/
def evA (tm : Tq AV) : Operand → Option AV
  | .tmp t => match tm.get deep t with
    | some v => some v
    | none => some .undef
  | .const v => avOf v
  | .global _ => none
  | .func f => some (.func (.func f) [] [])
def evL (ev : Operand → Option AV) : List Operand → Option (List AV)
  | [] => some []
  | x :: l => match ev x, evL ev l with
    | some v, some vs => some (v :: vs)
    | _, _ => none
def evO (ev : Operand → Option AV) : Option Operand → Option (Option AV)
  | none => some none
  | some x => match ev x with
    | some v => some (some v)
    | none => none
def evP (ev : Operand → Option AV) : List (Nat × Operand) → Option (List (Nat × AV))
  | [] => some []
  | (i, x) :: l => match ev x, evP ev l with
    | some v, some vs => some ((i, v) :: vs)
    | _, _ => none
def constB : Operand → Bool
  | .const _ => true
  | _ => false

section
variable {P : Program} {ρ : Pos} {h : H} {w : World} {ev : Operand → Option AV} {ρe : Operand → Value}

/-- What the operands are in the world. -/
def Evs (ρ : Pos) (ev : Operand → Option AV) (ρe : Operand → Value) : Prop := ∀ x v, ev x = some v → con ρ v = some (ρe x)
theorem evL_sound (he : Evs ρ ev ρe) : ∀ {l : List Operand} {vs : List AV}, evL ev l = some vs → conL ρ vs = some (l.map ρe)
  | [], vs, e => by simp [evL] at e; subst e; rfl
  | x :: l, vs, e => by
    simp only [evL] at e
    split at e <;> simp at e
    rename_i v us hv hus
    subst e
    exact conL_mk (he x v hv) (evL_sound he hus)
theorem evP_sound (he : Evs ρ ev ρe) : ∀ {l : List (Nat × Operand)} {vs : List (Nat × AV)}, evP ev l = some vs → partsOf ρ vs = some (l.map fun q => (q.1, ρe q.2))
  | [], vs, e => by simp [evP] at e; subst e; rfl
  | (i, x) :: l, vs, e => by
    simp only [evP] at e
    split at e <;> simp at e
    rename_i v us hv hus
    subst e
    simp [partsOf, he x v hv, evP_sound he hus]
theorem evO_sound (he : Evs ρ ev ρe) {x : Option Operand} {v : Option AV} (e : evO ev x = some v) : Bnd ρ v (x.map ρe) := by
  unfold evO at e
  split at e
  · simp at e; subst e; trivial
  · split at e <;> simp at e
    rename_i y v' hv
    subst e
    exact he _ _ hv

def Does (P : Program) (s : Sem Next) (ρ : Pos) (h : H) (w : World) (v : AV) (h' : H) : Prop :=
  ∃ ρ' n u w', s.run P w = .ok n w' ∧ (n = .value u ∨ (n = .skip ∧ u = undef)) ∧ con ρ' v = some u ∧ Rel ρ' h' w' ∧ Ext ρ h w ρ' h' w' ∧ Grow ρ h ρ' h'
theorem Yields.does {s : Sem Value} {v : AV} {h' : H} (y : Yields P s ρ h w v h') : Does P (do pure (.value (← s))) ρ h w v h' := by
  obtain ⟨ρ', u, w', h1, h2, h3, h4, h5⟩ := y
  exact ⟨ρ', .value u, u, w', by simp [h1], .inl rfl, h2, h3, h4, h5⟩
theorem Does.same (r : Rel ρ h w) {s : Sem Next} {u : Value} {v : AV} (e : s.run P w = .ok (.value u) w) (hv : con ρ v = some u) : Does P s ρ h w v h :=
  ⟨ρ, _, u, w, e, .inl rfl, hv, r, Ext.refl _ _ _, .inl ⟨rfl, rfl⟩⟩
theorem Does.plain (r : Rel ρ h w) {s : Sem Value} {u : Value} {v : AV} (e : s.run P w = .ok u w) (hv : con ρ v = some u) : Does P (do pure (.value (← s))) ρ h w v h := (Yields.same r e hv).does

theorem con_pointer_form {a : Option (Nat × Nat)} {u : Value} (e : con ρ (.pointer a) = some u) : ∃ a', u = .pointer a' := by
  cases a with
  | none => simp [con] at e; exact ⟨_, e.symm⟩
  | some p => obtain ⟨g, C, _, rfl⟩ := con_ptr e; exact ⟨_, rfl⟩

/-! ### == guarded -/
def eqBinA (P : Program) (t : TypeId) (cs : Bool) (x y : AV) : Option Bool := match x, y with
  | .nilIface, .nilIface => match cs with
    | true => eqA P 40 t x y
    | false => none
  | .agg _, .agg _ => match P.eqGuardType P.depth t with
    | false => eqA P 40 t x y
    | true => none
  | .bool _, .bool _ => eqA P 40 t x y
  | .pointer _, .pointer _ => eqA P 40 t x y
  | .slice _ _ _, .slice _ _ _ => eqA P 40 t x y
  | .nilFunc, .nilFunc => eqA P 40 t x y
  | _, _ => none
def truthA (op : BinOp) : Option Bool → Option AV
  | some b => match op with
    | .eql => some (.bool b)
    | .neq => some (.bool !b)
    | _ => none
  | none => none
def sameA (op : BinOp) (k k' : IntKind) (a b : Int) : Option AV := match decide (k = k') with
  | true => numA op k a b
  | false => none
def intsA (op : BinOp) (k k' : IntKind) (a b : Int) : Option AV := match op with
  | .shl => shiftA .shl k a b
  | .shr => shiftA .shr k a b
  | op => sameA op k k' a b
def binA (P : Program) (op : BinOp) (t : TypeId) (cs : Bool) (x y : AV) : Option AV := match x, y with
  | .int k a, .int k' b => intsA op k k' a b
  | .string a, .string b => strA op a b
  | x, y => truthA op (eqBinA P t cs x y)
theorem eq_run {t : TypeId} {x y : AV} {u v : Value} {b : Bool} (hu : con ρ x = some u) (hv : con ρ y = some v) (e : eqA P 40 t x y = some b) (w : World) : (Op.equal t u v).run P w = .ok b w := by
  have := eq_sound 40 t x y u v b hu hv e (Op.maxDepth - 40) w
  exact this
theorem bin_sound (r : Rel ρ h w) {op : BinOp} {t : TypeId} {a b : Operand} {x y v : AV} {u u' : Value} (hu : con ρ x = some u) (hv : con ρ y = some u') (e : binA P op t (constB a || constB b) x y = some v) :
    ∃ z, (do eqGuard op t a b u u'; binOp op t u u' : Sem Value).run P w = .ok z w ∧ con ρ v = some z := by
  have general : (∀ (z : Bool), eqBinA P t (constB a || constB b) x y = some z → op = .eql ∨ op = .neq → (eqGuard op t a b u u').run P w = .ok () w ∧ (Op.equal t u u').run P w = .ok z w ∧ ((binOp .eql t u u') = (do pure (.bool (← Op.equal t u u'))) ∧ (binOp .neq t u u') = (do pure (.bool (!(← Op.equal t u u')))))) →
      truthA op (eqBinA P t (constB a || constB b) x y) = some v → ∃ z, (do eqGuard op t a b u u'; binOp op t u u' : Sem Value).run P w = .ok z w ∧ con ρ v = some z := by
    intro hs e
    cases hz : eqBinA P t (constB a || constB b) x y with
    | none => simp [hz, truthA] at e
    | some z =>
      rw [hz] at e
      cases op <;> simp only [truthA, Option.some.injEq, reduceCtorEq] at e
      · subst e
        obtain ⟨h1, h2, h3, _⟩ := hs z hz (.inl rfl)
        exact ⟨.bool z, by rw [h3]; simp [h1, h2], rfl⟩
      · subst e
        obtain ⟨h1, h2, _, h3⟩ := hs z hz (.inr rfl)
        exact ⟨.bool !z, by rw [h3]; simp [h1, h2], rfl⟩
  unfold binA at e
  split at e
  · rename_i k m k' m'
    simp [con] at hu hv
    subst hu hv
    have hg : ∀ op, (eqGuard op t a b (.int k m) (.int k' m')).run P w = .ok () w := fun op => by cases op <;> simp [eqGuard]
    unfold intsA at e
    split at e
    · obtain ⟨z, h1, h2⟩ := shiftA_sound (P := P) (w := w) (k' := k') e ρ
      exact ⟨z, by simp [hg, binOp, h1], h2⟩
    · obtain ⟨z, h1, h2⟩ := shiftA_sound (P := P) (w := w) (k' := k') e ρ
      exact ⟨z, by simp [hg, binOp, h1], h2⟩
    · rename_i n1 n2
      unfold sameA at e
      split at e
      · rename_i hk
        have hk : k = k' := by simpa using hk
        subst hk
        obtain ⟨z, h1, h2⟩ := numA_sound (P := P) (w := w) (t := t) ⟨n1, n2⟩ e ρ
        exact ⟨z, by simp [hg, h1], h2⟩
      · simp at e
  · rename_i m m'
    simp [con] at hu hv
    subst hu hv
    obtain ⟨z, h1, h2⟩ := strA_sound (P := P) (w := w) (t := t) e ρ
    have hg : (eqGuard op t a b (.string m) (.string m')).run P w = .ok () w := by cases op <;> simp [eqGuard]
    exact ⟨z, by simp [hg, h1], h2⟩
  · rename_i n1 n2
    refine general (fun z hz hop => ?_) e
    unfold eqBinA at hz
    split at hz
    · cases hc : (constB a || constB b) <;> rw [hc] at hz <;> simp only [reduceCtorEq] at hz
      have heq := eq_run hu hv hz w
      simp [con] at hu hv
      subst hu hv
      refine ⟨?_, heq, by simp [binOp], by simp [binOp]⟩
      have hc' : constB a = true ∨ constB b = true := by simpa using hc
      rcases hop with rfl | rfl <;> simp only [eqGuard] <;> cases a <;> cases b <;> simp [constB] at hc' <;> simp
    · cases hc : P.eqGuardType P.depth t <;> rw [hc] at hz <;> simp only [reduceCtorEq] at hz
      have heq := eq_run hu hv hz w
      obtain ⟨xs, _, rfl⟩ := con_agg hu
      obtain ⟨ys, _, rfl⟩ := con_agg hv
      refine ⟨?_, heq, by simp [binOp], by simp [binOp]⟩
      rcases hop with rfl | rfl <;> simp [eqGuard, hc]
    · have heq := eq_run hu hv hz w
      simp [con] at hu hv
      subst hu hv
      refine ⟨?_, heq, rfl, rfl⟩
      rcases hop with rfl | rfl <;> simp [eqGuard]
    · have heq := eq_run hu hv hz w
      have h1 := con_pointer_form hu
      have h2 := con_pointer_form hv
      obtain ⟨p', rfl⟩ := h1
      obtain ⟨q', rfl⟩ := h2
      refine ⟨?_, heq, rfl, rfl⟩
      rcases hop with rfl | rfl <;> simp [eqGuard]
    · have heq := eq_run hu hv hz w
      obtain ⟨_, _, rfl⟩ := con_slice_form hu
      obtain ⟨_, _, rfl⟩ := con_slice_form hv
      refine ⟨?_, heq, rfl, rfl⟩
      rcases hop with rfl | rfl <;> simp [eqGuard]
    · have heq := eq_run hu hv hz w
      simp [con] at hu hv
      subst hu hv
      refine ⟨?_, heq, rfl, rfl⟩
      rcases hop with rfl | rfl <;> simp [eqGuard]
    · simp at hz

/-! ### The rest -/
def unA (op : UnOp) : AV → Option AV
  | .int k n => match op with
    | .neg => some (.int k (wrapA k (0 - n)))
    | .xor => match k.signed with
      | false => numA .xor k (k.max) n
      | true => none
    | _ => none
  | .bool b => match op with
    | .not => some (.bool !b)
    | _ => none
  | _ => none
theorem un_sound {op : UnOp} {x v : AV} {u : Value} (hu : con ρ x = some u) (e : unA op x = some v) : ∃ z, (Op.unary op u).run P w = .ok z w ∧ con ρ v = some z := by
  unfold unA at e
  split at e
  · rename_i k n
    simp [con] at hu
    subst hu
    split at e
    · simp only [Option.some.injEq] at e
      subst e
      exact ⟨.int k (wrapA k (0 - n)), by simp [Op.unary, Op.intArith, wrapA_eq], rfl⟩
    · split at e
      · rename_i hs
        have hx : ∀ v, numA .xor k k.max n = some v → ∃ z, (Op.intBits .xor k k.max n).run P w = .ok z w ∧ con ρ v = some z := fun v hv => by
          obtain ⟨z, h1, h2⟩ := numA_sound (P := P) (w := w) (t := 0) (op := .xor) ⟨by simp, by simp⟩ hv ρ
          exact ⟨z, by simpa [binOp] using h1, h2⟩
        obtain ⟨z, h1, h2⟩ := hx v e
        exact ⟨z, by simp [Op.unary, hs, h1], h2⟩
      · simp at e
    · simp at e
  · rename_i b
    simp [con] at hu
    subst hu
    split at e <;> simp at e
    subst e
    exact ⟨.bool !b, by simp [Op.unary], rfl⟩
  · simp at e
/-- The least, or the greatest, of whole numbers of one kind. -/
def bestA (less : Int → Int → Bool) : AV → List AV → Option AV
  | x, [] => some x
  | .int k a, .int k' b :: l => match decide (k = k') with
    | true => match less b a with
      | true => bestA less (.int k b) l
      | false => bestA less (.int k a) l
    | false => none
  | _, _ => none
theorem min_sound : ∀ (l : List AV) (us : List Value) (x v : AV) (u : Value), con ρ x = some u → conL ρ l = some us → bestA (fun b a => decide (b < a)) x l = some v → ∃ z, (us.foldlM Builtin.min2 u).run P w = .ok z w ∧ con ρ v = some z
  | [], us, x, v, u, hx, hl, e => by
    simp [conL] at hl
    cases x <;> simp [bestA] at e <;> subst hl e <;> exact ⟨u, rfl, hx⟩
  | y :: l, us, x, v, u, hx, hl, e => by
    obtain ⟨q, qs, h1, h2, rfl⟩ := conL_cons hl
    unfold bestA at e
    split at e
    · simp_all
    · rename_i k a k' b l' heq
      simp only [List.cons.injEq] at heq
      obtain ⟨rfl, rfl⟩ := heq
      simp [con] at hx h1
      subst hx h1
      split at e
      · rename_i hk
        have hk : k = k' := by simpa using hk
        subst hk
        split at e
        · rename_i hb
          have hb : b < a := by simpa using hb
          obtain ⟨z, h3, h4⟩ := min_sound l qs (.int k b) v (.int k b) rfl h2 e
          exact ⟨z, by simp [List.foldlM_cons, Builtin.min2, hb, h3], h4⟩
        · rename_i hb
          have hb : ¬ b < a := by simpa using hb
          obtain ⟨z, h3, h4⟩ := min_sound l qs (.int k a) v (.int k a) rfl h2 e
          exact ⟨z, by simp [List.foldlM_cons, Builtin.min2, hb, h3], h4⟩
      · simp at e
    · simp at e
theorem max_sound : ∀ (l : List AV) (us : List Value) (x v : AV) (u : Value), con ρ x = some u → conL ρ l = some us → bestA (fun b a => decide (a < b)) x l = some v → ∃ z, (us.foldlM Builtin.max2 u).run P w = .ok z w ∧ con ρ v = some z
  | [], us, x, v, u, hx, hl, e => by
    simp [conL] at hl
    cases x <;> simp [bestA] at e <;> subst hl e <;> exact ⟨u, rfl, hx⟩
  | y :: l, us, x, v, u, hx, hl, e => by
    obtain ⟨q, qs, h1, h2, rfl⟩ := conL_cons hl
    unfold bestA at e
    split at e
    · simp_all
    · rename_i k a k' b l' heq
      simp only [List.cons.injEq] at heq
      obtain ⟨rfl, rfl⟩ := heq
      simp [con] at hx h1
      subst hx h1
      split at e
      · rename_i hk
        have hk : k = k' := by simpa using hk
        subst hk
        split at e
        · rename_i hb
          have hb : a < b := by simpa using hb
          obtain ⟨z, h3, h4⟩ := max_sound l qs (.int k b) v (.int k b) rfl h2 e
          exact ⟨z, by simp [List.foldlM_cons, Builtin.max2, hb, h3], h4⟩
        · rename_i hb
          have hb : ¬ a < b := by simpa using hb
          obtain ⟨z, h3, h4⟩ := max_sound l qs (.int k a) v (.int k a) rfl h2 e
          exact ⟨z, by simp [List.foldlM_cons, Builtin.max2, hb, h3], h4⟩
      · simp at e
    · simp at e

/-- A value, and the memory as it was. -/
def withH (h : H) : Option AV → Option (AV × H)
  | some v => some (v, h)
  | none => none
theorem withH_out {x : Option AV} {v : AV} {h' : H} (e : withH h x = some (v, h')) : x = some v ∧ h' = h := by
  unfold withH at e
  split at e <;> simp at e
  obtain ⟨rfl, rfl⟩ := e
  exact ⟨rfl, rfl⟩
def builtinA (P : Program) (h : H) (b : Builtin) (ts : Array TypeId) (args : List AV) : Option (AV × H) := match b, args with
  | .len, [x] => match ts[0]? with
    | some t => withH h (lenA P t x)
    | none => none
  | .cap, [x] => match ts[0]? with
    | some t => withH h (capA P t x)
    | none => none
  | .copy, [d, x] => match ts[0]? with
    | some t => copyA P h t d x
    | none => none
  | .append, [d, x] => match ts[0]?, ts[1]? with
    | some t, some t' => appendA P h t t' d x
    | _, _ => none
  | .min, x :: l => withH h (bestA (fun b a => decide (b < a)) x l)
  | .max, x :: l => withH h (bestA (fun b a => decide (a < b)) x l)
  | _, _ => none
theorem builtin_sound (r : Rel ρ h w) (hn : ρ h.next = none) {b : Builtin} {ts : Array TypeId} {args : List AV} {us : List Value} {v : AV} {h' : H} (hu : conL ρ args = some us) (ty : TypeId) (cs : Array Bool) (e : builtinA P h b ts args = some (v, h')) :
    Does P (builtin b ts ty cs us.toArray) ρ h w v h' := by
  unfold builtinA at e
  split at e
  · obtain ⟨u, us', h1, h2, rfl⟩ := conL_cons hu
    simp [conL] at h2
    subst h2
    split at e
    · rename_i t ht
      obtain ⟨e1, rfl⟩ := withH_out e
      obtain ⟨y, h3, h4⟩ := len_sound (P := P) (w := w) h1 ts ht ty e1
      exact Does.plain r h3 h4
    · simp at e
  · obtain ⟨u, us', h1, h2, rfl⟩ := conL_cons hu
    simp [conL] at h2
    subst h2
    split at e
    · rename_i t ht
      obtain ⟨e1, rfl⟩ := withH_out e
      obtain ⟨y, h3, h4⟩ := cap_sound (P := P) (w := w) h1 ts ht ty e1
      exact Does.plain r h3 h4
    · simp at e
  · obtain ⟨u, us', h1, h2, rfl⟩ := conL_cons hu
    obtain ⟨u2, us2, h3, h4, rfl⟩ := conL_cons h2
    simp [conL] at h4
    subst h4
    split at e
    · rename_i t ht
      exact (copy_sound r h1 h3 ts ht ty e).does
    · simp at e
  · obtain ⟨u, us', h1, h2, rfl⟩ := conL_cons hu
    obtain ⟨u2, us2, h3, h4, rfl⟩ := conL_cons h2
    simp [conL] at h4
    subst h4
    split at e
    · rename_i t t' ht ht'
      exact (append_sound r hn h1 h3 ts ht ht' ty e).does
    · simp at e
  · obtain ⟨u, us', h1, h2, rfl⟩ := conL_cons hu
    obtain ⟨e1, rfl⟩ := withH_out e
    obtain ⟨y, h3, h4⟩ := min_sound (P := P) (w := w) _ us' _ _ u h1 h2 e1
    exact Does.plain r (s := Builtin.min_ ts ty (u :: us').toArray) h3 h4
  · obtain ⟨u, us', h1, h2, rfl⟩ := conL_cons hu
    obtain ⟨e1, rfl⟩ := withH_out e
    obtain ⟨y, h3, h4⟩ := max_sound (P := P) (w := w) _ us' _ _ u h1 h2 e1
    exact Does.plain r (s := Builtin.max_ ts ty (u :: us').toArray) h3 h4
  · simp at e

def opA (P : Program) (h : H) (ev : Operand → Option AV) (o : Oper) : Option (AV × H) := match o.op with
  | .move x => withH h (ev x)
  | .assign x => withH h (ev x)
  | .pick c a b => match ev c with
    | some (.bool true) => withH h (ev a)
    | some (.bool false) => withH h (ev b)
    | _ => none
  | .alloc t => allocA P h t
  | .box t x => match ev x with
    | some v => some (boxA h t v)
    | none => none
  | .build t ps => match evP ev ps.toList with
    | some l => buildA P h t l
    | none => none
  | .buildSlice t n ps => match evP ev ps.toList with
    | some l => buildSliceA P h t n l
    | none => none
  | .load t x => match ev x with
    | some (.pointer (some p)) => withH h (loadA P h t (.pointer (some p)))
    | _ => none
  | .store t a x => match ev a, ev x with
    | some (.pointer (some p)), some v => match storeA P h t (.pointer (some p)) v with
      | some h' => some (.undef, h')
      | none => none
    | _, _ => none
  | .nilCheck x => match ev x with
    | some (.pointer (some p)) => some (.pointer (some p), h)
    | some (.func (.func f) l m) => some (.func (.func f) l m, h)
    | _ => none
  | .binOp op t a b _ => match ev a, ev b with
    | some x, some y => withH h (binA P op t (constB a || constB b) x y)
    | _, _ => none
  | .unOp op _ a => match ev a with
    | some x => withH h (unA op x)
    | none => none
  | .convert s d a => match ev a with
    | some x => convA P h s d x
    | none => none
  | .makeInterface t a => match ev a, P.underlying t with
    | some _, some (.interface _) => none
    | some x, some _ => some (.iface t x, h)
    | _, _ => none
  | .makeFunc f l m => match evL ev l.toList, evL ev m.toList with
    | some x, some y => some (.func f x y, h)
    | _, _ => none
  | .makeSlice t l c => match ev l, ev c with
    | some x, some y => makeA P h t x y
    | _, _ => none
  | .slice t a lo hi mx => match ev a, evO ev lo, evO ev hi, evO ev mx with
    | some x, some l, some hh, some m => withH h (sliceA P h t x l hh m)
    | _, _, _, _ => none
  | .fieldAddr t a f => match ev a with
    | some x => withH h (fieldAtA P t f x)
    | none => none
  | .field t a f => match ev a with
    | some x => withH h (fieldA P t f x)
    | none => none
  | .indexAddr t a i => match ev a, ev i with
    | some x, some y => withH h (indexAtA P t x y)
    | _, _ => none
  | .index t a i => match ev a, ev i with
    | some x, some y => withH h (indexA P t x y)
    | _, _ => none
  | .extract a i => match ev a with
    | some (.tuple l) => withH h l[i]?
    | _ => none
  | .call c => match c.callee with
    | .builtin b => match evL ev c.args.toList with
      | some l => builtinA P h b c.argTypes l
      | none => none
    | _ => none
  | _ => none
theorem op_sound (r : Rel ρ h w) (hn : ρ h.next = none) (he : Evs ρ ev ρe) {o : Oper} {v : AV} {h' : H} (e : opA P h ev o = some (v, h')) : Does P (execOp ρe o) ρ h w v h' := by
  unfold opA at e
  unfold execOp
  split at e
  all_goals rename_i heq; simp only [heq]
  · obtain ⟨e1, rfl⟩ := withH_out e
    exact Does.same r rfl (he _ _ e1)
  · obtain ⟨e1, rfl⟩ := withH_out e
    exact Does.same r rfl (he _ _ e1)
  · split at e
    · rename_i hc
      obtain ⟨e1, rfl⟩ := withH_out e
      have h1 := he _ _ hc
      simp [con] at h1
      exact Does.same r (by simp [← h1, asBool]) (he _ _ e1)
    · rename_i hc
      obtain ⟨e1, rfl⟩ := withH_out e
      have h1 := he _ _ hc
      simp [con] at h1
      exact Does.same r (by simp [← h1, asBool]) (he _ _ e1)
    · simp at e
  · exact (alloc_sound r hn e).does
  · split at e <;> simp only [Option.some.injEq, reduceCtorEq] at e
    rename_i t _ _ x hx
    have := box_sound (P := P) r hn (t := t) (he _ _ hx)
    rw [e] at this
    exact this.does
  · split at e
    · rename_i l hl
      have hp := evP_sound he hl
      have := build_sound r hp e
      rw [← Array.toList_map, Array.toArray_toList] at this
      exact this.does
    · simp at e
  · split at e
    · rename_i l hl
      have hp := evP_sound he hl
      have := buildSlice_sound r hn hp e
      rw [← Array.toList_map, Array.toArray_toList] at this
      exact this.does
    · simp at e
  · split at e
    · rename_i p hp
      obtain ⟨e1, rfl⟩ := withH_out e
      obtain ⟨g, C, u, h1, h2, h3⟩ := loadVar_sound (P := P) r e1
      obtain ⟨g', C', h4, h5⟩ := con_ptr (he _ _ hp)
      rw [h1] at h4
      simp at h4
      obtain ⟨rfl, rfl⟩ := h4
      exact Does.plain r (by simp [h5, Instr.loadAt, Instr.sureAddr, h3]) h2
    · simp at e
  · split at e
    · rename_i p x hp hx
      split at e <;> simp only [Option.some.injEq, reduceCtorEq, Prod.mk.injEq] at e
      rename_i h'' hs
      obtain ⟨rfl, rfl⟩ := e
      obtain ⟨g, C, w', h1, h2, h3, h4⟩ := storeVar_sound (P := P) r (he _ _ hx) hs
      obtain ⟨g', C', h5, h6⟩ := con_ptr (he _ _ hp)
      rw [h1] at h5
      simp at h5
      obtain ⟨rfl, rfl⟩ := h5
      have hnext : h''.next = h.next := by
        simp only [storeA] at hs
        split at hs
        · split at hs <;> simp at hs
          rw [← hs]
          rfl
        · simp at hs
      exact ⟨ρ, .skip, undef, w', by simp [h6, Instr.storeAt, Instr.sureAddr, h2], .inr ⟨rfl, rfl⟩, rfl, h3, h4, .inl ⟨rfl, hnext⟩⟩
    · simp at e
  · split at e <;> simp only [Option.some.injEq, reduceCtorEq, Prod.mk.injEq] at e
    · rename_i p hp
      obtain ⟨rfl, rfl⟩ := e
      obtain ⟨g', C', h5, h6⟩ := con_ptr (he _ _ hp)
      exact Does.same r (by rw [h6]; rfl) (by rw [he _ _ hp, h6])
    · rename_i f l m hp
      obtain ⟨rfl, rfl⟩ := e
      have h1 := he _ _ hp
      simp only [con] at h1
      split at h1 <;> simp at h1
      exact Does.same r (by rw [← h1]; rfl) (by rw [he _ _ hp, ← h1])
  · split at e
    · rename_i x y hx hy
      obtain ⟨e1, rfl⟩ := withH_out e
      obtain ⟨z, h1, h2⟩ := bin_sound (P := P) r (he _ _ hx) (he _ _ hy) e1
      exact Does.plain r h1 h2
    · simp at e
  · split at e
    · rename_i x hx
      obtain ⟨e1, rfl⟩ := withH_out e
      obtain ⟨z, h1, h2⟩ := un_sound (P := P) (w := w) (he _ _ hx) e1
      exact Does.plain r h1 h2
    · simp at e
  · split at e
    · rename_i x hx
      exact (conv_sound r hn (he _ _ hx) e).does
    · simp at e
  · split at e
    · simp at e
    · rename_i t a _ _ x d hni hx hd
      simp only [Option.some.injEq, Prod.mk.injEq] at e
      obtain ⟨rfl, rfl⟩ := e
      refine Does.plain r (u := .iface t (ρe a)) ?_ (by simp [con, he _ _ hx])
      cases d <;> simp [Instr.makeInterface, run_underlying hd] at hni ⊢
    · simp at e
  · split at e <;> simp only [Option.some.injEq, reduceCtorEq, Prod.mk.injEq] at e
    rename_i x y hx hy
    obtain ⟨rfl, rfl⟩ := e
    have h1 := evL_sound he hx
    have h2 := evL_sound he hy
    refine Does.plain r (u := .func _ (Array.map ρe _) (Array.map ρe _)) (by rfl) ?_
    simp only [con, h1, h2]
    rw [← Array.toList_map, Array.toArray_toList, ← Array.toList_map, Array.toArray_toList]
  · split at e
    · rename_i x y hx hy
      exact (make_sound r hn (he _ _ hx) (he _ _ hy) e).does
    · simp at e
  · split at e
    · rename_i x l hh m hx hl hhi hm
      obtain ⟨e1, rfl⟩ := withH_out e
      obtain ⟨z, h1, h2⟩ := slice_sound (P := P) r (he _ _ hx) (evO_sound he hl) (evO_sound he hhi) (evO_sound he hm) e1
      exact Does.plain r h1 h2
    · simp at e
  · split at e
    · rename_i x hx
      obtain ⟨e1, rfl⟩ := withH_out e
      obtain ⟨z, h1, h2⟩ := fieldAt_sound (P := P) (w := w) (he _ _ hx) e1
      exact Does.plain r h1 h2
    · simp at e
  · split at e
    · rename_i x hx
      obtain ⟨e1, rfl⟩ := withH_out e
      obtain ⟨z, h1, h2⟩ := field_sound (P := P) (w := w) (he _ _ hx) e1
      exact Does.plain r h1 h2
    · simp at e
  · split at e
    · rename_i x y hx hy
      obtain ⟨e1, rfl⟩ := withH_out e
      obtain ⟨z, h1, h2⟩ := indexAt_sound (P := P) (w := w) (he _ _ hx) (he _ _ hy) e1
      exact Does.plain r h1 h2
    · simp at e
  · split at e
    · rename_i x y hx hy
      obtain ⟨e1, rfl⟩ := withH_out e
      obtain ⟨z, h1, h2⟩ := index_sound (P := P) (w := w) (he _ _ hx) (he _ _ hy) e1
      exact Does.plain r h1 h2
    · simp at e
  · split at e
    · rename_i l hl
      obtain ⟨e1, rfl⟩ := withH_out e
      obtain ⟨xs, h1, h2⟩ := con_tuple (he _ _ hl)
      obtain ⟨u, h3, h4⟩ := conL_get h1 _ _ e1
      exact Does.plain r (by simp [h2, Instr.extract, h4]) h3
    · simp at e
  · split at e
    · rename_i c _ b hb
      split at e
      · rename_i l hl
        have h1 := builtin_sound r hn (evL_sound he hl) o.type ((c.args.map fun | .const _ => true | _ => false)) e
        rw [← Array.toList_map, Array.toArray_toList] at h1
        simp only [resolve, hb]
        exact h1
      · simp at e
    · simp at e
  · simp at e
end
end Go.Proofs.Ytpdfalgjmeagjaa
