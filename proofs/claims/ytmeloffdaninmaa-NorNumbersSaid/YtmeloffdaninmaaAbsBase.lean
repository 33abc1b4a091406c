/-
  A small machine of our own that runs a function's code in one order over a memory of its own numbering: its values, its memory, and when a world is as that memory says. No function of the program is named here.
-/
import Derived.WalkKit
import Derived.WalkLawsBesides
import Derived.Laws.Rows
import Derived.Laws.CopyRow
import Derived.Laws.OwnMore
import Derived.Orders
import Derived.Below
namespace Go.Proofs.Ytmeloffdaninmaa
open Go.RowKit
set_option linter.unusedVariables false

/-! ### Trees by numbers -/

inductive Tq (α : Type) where
  | nil
  | node (l : Tq α) (v : Option α) (r : Tq α)

namespace Tq
variable {α : Type}
def get : Nat → Tq α → Nat → Option α
  | 0, _, _ => none
  | _ + 1, .nil, _ => none
  | d + 1, .node l v r, k => match k with
    | 0 => v
    | m + 1 => match m % 2 with
      | 0 => get d l (m / 2)
      | _ => get d r (m / 2)
def set : Nat → Tq α → Nat → Option α → Tq α
  | 0, t, _, _ => t
  | d + 1, .nil, k, x => match k with
    | 0 => .node .nil x .nil
    | m + 1 => match m % 2 with
      | 0 => .node (set d .nil (m / 2) x) none .nil
      | _ => .node .nil none (set d .nil (m / 2) x)
  | d + 1, .node l v r, k, x => match k with
    | 0 => .node l x r
    | m + 1 => match m % 2 with
      | 0 => .node (set d l (m / 2) x) v r
      | _ => .node l v (set d r (m / 2) x)

theorem get_nil : ∀ (d k : Nat), get d (.nil : Tq α) k = none
  | 0, _ => rfl
  | _ + 1, _ => rfl
theorem half_ne {a b : Nat} (h : a ≠ b) (p : a % 2 = b % 2) : a / 2 ≠ b / 2 := by omega
theorem get_set : ∀ (d : Nat) (t : Tq α) (k : Nat) (x : Option α) (j : Nat), k ≠ j → get d (set d t k x) j = get d t j
  | 0, _, _, _, _, _ => rfl
  | d + 1, .nil, k, x, j, h => by
    rcases k with _ | k <;> rcases j with _ | j <;> simp only [set, get]
    · exact absurd rfl h
    · split <;> simp [get_nil]
    · split <;> simp [get]
    · have h' : k ≠ j := fun e => h (by rw [e])
      rcases Nat.mod_two_eq_zero_or_one k with p | p <;> rcases Nat.mod_two_eq_zero_or_one j with q | q <;> simp only [p, q, get, get_nil]
      · rw [get_set d .nil _ x _ (half_ne h' (by rw [p, q])), get_nil]
      · rw [get_set d .nil _ x _ (half_ne h' (by rw [p, q])), get_nil]
  | d + 1, .node l v r, k, x, j, h => by
    rcases k with _ | k <;> rcases j with _ | j <;> simp only [set, get]
    · exact absurd rfl h
    · split <;> simp [get]
    · have h' : k ≠ j := fun e => h (by rw [e])
      rcases Nat.mod_two_eq_zero_or_one k with p | p <;> rcases Nat.mod_two_eq_zero_or_one j with q | q <;> simp only [p, q, get]
      · rw [get_set d l _ x _ (half_ne h' (by rw [p, q]))]
      · rw [get_set d r _ x _ (half_ne h' (by rw [p, q]))]
theorem get_set_self : ∀ (d : Nat) (t : Tq α) (k : Nat) (x y : Option α), get d (set d t k x) k = y → y = x ∨ y = none
  | 0, _, _, _, y, h => .inr h.symm
  | d + 1, .nil, k, x, y, h => by
    rcases k with _ | k <;> simp only [set, get] at h
    · exact .inl h.symm
    · rcases Nat.mod_two_eq_zero_or_one k with p | p <;> simp only [p, get] at h <;> exact get_set_self d _ _ x y h
  | d + 1, .node l v r, k, x, y, h => by
    rcases k with _ | k <;> simp only [set, get] at h
    · exact .inl h.symm
    · rcases Nat.mod_two_eq_zero_or_one k with p | p <;> simp only [p, get] at h <;> exact get_set_self d _ _ x y h
theorem get_set_at : ∀ (d : Nat) (t : Tq α) (k : Nat) (x : Option α), k + 1 < 2 ^ d → get d (set d t k x) k = x
  | 0, _, _, _, h => by simp at h
  | d + 1, .nil, k, x, h => by
    have h2 : 2 ^ (d + 1) = 2 ^ d * 2 := Nat.pow_succ 2 d
    rcases k with _ | k
    · rfl
    · rcases Nat.mod_two_eq_zero_or_one k with p | p <;> simp only [set, p, get] <;> exact get_set_at d _ _ x (by omega)
  | d + 1, .node l v r, k, x, h => by
    have h2 : 2 ^ (d + 1) = 2 ^ d * 2 := Nat.pow_succ 2 d
    rcases k with _ | k
    · rfl
    · rcases Nat.mod_two_eq_zero_or_one k with p | p <;> simp only [set, p, get] <;> exact get_set_at d _ _ x (by omega)
end Tq

/-- How deep a tree is looked into. -/
abbrev deep : Nat := 40

/-! ### Values -/

/-- A slice's room: so much; or what its block has, less so many; or the same of an empty one, that begins elsewhere if it has none. -/
inductive Cap where
  | is (n : Nat)
  | upTo (d : Nat)
  | gone (d o : Nat)
def Cap.at_ (C : Nat) : Cap → Nat
  | .is n => n
  | .upTo d => C - d
  | .gone d _ => C - d
def Cap.off (C o : Nat) : Cap → Nat
  | .gone d o1 => if C ≤ d then o1 else o
  | _ => o

inductive AV where
  | bool (b : Bool)
  | int (k : IntKind) (n : Int)
  | string (s : ByteArray)
  | pointer (a : Option (Nat × Nat))
  | slice (a : Option (Nat × Nat)) (n : Nat) (c : Cap)
  | func (f : Fn) (first captured : List AV)
  | nilFunc
  | iface (t : TypeId) (v : AV)
  | nilIface
  | map (r : Option Nat)
  | agg (l : List AV)
  | tuple (l : List AV)
  | opq (v : Value)
instance : Inhabited AV := ⟨.tuple []⟩
abbrev AV.undef : AV := .tuple []

def AV.cells : AV → List AV
  | .agg l => l
  | v => [v]
def AV.one : AV → Bool
  | .agg _ | .tuple _ => false
  | _ => true

/-- Where each block of the small memory lies: its number in the world, and how many elements it has room for. -/
abbrev Pos := Nat → Option (Nat × Nat)

/-- A value that is handed on, and not looked into. -/
def opaqV : Value → Bool
  | .int _ _ | .string _ | .pointer _ | .slice _ _ _ | .map _ => true
  | _ => false
mutual
def con (ρ : Pos) : AV → Option Value
  | .opq v => match opaqV v with
    | true => some v
    | false => none
  | .bool b => some (.bool b)
  | .int k n => some (.int k n)
  | .string s => some (.string s)
  | .pointer none => some (.pointer none)
  | .pointer (some p) => (ρ p.1).map fun g => .pointer (some ⟨g.1, p.2, none⟩)
  | .slice none n (.is c) => some (.slice none n c)
  | .slice none _ (.upTo _) => none
  | .slice none _ (.gone _ _) => none
  | .slice (some p) n c => (ρ p.1).map fun g => .slice (some ⟨g.1, c.off g.2 p.2, none⟩) n (c.at_ g.2)
  | .func f x y => match conL ρ x, conL ρ y with
    | some xs, some ys => some (.func f xs.toArray ys.toArray)
    | _, _ => none
  | .nilFunc => some .nilFunc
  | .iface t v => match con ρ v with
    | some u => some (.iface t u)
    | none => none
  | .nilIface => some .nilIface
  | .map none => some (.map none)
  | .map (some _) => none
  | .agg l => match conL ρ l with
    | some xs => some (.agg xs.toArray)
    | none => none
  | .tuple l => match conL ρ l with
    | some xs => some (.tuple xs.toArray)
    | none => none
def conL (ρ : Pos) : List AV → Option (List Value)
  | [] => some []
  | v :: l => match con ρ v, conL ρ l with
    | some x, some xs => some (x :: xs)
    | _, _ => none
end

/-- One numbering has all that another one has. -/
def Pos.le (ρ ρ' : Pos) : Prop := ∀ b g, ρ b = some g → ρ' b = some g
theorem Pos.le_refl (ρ : Pos) : ρ.le ρ := fun _ _ h => h
theorem Pos.le_trans {a b c : Pos} (h : a.le b) (k : b.le c) : a.le c := fun x g e => k x g (h x g e)

theorem con_opq {ρ : Pos} {v u : Value} (e : con ρ (.opq v) = some u) : u = v ∧ opaqV v = true := by
  simp only [con] at e
  split at e
  · rename_i h
    simp at e
    exact ⟨e.symm, h⟩
  · simp at e
mutual
theorem con_mono {ρ ρ' : Pos} (h : ρ.le ρ') : ∀ (v : AV) (x : Value), con ρ v = some x → con ρ' v = some x
  | .opq _, _, e => e
  | .bool _, _, e => e
  | .int _ _, _, e => e
  | .string _, _, e => e
  | .pointer none, _, e => e
  | .pointer (some p), x, e => by
    simp only [con, Option.map_eq_some_iff] at e ⊢
    obtain ⟨g, hg, hx⟩ := e
    exact ⟨g, h _ _ hg, hx⟩
  | .slice none _ (.is _), _, e => e
  | .slice none _ (.upTo _), _, e => e
  | .slice none _ (.gone _ _), _, e => e
  | .slice (some p) n c, x, e => by
    simp only [con, Option.map_eq_some_iff] at e ⊢
    obtain ⟨g, hg, hx⟩ := e
    exact ⟨g, h _ _ hg, hx⟩
  | .func f a b, x, e => by
    simp only [con] at e ⊢
    cases ha : conL ρ a with
    | none => simp [ha] at e
    | some xs =>
      cases hb : conL ρ b with
      | none => simp [ha, hb] at e
      | some ys => simpa [conL_mono h a xs ha, conL_mono h b ys hb, ha, hb] using e
  | .nilFunc, _, e => e
  | .iface t v, x, e => by
    simp only [con] at e ⊢
    cases hv : con ρ v with
    | none => simp [hv] at e
    | some u => simpa [con_mono h v u hv, hv] using e
  | .nilIface, _, e => e
  | .map none, _, e => e
  | .map (some _), _, e => e
  | .agg l, x, e => by
    simp only [con] at e ⊢
    cases hl : conL ρ l with
    | none => simp [hl] at e
    | some xs => simpa [conL_mono h l xs hl, hl] using e
  | .tuple l, x, e => by
    simp only [con] at e ⊢
    cases hl : conL ρ l with
    | none => simp [hl] at e
    | some xs => simpa [conL_mono h l xs hl, hl] using e
theorem conL_mono {ρ ρ' : Pos} (h : ρ.le ρ') : ∀ (l : List AV) (x : List Value), conL ρ l = some x → conL ρ' l = some x
  | [], _, e => e
  | v :: l, x, e => by
    simp only [conL] at e ⊢
    cases hv : con ρ v with
    | none => simp [hv] at e
    | some u =>
      cases hl : conL ρ l with
      | none => simp [hv, hl] at e
      | some us => simpa [con_mono h v u hv, conL_mono h l us hl, hv, hl] using e
end

section
variable {ρ : Pos}
theorem conL_length : ∀ {l : List AV} {x : List Value}, conL ρ l = some x → x.length = l.length
  | [], x, e => by simp [conL] at e; simp [← e]
  | v :: l, x, e => by
    simp only [conL] at e
    cases hv : con ρ v with
    | none => simp [hv] at e
    | some u =>
      cases hl : conL ρ l with
      | none => simp [hv, hl] at e
      | some us =>
        simp [hv, hl] at e
        simp [← e, conL_length hl]
theorem conL_cons {v : AV} {l : List AV} {x : List Value} (e : conL ρ (v :: l) = some x) : ∃ u us, con ρ v = some u ∧ conL ρ l = some us ∧ x = u :: us := by
  simp only [conL] at e
  cases hv : con ρ v with
  | none => simp [hv] at e
  | some u =>
    cases hl : conL ρ l with
    | none => simp [hv, hl] at e
    | some us =>
      simp [hv, hl] at e
      exact ⟨u, us, rfl, rfl, e.symm⟩
theorem conL_mk {v : AV} {l : List AV} {u : Value} {us : List Value} (h : con ρ v = some u) (k : conL ρ l = some us) : conL ρ (v :: l) = some (u :: us) := by simp [conL, h, k]
theorem conL_get : ∀ {l : List AV} {x : List Value}, conL ρ l = some x → ∀ (j : Nat) (v : AV), l[j]? = some v → ∃ u, con ρ v = some u ∧ x[j]? = some u
  | [], _, _, j, v, h => by simp at h
  | a :: l, x, e, j, v, h => by
    obtain ⟨u, us, h1, h2, rfl⟩ := conL_cons e
    rcases j with _ | j
    · simp at h
      subst h
      exact ⟨u, h1, by simp⟩
    · obtain ⟨y, hy, hz⟩ := conL_get h2 j v (by simpa using h)
      exact ⟨y, hy, by simpa using hz⟩
theorem conL_of : ∀ {l : List AV} {x : List Value}, l.length = x.length → (∀ (j : Nat) (v : AV) (u : Value), l[j]? = some v → x[j]? = some u → con ρ v = some u) → conL ρ l = some x
  | [], [], _, _ => rfl
  | [], _ :: _, h, _ => by simp at h
  | _ :: _, [], h, _ => by simp at h
  | a :: l, b :: x, h, k => conL_mk (k 0 a b rfl rfl) (conL_of (by simpa using h) (fun j v u hv hu => k (j + 1) v u (by simpa using hv) (by simpa using hu)))
theorem conL_append {l m : List AV} {x y : List Value} (h : conL ρ l = some x) (k : conL ρ m = some y) : conL ρ (l ++ m) = some (x ++ y) := by
  induction l generalizing x with
  | nil => simp [conL] at h; subst h; simpa using k
  | cons a l ih =>
    obtain ⟨u, us, h1, h2, rfl⟩ := conL_cons h
    exact conL_mk h1 (ih h2)
theorem conL_replicate {v : AV} {u : Value} (h : con ρ v = some u) : ∀ n, conL ρ (List.replicate n v) = some (List.replicate n u)
  | 0 => rfl
  | n + 1 => conL_mk h (conL_replicate h n)
theorem conL_take {l : List AV} {x : List Value} (h : conL ρ l = some x) (n : Nat) : conL ρ (l.take n) = some (x.take n) := by
  have hl := conL_length h
  refine conL_of (by simp [hl]) fun j v u hv hu => ?_
  rw [List.getElem?_take] at hv hu
  split at hv
  · rename_i hj
    rw [if_pos hj] at hu
    obtain ⟨y, h1, h2⟩ := conL_get h j v hv
    rw [hu] at h2
    simp at h2
    rw [h1, h2]
  · simp at hv
theorem conL_drop {l : List AV} {x : List Value} (h : conL ρ l = some x) (n : Nat) : conL ρ (l.drop n) = some (x.drop n) := by
  have hl := conL_length h
  refine conL_of (by simp [hl]) fun j v u hv hu => ?_
  rw [List.getElem?_drop] at hv hu
  obtain ⟨y, h1, h2⟩ := conL_get h _ v hv
  rw [hu] at h2
  simp at h2
  rw [h1, h2]
/-- A value's cells. -/
theorem con_cells {v : AV} {x : Value} (h : con ρ v = some x) : conL ρ v.cells = some x.cells.toList := by
  cases v <;> try (simp only [AV.cells, conL, h])
  case agg l =>
    simp only [con] at h
    cases hl : conL ρ l with
    | none => simp [hl] at h
    | some xs =>
      simp [hl] at h
      subst h
      simp [Value.cells]
  case pointer a => cases a <;> simp [con] at h <;> (try obtain ⟨_, _, _, rfl⟩ := h) <;> (try subst h) <;> rfl
  case slice a n c =>
    cases a
    · cases c <;> simp [con] at h
      subst h
      rfl
    · simp [con] at h
      obtain ⟨_, _, _, rfl⟩ := h
      rfl
  case func f a b =>
    simp only [con] at h
    split at h
    · simp at h; subst h; rfl
    · simp at h
  case iface t v =>
    simp only [con] at h
    split at h
    · simp at h; subst h; rfl
    · simp at h
  case map r =>
    cases r <;> simp [con] at h
    subst h; rfl
  case tuple l =>
    simp only [con] at h
    split at h
    · simp at h; subst h; rfl
    · simp at h
  case opq v =>
    obtain ⟨rfl, ho⟩ := con_opq h
    cases x <;> first | rfl | simp [opaqV] at ho
  all_goals (simp [con] at h; subst h; rfl)
theorem con_one {v : AV} {x : Value} (h : con ρ v = some x) (ho : v.one = true) : x.oneCell' = true := by
  cases v <;> simp [AV.one] at ho
  case pointer a => cases a <;> simp [con] at h <;> (try obtain ⟨_, _, _, rfl⟩ := h) <;> (try subst h) <;> rfl
  case slice a n c =>
    cases a
    · cases c <;> simp [con] at h
      subst h
      rfl
    · simp [con] at h
      obtain ⟨_, _, _, rfl⟩ := h
      rfl
  case func f a b =>
    simp only [con] at h
    split at h
    · simp at h; subst h; rfl
    · simp at h
  case iface t v =>
    simp only [con] at h
    split at h
    · simp at h; subst h; rfl
    · simp at h
  case map r =>
    cases r <;> simp [con] at h
    subst h; rfl
  case opq v =>
    obtain ⟨rfl, ho⟩ := con_opq h
    cases x <;> first | rfl | simp [opaqV] at ho
  all_goals (simp [con] at h; subst h; rfl)
end

/-! ### Memory -/

/-- A block's cells: a list; or so many, all as one, but for those that are told. -/
inductive Cel where
  | list (l : List AV)
  | tree (n : Nat) (z : AV) (t : Tq AV)
def Cel.size : Cel → Nat
  | .list l => l.length
  | .tree n _ _ => n
def Cel.get : Cel → Nat → Option AV
  | .list l, j => l[j]?
  | .tree n z t, j => match Nat.blt j n, Nat.blt j 549755813888 with
    | true, true => some ((t.get deep j).getD z)
    | _, _ => none
def Cel.set : Cel → Nat → AV → Cel
  | .list l, j, v => .list (l.set j v)
  | .tree n z t, j, v => .tree n z (t.set deep j (some v))

structure Blk where
  elem : TypeId
  cells : Cel
  /-- all of the block's cells -/
  whole : Bool
  /-- cells of an element, where more may stand behind -/
  esz : Nat
  /-- may be written -/
  rw : Bool

structure H where
  bl : Tq Blk
  next : Nat
def H.get (h : H) (b : Nat) : Option Blk := h.bl.get deep b
def H.set (h : H) (b : Nat) (x : Blk) : H := ⟨h.bl.set deep b (some x), h.next⟩
def H.del (h : H) (b : Nat) : H := ⟨h.bl.set deep b none, h.next⟩
/-- A block more, with a number of its own. -/
def H.push (h : H) (x : Blk) : H := ⟨h.bl.set deep h.next (some x), h.next + 1⟩

theorem H.get_set {h : H} {b c : Nat} {x y : Blk} (e : (h.set b x).get c = some y) : (c = b ∧ y = x) ∨ (c ≠ b ∧ h.get c = some y) := by
  by_cases hc : c = b
  · subst hc
    left
    rcases Tq.get_set_self deep h.bl c (some x) _ e with h1 | h1
    · exact ⟨rfl, by simpa using h1⟩
    · simp at h1
  · right
    refine ⟨hc, ?_⟩
    have := Tq.get_set deep h.bl b (some x) c (Ne.symm hc)
    unfold H.get H.set at e
    unfold H.get
    rw [← this]
    exact e
theorem H.get_del {h : H} {b c : Nat} {y : Blk} (e : (h.del b).get c = some y) : c ≠ b ∧ h.get c = some y := by
  by_cases hc : c = b
  · subst hc
    rcases Tq.get_set_self deep h.bl c none _ e with h1 | h1 <;> simp at h1
  · refine ⟨hc, ?_⟩
    have := Tq.get_set deep h.bl b none c (Ne.symm hc)
    unfold H.get H.del at e
    unfold H.get
    rw [← this]
    exact e
theorem H.get_push {h : H} {c : Nat} {x y : Blk} (e : (h.push x).get c = some y) : (c = h.next ∧ y = x) ∨ (c ≠ h.next ∧ h.get c = some y) :=
  H.get_set (h := h) (b := h.next) (x := x) e

/-! ### A world as the memory says -/

structure BlkIs (ρ : Pos) (C : Nat) (x : Blk) (cur : Array Value) (fz : Nat × Nat) : Prop where
  free : x.rw = true → fz.1 = fz.2 ∨ cur.size ≤ fz.1
  fits : x.cells.size ≤ cur.size
  whole : x.whole = true → cur.size = x.cells.size
  more : x.whole = false → cur.size = C * x.esz ∧ C ≤ maxLen
  cell : ∀ j v, x.cells.get j = some v → ∃ u, con ρ v = some u ∧ cur[j]? = some u

structure Rel (ρ : Pos) (h : H) (w : World) : Prop where
  at_ : ∀ b x, h.get b = some x → ∃ g C cur fz, ρ b = some (g, C) ∧ w.heap[g]? = some (.cells cur x.elem fz) ∧ BlkIs ρ C x cur fz
  inj : ∀ b c x y g C D, h.get b = some x → h.get c = some y → ρ b = some (g, C) → ρ c = some (g, D) → b ≠ c → x.rw = false ∧ y.rw = false

structure Ext (ρ : Pos) (h : H) (w : World) (ρ' : Pos) (h' : H) (w' : World) : Prop where
  le : ρ.le ρ'
  next : h.next ≤ h'.next
  os : w'.os = w.os
  tape : w'.tape = w.tape
  output : w'.output = w.output
  size : w.heap.size ≤ w'.heap.size
  keep : ∀ k, k < w.heap.size → (∀ b x C, h.get b = some x → x.rw = true → ρ b ≠ some (k, C)) → w'.heap[k]? = w.heap[k]?
  own : ∀ b x k C, h'.get b = some x → x.rw = true → ρ' b = some (k, C) → k < w.heap.size → ∃ b' x' C', h.get b' = some x' ∧ x'.rw = true ∧ ρ b' = some (k, C')
  only : ∀ b, b < h.next → ρ' b = ρ b
  ro : ∀ b x, h'.get b = some x → x.rw = false → h.get b = some x

section
variable {ρ ρ' ρ'' : Pos} {h h' h'' : H} {w w' w'' : World}

theorem Ext.refl (ρ : Pos) (h : H) (w : World) : Ext ρ h w ρ h w :=
  ⟨Pos.le_refl _, Nat.le_refl _, rfl, rfl, rfl, Nat.le_refl _, fun _ _ _ => rfl, fun b x k C hb hr hp _ => ⟨b, x, C, hb, hr, hp⟩, fun _ _ => rfl, fun _ _ hb _ => hb⟩
theorem Ext.trans (a : Ext ρ h w ρ' h' w') (b' : Ext ρ' h' w' ρ'' h'' w'') : Ext ρ h w ρ'' h'' w'' :=
  have only' : ∀ b, b < h.next → ρ'' b = ρ b := fun b hb => (b'.only b (Nat.lt_of_lt_of_le hb a.next)).trans (a.only b hb)
  ⟨Pos.le_trans a.le b'.le, Nat.le_trans a.next b'.next, b'.os.trans a.os, b'.tape.trans a.tape, b'.output.trans a.output, Nat.le_trans a.size b'.size,
    fun k hk hn => by
      rw [b'.keep k (Nat.lt_of_lt_of_le hk a.size) (fun c x C hc hr hp => by
        obtain ⟨c', x', C', h1, h2, h3⟩ := a.own c x k C hc hr hp hk
        exact hn c' x' C' h1 h2 h3)]
      exact a.keep k hk hn,
    fun c x k C hc hr hp hk => by
      obtain ⟨c', x', C', h1, h2, h3⟩   := b'.own c x k C hc hr hp (Nat.lt_of_lt_of_le hk a.size)
      exact a.own c' x' k C' h1 h2 h3 hk,
    fun b hb => (only' b hb), fun b x hb hr => a.ro b x (b'.ro b x hb hr) hr⟩
/-- A draw changes nothing of it. -/
theorem Rel.heap (r : Rel ρ h w) (e : w'.heap = w.heap) : Rel ρ h w' :=
  ⟨fun b x hb => by rw [e]; exact r.at_ b x hb, r.inj⟩
theorem Ext.drawn (e : w'.heap = w.heap) (h1 : w'.os = w.os) (h2 : w'.tape = w.tape) (h3 : w'.output = w.output) : Ext ρ h w ρ h w' :=
  ⟨Pos.le_refl _, Nat.le_refl _, h1, h2, h3, by rw [e]; exact Nat.le_refl _, fun _ _ _ => by rw [e], fun b x k C hb hr hp _ => ⟨b, x, C, hb, hr, hp⟩, fun _ _ => rfl, fun _ _ hb _ => hb⟩

theorem BlkIs.mono {C : Nat} {x : Blk} {cur : Array Value} {fz : Nat × Nat} (hx : BlkIs ρ C x cur fz) (l : ρ.le ρ') : BlkIs ρ' C x cur fz :=
  ⟨hx.free, hx.fits, hx.whole, hx.more, fun j v hv => by
    obtain ⟨u, h1, h2⟩ := hx.cell j v hv
    exact ⟨u, con_mono l v u h1, h2⟩⟩
/-- One place more. -/
def Pos.put (ρ : Pos) (b : Nat) (g : Nat × Nat) : Pos := fun c => if c = b then some g else ρ c
theorem Pos.put_self (ρ : Pos) (b : Nat) (g : Nat × Nat) : ρ.put b g b = some g := by simp [Pos.put]
theorem Pos.put_ne (ρ : Pos) {b c : Nat} (g : Nat × Nat) (e : c ≠ b) : ρ.put b g c = ρ c := by simp [Pos.put, e]
theorem Pos.le_put {b : Nat} (g : Nat × Nat) (hb : ρ b = none) : ρ.le (ρ.put b g) := fun c x hc => by
  by_cases e : c = b
  · subst e; rw [hb] at hc; cases hc
  · rw [Pos.put_ne ρ g e]; exact hc
/-- Behind one operation: no place more, or one, of the next number. -/
def Grow (ρ : Pos) (h : H) (ρ' : Pos) (h' : H) : Prop := (ρ' = ρ ∧ h'.next = h.next) ∨ (∃ g, ρ' = ρ.put h.next g ∧ h'.next = h.next + 1)
/-- No number from the next one on has a place. -/
def New (ρ : Pos) (h : H) : Prop := ∀ b, h.next ≤ b → ρ b = none
theorem New.grow (n : New ρ h) (g : Grow ρ h ρ' h') : New ρ' h' := by
  intro b hb
  rcases g with ⟨rfl, e⟩ | ⟨q, rfl, e⟩
  · exact n b (by omega)
  · rw [Pos.put_ne ρ q (by omega)]
    exact n b (by omega)
/-- A new block. -/
theorem Rel.push (r : Rel ρ h w) (hn : ρ h.next = none) (x : Blk) (C : Nat) (w1 : World) (hw : w1.heap = w.heap) (cur : Array Value) (fz : Nat × Nat) (hx : BlkIs ρ C x cur fz) :
    Rel (ρ.put h.next (w.heap.size, C)) (h.push x) (w1.alloc (.cells cur x.elem fz)) := by
  have l : ρ.le (ρ.put h.next (w.heap.size, C)) := Pos.le_put _ hn
  have hsz : w1.heap.size = w.heap.size := by rw [hw]
  have hold : ∀ k, k < w.heap.size → (w1.alloc (.cells cur x.elem fz)).heap[k]? = w.heap[k]? := fun k hk => by rw [heap_alloc_old w1 _ (by omega), hw]
  have hlt : ∀ {b : Nat} {y : Blk} {g D : Nat}, h.get b = some y → ρ b = some (g, D) → g < w.heap.size := fun {b y g D} hb hp => by
    obtain ⟨g', C', cur', fz', h1, h2, _⟩ := r.at_ b y hb
    rw [hp] at h1
    simp at h1
    rw [h1.1]
    exact (Array.getElem?_eq_some_iff.1 h2).1
  refine ⟨fun b y hb => ?_, fun b c y z g D E hb hc hpb hpc hne => ?_⟩
  · rcases H.get_push hb with ⟨rfl, rfl⟩ | ⟨hn, hb'⟩
    · exact ⟨w.heap.size, C, cur, fz, Pos.put_self _ _ _, by rw [← hsz]; exact heap_alloc_new _ _, hx.mono l⟩
    · obtain ⟨g, D, cur', fz', h1, h2, h3⟩ := r.at_ b y hb'
      exact ⟨g, D, cur', fz', by rw [Pos.put_ne _ _ hn]; exact h1, by rw [hold g (hlt hb' h1)]; exact h2, h3.mono l⟩
  · rcases H.get_push hb with ⟨rfl, rfl⟩ | ⟨hn, hb'⟩
    · rw [Pos.put_self] at hpb
      rcases H.get_push hc with ⟨rfl, rfl⟩ | ⟨hn', hc'⟩
      · exact absurd rfl hne
      · rw [Pos.put_ne _ _ hn'] at hpc
        have := hlt hc' hpc
        simp at hpb
        omega
    · rw [Pos.put_ne _ _ hn] at hpb
      rcases H.get_push hc with ⟨rfl, rfl⟩ | ⟨hn', hc'⟩
      · rw [Pos.put_self] at hpc
        have := hlt hb' hpb
        simp at hpc
        omega
      · rw [Pos.put_ne _ _ hn'] at hpc
        exact r.inj b c y z g D E hb' hc' hpb hpc hne
theorem Ext.push (r : Rel ρ h w) (hn : ρ h.next = none) (x : Blk) (hrw : x.rw = true) (C : Nat) (w1 : World) (hw : w1.heap = w.heap) (h1 : w1.os = w.os) (h2 : w1.tape = w.tape) (h3 : w1.output = w.output) (cur : Array Value) (fz : Nat × Nat) :
    Ext ρ h w (ρ.put h.next (w.heap.size, C)) (h.push x) (w1.alloc (.cells cur x.elem fz)) := by
  refine ⟨Pos.le_put _ hn, Nat.le_succ _, h1, h2, h3, ?_, fun k hk _ => ?_, fun b y k D hb hr hp hk => ?_, fun b hb => Pos.put_ne _ _ (Nat.ne_of_lt hb), fun b y hb hr => ?_⟩
  · show w.heap.size ≤ (w1.heap.push _).size
    rw [Array.size_push, hw]
    omega
  · rw [heap_alloc_old w1 _ (by rw [hw]; exact hk), hw]
  · rcases H.get_push hb with ⟨rfl, rfl⟩ | ⟨hn, hb'⟩
    · rw [Pos.put_self] at hp
      simp at hp
      omega
    · rw [Pos.put_ne _ _ hn] at hp
      exact ⟨b, y, D, hb', hr, hp⟩
  · rcases H.get_push hb with ⟨rfl, rfl⟩ | ⟨hn, hb'⟩
    · rw [hrw] at hr
      cases hr
    · exact hb'
/-- A block that is written. -/
theorem Rel.write (r : Rel ρ h w) {b g C : Nat} {x x' : Blk} (hb : h.get b = some x) (hr : x.rw = true) (hp : ρ b = some (g, C)) (cur' : Array Value) (fz' : Nat × Nat)
    (hg : w'.heap[g]? = some (.cells cur' x'.elem fz')) (hk : ∀ k, k ≠ g → w'.heap[k]? = w.heap[k]?) (hr' : x'.rw = true) (hx : BlkIs ρ C x' cur' fz') : Rel ρ (h.set b x') w' := by
  refine ⟨fun c y hc => ?_, fun c d y z q D E hc hd hpc hpd hne => ?_⟩
  · rcases H.get_set hc with ⟨rfl, rfl⟩ | ⟨hn, hc'⟩
    · exact ⟨g, C, cur', fz', hp, hg, hx⟩
    · obtain ⟨q, D, cu, fz, h1, h2, h3⟩ := r.at_ c y hc'
      refine ⟨q, D, cu, fz, h1, ?_, h3⟩
      rw [hk q (fun e => ?_)]
      · exact h2
      · subst e
        have := (r.inj b c x y q C D hb hc' hp h1 (Ne.symm hn)).1
        rw [hr] at this
        cases this
  · rcases H.get_set hc with ⟨rfl, rfl⟩ | ⟨hn, hc'⟩
    · rcases H.get_set hd with ⟨rfl, rfl⟩ | ⟨hn', hd'⟩
      · exact absurd rfl hne
      · have := (r.inj c d x z q D E hb hd' hpc hpd hne).1
        rw [hr] at this
        cases this
    · rcases H.get_set hd with ⟨rfl, rfl⟩ | ⟨hn', hd'⟩
      · have := (r.inj c d y x q D E hc' hb hpc hpd hne).2
        rw [hr] at this
        cases this
      · exact r.inj c d y z q D E hc' hd' hpc hpd hne
theorem Ext.write (r : Rel ρ h w) {b g C : Nat} {x x' : Blk} (hb : h.get b = some x) (hr : x.rw = true) (hr' : x'.rw = true) (hp : ρ b = some (g, C))
    (h1 : w'.os = w.os) (h2 : w'.tape = w.tape) (h3 : w'.output = w.output) (hs : w.heap.size ≤ w'.heap.size) (hk : ∀ k, k ≠ g → w'.heap[k]? = w.heap[k]?) : Ext ρ h w ρ (h.set b x') w' := by
  refine ⟨Pos.le_refl _, Nat.le_refl _, h1, h2, h3, hs, fun k _ hn => hk k (fun e => hn b x C hb hr (by rw [e]; exact hp)), fun c y k D hc hrc hpc hkl => ?_, fun _ _ => rfl, fun c y hc hrc => ?_⟩
  · rcases H.get_set hc with ⟨rfl, rfl⟩ | ⟨hn, hc'⟩
    · exact ⟨c, x, D, hb, hr, hpc⟩
    · exact ⟨c, y, D, hc', hrc, hpc⟩
  · rcases H.get_set hc with ⟨rfl, rfl⟩ | ⟨hn, hc'⟩
    · rw [hr'] at hrc
      cases hrc
    · exact hc'
/-- A block forgotten. -/
theorem Rel.del (r : Rel ρ h w) (b : Nat) : Rel ρ (h.del b) w :=
  ⟨fun c y hc => r.at_ c y (H.get_del hc).2, fun c d y z q D E hc hd hpc hpd hne => r.inj c d y z q D E (H.get_del hc).2 (H.get_del hd).2 hpc hpd hne⟩
theorem Ext.below (e : Ext ρ h w ρ' h' w') (hr : ∀ b x, h.get b = some x → x.rw = false) : Below w.heap.size w w' :=
  ⟨e.os, e.tape, e.output, e.size, fun k hk => e.keep k hk (fun b x C hb hx => by rw [hr b x hb] at hx; cases hx)⟩
end
end Go.Proofs.Ytmeloffdaninmaa
