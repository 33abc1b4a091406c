/-
  Words for memory that all proofs of this seat share: slices that read as a list of cells, slices in new memory, and how both last behind other calls. No function of the program is named here.
-/
import Derived.WalkKit
import Derived.WalkSpells
import Derived.WalkLawsBesides
import Derived.Laws.CopyOwn
import Derived.Deep.QuietTactic
import Derived.BigQuiet
import Derived.Lib.Hide
namespace Go.Proofs.Ytangblcfdboghaa
open Go.RowKit

/-- The cells of bytes, and of words of 32 bits. -/
abbrev cb (l : List UInt8) : List Value := l.map fun c => .int .u8 (c.toNat : Int)
abbrev cw (l : List UInt32) : List Value := l.map fun c => .int .u32 (c.toNat : Int)

/-- From this address on the cells read so, below block B; of an empty list nothing is asked. -/
def Sees (w : World) (B : Nat) (A : Option Addr) (xs : List Value) : Prop :=
  0 < xs.length → ∃ b o, A = some ⟨b, o, none⟩ ∧ b < B ∧ ∀ j u, xs[j]? = some u → w.cell? ⟨b, o + j, none⟩ = some u

/-- A slice of new memory (blocks from base on), of elements of type e (one cell each), with room of its own. -/
def Fresh (base : Nat) (e : TypeId) (w : World) (A : Option Addr) (n c : Nat) (xs : List Value) : Prop :=
  w.ownsRow base e 1 (.slice A n c) n xs

section
variable {w w' : World} {B B' base : Nat} {A : Option Addr} {xs : List Value} {e : TypeId} {n c : Nat}

theorem Sees.nil : Sees w B A [] := fun h => absurd h (by simp)
theorem Sees.at_ {k : Nat} (h : Sees w B A xs) (hk : k < xs.length) : ∃ b o, A = some ⟨b, o, none⟩ ∧ b < B ∧ w.cell? ⟨b, o + k, none⟩ = some xs[k] := by
  obtain ⟨b, o, e, hb, hc⟩ := h (by omega)
  exact ⟨b, o, e, hb, hc k _ (List.getElem?_eq_getElem hk)⟩
theorem Sees.keep (h : Sees w B A xs) (hk : ∀ p : Addr, p.block < B → w'.cell? p = w.cell? p) : Sees w' B A xs := fun hn => by
  obtain ⟨b, o, e, hb, hc⟩ := h hn
  exact ⟨b, o, e, hb, fun j u hu => (hk _ hb).trans (hc j u hu)⟩
theorem Sees.more (h : Sees w B A xs) (hB : B ≤ B') : Sees w B' A xs := fun hn => by
  obtain ⟨b, o, e, hb, hc⟩ := h hn
  exact ⟨b, o, e, by omega, hc⟩
theorem Sees.below (h : Sees w B A xs) (hb : Below B w w') : Sees w' B A xs := h.keep fun _ hp => hb.cell hp
theorem Sees.step (h : Sees w w.heap.size A xs) (hb : Below w.heap.size w w') : Sees w' w'.heap.size A xs := (h.below hb).more hb.size
theorem Sees.drop_ (h : Sees w B (some ⟨B', c, none⟩) xs) (k : Nat) : Sees w B (some ⟨B', c + k, none⟩) (xs.drop k) := fun hn => by
  obtain ⟨b, o, e, hb, hc⟩ := h (by simp at hn; omega)
  obtain ⟨rfl, rfl⟩ : b = B' ∧ o = c := by simpa [eq_comm] using e
  refine ⟨b, o + k, rfl, hb, fun j u hu => ?_⟩
  rw [Nat.add_assoc]
  exact hc _ u (by rw [← hu, List.getElem?_drop])
theorem Sees.take_ (h : Sees w B A xs) (k : Nat) : Sees w B A (xs.take k) := fun hn => by
  obtain ⟨b, o, e, hb, hc⟩ := h (by simp at hn; omega)
  refine ⟨b, o, e, hb, fun j u hu => hc j u ?_⟩
  rw [List.getElem?_take] at hu
  split at hu
  · exact hu
  · cases hu

theorem Fresh.len (h : Fresh base e w A n c xs) : xs.length = n := by simpa using h.1
theorem Fresh.cap (h : Fresh base e w A n c xs) : n ≤ c ∧ c ≤ maxLen := by
  rcases h.2 with ⟨hv, rfl⟩ | ⟨g, cap, cur, hv, _, _, hn, hm, _⟩
  · simp at hv
    obtain ⟨_, rfl⟩ := hv
    exact ⟨Nat.le_refl _, Nat.zero_le _⟩
  · simp at hv
    obtain ⟨_, rfl⟩ := hv
    exact ⟨hn, hm⟩
theorem Fresh.sees (h : Fresh base e w A n c xs) : Sees w w.heap.size A xs := fun hn => by
  rcases h.2 with ⟨_, rfl⟩ | ⟨g, cap, cur, hv, hb, hg, _, _, _, ht⟩
  · have := h.len; omega
  · simp at hv
    obtain ⟨rfl, rfl⟩ := hv
    refine ⟨g, 0, rfl, (Array.getElem?_eq_some_iff.1 hg).1, fun j u hu => ?_⟩
    rw [Nat.zero_add, cell_of_row w g j cur e (0, 0) hg]
    rw [← ht, List.getElem?_take] at hu
    split at hu
    · simpa using hu
    · cases hu
/-- New memory stays as it is behind a call that writes nothing that was there. -/
theorem Fresh.below (h : Fresh base e w A n c xs) (hb : Below w.heap.size w w') : Fresh base e w' A n c xs := by
  refine ⟨h.1, ?_⟩
  rcases h.2 with hn | ⟨g, cap, cur, hv, hbg, hg, rest⟩
  · exact .inl hn
  · exact .inr ⟨g, cap, cur, hv, hbg, by rw [hb.block g (Array.getElem?_eq_some_iff.1 hg).1]; exact hg, rest⟩
theorem Fresh.lower {base' : Nat} (h : Fresh base e w A n c xs) (hb : base' ≤ base) : Fresh base' e w A n c xs := by
  refine ⟨h.1, ?_⟩
  rcases h.2 with hn | ⟨g, cap, cur, hv, hbg, rest⟩
  · exact .inl hn
  · exact .inr ⟨g, cap, cur, hv, by omega, rest⟩
/-- A slice without spare room that was made here is a whole block. -/
theorem Fresh.block {g : Nat} (h : Fresh base e w (some ⟨g, 0, none⟩) n n xs) : w.heap[g]? = some (.cells xs.toArray e (0, 0)) ∧ base ≤ g := by
  rcases h.2 with ⟨hv, _⟩ | ⟨g', cap, cur, hv, hb, hg, _, _, hs, ht⟩
  · simp at hv
  · simp only [Value.slice.injEq, Option.some.injEq, Addr.mk.injEq, and_true, true_and] at hv
    obtain ⟨rfl, rfl⟩ := hv
    refine ⟨?_, hb⟩
    have e1 : cur.toList = xs := by
      rw [← ht]
      exact (List.take_of_length_le (by simp [hs])).symm
    rw [hg, ← e1]
theorem Fresh.of_block {g : Nat} (hg : w.heap[g]? = some (.cells xs.toArray e (0, 0))) (hb : base ≤ g) (hl : xs.length = n) (hm : n ≤ maxLen) : Fresh base e w (some ⟨g, 0, none⟩) n n xs :=
  ⟨by simpa using hl, .inr ⟨g, n, xs.toArray, rfl, hb, hg, Nat.le_refl _, hm, by simpa using hl, by simp [← hl]⟩⟩
end

/-- What lies below stays below, one call behind the other. -/
theorem Below.then_ {a b c : World} (h : Below a.heap.size a b) (k : Below b.heap.size b c) : Below a.heap.size a c := h.trans (k.mono h.size)

theorem cb_one (l : List UInt8) : ∀ u ∈ cb l, u.oneCell' = true := by
  intro u hu
  obtain ⟨_, _, rfl⟩ := List.mem_map.1 hu
  rfl
theorem cw_one (l : List UInt32) : ∀ u ∈ cw l, u.oneCell' = true := by
  intro u hu
  obtain ⟨_, _, rfl⟩ := List.mem_map.1 hu
  rfl
theorem get_cb (l : List UInt8) (k : Nat) (h : k < l.length) : (cb l)[k]? = some (.int .u8 (l[k].toNat : Int)) := by simp [h]
theorem get_cw (l : List UInt32) (k : Nat) (h : k < l.length) : (cw l)[k]? = some (.int .u32 (l[k].toNat : Int)) := by simp [h]

/-- A byte, and a word, of what a slice reads as, by its place. -/
theorem Sees.byte {w : World} {B : Nat} {A : Option Addr} {l : List UInt8} {n k : Nat} (h : Sees w B A (cb l)) (hl : l.length = n) (hk : k < n) :
    ∃ b o, A = some ⟨b, o, none⟩ ∧ b < B ∧ ∃ c : UInt8, Hid (l[k]? = some c) ∧ c.toNat < 256 ∧ w.cell? ⟨b, o + k, none⟩ = some (.int .u8 (c.toNat : Int)) := by
  obtain ⟨b, o, e, hb, hc⟩ := h.at_ (k := k) (by simp; omega)
  exact ⟨b, o, e, hb, l[k]'(by omega), List.getElem?_eq_getElem (by omega), UInt8.toNat_lt _, by simpa using hc⟩
theorem Sees.word {w : World} {B : Nat} {A : Option Addr} {l : List UInt32} {n k : Nat} (h : Sees w B A (cw l)) (hl : l.length = n) (hk : k < n) :
    ∃ b o, A = some ⟨b, o, none⟩ ∧ b < B ∧ ∃ c : UInt32, Hid (l[k]? = some c) ∧ c.toNat < 4294967296 ∧ w.cell? ⟨b, o + k, none⟩ = some (.int .u32 (c.toNat : Int)) := by
  obtain ⟨b, o, e, hb, hc⟩ := h.at_ (k := k) (by simp; omega)
  exact ⟨b, o, e, hb, l[k]'(by omega), List.getElem?_eq_getElem (by omega), UInt32.toNat_lt _, by simpa using hc⟩

theorem ret_int {k : IntKind} {a b : Int} (h : a = b) : Ending.returned (.int k a) = .returned (.int k b) := by rw [h]
theorem ret_bool {a b : Bool} (h : a = b) : Ending.returned (.bool a) = .returned (.bool b) := by rw [h]
theorem pow7 (k : Nat) : (2 : Nat) ^ (7 * k) = 128 ^ k := by rw [Nat.pow_mul]
theorem shr_nat (n k : Nat) : (n : Int) / 2 ^ k = ((n / 2 ^ k : Nat) : Int) := by simp
end Go.Proofs.Ytangblcfdboghaa
