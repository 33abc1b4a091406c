/-
  What is known of an argument that is a slice of bytes or of words.
-/
import Derived.Test.YtangblcfdboghaaMem
import Derived.Test.YtangblcfdboghaaPure
import Derived.OpenShut
import Derived.ProofKit
namespace Go.Proofs.Ytangblcfdboghaa
open Go.RowKit
set_option linter.unusedVariables false

/-- What is told of a slice of integers that came in: it is nil, or it leads to a row of 'cap' cells, the numbers zs, the first 'len' of which are its elements. -/
def IsRow (k : IntKind) (w : World) (a : Option Addr) (len cap : Nat) (zs : List Int) : Prop :=
  (a = none ∧ len = 0 ∧ cap = 0 ∧ zs = []) ∨
  ∃ x, a = some x ∧ len ≤ cap ∧ cap ≤ maxLen ∧ zs.length = cap ∧ (∀ i, i < zs.length → w.cell? (x.add i) = some (.int k (zs.getD i 0))) ∧ ∀ n ∈ zs, (Lit.int k n).wf = true

theorem row_cells {k : IntKind} {w : World} {a : Option Addr} {len cap : Nat} {zs : List Int} (h : IsRow k w a len cap zs) : len ≤ cap ∧ cap ≤ maxLen ∧ len ≤ zs.length ∧ Sees w w.heap.size a ((zs.take len).map (.int k)) ∧ ∀ n ∈ zs, (Lit.int k n).wf = true := by
  rcases h with ⟨rfl, rfl, rfl, rfl⟩ | ⟨⟨b, o, s⟩, rfl, h1, h2, h3, h4, h5⟩
  · exact ⟨Nat.le_refl _, Nat.zero_le _, Nat.le_refl _, Sees.nil, by simp⟩
  · refine ⟨h1, h2, by omega, fun hp => ?_, h5⟩
    have hlen : 0 < zs.length := by
      have : (zs.take len).length ≤ zs.length := List.length_take_le' _ _
      rw [List.length_map] at hp
      omega
    have h0 := h4 0 hlen
    have hs : s = none := by simpa [Addr.add] using World.cell?_spot h0
    subst hs
    rw [Addr.add_lit] at h0
    refine ⟨b, o, rfl, World.block_lt_of_cell? _ _ h0, fun j u hu => ?_⟩
    rw [List.getElem?_map] at hu
    obtain ⟨z, hz, rfl⟩ := Option.map_eq_some_iff.1 hu
    rw [List.getElem?_take] at hz
    split at hz
    · have hj : j < zs.length := (List.getElem?_eq_some_iff.1 hz).1
      have := h4 j hj
      rw [Addr.add_lit] at this
      rw [this]
      simp [List.getD, hz]
    · cases hz
theorem bytes_of : ∀ zs : List Int, (∀ n ∈ zs, (Lit.int .u8 n).wf = true) → ∃ l : List UInt8, l.length = zs.length ∧ zs.map (Value.int .u8) = cb l
  | [], _ => ⟨[], rfl, rfl⟩
  | z :: zs, h => by
    obtain ⟨l, h1, h2⟩ := bytes_of zs (fun n hn => h n (List.mem_cons_of_mem _ hn))
    have hz := bounds_u8 (h z List.mem_cons_self)
    refine ⟨UInt8.ofNat z.toNat :: l, by simp [h1], ?_⟩
    have e : ((UInt8.ofNat z.toNat).toNat : Int) = z := by rw [ofNat_toNat _ (by omega)]; omega
    show Value.int .u8 z :: zs.map (Value.int .u8) = Value.int .u8 ((UInt8.ofNat z.toNat).toNat : Int) :: cb l
    rw [e, h2]
theorem words_of : ∀ zs : List Int, (∀ n ∈ zs, (Lit.int .u32 n).wf = true) → ∃ l : List UInt32, l.length = zs.length ∧ zs.map (Value.int .u32) = cw l
  | [], _ => ⟨[], rfl, rfl⟩
  | z :: zs, h => by
    obtain ⟨l, h1, h2⟩ := words_of zs (fun n hn => h n (List.mem_cons_of_mem _ hn))
    have hz := bounds_u32 (h z List.mem_cons_self)
    refine ⟨UInt32.ofNat z.toNat :: l, by simp [h1], ?_⟩
    have e : ((UInt32.ofNat z.toNat).toNat : Int) = z := by rw [ofNat_toNat32 _ (by omega)]; omega
    show Value.int .u32 z :: zs.map (Value.int .u32) = Value.int .u32 ((UInt32.ofNat z.toNat).toNat : Int) :: cw l
    rw [e, h2]
theorem row_bytes {w : World} {a : Option Addr} {len cap : Nat} {zs : List Int} (h : IsRow .u8 w a len cap zs) : ∃ l : List UInt8, l.length = len ∧ Sees w w.heap.size a (cb l) ∧ len ≤ cap ∧ cap ≤ maxLen := by
  obtain ⟨h1, h2, h3, h4, h5⟩ := row_cells h
  obtain ⟨l, e1, e2⟩ := bytes_of (zs.take len) (fun n hn => h5 n (List.mem_of_mem_take hn))
  rw [e2] at h4
  exact ⟨l, by rw [e1, List.length_take]; omega, h4, h1, h2⟩
theorem row_words {w : World} {a : Option Addr} {len cap : Nat} {zs : List Int} (h : IsRow .u32 w a len cap zs) : ∃ l : List UInt32, l.length = len ∧ Sees w w.heap.size a (cw l) ∧ len ≤ cap ∧ cap ≤ maxLen := by
  obtain ⟨h1, h2, h3, h4, h5⟩ := row_cells h
  obtain ⟨l, e1, e2⟩ := words_of (zs.take len) (fun n hn => h5 n (List.mem_of_mem_take hn))
  rw [e2] at h4
  exact ⟨l, by rw [e1, List.length_take]; omega, h4, h1, h2⟩
end Go.Proofs.Ytangblcfdboghaa
