/-
  MacKeys, for every input: what its frame wants.
-/
import Derived.Test.YthigepkcgijbbaaMacKeysWalk
import Derived.Test.YthigepkcgijbbaaRow
import Derived.Test.YthigepkcgijbbaaPartsOpen
namespace Go.Proofs.Ythigepkcgijbbaa
open Go.RowKit
set_option linter.unusedVariables false
theorem mackeys_law (W : World) (first0 keys0 : List UInt32) (lf0 : first0.length = 8) (lk0 : keys0.length = 64) (a1 : Option Addr) (len1 cap1 : Nat) (z1 : List Int) (w1 : IsRow .u8 W a1 len1 cap1 z1) (a2 : Option Addr) (len2 cap2 : Nat) (z2 : List Int) (w2 : IsRow .u8 W a2 len2 cap2 z2) (a3 : Int) (w3 : (Lit.int .u8 a3).wf = true) :
    Calls Try.prog 4 #[.agg (cw (first0 ++ keys0)).toArray, .slice a1 len1 cap1, .slice a2 len2 cap2, .int .u8 a3] W fun e w' => e = .returned (.bool true) ∧ Below W.heap.size W w' := by
  obtain ⟨s, rfl⟩ := byte_is w3
  have hs := s.toNat_lt
  obtain ⟨b1, h1, h2, h3, h4⟩ := row_bytes w1
  obtain ⟨b2, k1, k2, k3, k4⟩ := row_bytes w2
  unfold maxLen at h4 k4
  exact mackeys_walk first0 keys0 lf0 lk0 a1 len1 cap1 b1 h2 h1 h3 a2 len2 cap2 b2 k2 k1 k3 s.toNat hs (by omega) (by omega)
end Go.Proofs.Ythigepkcgijbbaa
