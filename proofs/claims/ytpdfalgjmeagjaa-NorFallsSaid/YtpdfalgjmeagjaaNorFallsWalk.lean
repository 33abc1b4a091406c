/-
  NorFalls returns true for every input, and writes nothing that was there: the walk, its cases together.
-/
import Derived.Test.YtpdfalgjmeagjaaNorFalls0lt
import Derived.Test.YtpdfalgjmeagjaaNorFalls0eq
import Derived.Test.YtpdfalgjmeagjaaNorFalls0gt
import Derived.Test.YtpdfalgjmeagjaaNorFalls1lt
import Derived.Test.YtpdfalgjmeagjaaNorFalls1eq
import Derived.Test.YtpdfalgjmeagjaaNorFalls1gt
namespace Go.Proofs.Ytpdfalgjmeagjaa
open Go.RowKit
set_option linter.unusedVariables false
theorem falls_walk (A0 : Option Addr) (N0 c0 : Nat) (l0 : List Oc) (s t : Int) (A1 : Option Addr) (m1 c1 : Nat) (l1 : List UInt32) (z : UInt8) (A3 : Option Addr) (q3 c3 : Nat) (ks : List Bool) (w : World)
    (hs0 : Sees w w.heap.size A0 (ocs l0)) (hl0 : l0.length = N0) (hok : ∀ o ∈ l0, o.Ok w.heap.size w) (hs : -9223372036854775808 ≤ s ∧ s ≤ 9223372036854775807) (ht : -9223372036854775808 ≤ t ∧ t ≤ 9223372036854775807)
    (hs1 : Sees w w.heap.size A1 (cw l1)) (hl1 : l1.length = m1) (hc1 : m1 ≤ c1) (hs3 : Sees w w.heap.size A3 (cl ks)) (hl3 : ks.length = q3) :
    Calls Try.prog 7 #[.slice A0 N0 c0, .int .i64 s, .int .i64 t, .slice A1 m1 c1, .int .u8 (z.toNat : Int), .slice A3 q3 c3] w fun e w' => e = .returned (.bool true) ∧ Below w.heap.size w w' := by
  obtain ⟨σ, hσ, hPs⟩ := Pick_at s 4 (by omega) (by omega) hs
  obtain ⟨κ, hκ, hPt⟩ := Pick_at t 64 (by omega) (by omega) ht
  obtain ⟨K, hK, hrem⟩ := rem70 z
  obtain ⟨M1, hM1⟩ : ∃ M, M = min m1 (64 - κ) := ⟨_, rfl⟩
  by_cases ha : (m1 : Int) ≤ 64 - (κ : Int)
  · rcases Nat.lt_trichotomy K M1 with h | h | h
    · exact falls_0lt A0 N0 c0 l0 s t A1 m1 c1 l1 _ A3 q3 c3 ks w hs0 hl0 hok σ κ K M1 hσ hκ hK hrem hM1 hPs hPt ha h hs1 hl1 hc1 hs3 hl3
    · exact falls_0eq A0 N0 c0 l0 s t A1 m1 c1 l1 _ A3 q3 c3 ks w hs0 hl0 hok σ κ K M1 hσ hκ hK hrem hM1 hPs hPt ha h hs1 hl1 hc1 hs3 hl3
    · exact falls_0gt A0 N0 c0 l0 s t A1 m1 c1 l1 _ A3 q3 c3 ks w hs0 hl0 hok σ κ K M1 hσ hκ hK hrem hM1 hPs hPt ha h hs1 hl1 hc1 hs3 hl3
  · rcases Nat.lt_trichotomy K M1 with h | h | h
    · exact falls_1lt A0 N0 c0 l0 s t A1 m1 c1 l1 _ A3 q3 c3 ks w hs0 hl0 hok σ κ K M1 hσ hκ hK hrem hM1 hPs hPt ha h hs1 hl1 hc1 hs3 hl3
    · exact falls_1eq A0 N0 c0 l0 s t A1 m1 c1 l1 _ A3 q3 c3 ks w hs0 hl0 hok σ κ K M1 hσ hκ hK hrem hM1 hPs hPt ha h hs1 hl1 hc1 hs3 hl3
    · exact falls_1gt A0 N0 c0 l0 s t A1 m1 c1 l1 _ A3 q3 c3 ks w hs0 hl0 hok σ κ K M1 hσ hκ hK hrem hM1 hPs hPt ha h hs1 hl1 hc1 hs3 hl3
end Go.Proofs.Ytpdfalgjmeagjaa
