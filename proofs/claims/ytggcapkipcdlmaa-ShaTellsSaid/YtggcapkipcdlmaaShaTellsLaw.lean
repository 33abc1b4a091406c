/-
  ShaTells' walk for arguments as they come in.
-/
import Derived.Test.YtggcapkipcdlmaaShaTellsWalk
import Derived.Test.YtggcapkipcdlmaaOpenHasher
namespace Go.Proofs.Ytggcapkipcdlmaa
open Go.RowKit
set_option linter.unusedVariables false
theorem shatells_law (W : World) (first0 keys0 : List UInt32) (lf0 : first0.length = 8) (lk0 : keys0.length = 64) (s1 : List UInt32) (R1 : Option Addr) (m1 c1 : Nat) (rs1 : List UInt8) (L1 : Int) (l1 : s1.length = 8) (e1 : rs1.length = m1) (w1 : Sees W W.heap.size R1 (cb rs1)) (b1 : m1 ≤ c1) (g1 : c1 ≤ maxLen)
    (a2 : Option Addr) (len2 cap2 : Nat) (z2 : List Int) (w2 : IsRow .u8 W a2 len2 cap2 z2) (blk3 : List UInt8) (lb3 : blk3.length = 64) (a4 : Int) (w4 : (Lit.int .i64 a4).wf = true) :
    Calls Try.prog 3 #[.agg (cw (first0 ++ keys0)).toArray, .agg (hz s1 (.slice R1 m1 c1) L1).toArray, .slice a2 len2 cap2, .agg (cb blk3).toArray, .int .i64 a4] W fun e w' => e = .returned (.bool true) ∧ Below W.heap.size W w' := by
  obtain ⟨b, hb, hs, hc, hm⟩ := row_bytes w2
  have b4 := bounds_i64 w4
  exact shatells_walk first0 keys0 s1 R1 a2 m1 c1 len2 cap2 L1 a4 rs1 b blk3 W lf0 lk0 l1 w1 e1 hs hb hc lb3 (by omega) (by omega) (by omega)
end Go.Proofs.Ytggcapkipcdlmaa
