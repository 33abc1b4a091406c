/-
  MerkleNodes returns true for every input, and writes nothing that was there.
-/
import Derived.Test.YtdpbnppngkamiaaMerkNodes1
import Derived.Test.YtdpbnppngkamiaaMerkNodes2
namespace Go.Proofs.Ytdpbnppngkamiaa
open Go.RowKit
set_option linter.unusedVariables false

theorem nodes_law (w : World) (first keys : List UInt32) (h8 : first.length = 8) (h64 : keys.length = 64) (a : List UInt8) (ha : a.length = 32) (b : List UInt8) (hb : b.length = 32) (c : List UInt8) (hc : c.length = 32) (d : List UInt8) (hd : d.length = 32) :
    Calls Try.prog 9 #[.agg (cw (first ++ keys)).toArray, .agg (cb a).toArray, .agg (cb b).toArray, .agg (cb c).toArray, .agg (cb d).toArray] w fun e w' => e = .returned (.bool true) ∧ Below w.heap.size w w' := by
  by_cases h1 : a = c
  · subst h1
    by_cases h2 : b = d
    · subst h2
      exact nodes_walk0 first keys h8 h64 a b ha hb
    · exact nodes_walk1 first keys h8 h64 a b d ha hb hd h2
  · exact nodes_walk2 first keys h8 h64 a b c d ha hb hc hd h1
end Go.Proofs.Ytdpbnppngkamiaa
