/-
  MacTexts' walk as its frame asks for it: the four cases together.
-/
import Derived.Test.YtpdfalgjmeagjaaMacTextsSameLe
import Derived.Test.YtpdfalgjmeagjaaMacTextsSameGt
import Derived.Test.YtpdfalgjmeagjaaMacTextsOthLe
import Derived.Test.YtpdfalgjmeagjaaMacTextsOthGt
import Derived.Test.YtpdfalgjmeagjaaRow
namespace Go.Proofs.Ytpdfalgjmeagjaa
open Go.RowKit
set_option linter.unusedVariables false
theorem byte_of {a : Int} (h : (Lit.int .u8 a).wf = true) : ∃ t : UInt8, a = (t.toNat : Int) := by
  have := bounds_u8 h
  exact ⟨UInt8.ofNat a.toNat, by rw [ofNat_toNat _ (by omega)]; omega⟩
theorem mactexts_law (W : World) (a0 : Int) (w0 : (Lit.int .u8 a0).wf = true) (a1 : Int) (w1 : (Lit.int .u8 a1).wf = true) (a2 : Option Addr) (len2 cap2 : Nat) (o2 : List Pb) (s2 : Parts W a2 len2 o2) (a3 : Option Addr) (len3 cap3 : Nat) (o3 : List Pb) (s3 : Parts W a3 len3 o3) (a4 : Int) (w4 : (Lit.int .u8 a4).wf = true) :
    Calls Try.prog 6 #[.int .u8 a0, .int .u8 a1, .slice a2 len2 cap2, .slice a3 len3 cap3, .int .u8 a4] W fun e w' => e = .returned (.bool true) ∧ Below W.heap.size W w' := by
  obtain ⟨t, rfl⟩ := byte_of w0
  obtain ⟨u, rfl⟩ := byte_of w1
  obtain ⟨z, rfl⟩ := byte_of w4
  by_cases htag : t = u
  · by_cases hmn : (textF t ((fewF o2).map Pb.l)).length ≤ (textF u ((fewF o3).map Pb.l)).length
    · exact texts_SameLe t u z a2 a3 len2 cap2 len3 cap3 o2 o3 W s2 s3 htag hmn
    · exact texts_SameGt t u z a2 a3 len2 cap2 len3 cap3 o2 o3 W s2 s3 htag hmn
  · by_cases hmn : (textF t ((fewF o2).map Pb.l)).length ≤ (textF u ((fewF o3).map Pb.l)).length
    · exact texts_OthLe t u z a2 a3 len2 cap2 len3 cap3 o2 o3 W s2 s3 htag hmn
    · exact texts_OthGt t u z a2 a3 len2 cap2 len3 cap3 o2 o3 W s2 s3 htag hmn
end Go.Proofs.Ytpdfalgjmeagjaa
