/-
  DriveKeeps' walk for arguments as they come in.
-/
import Derived.Test.YtpdfalgjmeagjaaKeepsOne
import Derived.Test.YtpdfalgjmeagjaaKeepsTwo
import Derived.Test.YtpdfalgjmeagjaaOpen5
namespace Go.Proofs.Ytpdfalgjmeagjaa
open Go.RowKit
set_option linter.unusedVariables false
theorem keeps_walk (A : Option Addr) (N c : Nat) (o : List Oc) (z : Int) (B : Option Addr) (n q : Nat) (l : List UInt32) (t : Nat) (fails : Bool) (W : World) (hs : Sees W W.heap.size A (ocs o)) (hl : o.length = N) (hok : ∀ x ∈ o, x.Ok W.heap.size W) (hz : -9223372036854775808 ≤ z ∧ z ≤ 9223372036854775807) (ht : Sees W W.heap.size B (cw l)) (hln : l.length = n) (hnq : n ≤ q) (ht8 : t < 256) :
    Calls Try.prog 8 #[.slice A N c, .int .i64 z, .slice B n q, .int .u8 (t : Int), .bool fails] W fun e w' => e = .returned (.bool true) ∧ Below W.heap.size W w' := by
  obtain ⟨k, hk, hPick⟩ := Pick_at z 193 (by omega) (by omega) hz
  obtain ⟨K, hK⟩ : ∃ K, k + K = 192 := ⟨192 - k, by omega⟩
  obtain ⟨M, hM⟩ : ∃ M, M = min n K := ⟨_, rfl⟩
  have hM1 : M ≤ q := by omega
  have hM2 : k + M ≤ 192 := by omega
  have hsM : Sees W W.heap.size B (cw (l.take M)) := by
    have h1 := ht.take_ M
    rwa [show (cw l).take M = cw (l.take M) from by simp only [cw, List.map_take]] at h1
  have hlM : (l.take M).length = M := by rw [List.length_take, hln]; omega
  have HL7 := Lib.hid hlM
  have hmc : (n ≤ K ∧ M = n) ∨ (¬ n ≤ K ∧ M = K) := by omega
  rcases hsets : sets32 ((made5 o).at_ 1 k M) (l.take M) with _ | _ <;> cases fails
  · rcases hmc with hm | hm
    · exact keeps_f0a A N c o z B n q _ t W hs hl hok k K M hPick hk hK hsM HL7 hM1 hM2 hm ht8 hsets
    · exact keeps_f0b A N c o z B n q _ t W hs hl hok k K M hPick hk hK hsM HL7 hM1 hM2 hm ht8 hsets
  · rcases Nat.lt_trichotomy t M with htm | htm | htm <;> rcases hmc with hm | hm
    · exact keeps_t0a A N c o z B n q _ t W hs hl hok k K M hPick hk hK hsM HL7 hM1 hM2 hm ht8 htm hsets
    · exact keeps_t0b A N c o z B n q _ t W hs hl hok k K M hPick hk hK hsM HL7 hM1 hM2 hm ht8 htm hsets
    · exact keeps_t2a A N c o z B n q _ t W hs hl hok k K M hPick hk hK hsM HL7 hM1 hM2 hm ht8 htm hsets
    · exact keeps_t2b A N c o z B n q _ t W hs hl hok k K M hPick hk hK hsM HL7 hM1 hM2 hm ht8 htm hsets
    · exact keeps_t3a A N c o z B n q _ t W hs hl hok k K M hPick hk hK hsM HL7 hM1 hM2 hm ht8 htm hsets
    · exact keeps_t3b A N c o z B n q _ t W hs hl hok k K M hPick hk hK hsM HL7 hM1 hM2 hm ht8 htm hsets
  · rcases hmc with hm | hm
    · exact keeps_f1a A N c o z B n q _ t W hs hl hok k K M hPick hk hK hsM HL7 hM1 hM2 hm ht8 hsets
    · exact keeps_f1b A N c o z B n q _ t W hs hl hok k K M hPick hk hK hsM HL7 hM1 hM2 hm ht8 hsets
  · rcases Nat.lt_or_ge M t with htm | htm <;> rcases hmc with hm | hm
    · exact keeps_t4a A N c o z B n q _ t W hs hl hok k K M hPick hk hK hsM HL7 hM1 hM2 hm ht8 htm hsets
    · exact keeps_t4b A N c o z B n q _ t W hs hl hok k K M hPick hk hK hsM HL7 hM1 hM2 hm ht8 htm hsets
    · exact keeps_t1a A N c o z B n q _ t W hs hl hok k K M hPick hk hK hsM HL7 hM1 hM2 hm ht8 htm hsets
    · exact keeps_t1b A N c o z B n q _ t W hs hl hok k K M hPick hk hK hsM HL7 hM1 hM2 hm ht8 htm hsets
theorem keeps_law (W : World) (a0 : Option Addr) (len0 cap0 : Nat) (o0 : List Oc) (e0 : o0.length = len0) (s0 : Sees W W.heap.size a0 (ocs o0)) (w0 : ∀ p ∈ o0, p.Ok W.heap.size W) (a1 : Int) (w1 : (Lit.int .i64 a1).wf = true) (a2 : Option Addr) (len2 cap2 : Nat) (z2 : List Int) (w2 : IsRow .u32 W a2 len2 cap2 z2) (a3 : Int) (w3 : (Lit.int .u8 a3).wf = true) (a4 : Bool) :
    Calls Try.prog 8 #[.slice a0 len0 cap0, .int .i64 a1, .slice a2 len2 cap2, .int .u8 a3, .bool a4] W fun e w' => e = .returned (.bool true) ∧ Below W.heap.size W w' := by
  have b1 := bounds_i64 w1
  have b3 := bounds_u8 w3
  obtain ⟨b, h1, h2, h3, h4⟩ := row_words w2
  obtain ⟨t, rfl⟩ : ∃ t : Nat, a3 = (t : Int) := ⟨a3.toNat, by omega⟩
  exact keeps_walk a0 len0 cap0 o0 a1 a2 len2 cap2 b t a4 W s0 e0 w0 (by omega) h2 h1 h3 (by omega)
end Go.Proofs.Ytpdfalgjmeagjaa
