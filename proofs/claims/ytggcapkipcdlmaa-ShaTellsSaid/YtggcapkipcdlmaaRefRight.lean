/-
  What the document's own right of layer 2 answers.
-/
import Derived.Test.YtggcapkipcdlmaaShaLeaf
namespace Go.Proofs.Ytggcapkipcdlmaa
open Go.RowKit
set_option linter.unusedVariables false
set_option maxHeartbeats 400000 in
theorem rright_true (s : List UInt32) (A : Option Addr) (n c : Nat) (L : Int) (w : World) (hs : s.length = 8) (hr : Right n L) :
    Calls Try.prog 69 #[.agg (hz s (.slice A n c) L).toArray] w fun e w' => e = .returned (.bool true) ∧ Below w.heap.size w w' := by
  obtain ⟨h0, h1, h2⟩ := hr
  have HS := Lib.hid hs
  have H2 := Lib.hid h2
  clear hs h2
  go_enter Try.func69, Try.ntmps69
  go_wp2_with (with_reducible refine wpList_box (o := ⟨some 1, _, _, _, _, _⟩) rfl (.tmp 0) 29 rfl (hz s (.slice A n c) L) rfl 10 (hz_len _ _ _ HS.out) (by decide) ?_; intro gh w1 hgh hFh hBh; have c8 := hFh.cell_ (hz_rest s (.slice A n c) L HS.out); have c9 := hFh.cell_ (hz_n s (.slice A n c) L HS.out))
  go_ret
  exact ⟨ret_bool (by simp [H2.out]), hBh⟩
set_option maxHeartbeats 400000 in
theorem rright_false (s : List UInt32) (A : Option Addr) (n c : Nat) (L : Int) (w : World) (hs : s.length = 8) (hr : ¬ Right n L) :
    Calls Try.prog 69 #[.agg (hz s (.slice A n c) L).toArray] w fun e w' => e = .returned (.bool false) ∧ Below w.heap.size w w' := by
  have HS := Lib.hid hs
  clear hs
  by_cases h0 : 0 ≤ L
  · by_cases h1 : L ≤ 72057594037927936
    · have h2 : ¬ (n : Int) = L % 64 := fun h => hr ⟨h0, h1, h⟩
      have H2 := Lib.hid h2
      clear h2 hr
      go_enter Try.func69, Try.ntmps69
      go_wp2_with (with_reducible refine wpList_box (o := ⟨some 1, _, _, _, _, _⟩) rfl (.tmp 0) 29 rfl (hz s (.slice A n c) L) rfl 10 (hz_len _ _ _ HS.out) (by decide) ?_; intro gh w1 hgh hFh hBh; have c8 := hFh.cell_ (hz_rest s (.slice A n c) L HS.out); have c9 := hFh.cell_ (hz_n s (.slice A n c) L HS.out))
      go_ret
      exact ⟨ret_bool (by simpa using H2.out), hBh⟩
    · have hd : decide (L ≤ 72057594037927936) = false := by simpa using h1
      clear hr h1
      go_enter Try.func69, Try.ntmps69
      go_wp2_with (with_reducible refine wpList_box (o := ⟨some 1, _, _, _, _, _⟩) rfl (.tmp 0) 29 rfl (hz s (.slice A n c) L) rfl 10 (hz_len _ _ _ HS.out) (by decide) ?_; intro gh w1 hgh hFh hBh; have c8 := hFh.cell_ (hz_rest s (.slice A n c) L HS.out); have c9 := hFh.cell_ (hz_n s (.slice A n c) L HS.out))
      go_ret
      exact ⟨rfl, hBh⟩
  · have hd : decide (0 ≤ L) = false := by simpa using h0
    clear hr h0
    go_enter Try.func69, Try.ntmps69
    go_wp2_with (with_reducible refine wpList_box (o := ⟨some 1, _, _, _, _, _⟩) rfl (.tmp 0) 29 rfl (hz s (.slice A n c) L) rfl 10 (hz_len _ _ _ HS.out) (by decide) ?_; intro gh w1 hgh hFh hBh; have c8 := hFh.cell_ (hz_rest s (.slice A n c) L HS.out); have c9 := hFh.cell_ (hz_n s (.slice A n c) L HS.out))
    go_ret
    exact ⟨rfl, hBh⟩
end Go.Proofs.Ytggcapkipcdlmaa
