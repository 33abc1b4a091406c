/-
  What blockhouselow.CopyHasher answers: the same hasher, its bytes in new memory.
-/
import Derived.Test.YtggcapkipcdlmaaShaSame
namespace Go.Proofs.Ytggcapkipcdlmaa
open Go.RowKit
set_option linter.unusedVariables false
set_option maxHeartbeats 400000 in
theorem CopyHasher_any (s : List UInt32) (A : Option Addr) (n c : Nat) (L : Int) (l : List UInt8) (w : World) (hs : s.length = 8) (hA : Sees w w.heap.size A (cb l)) (hl : l.length = n) (hn : n ≤ 1000) :
    Calls Try.prog 10 #[.agg (hz s (.slice A n c) L).toArray] w (Told w s l L) := by
  have HS := Lib.hid hs
  have HL := Lib.hid hl
  clear hs hl
  go_enter Try.func10, Try.ntmps10
  go_wp2_with (first
    | (with_reducible refine wpList_box (o := ⟨some 1, _, _, _, _, _⟩) rfl (.tmp 0) 29 rfl (hz s (.slice A n c) L) rfl 10 (hz_len _ _ _ HS.out) (by decide) ?_; intro gh w1 hgh hFh hBh)
    | (with_reducible refine wpList_alloc (o := ⟨some 2, _, _, _, _, _⟩) rfl 29 rfl (hz (List.replicate 8 0) (.slice none 0 0) 0) (by kernel_rfl) 10 (by simp) (by decide) ?_; intro gr w2 hgr hFr hBr; have d1 := hFh.lt_size; have z1 := hBh.size; have hH2 := hFh.below hBr; have hB02 := Below.then_ hBh hBr; have hR2 := hFr.lower z1; have c8 := hH2.cell_ (hz_rest s (.slice A n c) L HS.out))
    | (go_at_call 9; refine (CopyBytes_any A c n l _ (hA.step hB02) HL.out (by omega)).mono ?_; rintro e w3 ⟨A3, c3, rfl, hF3, hB3⟩; have hB03 := Below.then_ hB02 hB3; have hH3 := hH2.below hB3; have hR3 := hR2.below hB3; have dr := hR2.lt_size; have dh := hH2.lt_size)
    | (with_reducible refine wpList_store1 rfl rfl (.tmp 6) (.tmp 5) 27 rfl gh 8 w.heap.size 29 10 (hz s (.slice A n c) L) (.slice A3 n c3) rfl rfl rfl rfl (by kernel_rfl) hH3 (by decide) w hB03 (by omega) ?_; intro w4 hH4 hB4 hoth4 hz4; rw [hz_set8 _ _ _ _ HS.out] at hH4; have hR4 := hR3.other (g' := gh) (by omega) hoth4)
    | (with_reducible refine wpList_load (o := ⟨some 7, _, _, _, _, _⟩) rfl (.tmp 1) 29 rfl gh 0 _ rfl (hz s (.slice A3 n c3) L) 10 (hz_len _ _ _ HS.out) (by kernel_rfl) hH4.sees ?_)
    | (with_reducible refine wpList_store rfl rfl (.tmp 2) (.tmp 7) 29 rfl gr 0 w.heap.size 29 10 (hz (List.replicate 8 0) (.slice none 0 0) 0) (hz s (.slice A3 n c3) L) rfl rfl 10 (hz_len _ _ _ HS.out) (by kernel_rfl) hR4 (by omega) (hz_one _ _ _ rfl) w hB4 (by omega) ?_; intro w5 hR5 hB5 hoth5 hz5))
  rw [show splice (hz (List.replicate 8 0) (.slice none 0 0) 0) 0 (hz s (.slice A3 n c3) L) = hz s (.slice A3 n c3) L from by have := HS.out; simp [splice, this]] at hR5
  refine bodyPost_cell rfl rfl _ 10 (hz_len _ _ _ HS.out) (by kernel_rfl) hR5.sees rfl ⟨A3, c3, ?_, ?_, hB5⟩
  · rw [HL.out]
  · rw [HL.out]
    exact (hF3.others fun k hk => (hoth5 k (by omega)).trans (hoth4 k (by omega))).lower hB02.size
end Go.Proofs.Ytggcapkipcdlmaa
