/-
  sha by a table that is none.
-/
import Derived.Test.YtdpbnppngkamiaaShaSum
import Derived.Test.YtdpbnppngkamiaaHzOver
namespace Go.Proofs.Ytdpbnppngkamiaa
open Go.RowKit
set_option linter.unusedVariables false

set_option maxHeartbeats 1000000 in
set_option maxRecDepth 100000 in
theorem Write_nil (s : List UInt32) (R A : Option Addr) (m cr n c : Nat) (L : Int) (rest : List UInt8) (w : World) (hs : s.length = 8) (hR : Sees w w.heap.size R (cb rest)) (hm : rest.length = m) (hm9 : m ≤ 1000) :
    Calls Try.prog 136 #[.pointer none, .agg (hz s (.slice R m cr) L).toArray, .slice A n c] w (Told w s rest L) := by
  have HS := Lib.hid hs
  have HM := Lib.hid hm
  clear hs hm
  go_enter Try.func136, Try.ntmps136
  go_wp2_with (first
    | (with_reducible refine wpList_box (o := ⟨some 4, _, _, _, _, _⟩) rfl (.tmp 1) 190 rfl (hz s (.slice R m cr) L) rfl 10 (hz_len _ _ _ HS.out) (by decide) ?_; intro gh w1 hgh hFh hBh; have z1 := hBh.size; have lh := hFh.lt_size)
    | (with_reducible refine wpList_alloc (o := ⟨some 6, _, _, _, _, _⟩) rfl 190 rfl (hz (List.replicate 8 0) (.slice none 0 0) 0) (by kernel_rfl) 10 (by simp) (by decide) ?_; intro gr w2 hgr hFr hBr; have z2 := hBr.size; have hH3 := hFh.below hBr; have c8 := hH3.cell_ (hz_rest s (.slice R m cr) L HS.out); have hB03 := Below.then_ hBh hBr)
    | (go_at_call 158; refine (owned_any R cr m rest _ (hR.step hB03) HM.out (by omega)).mono ?_; rintro e w4 ⟨A4, c4, rfl, hF4, hB4⟩; have z4 := hB4.size; have hB04 := Below.then_ hB03 hB4; have hH4 := hH3.below hB4; have hr4 := hFr.below hB4)
    | (with_reducible refine wpList_store1 rfl rfl (.tmp 19) (.tmp 18) 62 rfl gh 8 _ 190 10 (hz s (.slice R m cr) L) (.slice A4 m c4) rfl rfl rfl rfl (by kernel_rfl) hH4 (by decide) w hB04 hgh ?_; intro w5 hF5 hB5 ho5 hz5; rw [hz_set8 _ _ _ _ HS.out] at hF5; have hr5 := hr4.other (by omega) ho5; have hA5 := hF4.others (w' := w5) fun k hk => ho5 k (by omega))
    | (with_reducible refine wpList_load (o := ⟨some 20, _, _, _, _, _⟩) rfl (.tmp 4) 190 rfl gh 0 _ rfl (hz s (.slice A4 m c4) L) 10 (hz_len _ _ _ HS.out) (by kernel_rfl) hF5.sees ?_)
    | (with_reducible refine wpList_store rfl rfl (.tmp 6) (.tmp 20) 190 rfl gr 0 _ 190 10 (hz (List.replicate 8 0) (.slice none 0 0) 0) (hz s (.slice A4 m c4) L) rfl rfl 10 (hz_len _ _ _ HS.out) (by kernel_rfl) hr5 (by omega) (hz_one _ _ _ rfl) w hB5 (by omega) ?_; intro w6 hF6 hB6 ho6 hz6))
  rw [hz_over (by simp) HS.out] at hF6
  have lr := hr5.lt_size
  have hA6 := hA5.others (w' := w6) fun k hk => ho6 k (by have := hFr.lt_size; omega)
  exact bodyPost_cell rfl rfl (hz s (.slice A4 m c4) L) 10 (hz_len _ _ _ HS.out) (by kernel_rfl) hF6.sees rfl ⟨A4, c4, (by rw [HM.out]), (by rw [HM.out]; exact hA6.lower (by omega)), hB6⟩
set_option maxHeartbeats 1000000 in
set_option maxRecDepth 100000 in
theorem Sum_nil (s : List UInt32) (R : Option Addr) (m cr : Nat) (L : Int) (w : World) (hs : s.length = 8) :
    Calls Try.prog 135 #[.pointer none, .agg (hz s (.slice R m cr) L).toArray] w fun e w' => e = .returned (.agg (cb (List.replicate 32 0)).toArray) ∧ Below w.heap.size w w' := by
  have HS := Lib.hid hs
  have hbd : ∀ w', (Instr.build 83 #[]).run Try.prog w' = .ok (.agg (cb (List.replicate 32 0)).toArray) w' := fun w' => run_build w' _ _ _ (by kernel_rfl)
  clear hs
  go_enter Try.func135, Try.ntmps135
  go_wp2_with (first
    | (with_reducible refine wpList_box (o := ⟨some 3, _, _, _, _, _⟩) rfl (.tmp 1) 190 rfl (hz s (.slice R m cr) L) rfl 10 (hz_len _ _ _ HS.out) (by decide) ?_; intro gh w1 hgh hFh hBh; have z1 := hBh.size)
    | (with_reducible refine wpList_alloc (o := ⟨some 4, _, _, _, _, _⟩) rfl 83 rfl (cb (List.replicate 32 0)) (by kernel_rfl) 32 (by simp) (by decide) ?_; intro gr w2 hgr hFr hBr; have z2 := hBr.size; have hr3 := hFr; have hB03 := Below.then_ hBh hBr)
    | (with_reducible refine wpList_store rfl rfl (.tmp 4) (.tmp 15) 83 rfl gr 0 _ 83 32 (cb (List.replicate 32 0)) (cb (List.replicate 32 0)) rfl rfl 32 (by simp) (by kernel_rfl) hr3 (by omega) (cb_one _) w hB03 (by omega) ?_; intro w6 hF6 hB6 ho6 hz6))
  have e : splice (cb (List.replicate 32 0)) 0 (cb (List.replicate 32 0)) = cb (List.replicate 32 0) := by simp [splice]
  rw [e] at hF6
  exact bodyPost_cell rfl rfl (cb (List.replicate 32 0)) 32 (by simp) (by kernel_rfl) hF6.sees rfl ⟨rfl, hB6⟩
set_option maxHeartbeats 400000 in
theorem Of_nil (A : Option Addr) (n c : Nat) (b : List UInt8) (w : World) (hA : Sees w w.heap.size A (cb b)) (hn : b.length = n) :
    Calls Try.prog 103 #[.pointer none, .slice A n c] w fun e w' => e = .returned (.agg (cb (List.replicate 32 0)).toArray) ∧ Below w.heap.size w w' := by
  have HN := Lib.hid hn
  clear hn
  go_enter Try.func103, Try.ntmps103
  go_wp2_with (first
    | (with_reducible refine wpList_alloc (o := ⟨some 4, _, _, _, _, _⟩) rfl 83 rfl (cb (List.replicate 32 0)) (by kernel_rfl) 32 (by simp) (by decide) ?_; intro gr w1 hgr hFr hBr)
    | (go_at_call 137; refine (New_nil _).mono ?_; rintro e w2 ⟨rfl, hB2⟩; have hB02 := Below.then_ hBr hB2)
    | (go_at_call 136; refine (Write_nil (List.replicate 8 0) none A 0 0 n c 0 [] _ (by simp) Sees.nil rfl (by omega)).mono ?_; rintro e w3 ⟨A3, c3, rfl, hF3, hB3⟩; have hB03 := Below.then_ hB02 hB3)
    | (go_at_call 135; refine (Sum_nil (List.replicate 8 0) A3 0 c3 0 _ (by simp)).mono ?_; rintro e w4 ⟨rfl, hB4⟩; have hB04 := Below.then_ hB03 hB4; have hF4 := ((hFr.below hB2).below hB3).below hB4)
    | (with_reducible refine wpList_store rfl rfl (.tmp 4) (.tmp 11) 83 rfl gr 0 w.heap.size 83 32 (cb (List.replicate 32 0)) (cb (List.replicate 32 0)) rfl rfl 32 (by simp) (by kernel_rfl) hF4 (by omega) (cb_one _) w hB04 (by omega) ?_; intro w9 hF9 hB9 _ _))
  have e : splice (cb (List.replicate 32 0)) 0 (cb (List.replicate 32 0)) = cb (List.replicate 32 0) := by simp [splice]
  rw [e] at hF9
  exact bodyPost_cell rfl rfl (cb (List.replicate 32 0)) 32 (by simp) (by kernel_rfl) hF9.sees rfl ⟨rfl, hB9⟩
end Go.Proofs.Ytdpbnppngkamiaa
