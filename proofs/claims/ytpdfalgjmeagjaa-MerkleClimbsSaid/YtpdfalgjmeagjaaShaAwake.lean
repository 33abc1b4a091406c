/-
  The chapter's examples hold: law02's awake answers true.
-/
import Derived.Test.YtpdfalgjmeagjaaShaDig
namespace Go.Proofs.Ytpdfalgjmeagjaa
open Go.RowKit
set_option linter.unusedVariables false
theorem hex_none : hexL (ofF firstL keysL []) = [101, 51, 98, 48, 99, 52, 52, 50, 57, 56, 102, 99, 49, 99, 49, 52, 57, 97, 102, 98, 102, 52, 99, 56, 57, 57, 54, 102, 98, 57, 50, 52, 50, 55, 97, 101, 52, 49, 101, 52, 54, 52, 57, 98, 57, 51, 52, 99, 97, 52, 57, 53, 57, 57, 49, 98, 55, 56, 53, 50, 98, 56, 53, 53] := by rw [of_none]; kernel_rfl
theorem hex_abc : hexL (ofF firstL keysL [97, 98, 99]) = [98, 97, 55, 56, 49, 54, 98, 102, 56, 102, 48, 49, 99, 102, 101, 97, 52, 49, 52, 49, 52, 48, 100, 101, 53, 100, 97, 101, 50, 50, 50, 51, 98, 48, 48, 51, 54, 49, 97, 51, 57, 54, 49, 55, 55, 97, 57, 99, 98, 52, 49, 48, 102, 102, 54, 49, 102, 50, 48, 48, 49, 53, 97, 100] := by rw [of_abc]; kernel_rfl
theorem digest_is (tb to : Nat) (l d : List UInt8) (w : World) (hd : hexL (ofF firstL keysL l) = d) (ht : Tab w tb to firstL keysL) (hl : l.length ≤ 1000) :
    Calls Try.prog 89 #[.pointer (some ⟨tb, to, none⟩), .string ⟨l.toArray⟩] w fun e w' => e = .returned (.string ⟨d.toArray⟩) ∧ Below w.heap.size w w' := by
  subst hd
  exact digest_any tb to firstL keysL l w ht hl
theorem Pad_made (K : Int) (n m : Nat) (l : List UInt8) (w : World) (hK : K = (n : Int)) (hn : n ≤ 9223372036854775807) (hm : 9 + noughts n = m) (hl : padL n = l) : Calls Try.prog 24 #[.int .i64 K] w (Made8 w m l) := by
  subst hK hm hl
  exact Pad_any n _ w hn rfl
theorem sees_blk (w : World) (e : TypeId) (fr : Nat × Nat) (l : List UInt8) : Sees (w.alloc (.cells (cb l).toArray e fr)) (w.alloc (.cells (cb l).toArray e fr)).heap.size (some ⟨w.heap.size, 0, none⟩) (cb l) := fun _ => by
  refine ⟨w.heap.size, 0, rfl, by show w.heap.size < (w.heap.push _).size; simp, fun j u hu => ?_⟩
  rw [Nat.zero_add, cell_of_row _ w.heap.size j _ e fr (heap_alloc_new _ _)]
  simpa using hu
theorem tabL (w : World) (g n : Nat) (base : Nat) (T : TypeId) (h : Fresh base T w (some ⟨g, 0, none⟩) n n (cw (firstL ++ keysL))) : Tab w g 0 firstL keysL := ⟨rfl, rfl, h.sees⟩
set_option maxHeartbeats 1000000 in
set_option maxRecDepth 100000 in
theorem awake2_any (w : World) : Calls Try.prog 15 #[] w fun e w' => e = .returned (.bool true) ∧ Below w.heap.size w w' := by
  go_enter Try.func15, Try.ntmps15
  go_wp2_with (first
    | (go_at_call 88; refine (Table_any _).mono ?_; rintro e w1 ⟨rfl, hB1⟩; generalize hTL : firstL ++ keysL = TL; have HTL := Lib.hid hTL; clear hTL; have hlt : TL.length = 72 := by rw [← HTL.out]; rfl)
    | (with_reducible refine wpList_alloc (o := ⟨some 1, _, _, _, _, _⟩) rfl 26 rfl (cw (List.replicate 72 0)) (by kernel_rfl) 72 (by simp) (by decide) ?_; intro gt w2 hgt hFt hBt; have hB02 := Below.then_ hB1 hBt; have z1 := hB1.size)
    | (with_reducible refine wpList_store rfl rfl (.tmp 1) (.tmp 2) 26 rfl gt 0 w1.heap.size 26 72 (cw (List.replicate 72 0)) (cw TL) rfl rfl 72 (by rw [List.length_map]; exact hlt) (by kernel_rfl) hFt (by omega) (cw_one _) w hB02 (by omega) ?_; intro w3 hF3 hB3 _ _
       rw [show splice (cw (List.replicate 72 0)) 0 (cw TL) = cw TL from by simp [splice, hlt], ← HTL.out] at hF3
       have hT3 := tabL _ _ _ _ _ hF3; clear hlt))
  refine (digest_is gt 0 [] _ _ hex_none hT3 (by decide)).mono ?_
  rintro e w4 ⟨rfl, hB4⟩
  go_wp2_with fail
  refine (digest_is gt 0 [97, 98, 99] _ _ hex_abc (hT3.step hB4) (by decide)).mono ?_
  rintro e w5 ⟨rfl, hB5⟩
  have hF5 := (hF3.below hB4).below hB5
  have k0 : w5.cell? ⟨gt, 0, none⟩ = some (.int .u32 1779033703) := hF5.cell_ (k := 0) (by kernel_rfl)
  have k8 : w5.cell? ⟨gt, 8, none⟩ = some (.int .u32 1116352408) := hF5.cell_ (k := 8) (by kernel_rfl)
  have k71 : w5.cell? ⟨gt, 71, none⟩ = some (.int .u32 3329325298) := hF5.cell_ (k := 71) (by kernel_rfl)
  have HB5 := Lib.hid (Below.then_ hB3 (Below.then_ hB4 hB5))
  clear hF3 hT3 hB3 hB4 hB5 hF5
  go_wp2_with fail
  refine (Pad_made _ 0 64 _ _ rfl (by decide) rfl rfl).mono ?_
  rintro e w6 ⟨A6, c6, rfl, hF6, hB6⟩
  have HB6 := Lib.hid (Below.then_ HB5.out hB6)
  clear k0 k8 k71 hF6 hB6
  go_wp2_with fail
  refine (Pad_made _ 55 9 [128, 0, 0, 0, 0, 0, 0, 1, 184] _ rfl (by decide) rfl (by kernel_rfl)).mono ?_
  rintro e w7 ⟨A7, c7, rfl, hF7, hB7⟩
  have HB7 := Lib.hid (Below.then_ HB6.out hB7)
  clear hB7
  go_wp2_with fail
  have hbb := Below.then_ HB7.out (below_alloc w7 (.cells (cb [128, 0, 0, 0, 0, 0, 0, 1, 184]).toArray 5 (0, 0)))
  refine (SameBytes_any A7 _ c7 _ 9 9 [128, 0, 0, 0, 0, 0, 0, 1, 184] [128, 0, 0, 0, 0, 0, 0, 1, 184] _ (hF7.sees.step (below_alloc _ _)) (sees_blk w7 5 (0, 0) [128, 0, 0, 0, 0, 0, 0, 1, 184]) rfl rfl).mono ?_
  rintro e w8 ⟨rfl, rfl⟩
  go_wp2_with fail
  refine (Pad_made _ 56 72 _ _ rfl (by decide) rfl rfl).mono ?_
  rintro e w9 ⟨A9, c9, rfl, hF9, hB9⟩
  have HB9 := Lib.hid (Below.then_ hbb hB9)
  clear hF9 hB9 hF7 hbb
  go_wp2
  go_ret
  exact ⟨rfl, HB9.out⟩
end Go.Proofs.Ytpdfalgjmeagjaa
