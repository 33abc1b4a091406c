/-
  The chapter's examples of layer 9.
-/
import Derived.Test.YtehokoeajinboaaLamText
import Derived.Test.YtehokoeajinboaaTools
import Derived.Deep.CutBlock
namespace Go.Proofs.Ytehokoeajinboaa
open Go.RowKit
set_option linter.unusedVariables false

def z32 : List UInt8 := List.replicate 32 0
def d128 : List UInt8 := 128 :: List.replicate 31 0
def zA : List UInt8 := List.replicate 8192 0
theorem run_bz (w : World) : (Instr.build 32 #[]).run Try.prog w = .ok (.agg (cb z32).toArray) w := run_build w _ _ _ (by kernel_rfl)
theorem run_b128 (w : World) : (Instr.build 32 #[(0, .int .u8 128)]).run Try.prog w = .ok (.agg (cb d128).toArray) w := run_build w _ _ _ (by kernel_rfl)
theorem head5 : ∀ (ls : List (List UInt8)), ls.length = 512 → (∀ l ∈ ls, l.length = 32) → (textF 3 ls).take 5 = [75, 3, 128, 4, 32]
  | [], h, _ => by simp at h
  | l :: ls, h, hl => by
    have h1 := hl l List.mem_cons_self
    unfold textF
    rw [h, show digs 512 = [128, 4] from by decide, List.flatMap_cons, blob, h1, show digs 32 = [32] from by decide]
    rfl
theorem wpList_bz {w : World} {ops : Array Oper} {rest : List Oper} {o : Oper} {a : Act} {Q : Exit → Act → World → Prop} {v : Value} (hg : o.guard = none) (hop : o.op = .build 32 #[]) (hrun : ∀ w, (Instr.build 32 #[]).run Try.prog w = .ok v w) (hK : wpList Try.prog ops Q rest (a.put o.dst v) w) : wpList Try.prog ops Q (o :: rest) a w := by
  refine wpList_is hg (v := v) ?_ hK
  simp only [execOp, hop]
  simp only [List.map_toArray, List.map_nil, Sem.run_bind]
  rw [hrun]
  rfl
theorem run_b1 {w : World} {o : Oper} {a : Act} {v : Value} (hop : o.op = .build 32 #[(0, .const (.int .u8 128))]) (hrun : ∀ w, (Instr.build 32 #[(0, .int .u8 128)]).run Try.prog w = .ok v w) : (execOp a.eval o).run Try.prog w = .ok (.value v) w := by
  simp only [execOp, hop]
  simp only [List.map_toArray, List.map_cons, List.map_nil, Act.eval, Sem.run_bind]
  rw [hrun]
  rfl
theorem Fresh.cut8 {w : World} {B n c : Nat} {e : TypeId} {A : Option Addr} {T : List UInt8} (h : Fresh B e w A n c (cb T)) (k : Nat) : Sees w w.heap.size A (cb (T.take k)) := by
  have h1 := h.sees.take_ k
  rwa [show (cb T).take k = cb (T.take k) from by simp [cb, List.map_take]] at h1
theorem zA_len : zA.length = 8192 := List.length_replicate
section
variable {w : World}
set_option maxHeartbeats 2000000 in
set_option maxRecDepth 100000 in
theorem awake9_any : Calls Try.prog 59 #[] w fun e w' => e = .returned (.bool true) ∧ Below w.heap.size w w' := by
  have ht := fun w' => LText_any (w := w') z32 zA zA rfl zA_len zA_len
  have h5 : (textP z32 zA zA).take 5 = [75, 3, 128, 4, 32] := head5 _ (by unfold pairsF; rw [List.length_map, List.length_range]) (pairsF_len z32 zA zA zA_len zA_len)
  have b0 := fun w' => Bit_any (w := w') d128 0 rfl
  have b1 := fun w' => Bit_any (w := w') d128 1 rfl
  rw [show bitI d128 0 = 1 from by decide] at b0
  rw [show bitI d128 1 = 0 from by decide] at b1
  have HL : Hid ((cb zA).length = 8192) := Lib.hid (by rw [List.length_map]; exact zA_len)
  obtain ⟨T, hT⟩ : ∃ T, textP z32 zA zA = T := ⟨_, rfl⟩
  rw [hT] at ht h5
  have H5 := Lib.hid h5
  have hz : cb (List.replicate 8192 0) = cb zA := rfl
  obtain ⟨Z, hZ⟩ : ∃ Z, zA = Z := ⟨_, rfl⟩
  obtain ⟨Y, hY⟩ : ∃ Y, z32 = Y := ⟨_, rfl⟩
  obtain ⟨X, hX⟩ : ∃ X, d128 = X := ⟨_, rfl⟩
  have rz := run_bz
  have r1 := run_b128
  have ha : ((Try.prog.info? 98).map (·.zero)) = some (some (.agg (cb zA).toArray)) := by kernel_rfl
  rw [hZ] at ht HL ha
  rw [hY] at ht rz
  rw [hX] at b0 b1 r1
  clear hT h5 hZ hY hX hz
  have HA := Lib.hid ha
  have RZ := Lib.hid rz
  have R1 := Lib.hid r1
  have B0 := Lib.hid b0
  have B1 := Lib.hid b1
  have HT := Lib.hid ht
  clear ha rz r1 b0 b1 ht
  go_enter Try.func59, Try.ntmps59
  go_upto_region 3 with (first
    | (with_reducible refine wpList_alloc (o := ⟨some 1, _, _, _, _, _⟩) rfl 98 rfl (cb Z) HA.out 8192 HL.out (by decide) ?_; intro gn w1 hgn hFn hBn)
    | (with_reducible refine wpList_bz (o := ⟨some 3, _, _, _, _, _⟩) rfl rfl RZ.out ?_)
    | (with_reducible refine wpList_load (o := ⟨some 4, _, _, _, _, _⟩) rfl (.tmp 1) 98 rfl gn 0 _ rfl (cb Z) 8192 HL.out (by kernel_rfl) hFn.sees ?_)
    | (with_reducible refine wpList_load (o := ⟨some 5, _, _, _, _, _⟩) rfl (.tmp 1) 98 rfl gn 0 _ rfl (cb Z) 8192 HL.out (by kernel_rfl) hFn.sees ?_)
    | (go_at_call 63; refine (HT.out _).mono ?_; rintro e w2 ⟨A2, c2, rfl, hF2, hB2⟩; have hBw2 := Below.then_ hBn hB2))
  have hc5 : 5 ≤ c2 := by have := hF2.cap.1; omega
  have hcut : ∀ w', (Instr.slice 27 (.slice A2 16900 c2) none (some (.int .i64 5)) none).run Try.prog w' = .ok (.slice A2 5 c2) w' := fun w' => run_cut (w := w') A2 16900 c2 5 hc5
  go_wp2_with (first
    | (with_reducible refine wpList_is (o := ⟨some 7, _, _, _, _, _⟩) rfl (run_b1 rfl R1.out) ?_)
    | (with_reducible refine wpList_gis (o := ⟨some 11, _, _, _, _, _⟩) rfl (run_b1 rfl R1.out) ?_)
    | (go_at_call 52; with_reducible refine (B0.out _).mono ?_; rintro e w3 ⟨rfl, hB3⟩; have hBw3 := Below.then_ hBw2 hB3)
    | (go_at_call 52; with_reducible refine (B1.out _).mono ?_; rintro e w4 ⟨rfl, hB4⟩; have hBw4 := Below.then_ hBw3 hB4)
    | (go_at_call 17; refine (SameBytes_any A2 (some ⟨w4.heap.size, 0, none⟩) c2 5 5 5 (T.take 5) [75, 3, 128, 4, 32] _ ((((hF2.below hB3).below hB4).below (below_alloc _ _)).cut8 5) (sees_one w4 5 _ [75, 3, 128, 4, 32] rfl) (by rw [H5.out]; rfl) rfl).mono ?_; rintro e w5 ⟨rfl, rfl⟩; rw [H5.out]))
  go_ret
  exact ⟨rfl, Below.then_ hBw4 (below_alloc _ _)⟩
end
end Go.Proofs.Ytehokoeajinboaa
