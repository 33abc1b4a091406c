/-
  Digests of the chapter's examples, and what law02's digest answers.
-/
import Derived.Test.YtpdfalgjmeagjaaShaNat
import Derived.Test.YtpdfalgjmeagjaaShaTab
import Derived.Lib.ConvBytes
namespace Go.Proofs.Ytpdfalgjmeagjaa
open Go.RowKit
set_option linter.unusedVariables false
theorem of_all (first keys : List UInt32) (b : List UInt8) : ofF first keys b = digF (stAll keys first (b ++ padL b.length)) := sumF_append keys first b
theorem nat_inj (l m : List UInt8) (h : l.map UInt8.toNat = m.map UInt8.toNat) : l = m := by
  refine List.map_inj_right (f := UInt8.toNat) (fun x y h => UInt8.toNat_inj.1 h) |>.1 h
theorem of_one (first keys : List UInt32) (b d : List UInt8) (hf : first.length = 8) (hl : (b ++ padL b.length).length / 64 = 1) (hd : digN (blockN keys first ((b ++ padL b.length).take 64)) = d.map UInt8.toNat) : ofF first keys b = d := by
  apply nat_inj
  rw [of_all, digN_eq]
  unfold stAll
  rw [hl]
  show digN (List.map UInt32.toNat (blockF keys first _)) = _
  rw [blockN_eq _ _ _ hf, Nat.mul_zero, List.drop_zero]
  exact hd
theorem of_none : ofF firstL keysL [] = [227, 176, 196, 66, 152, 252, 28, 20, 154, 251, 244, 200, 153, 111, 185, 36, 39, 174, 65, 228, 100, 155, 147, 76, 164, 149, 153, 27, 120, 82, 184, 85] := of_one _ _ _ _ rfl (by kernel_rfl) (by kernel_rfl)
theorem of_abc : ofF firstL keysL [97, 98, 99] = [186, 120, 22, 191, 143, 1, 207, 234, 65, 65, 64, 222, 93, 174, 34, 35, 176, 3, 97, 163, 150, 23, 122, 156, 180, 16, 255, 97, 242, 0, 21, 173] := of_one _ _ _ _ rfl (by kernel_rfl) (by kernel_rfl)
/-- '[]byte(s)': the string's bytes in new memory. -/
theorem wpList_tobytes {w : World} {ops : Array Oper} {rest : List Oper} {o : Oper} {a : Act} {Q : Exit → Act → World → Prop} (hg : o.guard = none) (x : Operand) (hop : o.op = .convert 9 27 x) (l : List UInt8) (hx : a.eval x = .string ⟨l.toArray⟩)
    (hK : ∀ A c w', Sees w' w'.heap.size A (cb l) → l.length ≤ c → Below w.heap.size w w' → wpList Try.prog ops Q rest (a.put o.dst (.slice A l.length c)) w') : wpList Try.prog ops Q (o :: rest) a w := by
  have hrun := Lib.run_convert_string_bytes (P := Try.prog) w 9 27 5 ⟨l.toArray⟩ Try.underlying9 Try.underlying27 Try.underlying5
  refine wpList_plain hg fun K hK' => ?_
  have hr : (execOp a.eval o).run Try.prog w = .ok (.value (.slice (some ⟨w.heap.size, 0, none⟩) l.length (grownCap w (ByteArray.mk l.toArray).size 0 5))) (Lib.bytesWorld w 5 ⟨l.toArray⟩) := by
    unfold execOp
    simp only [hop, hx]
    rw [Sem.run_bind, hrun]
    rfl
  unfold Oper.wp
  rw [hr]
  refine hK' _ _ (hK _ _ _ ?_ ?_ ?_)
  · intro hn
    refine ⟨w.heap.size, 0, rfl, by rw [Lib.bytesWorld_size]; omega, fun j u hu => ?_⟩
    rw [List.getElem?_map] at hu
    obtain ⟨z, hz, rfl⟩ := Option.map_eq_some_iff.1 hu
    have hj : j < l.length := (List.getElem?_eq_some_iff.1 hz).1
    have h := Lib.bytesWorld_cell w 5 ⟨l.toArray⟩ j hj
    rw [Nat.zero_add, h]
    simp [List.getD, hz]
  · exact grownCap_ge w _ 0 _
  · exact ⟨rfl, rfl, rfl, by rw [Lib.bytesWorld_size]; omega, fun k hk => Lib.bytesWorld_at_old w _ _ k hk⟩
theorem len_ofF (first keys : List UInt32) (b : List UInt8) (h : first.length = 8) : (ofF first keys b).length = 32 := by
  rw [of_all, len_digF, show (stAll keys first (b ++ padL b.length)).length = 8 from len_stN _ _ _ h _]
theorem arr32 : Try.prog.underlying 38 = some (.array (Try.prog.arrayLen 38) (Try.prog.elem 38)) := by kernel_rfl
theorem arr32_len : Try.prog.arrayLen 38 = 32 := by kernel_rfl
theorem arr32_size (w : World) : (sizeOf (Try.prog.elem 38)).run Try.prog w = .ok 1 w := by kernel_rfl
theorem sl32_all (g : Nat) (w : World) : (Instr.sliceAt 38 (.pointer (some ⟨g, 0, none⟩)) none none none).run Try.prog w = .ok (.slice (some ⟨g, 0, none⟩) 32 32) w := by
  rw [run_sliceAt_array_all w 38 _ arr32, arr32_size, arr32_len]
  simp [Result.andThen, slicedAt, Addr.add]
set_option maxHeartbeats 400000 in
theorem digest_any (tb to : Nat) (first keys : List UInt32) (l : List UInt8) (w : World) (ht : Tab w tb to first keys) (hl : l.length ≤ 1000) :
    Calls Try.prog 89 #[.pointer (some ⟨tb, to, none⟩), .string ⟨l.toArray⟩] w fun e w' => e = .returned (.string ⟨(hexL (ofF first keys l)).toArray⟩) ∧ Below w.heap.size w w' := by
  have hlo := len_ofF first keys l ht.l1
  have HLO := Lib.hid hlo
  clear hlo
  go_enter Try.func89, Try.ntmps89
  go_wp2_with (first
    | (with_reducible refine wpList_tobytes rfl (.tmp 7) rfl l rfl ?_; intro A1 c1 w1 hS1 hc1 hB1)
    | (go_at_call 20; refine (Of_any tb to first keys A1 l.length c1 l _ (ht.step hB1) hS1 rfl hc1 (by omega)).mono ?_; rintro e w2 ⟨rfl, hB2⟩; have hB02 := Below.then_ hB1 hB2)
    | (with_reducible refine wpList_alloc (o := ⟨some 5, _, _, _, _, _⟩) rfl 38 rfl (cb (List.replicate 32 0)) (by kernel_rfl) 32 (by simp) (by decide) ?_; intro gd w3 hgd hFd hBd; have hsl := sl32_all gd; have hB03 := Below.then_ hB02 hBd; have z2 := hB02.size)
    | (with_reducible refine wpList_store rfl rfl (.tmp 5) (.tmp 9) 38 rfl gd 0 w2.heap.size 38 32 (cb (List.replicate 32 0)) (cb (ofF first keys l)) rfl rfl 32 (by rw [List.length_map]; exact HLO.out) (by kernel_rfl) hFd (by omega) (cb_one _) w hB03 (by omega) ?_; intro w9 hF9 hB9 _ _
       have hS9 : Sees w9 w9.heap.size (some ⟨gd, 0, none⟩) (cb (ofF first keys l)) := by
         have h := hF9.sees
         rwa [show splice (cb (List.replicate 32 0)) 0 (cb (ofF first keys l)) = cb (ofF first keys l) from by have := HLO.out; simp [splice, this]] at h)
    | (go_at_call 171; refine (Hex_any _ 32 32 (ofF first keys l) _ hS9 HLO.out (by omega)).mono ?_; rintro e w10 ⟨rfl, hB10⟩))
  go_ret
  exact ⟨rfl, Below.then_ hB9 hB10⟩
end Go.Proofs.Ytpdfalgjmeagjaa
