/-
  Digests of the chapter's examples, and what law02's digest answers.
-/
import Derived.Test.YtcfjbllmaejiaaaShaNat
import Derived.Test.YtcfjbllmaejiaaaShaTab
import Derived.Lib.ConvBytes
namespace Go.Proofs.Ytcfjbllmaejiaaa
open Go.RowKit
set_option linter.unusedVariables false
theorem of_all (first keys : List UInt32) (b : List UInt8) : ofF first keys b = digF (stAll keys first (b ++ padL b.length)) := sumF_append keys first b
theorem nat_inj (l m : List UInt8) (h : l.map UInt8.toNat = m.map UInt8.toNat) : l = m := by
  refine List.map_inj_right (f := UInt8.toNat) (fun x y h => UInt8.toNat_inj.1 h) |>.1 h
theorem of_one (first keys : List UInt32) (b d : List UInt8) (hf : first.length = 8) (hl : (b ++ padL b.length).length / 64 = 1) (hd : digN (blockN keys first ((b ++ padL b.length).take 64)) = d.map UInt8.toNat) : ofF first keys b = d := by
  apply nat_inj
  rw [of_all, digN_eq]
  unfold stAll
  rw [hl]
  show digN (List.map UInt32.toNat (blockF keys first _)) = _
  rw [blockN_eq _ _ _ hf, Nat.mul_zero, List.drop_zero]
  exact hd
theorem of_none : ofF firstL keysL [] = [227, 176, 196, 66, 152, 252, 28, 20, 154, 251, 244, 200, 153, 111, 185, 36, 39, 174, 65, 228, 100, 155, 147, 76, 164, 149, 153, 27, 120, 82, 184, 85] := of_one _ _ _ _ rfl (by kernel_rfl) (by kernel_rfl)
theorem of_abc : ofF firstL keysL [97, 98, 99] = [186, 120, 22, 191, 143, 1, 207, 234, 65, 65, 64, 222, 93, 174, 34, 35, 176, 3, 97, 163, 150, 23, 122, 156, 180, 16, 255, 97, 242, 0, 21, 173] := of_one _ _ _ _ rfl (by kernel_rfl) (by kernel_rfl)
/-- '[]byte(s)': the string's bytes in new memory. -/
theorem wpList_tobytes {w : World} {ops : Array Oper} {rest : List Oper} {o : Oper} {a : Act} {Q : Exit → Act → World → Prop} (hg : o.guard = none) (x : Operand) (hop : o.op = .convert 9 62 x) (l : List UInt8) (hx : a.eval x = .string ⟨l.toArray⟩)
    (hK : ∀ A c w', Sees w' w'.heap.size A (cb l) → l.length ≤ c → Below w.heap.size w w' → wpList Try.prog ops Q rest (a.put o.dst (.slice A l.length c)) w') : wpList Try.prog ops Q (o :: rest) a w := by
  have hrun := Lib.run_convert_string_bytes (P := Try.prog) w 9 62 5 ⟨l.toArray⟩ Try.underlying9 Try.underlying62 Try.underlying5
  refine wpList_plain hg fun K hK' => ?_
  have hr : (execOp a.eval o).run Try.prog w = .ok (.value (.slice (some ⟨w.heap.size, 0, none⟩) l.length (grownCap w (ByteArray.mk l.toArray).size 0 5))) (Lib.bytesWorld w 5 ⟨l.toArray⟩) := by
    unfold execOp
    simp only [hop, hx]
    rw [Sem.run_bind, hrun]
    rfl
  unfold Oper.wp
  rw [hr]
  refine hK' _ _ (hK _ _ _ ?_ ?_ ?_)
  · intro hn
    refine ⟨w.heap.size, 0, rfl, by rw [Lib.bytesWorld_size]; omega, fun j u hu => ?_⟩
    rw [List.getElem?_map] at hu
    obtain ⟨z, hz, rfl⟩ := Option.map_eq_some_iff.1 hu
    have hj : j < l.length := (List.getElem?_eq_some_iff.1 hz).1
    have h := Lib.bytesWorld_cell w 5 ⟨l.toArray⟩ j hj
    rw [Nat.zero_add, h]
    simp [List.getD, hz]
  · exact grownCap_ge w _ 0 _
  · exact ⟨rfl, rfl, rfl, by rw [Lib.bytesWorld_size]; omega, fun k hk => Lib.bytesWorld_at_old w _ _ k hk⟩
theorem len_ofF (first keys : List UInt32) (b : List UInt8) (h : first.length = 8) : (ofF first keys b).length = 32 := by
  rw [of_all, len_digF, show (stAll keys first (b ++ padL b.length)).length = 8 from len_stN _ _ _ h _]
theorem arr32 : Try.prog.underlying 84 = some (.array (Try.prog.arrayLen 84) (Try.prog.elem 84)) := by kernel_rfl
theorem arr32_len : Try.prog.arrayLen 84 = 32 := by kernel_rfl
theorem arr32_size (w : World) : (sizeOf (Try.prog.elem 84)).run Try.prog w = .ok 1 w := by kernel_rfl
theorem sl32_all (g : Nat) (w : World) : (Instr.sliceAt 84 (.pointer (some ⟨g, 0, none⟩)) none none none).run Try.prog w = .ok (.slice (some ⟨g, 0, none⟩) 32 32) w := by
  rw [run_sliceAt_array_all w 84 _ arr32, arr32_size, arr32_len]
  simp [Result.andThen, slicedAt, Addr.add]
end Go.Proofs.Ytcfjbllmaejiaaa
