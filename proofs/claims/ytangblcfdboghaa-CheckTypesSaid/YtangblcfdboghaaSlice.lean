/-
  Cuts of slices of bytes, and copy into an array or slice of this call's own, as laws of the walk.
-/
import Derived.Test.YtangblcfdboghaaLow
import Derived.Test.YtangblcfdboghaaArr
import Derived.Test.YtangblcfdboghaaQTail
import Derived.Test.YtangblcfdboghaaPut
namespace Go.Proofs.Ytangblcfdboghaa
open Go.RowKit
set_option linter.unusedVariables false

/-- 'copy(dst, src)' into a block of this call's own, from place off on: m bytes go over, the first ones of the source. -/
theorem wpList_copyA {w : World} {ops : Array Oper} {rest : List Oper} {o : Oper} {a : Act} {Q : Exit → Act → World → Prop} (hg : o.guard = none) (d s : Operand)
    (hop : o.op = .call { callee := .builtin .copy, args := #[d, s], argTypes := #[27, 27] })
    (dp sp : Option Addr) (dLen dCap sLen sCap : Nat) (hd : a.eval d = .slice dp dLen dCap) (hs : a.eval s = .slice sp sLen sCap)
    (e : TypeId) (g n off m base : Nat) (cur src : List UInt8) (hF : Fresh base e w (some ⟨g, 0, none⟩) n n (cb cur)) (hm : Nat.min sLen dLen = m) (hl : src.length = sLen)
    (hdp : 0 < m → dp = some ⟨g, off, none⟩) (hsees : Sees w w.heap.size sp (cb src)) (hfit : off + m ≤ n)
    (hK : ∀ w', Fresh base e w' (some ⟨g, 0, none⟩) n n (cb (splice cur off (src.take m))) → Below g w w' → wpList Try.prog ops Q rest (a.put o.dst (goInt m)) w') :
    wpList Try.prog ops Q (o :: rest) a w := by
  have hcl : cur.length = n := by simpa using hF.len
  have hmle : m ≤ sLen := by rw [← hm]; exact Nat.min_le_left _ _
  have htl : (src.take m).length = m := by simp; omega
  refine wpList_copy_splice hg d s 27 27 hop 5 Try.underlying27 size8 dp sp dLen dCap sLen sCap hd hs g off (cb cur) e hF.block.1 (cb (src.take m)) (by rw [hm]; simpa using htl) ?_ (by simp [hcl]; omega) (cb_one _) g w (Below.refl _ _) (Nat.le_refl _) ?_
  · intro h0
    have h0' : 0 < m := by rw [List.length_map, htl] at h0; exact h0
    obtain ⟨b, o', rfl, _, hc⟩ := hsees (by simp; omega)
    refine ⟨hdp h0', _, rfl, fun j v hj => ?_⟩
    rw [Addr.add_lit]
    refine hc j v ?_
    rw [show cb (src.take m) = (cb src).take m from by simp [cb], List.getElem?_take] at hj
    split at hj
    · exact hj
    · cases hj
  · intro w' hg' hb'
    have e1 : splice (cb cur) off (cb (src.take m)) = cb (splice cur off (src.take m)) := by simp [splice, cb]
    have e2 : (cb (splice cur off (src.take m))).length = n := by
      rw [← e1, length_splice _ _ _ (by simp [hcl]; omega)]
      simp [hcl]
    have h := hg'.out
    rw [e1] at h
    have hr := hK w' (Fresh.of_block h hF.block.2 e2 hF.cap.2) hb'
    have e3 : (cb (src.take m)).length = m := by simpa using htl
    rw [e3]
    exact hr

/-- One cell of a block of this call's own is written. -/
theorem wpList_store1 {P : Program} {w : World} {ops : Array Oper} {rest : List Oper} {o : Oper} {a : Act} {Q : Exit → Act → World → Prop} (hg : o.guard = none) (hd : o.dst = none) (x v : Operand) (T : TypeId) (hop : o.op = .store T x v) (g off base : Nat) (t : TypeId) (n : Nat) (cur : List Value) (u : Value)
    (hx : a.eval x = .pointer (some ⟨g, off, none⟩)) (hv : a.eval v = u) (hc : u.cells = #[u]) (h1 : u.oneCell' = true) (hT : (P.info? T).map (·.size) = some 1) (hF : Fresh base t w (some ⟨g, 0, none⟩) n n cur) (hlt : off < n) (w0 : World) (hb : Below w0.heap.size w0 w) (hB : w0.heap.size ≤ g)
    (hK : ∀ w', Fresh base t w' (some ⟨g, 0, none⟩) n n (cur.set off u) → Below w0.heap.size w0 w' → (∀ k, k ≠ g → w'.heap[k]? = w.heap[k]?) → w.heap.size ≤ w'.heap.size → wpList P ops Q rest a w') : wpList P ops Q (o :: rest) a w := by
  obtain ⟨i, hi, hsz⟩ := Option.map_eq_some_iff.1 hT
  have hl := hF.len
  have hst := run_storeCells_at (P := P) g off t [u] 0 cur.toArray w hF.block.1 (by simp; omega) (by simpa using h1)
  have e : (cur.toArray.toList.take (off + 0) ++ [u] ++ cur.toArray.toList.drop (off + 0 + [u].length)).toArray = (cur.set off u).toArray := by
    rw [List.set_eq_take_append_cons_drop, if_pos (by omega)]
    simp
  rw [e] at hst
  have hrun : (execOp a.eval o).run P w = .ok .skip (w.setRow g (cur.set off u).toArray) := by
    unfold execOp
    simp only [hop, hx, hv, Instr.storeAt, Instr.sureAddr, Sem.run_bind, Sem.run_pure, Result.andThen_ok, storeVar, sizeOf, typeInfo, hc]
    simp [hsz, hst, hi]
  refine wpList_plain hg fun K hK' => ?_
  unfold Oper.wp
  rw [hrun]
  have h := hK _ (hF.setRow (by simpa using hl)) (Below.setRow' hb hB _) (fun k hk => setRow_other w g k _ hk) (by simp)
  have h' := hK' _ _ h
  simp only [Oper.upon]
  have e' : a.put o.dst undef = a := by simp [Act.put, hd]
  first | exact h' | (rw [e']; exact h')

theorem Sees.add {w : World} {B : Nat} {A : Option Addr} {xs : List Value} (h : Sees w B A xs) (k : Nat) (hk : k < xs.length) : Sees w B (A.map (·.add k)) (xs.drop k) := by
  obtain ⟨b, o, rfl, hb, hc⟩ := h (by omega)
  rw [Option.map_some, Addr.add_lit]
  exact Sees.drop_ (fun _ => ⟨b, o, rfl, hb, hc⟩) k
/-- 'b[k:]': what is left. -/
theorem run_from (A : Option Addr) (n c k : Nat) (hk : k ≤ n) (hc : n ≤ c) :
    ∃ A' : Option Addr, (∀ w, (Instr.slice 27 (.slice A n c) (some (.int .i64 (k : Int))) none none).run Try.prog w = .ok (.slice A' (n - k) (c - k)) w) ∧ ∀ (w : World) (B : Nat) (xs : List Value), xs.length = n → Sees w B A xs → Sees w B A' (xs.drop k) := by
  have hz : ∀ w, (sizeOf (Try.prog.elem 27)).run Try.prog w = .ok 1 w := fun w => by kernel_rfl
  have he : Try.prog.underlying 27 = some (.slice (Try.prog.elem 27)) := by kernel_rfl
  have hr : ∀ w, (Instr.slice 27 (.slice A n c) (some (.int .i64 (k : Int))) none none).run Try.prog w = .ok (sliced A k n c 1) w := fun w => by
    rw [run_slice_l w 27 A n c he .i64 (k : Int) (by omega) (by omega), hz]
    simp only [Result.andThen, Int.toNat_natCast]
  by_cases hkc : k = c
  · subst hkc
    refine ⟨A, fun w => ?_, fun w B xs hl hs => ?_⟩
    · rw [hr]
      cases A <;> simp [sliced]
    · rw [List.drop_of_length_le (by omega)]
      exact Sees.nil
  · refine ⟨A.map (·.add k), fun w => ?_, fun w B xs hl hs => ?_⟩
    · rw [hr]
      cases A <;> simp [sliced, Ne.symm hkc]
    · by_cases hkn : k < n
      · exact hs.add k (by omega)
      · rw [List.drop_of_length_le (by omega)]
        exact Sees.nil
end Go.Proofs.Ytangblcfdboghaa
