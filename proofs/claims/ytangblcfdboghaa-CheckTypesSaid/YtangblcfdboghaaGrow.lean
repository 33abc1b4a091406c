/-
  make and copy of bytes as laws of the walk, and what the inner function grown answers: a copy with noughts behind it, in new memory.
-/
import Derived.Test.YtangblcfdboghaaProg
import Derived.Test.YtangblcfdboghaaMem
import Derived.Test.YtangblcfdboghaaPure
namespace Go.Proofs.Ytangblcfdboghaa
open Go.RowKit
set_option linter.unusedVariables false
theorem info8 : (Try.prog.info? 5).map (fun i => (i.zero, i.size, i.bytes)) = some (some (.int .u8 0), 1, 1) := by kernel_rfl
theorem size8 : (Try.prog.info? 5).map (·.size) = some 1 := by kernel_rfl
theorem made8 (n : Nat) : (madeCells (Value.int .u8 0).cells (n * 1)).toList = cb (List.replicate n 0) := by
  rw [Nat.mul_one]
  exact (toList_madeCells_one _ n).trans (by simp [cb])

/-- 'make([]byte, n)': n noughts in a new block. -/
theorem wpList_mk8 {w : World} {ops : Array Oper} {rest : List Oper} {o : Oper} {a : Act} {Q : Exit → Act → World → Prop} (hg : o.guard = none) (x : Operand) (hop : o.op = Op.makeSlice 27 x x)
    (L : Int) (n : Nat) (hl : a.eval x = .int .i64 L) (hL : L = (n : Int)) (hn : n ≤ 1099511627776)
    (hK : ∀ w', Fresh w.heap.size 5 w' (some ⟨w.heap.size, 0, none⟩) n n (cb (List.replicate n 0)) → Below w.heap.size w w' → wpList Try.prog ops Q rest (a.put o.dst (.slice (some ⟨w.heap.size, 0, none⟩) n n)) w') :
    wpList Try.prog ops Q (o :: rest) a w := by
  obtain ⟨i0, hi, hz0, hz1, hz2⟩ := info_parts info8
  refine wpList_make_full w hg x x 27 hop w.heap.size 5 i0 (.int .u8 0) 1 Try.underlying27 hi hz0 hz1 .i64 .i64 L L n hl hl hL hL (by rw [hz2]; omega) (by unfold maxLen; omega) (Nat.le_refl _) ?_
  intro w' h1 h2
  rw [made8] at h1
  exact hK w' h1 ((Below.refl _ _).grown h2 (Nat.le_refl _) (by simp))

/-- 'copy(dst, src)' where dst is the rest, from place off on, of a whole block of bytes: what goes over is cs. -/
theorem wpList_copy8 {w : World} {ops : Array Oper} {rest : List Oper} {o : Oper} {a : Act} {Q : Exit → Act → World → Prop} (hg : o.guard = none) (d s : Operand)
    (hop : o.op = .call { callee := .builtin .copy, args := #[d, s], argTypes := #[27, 27] })
    (dp sp : Option Addr) (dLen dCap sLen sCap : Nat) (hd : a.eval d = .slice dp dLen dCap) (hs : a.eval s = .slice sp sLen sCap)
    (g n off : Nat) (base : Nat) (cur cs : List UInt8) (hF : Fresh base 5 w (some ⟨g, 0, none⟩) n n (cb cur)) (hn : cs.length = sLen) (hsd : sLen ≤ dLen)
    (hdp : 0 < sLen → dp = some ⟨g, off, none⟩) (hsees : Sees w w.heap.size sp (cb cs)) (hfit : off + sLen ≤ n)
    (w0 : World) (hb : Below w0.heap.size w0 w) (hBg : w0.heap.size ≤ g)
    (hK : ∀ w', Fresh base 5 w' (some ⟨g, 0, none⟩) n n (cb (splice cur off cs)) → Below w0.heap.size w0 w' → wpList Try.prog ops Q rest (a.put o.dst (goInt sLen)) w') :
    wpList Try.prog ops Q (o :: rest) a w := by
  have hcl : cur.length = n := by simpa using hF.len
  have hmin : (cb cs).length = Nat.min sLen dLen := by
    have e : Nat.min sLen dLen = sLen := Nat.min_eq_left hsd
    rw [e]
    simp [hn]
  refine wpList_copy_splice hg d s 27 27 hop 5 Try.underlying27 size8 dp sp dLen dCap sLen sCap hd hs g off (cb cur) 5 hF.block.1 (cb cs) hmin ?_ (by simp [hcl, hn]; omega) (cb_one cs) w0.heap.size w0 hb hBg ?_
  · intro h0
    have h0' : 0 < sLen := by simpa [hn] using h0
    obtain ⟨b, o', rfl, _, hc⟩ := hsees h0
    exact ⟨hdp h0', _, rfl, fun j v hj => by rw [Addr.add_lit]; exact hc j v hj⟩
  · intro w' hg' hb'
    have e1 : splice (cb cur) off (cb cs) = cb (splice cur off cs) := by simp [splice, cb]
    have e2 : (cb (splice cur off cs)).length = n := by
      rw [← e1, length_splice _ _ _ (by simp [hcl, hn]; omega)]
      simp [hcl]
    have h := hg'.out
    rw [e1] at h
    have hr := hK w' (Fresh.of_block h hF.block.2 e2 hF.cap.2) hb'
    rw [← hn] at hr
    simpa using hr

def Grows (w : World) (n : Nat) (l : List UInt8) (e : Ending) (w' : World) : Prop :=
  e = .returned (.slice (some ⟨w.heap.size, 0, none⟩) n n) ∧ Fresh w.heap.size 5 w' (some ⟨w.heap.size, 0, none⟩) n n (cb l) ∧ Below w.heap.size w w'
theorem splice_front (l : List UInt8) (m : Nat) : splice (List.replicate (l.length + m) 0) 0 l = l ++ List.replicate m 0 := by
  simp [splice]

set_option maxHeartbeats 400000 in
theorem grown_any (A : Option Addr) (c n m : Nat) (M : Int) (l : List UInt8) (w : World) (hM : M = (m : Int)) (hs : Sees w w.heap.size A (cb l)) (hl : l.length = n) (hb : n + m ≤ 1099511627776) :
    Calls Try.prog 63 #[.slice A n c, .int .i64 M] w (Grows w (n + m) (l ++ List.replicate m 0)) := by
  subst hM
  have HL := Lib.hid hl
  clear hl
  go_enter Try.func63, Try.ntmps63
  go_wp2_with (first
    | (at_make; refine wpList_mk8 rfl (.tmp 9) rfl _ (n + m) rfl (by omega) hb ?_; intro w1 hF1 hB1)
    | (with_reducible refine wpList_copy8 rfl (.tmp 11) (.tmp 12) rfl _ _ _ _ _ _ rfl rfl w.heap.size (n + m) 0 w.heap.size (List.replicate (n + m) 0) l hF1 HL.out (by omega) (fun _ => rfl) (hs.step hB1) (by omega) w hB1 (Nat.le_refl _) ?_; intro w2 hF2 hB2))
  go_ret
  refine ⟨rfl, ?_, hB2⟩
  have h := hF2
  rw [← HL.out, splice_front] at h
  rw [← HL.out]
  exact h
theorem fresh_nil (base : Nat) (e : TypeId) (w : World) : Fresh base e w none 0 0 [] := World.ownsRow_nil _ _ _ _
theorem byteAt_nat (n i : Nat) : ((byteAt n i).toNat : Int) = (n : Int) / 2 ^ (8 * (3 - i)) % 256 := by
  unfold byteAt
  rw [ofNat_toNat _ (Nat.mod_lt _ (by omega)), shr_nat]
  rfl
end Go.Proofs.Ytangblcfdboghaa
