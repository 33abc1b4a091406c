/-
  Calls that are known ahead by contracts, and calls whose arguments are handed on without being looked into.
  Lists of words and of bytes as the small machine's values.
  Blocks that a call known ahead has made, as the small machine's own.
-/
import Derived.Test.YtpcfjcbiekenkaaCpB03
import Derived.Test.YtpcfjcbiekenkaaCpB01
import Derived.StillTail
import Derived.Deep.Quiet
import Derived.Deep.QuietTactic
import Derived.BigQuiet
namespace Go.Proofs.Ytpcfjcbiekenkaa
open Go.RowKit
set_option linter.unusedVariables false
section
variable {P : Program} {ρ : Pos} {h : H} {w w' : World} {orc : Known}
/-- Memory that was there is there. -/
theorem Rel.below (r : Rel ρ h w) (b : Below w.heap.size w w') : Rel ρ h w' :=
  ⟨fun c x hc => by
    obtain ⟨g, C, cur, fz, h1, h2, h3⟩ := r.at_ c x hc
    exact ⟨g, C, cur, fz, h1, by rw [b.block g (Array.getElem?_eq_some_iff.1 h2).1]; exact h2, h3⟩, r.inj⟩
theorem Ext.of_below (b : Below w.heap.size w w') : Ext ρ h w ρ h w' :=
  ⟨Pos.le_refl _, Nat.le_refl _, b.os, b.tape, b.output, b.size, fun k hk _ => b.block k hk, fun c x k C hc hr hp _ => ⟨c, x, C, hc, hr, hp⟩, fun _ _ => rfl, fun _ _ hc _ => hc⟩
/-- A call that leaves all memory as it was, and tells a value without addresses. -/
theorem CallTo.of_below {f : FuncId} {args : List AV} {r : AV} (H : ∀ ρ w vs, conL ρ args = some vs → Rel ρ h w → ∃ v, con ρ r = some v ∧ Calls P f vs.toArray w fun e w' => e = .returned v ∧ Below w.heap.size w w') : CallTo P f args h r h := by
  intro ρ w vs hc hm hn
  obtain ⟨v, hv, k⟩ := H ρ w vs hc hm
  refine k.mono ?_
  rintro e w' ⟨rfl, hb⟩
  exact ⟨ρ, v, hv, rfl, hm.below hb, hn, .of_below hb⟩
end
end Go.Proofs.Ytpcfjcbiekenkaa
namespace Go.Proofs.Ytpcfjcbiekenkaa
open Go.RowKit
set_option linter.unusedVariables false

def avsOf (k : IntKind) : List Nat → List AV
  | [] => []
  | n :: l => .int k (Int.ofNat n) :: avsOf k l
theorem avs32 (ρ : Pos) : ∀ (us : List UInt32), conL ρ (avsOf .u32 (us.map UInt32.toNat)) = some (cw us)
  | [] => rfl
  | u :: us => conL_mk rfl (avs32 ρ us)
end Go.Proofs.Ytpcfjcbiekenkaa
namespace Go.Proofs.Ytpcfjcbiekenkaa
open Go.RowKit
set_option linter.unusedVariables false
section
variable {ρ : Pos} {h : H} {w w' : World}
theorem Rel.add (r : Rel ρ h w) (hn : New ρ h) (x : Blk) (g C : Nat) (cur : Array Value) (fz : Nat × Nat) (hg : w.heap[g]? = some (.cells cur x.elem fz)) (hfr : ∀ b y D, h.get b = some y → ρ b ≠ some (g, D)) (hx : BlkIs (ρ.put h.next (g, C)) C x cur fz) :
    Rel (ρ.put h.next (g, C)) (h.push x) w := by
  have l : ρ.le (ρ.put h.next (g, C)) := Pos.le_put _ (hn _ (Nat.le_refl _))
  refine ⟨fun b y hb => ?_, fun b c y z q D E hb hc hpb hpc hne => ?_⟩
  · rcases H.get_push hb with ⟨rfl, rfl⟩ | ⟨hne, hb'⟩
    · exact ⟨g, C, cur, fz, Pos.put_self _ _ _, hg, hx⟩
    · obtain ⟨q, D, cur', fz', h1, h2, h3⟩ := r.at_ b y hb'
      exact ⟨q, D, cur', fz', by rw [Pos.put_ne _ _ hne]; exact h1, h2, h3.mono l⟩
  · rcases H.get_push hb with ⟨rfl, rfl⟩ | ⟨n1, hb'⟩
    · rw [Pos.put_self] at hpb
      rcases H.get_push hc with ⟨rfl, rfl⟩ | ⟨n2, hc'⟩
      · exact absurd rfl hne
      · rw [Pos.put_ne _ _ n2] at hpc
        simp only [Option.some.injEq, Prod.mk.injEq] at hpb
        obtain ⟨rfl, rfl⟩ := hpb
        exact absurd hpc (hfr c z E hc')
    · rw [Pos.put_ne _ _ n1] at hpb
      rcases H.get_push hc with ⟨rfl, rfl⟩ | ⟨n2, hc'⟩
      · rw [Pos.put_self] at hpc
        simp only [Option.some.injEq, Prod.mk.injEq] at hpc
        obtain ⟨rfl, rfl⟩ := hpc
        exact absurd hpb (hfr b y D hb')
      · rw [Pos.put_ne _ _ n2] at hpc
        exact r.inj b c y z q D E hb' hc' hpb hpc hne
theorem New.add (hn : New ρ h) (x : Blk) (g : Nat × Nat) : New (ρ.put h.next g) (h.push x) := fun b hb => by
  have hb' : h.next + 1 ≤ b := hb
  rw [Pos.put_ne _ _ (by omega)]
  exact hn b (by omega)
theorem Ext.add (r : Rel ρ h w) (hn : New ρ h) (x : Blk) (hrw : x.rw = true) (g C : Nat) (w0 : World) {ρ0 : Pos} {h0 : H} (e : Ext ρ0 h0 w0 ρ h w) (hg : w0.heap.size ≤ g) : Ext ρ0 h0 w0 (ρ.put h.next (g, C)) (h.push x) w := by
  refine ⟨Pos.le_trans e.le (Pos.le_put _ (hn _ (Nat.le_refl _))), Nat.le_trans e.next (Nat.le_succ _), e.os, e.tape, e.output, e.size, e.keep, fun b y k D hb hr hp hk => ?_, fun b hb => ?_, fun b y hb hr => ?_⟩
  · rcases H.get_push hb with ⟨rfl, rfl⟩ | ⟨hne, hb'⟩
    · rw [Pos.put_self] at hp
      simp only [Option.some.injEq, Prod.mk.injEq] at hp
      omega
    · rw [Pos.put_ne _ _ hne] at hp
      exact e.own b y k D hb' hr hp hk
  · rw [Pos.put_ne _ _ (by have := e.next; omega)]
    exact e.only b hb
  · rcases H.get_push hb with ⟨rfl, rfl⟩ | ⟨hne, hb'⟩
    · rw [hrw] at hr
      cases hr
    · exact e.ro b y hb' hr
end
end Go.Proofs.Ytpcfjcbiekenkaa

/-
  Strings of bytes, append of bytes and words as laws of the walk, and what CopyBytes, SameBytes, CopyWords and SameWords answer, for every input.
-/
namespace Go.Proofs.Ytpcfjcbiekenkaa
open Go.RowKit
set_option linter.unusedVariables false

/-- 'string(b)': the bytes that the slice reads as. -/
theorem run_str {w : World} {B : Nat} {A : Option Addr} {l : List UInt8} {n : Nat} (hs : Sees w B A (cb l)) (hl : l.length = n) (c : Nat) :
    (convert 38 9 (.slice A n c)).run Try.prog w = .ok (.string ⟨l.toArray⟩) w := by
  subst hl
  by_cases h0 : l.length = 0
  · obtain rfl : l = [] := List.eq_nil_of_length_eq_zero h0
    cases A with
    | none => exact run_convert_bytes_nil (P := Try.prog) w 38 5 Try.underlying38 Try.underlying5 0 c 9 Try.underlying9
    | some a => exact run_convert_bytes_back (P := Try.prog) w 38 9 5 a c [] Try.underlying38 Try.underlying5 Try.underlying9 (fun j hj => by simp at hj)
  · obtain ⟨b, o, rfl, _, hc⟩ := hs (by simp; omega)
    exact run_convert_bytes_back (P := Try.prog) w 38 9 5 _ c l Try.underlying38 Try.underlying5 Try.underlying9 (fun j hj => by rw [Addr.add_lit]; exact hc j _ (get_cb l j hj))

set_option maxHeartbeats 400000 in
theorem SameBytes_any (A B : Option Addr) (c d n m : Nat) (l b : List UInt8) (w : World) (hs : Sees w w.heap.size A (cb l)) (ht : Sees w w.heap.size B (cb b)) (hl : l.length = n) (hm : b.length = m) :
    Calls Try.prog 21 #[.slice A n c, .slice B m d] w fun e w' => e = .returned (.bool (l == b)) ∧ w = w' := by
  have h1 := run_str hs hl c
  have h2 := run_str ht hm d
  clear hl hm
  go_enter Try.func21, Try.ntmps21
  go_wp2
  go_ret
  exact ⟨rfl, rfl⟩

theorem none_app {w : World} {base : Nat} {A : Option Addr} {n c d : Nat} {xs : List Value} {ty : TypeId} (hF : Fresh base 5 w A n c xs) :
    (Builtin.append_ #[38, 38] ty #[.slice A n c, .slice none 0 d]).run Try.prog w = .ok (.slice A n c) w := by
  obtain ⟨i0, hi, hz0, hz1, hz2⟩ := info_parts info8
  rcases hF.2 with ⟨hv, rfl⟩ | ⟨g, cap, cur, hv, _, _, hnc, _⟩
  · rw [hv]
    simp [Builtin.append_, run_underlying Try.underlying38, sizeOf, typeInfo, hi, Builtin.lenOf, Builtin.firstCells]
  · rw [hv]
    simp [Builtin.append_, run_underlying Try.underlying38, sizeOf, typeInfo, hi, Builtin.lenOf, Builtin.firstCells, hnc, storeCells]

/-- 'append(dst, src...)', dst in new memory (or nil), src whatever slice of bytes. -/
theorem wpList_app8 {w : World} {ops : Array Oper} {rest : List Oper} {o : Oper} {a : Act} {Q : Exit → Act → World → Prop} (hg : o.guard = none) (s x : Operand)
    (hop : o.op = .call { callee := .builtin .append, args := #[s, x], argTypes := #[38, 38] })
    (D A : Option Addr) (n c m d : Nat) (cur l : List UInt8) (w0 : World) (hs : a.eval s = .slice D n c) (hx : a.eval x = .slice A m d)
    (hF : Fresh w0.heap.size 5 w D n c (cb cur)) (hS : Sees w w.heap.size A (cb l)) (hl : l.length = m) (hn : n + m ≤ 1099511627776) (hb : Below w0.heap.size w0 w)
    (hK : ∀ A' c' w', Fresh w0.heap.size 5 w' A' (n + m) c' (cb (cur ++ l)) → Below w0.heap.size w0 w' → wpList Try.prog ops Q rest (a.put o.dst (.slice A' (n + m) c')) w') :
    wpList Try.prog ops Q (o :: rest) a w := by
  obtain ⟨i0, hi, hz0, hz1, hz2⟩ := info_parts info8
  have h1 : ∀ u ∈ cb l, u.oneCell' = true := cb_one l
  have main : ∀ ad, A = some ad → (∀ j u, (cb l)[j]? = some u → w.cell? (ad.add j) = some u) → wpList Try.prog ops Q (o :: rest) a w := by
    intro ad hA hc
    refine wpList_append_own w hg s x 38 hop w0.heap.size 5 i0 (.int .u8 0) 1 1 Try.underlying38 hi hz0 hz1 hz2 rfl (by omega) _ n (cb cur) hs hF ad m d (cb l) (by rw [hx, hA]) (by simp [hl]) hc h1 (by unfold maxLen; omega) (by omega) hb.size ?_
    intro v' w' hown hgr hnil
    have hB : Below w0.heap.size w0 w' := hb.grown hgr hb.size (fun k hk => (hF.lt k hk).1)
    rw [show cb cur ++ cb l = cb (cur ++ l) from by simp [cb]] at hown
    rcases hown.2 with ⟨rfl, h0⟩ | ⟨g, cap, cu, rfl, _⟩
    · rw [h0] at hown hK
      exact hK none 0 w' hown hB
    · exact hK _ cap w' hown hB
  by_cases h0 : m = 0
  · subst h0
    obtain rfl : l = [] := List.eq_nil_of_length_eq_zero hl
    cases hA : A with
    | none =>
      rw [hA] at hx
      refine wpList_plain hg fun K hK' => ?_
      have hrun := none_app (d := d) (ty := o.type) hF
      unfold Oper.wp
      simp [execOp, hop, resolve, invoke, builtin, hs, hx, hrun, Result.andThen]
      have := hK D c w (by simpa using hF) hb
      exact hK' _ _ (by simpa using this)
    | some ad => exact main ad hA (fun j u hj => by simp at hj)
  · obtain ⟨b, off, hA, _, hc⟩ := hS (by simp; omega)
    exact main _ hA (fun j u hj => by rw [Addr.add_lit]; exact hc j u hj)

/-- A list of bytes in new memory. -/
def Made8 (w : World) (n : Nat) (l : List UInt8) (e : Ending) (w' : World) : Prop :=
  ∃ A c, e = .returned (.slice A n c) ∧ Fresh w.heap.size 5 w' A n c (cb l) ∧ Below w.heap.size w w'

theorem none_app32 {w : World} {base : Nat} {A : Option Addr} {n c d : Nat} {xs : List Value} {ty : TypeId} (hF : Fresh base 66 w A n c xs) :
    (Builtin.append_ #[28, 28] ty #[.slice A n c, .slice none 0 d]).run Try.prog w = .ok (.slice A n c) w := by
  obtain ⟨i0, hi, hz0, hz1, hz2⟩ := info_parts info32
  rcases hF.2 with ⟨hv, rfl⟩ | ⟨g, cap, cur, hv, _, _, hnc, _⟩
  · rw [hv]
    simp [Builtin.append_, run_underlying Try.underlying28, sizeOf, typeInfo, hi, Builtin.lenOf, Builtin.firstCells]
  · rw [hv]
    simp [Builtin.append_, run_underlying Try.underlying28, sizeOf, typeInfo, hi, Builtin.lenOf, Builtin.firstCells, hnc, storeCells]

/-- 'append(dst, src...)', dst in new memory (or nil), src whatever slice of words. -/
theorem wpList_app32 {w : World} {ops : Array Oper} {rest : List Oper} {o : Oper} {a : Act} {Q : Exit → Act → World → Prop} (hg : o.guard = none) (s x : Operand)
    (hop : o.op = .call { callee := .builtin .append, args := #[s, x], argTypes := #[28, 28] })
    (D A : Option Addr) (n c m d : Nat) (cur l : List UInt32) (w0 : World) (hs : a.eval s = .slice D n c) (hx : a.eval x = .slice A m d)
    (hF : Fresh w0.heap.size 66 w D n c (cw cur)) (hS : Sees w w.heap.size A (cw l)) (hl : l.length = m) (hn : n + m ≤ 1099511627776) (hb : Below w0.heap.size w0 w)
    (hK : ∀ A' c' w', Fresh w0.heap.size 66 w' A' (n + m) c' (cw (cur ++ l)) → Below w0.heap.size w0 w' → wpList Try.prog ops Q rest (a.put o.dst (.slice A' (n + m) c')) w') :
    wpList Try.prog ops Q (o :: rest) a w := by
  obtain ⟨i0, hi, hz0, hz1, hz2⟩ := info_parts info32
  have h1 : ∀ u ∈ cw l, u.oneCell' = true := cw_one l
  have main : ∀ ad, A = some ad → (∀ j u, (cw l)[j]? = some u → w.cell? (ad.add j) = some u) → wpList Try.prog ops Q (o :: rest) a w := by
    intro ad hA hc
    refine wpList_append_own w hg s x 28 hop w0.heap.size 66 i0 (.int .u32 0) 1 4 Try.underlying28 hi hz0 hz1 hz2 rfl (by omega) _ n (cw cur) hs hF ad m d (cw l) (by rw [hx, hA]) (by simp [hl]) hc h1 (by unfold maxLen; omega) (by omega) hb.size ?_
    intro v' w' hown hgr hnil
    have hB : Below w0.heap.size w0 w' := hb.grown hgr hb.size (fun k hk => (hF.lt k hk).1)
    rw [show cw cur ++ cw l = cw (cur ++ l) from by simp [cw]] at hown
    rcases hown.2 with ⟨rfl, h0⟩ | ⟨g, cap, cu, rfl, _⟩
    · rw [h0] at hown hK
      exact hK none 0 w' hown hB
    · exact hK _ cap w' hown hB
  by_cases h0 : m = 0
  · subst h0
    obtain rfl : l = [] := List.eq_nil_of_length_eq_zero hl
    cases hA : A with
    | none =>
      rw [hA] at hx
      refine wpList_plain hg fun K hK' => ?_
      have hrun := none_app32 (d := d) (ty := o.type) hF
      unfold Oper.wp
      simp [execOp, hop, resolve, invoke, builtin, hs, hx, hrun, Result.andThen]
      have := hK D c w (by simpa using hF) hb
      exact hK' _ _ (by simpa using this)
    | some ad => exact main ad hA (fun j u hj => by simp at hj)
  · obtain ⟨b, off, hA, _, hc⟩ := hS (by simp; omega)
    exact main _ hA (fun j u hj => by rw [Addr.add_lit]; exact hc j u hj)

/-- A list of words in new memory. -/
def Made32 (w : World) (n : Nat) (l : List UInt32) (e : Ending) (w' : World) : Prop :=
  ∃ A c, e = .returned (.slice A n c) ∧ Fresh w.heap.size 66 w' A n c (cw l) ∧ Below w.heap.size w w'

theorem take_same (l b : List UInt32) (k : Nat) (x y : UInt32) (h : l.take k = b.take k) (hx : l[k]? = some x) (hy : b[k]? = some y) (e : x = y) : l.take (k + 1) = b.take (k + 1) := by
  subst e
  rw [List.take_add_one, List.take_add_one, h, hx, hy]

set_option maxHeartbeats 400000 in
theorem SameWords_any (A B : Option Addr) (c d n m : Nat) (l b : List UInt32) (w : World) (hs : Sees w w.heap.size A (cw l)) (ht : Sees w w.heap.size B (cw b)) (hl : l.length = n) (hm : b.length = m) (hn : n ≤ 1099511627776) :
    Calls Try.prog 72 #[.slice A n c, .slice B m d] w fun e w' => e = .returned (.bool (l == b)) ∧ ∃ k, w' = w.drewN k := by
  have HL := Lib.hid hl
  have HM := Lib.hid hm
  clear hl hm
  by_cases hnm : n = m
  · subst hnm
    go_enter Try.func72, Try.ntmps72
    go_wp2
    go_loopw [5] (fun i wr => ∃ k : Nat, k ≤ n ∧ i = .int .i64 k ∧ l.take k = b.take k ∧ ∃ q, wr = w.drewN q) (fun i _ => n - (intOf i).toNat)
    case atStart => exact ⟨0, by omega, rfl, rfl, 0, rfl⟩
    case round =>
      obtain ⟨k, hk, rfl, htk, q, rfl⟩ := hrel
      have HT := Lib.hid htk
      clear htk
      by_cases hlt : k < n
      · obtain ⟨b1, o1, rfl, hb1, x, HX, hx, hcx⟩ := hs.word HL.out hlt
        obtain ⟨b2, o2, rfl, hb2, y, HY, hy, hcy⟩ := ht.word HM.out hlt
        by_cases he : x.toNat = y.toNat
        · have hne : ((x.toNat : Int) != (y.toNat : Int)) = false := by simp [he]
          have HE := Lib.hid he
          clear he
          go_wp2
          go_quiet (fail)
          go_wp2
          go_roundw
          case rel => exact ⟨k + 1, by omega, by go_num, take_same l b k x y HT.out HX.out HY.out (UInt32.toNat_inj.1 HE.out), _, rfl⟩
          case measure => simp [intOf]; omega
        · have hne : ((x.toNat : Int) != (y.toNat : Int)) = true := by simp; omega
          go_wp2
          go_quiet (fail)
          go_wp2
          go_ret
          refine ⟨ret_bool ?_, _, World.drewN_drewN _ _ _⟩
          rw [eq_comm, beq_eq_false_iff_ne]
          rintro rfl
          have h1 := HX.out
          rw [HY.out] at h1
          injection h1 with h1
          exact he (by rw [h1])
      · go_wp2
        go_ret
        obtain rfl : k = n := by omega
        refine ⟨ret_bool ?_, _, rfl⟩
        rw [eq_comm, beq_iff_eq]
        have h := HT.out
        rwa [List.take_of_length_le (by rw [HL.out]; exact Nat.le_refl _), List.take_of_length_le (by rw [HM.out]; exact Nat.le_refl _)] at h
  · have hne : ((n : Int) != (m : Int)) = true := by simp; omega
    go_enter Try.func72, Try.ntmps72
    go_wp2
    go_ret
    refine ⟨ret_bool ?_, 0, rfl⟩
    rw [eq_comm, beq_eq_false_iff_ne]
    rintro rfl
    exact hnm (HL.out.symm.trans HM.out)

end Go.Proofs.Ytpcfjcbiekenkaa

/-
  A region that draws its order, whose operations leave the worlds of a class alone (reads, and calls that stay in the class), and which ends in a tail of one order: walked once, in the order of the text. The guide's two laws (reads with a tail; calls in a class) in one. No program is named here.
-/
namespace Go.Proofs.Ytpcfjcbiekenkaa
open Go.RowKit
set_option linter.unusedVariables false

section
variable {P : Program} {ops : Array Oper} {md : Region.Mode} {C : World → Prop}

def wpAnyT (P : Program) (md : Region.Mode) (ops : Array Oper) (C : World → Prop) (n : Nat) (L : Array Bool → Act → Prop) : Nat → Array Bool → Act → Prop
  | 0, listed, a => L listed a
  | f + 1, listed, a =>
    Region.ready md ops listed ≠ [] ∧ ∀ i ∈ Region.ready md ops listed, i < n ∧ qOp P ops C i (wpAnyT P md ops C n L f (listed.setIfInBounds i true)) a

theorem wpAny_of_headT {n g : Nat} {L : Array Bool → Act → Prop} {Q' : Exit → Act → World → Prop} (hL : ∀ listed a w, C w → L listed a → wpAny P md ops Q' g listed a w) :
    ∀ (f : Nat) (listed : Array Bool) (a : Act) (w : World), C w → wpAnyT P md ops C n L f listed a → wpAny P md ops Q' (f + g) listed a w
  | 0, listed, a, w, hw, h => by rw [Nat.zero_add]; exact hL _ _ _ hw h
  | f + 1, listed, a, w, hw, h => by
    rw [show f + 1 + g = (f + g) + 1 by omega]
    exact ⟨fun h0 => absurd h0 h.1, fun i hi => wpOp_of_qOp hw (fun a' w' hw' h' => wpAny_of_headT hL f _ a' w' hw' h') (h.2 i hi).2⟩

theorem wpAnyT_first {n i : Nat} {oi : Oper} {v : Value} {L : Array Bool → Act → Prop} (hi : ops[i]? = some oi) (hsel : ∀ (j : Nat) (o : Oper) cs b, ops[j]? = some o → o.op ≠ .select cs b)
    (hs : Region.sinkB md ops n = true) (hc : Region.chainB md ops n = true) (hn : n < ops.size) (hin : i < n)
    (hdone : ∀ listed a, L listed a → ∀ j ∈ Region.ready md ops listed, n ≤ j) :
    ∀ (f : Nat) (listed : Array Bool) (a : Act), HeadInv md ops n listed →
      (∀ j oj, ops[j]? = some oj → j ≠ i → listed.getD j true = false → (∀ e ∈ oj.after, Region.binds md e = true → e.on ≠ i) → oi.apart ops oj = true) →
      i ∈ Region.ready md ops listed → YieldsIn P ops C oi v a →
      wpAnyT P md ops C n L f (listed.setIfInBounds i true) (a.put oi.dst v) → wpAnyT P md ops C n L (f + 1) listed a := by
  intro f
  induction f with
  | zero =>
    intro listed a inv _ hr hy H
    have hun := (mem_ready.1 hr).1
    refine ⟨fun h => (by rw [h] at hr; cases hr), fun j hj => ?_⟩
    have hjn : j < n := by
      rcases Nat.lt_or_ge j n with h | h
      · exact h
      · exact absurd hj (tail_waits hs hc hn inv _ i rfl hin hun j h)
    refine ⟨hjn, ?_⟩
    by_cases hji : j = i
    · subst hji; exact hy.qOp hi H
    · have := hdone _ _ H j (ready_mono hj hji)
      omega
  | succ f ih =>
    intro listed a inv hfree hr hy H
    have hun := (mem_ready.1 hr).1
    refine ⟨fun h => (by rw [h] at hr; cases hr), fun j hj => ?_⟩
    have hjn : j < n := by
      rcases Nat.lt_or_ge j n with h | h
      · exact h
      · exact absurd hj (tail_waits hs hc hn inv _ i rfl hin hun j h)
    refine ⟨hjn, ?_⟩
    by_cases hji : j = i
    · subst hji; exact hy.qOp hi H
    · have h1 := (H.2 j (ready_mono hj hji)).2
      obtain ⟨hjun, oj, hoj, hall⟩ := mem_ready.1 hj
      have hnot : ∀ e ∈ oj.after, Region.binds md e = true → e.on ≠ i := fun e he hb heq => by
        have h1 := hall e he hb
        rw [heq, getD_both hun] at h1
        cases h1
      have h2 := qOp_put hoj (hfree j oj hoj hji hjun hnot) (fun cs b => hsel i oi cs b hi) (fun cs b => hsel j oj cs b hoj) hy h1
      have hfree' : ∀ k ok, ops[k]? = some ok → k ≠ i → (listed.setIfInBounds j true).getD k true = false →
          (∀ e ∈ ok.after, Region.binds md e = true → e.on ≠ i) → oi.apart ops ok = true := fun k ok hk hki hun hno => by
        refine hfree k ok hk hki ?_ hno
        by_cases hjk : j = k
        · subst hjk; exact hjun
        · rw [getD_set_ne true hjk] at hun; exact hun
      refine qOp_mono (fun a' h3 => ih (listed.setIfInBounds j true) a' (inv.set hj hjn) hfree' (ready_mono hr (Ne.symm hji)) h3.1 ?_) h2
      rw [Array.setIfInBounds_comm _ _ hji]
      exact h3.2

theorem wpAnyT_lex {n g : Nat} {Lq : Act → Prop} (hsel : Region.noSelect ops = true) (hs : Region.sinkB md ops n = true) (hc : Region.chainB md ops n = true) (hn : n < ops.size) :
    ∀ (l : List Oper) (k : Nat) (listed : Array Bool) (a : Act), (∀ j, j < l.length → l[j]? = ops[k + j]?) → k + l.length = n → HeadInv md ops n listed →
    Region.lexHead md ops g l.length k listed = true → wpQuiet P ops C Lq l a →
    wpAnyT P md ops C n (fun listed' a' => Region.seqB md ops g n listed' = true ∧ Lq a') l.length listed a
  | [], k, listed, a, _, hk, _, hB, h => by
    have : k = n := by simpa using hk
    subst this
    exact ⟨by simpa [Region.lexHead] using hB, h⟩
  | o :: l, k, listed, a, hl, hk, inv, hB, h => by
    have h0 : ops[k]? = some o := by simpa using (hl 0 (by simp)).symm
    simp only [List.length_cons, Region.lexHead, Bool.and_eq_true] at hB
    obtain ⟨⟨hr, hf⟩, hB'⟩ := hB
    have hkn : k < n := by simp only [List.length_cons] at hk; omega
    have hr' : k ∈ Region.ready md ops listed := by simpa using hr
    have hst : qOp P ops C k (wpQuiet P ops C Lq l) a := by unfold qOp; simp only [h0]; exact h
    obtain ⟨v, hy, hK⟩ := yieldsIn_of_qOp h0 hst
    exact wpAnyT_first h0 (Region.noSelect_spec hsel) hs hc hn hkn (fun listed' a' hL => seqB_ready hL.1) l.length listed a inv (Region.free_spec h0 hf) hr' hy
      (wpAnyT_lex hsel hs hc hn l (k + 1) _ _ (fun j hj => by have := hl (j + 1) (by simp; omega); simpa [Nat.add_assoc, Nat.add_comm 1 j] using this) (by simp only [List.length_cons] at hk; omega) (inv.set hr' hkn) hB' hK)

theorem region_class_tail {id : Nat} {Q : Exit → Act → World → Prop} {a : Act} {w : World} {l : List Oper} (n : Nat) (hm : P.follows .mixedOrders = true) (hB : Region.lexTailB .any l.toArray n = true) (hC : C { w with drawn := w.drawn + 1 })
    (h : wpQuiet P l.toArray C (fun a' => ∀ w', C w' → wpList P l.toArray Q (l.drop n) a' w') (l.take n) a) : (Code.region id l.toArray true).wp P Q a w := by
  simp only [Region.lexTailB, Bool.and_eq_true, decide_eq_true_eq] at hB
  obtain ⟨⟨⟨⟨hsel, hn⟩, hs⟩, hc⟩, hlex⟩ := hB
  have hn' : n < l.length := by simpa using hn
  have htl : (l.take n).length = n := by simp; omega
  have hdl : (l.drop n).length = l.toArray.size - n := by simp
  have inv0 : HeadInv .any l.toArray n (Array.replicate l.toArray.size false) :=
    ⟨by simp, fun j oj _ hl => (by rw [getD_replicate_false] at hl; cases hl), fun t _ ht => getD_in (by simpa using ht) (getD_replicate_false _ _)⟩
  have H := wpAnyT_lex (md := .any) (C := C) (g := l.toArray.size - n) hsel hs hc hn (l.take n) 0 _ a (fun j hj => by
    have hj' : j < n := by rw [htl] at hj; exact hj
    simp [hj']) (by simpa using htl) inv0 (by rw [htl]; exact hlex) h
  refine wp_region_any hm ?_
  have := wpAny_of_headT (Q' := Q) (g := l.toArray.size - n) (fun listed a' w' hw' hL => by
    have := wpAny_of_seq (md := .any) (Q' := Q) (l.drop n) n listed a' w' (fun j => by simp [List.getElem?_drop]) (by rw [hdl]; exact hL.1) (hL.2 w' hw')
    rwa [hdl] at this) _ _ _ _ hC H
  rw [htl, show n + (l.toArray.size - n) = l.toArray.size by omega] at this
  exact this
/-- Reads, and calls that only read, ahead of the tail. -/
theorem region_qtail {id : Nat} {Q : Exit → Act → World → Prop} {a : Act} {w : World} {l : List Oper} (n : Nat) (hm : P.follows .mixedOrders = true) (hB : Region.lexTailB .any l.toArray n = true)
    (h : wpQuiet P l.toArray (fun w' => ∃ m, w' = w.drewN m) (fun a' => ∀ w', (∃ m, w' = w.drewN m) → wpList P l.toArray Q (l.drop n) a' w') (l.take n) a) : (Code.region id l.toArray true).wp P Q a w :=
  region_class_tail (C := fun w' => ∃ m, w' = w.drewN m) n hm hB ⟨1, rfl⟩ h
end
end Go.Proofs.Ytpcfjcbiekenkaa
