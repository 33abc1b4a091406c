/-
  Calls that are known ahead by contracts, and calls whose arguments are handed on without being looked into.
  Lists of words and of bytes as the small machine's values.
  Blocks that a call known ahead has made, as the small machine's own.
-/
import Derived.Test.YtpdfalgjmeagjaaAbsMain
import Derived.Test.YtpdfalgjmeagjaaMem
import Derived.Test.YtpdfalgjmeagjaaPure
namespace Go.Proofs.Ytpdfalgjmeagjaa
open Go.RowKit
set_option linter.unusedVariables false
section
variable {P : Program} {ρ : Pos} {h : H} {w w' : World} {orc : Known}
/-- Memory that was there is there. -/
theorem Rel.below (r : Rel ρ h w) (b : Below w.heap.size w w') : Rel ρ h w' :=
  ⟨fun c x hc => by
    obtain ⟨g, C, cur, fz, h1, h2, h3⟩ := r.at_ c x hc
    exact ⟨g, C, cur, fz, h1, by rw [b.block g (Array.getElem?_eq_some_iff.1 h2).1]; exact h2, h3⟩, r.inj⟩
theorem Ext.of_below (b : Below w.heap.size w w') : Ext ρ h w ρ h w' :=
  ⟨Pos.le_refl _, Nat.le_refl _, b.os, b.tape, b.output, b.size, fun k hk _ => b.block k hk, fun c x k C hc hr hp _ => ⟨c, x, C, hc, hr, hp⟩, fun _ _ => rfl, fun _ _ hc _ => hc⟩
/-- A call that leaves all memory as it was, and tells a value without addresses. -/
theorem CallTo.of_below {f : FuncId} {args : List AV} {r : AV} (H : ∀ ρ w vs, conL ρ args = some vs → Rel ρ h w → ∃ v, con ρ r = some v ∧ Calls P f vs.toArray w fun e w' => e = .returned v ∧ Below w.heap.size w w') : CallTo P f args h r h := by
  intro ρ w vs hc hm hn
  obtain ⟨v, hv, k⟩ := H ρ w vs hc hm
  refine k.mono ?_
  rintro e w' ⟨rfl, hb⟩
  exact ⟨ρ, v, hv, rfl, hm.below hb, hn, .of_below hb⟩
theorem con_opq_mk {v : Value} (h : opaqV v = true) : con ρ (.opq v) = some v := by simp only [con, h]
/-- The call tells true, whatever its arguments are. -/
theorem told_true_of (ok : Known.Ok P orc) {f : FuncId} {args : List AV} {vs : List Value} (e : tells (orc f args noH) = true) (hv : ∀ ρ, conL ρ args = some vs) (w : World) : Calls P f vs.toArray w fun e w' => e = .returned (.bool true) ∧ Below w.heap.size w w' := by
  unfold tells at e
  split at e
  · rename_i h' hr
    refine (ok f args noH (.bool true) h' hr (fun _ => none) w vs (hv _) (noH_rel w) (fun _ _ => rfl)).mono ?_
    rintro e' w' ⟨ρ', v, h1, rfl, _, _, h2⟩
    simp [con] at h1
    subst h1
    exact ⟨rfl, h2.below (fun _ _ hb => (noH_get hb).elim)⟩
  · cases e
end
end Go.Proofs.Ytpdfalgjmeagjaa
namespace Go.Proofs.Ytpdfalgjmeagjaa
open Go.RowKit
set_option linter.unusedVariables false

/-- Natural numbers of one kind. -/
def natsOf (k : IntKind) (top : Nat) : List AV → Option (List Nat)
  | [] => some []
  | .int k' (.ofNat n) :: l => match decide (k' = k) && Nat.blt n top, natsOf k top l with
    | true, some ns => some (n :: ns)
    | _, _ => none
  | _ => none
def avsOf (k : IntKind) : List Nat → List AV
  | [] => []
  | n :: l => .int k (Int.ofNat n) :: avsOf k l
theorem nats32 {ρ : Pos} : ∀ {l : List AV} {ns : List Nat}, natsOf .u32 4294967296 l = some ns → ∃ us : List UInt32, us.map UInt32.toNat = ns ∧ conL ρ l = some (cw us)
  | [], ns, e => by simp [natsOf] at e; subst e; exact ⟨[], rfl, rfl⟩
  | v :: l, ns, e => by
    unfold natsOf at e
    split at e
    · simp at *
    · rename_i k' n l' heq
      simp only [List.cons.injEq] at heq
      obtain ⟨rfl, rfl⟩ := heq
      split at e <;> simp only [Option.some.injEq, reduceCtorEq] at e
      rename_i ns' hc hns
      subst e
      simp only [Bool.and_eq_true] at hc
      have hk : k' = .u32 := by simpa using hc.1
      subst hk
      have hn : n < 4294967296 := blt_true hc.2
      obtain ⟨us, h1, h2⟩ := nats32 hns
      have e1 : (UInt32.ofNat n).toNat = n := ofNat_toNat32 n hn
      refine ⟨UInt32.ofNat n :: us, by simp [h1, e1], ?_⟩
      show _ = some (.int .u32 ((UInt32.ofNat n).toNat : Int) :: cw us)
      rw [e1]
      exact conL_mk rfl h2
    · simp at e
theorem nats8 {ρ : Pos} : ∀ {l : List AV} {ns : List Nat}, natsOf .u8 256 l = some ns → ∃ us : List UInt8, us.map UInt8.toNat = ns ∧ conL ρ l = some (cb us)
  | [], ns, e => by simp [natsOf] at e; subst e; exact ⟨[], rfl, rfl⟩
  | v :: l, ns, e => by
    unfold natsOf at e
    split at e
    · simp at *
    · rename_i k' n l' heq
      simp only [List.cons.injEq] at heq
      obtain ⟨rfl, rfl⟩ := heq
      split at e <;> simp only [Option.some.injEq, reduceCtorEq] at e
      rename_i ns' hc hns
      subst e
      simp only [Bool.and_eq_true] at hc
      have hk : k' = .u8 := by simpa using hc.1
      subst hk
      have hn : n < 256 := blt_true hc.2
      obtain ⟨us, h1, h2⟩ := nats8 hns
      have e1 : (UInt8.ofNat n).toNat = n := ofNat_toNat n hn
      refine ⟨UInt8.ofNat n :: us, by simp [h1, e1], ?_⟩
      show _ = some (.int .u8 ((UInt8.ofNat n).toNat : Int) :: cb us)
      rw [e1]
      exact conL_mk rfl h2
    · simp at e
theorem avs32 (ρ : Pos) : ∀ (us : List UInt32), conL ρ (avsOf .u32 (us.map UInt32.toNat)) = some (cw us)
  | [] => rfl
  | u :: us => conL_mk rfl (avs32 ρ us)
end Go.Proofs.Ytpdfalgjmeagjaa
namespace Go.Proofs.Ytpdfalgjmeagjaa
open Go.RowKit
set_option linter.unusedVariables false
section
variable {ρ : Pos} {h : H} {w w' : World}
theorem Rel.add (r : Rel ρ h w) (hn : New ρ h) (x : Blk) (g C : Nat) (cur : Array Value) (fz : Nat × Nat) (hg : w.heap[g]? = some (.cells cur x.elem fz)) (hfr : ∀ b y D, h.get b = some y → ρ b ≠ some (g, D)) (hx : BlkIs (ρ.put h.next (g, C)) C x cur fz) :
    Rel (ρ.put h.next (g, C)) (h.push x) w := by
  have l : ρ.le (ρ.put h.next (g, C)) := Pos.le_put _ (hn _ (Nat.le_refl _))
  refine ⟨fun b y hb => ?_, fun b c y z q D E hb hc hpb hpc hne => ?_⟩
  · rcases H.get_push hb with ⟨rfl, rfl⟩ | ⟨hne, hb'⟩
    · exact ⟨g, C, cur, fz, Pos.put_self _ _ _, hg, hx⟩
    · obtain ⟨q, D, cur', fz', h1, h2, h3⟩ := r.at_ b y hb'
      exact ⟨q, D, cur', fz', by rw [Pos.put_ne _ _ hne]; exact h1, h2, h3.mono l⟩
  · rcases H.get_push hb with ⟨rfl, rfl⟩ | ⟨n1, hb'⟩
    · rw [Pos.put_self] at hpb
      rcases H.get_push hc with ⟨rfl, rfl⟩ | ⟨n2, hc'⟩
      · exact absurd rfl hne
      · rw [Pos.put_ne _ _ n2] at hpc
        simp only [Option.some.injEq, Prod.mk.injEq] at hpb
        obtain ⟨rfl, rfl⟩ := hpb
        exact absurd hpc (hfr c z E hc')
    · rw [Pos.put_ne _ _ n1] at hpb
      rcases H.get_push hc with ⟨rfl, rfl⟩ | ⟨n2, hc'⟩
      · rw [Pos.put_self] at hpc
        simp only [Option.some.injEq, Prod.mk.injEq] at hpc
        obtain ⟨rfl, rfl⟩ := hpc
        exact absurd hpb (hfr b y D hb')
      · rw [Pos.put_ne _ _ n2] at hpc
        exact r.inj b c y z q D E hb' hc' hpb hpc hne
theorem New.add (hn : New ρ h) (x : Blk) (g : Nat × Nat) : New (ρ.put h.next g) (h.push x) := fun b hb => by
  have hb' : h.next + 1 ≤ b := hb
  rw [Pos.put_ne _ _ (by omega)]
  exact hn b (by omega)
theorem Ext.add (r : Rel ρ h w) (hn : New ρ h) (x : Blk) (hrw : x.rw = true) (g C : Nat) (w0 : World) {ρ0 : Pos} {h0 : H} (e : Ext ρ0 h0 w0 ρ h w) (hg : w0.heap.size ≤ g) : Ext ρ0 h0 w0 (ρ.put h.next (g, C)) (h.push x) w := by
  refine ⟨Pos.le_trans e.le (Pos.le_put _ (hn _ (Nat.le_refl _))), Nat.le_trans e.next (Nat.le_succ _), e.os, e.tape, e.output, e.size, e.keep, fun b y k D hb hr hp hk => ?_, fun b hb => ?_, fun b y hb hr => ?_⟩
  · rcases H.get_push hb with ⟨rfl, rfl⟩ | ⟨hne, hb'⟩
    · rw [Pos.put_self] at hp
      simp only [Option.some.injEq, Prod.mk.injEq] at hp
      omega
    · rw [Pos.put_ne _ _ hne] at hp
      exact e.own b y k D hb' hr hp hk
  · rw [Pos.put_ne _ _ (by have := e.next; omega)]
    exact e.only b hb
  · rcases H.get_push hb with ⟨rfl, rfl⟩ | ⟨hne, hb'⟩
    · rw [hrw] at hr
      cases hr
    · exact e.ro b y hb' hr
end
end Go.Proofs.Ytpdfalgjmeagjaa
