/-
  A call that a frame's premises let in, made of parts: for arguments of thousands of cells, where one Boolean run is too great.
-/
import Derived.Test.YtehokoeajinboaaProg
import Derived.Test.YtehokoeajinboaaChecked
import Derived.Handed
import Derived.OpenShut
import Derived.ChangeOld
import Derived.WideWitness
import Derived.ChangeSame
import Derived.ChangeShapes
namespace Go.Proofs.Ytehokoeajinboaa
open Go.ChangeShapes Go.WideShapes Go.RowKit
set_option linter.unusedVariables false

/-- A value that any call may be handed: read in every world, with nothing to weigh. -/
structure Lets (t : TypeId) (v : Value) : Prop where
  reads : ∀ (H : Type) (enc : TypeId × Value → H) (w : World), ∃ d, DataW.Trod enc Try.prog w 0 (fun _ => true) true t v d [] ∧ DataW.weights Try.prog t d = []
  ok : ∀ (w : World) (b : Nat), Value.okWide Try.prog w .any b t v
def LetsAll : List TypeId → List Value → Prop
  | [], [] => True
  | t :: ts, v :: vs => Lets t v ∧ LetsAll ts vs
  | _, _ => False
theorem LetsAll.trod {H : Type} (enc : TypeId × Value → H) (w : World) : ∀ (ts : List TypeId) (vs : List Value), LetsAll ts vs → ∃ ds, DataW.TrodAll enc Try.prog w 0 (fun _ => true) true ts vs ds [] ∧ DataW.weightsEach Try.prog ts ds = []
  | [], [], _ => ⟨[], trodAll_mk0, rfl⟩
  | t :: ts, v :: vs, h => by
    obtain ⟨d, h1, h2⟩ := h.1.reads H enc w
    obtain ⟨ds, h3, h4⟩ := LetsAll.trod enc w ts vs h.2
    refine ⟨d :: ds, trodAll_cons_mk h1 h3, ?_⟩
    rw [DataW.weightsEach, h2, h4]
    rfl
  | [], _ :: _, h => h.elim
  | _ :: _, [], h => h.elim
set_option maxRecDepth 100000 in
theorem LetsAll.ok (w : World) (b : Nat) : ∀ (ts : List TypeId) (vs : List Value), LetsAll ts vs → ts.length = vs.length ∧ ∀ (j : Nat) t v, ts[j]? = some t → vs[j]? = some v → Value.okWide Try.prog w .any b t v
  | [], [], _ => ⟨rfl, fun j t v h => by simp at h⟩
  | t :: ts, v :: vs, h => by
    obtain ⟨h1, h2⟩ := LetsAll.ok w b ts vs h.2
    refine ⟨by simp [h1], fun j t' v' ht hv => ?_⟩
    cases j with
    | zero =>
      simp at ht hv
      subst ht hv
      exact h.1.ok w b
    | succ j => exact h2 j t' v' (by simpa using ht) (by simpa using hv)
  | [], _ :: _, h => h.elim
  | _ :: _, [], h => h.elim
set_option maxRecDepth 100000 in
theorem wit_parts {H : Type} {enc : TypeId × Value → H} {os : Os} {f : FuncId} {fn : Func} {s : ChangeSpec} {conds : List PathCond} (modest : Bool) (args : Array Value)
    (hv : (World.plainHolding Try.prog os ⟨#[], args, []⟩).variablesB Try.prog = true)
    (hr : ((World.plainHolding Try.prog os ⟨#[], args, []⟩).heap.toList.drop Try.prog.globals.size).take ((begin Try.prog (fun _ _ => 0) default).world.heap.size - Try.prog.globals.size) =
      (begin Try.prog (fun _ _ => 0) default).world.heap.toList.drop Try.prog.globals.size)
    (hi : Try.prog.inits.idxOf? f = none) (hfn : Try.prog.funcs[f]? = some fn) (hb : fn.body.isSome = true) (ho : fn.ours = false) (hn : fn.nfree = 0) (hl : LetsAll fn.params.toList args.toList)
    (hsv : s.vars = []) (hpv : s.plain.varTypes Try.prog = []) (hpv2 : (OpenSpec.ofChange s).bare.plain.varTypes Try.prog = []) (hc : conds = []) (hp : Try.prog.platform = "linux/amd64/v1") :
    ∃ (w : World) (tape : Tape) (i : Input), w.os = os ∧ (w.forCall tape i).Shaped Try.prog ∧ i.vars = [] ∧ Input.okWide Try.prog (w.forCall tape i) .any w.heap.size f i ∧
      s.pre6 enc Try.prog fn conds false (w.forCall tape i).memory i.args ∧ ({ modest := modest } : Assume).holds Try.prog (lone (Frame.enter Try.prog f i.args .normal) [] (w.forCall tape i)) := by
  subst hc
  have hw : ∀ w : World, ∃ ds, DataW.Whole enc Try.prog fn.params.toList s.vars false w args.toList ds [] [] ∧ DataW.weightsEach Try.prog fn.params.toList ds = [] := fun w => by
    obtain ⟨ds, h1, h2⟩ := LetsAll.trod enc w _ _ hl
    exact ⟨ds, ⟨[], [], h1, by rw [hsv]; rfl, rfl, fun b off h => by simp at h, fun h => by cases h⟩, h2⟩
  refine ⟨World.holding Try.prog os ⟨#[], args, []⟩, fun _ _ => 0, ⟨#[], args, []⟩, rfl, World.shaped_of_B hv hr, rfl, ⟨by simp, by simp, hi, fn, hfn, hb, ho, hn, ?_, ?_⟩, ⟨?_, ?_⟩, ?_⟩
  · have h := (LetsAll.ok default 0 _ _ hl).1
    simpa using h.symm
  · intro j t v h1 h2
    exact (LetsAll.ok _ _ _ _ hl).2 j t v (by simpa using h1) (by simpa using h2)
  · obtain ⟨ds, h1, _⟩ := hw ((World.holding Try.prog os ⟨#[], args, []⟩).forCall (fun _ _ => 0) ⟨#[], args, []⟩).memory
    exact ⟨ds, [], [], h1, rfl⟩
  · obtain ⟨ds, h1, h2⟩ := hw ((World.holding Try.prog os ⟨#[], args, []⟩).forCall (fun _ _ => 0) ⟨#[], args, []⟩).memory
    refine ⟨hp, ds, [], [], h1, ?_⟩
    rw [hpv2, List.append_nil, List.append_nil, h2]
    rfl
  · simp only [Assume.holds]
    exact ⟨by simp, by simp, fun _ => Modest.zero, by simp, by simp⟩
theorem mapM_same {α β : Type} (f : α → Option β) (y : β) : ∀ l : List α, (∀ i ∈ l, f i = some y) → l.mapM f = some (List.replicate l.length y)
  | [], _ => rfl
  | i :: l, h => by
    rw [List.mapM_cons, h i List.mem_cons_self, mapM_same f y l (fun j hj => h j (List.mem_cons_of_mem _ hj))]
    rfl
theorem weights_same {H : Type} (P : Program) (e : TypeId) (d : DataW H) (h : DataW.weights P e d = []) : ∀ n, DataW.weightsAll P e (List.replicate n d) = []
  | 0 => by rw [List.replicate_zero, DataW.weightsAll]
  | n + 1 => by rw [List.replicate_succ, DataW.weightsAll, h, weights_same P e d h n]; rfl
set_option maxRecDepth 100000 in
theorem lets_int : Lets 3 (.int .i64 0) := ⟨fun H enc w => ⟨.lit (.int .i64 0), ⟨2, by kernel_rfl⟩, by kernel_rfl⟩, fun w b => Value.okWide_of_okWideB (by kernel_rfl)⟩
set_option maxRecDepth 100000 in
theorem lets_u8 : Lets 5 (.int .u8 0) := ⟨fun H enc w => ⟨.lit (.int .u8 0), ⟨2, by kernel_rfl⟩, by kernel_rfl⟩, fun w b => Value.okWide_of_okWideB (by kernel_rfl)⟩
set_option maxRecDepth 100000 in
theorem lets_dig : Lets 32 (.agg (Array.replicate 32 (.int .u8 0))) := ⟨fun H enc w => ⟨.agg (List.replicate 32 (.lit (.int .u8 0))), ⟨3, by kernel_rfl⟩, by kernel_rfl⟩, fun w b => Value.okWide_of_okWideB (by kernel_rfl)⟩
set_option maxRecDepth 100000 in
theorem lets_sec : Lets 31 (.agg (Array.replicate 32 (.int .u8 0))) := ⟨fun H enc w => ⟨.agg (List.replicate 32 (.lit (.int .u8 0))), ⟨3, by kernel_rfl⟩, by kernel_rfl⟩, fun w b => Value.okWide_of_okWideB (by kernel_rfl)⟩
set_option maxRecDepth 100000 in
theorem lets_rounds : Lets 26 (.agg (Array.replicate 72 (.int .u32 0))) := ⟨fun H enc w => ⟨.agg [.agg (List.replicate 8 (.lit (.int .u32 0))), .agg (List.replicate 64 (.lit (.int .u32 0)))], ⟨4, by kernel_rfl⟩, by kernel_rfl⟩, fun w b => Value.okWide_of_okWideB (by kernel_rfl)⟩
section
variable {H : Type} {enc : TypeId × Value → H} {w : World}
theorem trod_all_same {P : Program} {t e : TypeId} {n m : Nat} {base : Nat} {spare : Nat → Bool} {held : Bool} {y : DataW H} (ht : P.underlying t = some (.array n e)) (hce : P.cellsOf e = 32) (hct : P.cellsOf t = n * 32)
    (h : DataW.trod enc P w base spare held m e (List.replicate 32 (.int .u8 0)) = some (y, [])) : DataW.trod enc P w base spare held (m + 1) t (List.replicate (n * 32) (.int .u8 0)) = some (.agg (List.replicate n y), []) := by
  have hm : ((List.range n).mapM fun i => DataW.trod enc P w base spare held m e (((List.replicate (n * 32) (Value.int .u8 0)).drop (i * P.cellsOf e)).take (P.cellsOf e))) = some (List.replicate (List.range n).length (y, [])) := by
    refine mapM_same _ _ _ fun i hi => ?_
    have hi2 := List.mem_range.1 hi
    rw [hce, List.drop_replicate, List.take_replicate, Nat.min_eq_left (by omega)]
    exact h
  unfold DataW.trod
  rw [ht]
  have e : (if (List.replicate (n * 32) (Value.int .u8 0)).length = P.cellsOf t then ((List.range n).mapM fun i => DataW.trod enc P w base spare held m e (((List.replicate (n * 32) (Value.int .u8 0)).drop (i * P.cellsOf e)).take (P.cellsOf e))).map fun xs => (DataW.agg (xs.map (·.1)), xs.flatMap (·.2)) else none) = some (.agg (List.replicate n y), []) := by
    rw [if_pos (by rw [hct, List.length_replicate]), hm]
    simp
  simpa using e
end
theorem arrZ0 : Try.prog.underlying 97 = some (.array 256 31) := by kernel_rfl
theorem arrZ1 : Try.prog.underlying 98 = some (.array 256 32) := by kernel_rfl
set_option maxRecDepth 100000 in
theorem lam_types : Try.prog.cellTypes Try.prog.depth 100 = some (List.replicate 16384 5) := by kernel_rfl
set_option maxRecDepth 100000 in
theorem lets_lam : Lets 100 (.agg (Array.replicate 16384 (.int .u8 0))) := by
  refine ⟨fun H enc w => ?_, fun w b => ?_⟩
  · have y0 : DataW.trod enc Try.prog w 0 (fun _ => true) true 3 31 (List.replicate 32 (.int .u8 0)) = some (.agg (List.replicate 32 (.lit (.int .u8 0))), []) := by kernel_rfl
    have y1 : DataW.trod enc Try.prog w 0 (fun _ => true) true 3 32 (List.replicate 32 (.int .u8 0)) = some (.agg (List.replicate 32 (.lit (.int .u8 0))), []) := by kernel_rfl
    have a0 := trod_all_same arrZ0 (by kernel_rfl) (by kernel_rfl) y0
    have a1 := trod_all_same arrZ1 (by kernel_rfl) (by kernel_rfl) y1
    have hc : Try.prog.cellsOf 100 = 16384 := by kernel_rfl
    have hc0 : Try.prog.cellsOf 97 = 8192 := by kernel_rfl
    have hc1 : Try.prog.cellsOf 98 = 8192 := by kernel_rfl
    have h := trod_struct2_mk (enc := enc) (w := w) (base := 0) (spare := fun _ => true) (held := true) (n := 4) (cs := List.replicate 16384 (.int .u8 0)) Try.underlying100 (by rw [hc, List.length_replicate])
      (by
        show DataW.trod enc Try.prog w 0 (fun _ => true) true 4 97 (((List.replicate 16384 (Value.int .u8 0)).drop 0).take (Try.prog.cellsOf 97)) = _
        rw [hc0, List.drop_replicate, List.take_replicate]
        exact a0)
      (by
        show DataW.trod enc Try.prog w 0 (fun _ => true) true 4 98 (((List.replicate 16384 (Value.int .u8 0)).drop 8192).take (Try.prog.cellsOf 98)) = _
        rw [hc1, List.drop_replicate, List.take_replicate]
        exact a1)
    have htl : (Value.agg (Array.replicate 16384 (.int .u8 0))).cells.toList = List.replicate 16384 (Value.int .u8 0) := Array.toList_replicate
    refine ⟨.agg [.agg (List.replicate 256 (.agg (List.replicate 32 (.lit (.int .u8 0))))), .agg (List.replicate 256 (.agg (List.replicate 32 (.lit (.int .u8 0)))))], ?_, ?_⟩
    · exact ⟨5, by rw [htl]; exact h⟩
    · have z0 : DataW.weights Try.prog 31 (.agg (List.replicate 32 (.lit (.int .u8 0))) : DataW H) = [] := by kernel_rfl
      have z1 : DataW.weights Try.prog 32 (.agg (List.replicate 32 (.lit (.int .u8 0))) : DataW H) = [] := by kernel_rfl
      have q0 : DataW.weights Try.prog 97 (.agg (List.replicate 256 (.agg (List.replicate 32 (.lit (.int .u8 0))))) : DataW H) = [] := by
        rw [DataW.weights, arrZ0]
        exact weights_same _ _ _ z0 256
      have q1 : DataW.weights Try.prog 98 (.agg (List.replicate 256 (.agg (List.replicate 32 (.lit (.int .u8 0))))) : DataW H) = [] := by
        rw [DataW.weights, arrZ1]
        exact weights_same _ _ _ z1 256
      rw [DataW.weights, Try.underlying100]
      show DataW.weightsEach Try.prog [97, 98] [_, _] = []
      rw [DataW.weightsEach, DataW.weightsEach, q0, q1]
      rfl
  · have hu := Try.underlying100
    unfold Value.okWide
    rw [hu]
    refine ⟨_, rfl, by rw [Array.size_replicate]; kernel_rfl, List.replicate 16384 5, lam_types, ⟨1, by rw [Array.size_replicate, List.length_replicate]⟩, fun i v hv => ?_⟩
    have hi : i < 16384 := by
      have := (Array.getElem?_eq_some_iff.1 hv).1
      simpa using this
    rw [Array.getElem?_replicate, if_pos hi] at hv
    obtain rfl := Option.some.inj hv
    refine ⟨5, ?_, Cell.okWide_of_okWideB (by kernel_rfl)⟩
    rw [List.getElem?_replicate, List.length_replicate, if_pos (Nat.mod_lt _ (by decide))]
end Go.Proofs.Ytehokoeajinboaa
