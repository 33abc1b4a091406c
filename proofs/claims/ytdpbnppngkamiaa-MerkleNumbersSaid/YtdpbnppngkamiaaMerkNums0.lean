/-
  What MerkleNumbers wants beside the tree: digests by no table, lists of paths written out, digests of two bytes, a long list that is cut.
-/
import Derived.Test.YtdpbnppngkamiaaMerkTools
import Derived.Test.YtdpbnppngkamiaaShaNil
namespace Go.Proofs.Ytdpbnppngkamiaa
open Go.RowKit
set_option linter.unusedVariables false

/-- By no table. -/
def Dg.nilO : Dg := ⟨fun _ => List.replicate 32 0, fun _ _ => List.replicate 32 0, fun _ => List.length_replicate, fun _ _ => List.length_replicate⟩
theorem OfAt.nil (w : World) : OfAt w none Dg.nilO := ⟨fun w' _ A n c b h1 h2 _ _ => Of_nil A n c b w' h1 h2⟩
theorem infoPA : (Try.prog.info? 88).map (fun i => (i.zero, i.size)) = some (some (.agg zPath.toArray), 2) := by kernel_rfl
theorem elemPL : Try.prog.underlying 92 = some (.slice 88) := by kernel_rfl
/-- The cells of some paths. -/
def pcs (ps : List (Int × Option Addr × Nat × Nat)) : List Value := ps.flatMap fun p => [.int .i64 p.1, .slice p.2.1 p.2.2.1 p.2.2.2]
def pag (p : Int × Option Addr × Nat × Nat) : Value := .agg #[.int .i64 p.1, .slice p.2.1 p.2.2.1 p.2.2.2]
theorem exec_bsP {o : Oper} {a : Act} {w : World} (x y z u : Operand) (hop : o.op = .buildSlice 92 4 #[(0, x), (1, y), (2, z), (3, u)]) (p q r s : Int × Option Addr × Nat × Nat) (hx : a.eval x = pag p) (hy : a.eval y = pag q) (hz : a.eval z = pag r) (hu : a.eval u = pag s) :
    (execOp a.eval o).run Try.prog w = .ok (.value (.slice (some ⟨w.heap.size, 0, none⟩) 4 4)) (w.alloc (.cells (pcs [p, q, r, s]).toArray 88)) := by
  obtain ⟨i0, hi, h1⟩ := Option.map_eq_some_iff.1 infoPA
  simp only [Prod.mk.injEq] at h1
  have hb := run_buildSlice w 92 88 4 #[(0, pag p), (1, pag q), (2, pag r), (3, pag s)] (pcs [p, q, r, s]).toArray i0 _ elemPL hi h1.1 (by rw [h1.2]; omega) (by rw [h1.2]; omega) (by
    rw [h1.2]
    exact Great.fill_whole (s := 2) (by omega) [pag p, pag q, pag r, pag s] _ (fun v hv => by simp at hv; rcases hv with rfl | rfl | rfl | rfl <;> rfl) (by simp))
  unfold execOp
  simp only [hop, List.map_toArray, List.map_cons, List.map_nil, hx, hy, hz, hu, Sem.run_bind, hb, Result.andThen_ok]
  rfl
theorem run_ixP {o : Oper} {a : Act} {w : World} (x y : Operand) (hop : o.op = .indexAddr 92 x y) {g off n c j off' : Nat} {I : Int} (hx : a.eval x = .slice (some ⟨g, off, none⟩) n c) (hy : a.eval y = .int .i64 I) (hI : I = (j : Int)) (hj : j < n) (ho : off + 2 * j = off') :
    (execOp a.eval o).run Try.prog w = .ok (.value (.pointer (some ⟨g, off', none⟩))) w := by
  subst hI ho
  obtain ⟨i, hi, h1⟩ := Option.map_eq_some_iff.1 infoPA
  simp only [Prod.mk.injEq] at h1
  unfold execOp
  simp [hop, hx, hy, Instr.indexAt, Instr.sureAddr, asIntOf, run_underlying elemPL, sizeOf, typeInfo, hi, h1.2, hj, Addr.add, Sem.run_bind, Nat.mul_comm]
def d2 (p q : UInt8) : List UInt8 := p :: q :: List.replicate 30 0
theorem run_d2 (p q : UInt8) (w : World) : (Instr.build 83 #[(0, .int .u8 (p.toNat : Int)), (1, .int .u8 (q.toNat : Int))]).run Try.prog w = .ok (.agg (cb (d2 p q)).toArray) w := run_build w _ _ _ (by kernel_rfl)
theorem exec_d2 {o : Oper} {a : Act} {w : World} (x y : Operand) (hop : o.op = .build 83 #[(0, x), (1, y)]) (p q : UInt8) (hx : a.eval x = .int .u8 (p.toNat : Int)) (hy : a.eval y = .int .u8 (q.toNat : Int)) : (execOp a.eval o).run Try.prog w = .ok (.value (.agg (cb (d2 p q)).toArray)) w := by
  unfold execOp
  simp only [hop, List.map_toArray, List.map_cons, List.map_nil, hx, hy, Sem.run_bind, run_d2 p q w, Result.andThen_ok]
  rfl
end Go.Proofs.Ytdpbnppngkamiaa
