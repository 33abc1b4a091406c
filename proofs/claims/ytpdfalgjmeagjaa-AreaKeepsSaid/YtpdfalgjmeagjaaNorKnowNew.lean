/-
  New of a flash as known ahead to the small machine, by its contract.
-/
import Derived.Test.YtpdfalgjmeagjaaAbsKnows
import Derived.Test.YtpdfalgjmeagjaaNorNew
namespace Go.Proofs.Ytpdfalgjmeagjaa
open Go.RowKit
set_option linter.unusedVariables false

def rowBlk (s : Nat) : Blk := ⟨175, .tree (64 * s) (.int .u32 4294967295) .nil, true, 64, true⟩
def objBlk (r o s : Nat) (g : Nat) : Blk := ⟨173, .list [.pointer (some (o, 0)), .slice (some (r, 0)) s (.is s), .int .i64 (Int.ofNat g), .bool false, .int .i64 0, .bool false, .int .i64 (-1)], true, 7, true⟩
/-- New, of sizes that may be. -/
def knowNew : Known := fun f args h => match Nat.beq f 44, args with
  | true, [.int .i64 (.ofNat s), .int .i64 (.ofNat g)] => match Nat.ble 1 s && Nat.ble s 1024 && Nat.ble g s with
    | true => some (.tuple [.pointer (some (h.next + 1, 0)), .int .i64 0], (h.push (rowBlk s)).push (objBlk h.next (h.next + 1) s g))
    | false => none
  | _, _ => none
theorem tree_get {n j : Nat} {z v : AV} (h : (Cel.tree n z .nil).get j = some v) : j < n ∧ v = z := by
  simp only [Cel.get] at h
  split at h
  · rename_i h1 h2
    rw [Tq.get_nil] at h
    simp at h
    exact ⟨blt_true h1, h.symm⟩
  · cases h
theorem knowNew_ok : Known.Ok Try.prog knowNew := by
  intro f args h r h' e
  unfold knowNew at e
  split at e
  · rename_i s g hf
    have hf := Nat.eq_of_beq_eq_true hf
    subst hf
    split at e
    · rename_i hc
      simp only [Bool.and_eq_true] at hc
      have h1 := Nat.le_of_ble_eq_true hc.1.1
      have h2 := Nat.le_of_ble_eq_true hc.1.2
      have h3 := Nat.le_of_ble_eq_true hc.2
      simp only [Option.some.injEq, Prod.mk.injEq] at e
      obtain ⟨rfl, rfl⟩ := e
      intro ρ w vs hv hm hn
      obtain ⟨u1, us1, c1, k1, rfl⟩ := conL_cons hv
      obtain ⟨u2, us2, c2, k2, rfl⟩ := conL_cons k1
      simp [conL] at k2
      simp [con] at c1 c2
      subst k2 c1 c2
      refine (New_yes s (g : Int) h1 h2 (by omega) (by omega)).mono ?_
      rintro e w' ⟨p, b, rfl, hN, hB⟩
      have hm' := hm.below hB
      have hold : ∀ c y D q, h.get c = some y → w.heap.size ≤ q → ρ c ≠ some (q, D) := fun c y D q hc hq e => by
        obtain ⟨q', D', cu, fz, a1, a2, _⟩ := hm.at_ c y hc
        rw [e] at a1
        simp at a1
        have := (Array.getElem?_eq_some_iff.1 a2).1
        omega
      obtain ⟨lp, lb, gp, gb⟩ := hN.lt
      have hrow := hN.row.block.1
      have hobj := hN.obj.block.1
      have hB1 : BlkIs (ρ.put h.next (b, 0)) 0 (rowBlk s) (cw (List.replicate (64 * s) 4294967295)).toArray (0, 0) := by
        refine ⟨fun _ => .inl rfl, by simp [rowBlk, Cel.size], fun _ => by simp [rowBlk, Cel.size], fun k => by simp [rowBlk] at k, fun j v hj => ?_, fun _ _ => rfl⟩
        obtain ⟨hj1, rfl⟩ := tree_get hj
        refine ⟨.int .u32 4294967295, rfl, ?_⟩
        simp only [cw, List.map_replicate]
        rw [List.getElem?_toArray, List.getElem?_replicate, if_pos hj1]
        rfl
      have R1 := hm'.add hn (rowBlk s) b 0 _ (0, 0) hrow (fun c y D hc => hold c y D b hc gb) hB1
      have X1 := Ext.add hm' hn (rowBlk s) rfl b 0 w (Ext.of_below hB) gb
      have N1 := hn.add (rowBlk s) (b, 0)
      have e1 : (h.push (rowBlk s)).next = h.next + 1 := rfl
      have hρ1 : ((ρ.put h.next (b, 0)).put (h.next + 1) (p, 0)) h.next = some (b, 0) := by
        rw [Pos.put_ne _ _ (by omega), Pos.put_self]
      have hB2 : BlkIs ((ρ.put h.next (b, 0)).put (h.push (rowBlk s)).next (p, 0)) 0 (objBlk h.next (h.next + 1) s g) ((Fl.made s (g : Int)).obj p b).toArray (0, 0) := by
        rw [e1]
        refine BlkIs.list (l := [.pointer (some (h.next + 1, 0)), .slice (some (h.next, 0)) s (.is s), .int .i64 (Int.ofNat g), .bool false, .int .i64 0, .bool false, .int .i64 (-1)]) ?_ _ _ _
        simp [conL, con, Pos.put_self, hρ1, Cap.off, Cap.at_, Fl.obj, Fl.made]
      have R2 := R1.add N1 (objBlk h.next (h.next + 1) s g) p 0 _ (0, 0) hobj (fun c y D hc e => by
        rcases H.get_push hc with ⟨rfl, rfl⟩ | ⟨hne, hc'⟩
        · rw [Pos.put_self] at e
          simp only [Option.some.injEq, Prod.mk.injEq] at e
          exact hN.ne e.1.symm
        · rw [Pos.put_ne _ _ hne] at e
          exact hold c y D p hc' gp e) hB2
      have X2 := Ext.add R1 N1 (objBlk h.next (h.next + 1) s g) rfl p 0 w X1 gp
      have N2 := N1.add (objBlk h.next (h.next + 1) s g) (p, 0)
      refine ⟨_, _, ?_, rfl, R2, N2, X2⟩
      simp [con, conL, e1, Pos.put_self]
    · cases e
  · cases e
end Go.Proofs.Ytpdfalgjmeagjaa
