/-
  Blocks that a call known ahead has made, as the small machine's own.
-/
import Derived.Test.YtmkpopfaaebgfaaAbsKnow
namespace Go.Proofs.Ytmkpopfaaebgfaa
open Go.RowKit
set_option linter.unusedVariables false
section
variable {ρ : Pos} {h : H} {w w' : World}
theorem Rel.add (r : Rel ρ h w) (hn : New ρ h) (x : Blk) (g C : Nat) (cur : Array Value) (fz : Nat × Nat) (hg : w.heap[g]? = some (.cells cur x.elem fz)) (hfr : ∀ b y D, h.get b = some y → ρ b ≠ some (g, D)) (hx : BlkIs (ρ.put h.next (g, C)) C x cur fz) :
    Rel (ρ.put h.next (g, C)) (h.push x) w := by
  have l : ρ.le (ρ.put h.next (g, C)) := Pos.le_put _ (hn _ (Nat.le_refl _))
  refine ⟨fun b y hb => ?_, fun b c y z q D E hb hc hpb hpc hne => ?_⟩
  · rcases H.get_push hb with ⟨rfl, rfl⟩ | ⟨hne, hb'⟩
    · exact ⟨g, C, cur, fz, Pos.put_self _ _ _, hg, hx⟩
    · obtain ⟨q, D, cur', fz', h1, h2, h3⟩ := r.at_ b y hb'
      exact ⟨q, D, cur', fz', by rw [Pos.put_ne _ _ hne]; exact h1, h2, h3.mono l⟩
  · rcases H.get_push hb with ⟨rfl, rfl⟩ | ⟨n1, hb'⟩
    · rw [Pos.put_self] at hpb
      rcases H.get_push hc with ⟨rfl, rfl⟩ | ⟨n2, hc'⟩
      · exact absurd rfl hne
      · rw [Pos.put_ne _ _ n2] at hpc
        simp only [Option.some.injEq, Prod.mk.injEq] at hpb
        obtain ⟨rfl, rfl⟩ := hpb
        exact absurd hpc (hfr c z E hc')
    · rw [Pos.put_ne _ _ n1] at hpb
      rcases H.get_push hc with ⟨rfl, rfl⟩ | ⟨n2, hc'⟩
      · rw [Pos.put_self] at hpc
        simp only [Option.some.injEq, Prod.mk.injEq] at hpc
        obtain ⟨rfl, rfl⟩ := hpc
        exact absurd hpb (hfr b y D hb')
      · rw [Pos.put_ne _ _ n2] at hpc
        exact r.inj b c y z q D E hb' hc' hpb hpc hne
theorem New.add (hn : New ρ h) (x : Blk) (g : Nat × Nat) : New (ρ.put h.next g) (h.push x) := fun b hb => by
  have hb' : h.next + 1 ≤ b := hb
  rw [Pos.put_ne _ _ (by omega)]
  exact hn b (by omega)
theorem Ext.add (r : Rel ρ h w) (hn : New ρ h) (x : Blk) (hrw : x.rw = true) (g C : Nat) (w0 : World) {ρ0 : Pos} {h0 : H} (e : Ext ρ0 h0 w0 ρ h w) (hg : w0.heap.size ≤ g) : Ext ρ0 h0 w0 (ρ.put h.next (g, C)) (h.push x) w := by
  refine ⟨Pos.le_trans e.le (Pos.le_put _ (hn _ (Nat.le_refl _))), Nat.le_trans e.next (Nat.le_succ _), e.os, e.tape, e.output, e.size, e.keep, fun b y k D hb hr hp hk => ?_, fun b hb => ?_, fun b y hb hr => ?_⟩
  · rcases H.get_push hb with ⟨rfl, rfl⟩ | ⟨hne, hb'⟩
    · rw [Pos.put_self] at hp
      simp only [Option.some.injEq, Prod.mk.injEq] at hp
      omega
    · rw [Pos.put_ne _ _ hne] at hp
      exact e.own b y k D hb' hr hp hk
  · rw [Pos.put_ne _ _ (by have := e.next; omega)]
    exact e.only b hb
  · rcases H.get_push hb with ⟨rfl, rfl⟩ | ⟨hne, hb'⟩
    · rw [hrw] at hr
      cases hr
    · exact e.ro b y hb' hr
end
end Go.Proofs.Ytmkpopfaaebgfaa
