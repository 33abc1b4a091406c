/-
  A tally beside the document's own flash and drive: what a step leaves; a flash that is down has no tally to be opened.
-/
import Derived.Test.YtcfjbllmaejiaaaTallyRead
import Derived.Test.YtcfjbllmaejiaaaRegion
import Derived.Test.YtcfjbllmaejiaaaRefDrBeside
import Derived.Test.YtcfjbllmaejiaaaRegionJKL
import Derived.Test.YtcfjbllmaejiaaaRefNors
import Derived.Test.YtcfjbllmaejiaaaTallyOps
import Derived.Test.YtcfjbllmaejiaaaRefDrWrite
import Derived.Test.YtcfjbllmaejiaaaTallyAwake
import Derived.Test.YtcfjbllmaejiaaaDrHalf
import Derived.Test.YtcfjbllmaejiaaaFlOk
namespace Go.Proofs.Ytcfjbllmaejiaaa
open Go.RowKit
set_option linter.unusedVariables false
section
variable {P : Program} {ops : Array Oper} {Q : Exit → Act → World → Prop} {pr : Nat → Value → World → Prop} {i : Nat} {o : Oper} {a : Act} {w : World}
theorem stepOk_offT (hw : Region.wanted o (yielded ops a.tmps) = false) (hp : pr i undef w) : StepOk P ops Q pr i o a w := by
  unfold StepOk
  rw [if_neg (by rw [hw]; decide)]
  exact hp
theorem wanted_offT {j : Nat} {b c : Bool} {t : Tmp} (hg : o.guard = some (j, b)) (ht : ((ops[j]?).bind (·.dst)) = some t) (hv : a.tmps[t]? = some (.bool c)) (hc : (c == b) = false) : Region.wanted o (yielded ops a.tmps) = false := by
  cases b <;> cases c <;> simp_all [Region.wanted, yielded]
theorem stepOk_valT {v : Value} (hw : Region.wanted o (yielded ops a.tmps) = true) (hrun : (execOp a.eval o).run P w = .ok (.value v) w) (hp : pr i v w) : StepOk P ops Q pr i o a w := by
  unfold StepOk
  rw [if_pos hw]
  unfold Oper.wp
  rw [hrun]
  exact ⟨v, rfl, hp, Below.refl _ _⟩
end
theorem and_turned (b : Nat) (h : b < 4294967296) : b &&& (4294967295 - b) = 0 := by
  apply Nat.eq_of_testBit_eq
  intro i
  rw [Nat.testBit_and, Nat.zero_testBit, show 4294967295 - b = 2 ^ 32 - (b + 1) from by omega, Nat.testBit_two_pow_sub_succ (by omega)]
  cases b.testBit i <;> simp
/-- What is told of a sector. -/
def cntI : Option Nat → Int
  | none => -1
  | some n => (n : Int)
def rcA (g off c s : Nat) (b t : UInt32) (j : Nat) (x : Value) (w : World) : Prop :=
  match j with
  | 0 => x = .slice (some ⟨g, off, none⟩) 64 c
  | 1 => x = .pointer (some ⟨g, off, none⟩)
  | 2 => x = .int .u32 (b.toNat : Int)
  | 3 => x = .bool true
  | 4 => x = .bool true
  | 5 => x = undef
  | 6 => x = undef
  | 7 => x = undef
  | 8 => x = undef
  | 9 => x = undef
  | 10 => x = undef
  | 11 => x = undef
  | 12 => x = undef
  | 13 => x = .bool true
  | 14 => x = .bool true
  | 15 => x = undef
  | 16 => x = undef
  | 17 => x = undef
  | 18 => x = undef
  | 19 => x = undef
  | 20 => x = undef
  | 21 => x = undef
  | 22 => x = undef
  | _ => True
theorem rcA_stab (g off c s : Nat) (b t : UInt32) : ∀ j x w w', Below w.heap.size w w' → rcA g off c s b t j x w → rcA g off c s b t j x w' := fun _ _ _ _ _ h => h
def rcB (g off c s : Nat) (b t : UInt32) (j : Nat) (x : Value) (w : World) : Prop :=
  match j with
  | 0 => x = .slice (some ⟨g, off, none⟩) 64 c
  | 1 => x = .pointer (some ⟨g, off, none⟩)
  | 2 => x = .int .u32 (b.toNat : Int)
  | 3 => x = .bool false
  | 4 => x = .bool false
  | 5 => x = .slice (some ⟨g, off, none⟩) 64 c
  | 6 => x = .pointer (some ⟨g, off, none⟩)
  | 7 => x = .int .u32 (b.toNat : Int)
  | 8 => x = .slice (some ⟨g, off, none⟩) 64 c
  | 9 => x = .pointer (some ⟨g, off + 1, none⟩)
  | 10 => x = .int .u32 (t.toNat : Int)
  | 11 => x = .int .u32 (s : Int)
  | 12 => x = .bool true
  | 13 => x = .bool true
  | 14 => x = .bool true
  | 15 => x = undef
  | 16 => x = undef
  | 17 => x = undef
  | 18 => x = undef
  | 19 => x = undef
  | 20 => x = undef
  | 21 => x = undef
  | 22 => x = undef
  | _ => True
theorem rcB_stab (g off c s : Nat) (b t : UInt32) : ∀ j x w w', Below w.heap.size w w' → rcB g off c s b t j x w → rcB g off c s b t j x w' := fun _ _ _ _ _ h => h
def rcC (g off c s : Nat) (b t : UInt32) (j : Nat) (x : Value) (w : World) : Prop :=
  match j with
  | 0 => x = .slice (some ⟨g, off, none⟩) 64 c
  | 1 => x = .pointer (some ⟨g, off, none⟩)
  | 2 => x = .int .u32 (b.toNat : Int)
  | 3 => x = .bool false
  | 4 => x = .bool false
  | 5 => x = .slice (some ⟨g, off, none⟩) 64 c
  | 6 => x = .pointer (some ⟨g, off, none⟩)
  | 7 => x = .int .u32 (b.toNat : Int)
  | 8 => x = .slice (some ⟨g, off, none⟩) 64 c
  | 9 => x = .pointer (some ⟨g, off + 1, none⟩)
  | 10 => x = .int .u32 (t.toNat : Int)
  | 11 => x = .int .u32 (s : Int)
  | 12 => x = .bool false
  | 13 => x = .bool false
  | 14 => x = .bool false
  | 15 => x = .slice (some ⟨g, off, none⟩) 64 c
  | 16 => x = .pointer (some ⟨g, off, none⟩)
  | 17 => x = .int .u32 (b.toNat : Int)
  | 18 => x = .slice (some ⟨g, off, none⟩) 64 c
  | 19 => x = .pointer (some ⟨g, off + 1, none⟩)
  | 20 => x = .int .u32 (t.toNat : Int)
  | 21 => x = .int .u32 0
  | 22 => x = .bool false
  | _ => True
theorem rcC_stab (g off c s : Nat) (b t : UInt32) : ∀ j x w w', Below w.heap.size w w' → rcC g off c s b t j x w → rcC g off c s b t j x w' := fun _ _ _ _ _ h => h

section
variable {w : World}
set_option maxHeartbeats 4000000 in
set_option maxRecDepth 100000 in
theorem rcounts_any {g off c : Nat} {l : List UInt32} (hs : Sees w w.heap.size (some ⟨g, off, none⟩) (cw l)) (hl : l.length = 64) (r : Option Nat) (hr : cntL l = r) :
    Calls Try.prog 64 #[.slice (some ⟨g, off, none⟩) 64 c] w fun e w' => e = .returned (.int .i64 (cntI r)) ∧ Below w.heap.size w w' := by
  match l, hl with
  | b :: t :: rr, hl =>
  simp only [List.length_cons] at hl
  have hl2 : rr.length = 62 := by omega
  have HR := Lib.hid hl2
  have hb := b.toNat_lt
  have ht := t.toNat_lt
  simp only [cntL] at hr
  obtain ⟨s, hs_⟩ : ∃ s, (b.toNat + t.toNat) % 4294967296 = s := ⟨_, rfl⟩
  have ew : IntKind.u32.wrap ((b.toNat : Int) + (t.toNat : Int)) = (s : Int) := by
    rw [IntKind.wrap_u32]
    omega
  obtain ⟨pop, hpop⟩ : ∃ pop : Nat → Nat, pop 0 = 0 ∧ (∀ z, z < 4294967296 → pop z = z % 2 + pop (z / 2)) ∧ (∀ z, pop z ≤ 32) ∧ (∀ z, Lib.popAux 32 z = pop z) :=
    ⟨Lib.popAux 32, pop_zero 32, fun z hz => by
      rw [pop_fuel 31 1 (z / 2) (by omega)]
      rfl, pop_le 32, fun z => rfl⟩
  have HP := Lib.hid hpop
  clear hpop
  by_cases k1 : b.toNat ≤ 2147483648
  · have d1 : decide ((2147483648 : Int) < (b.toNat : Int)) = false := by simp; omega
    by_cases k2 : t.toNat = 4294967295 - b.toNat
    · rw [if_pos ⟨k1, k2⟩] at hr
      subst hr
      have d2 : ((s : Int) != 4294967295) = false := by simp; omega
      have hand : bits .and .u32 (b.toNat : Int) (t.toNat : Int) = 0 := by
        rw [u32_and_nat _ _ b.toNat_lt t.toNat_lt, k2, and_turned _ hb]
        rfl
      clear hl2 hl ht hs_ k2
      go_enter Try.func64, Try.ntmps64
      go_wp2_with fail
      refine region_all_tail 23 (rcC g off c s b t) (by kernel_rfl) (by kernel_rfl) (by kernel_rfl) (rcC_stab _ _ _ _ _ _) ?_ ?_
      · intro w0 hb0
        simp only [List.take_succ_cons, List.take_zero]
        refine ⟨?_, ?_, ?_, ?_, ?_, ?_, ?_, ?_, ?_, ?_, ?_, ?_, ?_, ?_, ?_, ?_, ?_, ?_, ?_, ?_, ?_, ?_, ?_, trivial⟩
        all_goals intro listed a1 w' hk1 hd1
        · have f0_ : a1.eval (.tmp 0) = .slice (some ⟨g, off, none⟩) 64 c := hk1.ev_old 0 (by kernel_rfl)
          have g0_ : a1.tmps[0]?.getD undef = .slice (some ⟨g, off, none⟩) 64 c := by simpa [Act.eval] using f0_
          exact stepOk_value rfl (v := .slice (some ⟨g, off, none⟩) 64 c) (by go_simp) rfl
        · obtain ⟨y0, e0, q0, rfl⟩ := hk1.ev_new hd1 0 6 (by kernel_rfl) rfl
          exact stepOk_value rfl (v := .pointer (some ⟨g, off, none⟩)) (by go_simp) rfl
        · obtain ⟨y1, e1, q1, rfl⟩ := hk1.ev_new hd1 1 7 (by kernel_rfl) rfl
          obtain ⟨g_, o_, he_, hg_, hc_⟩ := (((hs.step hb0).step hk1.below)) (by simp)
          obtain ⟨rfl, rfl⟩ : g = g_ ∧ off = o_ := by simpa using he_
          have kc : w'.cell? ⟨g, off, none⟩ = some (.int .u32 (b.toNat : Int)) := hc_ 0 _ rfl
          exact stepOk_value rfl (v := .int .u32 (b.toNat : Int)) (by go_simp) rfl
        · obtain ⟨y2, e2, q2, rfl⟩ := hk1.ev_new hd1 2 8 (by kernel_rfl) rfl
          exact stepOk_value rfl (v := .bool false) (by go_simp) rfl
        · obtain ⟨y3, e3, q3, rfl⟩ := hk1.ev_new hd1 3 9 (by kernel_rfl) rfl
          exact stepOk_value rfl (v := .bool false) (by go_simp) rfl
        · obtain ⟨y4, e4, q4, rfl⟩ := hk1.ev_new hd1 4 10 (by kernel_rfl) rfl
          have f0_ : a1.eval (.tmp 0) = .slice (some ⟨g, off, none⟩) 64 c := hk1.ev_old 0 (by kernel_rfl)
          have g0_ : a1.tmps[0]?.getD undef = .slice (some ⟨g, off, none⟩) 64 c := by simpa [Act.eval] using f0_
          exact stepOk_valT (wanted_at (t := 10) rfl rfl q4) (v := .slice (some ⟨g, off, none⟩) 64 c) (by go_simp) rfl
        · obtain ⟨y4, e4, q4, rfl⟩ := hk1.ev_new hd1 4 10 (by kernel_rfl) rfl
          obtain ⟨y5, e5, q5, rfl⟩ := hk1.ev_new hd1 5 11 (by kernel_rfl) rfl
          exact stepOk_valT (wanted_at (t := 10) rfl rfl q4) (v := .pointer (some ⟨g, off, none⟩)) (by go_simp) rfl
        · obtain ⟨y4, e4, q4, rfl⟩ := hk1.ev_new hd1 4 10 (by kernel_rfl) rfl
          obtain ⟨y6, e6, q6, rfl⟩ := hk1.ev_new hd1 6 12 (by kernel_rfl) rfl
          obtain ⟨g_, o_, he_, hg_, hc_⟩ := (((hs.step hb0).step hk1.below)) (by simp)
          obtain ⟨rfl, rfl⟩ : g = g_ ∧ off = o_ := by simpa using he_
          have kc : w'.cell? ⟨g, off, none⟩ = some (.int .u32 (b.toNat : Int)) := hc_ 0 _ rfl
          exact stepOk_valT (wanted_at (t := 10) rfl rfl q4) (v := .int .u32 (b.toNat : Int)) (by go_simp) rfl
        · obtain ⟨y4, e4, q4, rfl⟩ := hk1.ev_new hd1 4 10 (by kernel_rfl) rfl
          have f0_ : a1.eval (.tmp 0) = .slice (some ⟨g, off, none⟩) 64 c := hk1.ev_old 0 (by kernel_rfl)
          have g0_ : a1.tmps[0]?.getD undef = .slice (some ⟨g, off, none⟩) 64 c := by simpa [Act.eval] using f0_
          exact stepOk_valT (wanted_at (t := 10) rfl rfl q4) (v := .slice (some ⟨g, off, none⟩) 64 c) (by go_simp) rfl
        · obtain ⟨y4, e4, q4, rfl⟩ := hk1.ev_new hd1 4 10 (by kernel_rfl) rfl
          obtain ⟨y8, e8, q8, rfl⟩ := hk1.ev_new hd1 8 14 (by kernel_rfl) rfl
          exact stepOk_valT (wanted_at (t := 10) rfl rfl q4) (v := .pointer (some ⟨g, off + 1, none⟩)) (by go_simp) rfl
        · obtain ⟨y4, e4, q4, rfl⟩ := hk1.ev_new hd1 4 10 (by kernel_rfl) rfl
          obtain ⟨y9, e9, q9, rfl⟩ := hk1.ev_new hd1 9 15 (by kernel_rfl) rfl
          obtain ⟨g_, o_, he_, hg_, hc_⟩ := (((hs.step hb0).step hk1.below)) (by simp)
          obtain ⟨rfl, rfl⟩ : g = g_ ∧ off = o_ := by simpa using he_
          have kc : w'.cell? ⟨g, off + 1, none⟩ = some (.int .u32 (t.toNat : Int)) := hc_ 1 _ rfl
          exact stepOk_valT (wanted_at (t := 10) rfl rfl q4) (v := .int .u32 (t.toNat : Int)) (by go_simp) rfl
        · obtain ⟨y4, e4, q4, rfl⟩ := hk1.ev_new hd1 4 10 (by kernel_rfl) rfl
          obtain ⟨y7, e7, q7, rfl⟩ := hk1.ev_new hd1 7 13 (by kernel_rfl) rfl
          obtain ⟨y10, e10, q10, rfl⟩ := hk1.ev_new hd1 10 16 (by kernel_rfl) rfl
          exact stepOk_valT (wanted_at (t := 10) rfl rfl q4) (v := .int .u32 (s : Int)) (by go_simp) rfl
        · obtain ⟨y4, e4, q4, rfl⟩ := hk1.ev_new hd1 4 10 (by kernel_rfl) rfl
          obtain ⟨y11, e11, q11, rfl⟩ := hk1.ev_new hd1 11 17 (by kernel_rfl) rfl
          exact stepOk_valT (wanted_at (t := 10) rfl rfl q4) (v := .bool false) (by go_simp) rfl
        · obtain ⟨y4, e4, q4, rfl⟩ := hk1.ev_new hd1 4 10 (by kernel_rfl) rfl
          obtain ⟨y12, e12, q12, rfl⟩ := hk1.ev_new hd1 12 18 (by kernel_rfl) rfl
          exact stepOk_value rfl (v := .bool false) (by go_simp) rfl
        · obtain ⟨y13, e13, q13, rfl⟩ := hk1.ev_new hd1 13 19 (by kernel_rfl) rfl
          exact stepOk_value rfl (v := .bool false) (by go_simp) rfl
        · obtain ⟨y14, e14, q14, rfl⟩ := hk1.ev_new hd1 14 20 (by kernel_rfl) rfl
          have f0_ : a1.eval (.tmp 0) = .slice (some ⟨g, off, none⟩) 64 c := hk1.ev_old 0 (by kernel_rfl)
          have g0_ : a1.tmps[0]?.getD undef = .slice (some ⟨g, off, none⟩) 64 c := by simpa [Act.eval] using f0_
          exact stepOk_valT (wanted_at (t := 20) rfl rfl q14) (v := .slice (some ⟨g, off, none⟩) 64 c) (by go_simp) rfl
        · obtain ⟨y14, e14, q14, rfl⟩ := hk1.ev_new hd1 14 20 (by kernel_rfl) rfl
          obtain ⟨y15, e15, q15, rfl⟩ := hk1.ev_new hd1 15 21 (by kernel_rfl) rfl
          exact stepOk_valT (wanted_at (t := 20) rfl rfl q14) (v := .pointer (some ⟨g, off, none⟩)) (by go_simp) rfl
        · obtain ⟨y14, e14, q14, rfl⟩ := hk1.ev_new hd1 14 20 (by kernel_rfl) rfl
          obtain ⟨y16, e16, q16, rfl⟩ := hk1.ev_new hd1 16 22 (by kernel_rfl) rfl
          obtain ⟨g_, o_, he_, hg_, hc_⟩ := (((hs.step hb0).step hk1.below)) (by simp)
          obtain ⟨rfl, rfl⟩ : g = g_ ∧ off = o_ := by simpa using he_
          have kc : w'.cell? ⟨g, off, none⟩ = some (.int .u32 (b.toNat : Int)) := hc_ 0 _ rfl
          exact stepOk_valT (wanted_at (t := 20) rfl rfl q14) (v := .int .u32 (b.toNat : Int)) (by go_simp) rfl
        · obtain ⟨y14, e14, q14, rfl⟩ := hk1.ev_new hd1 14 20 (by kernel_rfl) rfl
          have f0_ : a1.eval (.tmp 0) = .slice (some ⟨g, off, none⟩) 64 c := hk1.ev_old 0 (by kernel_rfl)
          have g0_ : a1.tmps[0]?.getD undef = .slice (some ⟨g, off, none⟩) 64 c := by simpa [Act.eval] using f0_
          exact stepOk_valT (wanted_at (t := 20) rfl rfl q14) (v := .slice (some ⟨g, off, none⟩) 64 c) (by go_simp) rfl
        · obtain ⟨y14, e14, q14, rfl⟩ := hk1.ev_new hd1 14 20 (by kernel_rfl) rfl
          obtain ⟨y18, e18, q18, rfl⟩ := hk1.ev_new hd1 18 24 (by kernel_rfl) rfl
          exact stepOk_valT (wanted_at (t := 20) rfl rfl q14) (v := .pointer (some ⟨g, off + 1, none⟩)) (by go_simp) rfl
        · obtain ⟨y14, e14, q14, rfl⟩ := hk1.ev_new hd1 14 20 (by kernel_rfl) rfl
          obtain ⟨y19, e19, q19, rfl⟩ := hk1.ev_new hd1 19 25 (by kernel_rfl) rfl
          obtain ⟨g_, o_, he_, hg_, hc_⟩ := (((hs.step hb0).step hk1.below)) (by simp)
          obtain ⟨rfl, rfl⟩ : g = g_ ∧ off = o_ := by simpa using he_
          have kc : w'.cell? ⟨g, off + 1, none⟩ = some (.int .u32 (t.toNat : Int)) := hc_ 1 _ rfl
          exact stepOk_valT (wanted_at (t := 20) rfl rfl q14) (v := .int .u32 (t.toNat : Int)) (by go_simp) rfl
        · obtain ⟨y14, e14, q14, rfl⟩ := hk1.ev_new hd1 14 20 (by kernel_rfl) rfl
          obtain ⟨y17, e17, q17, rfl⟩ := hk1.ev_new hd1 17 23 (by kernel_rfl) rfl
          obtain ⟨y20, e20, q20, rfl⟩ := hk1.ev_new hd1 20 26 (by kernel_rfl) rfl
          exact stepOk_valT (wanted_at (t := 20) rfl rfl q14) (v := .int .u32 0) (by go_simp) rfl
        · obtain ⟨y14, e14, q14, rfl⟩ := hk1.ev_new hd1 14 20 (by kernel_rfl) rfl
          obtain ⟨y21, e21, q21, rfl⟩ := hk1.ev_new hd1 21 27 (by kernel_rfl) rfl
          exact stepOk_valT (wanted_at (t := 20) rfl rfl q14) (v := .bool false) (by go_simp) rfl
      · intro a1 w7 hb7 hp
        obtain ⟨x0, p0, x1, p1, x2, p2, x3, p3, x4, p4, x5, p5, x6, p6, x7, p7, x8, p8, x9, p9, x10, p10, x11, p11, x12, p12, x13, p13, x14, p14, x15, p15, x16, p16, x17, p17, x18, p18, x19, p19, x20, p20, x21, p21, x22, p22, rfl⟩ := hp
        simp only [rcC] at p0 p1 p2 p3 p4 p5 p6 p7 p8 p9 p10 p11 p12 p13 p14 p15 p16 p17 p18 p19 p20 p21 p22
        subst p0 p1 p2 p3 p4 p5 p6 p7 p8 p9 p10 p11 p12 p13 p14 p15 p16 p17 p18 p19 p20 p21 p22
        simp only [List.drop_succ_cons, List.drop_zero, Act.put, List.setIfInBounds_toArray, List.set_cons_succ, List.set_cons_zero]
        have hs7 := hs.step hb7
        obtain ⟨g_, o_, he_, hg_, hc_⟩ := hs7 (by simp)
        obtain ⟨rfl, rfl⟩ : g = g_ ∧ off = o_ := by simpa using he_
        have c0 : w7.cell? ⟨g, off, none⟩ = some (.int .u32 (b.toNat : Int)) := hc_ 0 _ rfl
        have cc : ∀ k, k < 62 → ∃ x, rr[k]? = some x ∧ w7.cell? ⟨g, off + (2 + k), none⟩ = some (.int .u32 (x.toNat : Int)) := fun k hk => by
          have e : rr[k]? = some (rr[k]'(by rw [HR.out]; exact hk)) := List.getElem?_eq_getElem (by rw [HR.out]; exact hk)
          refine ⟨_, e, ?_⟩
          exact hc_ (2 + k) (.int .u32 ((rr[k]'(by rw [HR.out]; exact hk)).toNat : Int)) (by
            rw [show 2 + k = k + 1 + 1 from by omega]
            simp [e])
        have CC := Lib.hid cc
        clear cc hc_ hs hs7 he_
        go_wp2_with fail
        go_loopw [3, 4, 5] (fun v i u wr => ∃ j : Nat, j ≤ 62 ∧ i = .int .i64 ((2 + j : Nat) : Int) ∧ v = .int .i64 ((b.toNat + zers (rr.take j) : Nat) : Int) ∧ wr = w7) (fun _ i _ _ => 64 - (intOf i).toNat)
        case atStart => exact ⟨0, Nat.zero_le _, rfl, by simp [zers], rfl⟩
        case round =>
          obtain ⟨j, hj, rfl, rfl, hwr⟩ := hrel
          replace hwr := hwr.symm
          subst hwr
          by_cases hlt : j < 62
          · obtain ⟨x, hx, cx⟩ := CC.out j hlt
            obtain ⟨y, hy⟩ : ∃ y, 4294967295 - x.toNat = y := ⟨_, rfl⟩
            have hxl := x.toNat_lt
            have hsub : IntKind.u32.wrap (4294967295 - (x.toNat : Int)) = (y : Int) := by
              rw [IntKind.wrap_u32]
              omega
            have hz : zers (rr.take (j + 1)) = zers (rr.take j) + pop y := by
              rw [zers_step hx, zer_as hy, HP.out.2.2.2]
            have hzl := zers_le (rr.take j)
            have hzl2 : (rr.take j).length ≤ 62 := by simp; omega
            have hp := HP.out.2.2.1 y
            have hyl : y < 4294967296 := by omega
            obtain ⟨Z1, hZ1⟩ : ∃ Z1, zers (rr.take (j + 1)) = Z1 := ⟨_, rfl⟩
            rw [hZ1] at hz
            have HZ1 := Lib.hid hZ1
            have HZ := Lib.hid hz
            clear hZ1
            revert hzl HZ
            generalize zers (rr.take j) = Z
            intro hzl HZ
            obtain ⟨N0, hN0⟩ : ∃ N0, b.toNat + Z = N0 := ⟨_, rfl⟩
            have hN0l : N0 ≤ 2147485632 := by omega
            rw [hN0]
            have HN0 := Lib.hid hN0
            have HX := Lib.hid hx
            clear hz hN0 hzl hzl2 hy hx
            go_wp2_with fail
            go_loopw [3, 5] (fun v u wi => ∃ (z M : Nat), z < 4294967296 ∧ M ≤ 2147485664 ∧ u = .int .u32 (z : Int) ∧ v = .int .i64 (M : Int) ∧ Hid (M + pop z = N0 + pop y) ∧ wi = w7) (fun _ u _ => (intOf u).toNat)
            case atStart => exact ⟨y, N0, hyl, by omega, rfl, rfl, Lib.hid rfl, rfl⟩
            case round =>
              obtain ⟨z, M, hzl, hM, rfl, rfl, HM, hwr⟩ := hrel
              replace hwr := hwr.symm
              subst hwr
              by_cases hz0 : 0 < z
              · have hstep := HP.out.2.1 z hzl
                have hpl := HP.out.2.2.1 z
                have hpl2 := HP.out.2.2.1 y
                have HM2 : Hid (M + z % 2 + pop (z / 2) = N0 + pop y) := Lib.hid (by have := HM.out; omega)
                have hM2 : M + z % 2 ≤ 2147485664 := by have := HM2.out; omega
                have hd : decide ((0 : Int) < (z : Int)) = true := by simp; omega
                have hr2 : Int.tmod (z : Int) 2 = ((z % 2 : Nat) : Int) := by rw [Int.tmod_eq_emod_of_nonneg (by omega)]; omega
                have hq2 : Int.tdiv (z : Int) 2 = ((z / 2 : Nat) : Int) := by rw [Int.tdiv_eq_ediv_of_nonneg (by omega)]; omega
                have w1 : IntKind.u32.wrap ((z % 2 : Nat) : Int) = ((z % 2 : Nat) : Int) := by rw [IntKind.wrap_u32]; omega
                have w2 : IntKind.u32.wrap ((z / 2 : Nat) : Int) = ((z / 2 : Nat) : Int) := by rw [IntKind.wrap_u32]; omega
                have w3 : IntKind.i64.wrap ((M : Int) + ((z % 2 : Nat) : Int)) = ((M + z % 2 : Nat) : Int) := by rw [IntKind.wrap_i64]; omega
                have w4 : IntKind.i64.wrap ((z % 2 : Nat) : Int) = ((z % 2 : Nat) : Int) := by rw [IntKind.wrap_i64]; omega
                clear hstep hpl hpl2 HM
                go_wp2_with fail
                go_roundw
                case rel => exact ⟨z / 2, M + z % 2, by omega, hM2, by go_num, by go_num, HM2, (by first | rfl | trivial)⟩
                case measure => simp [intOf]; omega
              · obtain rfl : z = 0 := by omega
                have hM2 : M = b.toNat + Z1 := by
                  have h1 := HM.out
                  rw [HP.out.1] at h1
                  have := HZ.out
                  have := HN0.out
                  omega
                subst hM2
                clear HM
                go_wp2_with fail
                go_roundw
                case rel => exact ⟨j + 1, by omega, by go_num, by rw [HZ1.out], (by first | rfl | trivial)⟩
                case measure => simp [intOf]; omega
          · obtain rfl : j = 62 := by omega
            rw [List.take_of_length_le (by rw [HR.out]; exact Nat.le_refl _)]
            go_wp2_with fail
            go_ret
            exact ⟨rfl, hb7⟩
    · rw [if_neg (fun h => k2 h.2)] at hr
      subst hr
      have d2 : ((s : Int) != 4294967295) = true := by simp; omega
      clear hl2 hl ht hs_ k2
      go_enter Try.func64, Try.ntmps64
      go_wp2_with fail
      refine region_all_tail 23 (rcB g off c s b t) (by kernel_rfl) (by kernel_rfl) (by kernel_rfl) (rcB_stab _ _ _ _ _ _) ?_ ?_
      · intro w0 hb0
        simp only [List.take_succ_cons, List.take_zero]
        refine ⟨?_, ?_, ?_, ?_, ?_, ?_, ?_, ?_, ?_, ?_, ?_, ?_, ?_, ?_, ?_, ?_, ?_, ?_, ?_, ?_, ?_, ?_, ?_, trivial⟩
        all_goals intro listed a1 w' hk1 hd1
        · have f0_ : a1.eval (.tmp 0) = .slice (some ⟨g, off, none⟩) 64 c := hk1.ev_old 0 (by kernel_rfl)
          have g0_ : a1.tmps[0]?.getD undef = .slice (some ⟨g, off, none⟩) 64 c := by simpa [Act.eval] using f0_
          exact stepOk_value rfl (v := .slice (some ⟨g, off, none⟩) 64 c) (by go_simp) rfl
        · obtain ⟨y0, e0, q0, rfl⟩ := hk1.ev_new hd1 0 6 (by kernel_rfl) rfl
          exact stepOk_value rfl (v := .pointer (some ⟨g, off, none⟩)) (by go_simp) rfl
        · obtain ⟨y1, e1, q1, rfl⟩ := hk1.ev_new hd1 1 7 (by kernel_rfl) rfl
          obtain ⟨g_, o_, he_, hg_, hc_⟩ := (((hs.step hb0).step hk1.below)) (by simp)
          obtain ⟨rfl, rfl⟩ : g = g_ ∧ off = o_ := by simpa using he_
          have kc : w'.cell? ⟨g, off, none⟩ = some (.int .u32 (b.toNat : Int)) := hc_ 0 _ rfl
          exact stepOk_value rfl (v := .int .u32 (b.toNat : Int)) (by go_simp) rfl
        · obtain ⟨y2, e2, q2, rfl⟩ := hk1.ev_new hd1 2 8 (by kernel_rfl) rfl
          exact stepOk_value rfl (v := .bool false) (by go_simp) rfl
        · obtain ⟨y3, e3, q3, rfl⟩ := hk1.ev_new hd1 3 9 (by kernel_rfl) rfl
          exact stepOk_value rfl (v := .bool false) (by go_simp) rfl
        · obtain ⟨y4, e4, q4, rfl⟩ := hk1.ev_new hd1 4 10 (by kernel_rfl) rfl
          have f0_ : a1.eval (.tmp 0) = .slice (some ⟨g, off, none⟩) 64 c := hk1.ev_old 0 (by kernel_rfl)
          have g0_ : a1.tmps[0]?.getD undef = .slice (some ⟨g, off, none⟩) 64 c := by simpa [Act.eval] using f0_
          exact stepOk_valT (wanted_at (t := 10) rfl rfl q4) (v := .slice (some ⟨g, off, none⟩) 64 c) (by go_simp) rfl
        · obtain ⟨y4, e4, q4, rfl⟩ := hk1.ev_new hd1 4 10 (by kernel_rfl) rfl
          obtain ⟨y5, e5, q5, rfl⟩ := hk1.ev_new hd1 5 11 (by kernel_rfl) rfl
          exact stepOk_valT (wanted_at (t := 10) rfl rfl q4) (v := .pointer (some ⟨g, off, none⟩)) (by go_simp) rfl
        · obtain ⟨y4, e4, q4, rfl⟩ := hk1.ev_new hd1 4 10 (by kernel_rfl) rfl
          obtain ⟨y6, e6, q6, rfl⟩ := hk1.ev_new hd1 6 12 (by kernel_rfl) rfl
          obtain ⟨g_, o_, he_, hg_, hc_⟩ := (((hs.step hb0).step hk1.below)) (by simp)
          obtain ⟨rfl, rfl⟩ : g = g_ ∧ off = o_ := by simpa using he_
          have kc : w'.cell? ⟨g, off, none⟩ = some (.int .u32 (b.toNat : Int)) := hc_ 0 _ rfl
          exact stepOk_valT (wanted_at (t := 10) rfl rfl q4) (v := .int .u32 (b.toNat : Int)) (by go_simp) rfl
        · obtain ⟨y4, e4, q4, rfl⟩ := hk1.ev_new hd1 4 10 (by kernel_rfl) rfl
          have f0_ : a1.eval (.tmp 0) = .slice (some ⟨g, off, none⟩) 64 c := hk1.ev_old 0 (by kernel_rfl)
          have g0_ : a1.tmps[0]?.getD undef = .slice (some ⟨g, off, none⟩) 64 c := by simpa [Act.eval] using f0_
          exact stepOk_valT (wanted_at (t := 10) rfl rfl q4) (v := .slice (some ⟨g, off, none⟩) 64 c) (by go_simp) rfl
        · obtain ⟨y4, e4, q4, rfl⟩ := hk1.ev_new hd1 4 10 (by kernel_rfl) rfl
          obtain ⟨y8, e8, q8, rfl⟩ := hk1.ev_new hd1 8 14 (by kernel_rfl) rfl
          exact stepOk_valT (wanted_at (t := 10) rfl rfl q4) (v := .pointer (some ⟨g, off + 1, none⟩)) (by go_simp) rfl
        · obtain ⟨y4, e4, q4, rfl⟩ := hk1.ev_new hd1 4 10 (by kernel_rfl) rfl
          obtain ⟨y9, e9, q9, rfl⟩ := hk1.ev_new hd1 9 15 (by kernel_rfl) rfl
          obtain ⟨g_, o_, he_, hg_, hc_⟩ := (((hs.step hb0).step hk1.below)) (by simp)
          obtain ⟨rfl, rfl⟩ : g = g_ ∧ off = o_ := by simpa using he_
          have kc : w'.cell? ⟨g, off + 1, none⟩ = some (.int .u32 (t.toNat : Int)) := hc_ 1 _ rfl
          exact stepOk_valT (wanted_at (t := 10) rfl rfl q4) (v := .int .u32 (t.toNat : Int)) (by go_simp) rfl
        · obtain ⟨y4, e4, q4, rfl⟩ := hk1.ev_new hd1 4 10 (by kernel_rfl) rfl
          obtain ⟨y7, e7, q7, rfl⟩ := hk1.ev_new hd1 7 13 (by kernel_rfl) rfl
          obtain ⟨y10, e10, q10, rfl⟩ := hk1.ev_new hd1 10 16 (by kernel_rfl) rfl
          exact stepOk_valT (wanted_at (t := 10) rfl rfl q4) (v := .int .u32 (s : Int)) (by go_simp) rfl
        · obtain ⟨y4, e4, q4, rfl⟩ := hk1.ev_new hd1 4 10 (by kernel_rfl) rfl
          obtain ⟨y11, e11, q11, rfl⟩ := hk1.ev_new hd1 11 17 (by kernel_rfl) rfl
          exact stepOk_valT (wanted_at (t := 10) rfl rfl q4) (v := .bool true) (by go_simp) rfl
        · obtain ⟨y4, e4, q4, rfl⟩ := hk1.ev_new hd1 4 10 (by kernel_rfl) rfl
          obtain ⟨y12, e12, q12, rfl⟩ := hk1.ev_new hd1 12 18 (by kernel_rfl) rfl
          exact stepOk_value rfl (v := .bool true) (by go_simp) rfl
        · obtain ⟨y13, e13, q13, rfl⟩ := hk1.ev_new hd1 13 19 (by kernel_rfl) rfl
          exact stepOk_value rfl (v := .bool true) (by go_simp) rfl
        · obtain ⟨y14, e14, q14, rfl⟩ := hk1.ev_new hd1 14 20 (by kernel_rfl) rfl
          have f0_ : a1.eval (.tmp 0) = .slice (some ⟨g, off, none⟩) 64 c := hk1.ev_old 0 (by kernel_rfl)
          have g0_ : a1.tmps[0]?.getD undef = .slice (some ⟨g, off, none⟩) 64 c := by simpa [Act.eval] using f0_
          exact stepOk_offT (wanted_offT (t := 20) rfl rfl q14 rfl) rfl
        · obtain ⟨y14, e14, q14, rfl⟩ := hk1.ev_new hd1 14 20 (by kernel_rfl) rfl
          obtain ⟨y15, e15, q15, rfl⟩ := hk1.ev_new hd1 15 21 (by kernel_rfl) rfl
          exact stepOk_offT (wanted_offT (t := 20) rfl rfl q14 rfl) rfl
        · obtain ⟨y14, e14, q14, rfl⟩ := hk1.ev_new hd1 14 20 (by kernel_rfl) rfl
          obtain ⟨y16, e16, q16, rfl⟩ := hk1.ev_new hd1 16 22 (by kernel_rfl) rfl
          exact stepOk_offT (wanted_offT (t := 20) rfl rfl q14 rfl) rfl
        · obtain ⟨y14, e14, q14, rfl⟩ := hk1.ev_new hd1 14 20 (by kernel_rfl) rfl
          have f0_ : a1.eval (.tmp 0) = .slice (some ⟨g, off, none⟩) 64 c := hk1.ev_old 0 (by kernel_rfl)
          have g0_ : a1.tmps[0]?.getD undef = .slice (some ⟨g, off, none⟩) 64 c := by simpa [Act.eval] using f0_
          exact stepOk_offT (wanted_offT (t := 20) rfl rfl q14 rfl) rfl
        · obtain ⟨y14, e14, q14, rfl⟩ := hk1.ev_new hd1 14 20 (by kernel_rfl) rfl
          obtain ⟨y18, e18, q18, rfl⟩ := hk1.ev_new hd1 18 24 (by kernel_rfl) rfl
          exact stepOk_offT (wanted_offT (t := 20) rfl rfl q14 rfl) rfl
        · obtain ⟨y14, e14, q14, rfl⟩ := hk1.ev_new hd1 14 20 (by kernel_rfl) rfl
          obtain ⟨y19, e19, q19, rfl⟩ := hk1.ev_new hd1 19 25 (by kernel_rfl) rfl
          exact stepOk_offT (wanted_offT (t := 20) rfl rfl q14 rfl) rfl
        · obtain ⟨y14, e14, q14, rfl⟩ := hk1.ev_new hd1 14 20 (by kernel_rfl) rfl
          obtain ⟨y17, e17, q17, rfl⟩ := hk1.ev_new hd1 17 23 (by kernel_rfl) rfl
          obtain ⟨y20, e20, q20, rfl⟩ := hk1.ev_new hd1 20 26 (by kernel_rfl) rfl
          exact stepOk_offT (wanted_offT (t := 20) rfl rfl q14 rfl) rfl
        · obtain ⟨y14, e14, q14, rfl⟩ := hk1.ev_new hd1 14 20 (by kernel_rfl) rfl
          obtain ⟨y21, e21, q21, rfl⟩ := hk1.ev_new hd1 21 27 (by kernel_rfl) rfl
          exact stepOk_offT (wanted_offT (t := 20) rfl rfl q14 rfl) rfl
      · intro a1 w7 hb7 hp
        obtain ⟨x0, p0, x1, p1, x2, p2, x3, p3, x4, p4, x5, p5, x6, p6, x7, p7, x8, p8, x9, p9, x10, p10, x11, p11, x12, p12, x13, p13, x14, p14, x15, p15, x16, p16, x17, p17, x18, p18, x19, p19, x20, p20, x21, p21, x22, p22, rfl⟩ := hp
        simp only [rcB] at p0 p1 p2 p3 p4 p5 p6 p7 p8 p9 p10 p11 p12 p13 p14 p15 p16 p17 p18 p19 p20 p21 p22
        subst p0 p1 p2 p3 p4 p5 p6 p7 p8 p9 p10 p11 p12 p13 p14 p15 p16 p17 p18 p19 p20 p21 p22
        simp only [List.drop_succ_cons, List.drop_zero, Act.put, List.setIfInBounds_toArray, List.set_cons_succ, List.set_cons_zero]
        go_wp2_with fail
        go_ret
        exact ⟨rfl, hb7⟩
  · have d1 : decide ((2147483648 : Int) < (b.toNat : Int)) = true := by simp; omega
    rw [if_neg (fun h => k1 h.1)] at hr
    subst hr
    clear hl2 hl ht hs_ ew
    go_enter Try.func64, Try.ntmps64
    go_wp2_with fail
    refine region_all_tail 23 (rcA g off c s b t) (by kernel_rfl) (by kernel_rfl) (by kernel_rfl) (rcA_stab _ _ _ _ _ _) ?_ ?_
    · intro w0 hb0
      simp only [List.take_succ_cons, List.take_zero]
      refine ⟨?_, ?_, ?_, ?_, ?_, ?_, ?_, ?_, ?_, ?_, ?_, ?_, ?_, ?_, ?_, ?_, ?_, ?_, ?_, ?_, ?_, ?_, ?_, trivial⟩
      all_goals intro listed a1 w' hk1 hd1
      · have f0_ : a1.eval (.tmp 0) = .slice (some ⟨g, off, none⟩) 64 c := hk1.ev_old 0 (by kernel_rfl)
        have g0_ : a1.tmps[0]?.getD undef = .slice (some ⟨g, off, none⟩) 64 c := by simpa [Act.eval] using f0_
        exact stepOk_value rfl (v := .slice (some ⟨g, off, none⟩) 64 c) (by go_simp) rfl
      · obtain ⟨y0, e0, q0, rfl⟩ := hk1.ev_new hd1 0 6 (by kernel_rfl) rfl
        exact stepOk_value rfl (v := .pointer (some ⟨g, off, none⟩)) (by go_simp) rfl
      · obtain ⟨y1, e1, q1, rfl⟩ := hk1.ev_new hd1 1 7 (by kernel_rfl) rfl
        obtain ⟨g_, o_, he_, hg_, hc_⟩ := (((hs.step hb0).step hk1.below)) (by simp)
        obtain ⟨rfl, rfl⟩ : g = g_ ∧ off = o_ := by simpa using he_
        have kc : w'.cell? ⟨g, off, none⟩ = some (.int .u32 (b.toNat : Int)) := hc_ 0 _ rfl
        exact stepOk_value rfl (v := .int .u32 (b.toNat : Int)) (by go_simp) rfl
      · obtain ⟨y2, e2, q2, rfl⟩ := hk1.ev_new hd1 2 8 (by kernel_rfl) rfl
        exact stepOk_value rfl (v := .bool true) (by go_simp) rfl
      · obtain ⟨y3, e3, q3, rfl⟩ := hk1.ev_new hd1 3 9 (by kernel_rfl) rfl
        exact stepOk_value rfl (v := .bool true) (by go_simp) rfl
      · obtain ⟨y4, e4, q4, rfl⟩ := hk1.ev_new hd1 4 10 (by kernel_rfl) rfl
        have f0_ : a1.eval (.tmp 0) = .slice (some ⟨g, off, none⟩) 64 c := hk1.ev_old 0 (by kernel_rfl)
        have g0_ : a1.tmps[0]?.getD undef = .slice (some ⟨g, off, none⟩) 64 c := by simpa [Act.eval] using f0_
        exact stepOk_offT (wanted_offT (t := 10) rfl rfl q4 rfl) rfl
      · obtain ⟨y4, e4, q4, rfl⟩ := hk1.ev_new hd1 4 10 (by kernel_rfl) rfl
        obtain ⟨y5, e5, q5, rfl⟩ := hk1.ev_new hd1 5 11 (by kernel_rfl) rfl
        exact stepOk_offT (wanted_offT (t := 10) rfl rfl q4 rfl) rfl
      · obtain ⟨y4, e4, q4, rfl⟩ := hk1.ev_new hd1 4 10 (by kernel_rfl) rfl
        obtain ⟨y6, e6, q6, rfl⟩ := hk1.ev_new hd1 6 12 (by kernel_rfl) rfl
        exact stepOk_offT (wanted_offT (t := 10) rfl rfl q4 rfl) rfl
      · obtain ⟨y4, e4, q4, rfl⟩ := hk1.ev_new hd1 4 10 (by kernel_rfl) rfl
        have f0_ : a1.eval (.tmp 0) = .slice (some ⟨g, off, none⟩) 64 c := hk1.ev_old 0 (by kernel_rfl)
        have g0_ : a1.tmps[0]?.getD undef = .slice (some ⟨g, off, none⟩) 64 c := by simpa [Act.eval] using f0_
        exact stepOk_offT (wanted_offT (t := 10) rfl rfl q4 rfl) rfl
      · obtain ⟨y4, e4, q4, rfl⟩ := hk1.ev_new hd1 4 10 (by kernel_rfl) rfl
        obtain ⟨y8, e8, q8, rfl⟩ := hk1.ev_new hd1 8 14 (by kernel_rfl) rfl
        exact stepOk_offT (wanted_offT (t := 10) rfl rfl q4 rfl) rfl
      · obtain ⟨y4, e4, q4, rfl⟩ := hk1.ev_new hd1 4 10 (by kernel_rfl) rfl
        obtain ⟨y9, e9, q9, rfl⟩ := hk1.ev_new hd1 9 15 (by kernel_rfl) rfl
        exact stepOk_offT (wanted_offT (t := 10) rfl rfl q4 rfl) rfl
      · obtain ⟨y4, e4, q4, rfl⟩ := hk1.ev_new hd1 4 10 (by kernel_rfl) rfl
        obtain ⟨y7, e7, q7, rfl⟩ := hk1.ev_new hd1 7 13 (by kernel_rfl) rfl
        obtain ⟨y10, e10, q10, rfl⟩ := hk1.ev_new hd1 10 16 (by kernel_rfl) rfl
        exact stepOk_offT (wanted_offT (t := 10) rfl rfl q4 rfl) rfl
      · obtain ⟨y4, e4, q4, rfl⟩ := hk1.ev_new hd1 4 10 (by kernel_rfl) rfl
        obtain ⟨y11, e11, q11, rfl⟩ := hk1.ev_new hd1 11 17 (by kernel_rfl) rfl
        exact stepOk_offT (wanted_offT (t := 10) rfl rfl q4 rfl) rfl
      · obtain ⟨y4, e4, q4, rfl⟩ := hk1.ev_new hd1 4 10 (by kernel_rfl) rfl
        obtain ⟨y12, e12, q12, rfl⟩ := hk1.ev_new hd1 12 18 (by kernel_rfl) rfl
        exact stepOk_value rfl (v := .bool true) (by go_simp) rfl
      · obtain ⟨y13, e13, q13, rfl⟩ := hk1.ev_new hd1 13 19 (by kernel_rfl) rfl
        exact stepOk_value rfl (v := .bool true) (by go_simp) rfl
      · obtain ⟨y14, e14, q14, rfl⟩ := hk1.ev_new hd1 14 20 (by kernel_rfl) rfl
        have f0_ : a1.eval (.tmp 0) = .slice (some ⟨g, off, none⟩) 64 c := hk1.ev_old 0 (by kernel_rfl)
        have g0_ : a1.tmps[0]?.getD undef = .slice (some ⟨g, off, none⟩) 64 c := by simpa [Act.eval] using f0_
        exact stepOk_offT (wanted_offT (t := 20) rfl rfl q14 rfl) rfl
      · obtain ⟨y14, e14, q14, rfl⟩ := hk1.ev_new hd1 14 20 (by kernel_rfl) rfl
        obtain ⟨y15, e15, q15, rfl⟩ := hk1.ev_new hd1 15 21 (by kernel_rfl) rfl
        exact stepOk_offT (wanted_offT (t := 20) rfl rfl q14 rfl) rfl
      · obtain ⟨y14, e14, q14, rfl⟩ := hk1.ev_new hd1 14 20 (by kernel_rfl) rfl
        obtain ⟨y16, e16, q16, rfl⟩ := hk1.ev_new hd1 16 22 (by kernel_rfl) rfl
        exact stepOk_offT (wanted_offT (t := 20) rfl rfl q14 rfl) rfl
      · obtain ⟨y14, e14, q14, rfl⟩ := hk1.ev_new hd1 14 20 (by kernel_rfl) rfl
        have f0_ : a1.eval (.tmp 0) = .slice (some ⟨g, off, none⟩) 64 c := hk1.ev_old 0 (by kernel_rfl)
        have g0_ : a1.tmps[0]?.getD undef = .slice (some ⟨g, off, none⟩) 64 c := by simpa [Act.eval] using f0_
        exact stepOk_offT (wanted_offT (t := 20) rfl rfl q14 rfl) rfl
      · obtain ⟨y14, e14, q14, rfl⟩ := hk1.ev_new hd1 14 20 (by kernel_rfl) rfl
        obtain ⟨y18, e18, q18, rfl⟩ := hk1.ev_new hd1 18 24 (by kernel_rfl) rfl
        exact stepOk_offT (wanted_offT (t := 20) rfl rfl q14 rfl) rfl
      · obtain ⟨y14, e14, q14, rfl⟩ := hk1.ev_new hd1 14 20 (by kernel_rfl) rfl
        obtain ⟨y19, e19, q19, rfl⟩ := hk1.ev_new hd1 19 25 (by kernel_rfl) rfl
        exact stepOk_offT (wanted_offT (t := 20) rfl rfl q14 rfl) rfl
      · obtain ⟨y14, e14, q14, rfl⟩ := hk1.ev_new hd1 14 20 (by kernel_rfl) rfl
        obtain ⟨y17, e17, q17, rfl⟩ := hk1.ev_new hd1 17 23 (by kernel_rfl) rfl
        obtain ⟨y20, e20, q20, rfl⟩ := hk1.ev_new hd1 20 26 (by kernel_rfl) rfl
        exact stepOk_offT (wanted_offT (t := 20) rfl rfl q14 rfl) rfl
      · obtain ⟨y14, e14, q14, rfl⟩ := hk1.ev_new hd1 14 20 (by kernel_rfl) rfl
        obtain ⟨y21, e21, q21, rfl⟩ := hk1.ev_new hd1 21 27 (by kernel_rfl) rfl
        exact stepOk_offT (wanted_offT (t := 20) rfl rfl q14 rfl) rfl
    · intro a1 w7 hb7 hp
      obtain ⟨x0, p0, x1, p1, x2, p2, x3, p3, x4, p4, x5, p5, x6, p6, x7, p7, x8, p8, x9, p9, x10, p10, x11, p11, x12, p12, x13, p13, x14, p14, x15, p15, x16, p16, x17, p17, x18, p18, x19, p19, x20, p20, x21, p21, x22, p22, rfl⟩ := hp
      simp only [rcA] at p0 p1 p2 p3 p4 p5 p6 p7 p8 p9 p10 p11 p12 p13 p14 p15 p16 p17 p18 p19 p20 p21 p22
      subst p0 p1 p2 p3 p4 p5 p6 p7 p8 p9 p10 p11 p12 p13 p14 p15 p16 p17 p18 p19 p20 p21 p22
      simp only [List.drop_succ_cons, List.drop_zero, Act.put, List.setIfInBounds_toArray, List.set_cons_succ, List.set_cons_zero]
      go_wp2_with fail
      go_ret
      exact ⟨rfl, hb7⟩
end
end Go.Proofs.Ytcfjbllmaejiaaa

namespace Go.Proofs.Ytcfjbllmaejiaaa
open Go.RowKit
set_option linter.unusedVariables false
theorem elemU : Try.prog.underlying 28 = some (.slice (Try.prog.elem 28)) := by kernel_rfl
theorem run_hiU {o : Oper} {a : Act} {w : World} (x : Operand) (hop : o.op = .slice 28 x none (some (.const (.int .i64 64))) none) {A : Option Addr} {n c : Nat} (hx : a.eval x = .slice A n c) (hk : 64 ≤ c) : (execOp a.eval o).run Try.prog w = .ok (.value (.slice A 64 c)) w := by
  have hz : (sizeOf (Try.prog.elem 28)).run Try.prog w = .ok 1 w := by kernel_rfl
  have h : (Instr.slice 28 (.slice A n c) none (some (.int .i64 64)) none).run Try.prog w = .ok (.slice A 64 c) w := by
    rw [run_slice_h w 28 A n c elemU .i64 64 (by omega) (by omega), hz]
    simp only [Result.andThen, sliced, Nat.zero_mul, Nat.sub_zero]
    cases A <;> simp [Addr.add]
  have hy : a.eval (.const (.int .i64 64)) = .int .i64 64 := rfl
  unfold execOp
  simp [hop, hx, hy, run_sliceAt_slice _ _ _ _ _ _ elemU, h]
theorem run_loU {o : Oper} {a : Act} {w : World} (x : Operand) (hop : o.op = .slice 28 x (some (.const (.int .i64 64))) none none) {G d : Nat} (hx : a.eval x = .slice (some ⟨G, 0, none⟩) 128 d) (hk : 128 ≤ d) : (execOp a.eval o).run Try.prog w = .ok (.value (.slice (some ⟨G, 64, none⟩) 64 (d - 64))) w := by
  have hz : (sizeOf (Try.prog.elem 28)).run Try.prog w = .ok 1 w := by kernel_rfl
  have h : (Instr.slice 28 (.slice (some ⟨G, 0, none⟩) 128 d) (some (.int .i64 64)) none none).run Try.prog w = .ok (.slice (some ⟨G, 64, none⟩) 64 (d - 64)) w := by
    rw [run_slice_l w 28 (some ⟨G, 0, none⟩) 128 d elemU .i64 64 (by omega) (by omega), hz]
    simp [Result.andThen, sliced, Addr.add, show ¬ (d = 64) from by omega]
  have hy : a.eval (.const (.int .i64 64)) = .int .i64 64 := rfl
  unfold execOp
  simp [hop, hx, hy, run_sliceAt_slice _ _ _ _ _ _ elemU, h]
/-- What is looked at: the sector and the count. -/
def lookI (X Y : Int) : Int × Int := if X < 0 ∧ Y < 0 then (-1, 0) else if X < Y then (1, Y) else (0, X)
theorem look_int (a b : List UInt32) : lookI (cntI (cntL a)) (cntI (cntL b)) = ((lookL a b).1, ((lookL a b).2.1 : Int)) := by
  unfold lookL
  cases cntL a with
  | none => cases cntL b with
    | none => rfl
    | some k =>
      show lookI (-1) (k : Int) = (1, (k : Int))
      unfold lookI
      rw [if_neg (by omega), if_pos (by omega)]
  | some n => cases cntL b with
    | none =>
      show lookI (n : Int) (-1) = (0, (n : Int))
      unfold lookI
      rw [if_neg (by omega), if_neg (by omega)]
    | some k =>
      show lookI (n : Int) (k : Int) = ((if n < k then (1, k, b) else (0, n, a) : Int × Nat × List UInt32).1, (((if n < k then (1, k, b) else (0, n, a) : Int × Nat × List UInt32).2.1 : Nat) : Int))
      unfold lookI
      by_cases h : n < k
      · rw [if_neg (by omega), if_pos (by omega), if_pos h]
      · rw [if_neg (by omega), if_neg (by omega), if_neg h]
def Fl.rlook (S : Fl) (f : Nat) : Int × Int := if S.down then (-1, 0) else ((S.tlook f).1, ((S.tlook f).2.1 : Int))
theorem sees_parts {w : World} {B G : Nat} {xs ys : List UInt32} (hx : xs.length = 64) (hy : ys.length = 64) (h : Sees w B (some ⟨G, 0, none⟩) (cw (xs ++ ys))) : Sees w B (some ⟨G, 0, none⟩) (cw xs) ∧ Sees w B (some ⟨G, 64, none⟩) (cw ys) := by
  obtain ⟨g, o, e, hg, hc⟩ := h (by simp; omega)
  obtain ⟨rfl, rfl⟩ : G = g ∧ 0 = o := by simpa using e
  refine ⟨fun _ => ⟨G, 0, rfl, hg, fun j u hu => hc j u ?_⟩, fun _ => ⟨G, 64, rfl, hg, fun j u hu => ?_⟩⟩
  · rw [show cw (xs ++ ys) = cw xs ++ cw ys from List.map_append, List.getElem?_append_left (by rw [List.length_map]; have := (List.getElem?_eq_some_iff.1 hu).1; simpa using this)]
    exact hu
  · have := hc (64 + j) u (by
      rw [show cw (xs ++ ys) = cw xs ++ cw ys from List.map_append, List.getElem?_append_right (by rw [List.length_map]; omega), List.length_map, hx, Nat.add_sub_cancel_left]
      exact hu)
    rw [Nat.zero_add] at this
    exact this
theorem sec_parts (S : Fl) (f : Nat) : S.at_ f 0 128 = S.sec f 0 ++ S.sec f 1 := by
  unfold Fl.sec Fl.at_
  rw [show (128 : Nat) = 64 + 64 from rfl, List.take_add, List.drop_drop]
def rkF (G d : Nat) (X Y : Int) (j : Nat) (x : Value) (w : World) : Prop :=
  match j with
  | 0 => x = .slice (some ⟨G, 0, none⟩) 128 d
  | 1 => x = .slice (some ⟨G, 0, none⟩) 64 d
  | 2 => x = .int .i64 X
  | 3 => x = .slice (some ⟨G, 0, none⟩) 128 d
  | 4 => x = .slice (some ⟨G, 64, none⟩) 64 (d - 64)
  | 5 => x = .int .i64 Y
  | _ => True
theorem rkF_stab (G d : Nat) (X Y : Int) : ∀ j x w w', Below w.heap.size w w' → rkF G d X Y j x w → rkF G d X Y j x w' := fun _ _ _ _ _ h => h

section
variable {w : World} {A : Option Addr} {c : Nat} {S : Fl}
set_option maxHeartbeats 4000000 in
set_option maxRecDepth 100000 in
theorem rLook_any (h : RnAt w A c S) (f : Nat) (hf : f + 2 ≤ S.n) (s k : Int) (hr : S.rlook f = (s, k)) :
    Calls Try.prog 19 #[.agg (rdL (f : Int) 2).toArray, .agg (S.rL A c).toArray] w fun e w' => e = .returned (.tuple #[.int .i64 s, .int .i64 k]) ∧ Below w.heap.size w w' := by
  have hn := h.n_le
  cases hd : S.down with
  | true =>
    obtain ⟨rfl, rfl⟩ : -1 = s ∧ 0 = k := by simpa [Fl.rlook, hd] using hr
    have hR : ∀ w', Below w.heap.size w w' → Calls Try.prog 55 #[.agg (rdL (f : Int) 2).toArray, .agg (S.rL A c).toArray, .int .i64 0, .int .i64 128] w' fun e w2 => e = .returned (.tuple #[.slice none 0 0, .int .i64 40]) ∧ Below w'.heap.size w' w2 := fun w' x => rdRead_no (h.step x) f 2 (by omega) 0 128 (by decide) (.inr hd)
    have HR := Lib.hid hR
    clear hR hr hd
    go_enter Try.func19, Try.ntmps19
    go_wp2_with (first
      | (with_reducible refine wpList_box (o := ⟨some 2, _, _, _, _, _⟩) rfl (.tmp 0) 35 rfl (rdL (f : Int) 2) rfl 2 rfl (by decide) ?_; intro g w1 hg hF hB; have z1 := hB.size)
      | (with_reducible refine wpList_box (o := ⟨some 3, _, _, _, _, _⟩) rfl (.tmp 1) 30 rfl (S.rL A c) rfl 5 rfl (by decide) ?_; intro gn w2 hgn hFn hBn; have z2 := hBn.size; have hF2 := hF.below hBn; have hB2 := Below.then_ hB hBn)
      | (with_reducible refine wpList_load (o := ⟨some 11, _, _, _, _, _⟩) rfl (.tmp 2) 35 rfl g 0 _ rfl (rdL (f : Int) 2) 2 rfl (by kernel_rfl) hF2.sees ?_)
      | (with_reducible refine wpList_load (o := ⟨some 12, _, _, _, _, _⟩) rfl (.tmp 3) 30 rfl gn 0 _ rfl (S.rL A c) 5 rfl (by kernel_rfl) hFn.sees ?_)
      | (go_at_call 55; refine (HR.out _ hB2).mono ?_; rintro e w3 ⟨rfl, hB3⟩))
    go_ret2
    exact ⟨rfl, Below.then_ hB2 hB3⟩
  | false =>
    have hl0 : (S.sec f 0).length = 64 := by simp [Fl.sec, Fl.at_, h.len]; omega
    have hl1 : (S.sec f 1).length = 64 := by simp [Fl.sec, Fl.at_, h.len]; omega
    have hlk := look_int (S.sec f 0) (S.sec f 1)
    have e1 : ((lookL (S.sec f 0) (S.sec f 1)).1, ((lookL (S.sec f 0) (S.sec f 1)).2.1 : Int)) = (s, k) := by
      rw [← hr]
      simp [Fl.rlook, hd, Fl.tlook]
    rw [e1] at hlk
    have hR : ∀ w', Below w.heap.size w w' → Calls Try.prog 55 #[.agg (rdL (f : Int) 2).toArray, .agg (S.rL A c).toArray, .int .i64 0, .int .i64 128] w' fun e w2 => ∃ B d, e = .returned (.tuple #[.slice B 128 d, .int .i64 0]) ∧ Fresh w'.heap.size 75 w2 B 128 d (cw (S.sec f 0 ++ S.sec f 1)) ∧ Below w'.heap.size w' w2 := fun w' x => by
      have := rdRead_ok (h.step x) hd f 2 0 128 hf (by decide)
      rw [sec_parts] at this
      exact this
    obtain ⟨a, ha⟩ : ∃ a, S.sec f 0 = a := ⟨_, rfl⟩
    obtain ⟨b, hb⟩ : ∃ b, S.sec f 1 = b := ⟨_, rfl⟩
    rw [ha, hb] at hR hlk
    rw [ha] at hl0
    rw [hb] at hl1
    obtain ⟨X, hX⟩ : ∃ X, cntI (cntL a) = X := ⟨_, rfl⟩
    obtain ⟨Y, hY⟩ : ∃ Y, cntI (cntL b) = Y := ⟨_, rfl⟩
    rw [hX, hY] at hlk
    unfold lookI at hlk
    have HLK := Lib.hid hlk
    have HL0 := Lib.hid hl0
    have HL1 := Lib.hid hl1
    have HR := Lib.hid hR
    have HX : Hid (∃ r, cntL a = r ∧ cntI r = X) := Lib.hid ⟨_, rfl, hX⟩
    have HY : Hid (∃ r, cntL b = r ∧ cntI r = Y) := Lib.hid ⟨_, rfl, hY⟩
    clear hR hr hd hlk hl0 hl1 e1 ha hb hX hY
    obtain ⟨rx, hrx, ex⟩ := HX.out
    obtain ⟨ry, hry, ey⟩ := HY.out
    have HX := Lib.hid hrx
    have HY := Lib.hid hry
    have EX := Lib.hid ex
    have EY := Lib.hid ey
    clear hrx hry ex ey
    go_enter Try.func19, Try.ntmps19
    go_wp2_with (first
      | (with_reducible refine wpList_box (o := ⟨some 2, _, _, _, _, _⟩) rfl (.tmp 0) 35 rfl (rdL (f : Int) 2) rfl 2 rfl (by decide) ?_; intro g w1 hg hF hB; have z1 := hB.size)
      | (with_reducible refine wpList_box (o := ⟨some 3, _, _, _, _, _⟩) rfl (.tmp 1) 30 rfl (S.rL A c) rfl 5 rfl (by decide) ?_; intro gn w2 hgn hFn hBn; have z2 := hBn.size; have hF2 := hF.below hBn; have hB2 := Below.then_ hB hBn)
      | (with_reducible refine wpList_load (o := ⟨some 11, _, _, _, _, _⟩) rfl (.tmp 2) 35 rfl g 0 _ rfl (rdL (f : Int) 2) 2 rfl (by kernel_rfl) hF2.sees ?_)
      | (with_reducible refine wpList_load (o := ⟨some 12, _, _, _, _, _⟩) rfl (.tmp 3) 30 rfl gn 0 _ rfl (S.rL A c) 5 rfl (by kernel_rfl) hFn.sees ?_)
      | (go_at_call 55; refine (HR.out _ hB2).mono ?_; rintro e w3 ⟨Bq, d, rfl, hFr, hB3⟩; have hB3w := Below.then_ hB2 hB3; obtain ⟨G, rfl, hG1, hG2⟩ := hFr.spot_ (by omega); have hdc : 128 ≤ d := hFr.cap.1; obtain ⟨hs0, hs1⟩ := sees_parts HL0.out HL1.out hFr.sees))
    clear hFr hF hFn hF2 hB hBn hB2 hB3 z1 z2 hG1 hG2 hg hgn
    refine region_all_tail 6 (rkF G d X Y) (by kernel_rfl) (by kernel_rfl) (by kernel_rfl) (rkF_stab _ _ _ _) ?_ ?_
    · intro w0 hb0
      simp only [List.take_succ_cons, List.take_zero]
      refine ⟨?_, ?_, ?_, ?_, ?_, ?_, trivial⟩
      all_goals intro listed a1 w' hk1 hd1
      · have f6_ : a1.eval (.tmp 6) = .slice (some ⟨G, 0, none⟩) 128 d := hk1.ev_old 6 (by kernel_rfl)
        have g6_ : a1.tmps[6]?.getD undef = .slice (some ⟨G, 0, none⟩) 128 d := by simpa [Act.eval] using f6_
        exact stepOk_value rfl (v := .slice (some ⟨G, 0, none⟩) 128 d) (by go_simp) rfl
      · obtain ⟨y0, e0, q0, rfl⟩ := hk1.ev_new hd1 0 18 (by kernel_rfl) rfl
        exact stepOk_value rfl (run_hiU (.tmp 18) rfl e0 (by omega)) rfl
      · obtain ⟨y1, e1, q1, rfl⟩ := hk1.ev_new hd1 1 19 (by kernel_rfl) rfl
        refine stepOk_enter rfl (f := 64) (args := #[.slice (some ⟨G, 0, none⟩) 64 d]) (by go_simp) ?_
        have ho := rcounts_any (c := d) ((hs0.step hb0).step hk1.below) HL0.out _ HX.out
        rw [EX.out] at ho
        refine ho.mono ?_
        rintro e w5 ⟨rfl, hB5⟩
        exact ⟨_, rfl, rfl, hB5⟩
      · have f6_ : a1.eval (.tmp 6) = .slice (some ⟨G, 0, none⟩) 128 d := hk1.ev_old 6 (by kernel_rfl)
        have g6_ : a1.tmps[6]?.getD undef = .slice (some ⟨G, 0, none⟩) 128 d := by simpa [Act.eval] using f6_
        exact stepOk_value rfl (v := .slice (some ⟨G, 0, none⟩) 128 d) (by go_simp) rfl
      · obtain ⟨y3, e3, q3, rfl⟩ := hk1.ev_new hd1 3 21 (by kernel_rfl) rfl
        exact stepOk_value rfl (run_loU (.tmp 21) rfl e3 (by omega)) rfl
      · obtain ⟨y4, e4, q4, rfl⟩ := hk1.ev_new hd1 4 22 (by kernel_rfl) rfl
        refine stepOk_enter rfl (f := 64) (args := #[.slice (some ⟨G, 64, none⟩) 64 (d - 64)]) (by go_simp) ?_
        have ho := rcounts_any (c := d - 64) ((hs1.step hb0).step hk1.below) HL1.out _ HY.out
        rw [EY.out] at ho
        refine ho.mono ?_
        rintro e w5 ⟨rfl, hB5⟩
        exact ⟨_, rfl, rfl, hB5⟩
    · intro a1 w7 hb7 hp
      obtain ⟨x0, p0, x1, p1, x2, p2, x3, p3, x4, p4, x5, p5, rfl⟩ := hp
      simp only [rkF] at p0 p1 p2 p3 p4 p5
      subst p0 p1 p2 p3 p4 p5
      simp only [List.drop_succ_cons, List.drop_zero, Act.put, List.setIfInBounds_toArray, List.set_cons_succ, List.set_cons_zero]
      have hB7 := Below.then_ hB3w hb7
      clear hs0 hs1
      by_cases k1 : X < 0
      · have d1 : decide (X < 0) = true := by simp; omega
        by_cases k2 : Y < 0
        · have d2 : decide (Y < 0) = true := by simp; omega
          obtain ⟨rfl, rfl⟩ : -1 = s ∧ 0 = k := by simpa [k1, k2] using HLK.out
          go_wp2_with fail
          go_ret2
          exact ⟨rfl, hB7⟩
        · have d2 : decide (Y < 0) = false := by simp; omega
          have d3 : decide (X < Y) = true := by simp; omega
          obtain ⟨rfl, rfl⟩ : 1 = s ∧ Y = k := by simpa [k1, k2, show X < Y from by omega] using HLK.out
          go_wp2_with fail
          go_ret2
          exact ⟨rfl, hB7⟩
      · have d1 : decide (X < 0) = false := by simp; omega
        by_cases k3 : X < Y
        · have d3 : decide (X < Y) = true := by simp; omega
          obtain ⟨rfl, rfl⟩ : 1 = s ∧ Y = k := by simpa [k1, k3] using HLK.out
          go_wp2_with fail
          go_ret2
          exact ⟨rfl, hB7⟩
        · have d3 : decide (X < Y) = false := by simp; omega
          obtain ⟨rfl, rfl⟩ : 0 = s ∧ X = k := by simpa [k1, k3] using HLK.out
          go_wp2_with fail
          go_ret2
          exact ⟨rfl, hB7⟩
set_option maxRecDepth 100000 in
theorem rOpen6_any (h : RnAt w A c S) (f : Nat) (hf : f + 2 ≤ S.n) (r : Int) (hr : (if S.down then 40 else 0) = r) :
    Calls Try.prog 18 #[.agg (rdL (f : Int) 2).toArray, .agg (S.rL A c).toArray] w fun e w' => e = .returned (.int .i64 r) ∧ Below w.heap.size w w' := by
  have hn := h.n_le
  have hR : ∀ w', Below w.heap.size w w' → Calls Try.prog 55 #[.agg (rdL (f : Int) 2).toArray, .agg (S.rL A c).toArray, .int .i64 0, .int .i64 128] w' fun e w2 => ∃ B n d, e = .returned (.tuple #[.slice B n d, .int .i64 r]) ∧ Below w'.heap.size w' w2 := fun w' x => by
    cases hd : S.down with
    | true =>
      obtain rfl : 40 = r := by simpa [hd] using hr
      refine (rdRead_no (h.step x) f 2 (by omega) 0 128 (by decide) (.inr hd)).mono ?_
      rintro e w2 ⟨rfl, hB⟩
      exact ⟨none, 0, 0, rfl, hB⟩
    | false =>
      obtain rfl : 0 = r := by simpa [hd] using hr
      refine (rdRead_ok (h.step x) hd f 2 0 128 hf (by decide)).mono ?_
      rintro e w2 ⟨B, d, rfl, _, hB⟩
      exact ⟨B, 128, d, rfl, hB⟩
  have HR := Lib.hid hR
  clear hR hr
  go_enter Try.func18, Try.ntmps18
  go_wp2_with (first
    | (with_reducible refine wpList_box (o := ⟨some 2, _, _, _, _, _⟩) rfl (.tmp 0) 35 rfl (rdL (f : Int) 2) rfl 2 rfl (by decide) ?_; intro g w1 hg hF hB; have z1 := hB.size)
    | (with_reducible refine wpList_box (o := ⟨some 3, _, _, _, _, _⟩) rfl (.tmp 1) 30 rfl (S.rL A c) rfl 5 rfl (by decide) ?_; intro gn w2 hgn hFn hBn; have z2 := hBn.size; have hF2 := hF.below hBn; have hB2 := Below.then_ hB hBn; have kc1 : w2.cell? ⟨g, 1, none⟩ = some (.int .i64 2) := hF2.cell_ rfl)
    | (with_reducible refine wpList_box (o := ⟨some 2, _, _, _, _, _⟩) rfl (.tmp 0) 35 rfl (rdL (f : Int) 2) rfl 2 rfl (by decide) ?_; intro g w1 hg hF hB; have z1 := hB.size)
    | (with_reducible refine wpList_load (o := ⟨some 11, _, _, _, _, _⟩) rfl (.tmp 2) 35 rfl g 0 _ rfl (rdL (f : Int) 2) 2 rfl (by kernel_rfl) hF2.sees ?_)
    | (with_reducible refine wpList_load (o := ⟨some 12, _, _, _, _, _⟩) rfl (.tmp 3) 30 rfl gn 0 _ rfl (S.rL A c) 5 rfl (by kernel_rfl) hFn.sees ?_)
    | (go_at_call 55; refine (HR.out _ hB2).mono ?_; rintro e w3 ⟨Bq, nq, dq, rfl, hB3⟩))
  go_ret
  exact ⟨rfl, Below.then_ hB2 hB3⟩
end
end Go.Proofs.Ytcfjbllmaejiaaa

namespace Go.Proofs.Ytcfjbllmaejiaaa
open Go.RowKit
set_option linter.unusedVariables false
theorem lsS (l : Array Bool) (i k : Nat) (h : k ≠ i) : (l.setIfInBounds i true).getD k false = l.getD k false := by simp [Ne.symm h]
theorem lsE (l : Array Bool) (i : Nat) (h : i < l.size) : (l.setIfInBounds i true).getD i false = true := by simp [h]
theorem lsB {l : Array Bool} {i : Nat} (h : l.getD i true = false) : i < l.size ∧ l.getD i false = false := by
  by_cases hi : i < l.size
  · simp [hi] at h ⊢
    exact h
  · simp [hi] at h
theorem tmS (a : Act) (t k : Nat) (v : Value) (h : k ≠ t) : (a.put (some t) v).tmps[k]? = a.tmps[k]? := by simp [Act.put, Ne.symm h]
theorem tmE (a : Act) (t : Nat) (v : Value) (h : t < a.tmps.size) : (a.put (some t) v).tmps[t]? = some v := by simp [Act.put, h]
theorem Fresh.sameB {w w' : World} {base n c g : Nat} {e : TypeId} {xs : List Value} (h : Fresh base e w (some ⟨g, 0, none⟩) n c xs) (hk : w'.heap[g]? = w.heap[g]?) : Fresh base e w' (some ⟨g, 0, none⟩) n c xs := by
  refine ⟨h.1, ?_⟩
  rcases h.2 with h3 | ⟨g', cap, cur, hv, hg, hh, hr⟩
  · exact .inl h3
  · have e : g = g' := by simpa using (Value.slice.inj hv).1
    subst e
    exact .inr ⟨g, cap, cur, hv, hg, by rw [hk]; exact hh, hr⟩
theorem RnTo.afterW {w3 w4 w5 : World} {A B : Option Addr} {c c2 : Nat} {S T : Fl} (h : RnTo w3 w4 A B c c2 S T) (y : Below w4.heap.size w4 w5) : RnTo w3 w5 A B c c2 S T := by
  refine ⟨h.at_.step y, ?_⟩
  rcases h.from_ with h1 | hR
  · exact .inl h1
  · exact .inr (hR.below y)
def wjJ (B0 : Nat) (w5 : World) (gr : Nat) (A : Option Addr) (c : Nat) (S T : Fl) (r : Nat) (low : UInt32) (listed : Array Bool) (act : Act) (W : World) : Prop :=
  Below B0 w5 W ∧ (∀ k, k < w5.heap.size → k ≠ gr → W.heap[k]? = w5.heap[k]?) ∧ (listed.getD 16 false = false → W.heap[gr]? = w5.heap[gr]?) ∧
  (listed.getD 12 false = true → ∃ g1, act.tmps[63]? = some (.slice (some ⟨g1, 0, none⟩) 1 1) ∧ Fresh w5.heap.size 75 W (some ⟨g1, 0, none⟩) 1 1 (cw [low])) ∧
  (listed.getD 13 false = true → ∃ B c8, act.tmps[64]? = some (.tuple #[.agg (T.rL B c8).toArray, .int .i64 (r : Int)]) ∧ RnTo w5 W A B c c8 S T ∧ (listed.getD 14 false = true → act.tmps[65]? = some (.agg (T.rL B c8).toArray)) ∧ (listed.getD 16 false = true → Fresh B0 30 W (some ⟨gr, 0, none⟩) 5 5 (T.rL B c8))) ∧
  (listed.getD 14 false = true → listed.getD 13 false = true) ∧ (listed.getD 16 false = true → listed.getD 14 false = true)
section
variable {B0 : Nat} {w5 W W' : World} {gr : Nat} {A : Option Addr} {c : Nat} {S T : Fl} {r : Nat} {low : UInt32} {listed : Array Bool} {act : Act}
theorem wjJ.start (w5 : World) (B0 gr : Nat) (A : Option Addr) (c : Nat) (S T : Fl) (r : Nat) (low : UInt32) (n : Nat) (a0 : Act) : wjJ B0 w5 gr A c S T r low (Array.replicate n false) a0 { w5 with drawn := w5.drawn + 1 } := by
  have hz : ∀ k, (Array.replicate n false).getD k false = false := fun k => by
    by_cases h : k < n <;> simp [h]
  refine ⟨⟨rfl, rfl, rfl, Nat.le_refl _, fun _ _ => rfl⟩, fun _ _ _ => rfl, fun _ => rfl, ?_, ?_, ?_, ?_⟩ <;> (intro h; rw [hz] at h; cases h)
theorem wjJ.other (H : wjJ B0 w5 gr A c S T r low listed act W) (i t : Nat) (v : Value) (h12 : i ≠ 12) (h13 : i ≠ 13) (h14 : i ≠ 14) (h16 : i ≠ 16) (t1 : t ≠ 63) (t2 : t ≠ 64) (t3 : t ≠ 65) : wjJ B0 w5 gr A c S T r low (listed.setIfInBounds i true) (act.put (some t) v) W := by
  obtain ⟨a1, a2, a3, a4, a5, a6, a7⟩ := H
  unfold wjJ
  rw [lsS _ _ _ (Ne.symm h12), lsS _ _ _ (Ne.symm h13), lsS _ _ _ (Ne.symm h14), lsS _ _ _ (Ne.symm h16), tmS _ _ _ _ (Ne.symm t1), tmS _ _ _ _ (Ne.symm t2), tmS _ _ _ _ (Ne.symm t3)]
  exact ⟨a1, a2, a3, a4, a5, a6, a7⟩
theorem wjJ.grow (H : wjJ B0 w5 gr A c S T r low listed act W) (hB : B0 ≤ w5.heap.size) (hg : gr < w5.heap.size) (y : Below W.heap.size W W') : wjJ B0 w5 gr A c S T r low listed act W' := by
  obtain ⟨a1, a2, a3, a4, a5, a6, a7⟩ := H
  have hs := a1.size
  refine ⟨a1.trans (y.mono (by omega)), fun k h1 h2 => (y.block k (by omega)).trans (a2 k h1 h2), fun h => (y.block gr (by omega)).trans (a3 h), fun h => ?_, fun h => ?_, a6, a7⟩
  · obtain ⟨g1, h1, h2⟩ := a4 h
    exact ⟨g1, h1, h2.below y⟩
  · obtain ⟨B, c8, h1, h2, h3, h4⟩ := a5 h
    exact ⟨B, c8, h1, h2.afterW y, h3, fun e => (h4 e).below y⟩
theorem wjJ.slice (H : wjJ B0 w5 gr A c S T r low listed act W) (h1 : listed.getD 12 true = false) (hl : 63 < act.tmps.size) (g1 : Nat) (hF : Fresh w5.heap.size 75 W (some ⟨g1, 0, none⟩) 1 1 (cw [low])) : wjJ B0 w5 gr A c S T r low (listed.setIfInBounds 12 true) (act.put (some 63) (.slice (some ⟨g1, 0, none⟩) 1 1)) W := by
  obtain ⟨a1, a2, a3, a4, a5, a6, a7⟩ := H
  unfold wjJ
  rw [lsS _ 12 13 (by decide), lsS _ 12 14 (by decide), lsS _ 12 16 (by decide), tmS _ _ 64 _ (by decide), tmS _ _ 65 _ (by decide)]
  exact ⟨a1, a2, a3, fun _ => ⟨g1, tmE _ _ _ hl, hF⟩, a5, a6, a7⟩
theorem wjJ.low13 (H : wjJ B0 w5 gr A c S T r low listed act W) (h1 : listed.getD 13 true = false) : listed.getD 14 false = false ∧ listed.getD 16 false = false := by
  obtain ⟨a1, a2, a3, a4, a5, a6, a7⟩ := H
  have h2 := (lsB h1).2
  have e14 : listed.getD 14 false = false := by
    cases e : listed.getD 14 false
    · rfl
    · rw [a6 e] at h2; cases h2
  refine ⟨e14, ?_⟩
  cases e : listed.getD 16 false
  · rfl
  · rw [a7 e] at e14; cases e14
theorem wjJ.wrote (H : wjJ B0 w5 gr A c S T r low listed act W) (h1 : listed.getD 13 true = false) (hl : 64 < act.tmps.size) {B : Option Addr} {c8 : Nat} (hT : RnTo w5 W A B c c8 S T) : wjJ B0 w5 gr A c S T r low (listed.setIfInBounds 13 true) (act.put (some 64) (.tuple #[.agg (T.rL B c8).toArray, .int .i64 (r : Int)])) W := by
  obtain ⟨n14, n16⟩ := H.low13 h1
  obtain ⟨a1, a2, a3, a4, a5, a6, a7⟩ := H
  unfold wjJ
  rw [lsS _ 13 12 (by decide), lsS _ 13 14 (by decide), lsS _ 13 16 (by decide), tmS _ _ 63 _ (by decide), tmS _ _ 65 _ (by decide), n14, n16]
  exact ⟨a1, a2, fun _ => a3 n16, a4, fun _ => ⟨B, c8, tmE _ _ _ hl, hT, fun e => (by cases e), fun e => (by cases e)⟩, fun e => (by cases e), fun e => (by cases e)⟩
theorem wjJ.part (H : wjJ B0 w5 gr A c S T r low listed act W) (h1 : listed.getD 14 true = false) (l13 : listed.getD 13 false = true) (hl : 65 < act.tmps.size) {V : Value} (hV : act.tmps[64]? = some V) : ∃ B c8, V = .tuple #[.agg (T.rL B c8).toArray, .int .i64 (r : Int)] ∧ wjJ B0 w5 gr A c S T r low (listed.setIfInBounds 14 true) (act.put (some 65) (.agg (T.rL B c8).toArray)) W := by
  obtain ⟨a1, a2, a3, a4, a5, a6, a7⟩ := H
  have n14 := (lsB h1).2
  have n16 : listed.getD 16 false = false := by
    cases e : listed.getD 16 false
    · rfl
    · rw [a7 e] at n14; cases n14
  obtain ⟨B, c8, b1, b2, b3, b4⟩ := a5 l13
  refine ⟨B, c8, by rw [hV] at b1; simpa using b1, ?_⟩
  unfold wjJ
  rw [lsS _ 14 12 (by decide), lsS _ 14 13 (by decide), lsS _ 14 16 (by decide), tmS _ _ 63 _ (by decide), tmS _ _ 64 _ (by decide), n16]
  exact ⟨a1, a2, fun _ => a3 n16, a4, fun _ => ⟨B, c8, b1, b2, fun _ => tmE _ _ _ hl, fun e => (by cases e)⟩, fun _ => l13, fun e => (by cases e)⟩
theorem wjJ.value (H : wjJ B0 w5 gr A c S T r low listed act W) (l13 : listed.getD 13 false = true) {V : Value} (hV : act.tmps[64]? = some V) : ∃ B c8, V = .tuple #[.agg (T.rL B c8).toArray, .int .i64 (r : Int)] := by
  obtain ⟨B, c8, b1, _⟩ := H.2.2.2.2.1 l13
  exact ⟨B, c8, by rw [hV] at b1; simpa using b1⟩
theorem wjJ.stored (H : wjJ B0 w5 gr A c S T r low listed act W) {w : World} (h : RnAt w A c S) (hB : B0 = w.heap.size) (hw : Below w.heap.size w w5) (h1 : listed.getD 16 true = false) (l14 : listed.getD 14 false = true) (hg : gr < w5.heap.size) {z : List Value} (hF : Fresh B0 30 w5 (some ⟨gr, 0, none⟩) 5 5 z) {V : Value} (hV : act.tmps[65]? = some V) :
    ∃ B c8, V = .agg (T.rL B c8).toArray ∧ Fresh B0 30 W (some ⟨gr, 0, none⟩) 5 5 z ∧ wjJ B0 w5 gr A c S T r low (listed.setIfInBounds 16 true) act (W.setRow gr (T.rL B c8).toArray) := by
  obtain ⟨a1, a2, a3, a4, a5, a6, a7⟩ := H
  obtain ⟨s16, n16⟩ := lsB h1
  obtain ⟨B, c8, b1, b2, b3, b4⟩ := a5 (a6 l14)
  have hFW := hF.sameB (a3 n16)
  have hgB : B0 ≤ gr := hF.block.2
  have ho : ∀ k, k ≠ gr → (W.setRow gr (T.rL B c8).toArray).heap[k]? = W.heap[k]? := fun k hk => setRow_other W gr k _ hk
  have hB9 : Below B0 w5 (W.setRow gr (T.rL B c8).toArray) := Below.setRow' a1 hgB _
  refine ⟨B, c8, by have := b3 l14; rw [hV] at this; simpa using this, hFW, ?_⟩
  unfold wjJ
  rw [lsS _ 16 12 (by decide), lsS _ 16 13 (by decide), lsS _ 16 14 (by decide), lsE _ _ s16]
  refine ⟨hB9, fun k k1 k2 => (ho k k2).trans (a2 k k1 k2), fun e => (by cases e), fun e => ?_, fun _ => ⟨B, c8, b1, ?_, b3, fun _ => hFW.setRow rfl⟩, a6, fun _ => l14⟩
  · obtain ⟨g1, c1, c2⟩ := a4 e
    refine ⟨g1, c1, c2.sameB (ho g1 ?_)⟩
    have := c2.block.2
    omega
  · subst hB
    have h9 : Below w.heap.size w (W.setRow gr (T.rL B c8).toArray) := hw.trans hB9
    rcases b2.from_ with ⟨rfl, rfl, e1, e2⟩ | hR
    · have h10 := h.step h9
      exact ⟨⟨by rw [e1]; exact h10.sees, by rw [e1, e2]; exact h10.len, by rw [e2]; exact h10.n_le, by rw [e2]; exact h10.cap⟩, .inl ⟨rfl, rfl, e1, e2⟩⟩
    · have hR9 : Fresh w5.heap.size 75 (W.setRow gr (T.rL B c8).toArray) B (64 * T.n) c8 (cw T.ws) := hR.apart fun k hk => ho k (by omega)
      exact ⟨⟨hR9.sees, b2.at_.len, b2.at_.n_le, b2.at_.cap⟩, .inr hR9⟩
end
end Go.Proofs.Ytcfjbllmaejiaaa

namespace Go.Proofs.Ytcfjbllmaejiaaa
open Go.RowKit
set_option linter.unusedVariables false
def Fl.rstep (S : Fl) (f : Nat) : Fl × Nat := if 2147483648 ≤ (S.tlook f).2.1 then (S, 5) else S.twrite f
theorem derase6_n (S : Fl) (f : Nat) (s : Int) : (S.derase f 2 s).1.n = S.n := by
  unfold Fl.derase
  split
  · rfl
  · unfold Fl.erase
    split
    · rfl
    · rfl
    · have hn : S.step.1.n = S.n := by
        unfold Fl.step
        split <;> first | rfl | (split <;> rfl)
      split
      · rename_i hs
        rw [hs] at hn
        exact hn
      · rename_i hs
        rw [hs] at hn
        exact hn
theorem derase6_left (S : Fl) (f : Nat) (s : Int) : (S.derase f 2 s).1.left ≤ S.left := by
  unfold Fl.derase
  split
  · exact Nat.le_refl _
  · unfold Fl.erase
    split
    · exact Nat.le_refl _
    · exact Nat.le_refl _
    · have hn := Fl.step_leftLe S
      split
      · rename_i hs
        rw [hs] at hn
        exact hn
      · rename_i hs
        rw [hs] at hn
        exact hn
theorem sees_cellU {w : World} {B G k : Nat} {l : List UInt32} {x : UInt32} (h : Sees w B (some ⟨G, 0, none⟩) (cw l)) (hx : l[k]? = some x) : w.cell? ⟨G, k, none⟩ = some (.int .u32 (x.toNat : Int)) := by
  have hp := (List.getElem?_eq_some_iff.1 hx).1
  obtain ⟨g, o, e, _, hc⟩ := h (by rw [List.length_map]; omega)
  obtain ⟨rfl, rfl⟩ : G = g ∧ 0 = o := by simpa using e
  have := hc k _ (by rw [List.getElem?_map, hx]; rfl)
  rwa [Nat.zero_add] at this
theorem bit_top {x : UInt32} (h : x ≠ 0) {e : Nat} (h1 : 2 ^ e ≤ x.toNat) (h2 : x.toNat < 2 * 2 ^ e) : (low32 x).toNat = x.toNat - 2 ^ e := by
  rw [low32_nat]
  have hb := bitLen_bounds 32 x.toNat (by decide) x.toNat_lt (ne0 h)
  obtain ⟨L, hL⟩ : ∃ L, Go.Lib.bitLen x.toNat - 1 = L := ⟨_, rfl⟩
  rw [hL] at hb ⊢
  have h3 : e < L + 1 := (Nat.pow_lt_pow_iff_right (a := 2) (by decide)).1 (by rw [Nat.pow_succ]; omega)
  have h4 : L < e + 1 := (Nat.pow_lt_pow_iff_right (a := 2) (by decide)).1 (by rw [Nat.pow_succ]; omega)
  rw [show e = L from by omega]
def rsF (G f a k ak σ : Nat) (c : Nat) (A : Option Addr) (S : Fl) (x : UInt32) (bt dG r : Nat) (k_ : Nat) (v : Value) (w : World) : Prop :=
  match k_ with
  | 0 => v = .agg (rdL (f : Int) 2).toArray
  | 1 => v = .agg (S.rL A c).toArray
  | 2 => v = .int .i64 (σ : Int)
  | 3 => v = .int .i64 (a : Int)
  | 4 => v = .int .i64 (k : Int)
  | 5 => v = .int .i64 (ak : Int)
  | 6 => v = .slice (some ⟨G, 0, none⟩) 64 dG
  | 7 => v = .int .i64 (k : Int)
  | 8 => v = .pointer (some ⟨G, k, none⟩)
  | 9 => v = .int .u32 (x.toNat : Int)
  | 10 => v = .int .u32 (bt : Int)
  | 11 => v = .int .u32 ((low32 x).toNat : Int)
  | 15 => v = .int .i64 (r : Int)
  | 17 => v = .int .i64 (r : Int)
  | _ => True

section
variable {w : World} {A : Option Addr} {c : Nat} {S : Fl}
set_option maxHeartbeats 8000000 in
set_option maxRecDepth 100000 in
theorem rStep_any (h : RnAt w A c S) (hd : S.down = false) (hl2 : S.left < 9223372036854775808) (f : Nat) (hf : f + 2 ≤ S.n) (T : Fl) (r : Nat) (hr : S.rstep f = (T, r)) :
    Calls Try.prog 10 #[.agg (rdL (f : Int) 2).toArray, .agg (S.rL A c).toArray] w fun e w' => ∃ B c2, e = .returned (.tuple #[.agg (T.rL B c2).toArray, .int .i64 (r : Int)]) ∧ RnTo w w' A B c c2 S T ∧ Below w.heap.size w w' := by
  have hn := h.n_le
  have NO : ∀ w', Below w.heap.size w w' → RnTo w w' A A c c S S := fun w' x => ⟨h.step x, .inl ⟨rfl, rfl, rfl, rfl⟩⟩
  have HL2 := Lib.hid hl2
  obtain ⟨s, cn, l, hlk⟩ : ∃ s cn l, S.tlook f = (s, cn, l) := ⟨_, _, _, rfl⟩
  have hTwo : Two S f := ⟨hf, h.len⟩
  obtain ⟨hll, hcn, hs3⟩ := look_len hTwo hlk
  have HL : Hid (∀ w', Below w.heap.size w w' → Calls Try.prog 19 #[.agg (rdL (f : Int) 2).toArray, .agg (S.rL A c).toArray] w' fun e w2 => e = .returned (.tuple #[.int .i64 s, .int .i64 (cn : Int)]) ∧ Below w'.heap.size w' w2) := Lib.hid fun w' x => rLook_any (h.step x) f hf s (cn : Int) (by simp [Fl.rlook, hd, hlk])
  unfold Fl.rstep at hr
  rw [hlk] at hr
  simp only at hr
  by_cases hfull : 2147483648 ≤ cn
  · rw [if_pos hfull] at hr
    obtain ⟨rfl, rfl⟩ : S = T ∧ 5 = r := by simpa using hr
    have d0 : decide ((2147483648 : Int) ≤ (cn : Int)) = true := by simp; omega
    clear hr hlk hll hs3 hl2 hTwo
    go_enter Try.func10, Try.ntmps10
    go_wp2_with (first
      | (with_reducible refine wpList_box (o := ⟨some 2, _, _, _, _, _⟩) rfl (.tmp 0) 35 rfl (rdL (f : Int) 2) rfl 2 rfl (by decide) ?_; intro g w1 hg hF hB; have z1 := hB.size; have lg := hF.lt_size)
      | (with_reducible refine wpList_box (o := ⟨some 3, _, _, _, _, _⟩) rfl (.tmp 1) 30 rfl (S.rL A c) rfl 5 rfl (by decide) ?_; intro gn w2 hgn hFn hBn; have z2 := hBn.size; have lgn := hFn.lt_size; have hF2 := hF.below hBn; have hB2 := Below.then_ hB hBn)
      | (with_reducible refine wpList_alloc (o := ⟨some 4, _, _, _, _, _⟩) rfl 30 rfl (rnL none 0 0 0 0 false 0) (by kernel_rfl) 5 rfl (by decide) ?_; intro gr w3 hgr hFr hBr; have z3 := hBr.size; have lgr := hFr.lt_size; have hF3 := hF2.below hBr; have hFn3 := hFn.below hBr; have hB3 := Below.then_ hB2 hBr)
      | (with_reducible refine wpList_load (o := ⟨some 16, _, _, _, _, _⟩) rfl (.tmp 2) 35 rfl g 0 _ rfl (rdL (f : Int) 2) 2 rfl (by kernel_rfl) hF3.sees ?_)
      | (with_reducible refine wpList_load (o := ⟨some 17, _, _, _, _, _⟩) rfl (.tmp 3) 30 rfl gn 0 _ rfl (S.rL A c) 5 rfl (by kernel_rfl) hFn3.sees ?_)
      | (go_at_call 19; refine (HL.out _ hB3).mono ?_; rintro e w4 ⟨rfl, hB4⟩; have z4 := hB4.size; have hF4 := hF3.below hB4; have hFn4 := hFn3.below hB4; have hR4 := hFr.below hB4; have hB04 := Below.then_ hB3 hB4; have hng : gn ≠ g := (by omega); have hnr : gn ≠ gr := (by omega); have hrg : gr ≠ g := (by omega))
      | (with_reducible refine wpList_load (o := ⟨some 23, _, _, _, _, _⟩) rfl (.tmp 3) 30 rfl gn 0 _ rfl (S.rL A c) 5 rfl (by kernel_rfl) hFn4.sees ?_)
      | (with_reducible refine wpList_store rfl rfl (.tmp 4) (.tmp 23) 30 rfl gr 0 _ 30 5 (rnL none 0 0 0 0 false 0) (S.rL A c) rfl rfl 5 rfl (by kernel_rfl) hR4 (by omega) (allOne_out (by kernel_rfl)) w hB04 (by omega) ?_; intro w9 hF9 hB9 ho9 _))
    exact bodyPost_cellt rfl rfl (.int .i64 5) rfl (S.rL A c) 5 rfl (by kernel_rfl) hF9.sees rfl ⟨A, c, rfl, NO _ hB9, hB9⟩
  · rw [if_neg hfull] at hr
    have d0 : decide ((2147483648 : Int) ≤ (cn : Int)) = false := by simp; omega
    have hr4 : (if s = -1 then S.tbegin f 0 (cn + 1) else match restL l with
      | none => S.tbegin f (1 - s).toNat (cn + 1)
      | some k => S.dwrite f 2 (64 * s + (k : Int)) [low32 (l.getD k 0)]) = (T, r) := by
      have := hr
      unfold Fl.twrite at this
      rw [hlk] at this
      exact this
    clear hr NO
    by_cases hs1 : s = -1
    · subst hs1
      have hrb : S.tbegin f 0 (cn + 1) = (T, r) := by simpa using hr4
      have hdn := derase6_n S f (0 : Int)
      have hdl := derase6_left S f (0 : Int)
      obtain ⟨T1, q, hT1⟩ : ∃ T1 q, S.derase f 2 (0 : Int) = (T1, q) := ⟨_, _, rfl⟩
      rw [hT1] at hdn hdl
      replace hdn : T1.n = S.n := hdn
      replace hdl : T1.left ≤ S.left := hdl
      have HE : Hid (∀ w', Below w.heap.size w w' → Calls Try.prog 57 #[.agg (rdL (f : Int) 2).toArray, .agg (S.rL A c).toArray, .int .i64 (0 : Int)] w' fun e w2 => ∃ B c2, e = .returned (.tuple #[.agg (T1.rL B c2).toArray, .int .i64 (q : Int)]) ∧ RnTo w' w2 A B c c2 S T1 ∧ Below w'.heap.size w' w2) := Lib.hid fun w' x => rdErase_any (h.step x) HL2.out f 2 (by omega) (0 : Int) (by omega) T1 q hT1
      have HTN : Hid (T1.n = S.n) := Lib.hid hdn
      have HTL : Hid (T1.left < 9223372036854775808) := Lib.hid (by have := HL2.out; omega)
      obtain ⟨c1, hc1⟩ : ∃ c1, cn + 1 = c1 := ⟨_, rfl⟩
      obtain ⟨nc, hnc⟩ : ∃ nc, 4294967295 - c1 = nc := ⟨_, rfl⟩
      have HE2 : Hid ((∃ z, q = z + 1 ∧ T1 = T ∧ z + 1 = r) ∨ (q = 0 ∧ T1.dwrite f 2 (0 : Int) (base2 c1) = (T, r))) := Lib.hid (by
        have hr3 : S.tbegin f 0 (cn + 1) = (T, r) := hrb
        unfold Fl.tbegin at hr3
        have hT1' : S.derase f 2 ((0 : Nat) : Int) = (T1, q) := hT1
        rw [hT1'] at hr3
        cases q with
        | zero =>
          right
          refine ⟨rfl, ?_⟩
          have e9 : (64 : Int) * ((0 : Nat) : Int) = 0 := rfl
          simp only [e9] at hr3
          rw [← hc1]
          exact hr3
        | succ z =>
          left
          simp only [Prod.mk.injEq] at hr3
          exact ⟨z, rfl, hr3.1, hr3.2⟩)
      have HCW : Hid (cw (base2 c1) = [.int .u32 (c1 : Int), .int .u32 (nc : Int)]) := Lib.hid (by
        simp only [base2, cw, List.map_cons, List.map_nil, (base2_nat (c := c1) (by omega)).1, (base2_nat (c := c1) (by omega)).2]
        rw [hnc])
      have e1 : IntKind.i64.wrap ((cn : Int) + 1) = (c1 : Int) := by rw [IntKind.wrap_i64]; omega
      have e2 : IntKind.u32.wrap (c1 : Int) = (c1 : Int) := by rw [IntKind.wrap_u32]; omega
      have e3 : IntKind.u32.wrap (4294967295 - (c1 : Int)) = (nc : Int) := by rw [IntKind.wrap_u32]; omega
      have e4 : IntKind.i64.wrap ((0 : Int) * 64) = 0 := by rw [IntKind.wrap_i64]; omega
      clear hdn hdl hT1 hrb hc1 hnc
      clear hr4 hlk hll hs3 hl2 hTwo
      rcases HE2.out with ⟨z, rfl, rfl, rfl⟩ | ⟨rfl, hr2⟩
      · have h0 : ¬ (((z + 1 : Nat) : Int) = 0) := by omega
        go_enter Try.func10, Try.ntmps10
        go_wp2_with (first
          | (with_reducible refine wpList_box (o := ⟨some 2, _, _, _, _, _⟩) rfl (.tmp 0) 35 rfl (rdL (f : Int) 2) rfl 2 rfl (by decide) ?_; intro g w1 hg hF hB; have z1 := hB.size; have lg := hF.lt_size)
          | (with_reducible refine wpList_box (o := ⟨some 3, _, _, _, _, _⟩) rfl (.tmp 1) 30 rfl (S.rL A c) rfl 5 rfl (by decide) ?_; intro gn w2 hgn hFn hBn; have z2 := hBn.size; have lgn := hFn.lt_size; have hF2 := hF.below hBn; have hB2 := Below.then_ hB hBn)
          | (with_reducible refine wpList_alloc (o := ⟨some 4, _, _, _, _, _⟩) rfl 30 rfl (rnL none 0 0 0 0 false 0) (by kernel_rfl) 5 rfl (by decide) ?_; intro gr w3 hgr hFr hBr; have z3 := hBr.size; have lgr := hFr.lt_size; have hF3 := hF2.below hBr; have hFn3 := hFn.below hBr; have hB3 := Below.then_ hB2 hBr)
          | (with_reducible refine wpList_load (o := ⟨some 16, _, _, _, _, _⟩) rfl (.tmp 2) 35 rfl g 0 _ rfl (rdL (f : Int) 2) 2 rfl (by kernel_rfl) hF3.sees ?_)
          | (with_reducible refine wpList_load (o := ⟨some 17, _, _, _, _, _⟩) rfl (.tmp 3) 30 rfl gn 0 _ rfl (S.rL A c) 5 rfl (by kernel_rfl) hFn3.sees ?_)
          | (go_at_call 19; refine (HL.out _ hB3).mono ?_; rintro e w4 ⟨rfl, hB4⟩; have z4 := hB4.size; have hF4 := hF3.below hB4; have hFn4 := hFn3.below hB4; have hR4 := hFr.below hB4; have hB04 := Below.then_ hB3 hB4; have hng : gn ≠ g := (by omega); have hnr : gn ≠ gr := (by omega); have hrg : gr ≠ g := (by omega))
          | (with_reducible refine wpList_load (o := ⟨some 70, _, _, _, _, _⟩) rfl (.tmp 2) 35 rfl g 0 _ rfl (rdL (f : Int) 2) 2 rfl (by kernel_rfl) hF4.sees ?_)
          | (with_reducible refine wpList_load (o := ⟨some 71, _, _, _, _, _⟩) rfl (.tmp 3) 30 rfl gn 0 _ rfl (S.rL A c) 5 rfl (by kernel_rfl) hFn4.sees ?_)
          | (go_at_call 57; refine (HE.out _ hB04).mono ?_; rintro e we ⟨Be, ce, rfl, hTe, hBe⟩; have hFe := hF4.below hBe; have hFne := hFn4.below hBe; have hRe := hR4.below hBe; have hB0e := Below.then_ hB04 hBe; have ze := hBe.size; have ze0 := hB04.size)
          | (with_reducible refine wpList_store rfl rfl (.tmp 3) (.tmp 74) 30 rfl gn 0 _ 30 5 (S.rL A c) (T1.rL Be ce) rfl rfl 5 rfl (by kernel_rfl) hFne (by omega) (allOne_out (by kernel_rfl)) w hB0e (by omega) ?_; intro ws hFns hB0s hos _; have hFs := hFe.other (Ne.symm hng) hos; have hRs := hRe.other (Ne.symm hnr) hos; have hTs := RnTo.over h hB0s hTe (by omega) hos)
          | (with_reducible refine wpList_load (o := ⟨some 78, _, _, _, _, _⟩) rfl (.tmp 3) 30 rfl gn 0 _ rfl (T1.rL Be ce) 5 rfl (by kernel_rfl) hFns.sees ?_)
          | (with_reducible refine wpList_store rfl rfl (.tmp 4) (.tmp 78) 30 rfl gr 0 _ 30 5 (rnL none 0 0 0 0 false 0) (T1.rL Be ce) rfl rfl 5 rfl (by kernel_rfl) hRs (by omega) (allOne_out (by kernel_rfl)) w hB0s (by omega) ?_; intro w9 hF9 hB9 ho9 _))
        exact bodyPost_cellt rfl rfl (.int .i64 ((z + 1 : Nat) : Int)) rfl (T1.rL Be ce) 5 rfl (by kernel_rfl) hF9.sees rfl ⟨Be, ce, rfl, RnTo.shut h hTs hB9 hB04.size (by omega) ho9, hB9⟩
      · have HR := Lib.hid hr2
        clear hr2
        go_enter Try.func10, Try.ntmps10
        go_wp2_with (first
          | (with_reducible refine wpList_box (o := ⟨some 2, _, _, _, _, _⟩) rfl (.tmp 0) 35 rfl (rdL (f : Int) 2) rfl 2 rfl (by decide) ?_; intro g w1 hg hF hB; have z1 := hB.size; have lg := hF.lt_size)
          | (with_reducible refine wpList_box (o := ⟨some 3, _, _, _, _, _⟩) rfl (.tmp 1) 30 rfl (S.rL A c) rfl 5 rfl (by decide) ?_; intro gn w2 hgn hFn hBn; have z2 := hBn.size; have lgn := hFn.lt_size; have hF2 := hF.below hBn; have hB2 := Below.then_ hB hBn)
          | (with_reducible refine wpList_alloc (o := ⟨some 4, _, _, _, _, _⟩) rfl 30 rfl (rnL none 0 0 0 0 false 0) (by kernel_rfl) 5 rfl (by decide) ?_; intro gr w3 hgr hFr hBr; have z3 := hBr.size; have lgr := hFr.lt_size; have hF3 := hF2.below hBr; have hFn3 := hFn.below hBr; have hB3 := Below.then_ hB2 hBr)
          | (with_reducible refine wpList_load (o := ⟨some 16, _, _, _, _, _⟩) rfl (.tmp 2) 35 rfl g 0 _ rfl (rdL (f : Int) 2) 2 rfl (by kernel_rfl) hF3.sees ?_)
          | (with_reducible refine wpList_load (o := ⟨some 17, _, _, _, _, _⟩) rfl (.tmp 3) 30 rfl gn 0 _ rfl (S.rL A c) 5 rfl (by kernel_rfl) hFn3.sees ?_)
          | (go_at_call 19; refine (HL.out _ hB3).mono ?_; rintro e w4 ⟨rfl, hB4⟩; have z4 := hB4.size; have hF4 := hF3.below hB4; have hFn4 := hFn3.below hB4; have hR4 := hFr.below hB4; have hB04 := Below.then_ hB3 hB4; have hng : gn ≠ g := (by omega); have hnr : gn ≠ gr := (by omega); have hrg : gr ≠ g := (by omega))
          | (with_reducible refine wpList_load (o := ⟨some 70, _, _, _, _, _⟩) rfl (.tmp 2) 35 rfl g 0 _ rfl (rdL (f : Int) 2) 2 rfl (by kernel_rfl) hF4.sees ?_)
          | (with_reducible refine wpList_load (o := ⟨some 71, _, _, _, _, _⟩) rfl (.tmp 3) 30 rfl gn 0 _ rfl (S.rL A c) 5 rfl (by kernel_rfl) hFn4.sees ?_)
          | (go_at_call 57; refine (HE.out _ hB04).mono ?_; rintro e we ⟨Be, ce, rfl, hTe, hBe⟩; have hFe := hF4.below hBe; have hFne := hFn4.below hBe; have hRe := hR4.below hBe; have hB0e := Below.then_ hB04 hBe; have ze := hBe.size; have ze0 := hB04.size)
          | (with_reducible refine wpList_store rfl rfl (.tmp 3) (.tmp 74) 30 rfl gn 0 _ 30 5 (S.rL A c) (T1.rL Be ce) rfl rfl 5 rfl (by kernel_rfl) hFne (by omega) (allOne_out (by kernel_rfl)) w hB0e (by omega) ?_; intro ws hFns hB0s hos _; have hFs := hFe.other (Ne.symm hng) hos; have hRs := hRe.other (Ne.symm hnr) hos; have hTs := RnTo.over h hB0s hTe (by omega) hos)
          | (with_reducible refine wpList_load (o := ⟨some 83, _, _, _, _, _⟩) rfl (.tmp 2) 35 rfl g 0 _ rfl (rdL (f : Int) 2) 2 rfl (by kernel_rfl) hFs.sees ?_)
          | (with_reducible refine wpList_load (o := ⟨some 84, _, _, _, _, _⟩) rfl (.tmp 3) 30 rfl gn 0 _ rfl (T1.rL Be ce) 5 rfl (by kernel_rfl) hFns.sees ?_))
        have hFw0 := Fresh.new ws 75 [.int .u32 (c1 : Int), .int .u32 (nc : Int)] 2 rfl (by decide)
        have hFw : Fresh ws.heap.size 75 (ws.alloc (.cells #[.int .u32 (c1 : Int), .int .u32 (nc : Int)] 75 (0, 0))) (some ⟨ws.heap.size, 0, none⟩) 2 2 (cw (base2 c1)) := by
          rw [HCW.out]
          exact hFw0
        have hBw := below_alloc ws (.cells #[.int .u32 (c1 : Int), .int .u32 (nc : Int)] 75 (0, 0))
        clear hFw0
        have hT1w := (hTs.at_.step hBw)
        have hRw := hRs.below hBw
        have hB0w := Below.then_ hB0s hBw
        have zw := hBw.size
        have zs := hB0s.size
        go_wp2_with (first
          | (go_at_call 56; refine (rdWrite_any hT1w HTL.out f 2 (by rw [HTN.out]; exact hf) (0 : Int) (by omega) (some ⟨ws.heap.size, 0, none⟩) 2 2 (Nat.le_refl _) (by decide) (base2 c1) hFw.sees rfl T r HR.out).mono ?_; rintro e w8 ⟨B8, c8, rfl, hT8, hB8⟩; have hR8 := hRw.below hB8; have hB08 := Below.then_ hB0w hB8; have z8 := hB8.size)
          | (with_reducible refine wpList_store rfl rfl (.tmp 4) (.tmp 92) 30 rfl gr 0 _ 30 5 (rnL none 0 0 0 0 false 0) (T.rL B8 c8) rfl rfl 5 rfl (by kernel_rfl) hR8 (by omega) (allOne_out (by kernel_rfl)) w hB08 (by omega) ?_; intro w9 hF9 hB9 ho9 _))
        have hT48 := RnTo.then_ (hTs.after hBw) hB8 (by omega) hT8
        exact bodyPost_cellt rfl rfl (.int .i64 (r : Int)) rfl (T.rL B8 c8) 5 rfl (by kernel_rfl) hF9.sees rfl ⟨B8, c8, rfl, RnTo.shut h hT48 hB9 hB04.size (by omega) ho9, hB9⟩
    · obtain ⟨σ, rfl, hσ⟩ : ∃ σ : Nat, s = (σ : Int) ∧ σ < 2 := by
        rcases hs3 with e | e | e
        · exact absurd e hs1
        · exact ⟨0, e, by omega⟩
        · exact ⟨1, e, by omega⟩
      rw [if_neg hs1] at hr4
      have hsec : S.sec f σ = l := by
        rcases look_at hlk with ⟨e, _⟩ | ⟨e, e2, _⟩ | ⟨e, e2, _⟩
        · omega
        · obtain rfl : σ = 0 := by omega
          exact e2.symm
        · obtain rfl : σ = 1 := by omega
          exact e2.symm
      obtain ⟨a, ha⟩ : ∃ a, 64 * σ = a := ⟨_, rfl⟩
      have ea : IntKind.i64.wrap ((σ : Int) * 64) = (a : Int) := by rw [IntKind.wrap_i64]; omega
      have HRd : Hid (∀ w', Below w.heap.size w w' → Calls Try.prog 55 #[.agg (rdL (f : Int) 2).toArray, .agg (S.rL A c).toArray, .int .i64 (a : Int), .int .i64 64] w' fun e w2 => ∃ B d, e = .returned (.tuple #[.slice B 64 d, .int .i64 0]) ∧ Fresh w'.heap.size 75 w2 B 64 d (cw l) ∧ Below w'.heap.size w' w2) := Lib.hid fun w' x => by
        have h5 := rdRead_ok (h.step x) hd f 2 a 64 hf (by omega)
        rw [← ha, show S.at_ f (64 * σ) 64 = l from hsec, ha] at h5
        exact h5
      have d5 : decide ((0 : Int) ≤ (σ : Int)) = true := by simp
      have HLL := Lib.hid hll
      have HR4 := Lib.hid hr4
      clear hr4 hlk hs3 hl2 hTwo hsec hs1 hll
      go_enter Try.func10, Try.ntmps10
      go_wp2_with (first
        | (with_reducible refine wpList_box (o := ⟨some 2, _, _, _, _, _⟩) rfl (.tmp 0) 35 rfl (rdL (f : Int) 2) rfl 2 rfl (by decide) ?_; intro g w1 hg hF hB; have z1 := hB.size; have lg := hF.lt_size)
        | (with_reducible refine wpList_box (o := ⟨some 3, _, _, _, _, _⟩) rfl (.tmp 1) 30 rfl (S.rL A c) rfl 5 rfl (by decide) ?_; intro gn w2 hgn hFn hBn; have z2 := hBn.size; have lgn := hFn.lt_size; have hF2 := hF.below hBn; have hB2 := Below.then_ hB hBn)
        | (with_reducible refine wpList_alloc (o := ⟨some 4, _, _, _, _, _⟩) rfl 30 rfl (rnL none 0 0 0 0 false 0) (by kernel_rfl) 5 rfl (by decide) ?_; intro gr w3 hgr hFr hBr; have z3 := hBr.size; have lgr := hFr.lt_size; have hF3 := hF2.below hBr; have hFn3 := hFn.below hBr; have hB3 := Below.then_ hB2 hBr)
        | (with_reducible refine wpList_load (o := ⟨some 16, _, _, _, _, _⟩) rfl (.tmp 2) 35 rfl g 0 _ rfl (rdL (f : Int) 2) 2 rfl (by kernel_rfl) hF3.sees ?_)
        | (with_reducible refine wpList_load (o := ⟨some 17, _, _, _, _, _⟩) rfl (.tmp 3) 30 rfl gn 0 _ rfl (S.rL A c) 5 rfl (by kernel_rfl) hFn3.sees ?_)
        | (go_at_call 19; refine (HL.out _ hB3).mono ?_; rintro e w4 ⟨rfl, hB4⟩; have z4 := hB4.size; have hF4 := hF3.below hB4; have hFn4 := hFn3.below hB4; have hR4 := hFr.below hB4; have hB04 := Below.then_ hB3 hB4; have hng : gn ≠ g := (by omega); have hnr : gn ≠ gr := (by omega); have hrg : gr ≠ g := (by omega))
        | (with_reducible refine wpList_load (o := ⟨some 27, _, _, _, _, _⟩) rfl (.tmp 2) 35 rfl g 0 _ rfl (rdL (f : Int) 2) 2 rfl (by kernel_rfl) hF4.sees ?_)
        | (with_reducible refine wpList_load (o := ⟨some 28, _, _, _, _, _⟩) rfl (.tmp 3) 30 rfl gn 0 _ rfl (S.rL A c) 5 rfl (by kernel_rfl) hFn4.sees ?_)
        | (go_at_call 55; refine (HRd.out _ hB04).mono ?_; rintro e w5 ⟨Bq, dG, rfl, hGq, hB5⟩; obtain ⟨G, rfl, hG1, hG2⟩ := hGq.spot_ (by omega); have z5 := hB5.size; have hF5 := hF4.below hB5; have hFn5 := hFn4.below hB5; have hR5 := hR4.below hB5; have hB05 := Below.then_ hB04 hB5))
      clear hF hFn hFr hF2 hF3 hFn3 hB hBn hBr hB2 hB3 hB4 hF4 hFn4 hR4
      have hG5 := hGq
      clear hGq hB5
      go_loopw [10] (fun i wr => ∃ j : Nat, j ≤ 62 ∧ i = .int .i64 ((2 + j : Nat) : Int) ∧ Hid ((firstNz (l.drop (2 + j))).map (· + (2 + j)) = restL l) ∧ wr = w5) (fun i _ => 64 - (intOf i).toNat)
      case atStart => exact ⟨0, Nat.zero_le _, rfl, Lib.hid rfl, rfl⟩
      case round =>
        obtain ⟨j, hj, rfl, HJ, hwr⟩ := hrel
        replace hwr := hwr.symm
        subst hwr
        by_cases hlt : j < 62
        · obtain ⟨x, hx⟩ : ∃ x, l[2 + j]? = some x := ⟨_, List.getElem?_eq_getElem (by rw [HLL.out]; omega)⟩
          have kc : w5.cell? ⟨G, 2 + j, none⟩ = some (.int .u32 (x.toNat : Int)) := sees_cellU hG5.sees hx
          have hfd := firstNz_drop l (2 + j) x hx
          by_cases hx0 : x = 0
          · rw [if_pos hx0] at hfd
            have hx1 : x.toNat = 0 := by rw [hx0]; rfl
            have HJ2 : Hid ((firstNz (l.drop (2 + (j + 1)))).map (· + (2 + (j + 1))) = restL l) := Lib.hid (by
              rw [← HJ.out, hfd, Option.map_map]
              congr 1
              funext y
              simp only [Function.comp]
              omega)
            rw [hx1] at kc
            clear hfd hx0 hx HJ hx1
            go_wp2_with fail
            go_roundw
            case rel => exact ⟨j + 1, by omega, by go_num, HJ2, (by first | rfl | trivial)⟩
            case measure => simp [intOf]; omega
          · rw [if_neg hx0] at hfd
            obtain ⟨k, hk⟩ : ∃ k, 2 + j = k := ⟨_, rfl⟩
            have hres : restL l = some k := by
              rw [← HJ.out, hfd, ← hk]
              simp
            have hxk : l.getD k 0 = x := by
              rw [← hk, List.getD_eq_getElem?_getD, hx]
              rfl
            have hr5 := HR4.out
            rw [hres] at hr5
            simp only [hxk] at hr5
            obtain ⟨ak, hak⟩ : ∃ ak, a + k = ak := ⟨_, rfl⟩
            have HR : Hid (S.dwrite f 2 (ak : Int) [low32 x] = (T, r)) := Lib.hid (by
              rw [← hr5, ← hak, ← ha]
              congr 1)
            have hxn : ¬ ((x.toNat : Int) = 0) := by
              intro e
              exact hx0 (UInt32.toNat_inj.1 (by rw [show x.toNat = 0 from by omega]; rfl))
            rw [hk] at hx kc
            have HX := Lib.hid hx
            have HX0 := Lib.hid hx0
            have hxl := x.toNat_lt
            have hk64 : k < 64 := by omega
            have eak : IntKind.i64.wrap ((a : Int) + (k : Int)) = (ak : Int) := by rw [IntKind.wrap_i64]; omega
            rw [show ((2 + j : Nat) : Int) = (k : Int) from by rw [hk]]
            clear hfd hres hxk hr5 HJ hx hx0 HR4
            go_wp2_with fail
            go_loopw [11] (fun u wi => ∃ e bt : Nat, e ≤ 31 ∧ Hid (2 ^ e = bt) ∧ bt ≤ 2147483648 ∧ u = .int .u32 (bt : Int) ∧ x.toNat < 2 * bt ∧ wi = w5) (fun u _ => (intOf u).toNat)
            case atStart => exact ⟨31, 2147483648, Nat.le_refl _, Lib.hid rfl, Nat.le_refl _, rfl, by omega, rfl⟩
            case round =>
              obtain ⟨e, bt, he, HB, hbl, rfl, hxb, hwr⟩ := hrel
              replace hwr := hwr.symm
              subst hwr
              by_cases hlb : x.toNat < bt
              · have d7 : decide ((x.toNat : Int) < (bt : Int)) = true := by simp; omega
                obtain ⟨e', rfl⟩ : ∃ e', e = e' + 1 := by
                  cases e with
                  | zero =>
                    have := HB.out
                    simp at this
                    omega
                  | succ e' => exact ⟨e', rfl⟩
                obtain ⟨b2, hb2⟩ : ∃ b2, bt / 2 = b2 := ⟨_, rfl⟩
                have hb3 : bt = 2 * b2 := by
                  have := HB.out
                  rw [Nat.pow_succ] at this
                  omega
                have HB2 : Hid (2 ^ e' = b2) := Lib.hid (by
                  have := HB.out
                  rw [Nat.pow_succ] at this
                  omega)
                have q1 : Int.tdiv (bt : Int) 2 = (b2 : Int) := by rw [Int.tdiv_eq_ediv_of_nonneg (by omega)]; omega
                have q2 : IntKind.u32.wrap (b2 : Int) = (b2 : Int) := by rw [IntKind.wrap_u32]; omega
                have q3 : (bt : Int) / 2 = (b2 : Int) := by omega
                go_wp2_with fail
                go_roundw
                case rel => exact ⟨e', b2, by omega, HB2, by omega, by go_num, by omega, (by first | rfl | trivial)⟩
                case measure => simp [intOf]; omega
              · have d7 : decide ((x.toNat : Int) < (bt : Int)) = false := by simp; omega
                have hlow : (low32 x).toNat = x.toNat - bt := by
                  have := bit_top HX0.out (e := e) (by rw [HB.out]; omega) (by rw [HB.out]; omega)
                  rwa [HB.out] at this
                have esub : IntKind.u32.wrap ((x.toNat : Int) - (bt : Int)) = ((low32 x).toNat : Int) := by rw [IntKind.wrap_u32]; omega
                have hbs : w.heap.size ≤ w5.heap.size := hB05.size
                go_wp2_with fail
                have lg5 : g < w5.heap.size := hF5.lt_size
                have lgn5 : gn < w5.heap.size := hFn5.lt_size
                have lgr5 : gr < w5.heap.size := hR5.lt_size
                have lG5 : G < w5.heap.size := hG2
                have hGr : G ≠ gr := by omega
                refine region_L (rsF G f a k ak σ c A S x bt dG r) (wjJ w.heap.size w5 gr A c S T r (low32 x)) (by kernel_rfl) (by kernel_rfl) (wjJ.start _ _ _ _ _ _ _ _ _ _ _) ?_ ?_
                · refine ⟨?_, ?_, ?_, ?_, ?_, ?_, ?_, ?_, ?_, ?_, ?_, ?_, ?_, ?_, ?_, ?_, ?_, ?_, trivial⟩
                  all_goals intro listed a1 w' hk h1 hd
                  · exact stepL_value rfl (run_load_agg (.tmp 2) 35 rfl (hk.ev_old 2 (by kernel_rfl)) (rdL (f : Int) 2) 2 rfl (by kernel_rfl) (hF5.sameB (hk.inv.2.1 g lg5 (Ne.symm hrg))).sees) rfl (hk.inv.other 0 51 _ (by decide) (by decide) (by decide) (by decide) (by decide) (by decide) (by decide))
                  · exact stepL_value rfl (run_load_agg (.tmp 3) 30 rfl (hk.ev_old 3 (by kernel_rfl)) (S.rL A c) 5 rfl (by kernel_rfl) (hFn5.sameB (hk.inv.2.1 gn lgn5 hnr)).sees) rfl (hk.inv.other 1 52 _ (by decide) (by decide) (by decide) (by decide) (by decide) (by decide) (by decide))
                  · have f6_ : a1.eval (.tmp 6) = .int .i64 (σ : Int) := hk.ev_old 6 (by kernel_rfl)
                    have g6_ : a1.tmps[6]?.getD undef = .int .i64 (σ : Int) := by simpa [Act.eval] using f6_
                    exact stepL_value rfl (v := .int .i64 (σ : Int)) (by go_simp) rfl (hk.inv.other 2 53 _ (by decide) (by decide) (by decide) (by decide) (by decide) (by decide) (by decide))
                  · obtain ⟨y2, e2, q2, rfl, l2⟩ := hk.ev_new hd 2 53 (by kernel_rfl) rfl
                    exact stepL_value rfl (v := .int .i64 (a : Int)) (by go_simp) rfl (hk.inv.other 3 54 _ (by decide) (by decide) (by decide) (by decide) (by decide) (by decide) (by decide))
                  · have f10_ : a1.eval (.tmp 10) = .int .i64 (k : Int) := hk.ev_old 10 (by kernel_rfl)
                    have g10_ : a1.tmps[10]?.getD undef = .int .i64 (k : Int) := by simpa [Act.eval] using f10_
                    exact stepL_value rfl (v := .int .i64 (k : Int)) (by go_simp) rfl (hk.inv.other 4 55 _ (by decide) (by decide) (by decide) (by decide) (by decide) (by decide) (by decide))
                  · obtain ⟨y3, e3, q3, rfl, l3⟩ := hk.ev_new hd 3 54 (by kernel_rfl) rfl
                    obtain ⟨y4, e4, q4, rfl, l4⟩ := hk.ev_new hd 4 55 (by kernel_rfl) rfl
                    exact stepL_value rfl (v := .int .i64 (ak : Int)) (by go_simp) rfl (hk.inv.other 5 56 _ (by decide) (by decide) (by decide) (by decide) (by decide) (by decide) (by decide))
                  · have f8_ : a1.eval (.tmp 8) = .slice (some ⟨G, 0, none⟩) 64 dG := hk.ev_old 8 (by kernel_rfl)
                    have g8_ : a1.tmps[8]?.getD undef = .slice (some ⟨G, 0, none⟩) 64 dG := by simpa [Act.eval] using f8_
                    exact stepL_value rfl (v := .slice (some ⟨G, 0, none⟩) 64 dG) (by go_simp) rfl (hk.inv.other 6 57 _ (by decide) (by decide) (by decide) (by decide) (by decide) (by decide) (by decide))
                  · have f10_ : a1.eval (.tmp 10) = .int .i64 (k : Int) := hk.ev_old 10 (by kernel_rfl)
                    have g10_ : a1.tmps[10]?.getD undef = .int .i64 (k : Int) := by simpa [Act.eval] using f10_
                    exact stepL_value rfl (v := .int .i64 (k : Int)) (by go_simp) rfl (hk.inv.other 7 58 _ (by decide) (by decide) (by decide) (by decide) (by decide) (by decide) (by decide))
                  · obtain ⟨y6, e6, q6, rfl, l6⟩ := hk.ev_new hd 6 57 (by kernel_rfl) rfl
                    obtain ⟨y7, e7, q7, rfl, l7⟩ := hk.ev_new hd 7 58 (by kernel_rfl) rfl
                    exact stepL_value rfl (v := .pointer (some ⟨G, k, none⟩)) (by go_simp) rfl (hk.inv.other 8 59 _ (by decide) (by decide) (by decide) (by decide) (by decide) (by decide) (by decide))
                  · obtain ⟨y8, e8, q8, rfl, l8⟩ := hk.ev_new hd 8 59 (by kernel_rfl) rfl
                    have kc : w'.cell? ⟨G, k, none⟩ = some (.int .u32 (x.toNat : Int)) := sees_cellU (hG5.sameB (hk.inv.2.1 G lG5 hGr)).sees HX.out
                    exact stepL_value rfl (v := .int .u32 (x.toNat : Int)) (by go_simp) rfl (hk.inv.other 9 60 _ (by decide) (by decide) (by decide) (by decide) (by decide) (by decide) (by decide))
                  · have f11_ : a1.eval (.tmp 11) = .int .u32 (bt : Int) := hk.ev_old 11 (by kernel_rfl)
                    have g11_ : a1.tmps[11]?.getD undef = .int .u32 (bt : Int) := by simpa [Act.eval] using f11_
                    exact stepL_value rfl (v := .int .u32 (bt : Int)) (by go_simp) rfl (hk.inv.other 10 61 _ (by decide) (by decide) (by decide) (by decide) (by decide) (by decide) (by decide))
                  · obtain ⟨y9, e9, q9, rfl, l9⟩ := hk.ev_new hd 9 60 (by kernel_rfl) rfl
                    obtain ⟨y10, e10, q10, rfl, l10⟩ := hk.ev_new hd 10 61 (by kernel_rfl) rfl
                    exact stepL_value rfl (v := .int .u32 ((low32 x).toNat : Int)) (by go_simp) rfl (hk.inv.other 11 62 _ (by decide) (by decide) (by decide) (by decide) (by decide) (by decide) (by decide))
                  · obtain ⟨y11, e11, q11, rfl, l11⟩ := hk.ev_new hd 11 62 (by kernel_rfl) rfl
                    have hba := below_alloc w' (.cells (cw [low32 x]).toArray 75 (0, 0))
                    refine stepL_run rfl (v := .slice (some ⟨w'.heap.size, 0, none⟩) 1 1) (w' := w'.alloc (.cells (cw [low32 x]).toArray 75)) ?_ trivial ((hk.inv.grow hbs lgr5 hba).slice h1 (by rw [hk.size]; exact (by decide : (63 : Nat) < 94)) _ ((Fresh.new w' 75 (cw [low32 x]) 1 rfl (by decide)).lower hk.inv.1.size)) (fun _ _ h => h)
                    go_simp
                  · obtain ⟨y0, e0, q0, rfl, l0⟩ := hk.ev_new hd 0 51 (by kernel_rfl) rfl
                    obtain ⟨y1, e1, q1, rfl, l1⟩ := hk.ev_new hd 1 52 (by kernel_rfl) rfl
                    obtain ⟨y5, e5, q5, rfl, l5⟩ := hk.ev_new hd 5 56 (by kernel_rfl) rfl
                    obtain ⟨y12, e12, q12, -, l12⟩ := hk.ev_new hd 12 63 (by kernel_rfl) rfl
                    obtain ⟨g1, z1, hF1⟩ := hk.inv.2.2.2.1 l12
                    rw [q12] at z1
                    obtain rfl : y12 = .slice (some ⟨g1, 0, none⟩) 1 1 := by simpa using z1
                    refine stepL_enter rfl (f := 56) (args := #[.agg (rdL (f : Int) 2).toArray, .agg (S.rL A c).toArray, .int .i64 (ak : Int), .slice (some ⟨g1, 0, none⟩) 1 1]) (by go_simp) ?_
                    refine (rdWrite_any (h.step (hB05.trans hk.inv.1)) HL2.out f 2 hf (ak : Int) (by omega) (some ⟨g1, 0, none⟩) 1 1 (Nat.le_refl _) (by decide) [low32 x] hF1.sees rfl T r HR.out).mono ?_
                    rintro e w8 ⟨B8, c8, rfl, hT8, hB8⟩
                    exact ⟨_, rfl, trivial, (hk.inv.grow hbs lgr5 hB8).wrote h1 (by rw [hk.size]; exact (by decide : (64 : Nat) < 94)) ⟨hT8.at_, hT8.from_.imp id (·.lower hk.inv.1.size)⟩, fun _ _ h => h⟩
                  · obtain ⟨y13, e13, q13, -, l13⟩ := hk.ev_new hd 13 64 (by kernel_rfl) rfl
                    obtain ⟨B8, c8, rfl, hJ⟩ := hk.inv.part h1 l13 (by rw [hk.size]; exact (by decide : (65 : Nat) < 94)) q13
                    exact stepL_value rfl (v := .agg (T.rL B8 c8).toArray) (by go_simp) trivial hJ
                  · obtain ⟨y13, e13, q13, -, l13⟩ := hk.ev_new hd 13 64 (by kernel_rfl) rfl
                    obtain ⟨B8, c8, rfl⟩ := hk.inv.value l13 q13
                    exact stepL_value rfl (v := .int .i64 (r : Int)) (by go_simp) rfl (hk.inv.other 15 66 _ (by decide) (by decide) (by decide) (by decide) (by decide) (by decide) (by decide))
                  · obtain ⟨y14, e14, q14, -, l14⟩ := hk.ev_new hd 14 65 (by kernel_rfl) rfl
                    obtain ⟨B8, c8, rfl, hFW, hJ⟩ := hk.inv.stored h rfl hB05 h1 l14 lgr5 (hR5.lower (Nat.le_trans z1 z2)) q14
                    have f4 : a1.eval (.tmp 4) = .pointer (some ⟨gr, 0, none⟩) := hk.ev_old 4 (by kernel_rfl)
                    have hsp : splice (rnL none 0 0 0 0 false 0) 0 (T.rL B8 c8) = T.rL B8 c8 := rfl
                    refine stepL_skip rfl rfl (run_store_agg (.tmp 4) (.tmp 65) 30 rfl f4 (T.rL B8 c8) e14 (by rw [show (T.rL B8 c8).length = 5 from rfl]; kernel_rfl) hFW (by show 0 + 5 ≤ 5; decide) (allOne_out (by kernel_rfl))) trivial ?_ (fun _ _ h => h)
                    rw [hsp]
                    exact hJ
                  · obtain ⟨y15, e15, q15, rfl, l15⟩ := hk.ev_new hd 15 66 (by kernel_rfl) rfl
                    exact stepL_value rfl (v := .int .i64 (r : Int)) (by go_simp) rfl (hk.inv.other 17 5 _ (by decide) (by decide) (by decide) (by decide) (by decide) (by decide) (by decide))
                · intro listed a1 w7 hJ hall hp
                  obtain ⟨B8, c8, -, hT8, -, hF9⟩ := hJ.2.2.2.2.1 (hall 13 (by decide))
                  have hF9 := hF9 (hall 16 (by decide))
                  have hB9 := hB05.trans hJ.1
                  clear hJ hall
                  obtain ⟨x0, p0, x1, p1, x2, p2, x3, p3, x4, p4, x5, p5, x6, p6, x7, p7, x8, p8, x9, p9, x10, p10, x11, p11, x12, p12, x13, p13, x14, p14, x15, p15, x17, p17, rfl⟩ := hp
                  simp only [rsF] at p0 p1 p2 p3 p4 p5 p6 p7 p8 p9 p10 p11 p15 p17
                  subst p0 p1 p2 p3 p4 p5 p6 p7 p8 p9 p10 p11 p15 p17
                  simp only [Act.put, List.setIfInBounds_toArray, List.set_cons_succ, List.set_cons_zero]
                  go_wp2_with fail
                  exact bodyPost_cellt rfl rfl (.int .i64 (r : Int)) rfl (T.rL B8 c8) 5 rfl (by kernel_rfl) hF9.sees rfl ⟨B8, c8, rfl, ⟨hT8.at_, hT8.from_.imp id (·.lower hB05.size)⟩, hB9⟩
        · obtain rfl : j = 62 := by omega
          have hno : restL l = none := by
            rw [← HJ.out, List.drop_of_length_le (by rw [HLL.out]; omega)]
            rfl
          have hr5 := HR4.out
          rw [hno] at hr5
          simp only at hr5
          clear HJ hno HR4
          rcases (show σ = 0 ∨ σ = 1 by omega) with rfl | rfl
          · have hrb : S.tbegin f 1 (cn + 1) = (T, r) := hr5
            clear hr5
            have hdn := derase6_n S f (1 : Int)
            have hdl := derase6_left S f (1 : Int)
            obtain ⟨T1, q, hT1⟩ : ∃ T1 q, S.derase f 2 (1 : Int) = (T1, q) := ⟨_, _, rfl⟩
            rw [hT1] at hdn hdl
            replace hdn : T1.n = S.n := hdn
            replace hdl : T1.left ≤ S.left := hdl
            have HE : Hid (∀ w', Below w.heap.size w w' → Calls Try.prog 57 #[.agg (rdL (f : Int) 2).toArray, .agg (S.rL A c).toArray, .int .i64 (1 : Int)] w' fun e w2 => ∃ B c2, e = .returned (.tuple #[.agg (T1.rL B c2).toArray, .int .i64 (q : Int)]) ∧ RnTo w' w2 A B c c2 S T1 ∧ Below w'.heap.size w' w2) := Lib.hid fun w' x => rdErase_any (h.step x) HL2.out f 2 (by omega) (1 : Int) (by omega) T1 q hT1
            have HTN : Hid (T1.n = S.n) := Lib.hid hdn
            have HTL : Hid (T1.left < 9223372036854775808) := Lib.hid (by have := HL2.out; omega)
            obtain ⟨c1, hc1⟩ : ∃ c1, cn + 1 = c1 := ⟨_, rfl⟩
            obtain ⟨nc, hnc⟩ : ∃ nc, 4294967295 - c1 = nc := ⟨_, rfl⟩
            have HE2 : Hid ((∃ z, q = z + 1 ∧ T1 = T ∧ z + 1 = r) ∨ (q = 0 ∧ T1.dwrite f 2 (64 : Int) (base2 c1) = (T, r))) := Lib.hid (by
              have hr3 : S.tbegin f 1 (cn + 1) = (T, r) := hrb
              unfold Fl.tbegin at hr3
              have hT1' : S.derase f 2 ((1 : Nat) : Int) = (T1, q) := hT1
              rw [hT1'] at hr3
              cases q with
              | zero =>
                right
                refine ⟨rfl, ?_⟩
                have e9 : (64 : Int) * ((1 : Nat) : Int) = 64 := rfl
                simp only [e9] at hr3
                rw [← hc1]
                exact hr3
              | succ z =>
                left
                simp only [Prod.mk.injEq] at hr3
                exact ⟨z, rfl, hr3.1, hr3.2⟩)
            have HCW : Hid (cw (base2 c1) = [.int .u32 (c1 : Int), .int .u32 (nc : Int)]) := Lib.hid (by
              simp only [base2, cw, List.map_cons, List.map_nil, (base2_nat (c := c1) (by omega)).1, (base2_nat (c := c1) (by omega)).2]
              rw [hnc])
            have e1 : IntKind.i64.wrap ((cn : Int) + 1) = (c1 : Int) := by rw [IntKind.wrap_i64]; omega
            have e2 : IntKind.u32.wrap (c1 : Int) = (c1 : Int) := by rw [IntKind.wrap_u32]; omega
            have e3 : IntKind.u32.wrap (4294967295 - (c1 : Int)) = (nc : Int) := by rw [IntKind.wrap_u32]; omega
            have e4 : IntKind.i64.wrap ((1 : Int) * 64) = 64 := by rw [IntKind.wrap_i64]; omega
            clear hdn hdl hT1 hrb hc1 hnc
            rcases HE2.out with ⟨z, rfl, rfl, rfl⟩ | ⟨rfl, hr2⟩
            · have h0 : ¬ (((z + 1 : Nat) : Int) = 0) := by omega
              go_wp2_with (first
                | (with_reducible refine wpList_load (o := ⟨some 70, _, _, _, _, _⟩) rfl (.tmp 2) 35 rfl g 0 _ rfl (rdL (f : Int) 2) 2 rfl (by kernel_rfl) hF5.sees ?_)
                | (with_reducible refine wpList_load (o := ⟨some 71, _, _, _, _, _⟩) rfl (.tmp 3) 30 rfl gn 0 _ rfl (S.rL A c) 5 rfl (by kernel_rfl) hFn5.sees ?_)
                | (go_at_call 57; refine (HE.out _ hB05).mono ?_; rintro e we ⟨Be, ce, rfl, hTe, hBe⟩; have hFe := hF5.below hBe; have hFne := hFn5.below hBe; have hRe := hR5.below hBe; have hB0e := Below.then_ hB05 hBe; have ze := hBe.size; have ze0 := hB05.size)
                | (with_reducible refine wpList_store rfl rfl (.tmp 3) (.tmp 74) 30 rfl gn 0 _ 30 5 (S.rL A c) (T1.rL Be ce) rfl rfl 5 rfl (by kernel_rfl) hFne (by omega) (allOne_out (by kernel_rfl)) w hB0e (by omega) ?_; intro ws hFns hB0s hos _; have hFs := hFe.other (Ne.symm hng) hos; have hRs := hRe.other (Ne.symm hnr) hos; have hTs := RnTo.over h hB0s hTe (by omega) hos)
                | (with_reducible refine wpList_load (o := ⟨some 78, _, _, _, _, _⟩) rfl (.tmp 3) 30 rfl gn 0 _ rfl (T1.rL Be ce) 5 rfl (by kernel_rfl) hFns.sees ?_)
                | (with_reducible refine wpList_store rfl rfl (.tmp 4) (.tmp 78) 30 rfl gr 0 _ 30 5 (rnL none 0 0 0 0 false 0) (T1.rL Be ce) rfl rfl 5 rfl (by kernel_rfl) hRs (by omega) (allOne_out (by kernel_rfl)) w hB0s (by omega) ?_; intro w9 hF9 hB9 ho9 _))
              exact bodyPost_cellt rfl rfl (.int .i64 ((z + 1 : Nat) : Int)) rfl (T1.rL Be ce) 5 rfl (by kernel_rfl) hF9.sees rfl ⟨Be, ce, rfl, RnTo.shut h hTs hB9 hB05.size (by omega) ho9, hB9⟩
            · have HR := Lib.hid hr2
              clear hr2
              go_wp2_with (first
                | (with_reducible refine wpList_load (o := ⟨some 70, _, _, _, _, _⟩) rfl (.tmp 2) 35 rfl g 0 _ rfl (rdL (f : Int) 2) 2 rfl (by kernel_rfl) hF5.sees ?_)
                | (with_reducible refine wpList_load (o := ⟨some 71, _, _, _, _, _⟩) rfl (.tmp 3) 30 rfl gn 0 _ rfl (S.rL A c) 5 rfl (by kernel_rfl) hFn5.sees ?_)
                | (go_at_call 57; refine (HE.out _ hB05).mono ?_; rintro e we ⟨Be, ce, rfl, hTe, hBe⟩; have hFe := hF5.below hBe; have hFne := hFn5.below hBe; have hRe := hR5.below hBe; have hB0e := Below.then_ hB05 hBe; have ze := hBe.size; have ze0 := hB05.size)
                | (with_reducible refine wpList_store rfl rfl (.tmp 3) (.tmp 74) 30 rfl gn 0 _ 30 5 (S.rL A c) (T1.rL Be ce) rfl rfl 5 rfl (by kernel_rfl) hFne (by omega) (allOne_out (by kernel_rfl)) w hB0e (by omega) ?_; intro ws hFns hB0s hos _; have hFs := hFe.other (Ne.symm hng) hos; have hRs := hRe.other (Ne.symm hnr) hos; have hTs := RnTo.over h hB0s hTe (by omega) hos)
                | (with_reducible refine wpList_load (o := ⟨some 83, _, _, _, _, _⟩) rfl (.tmp 2) 35 rfl g 0 _ rfl (rdL (f : Int) 2) 2 rfl (by kernel_rfl) hFs.sees ?_)
                | (with_reducible refine wpList_load (o := ⟨some 84, _, _, _, _, _⟩) rfl (.tmp 3) 30 rfl gn 0 _ rfl (T1.rL Be ce) 5 rfl (by kernel_rfl) hFns.sees ?_))
              have hFw0 := Fresh.new ws 75 [.int .u32 (c1 : Int), .int .u32 (nc : Int)] 2 rfl (by decide)
              have hFw : Fresh ws.heap.size 75 (ws.alloc (.cells #[.int .u32 (c1 : Int), .int .u32 (nc : Int)] 75 (0, 0))) (some ⟨ws.heap.size, 0, none⟩) 2 2 (cw (base2 c1)) := by
                rw [HCW.out]
                exact hFw0
              have hBw := below_alloc ws (.cells #[.int .u32 (c1 : Int), .int .u32 (nc : Int)] 75 (0, 0))
              clear hFw0
              have hT1w := (hTs.at_.step hBw)
              have hRw := hRs.below hBw
              have hB0w := Below.then_ hB0s hBw
              have zw := hBw.size
              have zs := hB0s.size
              go_wp2_with (first
                | (go_at_call 56; refine (rdWrite_any hT1w HTL.out f 2 (by rw [HTN.out]; exact hf) (64 : Int) (by omega) (some ⟨ws.heap.size, 0, none⟩) 2 2 (Nat.le_refl _) (by decide) (base2 c1) hFw.sees rfl T r HR.out).mono ?_; rintro e w8 ⟨B8, c8, rfl, hT8, hB8⟩; have hR8 := hRw.below hB8; have hB08 := Below.then_ hB0w hB8; have z8 := hB8.size)
                | (with_reducible refine wpList_store rfl rfl (.tmp 4) (.tmp 92) 30 rfl gr 0 _ 30 5 (rnL none 0 0 0 0 false 0) (T.rL B8 c8) rfl rfl 5 rfl (by kernel_rfl) hR8 (by omega) (allOne_out (by kernel_rfl)) w hB08 (by omega) ?_; intro w9 hF9 hB9 ho9 _))
              have hT48 := RnTo.then_ (hTs.after hBw) hB8 (by omega) hT8
              exact bodyPost_cellt rfl rfl (.int .i64 (r : Int)) rfl (T.rL B8 c8) 5 rfl (by kernel_rfl) hF9.sees rfl ⟨B8, c8, rfl, RnTo.shut h hT48 hB9 hB05.size (by omega) ho9, hB9⟩
          · have hrb : S.tbegin f 0 (cn + 1) = (T, r) := hr5
            clear hr5
            have hdn := derase6_n S f (0 : Int)
            have hdl := derase6_left S f (0 : Int)
            obtain ⟨T1, q, hT1⟩ : ∃ T1 q, S.derase f 2 (0 : Int) = (T1, q) := ⟨_, _, rfl⟩
            rw [hT1] at hdn hdl
            replace hdn : T1.n = S.n := hdn
            replace hdl : T1.left ≤ S.left := hdl
            have HE : Hid (∀ w', Below w.heap.size w w' → Calls Try.prog 57 #[.agg (rdL (f : Int) 2).toArray, .agg (S.rL A c).toArray, .int .i64 (0 : Int)] w' fun e w2 => ∃ B c2, e = .returned (.tuple #[.agg (T1.rL B c2).toArray, .int .i64 (q : Int)]) ∧ RnTo w' w2 A B c c2 S T1 ∧ Below w'.heap.size w' w2) := Lib.hid fun w' x => rdErase_any (h.step x) HL2.out f 2 (by omega) (0 : Int) (by omega) T1 q hT1
            have HTN : Hid (T1.n = S.n) := Lib.hid hdn
            have HTL : Hid (T1.left < 9223372036854775808) := Lib.hid (by have := HL2.out; omega)
            obtain ⟨c1, hc1⟩ : ∃ c1, cn + 1 = c1 := ⟨_, rfl⟩
            obtain ⟨nc, hnc⟩ : ∃ nc, 4294967295 - c1 = nc := ⟨_, rfl⟩
            have HE2 : Hid ((∃ z, q = z + 1 ∧ T1 = T ∧ z + 1 = r) ∨ (q = 0 ∧ T1.dwrite f 2 (0 : Int) (base2 c1) = (T, r))) := Lib.hid (by
              have hr3 : S.tbegin f 0 (cn + 1) = (T, r) := hrb
              unfold Fl.tbegin at hr3
              have hT1' : S.derase f 2 ((0 : Nat) : Int) = (T1, q) := hT1
              rw [hT1'] at hr3
              cases q with
              | zero =>
                right
                refine ⟨rfl, ?_⟩
                have e9 : (64 : Int) * ((0 : Nat) : Int) = 0 := rfl
                simp only [e9] at hr3
                rw [← hc1]
                exact hr3
              | succ z =>
                left
                simp only [Prod.mk.injEq] at hr3
                exact ⟨z, rfl, hr3.1, hr3.2⟩)
            have HCW : Hid (cw (base2 c1) = [.int .u32 (c1 : Int), .int .u32 (nc : Int)]) := Lib.hid (by
              simp only [base2, cw, List.map_cons, List.map_nil, (base2_nat (c := c1) (by omega)).1, (base2_nat (c := c1) (by omega)).2]
              rw [hnc])
            have e1 : IntKind.i64.wrap ((cn : Int) + 1) = (c1 : Int) := by rw [IntKind.wrap_i64]; omega
            have e2 : IntKind.u32.wrap (c1 : Int) = (c1 : Int) := by rw [IntKind.wrap_u32]; omega
            have e3 : IntKind.u32.wrap (4294967295 - (c1 : Int)) = (nc : Int) := by rw [IntKind.wrap_u32]; omega
            have e4 : IntKind.i64.wrap ((0 : Int) * 64) = 0 := by rw [IntKind.wrap_i64]; omega
            clear hdn hdl hT1 hrb hc1 hnc
            rcases HE2.out with ⟨z, rfl, rfl, rfl⟩ | ⟨rfl, hr2⟩
            · have h0 : ¬ (((z + 1 : Nat) : Int) = 0) := by omega
              go_wp2_with (first
                | (with_reducible refine wpList_load (o := ⟨some 70, _, _, _, _, _⟩) rfl (.tmp 2) 35 rfl g 0 _ rfl (rdL (f : Int) 2) 2 rfl (by kernel_rfl) hF5.sees ?_)
                | (with_reducible refine wpList_load (o := ⟨some 71, _, _, _, _, _⟩) rfl (.tmp 3) 30 rfl gn 0 _ rfl (S.rL A c) 5 rfl (by kernel_rfl) hFn5.sees ?_)
                | (go_at_call 57; refine (HE.out _ hB05).mono ?_; rintro e we ⟨Be, ce, rfl, hTe, hBe⟩; have hFe := hF5.below hBe; have hFne := hFn5.below hBe; have hRe := hR5.below hBe; have hB0e := Below.then_ hB05 hBe; have ze := hBe.size; have ze0 := hB05.size)
                | (with_reducible refine wpList_store rfl rfl (.tmp 3) (.tmp 74) 30 rfl gn 0 _ 30 5 (S.rL A c) (T1.rL Be ce) rfl rfl 5 rfl (by kernel_rfl) hFne (by omega) (allOne_out (by kernel_rfl)) w hB0e (by omega) ?_; intro ws hFns hB0s hos _; have hFs := hFe.other (Ne.symm hng) hos; have hRs := hRe.other (Ne.symm hnr) hos; have hTs := RnTo.over h hB0s hTe (by omega) hos)
                | (with_reducible refine wpList_load (o := ⟨some 78, _, _, _, _, _⟩) rfl (.tmp 3) 30 rfl gn 0 _ rfl (T1.rL Be ce) 5 rfl (by kernel_rfl) hFns.sees ?_)
                | (with_reducible refine wpList_store rfl rfl (.tmp 4) (.tmp 78) 30 rfl gr 0 _ 30 5 (rnL none 0 0 0 0 false 0) (T1.rL Be ce) rfl rfl 5 rfl (by kernel_rfl) hRs (by omega) (allOne_out (by kernel_rfl)) w hB0s (by omega) ?_; intro w9 hF9 hB9 ho9 _))
              exact bodyPost_cellt rfl rfl (.int .i64 ((z + 1 : Nat) : Int)) rfl (T1.rL Be ce) 5 rfl (by kernel_rfl) hF9.sees rfl ⟨Be, ce, rfl, RnTo.shut h hTs hB9 hB05.size (by omega) ho9, hB9⟩
            · have HR := Lib.hid hr2
              clear hr2
              go_wp2_with (first
                | (with_reducible refine wpList_load (o := ⟨some 70, _, _, _, _, _⟩) rfl (.tmp 2) 35 rfl g 0 _ rfl (rdL (f : Int) 2) 2 rfl (by kernel_rfl) hF5.sees ?_)
                | (with_reducible refine wpList_load (o := ⟨some 71, _, _, _, _, _⟩) rfl (.tmp 3) 30 rfl gn 0 _ rfl (S.rL A c) 5 rfl (by kernel_rfl) hFn5.sees ?_)
                | (go_at_call 57; refine (HE.out _ hB05).mono ?_; rintro e we ⟨Be, ce, rfl, hTe, hBe⟩; have hFe := hF5.below hBe; have hFne := hFn5.below hBe; have hRe := hR5.below hBe; have hB0e := Below.then_ hB05 hBe; have ze := hBe.size; have ze0 := hB05.size)
                | (with_reducible refine wpList_store rfl rfl (.tmp 3) (.tmp 74) 30 rfl gn 0 _ 30 5 (S.rL A c) (T1.rL Be ce) rfl rfl 5 rfl (by kernel_rfl) hFne (by omega) (allOne_out (by kernel_rfl)) w hB0e (by omega) ?_; intro ws hFns hB0s hos _; have hFs := hFe.other (Ne.symm hng) hos; have hRs := hRe.other (Ne.symm hnr) hos; have hTs := RnTo.over h hB0s hTe (by omega) hos)
                | (with_reducible refine wpList_load (o := ⟨some 83, _, _, _, _, _⟩) rfl (.tmp 2) 35 rfl g 0 _ rfl (rdL (f : Int) 2) 2 rfl (by kernel_rfl) hFs.sees ?_)
                | (with_reducible refine wpList_load (o := ⟨some 84, _, _, _, _, _⟩) rfl (.tmp 3) 30 rfl gn 0 _ rfl (T1.rL Be ce) 5 rfl (by kernel_rfl) hFns.sees ?_))
              have hFw0 := Fresh.new ws 75 [.int .u32 (c1 : Int), .int .u32 (nc : Int)] 2 rfl (by decide)
              have hFw : Fresh ws.heap.size 75 (ws.alloc (.cells #[.int .u32 (c1 : Int), .int .u32 (nc : Int)] 75 (0, 0))) (some ⟨ws.heap.size, 0, none⟩) 2 2 (cw (base2 c1)) := by
                rw [HCW.out]
                exact hFw0
              have hBw := below_alloc ws (.cells #[.int .u32 (c1 : Int), .int .u32 (nc : Int)] 75 (0, 0))
              clear hFw0
              have hT1w := (hTs.at_.step hBw)
              have hRw := hRs.below hBw
              have hB0w := Below.then_ hB0s hBw
              have zw := hBw.size
              have zs := hB0s.size
              go_wp2_with (first
                | (go_at_call 56; refine (rdWrite_any hT1w HTL.out f 2 (by rw [HTN.out]; exact hf) (0 : Int) (by omega) (some ⟨ws.heap.size, 0, none⟩) 2 2 (Nat.le_refl _) (by decide) (base2 c1) hFw.sees rfl T r HR.out).mono ?_; rintro e w8 ⟨B8, c8, rfl, hT8, hB8⟩; have hR8 := hRw.below hB8; have hB08 := Below.then_ hB0w hB8; have z8 := hB8.size)
                | (with_reducible refine wpList_store rfl rfl (.tmp 4) (.tmp 92) 30 rfl gr 0 _ 30 5 (rnL none 0 0 0 0 false 0) (T.rL B8 c8) rfl rfl 5 rfl (by kernel_rfl) hR8 (by omega) (allOne_out (by kernel_rfl)) w hB08 (by omega) ?_; intro w9 hF9 hB9 ho9 _))
              have hT48 := RnTo.then_ (hTs.after hBw) hB8 (by omega) hT8
              exact bodyPost_cellt rfl rfl (.int .i64 (r : Int)) rfl (T.rL B8 c8) 5 rfl (by kernel_rfl) hF9.sees rfl ⟨B8, c8, rfl, RnTo.shut h hT48 hB9 hB05.size (by omega) ho9, hB9⟩
end
end Go.Proofs.Ytcfjbllmaejiaaa

namespace Go.Proofs.Ytcfjbllmaejiaaa
open Go.RowKit
set_option linter.unusedVariables false
theorem derase_up {S T : Fl} {f : Nat} {s : Int} (h : S.derase f 2 s = (T, 0)) (hd : S.down = false) : T.down = false := by
  unfold Fl.derase at h
  split at h
  · simp at h
  · unfold Fl.erase at h
    split at h
    · simp at h
    · simp at h
    · split at h
      · rename_i T' hs
        simp only [Prod.mk.injEq] at h
        rw [← h.1]
        show T'.down = false
        rw [(Fl.step_down hs).1, hd]
      · simp at h
theorem dwrite_up6 {S T : Fl} {f : Nat} {a : Int} {l : List UInt32} (h : S.dwrite f 2 a l = (T, 0)) (hd : S.down = false) : T.down = false := by
  unfold Fl.dwrite at h
  split at h
  · simp at h
  · simp at h
  · split at h
    · simp at h
    · split at h
      · rename_i T' hs
        simp only [Prod.mk.injEq] at h
        rw [← h.1, (Fl.prog_keep _ _ _ _ hs).1, hd]
      · simp at h
theorem derase_five {S T : Fl} {f r : Nat} {s : Int} (h : S.derase f 2 s = (T, r)) : r ≠ 5 := by
  unfold Fl.derase at h
  split at h
  · simp at h; omega
  · unfold Fl.erase at h
    split at h
    · simp at h; omega
    · simp at h; omega
    · split at h <;> (simp at h; omega)
theorem dwrite_five {S T : Fl} {f r : Nat} {a : Int} {l : List UInt32} (h : S.dwrite f 2 a l = (T, r)) : r ≠ 5 := by
  unfold Fl.dwrite at h
  split at h
  · simp at h; omega
  · simp at h; omega
  · split at h
    · simp at h; omega
    · split at h <;> (simp at h; omega)
theorem tbegin_two {S T : Fl} {f s c r : Nat} (hok : S.Ok) (hd : S.down = false) (h : S.tbegin f s c = (T, r)) : T.n = S.n ∧ T.Ok ∧ (r = 0 → T.down = false) ∧ r ≠ 5 := by
  unfold Fl.tbegin at h
  have he := Fl.derase_ok S f 2 (s : Int) hok
  split at h
  · rename_i T1 h1
    rw [h1] at he
    replace he : T1.n = S.n ∧ T1.Ok := he
    have hw := he.2.same (Fl.dwrite_half T1 f 2 (64 * (s : Int)) (base2 c)).1 (Fl.dwrite_half T1 f 2 (64 * (s : Int)) (base2 c)).2
    rw [h] at hw
    replace hw : T.n = T1.n ∧ T.Ok := hw
    exact ⟨hw.1.trans he.1, hw.2, fun e => by subst e; exact dwrite_up6 h (derase_up h1 hd), dwrite_five h⟩
  · rename_i T1 e h1
    rw [h1] at he
    replace he : T1.n = S.n ∧ T1.Ok := he
    simp only [Prod.mk.injEq] at h
    obtain ⟨rfl, rfl⟩ := h
    exact ⟨he.1, he.2, fun e => by omega, derase_five h1⟩
theorem twrite_two {S T : Fl} {f r : Nat} (hok : S.Ok) (hd : S.down = false) (h : S.twrite f = (T, r)) : T.n = S.n ∧ T.Ok ∧ (r = 0 → T.down = false) ∧ r ≠ 5 := by
  unfold Fl.twrite at h
  split at h
  rename_i s c l hl
  split at h
  · exact tbegin_two hok hd h
  · split at h
    · exact tbegin_two hok hd h
    · rename_i k hk
      have hw := hok.same (Fl.dwrite_half S f 2 (64 * s + (k : Int)) [low32 (l.getD k 0)]).1 (Fl.dwrite_half S f 2 (64 * s + (k : Int)) [low32 (l.getD k 0)]).2
      rw [h] at hw
      exact ⟨hw.1, hw.2, fun e => by subst e; exact dwrite_up6 h hd, dwrite_five h⟩
/-- A step of both. -/
theorem tstep_two {S : Fl} {f last : Nat} (hok : S.Ok) (hd : S.down = false) {T : Fl} {r last' : Nat} {over' : Bool} (h : S.tstep f last false = (T, r, last', over')) : S.rstep f = (T, r) ∧ T.n = S.n ∧ T.Ok ∧ (T.down = true → over' = true) ∧ over' = (!decide (r = 0) && !decide (r = 5)) := by
  unfold Fl.tstep at h
  rw [hd] at h
  simp only at h
  unfold Fl.rstep
  split at h
  · rename_i hf
    simp only [Prod.mk.injEq] at h
    obtain ⟨rfl, rfl, -, rfl⟩ := h
    exact ⟨by rw [if_pos hf], rfl, hok, fun e => (by rw [hd] at e; cases e), rfl⟩
  · rename_i hf
    rw [if_neg hf]
    split at h
    · rename_i T' hw
      simp only [Prod.mk.injEq] at h
      obtain ⟨rfl, rfl, -, rfl⟩ := h
      obtain ⟨a1, a2, a3, a4⟩ := twrite_two hok hd hw
      exact ⟨hw, a1, a2, fun e => (by rw [a3 rfl] at e; cases e), rfl⟩
    · rename_i T' e hw
      simp only [Prod.mk.injEq] at h
      obtain ⟨rfl, rfl, -, rfl⟩ := h
      obtain ⟨a1, a2, a3, a4⟩ := twrite_two hok hd hw
      exact ⟨hw, a1, a2, fun _ => rfl, by simp; omega⟩
section
variable {W w w1 w2 w3 : World} {p b g gb c c3 d gv f m t base : Nat} {S T : Fl}
theorem Fresh.b3 {w w' : World} {base : Nat} {e : TypeId} {gb n c : Nat} {xs : List Value} (h : Fresh base e w (some ⟨gb, 0, none⟩) n c xs) (x : But3 t p b w w') (h0 : gb ≠ t) (h1 : gb ≠ p) (h2 : gb ≠ b) (hl : gb < w.heap.size) : Fresh base e w' (some ⟨gb, 0, none⟩) n c xs := h.sameB (x.keep gb hl h0 h1 h2)
theorem BesideD.lts (h : BesideD W w p b g gb c d gv f m S) : gb < w.heap.size ∧ g < w.heap.size ∧ gv < w.heap.size ∧ W.heap.size ≤ g ∧ W.heap.size ≤ gv := by
  have h1 : 0 < 64 * S.n := by have := h.bs.n1; omega
  obtain ⟨q, e, _, q2⟩ := h.bs.row.spot_ h1
  obtain rfl : gb = q := by simpa using e
  exact ⟨q2, h.bs.box.lt_size, h.v.lt_size, h.bs.box.block.2, h.v.block.2⟩
theorem BesideD.half3 (h : BesideD W w p b g gb c d gv f m S) (x : But3 t p b w w1) (tg : t ≠ g) (tb : t ≠ gb) (tv : t ≠ gv) (hW : W.heap.size ≤ t) : Fresh W.heap.size 30 w1 (some ⟨g, 0, none⟩) 5 5 (S.rL (some ⟨gb, 0, none⟩) c) ∧ RnAt w1 (some ⟨gb, 0, none⟩) c S ∧ Fresh W.heap.size 35 w1 (some ⟨gv, 0, none⟩) 2 2 (rdL (f : Int) (m : Int)) ∧ Below W.heap.size W w1 := by
  obtain ⟨l1, l2, l3, _⟩ := h.lts
  obtain ⟨_, _, hp2, hb2⟩ := h.bs.nor.lt
  exact ⟨h.bs.box.b3 x (Ne.symm tg) h.bs.hp h.bs.hb l2, RnAt.of_row (h.bs.row.b3 x (Ne.symm tb) h.bs.gp h.bs.gbb l1) h.bs.nor.n_le h.bs.cap, h.v.b3 x (Ne.symm tv) h.vp h.vb l3,
    ⟨x.os.trans h.bs.below.os, x.tape.trans h.bs.below.tape, x.output.trans h.bs.below.output, Nat.le_trans h.bs.below.size x.size, fun k hk => (x.keep k (Nat.lt_of_lt_of_le hk h.bs.below.size) (by omega) (by omega) (by omega)).trans (h.bs.below.block k hk)⟩⟩
theorem BesideD.then3 (h : BesideD W w p b g gb c d gv f m S) (x : But3 t p b w w1) (tg : t ≠ g) (tb : t ≠ gb) (tv : t ≠ gv) (hW : W.heap.size ≤ t) (hD : DrAt W.heap.size w1 d p b f m T) (hn : T.n = S.n) {B : Option Addr} (hT : RnTo w1 w2 (some ⟨gb, 0, none⟩) B c c3 S T) (y : Below w1.heap.size w1 w2)
    (hF : Fresh W.heap.size 30 w3 (some ⟨g, 0, none⟩) 5 5 (T.rL B c3)) (ho : ∀ k, k ≠ g → w3.heap[k]? = w2.heap[k]?) (hB : Below W.heap.size W w3) : ∃ gb2, B = some ⟨gb2, 0, none⟩ ∧ BesideD W w3 p b g gb2 c3 d gv f m T ∧ (gb2 = gb ∨ w1.heap.size ≤ gb2) := by
  obtain ⟨h1, h2, h3, h4⟩ := h.half3 x tg tb tv hW
  obtain ⟨l1, l2, l3, _⟩ := h.lts
  have hz := x.size
  have hN2 := hD.nor.below y
  have hN3 : NorAt W.heap.size w3 p b T := ⟨hN2.obj.other (Ne.symm h.bs.hp) ho, hN2.row.other (Ne.symm h.bs.hb) ho, hN2.ne, hN2.n_le, hN2.left_le⟩
  have hcap := hT.at_.cap
  have hn1 : 1 ≤ T.n := by rw [hn]; exact h.bs.n1
  have hO := (hD.obj.below y).other h.dg ho
  have hV := (h3.below y).other h.vg ho
  obtain ⟨lp, lb, lp2, lb2⟩ := h.bs.nor.lt
  rcases hT.from_ with ⟨rfl, rfl, hw, -⟩ | hR
  · have hR3 : Fresh W.heap.size 75 w3 (some ⟨gb, 0, none⟩) (64 * T.n) c3 (cw T.ws) := by
      have := ((h.bs.row.b3 x (Ne.symm tb) h.bs.gp h.bs.gbb l1).below y).otherC h.bs.gg ho
      rw [hn, hw]
      exact this
    exact ⟨gb, rfl, ⟨⟨hN3, hF, hR3, hcap, hn1, h.bs.gp, h.bs.gbb, h.bs.gg, h.bs.hp, h.bs.hb, hB⟩, hO, hV, hD.fits, h.some_, h.dg, h.vg, h.vp, h.vb⟩, .inl rfl⟩
  · obtain ⟨gb2, rfl, q1, q2⟩ := hR.spot_ (by omega)
    have n3 : gb2 ≠ g := by omega
    exact ⟨gb2, rfl, ⟨⟨hN3, hF, (hR.lower h4.size).otherC n3 ho, hcap, hn1, by omega, by omega, n3, h.bs.hp, h.bs.hb, hB⟩, hO, hV, hD.fits, h.some_, h.dg, h.vg, h.vp, h.vb⟩, .inr q1⟩
theorem TOpen_no (h : DrAt base w d p b f 2 S) (hd : S.down = true) (hbase : base ≤ w.heap.size) :
    Calls Try.prog 17 #[.pointer (some ⟨d, 0, none⟩)] w fun e w' => e = .returned (.tuple #[.pointer none, .int .i64 40]) ∧ Below w.heap.size w w' := by
  have hS := dSectors_any h
  have hR := fun (w' : World) (t : Nat) (hT : TyAt base w' t d p b f S 0 false) => read_no hT hd
  clear hd
  go_enter Try.func17, Try.ntmps17
  go_wp2_with fail
  refine hS.mono ?_
  rintro e w1 ⟨rfl, rfl⟩
  go_wp2_with (with_reducible refine wpList_box (o := ⟨some 16, _, _, _, _, _⟩) rfl (.tmp 15) 106 rfl [.pointer none, .pointer (some ⟨d, 0, none⟩), .int .i64 0, .bool false] rfl 4 rfl (by decide) ?_; intro t w2 ht hF hB; have c0 := hF.cell (j := 0) rfl; have z0 : w2.frozen? ⟨t, 0, none⟩ = false := hF.frozenAt)
  have hF2 : Fresh w1.heap.size 106 (w2.setCell ⟨t, 0, none⟩ (.pointer (some ⟨t, 0, none⟩))) (some ⟨t, 0, none⟩) 4 4 (tyObj t d 0 false) := hF.store 0 (.pointer (some ⟨t, 0, none⟩))
  have hB2 : Below w1.heap.size w1 (w2.setCell ⟨t, 0, none⟩ (.pointer (some ⟨t, 0, none⟩))) := hB.setCell (p := ⟨t, 0, none⟩) hF.block.2 _
  have hT2 : TyAt base (w2.setCell ⟨t, 0, none⟩ (.pointer (some ⟨t, 0, none⟩))) t d p b f S 0 false := ⟨h.below hB2, hF2.lower hbase, by omega⟩
  refine (hR _ t hT2).mono ?_
  rintro e w3 ⟨rfl, hB3⟩
  have hB13 := Below.then_ hB2 hB3
  go_wp2_with (first
    | (with_reducible refine wpList_alloc (o := ⟨some 6, _, _, _, _, _⟩) rfl 109 rfl (stL 0 0 zeros64) (by kernel_rfl) 66 (by simp [stL_len, zeros64]) (by decide) ?_; intro gs w4 hgs hFs hBs)
    | (with_reducible refine wpList_store rfl rfl (.tmp 6) (.tmp 24) 109 rfl gs 0 w3.heap.size 109 66 (stL 0 0 zeros64) (stL 0 0 zeros64) rfl rfl 66 (by simp [stL_len, zeros64]) (by kernel_rfl) hFs (by omega) (stL_one _ _ _) w3 hBs hgs ?_; intro w5 hF5 hB5 hoth5 hz5))
  go_ret2
  exact ⟨rfl, Below.then_ hB13 hB5⟩
end
end Go.Proofs.Ytcfjbllmaejiaaa
