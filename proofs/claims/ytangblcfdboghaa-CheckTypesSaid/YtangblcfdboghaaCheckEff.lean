/-
  What each instruction takes from the stack, and puts there: check.effect, for every instruction of a right program.
-/
import Derived.Test.YtangblcfdboghaaCheckLeaf
import Derived.Test.YtangblcfdboghaaRegionE
namespace Go.Proofs.Ytangblcfdboghaa
open Go.RowKit
set_option linter.unusedVariables false

theorem pins_few3 (k : Nat) : (pinsF k).2.length ≤ 3 := by
  unfold pinsF
  repeat' split
  all_goals simp
theorem Fresh.spotC {w : World} {base n c : Nat} {A : Option Addr} {e : TypeId} {xs : List Value} (h : Fresh base e w A n c xs) (hn : 0 < n) : ∃ g, A = some ⟨g, 0, none⟩ ∧ base ≤ g ∧ g < w.heap.size := by
  rcases h.2 with ⟨hv, rfl⟩ | ⟨g, cap, cur, hv, hb, hg, _⟩
  · omega
  · simp only [Value.slice.injEq] at hv
    exact ⟨g, hv.1, hb, (Array.getElem?_eq_some_iff.1 hg).1⟩
section
variable {w : World} {ops : Array Oper} {Q : Exit → Act → World → Prop} {pr : Nat → Value → World → Prop} {i : Nat} {o : Oper} {a : Act} {base : Nat}
theorem run_bsT1 (z : UInt8) (w : World) : (Instr.buildSlice 41 1 #[(0, .int .u8 (z.toNat : Int))]).run Try.prog w = .ok (.slice (some ⟨w.heap.size, 0, none⟩) 1 1) (w.alloc (.cells (cb [z]).toArray 28 (0, 0))) := by kernel_rfl
theorem run_bsT2 (y z : UInt8) (w : World) : (Instr.buildSlice 41 2 #[(0, .int .u8 (y.toNat : Int)), (1, .int .u8 (z.toNat : Int))]).run Try.prog w = .ok (.slice (some ⟨w.heap.size, 0, none⟩) 2 2) (w.alloc (.cells (cb [y, z]).toArray 28 (0, 0))) := by kernel_rfl
theorem step_bsT1 (hg : o.guard = none) (x : Operand) (hop : o.op = .buildSlice 41 1 #[(0, x)]) (z : UInt8) (hx : a.eval x = .int .u8 (z.toNat : Int)) (hB : base ≤ w.heap.size)
    (hp : ∀ q w', Fresh base 28 w' (some ⟨q, 0, none⟩) 1 1 (cb [z]) → pr i (.slice (some ⟨q, 0, none⟩) 1 1) w') : StepOk Try.prog ops Q pr i o a w :=
  stepOk_run hg (v := .slice (some ⟨w.heap.size, 0, none⟩) 1 1) (w' := w.alloc (.cells (cb [z]).toArray 28 (0, 0))) (by simp [execOp, hop, hx, run_bsT1]) (hp _ _ ((Fresh.new w 28 (cb [z]) 1 rfl (by decide)).lower hB)) (below_alloc _ _)
theorem step_bsT2 (hg : o.guard = none) (x y : Operand) (hop : o.op = .buildSlice 41 2 #[(0, x), (1, y)]) (u z : UInt8) (hx : a.eval x = .int .u8 (u.toNat : Int)) (hy : a.eval y = .int .u8 (z.toNat : Int)) (hB : base ≤ w.heap.size)
    (hp : ∀ q w', Fresh base 28 w' (some ⟨q, 0, none⟩) 2 2 (cb [u, z]) → pr i (.slice (some ⟨q, 0, none⟩) 2 2) w') : StepOk Try.prog ops Q pr i o a w :=
  stepOk_run hg (v := .slice (some ⟨w.heap.size, 0, none⟩) 2 2) (w' := w.alloc (.cells (cb [u, z]).toArray 28 (0, 0))) (by simp [execOp, hop, hx, hy, run_bsT2]) (hp _ _ ((Fresh.new w 28 (cb [u, z]) 2 rfl (by decide)).lower hB)) (below_alloc _ _)
end
def ef3 (base k : Nat) (tt : UInt8) (j : Nat) (x : Value) (w : World) : Prop :=
  match j with
  | 0 => x = .pointer (some ⟨k, 1, none⟩)
  | 1 => x = .int .u8 (tt.toNat : Int)
  | 2 => ∃ q, x = .slice (some ⟨q, 0, none⟩) 1 1 ∧ Fresh base 28 w (some ⟨q, 0, none⟩) 1 1 (cb [tt])
  | 3 => x = .slice none 0 0
  | 4 => ∃ q, x = .slice (some ⟨q, 0, none⟩) 1 1 ∧ Fresh base 28 w (some ⟨q, 0, none⟩) 1 1 (cb [tt])
  | _ => True
theorem ef3_stab (base k : Nat) (tt : UInt8) : ∀ j x w w', Below w.heap.size w w' → ef3 base k tt j x w → ef3 base k tt j x w' := by
  intro j x w w' hb h
  unfold ef3 at *
  split at h <;> first | exact h | (obtain ⟨q, h1, h2⟩ := h; exact ⟨q, h1, h2.below hb⟩) | trivial
def ef5 (base g k b o ka : Nat) (av : Value) (vt : UInt8) (j : Nat) (x : Value) (w : World) : Prop :=
  match j with
  | 0 => x = .pointer (some ⟨g, 1, none⟩)
  | 1 => x = av
  | 2 => x = .pointer (some ⟨k, 2, none⟩)
  | 3 => x = .int .i64 (ka : Int)
  | 4 => x = .pointer (some ⟨b, o + ka * 4, none⟩)
  | 5 => x = .pointer (some ⟨b, o + ka * 4 + 2, none⟩)
  | 6 => x = .int .u8 (vt.toNat : Int)
  | 7 => ∃ q, x = .slice (some ⟨q, 0, none⟩) 1 1 ∧ Fresh base 28 w (some ⟨q, 0, none⟩) 1 1 (cb [vt])
  | 8 => x = .slice none 0 0
  | 9 => ∃ q, x = .slice (some ⟨q, 0, none⟩) 1 1 ∧ Fresh base 28 w (some ⟨q, 0, none⟩) 1 1 (cb [vt])
  | _ => True
theorem ef5_stab (base g k b o ka : Nat) (av : Value) (vt : UInt8) : ∀ j x w w', Below w.heap.size w w' → ef5 base g k b o ka av vt j x w → ef5 base g k b o ka av vt j x w' := by
  intro j x w w' hb h
  unfold ef5 at *
  split at h <;> first | exact h | (obtain ⟨q, h1, h2⟩ := h; exact ⟨q, h1, h2.below hb⟩) | trivial
def ef16 (base k : Nat) (tt : UInt8) (j : Nat) (x : Value) (w : World) : Prop :=
  match j with
  | 0 => x = .pointer (some ⟨k, 1, none⟩)
  | 1 => x = .int .u8 (tt.toNat : Int)
  | 2 => x = .pointer (some ⟨k, 1, none⟩)
  | 3 => x = .int .u8 (tt.toNat : Int)
  | 4 => ∃ q, x = .slice (some ⟨q, 0, none⟩) 2 2 ∧ Fresh base 28 w (some ⟨q, 0, none⟩) 2 2 (cb [tt, tt])
  | 5 => x = .pointer (some ⟨k, 1, none⟩)
  | 6 => x = .int .u8 (tt.toNat : Int)
  | 7 => ∃ q, x = .slice (some ⟨q, 0, none⟩) 1 1 ∧ Fresh base 28 w (some ⟨q, 0, none⟩) 1 1 (cb [tt])
  | 8 => ∃ q, x = .slice (some ⟨q, 0, none⟩) 2 2 ∧ Fresh base 28 w (some ⟨q, 0, none⟩) 2 2 (cb [tt, tt])
  | 9 => ∃ q, x = .slice (some ⟨q, 0, none⟩) 1 1 ∧ Fresh base 28 w (some ⟨q, 0, none⟩) 1 1 (cb [tt])
  | _ => True
theorem ef16_stab (base k : Nat) (tt : UInt8) : ∀ j x w w', Below w.heap.size w w' → ef16 base k tt j x w → ef16 base k tt j x w' := by
  intro j x w w' hb h
  unfold ef16 at *
  split at h <;> first | exact h | (obtain ⟨q, h1, h2⟩ := h; exact ⟨q, h1, h2.below hb⟩) | trivial
def ef18 (base k : Nat) (tt : UInt8) (j : Nat) (x : Value) (w : World) : Prop :=
  match j with
  | 0 => x = .pointer (some ⟨k, 1, none⟩)
  | 1 => x = .int .u8 (tt.toNat : Int)
  | 2 => ∃ q, x = .slice (some ⟨q, 0, none⟩) 1 1 ∧ Fresh base 28 w (some ⟨q, 0, none⟩) 1 1 (cb [tt])
  | 3 => x = .pointer (some ⟨k, 1, none⟩)
  | 4 => x = .int .u8 (tt.toNat : Int)
  | 5 => ∃ q, x = .slice (some ⟨q, 0, none⟩) 1 1 ∧ Fresh base 28 w (some ⟨q, 0, none⟩) 1 1 (cb [tt])
  | 6 => ∃ q, x = .slice (some ⟨q, 0, none⟩) 1 1 ∧ Fresh base 28 w (some ⟨q, 0, none⟩) 1 1 (cb [tt])
  | 7 => ∃ q, x = .slice (some ⟨q, 0, none⟩) 1 1 ∧ Fresh base 28 w (some ⟨q, 0, none⟩) 1 1 (cb [tt])
  | _ => True
theorem ef18_stab (base k : Nat) (tt : UInt8) : ∀ j x w w', Below w.heap.size w w' → ef18 base k tt j x w → ef18 base k tt j x w' := by
  intro j x w w' hb h
  unfold ef18 at *
  split at h <;> first | exact h | (obtain ⟨q, h1, h2⟩ := h; exact ⟨q, h1, h2.below hb⟩) | trivial
def ef23 (base k : Nat) (tt ta : UInt8) (j : Nat) (x : Value) (w : World) : Prop :=
  match j with
  | 0 => x = .pointer (some ⟨k, 2, none⟩)
  | 1 => x = .int .i64 (ta.toNat : Int)
  | 2 => x = .int .u8 (ta.toNat : Int)
  | 3 => ∃ q, x = .slice (some ⟨q, 0, none⟩) 1 1 ∧ Fresh base 28 w (some ⟨q, 0, none⟩) 1 1 (cb [ta])
  | 4 => x = .pointer (some ⟨k, 1, none⟩)
  | 5 => x = .int .u8 (tt.toNat : Int)
  | 6 => ∃ q, x = .slice (some ⟨q, 0, none⟩) 1 1 ∧ Fresh base 28 w (some ⟨q, 0, none⟩) 1 1 (cb [tt])
  | 7 => ∃ q, x = .slice (some ⟨q, 0, none⟩) 1 1 ∧ Fresh base 28 w (some ⟨q, 0, none⟩) 1 1 (cb [ta])
  | 8 => ∃ q, x = .slice (some ⟨q, 0, none⟩) 1 1 ∧ Fresh base 28 w (some ⟨q, 0, none⟩) 1 1 (cb [tt])
  | _ => True
theorem ef23_stab (base k : Nat) (tt ta : UInt8) : ∀ j x w w', Below w.heap.size w w' → ef23 base k tt ta j x w → ef23 base k tt ta j x w' := by
  intro j x w w' hb h
  unfold ef23 at *
  split at h <;> first | exact h | (obtain ⟨q, h1, h2⟩ := h; exact ⟨q, h1, h2.below hb⟩) | trivial
def ef36 (base k G kn N d : Nat) (vt : UInt8) (j : Nat) (x : Value) (w : World) : Prop :=
  match j with
  | 0 => x = .slice (some ⟨G, 0, none⟩) N d
  | 1 => x = .pointer (some ⟨k, 3, none⟩)
  | 2 => x = .int .i64 (kn : Int)
  | 3 => x = .pointer (some ⟨G, kn, none⟩)
  | 4 => x = .int .u8 (vt.toNat : Int)
  | 5 => ∃ q, x = .slice (some ⟨q, 0, none⟩) 1 1 ∧ Fresh base 28 w (some ⟨q, 0, none⟩) 1 1 (cb [vt])
  | 6 => x = .slice none 0 0
  | 7 => ∃ q, x = .slice (some ⟨q, 0, none⟩) 1 1 ∧ Fresh base 28 w (some ⟨q, 0, none⟩) 1 1 (cb [vt])
  | _ => True
theorem ef36_stab (base k G kn N d : Nat) (vt : UInt8) : ∀ j x w w', Below w.heap.size w w' → ef36 base k G kn N d vt j x w → ef36 base k G kn N d vt j x w' := by
  intro j x w w' hb h
  unfold ef36 at *
  split at h <;> first | exact h | (obtain ⟨q, h1, h2⟩ := h; exact ⟨q, h1, h2.below hb⟩) | trivial
set_option maxHeartbeats 4000000 in
set_option maxRecDepth 100000 in
theorem eff1_any (m : Pm) (j : Jn) (A : Option Addr) (c n : Nat) (st : List UInt8) (w : World) (hm : PmAt w.heap.size w m) (hs : Sees w w.heap.size A (cb st)) (hl : st.length = n) (hn : n ≤ 1099511627776) (hj : j.t < 256) (hop : j.op = 1)  :
    Calls Try.prog 96 #[.agg m.cells.toArray, .agg j.cells.toArray, .slice A n c] w (TwoMade w (effF m.p j st)) := by
  have eop : (j.op : Int) = 1 := by omega
  obtain ⟨tt, htt⟩ : ∃ tt : UInt8, tt.toNat = j.t := ⟨UInt8.ofNat j.t, by rw [UInt8.toNat_ofNat']; omega⟩
  have ett : UInt8.ofNat j.t = tt := by rw [← htt, UInt8.ofNat_toNat]
  have HTT := Lib.hid htt
  clear htt
  rw [show effF m.p j st = ([], [tt]) from by simp [effF, hop, -List.getD_eq_getElem?_getD, ett]]
  clear hop
  clear hm hs
  go_enter Try.func96, Try.ntmps96
  go_wp2_with (first
    | (with_reducible refine wpList_box (o := ⟨some 3, _, _, _, _, _⟩) rfl (.tmp 0) 26 rfl m.cells rfl 4 (pm4 m) (by decide) ?_; intro g w1 hg hF hB1)
    | ((with_reducible refine wpList_box (o := ⟨some 4, _, _, _, _, _⟩) rfl (.tmp 1) 53 rfl j.cells rfl 4 (jn4 j) (by decide) ?_); intro k w2 hk hK hB2; have hF2 := hF.below hB2; have hBw := Below.then_ hB1 hB2; have hbs := hBw.size; have f0 := hK.cell_ (k := 0) rfl; rw [eop] at f0))
  refine region_all_end (ef3 w.heap.size k tt) (by kernel_rfl) (by kernel_rfl) (ef3_stab _ _ _) ?_ ?_
  · intro w0 hb0
    refine ⟨?_, ?_, ?_, ?_, ?_, trivial⟩
    all_goals intro listed a1 w' hk1 hd1
    · have f4_ : a1.eval (.tmp 4) = .pointer (some ⟨k, 0, none⟩) := hk1.ev_old 4 (by kernel_rfl)
      have g4_ : a1.tmps[4]?.getD undef = .pointer (some ⟨k, 0, none⟩) := by simpa [Act.eval] using f4_
      exact stepOk_value rfl (v := .pointer (some ⟨k, 1, none⟩)) (by go_simp) rfl
    · obtain ⟨y0, e0, q0, rfl⟩ := hk1.ev_new hd1 0 17 (by kernel_rfl) rfl
      have kc := ((hK.below hb0).below hk1.below).cell_ (k := 1) (u := .int .u8 (tt.toNat : Int)) (by rw [HTT.out]; rfl)
      exact stepOk_value rfl (v := .int .u8 (tt.toNat : Int)) (by go_simp) rfl
    · obtain ⟨y1, e1, q1, rfl⟩ := hk1.ev_new hd1 1 18 (by kernel_rfl) rfl
      refine step_bsT1 rfl (.tmp 18) rfl tt e1 (Nat.le_trans hbs (Nat.le_trans hb0.size hk1.below.size)) (fun q w' hq => ⟨q, rfl, hq⟩)
    · exact stepOk_value rfl (v := .slice none 0 0) (by go_simp) rfl
    · obtain ⟨y2, e2, r2, q2⟩ := hk1.ev_new hd1 2 19 (by kernel_rfl) rfl
      obtain ⟨q, rfl, hq⟩ := q2
      exact stepOk_value rfl (v := .slice (some ⟨q, 0, none⟩) 1 1) (by go_simp) ⟨q, rfl, hq⟩
  · intro a1 w7 hb7 hp
    obtain ⟨x0, p0, x1, p1, x2, p2, x3, p3, x4, p4, rfl⟩ := hp
    simp only [ef3] at p0 p1 p2 p3 p4
    obtain ⟨q2, rfl, -⟩ := p2
    obtain ⟨q4, rfl, hF4⟩ := p4
    subst p0 p1 p3
    simp only [Act.put, List.setIfInBounds_toArray, List.set_cons_succ, List.set_cons_zero]
    have hB7 := Below.then_ hBw hb7
    go_wp2_with fail
    go_ret2
    exact ⟨_, _, _, _, rfl, fresh_nil _ _ _, hF4, hB7⟩
set_option maxHeartbeats 4000000 in
set_option maxRecDepth 100000 in
theorem eff2_any (m : Pm) (j : Jn) (A : Option Addr) (c n : Nat) (st : List UInt8) (w : World) (hm : PmAt w.heap.size w m) (hs : Sees w w.heap.size A (cb st)) (hl : st.length = n) (hn : n ≤ 1099511627776) (hj : j.t < 256) (hop : j.op = 2) (ha : 0 ≤ j.a ∧ j.a < m.nv) :
    Calls Try.prog 96 #[.agg m.cells.toArray, .agg j.cells.toArray, .slice A n c] w (TwoMade w (effF m.p j st)) := by
  have eop : (j.op : Int) = 2 := by omega
  obtain ⟨ka, hka⟩ : ∃ ka : Nat, j.a = ka := ⟨j.a.toNat, by omega⟩
  have hkl : ka < m.nv := by omega
  obtain ⟨b, o, hA, hb, v, HX, hx, hv0⟩ := hm.vars.quad vr4 hm.nv hkl
  obtain ⟨vt, hvt⟩ : ∃ vt : UInt8, vt.toNat = v.typ := ⟨UInt8.ofNat v.typ, by have := (hm.okv v hx).typ; rw [UInt8.toNat_ofNat']; omega⟩
  have evt : UInt8.ofNat (m.p.vars.getD j.a.toNat default).typ = vt := by
    have e1 : m.p.vars.getD j.a.toNat default = v := by
      rw [hka, Int.toNat_natCast]
      simp [List.getD, HX.out]
    rw [e1, ← hvt, UInt8.ofNat_toNat]
  have HVT := Lib.hid hvt
  clear hvt
  have hcc : m.cells = [sv m.p.name, .slice (some ⟨b, o, none⟩) m.nv m.cv, .slice m.ab m.nb m.cb, .slice m.ai m.ni m.ci] := by rw [Pm.cells, hA]
  have hsm := hm.small.1
  rw [show effF m.p j st = ([], [vt]) from by simp [effF, hop, -List.getD_eq_getElem?_getD, evt]]
  clear hop
  clear hm hs hA HX
  go_enter Try.func96, Try.ntmps96
  go_wp2_with (first
    | (with_reducible refine wpList_box (o := ⟨some 3, _, _, _, _, _⟩) rfl (.tmp 0) 26 rfl m.cells rfl 4 (pm4 m) (by decide) ?_; intro g w1 hg hF hB1)
    | ((with_reducible refine wpList_box (o := ⟨some 4, _, _, _, _, _⟩) rfl (.tmp 1) 53 rfl j.cells rfl 4 (jn4 j) (by decide) ?_); intro k w2 hk hK hB2; have hF2 := hF.below hB2; have hBw := Below.then_ hB1 hB2; have hbs := hBw.size; have f0 := hK.cell_ (k := 0) rfl; rw [eop] at f0; have hv := (hv0.below hBw).more hbs))
  refine region_all_end (ef5 w.heap.size g k b o ka (.slice (some ⟨b, o, none⟩) m.nv m.cv) vt) (by kernel_rfl) (by kernel_rfl) (ef5_stab _ _ _ _ _ _ _ _) ?_ ?_
  · intro w0 hb0
    refine ⟨?_, ?_, ?_, ?_, ?_, ?_, ?_, ?_, ?_, ?_, trivial⟩
    all_goals intro listed a1 w' hk1 hd1
    · have f3_ : a1.eval (.tmp 3) = .pointer (some ⟨g, 0, none⟩) := hk1.ev_old 3 (by kernel_rfl)
      have g3_ : a1.tmps[3]?.getD undef = .pointer (some ⟨g, 0, none⟩) := by simpa [Act.eval] using f3_
      exact stepOk_value rfl (v := .pointer (some ⟨g, 1, none⟩)) (by go_simp) rfl
    · obtain ⟨y0, e0, q0, rfl⟩ := hk1.ev_new hd1 0 22 (by kernel_rfl) rfl
      have kc := ((hF2.below hb0).below hk1.below).cell_ (k := 1) (u := .slice (some ⟨b, o, none⟩) m.nv m.cv) (by rw [hcc]; rfl)
      exact stepOk_value rfl (v := .slice (some ⟨b, o, none⟩) m.nv m.cv) (by go_simp) rfl
    · have f4_ : a1.eval (.tmp 4) = .pointer (some ⟨k, 0, none⟩) := hk1.ev_old 4 (by kernel_rfl)
      have g4_ : a1.tmps[4]?.getD undef = .pointer (some ⟨k, 0, none⟩) := by simpa [Act.eval] using f4_
      exact stepOk_value rfl (v := .pointer (some ⟨k, 2, none⟩)) (by go_simp) rfl
    · obtain ⟨y2, e2, q2, rfl⟩ := hk1.ev_new hd1 2 24 (by kernel_rfl) rfl
      have kc := ((hK.below hb0).below hk1.below).cell_ (k := 2) (u := .int .i64 (ka : Int)) (by rw [← hka]; rfl)
      exact stepOk_value rfl (v := .int .i64 (ka : Int)) (by go_simp) rfl
    · obtain ⟨y1, e1, q1, rfl⟩ := hk1.ev_new hd1 1 23 (by kernel_rfl) rfl
      obtain ⟨y3, e3, q3, rfl⟩ := hk1.ev_new hd1 3 25 (by kernel_rfl) rfl
      exact stepOk_value rfl (v := .pointer (some ⟨b, o + ka * 4, none⟩)) (by go_simp) rfl
    · obtain ⟨y4, e4, q4, rfl⟩ := hk1.ev_new hd1 4 26 (by kernel_rfl) rfl
      exact stepOk_value rfl (v := .pointer (some ⟨b, o + ka * 4 + 2, none⟩)) (by go_simp) rfl
    · obtain ⟨y5, e5, q5, rfl⟩ := hk1.ev_new hd1 5 27 (by kernel_rfl) rfl
      have kc : w'.cell? ⟨b, o + ka * 4 + 2, none⟩ = some (.int .u8 (vt.toNat : Int)) := by rw [HVT.out]; exact ((hv.step hb0).step hk1.below).cell4 2 _ rfl
      exact stepOk_value rfl (v := .int .u8 (vt.toNat : Int)) (by go_simp) rfl
    · obtain ⟨y6, e6, q6, rfl⟩ := hk1.ev_new hd1 6 28 (by kernel_rfl) rfl
      refine step_bsT1 rfl (.tmp 28) rfl vt e6 (Nat.le_trans hbs (Nat.le_trans hb0.size hk1.below.size)) (fun q w' hq => ⟨q, rfl, hq⟩)
    · exact stepOk_value rfl (v := .slice none 0 0) (by go_simp) rfl
    · obtain ⟨y7, e7, r7, q7⟩ := hk1.ev_new hd1 7 29 (by kernel_rfl) rfl
      obtain ⟨q, rfl, hq⟩ := q7
      exact stepOk_value rfl (v := .slice (some ⟨q, 0, none⟩) 1 1) (by go_simp) ⟨q, rfl, hq⟩
  · intro a1 w7 hb7 hp
    obtain ⟨x0, p0, x1, p1, x2, p2, x3, p3, x4, p4, x5, p5, x6, p6, x7, p7, x8, p8, x9, p9, rfl⟩ := hp
    simp only [ef5] at p0 p1 p2 p3 p4 p5 p6 p7 p8 p9
    obtain ⟨q2, rfl, -⟩ := p7
    obtain ⟨q4, rfl, hF4⟩ := p9
    subst p0 p1 p2 p3 p4 p5 p6 p8
    simp only [Act.put, List.setIfInBounds_toArray, List.set_cons_succ, List.set_cons_zero]
    have hB7 := Below.then_ hBw hb7
    go_wp2_with fail
    go_ret2
    exact ⟨_, _, _, _, rfl, fresh_nil _ _ _, hF4, hB7⟩
set_option maxHeartbeats 4000000 in
set_option maxRecDepth 100000 in
theorem eff3_any (m : Pm) (j : Jn) (A : Option Addr) (c n : Nat) (st : List UInt8) (w : World) (hm : PmAt w.heap.size w m) (hs : Sees w w.heap.size A (cb st)) (hl : st.length = n) (hn : n ≤ 1099511627776) (hj : j.t < 256) (hop : j.op = 3) (ha : 0 ≤ j.a ∧ j.a < m.nv) :
    Calls Try.prog 96 #[.agg m.cells.toArray, .agg j.cells.toArray, .slice A n c] w (TwoMade w (effF m.p j st)) := by
  have eop : (j.op : Int) = 3 := by omega
  obtain ⟨ka, hka⟩ : ∃ ka : Nat, j.a = ka := ⟨j.a.toNat, by omega⟩
  have hkl : ka < m.nv := by omega
  obtain ⟨b, o, hA, hb, v, HX, hx, hv0⟩ := hm.vars.quad vr4 hm.nv hkl
  obtain ⟨vt, hvt⟩ : ∃ vt : UInt8, vt.toNat = v.typ := ⟨UInt8.ofNat v.typ, by have := (hm.okv v hx).typ; rw [UInt8.toNat_ofNat']; omega⟩
  have evt : UInt8.ofNat (m.p.vars.getD j.a.toNat default).typ = vt := by
    have e1 : m.p.vars.getD j.a.toNat default = v := by
      rw [hka, Int.toNat_natCast]
      simp [List.getD, HX.out]
    rw [e1, ← hvt, UInt8.ofNat_toNat]
  have HVT := Lib.hid hvt
  clear hvt
  have hcc : m.cells = [sv m.p.name, .slice (some ⟨b, o, none⟩) m.nv m.cv, .slice m.ab m.nb m.cb, .slice m.ai m.ni m.ci] := by rw [Pm.cells, hA]
  have hsm := hm.small.1
  rw [show effF m.p j st = ([vt], []) from by simp [effF, hop, -List.getD_eq_getElem?_getD, evt]]
  clear hop
  clear hm hs hA HX
  go_enter Try.func96, Try.ntmps96
  go_wp2_with (first
    | (with_reducible refine wpList_box (o := ⟨some 3, _, _, _, _, _⟩) rfl (.tmp 0) 26 rfl m.cells rfl 4 (pm4 m) (by decide) ?_; intro g w1 hg hF hB1)
    | ((with_reducible refine wpList_box (o := ⟨some 4, _, _, _, _, _⟩) rfl (.tmp 1) 53 rfl j.cells rfl 4 (jn4 j) (by decide) ?_); intro k w2 hk hK hB2; have hF2 := hF.below hB2; have hBw := Below.then_ hB1 hB2; have hbs := hBw.size; have f0 := hK.cell_ (k := 0) rfl; rw [eop] at f0; have hv := (hv0.below hBw).more hbs; have f3 := hF2.cell_ (k := 1) (u := .slice (some ⟨b, o, none⟩) m.nv m.cv) (by rw [hcc]; rfl); have f2 := hK.cell_ (k := 2) (u := .int .i64 (ka : Int)) (by rw [← hka]; rfl); have fv : w2.cell? ⟨b, o + ka * 4 + 2, none⟩ = some (.int .u8 (vt.toNat : Int)) := by rw [HVT.out]; exact hv.cell4 2 _ rfl))
  go_ret2
  exact ⟨_, _, _, _, rfl, (Fresh.new w2 28 (cb [vt]) 1 rfl (by decide)).lower hbs, fresh_nil _ _ _, Below.then_ hBw (below_alloc _ _)⟩
set_option maxHeartbeats 4000000 in
set_option maxRecDepth 100000 in
theorem eff4_any (m : Pm) (j : Jn) (A : Option Addr) (c n : Nat) (st : List UInt8) (w : World) (hm : PmAt w.heap.size w m) (hs : Sees w w.heap.size A (cb st)) (hl : st.length = n) (hn : n ≤ 1099511627776) (hj : j.t < 256) (hop : j.op = 4)  :
    Calls Try.prog 96 #[.agg m.cells.toArray, .agg j.cells.toArray, .slice A n c] w (TwoMade w (effF m.p j st)) := by
  have eop : (j.op : Int) = 4 := by omega
  obtain ⟨tt, htt⟩ : ∃ tt : UInt8, tt.toNat = j.t := ⟨UInt8.ofNat j.t, by rw [UInt8.toNat_ofNat']; omega⟩
  have ett : UInt8.ofNat j.t = tt := by rw [← htt, UInt8.ofNat_toNat]
  have HTT := Lib.hid htt
  clear htt
  rw [show effF m.p j st = ([tt, tt], [tt]) from by simp [effF, hop, -List.getD_eq_getElem?_getD, ett]]
  clear hop
  clear hm hs
  go_enter Try.func96, Try.ntmps96
  go_wp2_with (first
    | (with_reducible refine wpList_box (o := ⟨some 3, _, _, _, _, _⟩) rfl (.tmp 0) 26 rfl m.cells rfl 4 (pm4 m) (by decide) ?_; intro g w1 hg hF hB1)
    | ((with_reducible refine wpList_box (o := ⟨some 4, _, _, _, _, _⟩) rfl (.tmp 1) 53 rfl j.cells rfl 4 (jn4 j) (by decide) ?_); intro k w2 hk hK hB2; have hF2 := hF.below hB2; have hBw := Below.then_ hB1 hB2; have hbs := hBw.size; have f0 := hK.cell_ (k := 0) rfl; rw [eop] at f0))
  refine region_all_end (ef16 w.heap.size k tt) (by kernel_rfl) (by kernel_rfl) (ef16_stab _ _ _) ?_ ?_
  · intro w0 hb0
    refine ⟨?_, ?_, ?_, ?_, ?_, ?_, ?_, ?_, ?_, ?_, trivial⟩
    all_goals intro listed a1 w' hk1 hd1
    · have f4_ : a1.eval (.tmp 4) = .pointer (some ⟨k, 0, none⟩) := hk1.ev_old 4 (by kernel_rfl)
      have g4_ : a1.tmps[4]?.getD undef = .pointer (some ⟨k, 0, none⟩) := by simpa [Act.eval] using f4_
      exact stepOk_value rfl (v := .pointer (some ⟨k, 1, none⟩)) (by go_simp) rfl
    · obtain ⟨y0, e0, q0, rfl⟩ := hk1.ev_new hd1 0 49 (by kernel_rfl) rfl
      have kc := ((hK.below hb0).below hk1.below).cell_ (k := 1) (u := .int .u8 (tt.toNat : Int)) (by rw [HTT.out]; rfl)
      exact stepOk_value rfl (v := .int .u8 (tt.toNat : Int)) (by go_simp) rfl
    · have f4_ : a1.eval (.tmp 4) = .pointer (some ⟨k, 0, none⟩) := hk1.ev_old 4 (by kernel_rfl)
      have g4_ : a1.tmps[4]?.getD undef = .pointer (some ⟨k, 0, none⟩) := by simpa [Act.eval] using f4_
      exact stepOk_value rfl (v := .pointer (some ⟨k, 1, none⟩)) (by go_simp) rfl
    · obtain ⟨y2, e2, q2, rfl⟩ := hk1.ev_new hd1 2 51 (by kernel_rfl) rfl
      have kc := ((hK.below hb0).below hk1.below).cell_ (k := 1) (u := .int .u8 (tt.toNat : Int)) (by rw [HTT.out]; rfl)
      exact stepOk_value rfl (v := .int .u8 (tt.toNat : Int)) (by go_simp) rfl
    · obtain ⟨y1, e1, q1, rfl⟩ := hk1.ev_new hd1 1 50 (by kernel_rfl) rfl
      obtain ⟨y3, e3, q3, rfl⟩ := hk1.ev_new hd1 3 52 (by kernel_rfl) rfl
      refine step_bsT2 rfl (.tmp 50) (.tmp 52) rfl tt tt e1 e3 (Nat.le_trans hbs (Nat.le_trans hb0.size hk1.below.size)) (fun q w' hq => ⟨q, rfl, hq⟩)
    · have f4_ : a1.eval (.tmp 4) = .pointer (some ⟨k, 0, none⟩) := hk1.ev_old 4 (by kernel_rfl)
      have g4_ : a1.tmps[4]?.getD undef = .pointer (some ⟨k, 0, none⟩) := by simpa [Act.eval] using f4_
      exact stepOk_value rfl (v := .pointer (some ⟨k, 1, none⟩)) (by go_simp) rfl
    · obtain ⟨y5, e5, q5, rfl⟩ := hk1.ev_new hd1 5 54 (by kernel_rfl) rfl
      have kc := ((hK.below hb0).below hk1.below).cell_ (k := 1) (u := .int .u8 (tt.toNat : Int)) (by rw [HTT.out]; rfl)
      exact stepOk_value rfl (v := .int .u8 (tt.toNat : Int)) (by go_simp) rfl
    · obtain ⟨y6, e6, q6, rfl⟩ := hk1.ev_new hd1 6 55 (by kernel_rfl) rfl
      refine step_bsT1 rfl (.tmp 55) rfl tt e6 (Nat.le_trans hbs (Nat.le_trans hb0.size hk1.below.size)) (fun q w' hq => ⟨q, rfl, hq⟩)
    · obtain ⟨y4, e4, r4, q4⟩ := hk1.ev_new hd1 4 53 (by kernel_rfl) rfl
      obtain ⟨q, rfl, hq⟩ := q4
      exact stepOk_value rfl (v := .slice (some ⟨q, 0, none⟩) 2 2) (by go_simp) ⟨q, rfl, hq⟩
    · obtain ⟨y7, e7, r7, q7⟩ := hk1.ev_new hd1 7 56 (by kernel_rfl) rfl
      obtain ⟨q, rfl, hq⟩ := q7
      exact stepOk_value rfl (v := .slice (some ⟨q, 0, none⟩) 1 1) (by go_simp) ⟨q, rfl, hq⟩
  · intro a1 w7 hb7 hp
    obtain ⟨x0, p0, x1, p1, x2, p2, x3, p3, x4, p4, x5, p5, x6, p6, x7, p7, x8, p8, x9, p9, rfl⟩ := hp
    simp only [ef16] at p0 p1 p2 p3 p4 p5 p6 p7 p8 p9
    obtain ⟨q2, rfl, -⟩ := p4
    obtain ⟨q3, rfl, -⟩ := p7
    obtain ⟨q4, rfl, hF4⟩ := p8
    obtain ⟨q5, rfl, hF5⟩ := p9
    subst p0 p1 p2 p3 p5 p6
    simp only [Act.put, List.setIfInBounds_toArray, List.set_cons_succ, List.set_cons_zero]
    have hB7 := Below.then_ hBw hb7
    go_wp2_with fail
    go_ret2
    exact ⟨_, _, _, _, rfl, hF4, hF5, hB7⟩
set_option maxHeartbeats 4000000 in
set_option maxRecDepth 100000 in
theorem eff5_any (m : Pm) (j : Jn) (A : Option Addr) (c n : Nat) (st : List UInt8) (w : World) (hm : PmAt w.heap.size w m) (hs : Sees w w.heap.size A (cb st)) (hl : st.length = n) (hn : n ≤ 1099511627776) (hj : j.t < 256) (hop : j.op = 5)  :
    Calls Try.prog 96 #[.agg m.cells.toArray, .agg j.cells.toArray, .slice A n c] w (TwoMade w (effF m.p j st)) := by
  have eop : (j.op : Int) = 5 := by omega
  obtain ⟨tt, htt⟩ : ∃ tt : UInt8, tt.toNat = j.t := ⟨UInt8.ofNat j.t, by rw [UInt8.toNat_ofNat']; omega⟩
  have ett : UInt8.ofNat j.t = tt := by rw [← htt, UInt8.ofNat_toNat]
  have HTT := Lib.hid htt
  clear htt
  rw [show effF m.p j st = ([tt, tt], [tt]) from by simp [effF, hop, -List.getD_eq_getElem?_getD, ett]]
  clear hop
  clear hm hs
  go_enter Try.func96, Try.ntmps96
  go_wp2_with (first
    | (with_reducible refine wpList_box (o := ⟨some 3, _, _, _, _, _⟩) rfl (.tmp 0) 26 rfl m.cells rfl 4 (pm4 m) (by decide) ?_; intro g w1 hg hF hB1)
    | ((with_reducible refine wpList_box (o := ⟨some 4, _, _, _, _, _⟩) rfl (.tmp 1) 53 rfl j.cells rfl 4 (jn4 j) (by decide) ?_); intro k w2 hk hK hB2; have hF2 := hF.below hB2; have hBw := Below.then_ hB1 hB2; have hbs := hBw.size; have f0 := hK.cell_ (k := 0) rfl; rw [eop] at f0))
  refine region_all_end (ef16 w.heap.size k tt) (by kernel_rfl) (by kernel_rfl) (ef16_stab _ _ _) ?_ ?_
  · intro w0 hb0
    refine ⟨?_, ?_, ?_, ?_, ?_, ?_, ?_, ?_, ?_, ?_, trivial⟩
    all_goals intro listed a1 w' hk1 hd1
    · have f4_ : a1.eval (.tmp 4) = .pointer (some ⟨k, 0, none⟩) := hk1.ev_old 4 (by kernel_rfl)
      have g4_ : a1.tmps[4]?.getD undef = .pointer (some ⟨k, 0, none⟩) := by simpa [Act.eval] using f4_
      exact stepOk_value rfl (v := .pointer (some ⟨k, 1, none⟩)) (by go_simp) rfl
    · obtain ⟨y0, e0, q0, rfl⟩ := hk1.ev_new hd1 0 49 (by kernel_rfl) rfl
      have kc := ((hK.below hb0).below hk1.below).cell_ (k := 1) (u := .int .u8 (tt.toNat : Int)) (by rw [HTT.out]; rfl)
      exact stepOk_value rfl (v := .int .u8 (tt.toNat : Int)) (by go_simp) rfl
    · have f4_ : a1.eval (.tmp 4) = .pointer (some ⟨k, 0, none⟩) := hk1.ev_old 4 (by kernel_rfl)
      have g4_ : a1.tmps[4]?.getD undef = .pointer (some ⟨k, 0, none⟩) := by simpa [Act.eval] using f4_
      exact stepOk_value rfl (v := .pointer (some ⟨k, 1, none⟩)) (by go_simp) rfl
    · obtain ⟨y2, e2, q2, rfl⟩ := hk1.ev_new hd1 2 51 (by kernel_rfl) rfl
      have kc := ((hK.below hb0).below hk1.below).cell_ (k := 1) (u := .int .u8 (tt.toNat : Int)) (by rw [HTT.out]; rfl)
      exact stepOk_value rfl (v := .int .u8 (tt.toNat : Int)) (by go_simp) rfl
    · obtain ⟨y1, e1, q1, rfl⟩ := hk1.ev_new hd1 1 50 (by kernel_rfl) rfl
      obtain ⟨y3, e3, q3, rfl⟩ := hk1.ev_new hd1 3 52 (by kernel_rfl) rfl
      refine step_bsT2 rfl (.tmp 50) (.tmp 52) rfl tt tt e1 e3 (Nat.le_trans hbs (Nat.le_trans hb0.size hk1.below.size)) (fun q w' hq => ⟨q, rfl, hq⟩)
    · have f4_ : a1.eval (.tmp 4) = .pointer (some ⟨k, 0, none⟩) := hk1.ev_old 4 (by kernel_rfl)
      have g4_ : a1.tmps[4]?.getD undef = .pointer (some ⟨k, 0, none⟩) := by simpa [Act.eval] using f4_
      exact stepOk_value rfl (v := .pointer (some ⟨k, 1, none⟩)) (by go_simp) rfl
    · obtain ⟨y5, e5, q5, rfl⟩ := hk1.ev_new hd1 5 54 (by kernel_rfl) rfl
      have kc := ((hK.below hb0).below hk1.below).cell_ (k := 1) (u := .int .u8 (tt.toNat : Int)) (by rw [HTT.out]; rfl)
      exact stepOk_value rfl (v := .int .u8 (tt.toNat : Int)) (by go_simp) rfl
    · obtain ⟨y6, e6, q6, rfl⟩ := hk1.ev_new hd1 6 55 (by kernel_rfl) rfl
      refine step_bsT1 rfl (.tmp 55) rfl tt e6 (Nat.le_trans hbs (Nat.le_trans hb0.size hk1.below.size)) (fun q w' hq => ⟨q, rfl, hq⟩)
    · obtain ⟨y4, e4, r4, q4⟩ := hk1.ev_new hd1 4 53 (by kernel_rfl) rfl
      obtain ⟨q, rfl, hq⟩ := q4
      exact stepOk_value rfl (v := .slice (some ⟨q, 0, none⟩) 2 2) (by go_simp) ⟨q, rfl, hq⟩
    · obtain ⟨y7, e7, r7, q7⟩ := hk1.ev_new hd1 7 56 (by kernel_rfl) rfl
      obtain ⟨q, rfl, hq⟩ := q7
      exact stepOk_value rfl (v := .slice (some ⟨q, 0, none⟩) 1 1) (by go_simp) ⟨q, rfl, hq⟩
  · intro a1 w7 hb7 hp
    obtain ⟨x0, p0, x1, p1, x2, p2, x3, p3, x4, p4, x5, p5, x6, p6, x7, p7, x8, p8, x9, p9, rfl⟩ := hp
    simp only [ef16] at p0 p1 p2 p3 p4 p5 p6 p7 p8 p9
    obtain ⟨q2, rfl, -⟩ := p4
    obtain ⟨q3, rfl, -⟩ := p7
    obtain ⟨q4, rfl, hF4⟩ := p8
    obtain ⟨q5, rfl, hF5⟩ := p9
    subst p0 p1 p2 p3 p5 p6
    simp only [Act.put, List.setIfInBounds_toArray, List.set_cons_succ, List.set_cons_zero]
    have hB7 := Below.then_ hBw hb7
    go_wp2_with fail
    go_ret2
    exact ⟨_, _, _, _, rfl, hF4, hF5, hB7⟩
set_option maxHeartbeats 4000000 in
set_option maxRecDepth 100000 in
theorem eff6_any (m : Pm) (j : Jn) (A : Option Addr) (c n : Nat) (st : List UInt8) (w : World) (hm : PmAt w.heap.size w m) (hs : Sees w w.heap.size A (cb st)) (hl : st.length = n) (hn : n ≤ 1099511627776) (hj : j.t < 256) (hop : j.op = 6)  :
    Calls Try.prog 96 #[.agg m.cells.toArray, .agg j.cells.toArray, .slice A n c] w (TwoMade w (effF m.p j st)) := by
  have eop : (j.op : Int) = 6 := by omega
  obtain ⟨tt, htt⟩ : ∃ tt : UInt8, tt.toNat = j.t := ⟨UInt8.ofNat j.t, by rw [UInt8.toNat_ofNat']; omega⟩
  have ett : UInt8.ofNat j.t = tt := by rw [← htt, UInt8.ofNat_toNat]
  have HTT := Lib.hid htt
  clear htt
  rw [show effF m.p j st = ([tt, tt], [tt]) from by simp [effF, hop, -List.getD_eq_getElem?_getD, ett]]
  clear hop
  clear hm hs
  go_enter Try.func96, Try.ntmps96
  go_wp2_with (first
    | (with_reducible refine wpList_box (o := ⟨some 3, _, _, _, _, _⟩) rfl (.tmp 0) 26 rfl m.cells rfl 4 (pm4 m) (by decide) ?_; intro g w1 hg hF hB1)
    | ((with_reducible refine wpList_box (o := ⟨some 4, _, _, _, _, _⟩) rfl (.tmp 1) 53 rfl j.cells rfl 4 (jn4 j) (by decide) ?_); intro k w2 hk hK hB2; have hF2 := hF.below hB2; have hBw := Below.then_ hB1 hB2; have hbs := hBw.size; have f0 := hK.cell_ (k := 0) rfl; rw [eop] at f0))
  refine region_all_end (ef16 w.heap.size k tt) (by kernel_rfl) (by kernel_rfl) (ef16_stab _ _ _) ?_ ?_
  · intro w0 hb0
    refine ⟨?_, ?_, ?_, ?_, ?_, ?_, ?_, ?_, ?_, ?_, trivial⟩
    all_goals intro listed a1 w' hk1 hd1
    · have f4_ : a1.eval (.tmp 4) = .pointer (some ⟨k, 0, none⟩) := hk1.ev_old 4 (by kernel_rfl)
      have g4_ : a1.tmps[4]?.getD undef = .pointer (some ⟨k, 0, none⟩) := by simpa [Act.eval] using f4_
      exact stepOk_value rfl (v := .pointer (some ⟨k, 1, none⟩)) (by go_simp) rfl
    · obtain ⟨y0, e0, q0, rfl⟩ := hk1.ev_new hd1 0 49 (by kernel_rfl) rfl
      have kc := ((hK.below hb0).below hk1.below).cell_ (k := 1) (u := .int .u8 (tt.toNat : Int)) (by rw [HTT.out]; rfl)
      exact stepOk_value rfl (v := .int .u8 (tt.toNat : Int)) (by go_simp) rfl
    · have f4_ : a1.eval (.tmp 4) = .pointer (some ⟨k, 0, none⟩) := hk1.ev_old 4 (by kernel_rfl)
      have g4_ : a1.tmps[4]?.getD undef = .pointer (some ⟨k, 0, none⟩) := by simpa [Act.eval] using f4_
      exact stepOk_value rfl (v := .pointer (some ⟨k, 1, none⟩)) (by go_simp) rfl
    · obtain ⟨y2, e2, q2, rfl⟩ := hk1.ev_new hd1 2 51 (by kernel_rfl) rfl
      have kc := ((hK.below hb0).below hk1.below).cell_ (k := 1) (u := .int .u8 (tt.toNat : Int)) (by rw [HTT.out]; rfl)
      exact stepOk_value rfl (v := .int .u8 (tt.toNat : Int)) (by go_simp) rfl
    · obtain ⟨y1, e1, q1, rfl⟩ := hk1.ev_new hd1 1 50 (by kernel_rfl) rfl
      obtain ⟨y3, e3, q3, rfl⟩ := hk1.ev_new hd1 3 52 (by kernel_rfl) rfl
      refine step_bsT2 rfl (.tmp 50) (.tmp 52) rfl tt tt e1 e3 (Nat.le_trans hbs (Nat.le_trans hb0.size hk1.below.size)) (fun q w' hq => ⟨q, rfl, hq⟩)
    · have f4_ : a1.eval (.tmp 4) = .pointer (some ⟨k, 0, none⟩) := hk1.ev_old 4 (by kernel_rfl)
      have g4_ : a1.tmps[4]?.getD undef = .pointer (some ⟨k, 0, none⟩) := by simpa [Act.eval] using f4_
      exact stepOk_value rfl (v := .pointer (some ⟨k, 1, none⟩)) (by go_simp) rfl
    · obtain ⟨y5, e5, q5, rfl⟩ := hk1.ev_new hd1 5 54 (by kernel_rfl) rfl
      have kc := ((hK.below hb0).below hk1.below).cell_ (k := 1) (u := .int .u8 (tt.toNat : Int)) (by rw [HTT.out]; rfl)
      exact stepOk_value rfl (v := .int .u8 (tt.toNat : Int)) (by go_simp) rfl
    · obtain ⟨y6, e6, q6, rfl⟩ := hk1.ev_new hd1 6 55 (by kernel_rfl) rfl
      refine step_bsT1 rfl (.tmp 55) rfl tt e6 (Nat.le_trans hbs (Nat.le_trans hb0.size hk1.below.size)) (fun q w' hq => ⟨q, rfl, hq⟩)
    · obtain ⟨y4, e4, r4, q4⟩ := hk1.ev_new hd1 4 53 (by kernel_rfl) rfl
      obtain ⟨q, rfl, hq⟩ := q4
      exact stepOk_value rfl (v := .slice (some ⟨q, 0, none⟩) 2 2) (by go_simp) ⟨q, rfl, hq⟩
    · obtain ⟨y7, e7, r7, q7⟩ := hk1.ev_new hd1 7 56 (by kernel_rfl) rfl
      obtain ⟨q, rfl, hq⟩ := q7
      exact stepOk_value rfl (v := .slice (some ⟨q, 0, none⟩) 1 1) (by go_simp) ⟨q, rfl, hq⟩
  · intro a1 w7 hb7 hp
    obtain ⟨x0, p0, x1, p1, x2, p2, x3, p3, x4, p4, x5, p5, x6, p6, x7, p7, x8, p8, x9, p9, rfl⟩ := hp
    simp only [ef16] at p0 p1 p2 p3 p4 p5 p6 p7 p8 p9
    obtain ⟨q2, rfl, -⟩ := p4
    obtain ⟨q3, rfl, -⟩ := p7
    obtain ⟨q4, rfl, hF4⟩ := p8
    obtain ⟨q5, rfl, hF5⟩ := p9
    subst p0 p1 p2 p3 p5 p6
    simp only [Act.put, List.setIfInBounds_toArray, List.set_cons_succ, List.set_cons_zero]
    have hB7 := Below.then_ hBw hb7
    go_wp2_with fail
    go_ret2
    exact ⟨_, _, _, _, rfl, hF4, hF5, hB7⟩
set_option maxHeartbeats 4000000 in
set_option maxRecDepth 100000 in
theorem eff7_any (m : Pm) (j : Jn) (A : Option Addr) (c n : Nat) (st : List UInt8) (w : World) (hm : PmAt w.heap.size w m) (hs : Sees w w.heap.size A (cb st)) (hl : st.length = n) (hn : n ≤ 1099511627776) (hj : j.t < 256) (hop : j.op = 7)  :
    Calls Try.prog 96 #[.agg m.cells.toArray, .agg j.cells.toArray, .slice A n c] w (TwoMade w (effF m.p j st)) := by
  have eop : (j.op : Int) = 7 := by omega
  obtain ⟨tt, htt⟩ : ∃ tt : UInt8, tt.toNat = j.t := ⟨UInt8.ofNat j.t, by rw [UInt8.toNat_ofNat']; omega⟩
  have ett : UInt8.ofNat j.t = tt := by rw [← htt, UInt8.ofNat_toNat]
  have HTT := Lib.hid htt
  clear htt
  rw [show effF m.p j st = ([tt, tt], [tt]) from by simp [effF, hop, -List.getD_eq_getElem?_getD, ett]]
  clear hop
  clear hm hs
  go_enter Try.func96, Try.ntmps96
  go_wp2_with (first
    | (with_reducible refine wpList_box (o := ⟨some 3, _, _, _, _, _⟩) rfl (.tmp 0) 26 rfl m.cells rfl 4 (pm4 m) (by decide) ?_; intro g w1 hg hF hB1)
    | ((with_reducible refine wpList_box (o := ⟨some 4, _, _, _, _, _⟩) rfl (.tmp 1) 53 rfl j.cells rfl 4 (jn4 j) (by decide) ?_); intro k w2 hk hK hB2; have hF2 := hF.below hB2; have hBw := Below.then_ hB1 hB2; have hbs := hBw.size; have f0 := hK.cell_ (k := 0) rfl; rw [eop] at f0))
  refine region_all_end (ef16 w.heap.size k tt) (by kernel_rfl) (by kernel_rfl) (ef16_stab _ _ _) ?_ ?_
  · intro w0 hb0
    refine ⟨?_, ?_, ?_, ?_, ?_, ?_, ?_, ?_, ?_, ?_, trivial⟩
    all_goals intro listed a1 w' hk1 hd1
    · have f4_ : a1.eval (.tmp 4) = .pointer (some ⟨k, 0, none⟩) := hk1.ev_old 4 (by kernel_rfl)
      have g4_ : a1.tmps[4]?.getD undef = .pointer (some ⟨k, 0, none⟩) := by simpa [Act.eval] using f4_
      exact stepOk_value rfl (v := .pointer (some ⟨k, 1, none⟩)) (by go_simp) rfl
    · obtain ⟨y0, e0, q0, rfl⟩ := hk1.ev_new hd1 0 49 (by kernel_rfl) rfl
      have kc := ((hK.below hb0).below hk1.below).cell_ (k := 1) (u := .int .u8 (tt.toNat : Int)) (by rw [HTT.out]; rfl)
      exact stepOk_value rfl (v := .int .u8 (tt.toNat : Int)) (by go_simp) rfl
    · have f4_ : a1.eval (.tmp 4) = .pointer (some ⟨k, 0, none⟩) := hk1.ev_old 4 (by kernel_rfl)
      have g4_ : a1.tmps[4]?.getD undef = .pointer (some ⟨k, 0, none⟩) := by simpa [Act.eval] using f4_
      exact stepOk_value rfl (v := .pointer (some ⟨k, 1, none⟩)) (by go_simp) rfl
    · obtain ⟨y2, e2, q2, rfl⟩ := hk1.ev_new hd1 2 51 (by kernel_rfl) rfl
      have kc := ((hK.below hb0).below hk1.below).cell_ (k := 1) (u := .int .u8 (tt.toNat : Int)) (by rw [HTT.out]; rfl)
      exact stepOk_value rfl (v := .int .u8 (tt.toNat : Int)) (by go_simp) rfl
    · obtain ⟨y1, e1, q1, rfl⟩ := hk1.ev_new hd1 1 50 (by kernel_rfl) rfl
      obtain ⟨y3, e3, q3, rfl⟩ := hk1.ev_new hd1 3 52 (by kernel_rfl) rfl
      refine step_bsT2 rfl (.tmp 50) (.tmp 52) rfl tt tt e1 e3 (Nat.le_trans hbs (Nat.le_trans hb0.size hk1.below.size)) (fun q w' hq => ⟨q, rfl, hq⟩)
    · have f4_ : a1.eval (.tmp 4) = .pointer (some ⟨k, 0, none⟩) := hk1.ev_old 4 (by kernel_rfl)
      have g4_ : a1.tmps[4]?.getD undef = .pointer (some ⟨k, 0, none⟩) := by simpa [Act.eval] using f4_
      exact stepOk_value rfl (v := .pointer (some ⟨k, 1, none⟩)) (by go_simp) rfl
    · obtain ⟨y5, e5, q5, rfl⟩ := hk1.ev_new hd1 5 54 (by kernel_rfl) rfl
      have kc := ((hK.below hb0).below hk1.below).cell_ (k := 1) (u := .int .u8 (tt.toNat : Int)) (by rw [HTT.out]; rfl)
      exact stepOk_value rfl (v := .int .u8 (tt.toNat : Int)) (by go_simp) rfl
    · obtain ⟨y6, e6, q6, rfl⟩ := hk1.ev_new hd1 6 55 (by kernel_rfl) rfl
      refine step_bsT1 rfl (.tmp 55) rfl tt e6 (Nat.le_trans hbs (Nat.le_trans hb0.size hk1.below.size)) (fun q w' hq => ⟨q, rfl, hq⟩)
    · obtain ⟨y4, e4, r4, q4⟩ := hk1.ev_new hd1 4 53 (by kernel_rfl) rfl
      obtain ⟨q, rfl, hq⟩ := q4
      exact stepOk_value rfl (v := .slice (some ⟨q, 0, none⟩) 2 2) (by go_simp) ⟨q, rfl, hq⟩
    · obtain ⟨y7, e7, r7, q7⟩ := hk1.ev_new hd1 7 56 (by kernel_rfl) rfl
      obtain ⟨q, rfl, hq⟩ := q7
      exact stepOk_value rfl (v := .slice (some ⟨q, 0, none⟩) 1 1) (by go_simp) ⟨q, rfl, hq⟩
  · intro a1 w7 hb7 hp
    obtain ⟨x0, p0, x1, p1, x2, p2, x3, p3, x4, p4, x5, p5, x6, p6, x7, p7, x8, p8, x9, p9, rfl⟩ := hp
    simp only [ef16] at p0 p1 p2 p3 p4 p5 p6 p7 p8 p9
    obtain ⟨q2, rfl, -⟩ := p4
    obtain ⟨q3, rfl, -⟩ := p7
    obtain ⟨q4, rfl, hF4⟩ := p8
    obtain ⟨q5, rfl, hF5⟩ := p9
    subst p0 p1 p2 p3 p5 p6
    simp only [Act.put, List.setIfInBounds_toArray, List.set_cons_succ, List.set_cons_zero]
    have hB7 := Below.then_ hBw hb7
    go_wp2_with fail
    go_ret2
    exact ⟨_, _, _, _, rfl, hF4, hF5, hB7⟩
set_option maxHeartbeats 4000000 in
set_option maxRecDepth 100000 in
theorem eff8_any (m : Pm) (j : Jn) (A : Option Addr) (c n : Nat) (st : List UInt8) (w : World) (hm : PmAt w.heap.size w m) (hs : Sees w w.heap.size A (cb st)) (hl : st.length = n) (hn : n ≤ 1099511627776) (hj : j.t < 256) (hop : j.op = 8)  :
    Calls Try.prog 96 #[.agg m.cells.toArray, .agg j.cells.toArray, .slice A n c] w (TwoMade w (effF m.p j st)) := by
  have eop : (j.op : Int) = 8 := by omega
  obtain ⟨tt, htt⟩ : ∃ tt : UInt8, tt.toNat = j.t := ⟨UInt8.ofNat j.t, by rw [UInt8.toNat_ofNat']; omega⟩
  have ett : UInt8.ofNat j.t = tt := by rw [← htt, UInt8.ofNat_toNat]
  have HTT := Lib.hid htt
  clear htt
  rw [show effF m.p j st = ([tt, tt], [tt]) from by simp [effF, hop, -List.getD_eq_getElem?_getD, ett]]
  clear hop
  clear hm hs
  go_enter Try.func96, Try.ntmps96
  go_wp2_with (first
    | (with_reducible refine wpList_box (o := ⟨some 3, _, _, _, _, _⟩) rfl (.tmp 0) 26 rfl m.cells rfl 4 (pm4 m) (by decide) ?_; intro g w1 hg hF hB1)
    | ((with_reducible refine wpList_box (o := ⟨some 4, _, _, _, _, _⟩) rfl (.tmp 1) 53 rfl j.cells rfl 4 (jn4 j) (by decide) ?_); intro k w2 hk hK hB2; have hF2 := hF.below hB2; have hBw := Below.then_ hB1 hB2; have hbs := hBw.size; have f0 := hK.cell_ (k := 0) rfl; rw [eop] at f0))
  refine region_all_end (ef16 w.heap.size k tt) (by kernel_rfl) (by kernel_rfl) (ef16_stab _ _ _) ?_ ?_
  · intro w0 hb0
    refine ⟨?_, ?_, ?_, ?_, ?_, ?_, ?_, ?_, ?_, ?_, trivial⟩
    all_goals intro listed a1 w' hk1 hd1
    · have f4_ : a1.eval (.tmp 4) = .pointer (some ⟨k, 0, none⟩) := hk1.ev_old 4 (by kernel_rfl)
      have g4_ : a1.tmps[4]?.getD undef = .pointer (some ⟨k, 0, none⟩) := by simpa [Act.eval] using f4_
      exact stepOk_value rfl (v := .pointer (some ⟨k, 1, none⟩)) (by go_simp) rfl
    · obtain ⟨y0, e0, q0, rfl⟩ := hk1.ev_new hd1 0 49 (by kernel_rfl) rfl
      have kc := ((hK.below hb0).below hk1.below).cell_ (k := 1) (u := .int .u8 (tt.toNat : Int)) (by rw [HTT.out]; rfl)
      exact stepOk_value rfl (v := .int .u8 (tt.toNat : Int)) (by go_simp) rfl
    · have f4_ : a1.eval (.tmp 4) = .pointer (some ⟨k, 0, none⟩) := hk1.ev_old 4 (by kernel_rfl)
      have g4_ : a1.tmps[4]?.getD undef = .pointer (some ⟨k, 0, none⟩) := by simpa [Act.eval] using f4_
      exact stepOk_value rfl (v := .pointer (some ⟨k, 1, none⟩)) (by go_simp) rfl
    · obtain ⟨y2, e2, q2, rfl⟩ := hk1.ev_new hd1 2 51 (by kernel_rfl) rfl
      have kc := ((hK.below hb0).below hk1.below).cell_ (k := 1) (u := .int .u8 (tt.toNat : Int)) (by rw [HTT.out]; rfl)
      exact stepOk_value rfl (v := .int .u8 (tt.toNat : Int)) (by go_simp) rfl
    · obtain ⟨y1, e1, q1, rfl⟩ := hk1.ev_new hd1 1 50 (by kernel_rfl) rfl
      obtain ⟨y3, e3, q3, rfl⟩ := hk1.ev_new hd1 3 52 (by kernel_rfl) rfl
      refine step_bsT2 rfl (.tmp 50) (.tmp 52) rfl tt tt e1 e3 (Nat.le_trans hbs (Nat.le_trans hb0.size hk1.below.size)) (fun q w' hq => ⟨q, rfl, hq⟩)
    · have f4_ : a1.eval (.tmp 4) = .pointer (some ⟨k, 0, none⟩) := hk1.ev_old 4 (by kernel_rfl)
      have g4_ : a1.tmps[4]?.getD undef = .pointer (some ⟨k, 0, none⟩) := by simpa [Act.eval] using f4_
      exact stepOk_value rfl (v := .pointer (some ⟨k, 1, none⟩)) (by go_simp) rfl
    · obtain ⟨y5, e5, q5, rfl⟩ := hk1.ev_new hd1 5 54 (by kernel_rfl) rfl
      have kc := ((hK.below hb0).below hk1.below).cell_ (k := 1) (u := .int .u8 (tt.toNat : Int)) (by rw [HTT.out]; rfl)
      exact stepOk_value rfl (v := .int .u8 (tt.toNat : Int)) (by go_simp) rfl
    · obtain ⟨y6, e6, q6, rfl⟩ := hk1.ev_new hd1 6 55 (by kernel_rfl) rfl
      refine step_bsT1 rfl (.tmp 55) rfl tt e6 (Nat.le_trans hbs (Nat.le_trans hb0.size hk1.below.size)) (fun q w' hq => ⟨q, rfl, hq⟩)
    · obtain ⟨y4, e4, r4, q4⟩ := hk1.ev_new hd1 4 53 (by kernel_rfl) rfl
      obtain ⟨q, rfl, hq⟩ := q4
      exact stepOk_value rfl (v := .slice (some ⟨q, 0, none⟩) 2 2) (by go_simp) ⟨q, rfl, hq⟩
    · obtain ⟨y7, e7, r7, q7⟩ := hk1.ev_new hd1 7 56 (by kernel_rfl) rfl
      obtain ⟨q, rfl, hq⟩ := q7
      exact stepOk_value rfl (v := .slice (some ⟨q, 0, none⟩) 1 1) (by go_simp) ⟨q, rfl, hq⟩
  · intro a1 w7 hb7 hp
    obtain ⟨x0, p0, x1, p1, x2, p2, x3, p3, x4, p4, x5, p5, x6, p6, x7, p7, x8, p8, x9, p9, rfl⟩ := hp
    simp only [ef16] at p0 p1 p2 p3 p4 p5 p6 p7 p8 p9
    obtain ⟨q2, rfl, -⟩ := p4
    obtain ⟨q3, rfl, -⟩ := p7
    obtain ⟨q4, rfl, hF4⟩ := p8
    obtain ⟨q5, rfl, hF5⟩ := p9
    subst p0 p1 p2 p3 p5 p6
    simp only [Act.put, List.setIfInBounds_toArray, List.set_cons_succ, List.set_cons_zero]
    have hB7 := Below.then_ hBw hb7
    go_wp2_with fail
    go_ret2
    exact ⟨_, _, _, _, rfl, hF4, hF5, hB7⟩
set_option maxHeartbeats 4000000 in
set_option maxRecDepth 100000 in
theorem eff9_any (m : Pm) (j : Jn) (A : Option Addr) (c n : Nat) (st : List UInt8) (w : World) (hm : PmAt w.heap.size w m) (hs : Sees w w.heap.size A (cb st)) (hl : st.length = n) (hn : n ≤ 1099511627776) (hj : j.t < 256) (hop : j.op = 9)  :
    Calls Try.prog 96 #[.agg m.cells.toArray, .agg j.cells.toArray, .slice A n c] w (TwoMade w (effF m.p j st)) := by
  have eop : (j.op : Int) = 9 := by omega
  obtain ⟨tt, htt⟩ : ∃ tt : UInt8, tt.toNat = j.t := ⟨UInt8.ofNat j.t, by rw [UInt8.toNat_ofNat']; omega⟩
  have ett : UInt8.ofNat j.t = tt := by rw [← htt, UInt8.ofNat_toNat]
  have HTT := Lib.hid htt
  clear htt
  rw [show effF m.p j st = ([tt, tt], [tt]) from by simp [effF, hop, -List.getD_eq_getElem?_getD, ett]]
  clear hop
  clear hm hs
  go_enter Try.func96, Try.ntmps96
  go_wp2_with (first
    | (with_reducible refine wpList_box (o := ⟨some 3, _, _, _, _, _⟩) rfl (.tmp 0) 26 rfl m.cells rfl 4 (pm4 m) (by decide) ?_; intro g w1 hg hF hB1)
    | ((with_reducible refine wpList_box (o := ⟨some 4, _, _, _, _, _⟩) rfl (.tmp 1) 53 rfl j.cells rfl 4 (jn4 j) (by decide) ?_); intro k w2 hk hK hB2; have hF2 := hF.below hB2; have hBw := Below.then_ hB1 hB2; have hbs := hBw.size; have f0 := hK.cell_ (k := 0) rfl; rw [eop] at f0))
  refine region_all_end (ef16 w.heap.size k tt) (by kernel_rfl) (by kernel_rfl) (ef16_stab _ _ _) ?_ ?_
  · intro w0 hb0
    refine ⟨?_, ?_, ?_, ?_, ?_, ?_, ?_, ?_, ?_, ?_, trivial⟩
    all_goals intro listed a1 w' hk1 hd1
    · have f4_ : a1.eval (.tmp 4) = .pointer (some ⟨k, 0, none⟩) := hk1.ev_old 4 (by kernel_rfl)
      have g4_ : a1.tmps[4]?.getD undef = .pointer (some ⟨k, 0, none⟩) := by simpa [Act.eval] using f4_
      exact stepOk_value rfl (v := .pointer (some ⟨k, 1, none⟩)) (by go_simp) rfl
    · obtain ⟨y0, e0, q0, rfl⟩ := hk1.ev_new hd1 0 49 (by kernel_rfl) rfl
      have kc := ((hK.below hb0).below hk1.below).cell_ (k := 1) (u := .int .u8 (tt.toNat : Int)) (by rw [HTT.out]; rfl)
      exact stepOk_value rfl (v := .int .u8 (tt.toNat : Int)) (by go_simp) rfl
    · have f4_ : a1.eval (.tmp 4) = .pointer (some ⟨k, 0, none⟩) := hk1.ev_old 4 (by kernel_rfl)
      have g4_ : a1.tmps[4]?.getD undef = .pointer (some ⟨k, 0, none⟩) := by simpa [Act.eval] using f4_
      exact stepOk_value rfl (v := .pointer (some ⟨k, 1, none⟩)) (by go_simp) rfl
    · obtain ⟨y2, e2, q2, rfl⟩ := hk1.ev_new hd1 2 51 (by kernel_rfl) rfl
      have kc := ((hK.below hb0).below hk1.below).cell_ (k := 1) (u := .int .u8 (tt.toNat : Int)) (by rw [HTT.out]; rfl)
      exact stepOk_value rfl (v := .int .u8 (tt.toNat : Int)) (by go_simp) rfl
    · obtain ⟨y1, e1, q1, rfl⟩ := hk1.ev_new hd1 1 50 (by kernel_rfl) rfl
      obtain ⟨y3, e3, q3, rfl⟩ := hk1.ev_new hd1 3 52 (by kernel_rfl) rfl
      refine step_bsT2 rfl (.tmp 50) (.tmp 52) rfl tt tt e1 e3 (Nat.le_trans hbs (Nat.le_trans hb0.size hk1.below.size)) (fun q w' hq => ⟨q, rfl, hq⟩)
    · have f4_ : a1.eval (.tmp 4) = .pointer (some ⟨k, 0, none⟩) := hk1.ev_old 4 (by kernel_rfl)
      have g4_ : a1.tmps[4]?.getD undef = .pointer (some ⟨k, 0, none⟩) := by simpa [Act.eval] using f4_
      exact stepOk_value rfl (v := .pointer (some ⟨k, 1, none⟩)) (by go_simp) rfl
    · obtain ⟨y5, e5, q5, rfl⟩ := hk1.ev_new hd1 5 54 (by kernel_rfl) rfl
      have kc := ((hK.below hb0).below hk1.below).cell_ (k := 1) (u := .int .u8 (tt.toNat : Int)) (by rw [HTT.out]; rfl)
      exact stepOk_value rfl (v := .int .u8 (tt.toNat : Int)) (by go_simp) rfl
    · obtain ⟨y6, e6, q6, rfl⟩ := hk1.ev_new hd1 6 55 (by kernel_rfl) rfl
      refine step_bsT1 rfl (.tmp 55) rfl tt e6 (Nat.le_trans hbs (Nat.le_trans hb0.size hk1.below.size)) (fun q w' hq => ⟨q, rfl, hq⟩)
    · obtain ⟨y4, e4, r4, q4⟩ := hk1.ev_new hd1 4 53 (by kernel_rfl) rfl
      obtain ⟨q, rfl, hq⟩ := q4
      exact stepOk_value rfl (v := .slice (some ⟨q, 0, none⟩) 2 2) (by go_simp) ⟨q, rfl, hq⟩
    · obtain ⟨y7, e7, r7, q7⟩ := hk1.ev_new hd1 7 56 (by kernel_rfl) rfl
      obtain ⟨q, rfl, hq⟩ := q7
      exact stepOk_value rfl (v := .slice (some ⟨q, 0, none⟩) 1 1) (by go_simp) ⟨q, rfl, hq⟩
  · intro a1 w7 hb7 hp
    obtain ⟨x0, p0, x1, p1, x2, p2, x3, p3, x4, p4, x5, p5, x6, p6, x7, p7, x8, p8, x9, p9, rfl⟩ := hp
    simp only [ef16] at p0 p1 p2 p3 p4 p5 p6 p7 p8 p9
    obtain ⟨q2, rfl, -⟩ := p4
    obtain ⟨q3, rfl, -⟩ := p7
    obtain ⟨q4, rfl, hF4⟩ := p8
    obtain ⟨q5, rfl, hF5⟩ := p9
    subst p0 p1 p2 p3 p5 p6
    simp only [Act.put, List.setIfInBounds_toArray, List.set_cons_succ, List.set_cons_zero]
    have hB7 := Below.then_ hBw hb7
    go_wp2_with fail
    go_ret2
    exact ⟨_, _, _, _, rfl, hF4, hF5, hB7⟩
set_option maxHeartbeats 4000000 in
set_option maxRecDepth 100000 in
theorem eff10_any (m : Pm) (j : Jn) (A : Option Addr) (c n : Nat) (st : List UInt8) (w : World) (hm : PmAt w.heap.size w m) (hs : Sees w w.heap.size A (cb st)) (hl : st.length = n) (hn : n ≤ 1099511627776) (hj : j.t < 256) (hop : j.op = 10)  :
    Calls Try.prog 96 #[.agg m.cells.toArray, .agg j.cells.toArray, .slice A n c] w (TwoMade w (effF m.p j st)) := by
  have eop : (j.op : Int) = 10 := by omega
  obtain ⟨tt, htt⟩ : ∃ tt : UInt8, tt.toNat = j.t := ⟨UInt8.ofNat j.t, by rw [UInt8.toNat_ofNat']; omega⟩
  have ett : UInt8.ofNat j.t = tt := by rw [← htt, UInt8.ofNat_toNat]
  have HTT := Lib.hid htt
  clear htt
  rw [show effF m.p j st = ([tt, tt], [tt]) from by simp [effF, hop, -List.getD_eq_getElem?_getD, ett]]
  clear hop
  clear hm hs
  go_enter Try.func96, Try.ntmps96
  go_wp2_with (first
    | (with_reducible refine wpList_box (o := ⟨some 3, _, _, _, _, _⟩) rfl (.tmp 0) 26 rfl m.cells rfl 4 (pm4 m) (by decide) ?_; intro g w1 hg hF hB1)
    | ((with_reducible refine wpList_box (o := ⟨some 4, _, _, _, _, _⟩) rfl (.tmp 1) 53 rfl j.cells rfl 4 (jn4 j) (by decide) ?_); intro k w2 hk hK hB2; have hF2 := hF.below hB2; have hBw := Below.then_ hB1 hB2; have hbs := hBw.size; have f0 := hK.cell_ (k := 0) rfl; rw [eop] at f0))
  refine region_all_end (ef16 w.heap.size k tt) (by kernel_rfl) (by kernel_rfl) (ef16_stab _ _ _) ?_ ?_
  · intro w0 hb0
    refine ⟨?_, ?_, ?_, ?_, ?_, ?_, ?_, ?_, ?_, ?_, trivial⟩
    all_goals intro listed a1 w' hk1 hd1
    · have f4_ : a1.eval (.tmp 4) = .pointer (some ⟨k, 0, none⟩) := hk1.ev_old 4 (by kernel_rfl)
      have g4_ : a1.tmps[4]?.getD undef = .pointer (some ⟨k, 0, none⟩) := by simpa [Act.eval] using f4_
      exact stepOk_value rfl (v := .pointer (some ⟨k, 1, none⟩)) (by go_simp) rfl
    · obtain ⟨y0, e0, q0, rfl⟩ := hk1.ev_new hd1 0 49 (by kernel_rfl) rfl
      have kc := ((hK.below hb0).below hk1.below).cell_ (k := 1) (u := .int .u8 (tt.toNat : Int)) (by rw [HTT.out]; rfl)
      exact stepOk_value rfl (v := .int .u8 (tt.toNat : Int)) (by go_simp) rfl
    · have f4_ : a1.eval (.tmp 4) = .pointer (some ⟨k, 0, none⟩) := hk1.ev_old 4 (by kernel_rfl)
      have g4_ : a1.tmps[4]?.getD undef = .pointer (some ⟨k, 0, none⟩) := by simpa [Act.eval] using f4_
      exact stepOk_value rfl (v := .pointer (some ⟨k, 1, none⟩)) (by go_simp) rfl
    · obtain ⟨y2, e2, q2, rfl⟩ := hk1.ev_new hd1 2 51 (by kernel_rfl) rfl
      have kc := ((hK.below hb0).below hk1.below).cell_ (k := 1) (u := .int .u8 (tt.toNat : Int)) (by rw [HTT.out]; rfl)
      exact stepOk_value rfl (v := .int .u8 (tt.toNat : Int)) (by go_simp) rfl
    · obtain ⟨y1, e1, q1, rfl⟩ := hk1.ev_new hd1 1 50 (by kernel_rfl) rfl
      obtain ⟨y3, e3, q3, rfl⟩ := hk1.ev_new hd1 3 52 (by kernel_rfl) rfl
      refine step_bsT2 rfl (.tmp 50) (.tmp 52) rfl tt tt e1 e3 (Nat.le_trans hbs (Nat.le_trans hb0.size hk1.below.size)) (fun q w' hq => ⟨q, rfl, hq⟩)
    · have f4_ : a1.eval (.tmp 4) = .pointer (some ⟨k, 0, none⟩) := hk1.ev_old 4 (by kernel_rfl)
      have g4_ : a1.tmps[4]?.getD undef = .pointer (some ⟨k, 0, none⟩) := by simpa [Act.eval] using f4_
      exact stepOk_value rfl (v := .pointer (some ⟨k, 1, none⟩)) (by go_simp) rfl
    · obtain ⟨y5, e5, q5, rfl⟩ := hk1.ev_new hd1 5 54 (by kernel_rfl) rfl
      have kc := ((hK.below hb0).below hk1.below).cell_ (k := 1) (u := .int .u8 (tt.toNat : Int)) (by rw [HTT.out]; rfl)
      exact stepOk_value rfl (v := .int .u8 (tt.toNat : Int)) (by go_simp) rfl
    · obtain ⟨y6, e6, q6, rfl⟩ := hk1.ev_new hd1 6 55 (by kernel_rfl) rfl
      refine step_bsT1 rfl (.tmp 55) rfl tt e6 (Nat.le_trans hbs (Nat.le_trans hb0.size hk1.below.size)) (fun q w' hq => ⟨q, rfl, hq⟩)
    · obtain ⟨y4, e4, r4, q4⟩ := hk1.ev_new hd1 4 53 (by kernel_rfl) rfl
      obtain ⟨q, rfl, hq⟩ := q4
      exact stepOk_value rfl (v := .slice (some ⟨q, 0, none⟩) 2 2) (by go_simp) ⟨q, rfl, hq⟩
    · obtain ⟨y7, e7, r7, q7⟩ := hk1.ev_new hd1 7 56 (by kernel_rfl) rfl
      obtain ⟨q, rfl, hq⟩ := q7
      exact stepOk_value rfl (v := .slice (some ⟨q, 0, none⟩) 1 1) (by go_simp) ⟨q, rfl, hq⟩
  · intro a1 w7 hb7 hp
    obtain ⟨x0, p0, x1, p1, x2, p2, x3, p3, x4, p4, x5, p5, x6, p6, x7, p7, x8, p8, x9, p9, rfl⟩ := hp
    simp only [ef16] at p0 p1 p2 p3 p4 p5 p6 p7 p8 p9
    obtain ⟨q2, rfl, -⟩ := p4
    obtain ⟨q3, rfl, -⟩ := p7
    obtain ⟨q4, rfl, hF4⟩ := p8
    obtain ⟨q5, rfl, hF5⟩ := p9
    subst p0 p1 p2 p3 p5 p6
    simp only [Act.put, List.setIfInBounds_toArray, List.set_cons_succ, List.set_cons_zero]
    have hB7 := Below.then_ hBw hb7
    go_wp2_with fail
    go_ret2
    exact ⟨_, _, _, _, rfl, hF4, hF5, hB7⟩
set_option maxHeartbeats 4000000 in
set_option maxRecDepth 100000 in
theorem eff11_any (m : Pm) (j : Jn) (A : Option Addr) (c n : Nat) (st : List UInt8) (w : World) (hm : PmAt w.heap.size w m) (hs : Sees w w.heap.size A (cb st)) (hl : st.length = n) (hn : n ≤ 1099511627776) (hj : j.t < 256) (hop : j.op = 11)  :
    Calls Try.prog 96 #[.agg m.cells.toArray, .agg j.cells.toArray, .slice A n c] w (TwoMade w (effF m.p j st)) := by
  have eop : (j.op : Int) = 11 := by omega
  obtain ⟨tt, htt⟩ : ∃ tt : UInt8, tt.toNat = j.t := ⟨UInt8.ofNat j.t, by rw [UInt8.toNat_ofNat']; omega⟩
  have ett : UInt8.ofNat j.t = tt := by rw [← htt, UInt8.ofNat_toNat]
  have HTT := Lib.hid htt
  clear htt
  rw [show effF m.p j st = ([tt, tt], [tt]) from by simp [effF, hop, -List.getD_eq_getElem?_getD, ett]]
  clear hop
  clear hm hs
  go_enter Try.func96, Try.ntmps96
  go_wp2_with (first
    | (with_reducible refine wpList_box (o := ⟨some 3, _, _, _, _, _⟩) rfl (.tmp 0) 26 rfl m.cells rfl 4 (pm4 m) (by decide) ?_; intro g w1 hg hF hB1)
    | ((with_reducible refine wpList_box (o := ⟨some 4, _, _, _, _, _⟩) rfl (.tmp 1) 53 rfl j.cells rfl 4 (jn4 j) (by decide) ?_); intro k w2 hk hK hB2; have hF2 := hF.below hB2; have hBw := Below.then_ hB1 hB2; have hbs := hBw.size; have f0 := hK.cell_ (k := 0) rfl; rw [eop] at f0))
  refine region_all_end (ef16 w.heap.size k tt) (by kernel_rfl) (by kernel_rfl) (ef16_stab _ _ _) ?_ ?_
  · intro w0 hb0
    refine ⟨?_, ?_, ?_, ?_, ?_, ?_, ?_, ?_, ?_, ?_, trivial⟩
    all_goals intro listed a1 w' hk1 hd1
    · have f4_ : a1.eval (.tmp 4) = .pointer (some ⟨k, 0, none⟩) := hk1.ev_old 4 (by kernel_rfl)
      have g4_ : a1.tmps[4]?.getD undef = .pointer (some ⟨k, 0, none⟩) := by simpa [Act.eval] using f4_
      exact stepOk_value rfl (v := .pointer (some ⟨k, 1, none⟩)) (by go_simp) rfl
    · obtain ⟨y0, e0, q0, rfl⟩ := hk1.ev_new hd1 0 49 (by kernel_rfl) rfl
      have kc := ((hK.below hb0).below hk1.below).cell_ (k := 1) (u := .int .u8 (tt.toNat : Int)) (by rw [HTT.out]; rfl)
      exact stepOk_value rfl (v := .int .u8 (tt.toNat : Int)) (by go_simp) rfl
    · have f4_ : a1.eval (.tmp 4) = .pointer (some ⟨k, 0, none⟩) := hk1.ev_old 4 (by kernel_rfl)
      have g4_ : a1.tmps[4]?.getD undef = .pointer (some ⟨k, 0, none⟩) := by simpa [Act.eval] using f4_
      exact stepOk_value rfl (v := .pointer (some ⟨k, 1, none⟩)) (by go_simp) rfl
    · obtain ⟨y2, e2, q2, rfl⟩ := hk1.ev_new hd1 2 51 (by kernel_rfl) rfl
      have kc := ((hK.below hb0).below hk1.below).cell_ (k := 1) (u := .int .u8 (tt.toNat : Int)) (by rw [HTT.out]; rfl)
      exact stepOk_value rfl (v := .int .u8 (tt.toNat : Int)) (by go_simp) rfl
    · obtain ⟨y1, e1, q1, rfl⟩ := hk1.ev_new hd1 1 50 (by kernel_rfl) rfl
      obtain ⟨y3, e3, q3, rfl⟩ := hk1.ev_new hd1 3 52 (by kernel_rfl) rfl
      refine step_bsT2 rfl (.tmp 50) (.tmp 52) rfl tt tt e1 e3 (Nat.le_trans hbs (Nat.le_trans hb0.size hk1.below.size)) (fun q w' hq => ⟨q, rfl, hq⟩)
    · have f4_ : a1.eval (.tmp 4) = .pointer (some ⟨k, 0, none⟩) := hk1.ev_old 4 (by kernel_rfl)
      have g4_ : a1.tmps[4]?.getD undef = .pointer (some ⟨k, 0, none⟩) := by simpa [Act.eval] using f4_
      exact stepOk_value rfl (v := .pointer (some ⟨k, 1, none⟩)) (by go_simp) rfl
    · obtain ⟨y5, e5, q5, rfl⟩ := hk1.ev_new hd1 5 54 (by kernel_rfl) rfl
      have kc := ((hK.below hb0).below hk1.below).cell_ (k := 1) (u := .int .u8 (tt.toNat : Int)) (by rw [HTT.out]; rfl)
      exact stepOk_value rfl (v := .int .u8 (tt.toNat : Int)) (by go_simp) rfl
    · obtain ⟨y6, e6, q6, rfl⟩ := hk1.ev_new hd1 6 55 (by kernel_rfl) rfl
      refine step_bsT1 rfl (.tmp 55) rfl tt e6 (Nat.le_trans hbs (Nat.le_trans hb0.size hk1.below.size)) (fun q w' hq => ⟨q, rfl, hq⟩)
    · obtain ⟨y4, e4, r4, q4⟩ := hk1.ev_new hd1 4 53 (by kernel_rfl) rfl
      obtain ⟨q, rfl, hq⟩ := q4
      exact stepOk_value rfl (v := .slice (some ⟨q, 0, none⟩) 2 2) (by go_simp) ⟨q, rfl, hq⟩
    · obtain ⟨y7, e7, r7, q7⟩ := hk1.ev_new hd1 7 56 (by kernel_rfl) rfl
      obtain ⟨q, rfl, hq⟩ := q7
      exact stepOk_value rfl (v := .slice (some ⟨q, 0, none⟩) 1 1) (by go_simp) ⟨q, rfl, hq⟩
  · intro a1 w7 hb7 hp
    obtain ⟨x0, p0, x1, p1, x2, p2, x3, p3, x4, p4, x5, p5, x6, p6, x7, p7, x8, p8, x9, p9, rfl⟩ := hp
    simp only [ef16] at p0 p1 p2 p3 p4 p5 p6 p7 p8 p9
    obtain ⟨q2, rfl, -⟩ := p4
    obtain ⟨q3, rfl, -⟩ := p7
    obtain ⟨q4, rfl, hF4⟩ := p8
    obtain ⟨q5, rfl, hF5⟩ := p9
    subst p0 p1 p2 p3 p5 p6
    simp only [Act.put, List.setIfInBounds_toArray, List.set_cons_succ, List.set_cons_zero]
    have hB7 := Below.then_ hBw hb7
    go_wp2_with fail
    go_ret2
    exact ⟨_, _, _, _, rfl, hF4, hF5, hB7⟩
set_option maxHeartbeats 4000000 in
set_option maxRecDepth 100000 in
theorem eff12_any (m : Pm) (j : Jn) (A : Option Addr) (c n : Nat) (st : List UInt8) (w : World) (hm : PmAt w.heap.size w m) (hs : Sees w w.heap.size A (cb st)) (hl : st.length = n) (hn : n ≤ 1099511627776) (hj : j.t < 256) (hop : j.op = 12)  :
    Calls Try.prog 96 #[.agg m.cells.toArray, .agg j.cells.toArray, .slice A n c] w (TwoMade w (effF m.p j st)) := by
  have eop : (j.op : Int) = 12 := by omega
  obtain ⟨tt, htt⟩ : ∃ tt : UInt8, tt.toNat = j.t := ⟨UInt8.ofNat j.t, by rw [UInt8.toNat_ofNat']; omega⟩
  have ett : UInt8.ofNat j.t = tt := by rw [← htt, UInt8.ofNat_toNat]
  have HTT := Lib.hid htt
  clear htt
  rw [show effF m.p j st = ([tt], [tt]) from by simp [effF, hop, -List.getD_eq_getElem?_getD, ett]]
  clear hop
  clear hm hs
  go_enter Try.func96, Try.ntmps96
  go_wp2_with (first
    | (with_reducible refine wpList_box (o := ⟨some 3, _, _, _, _, _⟩) rfl (.tmp 0) 26 rfl m.cells rfl 4 (pm4 m) (by decide) ?_; intro g w1 hg hF hB1)
    | ((with_reducible refine wpList_box (o := ⟨some 4, _, _, _, _, _⟩) rfl (.tmp 1) 53 rfl j.cells rfl 4 (jn4 j) (by decide) ?_); intro k w2 hk hK hB2; have hF2 := hF.below hB2; have hBw := Below.then_ hB1 hB2; have hbs := hBw.size; have f0 := hK.cell_ (k := 0) rfl; rw [eop] at f0))
  refine region_all_end (ef18 w.heap.size k tt) (by kernel_rfl) (by kernel_rfl) (ef18_stab _ _ _) ?_ ?_
  · intro w0 hb0
    refine ⟨?_, ?_, ?_, ?_, ?_, ?_, ?_, ?_, trivial⟩
    all_goals intro listed a1 w' hk1 hd1
    · have f4_ : a1.eval (.tmp 4) = .pointer (some ⟨k, 0, none⟩) := hk1.ev_old 4 (by kernel_rfl)
      have g4_ : a1.tmps[4]?.getD undef = .pointer (some ⟨k, 0, none⟩) := by simpa [Act.eval] using f4_
      exact stepOk_value rfl (v := .pointer (some ⟨k, 1, none⟩)) (by go_simp) rfl
    · obtain ⟨y0, e0, q0, rfl⟩ := hk1.ev_new hd1 0 59 (by kernel_rfl) rfl
      have kc := ((hK.below hb0).below hk1.below).cell_ (k := 1) (u := .int .u8 (tt.toNat : Int)) (by rw [HTT.out]; rfl)
      exact stepOk_value rfl (v := .int .u8 (tt.toNat : Int)) (by go_simp) rfl
    · obtain ⟨y1, e1, q1, rfl⟩ := hk1.ev_new hd1 1 60 (by kernel_rfl) rfl
      refine step_bsT1 rfl (.tmp 60) rfl tt e1 (Nat.le_trans hbs (Nat.le_trans hb0.size hk1.below.size)) (fun q w' hq => ⟨q, rfl, hq⟩)
    · have f4_ : a1.eval (.tmp 4) = .pointer (some ⟨k, 0, none⟩) := hk1.ev_old 4 (by kernel_rfl)
      have g4_ : a1.tmps[4]?.getD undef = .pointer (some ⟨k, 0, none⟩) := by simpa [Act.eval] using f4_
      exact stepOk_value rfl (v := .pointer (some ⟨k, 1, none⟩)) (by go_simp) rfl
    · obtain ⟨y3, e3, q3, rfl⟩ := hk1.ev_new hd1 3 62 (by kernel_rfl) rfl
      have kc := ((hK.below hb0).below hk1.below).cell_ (k := 1) (u := .int .u8 (tt.toNat : Int)) (by rw [HTT.out]; rfl)
      exact stepOk_value rfl (v := .int .u8 (tt.toNat : Int)) (by go_simp) rfl
    · obtain ⟨y4, e4, q4, rfl⟩ := hk1.ev_new hd1 4 63 (by kernel_rfl) rfl
      refine step_bsT1 rfl (.tmp 63) rfl tt e4 (Nat.le_trans hbs (Nat.le_trans hb0.size hk1.below.size)) (fun q w' hq => ⟨q, rfl, hq⟩)
    · obtain ⟨y2, e2, r2, q2⟩ := hk1.ev_new hd1 2 61 (by kernel_rfl) rfl
      obtain ⟨q, rfl, hq⟩ := q2
      exact stepOk_value rfl (v := .slice (some ⟨q, 0, none⟩) 1 1) (by go_simp) ⟨q, rfl, hq⟩
    · obtain ⟨y5, e5, r5, q5⟩ := hk1.ev_new hd1 5 64 (by kernel_rfl) rfl
      obtain ⟨q, rfl, hq⟩ := q5
      exact stepOk_value rfl (v := .slice (some ⟨q, 0, none⟩) 1 1) (by go_simp) ⟨q, rfl, hq⟩
  · intro a1 w7 hb7 hp
    obtain ⟨x0, p0, x1, p1, x2, p2, x3, p3, x4, p4, x5, p5, x6, p6, x7, p7, rfl⟩ := hp
    simp only [ef18] at p0 p1 p2 p3 p4 p5 p6 p7
    obtain ⟨q2, rfl, -⟩ := p2
    obtain ⟨q3, rfl, -⟩ := p5
    obtain ⟨q4, rfl, hF4⟩ := p6
    obtain ⟨q5, rfl, hF5⟩ := p7
    subst p0 p1 p3 p4
    simp only [Act.put, List.setIfInBounds_toArray, List.set_cons_succ, List.set_cons_zero]
    have hB7 := Below.then_ hBw hb7
    go_wp2_with fail
    go_ret2
    exact ⟨_, _, _, _, rfl, hF4, hF5, hB7⟩
set_option maxHeartbeats 4000000 in
set_option maxRecDepth 100000 in
theorem eff13_any (m : Pm) (j : Jn) (A : Option Addr) (c n : Nat) (st : List UInt8) (w : World) (hm : PmAt w.heap.size w m) (hs : Sees w w.heap.size A (cb st)) (hl : st.length = n) (hn : n ≤ 1099511627776) (hj : j.t < 256) (hop : j.op = 13)  :
    Calls Try.prog 96 #[.agg m.cells.toArray, .agg j.cells.toArray, .slice A n c] w (TwoMade w (effF m.p j st)) := by
  have eop : (j.op : Int) = 13 := by omega
  obtain ⟨tt, htt⟩ : ∃ tt : UInt8, tt.toNat = j.t := ⟨UInt8.ofNat j.t, by rw [UInt8.toNat_ofNat']; omega⟩
  have ett : UInt8.ofNat j.t = tt := by rw [← htt, UInt8.ofNat_toNat]
  have HTT := Lib.hid htt
  clear htt
  rw [show effF m.p j st = ([tt, tt], [1]) from by simp [effF, hop, -List.getD_eq_getElem?_getD, ett]]
  clear hop
  clear hm hs
  go_enter Try.func96, Try.ntmps96
  go_wp2_with (first
    | (with_reducible refine wpList_box (o := ⟨some 3, _, _, _, _, _⟩) rfl (.tmp 0) 26 rfl m.cells rfl 4 (pm4 m) (by decide) ?_; intro g w1 hg hF hB1)
    | ((with_reducible refine wpList_box (o := ⟨some 4, _, _, _, _, _⟩) rfl (.tmp 1) 53 rfl j.cells rfl 4 (jn4 j) (by decide) ?_); intro k w2 hk hK hB2; have hF2 := hF.below hB2; have hBw := Below.then_ hB1 hB2; have hbs := hBw.size; have f0 := hK.cell_ (k := 0) rfl; rw [eop] at f0; have f1 := hK.cell_ (k := 1) (u := .int .u8 (tt.toNat : Int)) (by rw [HTT.out]; rfl)))
  go_ret2
  have h1 := Fresh.new w2 28 (cb [tt, tt]) 2 rfl (by decide)
  have h2 := Fresh.new (w2.alloc (.cells (cb [tt, tt]).toArray 28 (0, 0))) 28 (cb [1]) 1 rfl (by decide)
  have es : (w2.alloc (.cells (cb [tt, tt]).toArray 28 (0, 0))).heap.size = w2.heap.size + 1 := by simp
  rw [es] at h2
  exact ⟨_, _, _, _, rfl, (h1.below (below_alloc _ _)).lower hbs, h2.lower (by omega), Below.then_ hBw ((below_alloc _ _).alloc (by simp) _)⟩
set_option maxHeartbeats 4000000 in
set_option maxRecDepth 100000 in
theorem eff14_any (m : Pm) (j : Jn) (A : Option Addr) (c n : Nat) (st : List UInt8) (w : World) (hm : PmAt w.heap.size w m) (hs : Sees w w.heap.size A (cb st)) (hl : st.length = n) (hn : n ≤ 1099511627776) (hj : j.t < 256) (hop : j.op = 14)  :
    Calls Try.prog 96 #[.agg m.cells.toArray, .agg j.cells.toArray, .slice A n c] w (TwoMade w (effF m.p j st)) := by
  have eop : (j.op : Int) = 14 := by omega
  obtain ⟨tt, htt⟩ : ∃ tt : UInt8, tt.toNat = j.t := ⟨UInt8.ofNat j.t, by rw [UInt8.toNat_ofNat']; omega⟩
  have ett : UInt8.ofNat j.t = tt := by rw [← htt, UInt8.ofNat_toNat]
  have HTT := Lib.hid htt
  clear htt
  rw [show effF m.p j st = ([tt, tt], [1]) from by simp [effF, hop, -List.getD_eq_getElem?_getD, ett]]
  clear hop
  clear hm hs
  go_enter Try.func96, Try.ntmps96
  go_wp2_with (first
    | (with_reducible refine wpList_box (o := ⟨some 3, _, _, _, _, _⟩) rfl (.tmp 0) 26 rfl m.cells rfl 4 (pm4 m) (by decide) ?_; intro g w1 hg hF hB1)
    | ((with_reducible refine wpList_box (o := ⟨some 4, _, _, _, _, _⟩) rfl (.tmp 1) 53 rfl j.cells rfl 4 (jn4 j) (by decide) ?_); intro k w2 hk hK hB2; have hF2 := hF.below hB2; have hBw := Below.then_ hB1 hB2; have hbs := hBw.size; have f0 := hK.cell_ (k := 0) rfl; rw [eop] at f0; have f1 := hK.cell_ (k := 1) (u := .int .u8 (tt.toNat : Int)) (by rw [HTT.out]; rfl)))
  go_ret2
  have h1 := Fresh.new w2 28 (cb [tt, tt]) 2 rfl (by decide)
  have h2 := Fresh.new (w2.alloc (.cells (cb [tt, tt]).toArray 28 (0, 0))) 28 (cb [1]) 1 rfl (by decide)
  have es : (w2.alloc (.cells (cb [tt, tt]).toArray 28 (0, 0))).heap.size = w2.heap.size + 1 := by simp
  rw [es] at h2
  exact ⟨_, _, _, _, rfl, (h1.below (below_alloc _ _)).lower hbs, h2.lower (by omega), Below.then_ hBw ((below_alloc _ _).alloc (by simp) _)⟩
set_option maxHeartbeats 4000000 in
set_option maxRecDepth 100000 in
theorem eff15_any (m : Pm) (j : Jn) (A : Option Addr) (c n : Nat) (st : List UInt8) (w : World) (hm : PmAt w.heap.size w m) (hs : Sees w w.heap.size A (cb st)) (hl : st.length = n) (hn : n ≤ 1099511627776) (hj : j.t < 256) (hop : j.op = 15) (ha : 0 ≤ j.a ∧ j.a < 256) :
    Calls Try.prog 96 #[.agg m.cells.toArray, .agg j.cells.toArray, .slice A n c] w (TwoMade w (effF m.p j st)) := by
  have eop : (j.op : Int) = 15 := by omega
  obtain ⟨tt, htt⟩ : ∃ tt : UInt8, tt.toNat = j.t := ⟨UInt8.ofNat j.t, by rw [UInt8.toNat_ofNat']; omega⟩
  have ett : UInt8.ofNat j.t = tt := by rw [← htt, UInt8.ofNat_toNat]
  have HTT := Lib.hid htt
  clear htt
  obtain ⟨ta, hta⟩ : ∃ ta : UInt8, j.a = ta.toNat := ⟨UInt8.ofNat j.a.toNat, by rw [UInt8.toNat_ofNat']; omega⟩
  have eta : UInt8.ofNat j.a.toNat = ta := by rw [hta, Int.toNat_natCast, UInt8.ofNat_toNat]
  rw [show effF m.p j st = ([ta], [tt]) from by simp [effF, hop, -List.getD_eq_getElem?_getD, ett, eta]]
  clear hop
  clear hm hs
  go_enter Try.func96, Try.ntmps96
  go_wp2_with (first
    | (with_reducible refine wpList_box (o := ⟨some 3, _, _, _, _, _⟩) rfl (.tmp 0) 26 rfl m.cells rfl 4 (pm4 m) (by decide) ?_; intro g w1 hg hF hB1)
    | ((with_reducible refine wpList_box (o := ⟨some 4, _, _, _, _, _⟩) rfl (.tmp 1) 53 rfl j.cells rfl 4 (jn4 j) (by decide) ?_); intro k w2 hk hK hB2; have hF2 := hF.below hB2; have hBw := Below.then_ hB1 hB2; have hbs := hBw.size; have f0 := hK.cell_ (k := 0) rfl; rw [eop] at f0))
  refine region_all_end (ef23 w.heap.size k tt ta) (by kernel_rfl) (by kernel_rfl) (ef23_stab _ _ _ _) ?_ ?_
  · intro w0 hb0
    refine ⟨?_, ?_, ?_, ?_, ?_, ?_, ?_, ?_, ?_, trivial⟩
    all_goals intro listed a1 w' hk1 hd1
    · have f4_ : a1.eval (.tmp 4) = .pointer (some ⟨k, 0, none⟩) := hk1.ev_old 4 (by kernel_rfl)
      have g4_ : a1.tmps[4]?.getD undef = .pointer (some ⟨k, 0, none⟩) := by simpa [Act.eval] using f4_
      exact stepOk_value rfl (v := .pointer (some ⟨k, 2, none⟩)) (by go_simp) rfl
    · obtain ⟨y0, e0, q0, rfl⟩ := hk1.ev_new hd1 0 76 (by kernel_rfl) rfl
      have kc := ((hK.below hb0).below hk1.below).cell_ (k := 2) (u := .int .i64 (ta.toNat : Int)) (by rw [← hta]; rfl)
      exact stepOk_value rfl (v := .int .i64 (ta.toNat : Int)) (by go_simp) rfl
    · obtain ⟨y1, e1, q1, rfl⟩ := hk1.ev_new hd1 1 77 (by kernel_rfl) rfl
      have ew : IntKind.u8.wrap (ta.toNat : Int) = (ta.toNat : Int) := by rw [IntKind.wrap_u8]; have := ta.toNat_lt; omega
      exact stepOk_value rfl (v := .int .u8 (ta.toNat : Int)) (by go_simp) rfl
    · obtain ⟨y2, e2, q2, rfl⟩ := hk1.ev_new hd1 2 78 (by kernel_rfl) rfl
      refine step_bsT1 rfl (.tmp 78) rfl ta e2 (Nat.le_trans hbs (Nat.le_trans hb0.size hk1.below.size)) (fun q w' hq => ⟨q, rfl, hq⟩)
    · have f4_ : a1.eval (.tmp 4) = .pointer (some ⟨k, 0, none⟩) := hk1.ev_old 4 (by kernel_rfl)
      have g4_ : a1.tmps[4]?.getD undef = .pointer (some ⟨k, 0, none⟩) := by simpa [Act.eval] using f4_
      exact stepOk_value rfl (v := .pointer (some ⟨k, 1, none⟩)) (by go_simp) rfl
    · obtain ⟨y4, e4, q4, rfl⟩ := hk1.ev_new hd1 4 80 (by kernel_rfl) rfl
      have kc := ((hK.below hb0).below hk1.below).cell_ (k := 1) (u := .int .u8 (tt.toNat : Int)) (by rw [HTT.out]; rfl)
      exact stepOk_value rfl (v := .int .u8 (tt.toNat : Int)) (by go_simp) rfl
    · obtain ⟨y5, e5, q5, rfl⟩ := hk1.ev_new hd1 5 81 (by kernel_rfl) rfl
      refine step_bsT1 rfl (.tmp 81) rfl tt e5 (Nat.le_trans hbs (Nat.le_trans hb0.size hk1.below.size)) (fun q w' hq => ⟨q, rfl, hq⟩)
    · obtain ⟨y3, e3, r3, q3⟩ := hk1.ev_new hd1 3 79 (by kernel_rfl) rfl
      obtain ⟨q, rfl, hq⟩ := q3
      exact stepOk_value rfl (v := .slice (some ⟨q, 0, none⟩) 1 1) (by go_simp) ⟨q, rfl, hq⟩
    · obtain ⟨y6, e6, r6, q6⟩ := hk1.ev_new hd1 6 82 (by kernel_rfl) rfl
      obtain ⟨q, rfl, hq⟩ := q6
      exact stepOk_value rfl (v := .slice (some ⟨q, 0, none⟩) 1 1) (by go_simp) ⟨q, rfl, hq⟩
  · intro a1 w7 hb7 hp
    obtain ⟨x0, p0, x1, p1, x2, p2, x3, p3, x4, p4, x5, p5, x6, p6, x7, p7, x8, p8, rfl⟩ := hp
    simp only [ef23] at p0 p1 p2 p3 p4 p5 p6 p7 p8
    obtain ⟨q2, rfl, -⟩ := p3
    obtain ⟨q3, rfl, -⟩ := p6
    obtain ⟨q4, rfl, hF4⟩ := p7
    obtain ⟨q5, rfl, hF5⟩ := p8
    subst p0 p1 p2 p4 p5
    simp only [Act.put, List.setIfInBounds_toArray, List.set_cons_succ, List.set_cons_zero]
    have hB7 := Below.then_ hBw hb7
    go_wp2_with fail
    go_ret2
    exact ⟨_, _, _, _, rfl, hF4, hF5, hB7⟩
set_option maxHeartbeats 4000000 in
set_option maxRecDepth 100000 in
theorem eff16_any (m : Pm) (j : Jn) (A : Option Addr) (c n : Nat) (st : List UInt8) (w : World) (hm : PmAt w.heap.size w m) (hs : Sees w w.heap.size A (cb st)) (hl : st.length = n) (hn : n ≤ 1099511627776) (hj : j.t < 256) (hop : j.op = 16)  :
    Calls Try.prog 96 #[.agg m.cells.toArray, .agg j.cells.toArray, .slice A n c] w (TwoMade w (effF m.p j st)) := by
  have eop : (j.op : Int) = 16 := by omega
  obtain ⟨tt, ett⟩ : ∃ tt, topF st = tt := ⟨_, rfl⟩
  rw [show effF m.p j st = ([tt], [tt, tt]) from by simp [effF, hop, -List.getD_eq_getElem?_getD, ett]]
  clear hop
  clear hm
  go_enter Try.func96, Try.ntmps96
  go_wp2_with (first
    | (with_reducible refine wpList_box (o := ⟨some 3, _, _, _, _, _⟩) rfl (.tmp 0) 26 rfl m.cells rfl 4 (pm4 m) (by decide) ?_; intro g w1 hg hF hB1)
    | ((with_reducible refine wpList_box (o := ⟨some 4, _, _, _, _, _⟩) rfl (.tmp 1) 53 rfl j.cells rfl 4 (jn4 j) (by decide) ?_); intro k w2 hk hK hB2; have hF2 := hF.below hB2; have hBw := Below.then_ hB1 hB2; have hbs := hBw.size; have f0 := hK.cell_ (k := 0) rfl; rw [eop] at f0)
    | (go_at_call 100; refine (cTop_any A c n st _ (hs.step hBw) hl hn).mono ?_; rw [ett]; rintro e w3 ⟨rfl, rfl⟩))
  go_ret2
  have h1 := Fresh.new w2 28 (cb [tt]) 1 rfl (by decide)
  have h2 := Fresh.new (w2.alloc (.cells (cb [tt]).toArray 28 (0, 0))) 28 (cb [tt, tt]) 2 rfl (by decide)
  have es : (w2.alloc (.cells (cb [tt]).toArray 28 (0, 0))).heap.size = w2.heap.size + 1 := by simp
  rw [es] at h2
  exact ⟨_, _, _, _, rfl, (h1.below (below_alloc _ _)).lower hbs, h2.lower (by omega), Below.then_ hBw ((below_alloc _ _).alloc (by simp) _)⟩
set_option maxHeartbeats 4000000 in
set_option maxRecDepth 100000 in
theorem eff17_any (m : Pm) (j : Jn) (A : Option Addr) (c n : Nat) (st : List UInt8) (w : World) (hm : PmAt w.heap.size w m) (hs : Sees w w.heap.size A (cb st)) (hl : st.length = n) (hn : n ≤ 1099511627776) (hj : j.t < 256) (hop : j.op = 17)  :
    Calls Try.prog 96 #[.agg m.cells.toArray, .agg j.cells.toArray, .slice A n c] w (TwoMade w (effF m.p j st)) := by
  have eop : (j.op : Int) = 17 := by omega
  obtain ⟨tt, ett⟩ : ∃ tt, topF st = tt := ⟨_, rfl⟩
  rw [show effF m.p j st = ([tt], []) from by simp [effF, hop, -List.getD_eq_getElem?_getD, ett]]
  clear hop
  clear hm
  go_enter Try.func96, Try.ntmps96
  go_wp2_with (first
    | (with_reducible refine wpList_box (o := ⟨some 3, _, _, _, _, _⟩) rfl (.tmp 0) 26 rfl m.cells rfl 4 (pm4 m) (by decide) ?_; intro g w1 hg hF hB1)
    | ((with_reducible refine wpList_box (o := ⟨some 4, _, _, _, _, _⟩) rfl (.tmp 1) 53 rfl j.cells rfl 4 (jn4 j) (by decide) ?_); intro k w2 hk hK hB2; have hF2 := hF.below hB2; have hBw := Below.then_ hB1 hB2; have hbs := hBw.size; have f0 := hK.cell_ (k := 0) rfl; rw [eop] at f0)
    | (go_at_call 100; refine (cTop_any A c n st _ (hs.step hBw) hl hn).mono ?_; rw [ett]; rintro e w3 ⟨rfl, rfl⟩))
  go_ret2
  exact ⟨_, _, _, _, rfl, (Fresh.new w2 28 (cb [tt]) 1 rfl (by decide)).lower hbs, fresh_nil _ _ _, Below.then_ hBw (below_alloc _ _)⟩
set_option maxHeartbeats 4000000 in
set_option maxRecDepth 100000 in
theorem eff19_any (m : Pm) (j : Jn) (A : Option Addr) (c n : Nat) (st : List UInt8) (w : World) (hm : PmAt w.heap.size w m) (hs : Sees w w.heap.size A (cb st)) (hl : st.length = n) (hn : n ≤ 1099511627776) (hj : j.t < 256) (hop : j.op = 19)  :
    Calls Try.prog 96 #[.agg m.cells.toArray, .agg j.cells.toArray, .slice A n c] w (TwoMade w (effF m.p j st)) := by
  have eop : (j.op : Int) = 19 := by omega
  rw [show effF m.p j st = ([1], []) from by simp [effF, hop, -List.getD_eq_getElem?_getD]]
  clear hop
  clear hm hs
  go_enter Try.func96, Try.ntmps96
  go_wp2_with (first
    | (with_reducible refine wpList_box (o := ⟨some 3, _, _, _, _, _⟩) rfl (.tmp 0) 26 rfl m.cells rfl 4 (pm4 m) (by decide) ?_; intro g w1 hg hF hB1)
    | ((with_reducible refine wpList_box (o := ⟨some 4, _, _, _, _, _⟩) rfl (.tmp 1) 53 rfl j.cells rfl 4 (jn4 j) (by decide) ?_); intro k w2 hk hK hB2; have hF2 := hF.below hB2; have hBw := Below.then_ hB1 hB2; have hbs := hBw.size; have f0 := hK.cell_ (k := 0) rfl; rw [eop] at f0))
  go_ret2
  exact ⟨_, _, _, _, rfl, (Fresh.new w2 28 (cb [1]) 1 rfl (by decide)).lower hbs, fresh_nil _ _ _, Below.then_ hBw (below_alloc _ _)⟩
set_option maxHeartbeats 4000000 in
set_option maxRecDepth 100000 in
theorem eff20_any (m : Pm) (j : Jn) (A : Option Addr) (c n : Nat) (st : List UInt8) (w : World) (hm : PmAt w.heap.size w m) (hs : Sees w w.heap.size A (cb st)) (hl : st.length = n) (hn : n ≤ 1099511627776) (hj : j.t < 256) (hop : j.op = 20) (ha : 0 ≤ j.a ∧ j.a < m.nb) :
    Calls Try.prog 96 #[.agg m.cells.toArray, .agg j.cells.toArray, .slice A n c] w (TwoMade w (effF m.p j st)) := by
  have eop : (j.op : Int) = 20 := by omega
  obtain ⟨ka, hka⟩ : ∃ ka : Nat, j.a = ka := ⟨j.a.toNat, by omega⟩
  have hkl : ka < m.nb := by omega
  obtain ⟨b, o, hA, hb, v, HX, hx, hv0⟩ := hm.blocks.byte hm.nb hkl
  have evt : m.p.blocks.getD j.a.toNat 0 = v := by
    rw [hka, Int.toNat_natCast]
    simp [List.getD, HX.out]
  have hcc : m.cells = [sv m.p.name, .slice m.av m.nv m.cv, .slice (some ⟨b, o, none⟩) m.nb m.cb, .slice m.ai m.ni m.ci] := by rw [Pm.cells, hA]
  have hsm := hm.small.2.1
  obtain ⟨pi, hpi⟩ : ∃ pi, pinsF v.toNat = pi := ⟨_, rfl⟩
  rw [show effF m.p j st = (pi.1, []) from by simp [effF, hop, -List.getD_eq_getElem?_getD, evt, hpi]]
  clear hop
  clear hm hs hA HX
  go_enter Try.func96, Try.ntmps96
  go_wp2_with (first
    | (with_reducible refine wpList_box (o := ⟨some 3, _, _, _, _, _⟩) rfl (.tmp 0) 26 rfl m.cells rfl 4 (pm4 m) (by decide) ?_; intro g w1 hg hF hB1)
    | ((with_reducible refine wpList_box (o := ⟨some 4, _, _, _, _, _⟩) rfl (.tmp 1) 53 rfl j.cells rfl 4 (jn4 j) (by decide) ?_); intro k w2 hk hK hB2; have hF2 := hF.below hB2; have hBw := Below.then_ hB1 hB2; have hbs := hBw.size; have f0 := hK.cell_ (k := 0) rfl; rw [eop] at f0; have f3 := hF2.cell_ (k := 2) (u := .slice (some ⟨b, o, none⟩) m.nb m.cb) (by rw [hcc]; rfl); have f2 := hK.cell_ (k := 2) (u := .int .i64 (ka : Int)) (by rw [← hka]; rfl); have fv : w2.cell? ⟨b, o + ka, none⟩ = some (.int .u8 (v.toNat : Int)) := (hBw.cell (p := ⟨b, o + ka, none⟩) hb).trans hv0)
    | (go_at_call 20; refine (Pins_any v.toNat w2).mono ?_; rw [hpi]; rintro e w3 ⟨Ai, ci, Ao, co, rfl, hFi, hFo, hB3⟩; have hBw3 := Below.then_ hBw hB3))
  go_ret2
  exact ⟨_, _, _, _, rfl, hFi.lower hbs, fresh_nil _ _ _, hBw3⟩
set_option maxHeartbeats 4000000 in
set_option maxRecDepth 100000 in
theorem eff21_any (m : Pm) (j : Jn) (A : Option Addr) (c n : Nat) (st : List UInt8) (w : World) (hm : PmAt w.heap.size w m) (hs : Sees w w.heap.size A (cb st)) (hl : st.length = n) (hn : n ≤ 1099511627776) (hj : j.t < 256) (hop : j.op = 21) (ha : 0 ≤ j.a ∧ j.a < m.nb) (hnn : 0 ≤ j.n ∧ j.n < ((pinsF (m.p.blocks.getD j.a.toNat 0).toNat).2.length : Int)) :
    Calls Try.prog 96 #[.agg m.cells.toArray, .agg j.cells.toArray, .slice A n c] w (TwoMade w (effF m.p j st)) := by
  have eop : (j.op : Int) = 21 := by omega
  obtain ⟨ka, hka⟩ : ∃ ka : Nat, j.a = ka := ⟨j.a.toNat, by omega⟩
  have hkl : ka < m.nb := by omega
  obtain ⟨b, o, hA, hb, v, HX, hx, hv0⟩ := hm.blocks.byte hm.nb hkl
  have evt : m.p.blocks.getD j.a.toNat 0 = v := by
    rw [hka, Int.toNat_natCast]
    simp [List.getD, HX.out]
  have hcc : m.cells = [sv m.p.name, .slice m.av m.nv m.cv, .slice (some ⟨b, o, none⟩) m.nb m.cb, .slice m.ai m.ni m.ci] := by rw [Pm.cells, hA]
  have hsm := hm.small.2.1
  obtain ⟨pi, hpi⟩ : ∃ pi, pinsF v.toNat = pi := ⟨_, rfl⟩
  obtain ⟨kn, hkn⟩ : ∃ kn : Nat, j.n = kn := ⟨j.n.toNat, by omega⟩
  rw [evt, hpi] at hnn
  have hkn2 : kn < pi.2.length := by omega
  have evn : pi.2.getD j.n.toNat 0 = pi.2[kn] := by
    rw [hkn, Int.toNat_natCast]
    simp [List.getD, hkn2]
  obtain ⟨vt, hvt⟩ : ∃ vt, pi.2[kn] = vt := ⟨_, rfl⟩
  rw [hvt] at evn
  obtain ⟨N, hN⟩ : ∃ N, pi.2.length = N := ⟨_, rfl⟩
  have hNs : N ≤ 3 := by rw [← hN, ← hpi]; exact pins_few3 _
  rw [show effF m.p j st = ([], [vt]) from by simp [effF, hop, -List.getD_eq_getElem?_getD, evt, hpi, evn]]
  clear hop
  clear hm hs hA HX hnn
  go_enter Try.func96, Try.ntmps96
  go_wp2_with (first
    | (with_reducible refine wpList_box (o := ⟨some 3, _, _, _, _, _⟩) rfl (.tmp 0) 26 rfl m.cells rfl 4 (pm4 m) (by decide) ?_; intro g w1 hg hF hB1)
    | ((with_reducible refine wpList_box (o := ⟨some 4, _, _, _, _, _⟩) rfl (.tmp 1) 53 rfl j.cells rfl 4 (jn4 j) (by decide) ?_); intro k w2 hk hK hB2; have hF2 := hF.below hB2; have hBw := Below.then_ hB1 hB2; have hbs := hBw.size; have f0 := hK.cell_ (k := 0) rfl; rw [eop] at f0; have f3 := hF2.cell_ (k := 2) (u := .slice (some ⟨b, o, none⟩) m.nb m.cb) (by rw [hcc]; rfl); have f2 := hK.cell_ (k := 2) (u := .int .i64 (ka : Int)) (by rw [← hka]; rfl); have fv : w2.cell? ⟨b, o + ka, none⟩ = some (.int .u8 (v.toNat : Int)) := (hBw.cell (p := ⟨b, o + ka, none⟩) hb).trans hv0)
    | (go_at_call 20; refine (Pins_any v.toNat w2).mono ?_; rw [hpi]; rintro e w3 ⟨Ai, ci, Ao, co, rfl, hFi, hFo, hB3⟩; have hBw3 := Below.then_ hBw hB3))
  rw [hN] at hFo hkn2
  obtain ⟨G, rfl, hG1, hG2⟩ := hFo.spotC (by omega)
  have hV : ∀ w', Below w3.heap.size w3 w' → w'.cell? ⟨G, kn, none⟩ = some (.int .u8 (vt.toNat : Int)) := by
    intro w' hw
    obtain ⟨b', o', he, _, hc⟩ := (hFo.below hw).sees (by simp [cb]; omega)
    obtain ⟨rfl, rfl⟩ : G = b' ∧ 0 = o' := by simpa using he
    have := hc kn (.int .u8 (vt.toNat : Int)) (by simp [cb, ← hvt, hN, hkn2])
    rwa [Nat.zero_add] at this
  have HV := Lib.hid hV
  have hK := hK.below hB3
  have hbs := hBw3.size
  have hBw := hBw3
  clear hV hFi hFo hBw3 hB3 hN hpi hvt evn evt
  refine region_all_end (ef36 w.heap.size k G kn N co vt) (by kernel_rfl) (by kernel_rfl) (ef36_stab _ _ _ _ _ _ _) ?_ ?_
  · intro w0 hb0
    refine ⟨?_, ?_, ?_, ?_, ?_, ?_, ?_, ?_, trivial⟩
    all_goals intro listed a1 w' hk1 hd1
    · have f12_ : a1.eval (.tmp 12) = .slice (some ⟨G, 0, none⟩) N co := hk1.ev_old 12 (by kernel_rfl)
      have g12_ : a1.tmps[12]?.getD undef = .slice (some ⟨G, 0, none⟩) N co := by simpa [Act.eval] using f12_
      exact stepOk_value rfl (v := .slice (some ⟨G, 0, none⟩) N co) (by go_simp) rfl
    · have f4_ : a1.eval (.tmp 4) = .pointer (some ⟨k, 0, none⟩) := hk1.ev_old 4 (by kernel_rfl)
      have g4_ : a1.tmps[4]?.getD undef = .pointer (some ⟨k, 0, none⟩) := by simpa [Act.eval] using f4_
      exact stepOk_value rfl (v := .pointer (some ⟨k, 3, none⟩)) (by go_simp) rfl
    · obtain ⟨y1, e1, q1, rfl⟩ := hk1.ev_new hd1 1 126 (by kernel_rfl) rfl
      have kc := ((hK.below hb0).below hk1.below).cell_ (k := 3) (u := .int .i64 (kn : Int)) (by rw [← hkn]; rfl)
      exact stepOk_value rfl (v := .int .i64 (kn : Int)) (by go_simp) rfl
    · obtain ⟨y0, e0, q0, rfl⟩ := hk1.ev_new hd1 0 125 (by kernel_rfl) rfl
      obtain ⟨y2, e2, q2, rfl⟩ := hk1.ev_new hd1 2 127 (by kernel_rfl) rfl
      exact stepOk_value rfl (v := .pointer (some ⟨G, kn, none⟩)) (by go_simp) rfl
    · obtain ⟨y3, e3, q3, rfl⟩ := hk1.ev_new hd1 3 128 (by kernel_rfl) rfl
      have kc : w'.cell? ⟨G, kn, none⟩ = some (.int .u8 (vt.toNat : Int)) := HV.out w' (Below.then_ hb0 hk1.below)
      exact stepOk_value rfl (v := .int .u8 (vt.toNat : Int)) (by go_simp) rfl
    · obtain ⟨y4, e4, q4, rfl⟩ := hk1.ev_new hd1 4 129 (by kernel_rfl) rfl
      refine step_bsT1 rfl (.tmp 129) rfl vt e4 (Nat.le_trans hbs (Nat.le_trans hb0.size hk1.below.size)) (fun q w' hq => ⟨q, rfl, hq⟩)
    · exact stepOk_value rfl (v := .slice none 0 0) (by go_simp) rfl
    · obtain ⟨y5, e5, r5, q5⟩ := hk1.ev_new hd1 5 130 (by kernel_rfl) rfl
      obtain ⟨q, rfl, hq⟩ := q5
      exact stepOk_value rfl (v := .slice (some ⟨q, 0, none⟩) 1 1) (by go_simp) ⟨q, rfl, hq⟩
  · intro a1 w7 hb7 hp
    obtain ⟨x0, p0, x1, p1, x2, p2, x3, p3, x4, p4, x5, p5, x6, p6, x7, p7, rfl⟩ := hp
    simp only [ef36] at p0 p1 p2 p3 p4 p5 p6 p7
    obtain ⟨q2, rfl, -⟩ := p5
    obtain ⟨q4, rfl, hF4⟩ := p7
    subst p0 p1 p2 p3 p4 p6
    simp only [Act.put, List.setIfInBounds_toArray, List.set_cons_succ, List.set_cons_zero]
    have hB7 := Below.then_ hBw hb7
    go_wp2_with fail
    go_ret2
    exact ⟨_, _, _, _, rfl, fresh_nil _ _ _, hF4, hB7⟩
set_option maxHeartbeats 4000000 in
set_option maxRecDepth 100000 in
theorem eff18_any (m : Pm) (j : Jn) (A : Option Addr) (c n : Nat) (st : List UInt8) (w : World) (hm : PmAt w.heap.size w m) (hs : Sees w w.heap.size A (cb st)) (hl : st.length = n) (hn : n ≤ 1099511627776) (hj : j.t < 256) (hop : j.op = 18)  :
    Calls Try.prog 96 #[.agg m.cells.toArray, .agg j.cells.toArray, .slice A n c] w (TwoMade w (effF m.p j st)) := by
  have eop : (j.op : Int) = 18 := by omega
  rw [show effF m.p j st = ([], []) from by simp [effF, hop, -List.getD_eq_getElem?_getD]]
  clear hop
  clear hm hs
  go_enter Try.func96, Try.ntmps96
  go_wp2_with (first
    | (with_reducible refine wpList_box (o := ⟨some 3, _, _, _, _, _⟩) rfl (.tmp 0) 26 rfl m.cells rfl 4 (pm4 m) (by decide) ?_; intro g w1 hg hF hB1)
    | ((with_reducible refine wpList_box (o := ⟨some 4, _, _, _, _, _⟩) rfl (.tmp 1) 53 rfl j.cells rfl 4 (jn4 j) (by decide) ?_); intro k w2 hk hK hB2; have hF2 := hF.below hB2; have hBw := Below.then_ hB1 hB2; have hbs := hBw.size; have f0 := hK.cell_ (k := 0) rfl; rw [eop] at f0))
  go_ret2
  exact ⟨_, _, _, _, rfl, fresh_nil _ _ _, fresh_nil _ _ _, hBw⟩
set_option maxHeartbeats 4000000 in
set_option maxRecDepth 100000 in
theorem eff22_any (m : Pm) (j : Jn) (A : Option Addr) (c n : Nat) (st : List UInt8) (w : World) (hm : PmAt w.heap.size w m) (hs : Sees w w.heap.size A (cb st)) (hl : st.length = n) (hn : n ≤ 1099511627776) (hj : j.t < 256) (hop : j.op = 22)  :
    Calls Try.prog 96 #[.agg m.cells.toArray, .agg j.cells.toArray, .slice A n c] w (TwoMade w (effF m.p j st)) := by
  have eop : (j.op : Int) = 22 := by omega
  rw [show effF m.p j st = ([], []) from by simp [effF, hop, -List.getD_eq_getElem?_getD]]
  clear hop
  clear hm hs
  go_enter Try.func96, Try.ntmps96
  go_wp2_with (first
    | (with_reducible refine wpList_box (o := ⟨some 3, _, _, _, _, _⟩) rfl (.tmp 0) 26 rfl m.cells rfl 4 (pm4 m) (by decide) ?_; intro g w1 hg hF hB1)
    | ((with_reducible refine wpList_box (o := ⟨some 4, _, _, _, _, _⟩) rfl (.tmp 1) 53 rfl j.cells rfl 4 (jn4 j) (by decide) ?_); intro k w2 hk hK hB2; have hF2 := hF.below hB2; have hBw := Below.then_ hB1 hB2; have hbs := hBw.size; have f0 := hK.cell_ (k := 0) rfl; rw [eop] at f0))
  go_ret2
  exact ⟨_, _, _, _, rfl, fresh_nil _ _ _, fresh_nil _ _ _, hBw⟩
end Go.Proofs.Ytangblcfdboghaa
