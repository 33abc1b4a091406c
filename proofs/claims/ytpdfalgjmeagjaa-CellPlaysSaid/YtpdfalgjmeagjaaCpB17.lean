/-
  The steps of a Put, as closures, one behind the other up to the first error.
  The steps of a Put, one behind the other up to the first error; and the call write.
  What a Put answers, and does.
  Opening a cell; what the statements make and read; the chapter's examples.
-/
import Derived.Test.YtpdfalgjmeagjaaCpB14
import Derived.Test.YtpdfalgjmeagjaaCpB07
import Derived.Test.YtpdfalgjmeagjaaCpB10
namespace Go.Proofs.Ytpdfalgjmeagjaa
open Go.RowKit
set_option linter.unusedVariables false

theorem Fl.derase_n {S T : Fl} {f m q : Nat} {s : Int} (hT : S.derase f m s = (T, q)) : T.n = S.n := by
  have hst := Fl.step_n S
  unfold Fl.derase Fl.erase at hT
  revert hT hst
  cases secsOk m s 1
  · intro h1 _; simp only [Prod.mk.injEq] at h1; rw [← h1.1]
  · simp only
    split
    · intro h1 _; simp only [Prod.mk.injEq] at h1; rw [← h1.1]
    · intro h1 _; simp only [Prod.mk.injEq] at h1; rw [← h1.1]
    · split
      · rename_i hs; rw [hs]; intro h1 h2; simp only [Prod.mk.injEq] at h1; rw [← h1.1]; exact h2
      · rename_i hs; rw [hs]; intro h1 h2; simp only [Prod.mk.injEq] at h1; rw [← h1.1]; exact h2
/-- A list in memory made later than a flash. -/
theorem Off.made {w : World} {base p b n c : Nat} {A : Option Addr} {e : TypeId} {xs : List Value} (h : Fresh base e w A n c xs) (hp : p < base) (hb : b < base) : Off p b w A xs := fun w' y => (h.butC y hp hb).sees
/-- What the steps of a Put find in memory. -/
structure WrAt (B base : Nat) (w : World) (c d p b f gc gx gf σ : Nat) (S : Fl) (x : Co) (A : Option Addr) (cp : Nat) (k : Co) (K : Option Addr) (ck : Nat) (over : Bool) : Prop where
  dr : DrAt base w d p b f 2 S
  fo : Fresh base 208 w (some ⟨c, 0, none⟩) 6 6 (ceObj c d k K ck over)
  fc : Fresh B 92 w (some ⟨gc, 0, none⟩) 1 1 [.pointer (some ⟨c, 0, none⟩)]
  fx : Fresh B 206 w (some ⟨gx, 0, none⟩) 3 3 (coL x A cp)
  ff : Fresh B 3 w (some ⟨gf, 0, none⟩) 1 1 [.int .i64 (64 * (σ : Int))]
  fb : Fresh base 5 w A x.b.length cp (cb x.b)
  xs : x.s = (σ : Int)
  sl : σ < 2
  xt : x.t ≤ 2147483648
  xb : x.b.length ≤ 244
def wr1 (c d gx gf base σ : Nat) (A : Option Addr) (cp : Nat) (x : Co) (k : Nat) (v : Value) (w : World) : Prop :=
  match k with
  | 0 => v = .pointer (some ⟨c, 0, none⟩)
  | 1 => v = .pointer (some ⟨c, 0, none⟩)
  | 2 => v = .pointer (some ⟨c, 1, none⟩)
  | 3 => v = .pointer (some ⟨d, 0, none⟩)
  | 4 => v = .pointer (some ⟨gx, 0, none⟩)
  | 5 => v = .int .i64 (σ : Int)
  | _ => True
theorem wr1_stab (c d gx gf base σ : Nat) (A : Option Addr) (cp : Nat) (x : Co) : ∀ k v w w', Below w.heap.size w w' → wr1 c d gx gf base σ A cp x k v w → wr1 c d gx gf base σ A cp x k v w' := by
  intro k v w w' hb h
  unfold wr1 at *
  split at h <;> first | exact h | (obtain ⟨q, h1, h2⟩ := h; exact ⟨q, h1, h2.below hb⟩) | (obtain ⟨q, c, h1, h2⟩ := h; exact ⟨q, c, h1, h2.below hb⟩) | trivial
def wr2 (c d gx gf base σ : Nat) (A : Option Addr) (cp : Nat) (x : Co) (k : Nat) (v : Value) (w : World) : Prop :=
  match k with
  | 0 => v = .pointer (some ⟨c, 0, none⟩)
  | 1 => v = .pointer (some ⟨c, 0, none⟩)
  | 2 => v = .pointer (some ⟨c, 1, none⟩)
  | 3 => v = .pointer (some ⟨d, 0, none⟩)
  | 4 => v = .int .i64 (64 * (σ : Int))
  | 5 => v = .agg (coL x A cp).toArray
  | 6 => ∃ q c, v = .slice q (2 + (x.b.length + 3) / 4) c ∧ Fresh base 22 w q (2 + (x.b.length + 3) / 4) c (cw (wordsC x.t x.b))
  | _ => True
theorem wr2_stab (c d gx gf base σ : Nat) (A : Option Addr) (cp : Nat) (x : Co) : ∀ k v w w', Below w.heap.size w w' → wr2 c d gx gf base σ A cp x k v w → wr2 c d gx gf base σ A cp x k v w' := by
  intro k v w w' hb h
  unfold wr2 at *
  split at h <;> first | exact h | (obtain ⟨q, h1, h2⟩ := h; exact ⟨q, h1, h2.below hb⟩) | (obtain ⟨q, c, h1, h2⟩ := h; exact ⟨q, c, h1, h2.below hb⟩) | trivial
def wr3 (c d gx gf base σ : Nat) (A : Option Addr) (cp : Nat) (x : Co) (k : Nat) (v : Value) (w : World) : Prop :=
  match k with
  | 0 => v = .pointer (some ⟨c, 0, none⟩)
  | 1 => v = .pointer (some ⟨c, 0, none⟩)
  | 2 => v = .pointer (some ⟨c, 1, none⟩)
  | 3 => v = .pointer (some ⟨d, 0, none⟩)
  | 4 => v = .int .i64 (64 * (σ : Int))
  | 5 => v = .int .i64 (64 * (σ : Int) + 63)
  | 6 => ∃ q, v = .slice (some ⟨q, 0, none⟩) 1 1 ∧ Fresh base 22 w (some ⟨q, 0, none⟩) 1 1 (cw [0])
  | _ => True
theorem wr3_stab (c d gx gf base σ : Nat) (A : Option Addr) (cp : Nat) (x : Co) : ∀ k v w w', Below w.heap.size w w' → wr3 c d gx gf base σ A cp x k v w → wr3 c d gx gf base σ A cp x k v w' := by
  intro k v w w' hb h
  unfold wr3 at *
  split at h <;> first | exact h | (obtain ⟨q, h1, h2⟩ := h; exact ⟨q, h1, h2.below hb⟩) | (obtain ⟨q, c, h1, h2⟩ := h; exact ⟨q, c, h1, h2.below hb⟩) | trivial
section
variable {w w' : World} {B base c d p b f gc gx gf σ : Nat} {S S' : Fl} {x : Co} {A : Option Addr} {cp : Nat} {k : Co} {K : Option Addr} {ck : Nat} {over : Bool}
theorem WrAt.below (h : WrAt B base w c d p b f gc gx gf σ S x A cp k K ck over) (y : Below w.heap.size w w') : WrAt B base w' c d p b f gc gx gf σ S x A cp k K ck over :=
  ⟨h.dr.below y, h.fo.below y, h.fc.below y, h.fx.below y, h.ff.below y, h.fb.below y, h.xs, h.sl, h.xt, h.xb⟩
theorem WrAt.turn (h : WrAt B base w c d p b f gc gx gf σ S x A cp k K ck over) (y : But p b w w') (hD : DrAt base w' d p b f 2 S') : WrAt B base w' c d p b f gc gx gf σ S' x A cp k K ck over := by
  have n1 := h.dr.nor.obj
  have n2 := h.dr.nor.row
  exact ⟨hD, h.fo.unlike2 n1 n2 (by decide) (by decide) y, h.fc.unlike2 n1 n2 (by decide) (by decide) y, h.fx.unlike2 n1 n2 (by decide) (by decide) y, h.ff.unlike2 n1 n2 (by decide) (by decide) y, h.fb.unlike2 n1 n2 (by decide) (by decide) y, h.xs, h.sl, h.xt, h.xb⟩
set_option maxHeartbeats 1000000 in
set_option maxRecDepth 100000 in
theorem write1_any (h : WrAt B base w c d p b f gc gx gf σ S x A cp k K ck over) (T : Fl) (q : Nat) (hT : S.derase f 2 (σ : Int) = (T, q)) :
    Calls Try.prog 185 #[.pointer (some ⟨gc, 0, none⟩), .pointer (some ⟨gx, 0, none⟩)] w fun e w' => e = .returned (.int .i64 (q : Int)) ∧ DrAt base w' d p b f 2 T ∧ But p b w w' := by
  have hn := Fl.derase_n hT
  have hsl := h.sl
  have HT := Lib.hid hT
  clear hT
  go_enter Try.func185, Try.ntmps185
  go_wp2_with fail
  (try simp only [Act.put, List.setIfInBounds_toArray, List.set_cons_succ, List.set_cons_zero])
  refine region_all_tail 6 (wr1 c d gx gf w.heap.size σ A cp x) (by kernel_rfl) (by kernel_rfl) (by kernel_rfl) (wr1_stab _ _ _ _ _ _ _ _ _) ?_ ?_
  · intro w0 hb0
    have hsz0 : w.heap.size ≤ w0.heap.size := hb0.size
    simp only [List.take_succ_cons, List.take_zero]
    refine ⟨?_, ?_, ?_, ?_, ?_, ?_, trivial⟩
    all_goals intro listed a1 w' hk hd
    · have f0_ : a1.eval (.tmp 0) = .pointer (some ⟨gc, 0, none⟩) := hk.ev_old 0 (by kernel_rfl)
      have g0_ : a1.tmps[0]?.getD undef = .pointer (some ⟨gc, 0, none⟩) := by simpa [Act.eval] using f0_
      have c1 : w'.cell? ⟨gc, 0, none⟩ = some (.pointer (some ⟨c, 0, none⟩)) := ((h.below hb0).below hk.below).fc.cell rfl
      exact stepOk_value rfl (v := .pointer (some ⟨c, 0, none⟩)) (by go_simp) rfl
    · obtain ⟨v0, e0, q0, rfl⟩ := hk.ev_new hd 0 3 (by kernel_rfl) rfl
      exact stepOk_value rfl (v := .pointer (some ⟨c, 0, none⟩)) (by go_simp) rfl
    · obtain ⟨v1, e1, q1, rfl⟩ := hk.ev_new hd 1 4 (by kernel_rfl) rfl
      exact stepOk_value rfl (v := .pointer (some ⟨c, 1, none⟩)) (by go_simp) rfl
    · obtain ⟨v2, e2, q2, rfl⟩ := hk.ev_new hd 2 5 (by kernel_rfl) rfl
      have c1 : w'.cell? ⟨c, 1, none⟩ = some (.pointer (some ⟨d, 0, none⟩)) := ((h.below hb0).below hk.below).fo.cell rfl
      exact stepOk_value rfl (v := .pointer (some ⟨d, 0, none⟩)) (by go_simp) rfl
    · have f1_ : a1.eval (.tmp 1) = .pointer (some ⟨gx, 0, none⟩) := hk.ev_old 1 (by kernel_rfl)
      have g1_ : a1.tmps[1]?.getD undef = .pointer (some ⟨gx, 0, none⟩) := by simpa [Act.eval] using f1_
      exact stepOk_value rfl (v := .pointer (some ⟨gx, 0, none⟩)) (by go_simp) rfl
    · obtain ⟨v4, e4, q4, rfl⟩ := hk.ev_new hd 4 7 (by kernel_rfl) rfl
      have c1 : w'.cell? ⟨gx, 0, none⟩ = some (.int .i64 (σ : Int)) := by have := ((h.below hb0).below hk.below).fx.cell (j := 0) rfl; rwa [h.xs] at this
      exact stepOk_value rfl (v := .int .i64 (σ : Int)) (by go_simp) rfl
  · intro a1 w' hbw hp
    obtain ⟨v0, p0, v1, p1, v2, p2, v3, p3, v4, p4, v5, p5, rfl⟩ := hp
    simp only [wr1] at p0 p1 p2 p3 p4 p5
    subst p0 p1 p2 p3 p4 p5
    simp only [List.drop_succ_cons, List.drop_zero, Act.put, List.setIfInBounds_toArray, List.set_cons_succ, List.set_cons_zero]
    have hD := h.dr.below hbw
    go_wp2_with fail
    refine (dErase_any hD (σ : Int) (by omega) T q HT.out hn).mono ?_
    rintro e w3 ⟨rfl, hD3, hB3⟩
    go_wp2_with fail
    go_ret
    exact ⟨rfl, hD3, (But.of_below hbw).then_ hB3⟩
set_option maxHeartbeats 1000000 in
set_option maxRecDepth 100000 in
theorem write2_any (h : WrAt B base w c d p b f gc gx gf σ S x A cp k K ck over) (hbase : base ≤ w.heap.size) (T : Fl) (q : Nat) (hT : S.dwrite f 2 (64 * (σ : Int)) (wordsC x.t x.b) = (T, q)) :
    Calls Try.prog 186 #[.pointer (some ⟨gc, 0, none⟩), .pointer (some ⟨gf, 0, none⟩), .pointer (some ⟨gx, 0, none⟩)] w fun e w' => e = .returned (.int .i64 (q : Int)) ∧ DrAt base w' d p b f 2 T ∧ But p b w w' := by
  have hsl := h.sl
  have HT := Lib.hid hT
  have HL := Lib.hid (wordsC_len (t := x.t) h.xb)
  clear hT
  obtain ⟨hp1, hb1, -, -⟩ := h.dr.nor.lt
  go_enter Try.func186, Try.ntmps186
  go_wp2_with fail
  (try simp only [Act.put, List.setIfInBounds_toArray, List.set_cons_succ, List.set_cons_zero])
  refine region_all_tail 7 (wr2 c d gx gf w.heap.size σ A cp x) (by kernel_rfl) (by kernel_rfl) (by kernel_rfl) (wr2_stab _ _ _ _ _ _ _ _ _) ?_ ?_
  · intro w0 hb0
    have hsz0 : w.heap.size ≤ w0.heap.size := hb0.size
    simp only [List.take_succ_cons, List.take_zero]
    refine ⟨?_, ?_, ?_, ?_, ?_, ?_, ?_, trivial⟩
    all_goals intro listed a1 w' hk hd
    · have f0_ : a1.eval (.tmp 0) = .pointer (some ⟨gc, 0, none⟩) := hk.ev_old 0 (by kernel_rfl)
      have g0_ : a1.tmps[0]?.getD undef = .pointer (some ⟨gc, 0, none⟩) := by simpa [Act.eval] using f0_
      have c1 : w'.cell? ⟨gc, 0, none⟩ = some (.pointer (some ⟨c, 0, none⟩)) := ((h.below hb0).below hk.below).fc.cell rfl
      exact stepOk_value rfl (v := .pointer (some ⟨c, 0, none⟩)) (by go_simp) rfl
    · obtain ⟨v0, e0, q0, rfl⟩ := hk.ev_new hd 0 4 (by kernel_rfl) rfl
      exact stepOk_value rfl (v := .pointer (some ⟨c, 0, none⟩)) (by go_simp) rfl
    · obtain ⟨v1, e1, q1, rfl⟩ := hk.ev_new hd 1 5 (by kernel_rfl) rfl
      exact stepOk_value rfl (v := .pointer (some ⟨c, 1, none⟩)) (by go_simp) rfl
    · obtain ⟨v2, e2, q2, rfl⟩ := hk.ev_new hd 2 6 (by kernel_rfl) rfl
      have c1 : w'.cell? ⟨c, 1, none⟩ = some (.pointer (some ⟨d, 0, none⟩)) := ((h.below hb0).below hk.below).fo.cell rfl
      exact stepOk_value rfl (v := .pointer (some ⟨d, 0, none⟩)) (by go_simp) rfl
    · have f1_ : a1.eval (.tmp 1) = .pointer (some ⟨gf, 0, none⟩) := hk.ev_old 1 (by kernel_rfl)
      have g1_ : a1.tmps[1]?.getD undef = .pointer (some ⟨gf, 0, none⟩) := by simpa [Act.eval] using f1_
      have c1 : w'.cell? ⟨gf, 0, none⟩ = some (.int .i64 (64 * (σ : Int))) := ((h.below hb0).below hk.below).ff.cell rfl
      exact stepOk_value rfl (v := .int .i64 (64 * (σ : Int))) (by go_simp) rfl
    · have f2 : a1.eval (.tmp 2) = .pointer (some ⟨gx, 0, none⟩) := hk.ev_old 2 (by kernel_rfl)
      exact stepOk_value rfl (run_load_agg (.tmp 2) 206 rfl f2 (coL x A cp) 3 rfl (by kernel_rfl) ((h.below hb0).below hk.below).fx.sees) rfl
    · obtain ⟨v5, e5, q5, rfl⟩ := hk.ev_new hd 5 9 (by kernel_rfl) rfl
      have hh := ((h.below hb0).below hk.below)
      refine stepOk_enter rfl (f := 187) (args := #[.agg (coL x A cp).toArray]) (by go_simp) ?_
      refine (cwords_any (w := w') x A cp h.xt h.xb hh.fb.sees).mono ?_
      rintro e w5 ⟨q, cq, rfl, hq, hB5⟩
      exact ⟨_, rfl, ⟨q, cq, rfl, hq.lower (Nat.le_trans hsz0 hk.below.size)⟩, hB5⟩
  · intro a1 w' hbw hp
    obtain ⟨v0, p0, v1, p1, v2, p2, v3, p3, v4, p4, v5, p5, v6, p6, rfl⟩ := hp
    simp only [wr2] at p0 p1 p2 p3 p4 p5 p6
    subst p0 p1 p2 p3 p4 p5
    obtain ⟨q1, c1, rfl, hF1⟩ := p6
    simp only [List.drop_succ_cons, List.drop_zero, Act.put, List.setIfInBounds_toArray, List.set_cons_succ, List.set_cons_zero]
    have hD := h.dr.below hbw
    have hO := Off.made hF1 hp1 hb1
    go_wp2_with fail
    refine (dWrite_any hD (64 * (σ : Int)) (by omega) _ c1 q1 (wordsC x.t x.b) hO HL.out.1 hF1.cap.1 T q HT.out).mono ?_
    rintro e w3 ⟨rfl, hD3, hB3⟩
    go_wp2_with fail
    go_ret
    exact ⟨rfl, hD3, (But.of_below hbw).then_ hB3⟩
set_option maxHeartbeats 1000000 in
set_option maxRecDepth 100000 in
theorem write3_any (h : WrAt B base w c d p b f gc gx gf σ S x A cp k K ck over) (hbase : base ≤ w.heap.size) (T : Fl) (q : Nat) (hT : S.dwrite f 2 (64 * (σ : Int) + 63) [0] = (T, q)) :
    Calls Try.prog 188 #[.pointer (some ⟨gc, 0, none⟩), .pointer (some ⟨gf, 0, none⟩)] w fun e w' => e = .returned (.int .i64 (q : Int)) ∧ DrAt base w' d p b f 2 T ∧ But p b w w' := by
  have hsl := h.sl
  have HT := Lib.hid hT
  have ew : IntKind.i64.wrap (64 * (σ : Int) + 63) = 64 * (σ : Int) + 63 := wrapI _ (by omega) (by omega)
  clear hT
  obtain ⟨hp1, hb1, -, -⟩ := h.dr.nor.lt
  go_enter Try.func188, Try.ntmps188
  go_wp2_with fail
  (try simp only [Act.put, List.setIfInBounds_toArray, List.set_cons_succ, List.set_cons_zero])
  refine region_all_tail 7 (wr3 c d gx gf w.heap.size σ A cp x) (by kernel_rfl) (by kernel_rfl) (by kernel_rfl) (wr3_stab _ _ _ _ _ _ _ _ _) ?_ ?_
  · intro w0 hb0
    have hsz0 : w.heap.size ≤ w0.heap.size := hb0.size
    simp only [List.take_succ_cons, List.take_zero]
    refine ⟨?_, ?_, ?_, ?_, ?_, ?_, ?_, trivial⟩
    all_goals intro listed a1 w' hk hd
    · have f0_ : a1.eval (.tmp 0) = .pointer (some ⟨gc, 0, none⟩) := hk.ev_old 0 (by kernel_rfl)
      have g0_ : a1.tmps[0]?.getD undef = .pointer (some ⟨gc, 0, none⟩) := by simpa [Act.eval] using f0_
      have c1 : w'.cell? ⟨gc, 0, none⟩ = some (.pointer (some ⟨c, 0, none⟩)) := ((h.below hb0).below hk.below).fc.cell rfl
      exact stepOk_value rfl (v := .pointer (some ⟨c, 0, none⟩)) (by go_simp) rfl
    · obtain ⟨v0, e0, q0, rfl⟩ := hk.ev_new hd 0 3 (by kernel_rfl) rfl
      exact stepOk_value rfl (v := .pointer (some ⟨c, 0, none⟩)) (by go_simp) rfl
    · obtain ⟨v1, e1, q1, rfl⟩ := hk.ev_new hd 1 4 (by kernel_rfl) rfl
      exact stepOk_value rfl (v := .pointer (some ⟨c, 1, none⟩)) (by go_simp) rfl
    · obtain ⟨v2, e2, q2, rfl⟩ := hk.ev_new hd 2 5 (by kernel_rfl) rfl
      have c1 : w'.cell? ⟨c, 1, none⟩ = some (.pointer (some ⟨d, 0, none⟩)) := ((h.below hb0).below hk.below).fo.cell rfl
      exact stepOk_value rfl (v := .pointer (some ⟨d, 0, none⟩)) (by go_simp) rfl
    · have f1_ : a1.eval (.tmp 1) = .pointer (some ⟨gf, 0, none⟩) := hk.ev_old 1 (by kernel_rfl)
      have g1_ : a1.tmps[1]?.getD undef = .pointer (some ⟨gf, 0, none⟩) := by simpa [Act.eval] using f1_
      have c1 : w'.cell? ⟨gf, 0, none⟩ = some (.int .i64 (64 * (σ : Int))) := ((h.below hb0).below hk.below).ff.cell rfl
      exact stepOk_value rfl (v := .int .i64 (64 * (σ : Int))) (by go_simp) rfl
    · obtain ⟨v4, e4, q4, rfl⟩ := hk.ev_new hd 4 7 (by kernel_rfl) rfl
      exact stepOk_value rfl (v := .int .i64 (64 * (σ : Int) + 63)) (by go_simp; try exact ew) rfl
    · refine stepOk_run rfl (v := .slice (some ⟨w'.heap.size, 0, none⟩) 1 1) (w' := w'.alloc (.cells (cw [0]).toArray 22)) ?_ ⟨_, rfl, (Fresh.new w' 22 (cw [0]) 1 rfl (by decide)).lower (Nat.le_trans hsz0 hk.below.size)⟩ (below_alloc _ _)
      go_simp
  · intro a1 w' hbw hp
    obtain ⟨v0, p0, v1, p1, v2, p2, v3, p3, v4, p4, v5, p5, v6, p6, rfl⟩ := hp
    simp only [wr3] at p0 p1 p2 p3 p4 p5 p6
    subst p0 p1 p2 p3 p4 p5
    obtain ⟨q1, rfl, hF1⟩ := p6
    simp only [List.drop_succ_cons, List.drop_zero, Act.put, List.setIfInBounds_toArray, List.set_cons_succ, List.set_cons_zero]
    have hD := h.dr.below hbw
    have hO := Off.made hF1 hp1 hb1
    go_wp2_with fail
    refine (dWrite_any hD (64 * (σ : Int) + 63) (by omega) 1 1 _ [0] hO rfl (by omega) T q HT.out).mono ?_
    rintro e w3 ⟨rfl, hD3, hB3⟩
    go_wp2_with fail
    go_ret
    exact ⟨rfl, hD3, (But.of_below hbw).then_ hB3⟩
end
end Go.Proofs.Ytpdfalgjmeagjaa
namespace Go.Proofs.Ytpdfalgjmeagjaa
open Go.RowKit
set_option linter.unusedVariables false

theorem cwrite_cases {S T1 T2 T3 S' : Fl} {f σ t q1 q2 q3 r : Nat} {b : List UInt8} (h1 : S.derase f 2 (σ : Int) = (T1, q1)) (h2 : T1.dwrite f 2 (64 * (σ : Int)) (wordsC t b) = (T2, q2)) (h3 : T2.dwrite f 2 (64 * (σ : Int) + 63) [0] = (T3, q3)) (hr : S.cwrite f σ t b = (S', r)) :
    (¬ q1 = 0 → T1 = S' ∧ q1 = r) ∧ (q1 = 0 → ¬ q2 = 0 → T2 = S' ∧ q2 = r) ∧ (q1 = 0 → q2 = 0 → T3 = S' ∧ q3 = r) := by
  unfold Fl.cwrite at hr
  rw [h1] at hr
  cases q1 with
  | succ z =>
    simp only [Prod.mk.injEq] at hr
    exact ⟨fun _ => hr, fun h => absurd h (by omega), fun h => absurd h (by omega)⟩
  | zero =>
    simp only at hr
    rw [h2] at hr
    cases q2 with
    | succ z =>
      simp only [Prod.mk.injEq] at hr
      exact ⟨fun h => absurd rfl h, fun _ _ => hr, fun _ h => absurd h (by omega)⟩
    | zero =>
      simp only at hr
      rw [h3] at hr
      simp only [Prod.mk.injEq] at hr
      exact ⟨fun h => absurd rfl h, fun _ h => absurd rfl h, fun _ _ => hr⟩
section
variable {w w' : World} {B base c d p b f gc gx gf σ : Nat} {S S' : Fl} {x : Co} {A : Option Addr} {cp : Nat} {k : Co} {K : Option Addr} {ck : Nat} {over : Bool}
set_option maxHeartbeats 2000000 in
set_option maxRecDepth 100000 in
theorem upTo_any (h : WrAt B base w c d p b f gc gx gf σ S x A cp k K ck over) (hbase : base ≤ w.heap.size) (G : Nat) (hG : Fresh B 89 w (some ⟨G, 0, none⟩) 3 3 [.func (.func 185) #[] #[.pointer (some ⟨gc, 0, none⟩), .pointer (some ⟨gx, 0, none⟩)], .func (.func 186) #[] #[.pointer (some ⟨gc, 0, none⟩), .pointer (some ⟨gf, 0, none⟩), .pointer (some ⟨gx, 0, none⟩)], .func (.func 188) #[] #[.pointer (some ⟨gc, 0, none⟩), .pointer (some ⟨gf, 0, none⟩)]]) (r : Nat) (hr : S.cwrite f σ x.t x.b = (S', r)) :
    Calls Try.prog 184 #[.slice (some ⟨G, 0, none⟩) 3 3] w fun e w' => e = .returned (.int .i64 (r : Int)) ∧ DrAt base w' d p b f 2 S' ∧ But p b w w' := by
  obtain ⟨T1, q1, h1⟩ : ∃ T q, S.derase f 2 (σ : Int) = (T, q) := ⟨_, _, rfl⟩
  obtain ⟨T2, q2, h2⟩ : ∃ T q, T1.dwrite f 2 (64 * (σ : Int)) (wordsC x.t x.b) = (T, q) := ⟨_, _, rfl⟩
  obtain ⟨T3, q3, h3⟩ : ∃ T q, T2.dwrite f 2 (64 * (σ : Int) + 63) [0] = (T, q) := ⟨_, _, rfl⟩
  have HC := Lib.hid (cwrite_cases h1 h2 h3 hr)
  have H1 := Lib.hid h1
  have H2 := Lib.hid h2
  have H3 := Lib.hid h3
  have HGG := Lib.hid (fun (w' : World) (y : But p b w w') => hG.unlike2 h.dr.nor.obj h.dr.nor.row (by decide) (by decide) y)
  clear h1 h2 h3 hr
  go_enter Try.func184, Try.ntmps184
  go_wp2_with fail
  go_loopw [8] (fun i wr => ∃ j : Nat, j ≤ 3 ∧ i = .int .i64 (j : Int) ∧ Hid (But p b w wr ∧ ((j = 0 ∧ WrAt B base wr c d p b f gc gx gf σ S x A cp k K ck over) ∨ (j = 1 ∧ q1 = 0 ∧ WrAt B base wr c d p b f gc gx gf σ T1 x A cp k K ck over) ∨ (j = 2 ∧ q1 = 0 ∧ q2 = 0 ∧ WrAt B base wr c d p b f gc gx gf σ T2 x A cp k K ck over) ∨ (j = 3 ∧ q1 = 0 ∧ q2 = 0 ∧ q3 = 0 ∧ WrAt B base wr c d p b f gc gx gf σ T3 x A cp k K ck over)))) (fun i _ => 3 - (intOf i).toNat)
  case atStart => exact ⟨0, by omega, rfl, Lib.hid ⟨But.refl _ _ _, .inl ⟨rfl, h⟩⟩⟩
  case round =>
    obtain ⟨j, hj3, rfl, HX⟩ := hrel
    obtain ⟨hBw, hor⟩ := HX.out
    have hGr := HGG.out wr hBw
    have hbr := Nat.le_trans hbase hBw.size
    clear HX
    rcases hor with ⟨rfl, hW⟩ | ⟨rfl, hq1, hW⟩ | ⟨rfl, hq1, hq2, hW⟩ | ⟨rfl, hq1, hq2, hq3, hW⟩
    · have cg : wr.cell? ⟨G, 0, none⟩ = some (.func (.func 185) #[] #[.pointer (some ⟨gc, 0, none⟩), .pointer (some ⟨gx, 0, none⟩)]) := hGr.cell rfl
      clear hGr
      go_wp2_with fail
      refine (write1_any hW T1 q1 H1.out).mono ?_
      rintro e w3 ⟨rfl, hD3, hB3⟩
      have hW3 := hW.turn hB3 hD3
      have hB03 := hBw.then_ hB3
      by_cases hq : q1 = 0
      · have hqi : (q1 : Int) = 0 := by omega
        go_wp2_with fail
        go_roundw
        case rel => exact ⟨1, by omega, rfl, Lib.hid ⟨hB03, .inr (.inl ⟨rfl, hq, hW3⟩)⟩⟩
        case measure => simp [intOf]
      · have hqi : ¬ ((q1 : Int) = 0) := by omega
        go_wp2_with fail
        go_ret
        obtain ⟨rfl, rfl⟩ := HC.out.1 hq
        exact ⟨rfl, hD3, hB03⟩
    · have cg : wr.cell? ⟨G, 1, none⟩ = some (.func (.func 186) #[] #[.pointer (some ⟨gc, 0, none⟩), .pointer (some ⟨gf, 0, none⟩), .pointer (some ⟨gx, 0, none⟩)]) := hGr.cell rfl
      clear hGr
      go_wp2_with fail
      refine (write2_any hW hbr T2 q2 H2.out).mono ?_
      rintro e w3 ⟨rfl, hD3, hB3⟩
      have hW3 := hW.turn hB3 hD3
      have hB03 := hBw.then_ hB3
      by_cases hq : q2 = 0
      · have hqi : (q2 : Int) = 0 := by omega
        go_wp2_with fail
        go_roundw
        case rel => exact ⟨2, by omega, rfl, Lib.hid ⟨hB03, .inr (.inr (.inl ⟨rfl, hq1, hq, hW3⟩))⟩⟩
        case measure => simp [intOf]
      · have hqi : ¬ ((q2 : Int) = 0) := by omega
        go_wp2_with fail
        go_ret
        obtain ⟨rfl, rfl⟩ := HC.out.2.1 hq1 hq
        exact ⟨rfl, hD3, hB03⟩
    · have cg : wr.cell? ⟨G, 2, none⟩ = some (.func (.func 188) #[] #[.pointer (some ⟨gc, 0, none⟩), .pointer (some ⟨gf, 0, none⟩)]) := hGr.cell rfl
      clear hGr
      go_wp2_with fail
      refine (write3_any hW hbr T3 q3 H3.out).mono ?_
      rintro e w3 ⟨rfl, hD3, hB3⟩
      have hW3 := hW.turn hB3 hD3
      have hB03 := hBw.then_ hB3
      by_cases hq : q3 = 0
      · have hqi : (q3 : Int) = 0 := by omega
        go_wp2_with fail
        go_roundw
        case rel => exact ⟨3, by omega, rfl, Lib.hid ⟨hB03, .inr (.inr (.inr ⟨rfl, hq1, hq2, hq, hW3⟩))⟩⟩
        case measure => simp [intOf]
      · have hqi : ¬ ((q3 : Int) = 0) := by omega
        go_wp2_with fail
        go_ret
        obtain ⟨rfl, rfl⟩ := HC.out.2.2 hq1 hq2
        exact ⟨rfl, hD3, hB03⟩
    · obtain ⟨rfl, rfl⟩ := HC.out.2.2 hq1 hq2
      have hqi : (q3 : Int) = 0 := by omega
      clear hGr
      go_wp2_with fail
      go_ret
      exact ⟨rfl, hW.dr, hBw⟩
set_option maxHeartbeats 1000000 in
set_option maxRecDepth 100000 in
theorem cwrite_any (h : CeAt base w c d p b f S k over) (hbase : base ≤ w.heap.size) (hxs : x.s = (σ : Int)) (hsl : σ < 2) (hxt : x.t ≤ 2147483648) (hxb : x.b.length ≤ 244) (hA : Fresh base 5 w A x.b.length cp (cb x.b)) (r : Nat) (hr : S.cwrite f σ x.t x.b = (S', r)) :
    Calls Try.prog 134 #[.pointer (some ⟨c, 0, none⟩), .agg (coL x A cp).toArray] w fun e w' => e = .returned (.int .i64 (r : Int)) ∧ DrAt base w' d p b f 2 S' ∧ But p b w w' := by
  obtain ⟨K, ck, hrow, hk⟩ := h.row
  have ew : IntKind.i64.wrap (64 * (σ : Int)) = 64 * (σ : Int) := wrapI _ (by omega) (by omega)
  go_enter Try.func134, Try.ntmps134
  go_wp2_with (first
    | (with_reducible refine wpList_box (o := ⟨some 3, _, _, _, _, _⟩) rfl (.tmp 1) 206 rfl (coL x A cp) rfl 3 rfl (by decide) ?_; intro gx w2 hgx hFx hBx; have cx : w2.cell? ⟨gx, 0, none⟩ = some (.int .i64 (σ : Int)) := by have := hFx.cell (j := 0) rfl; rwa [hxs] at this))
  have a1 := below_alloc w (.cells #[.pointer (some ⟨c, 0, none⟩)] 92 (0, 0))
  have z1 := a1.size
  have b02 : Below w.heap.size w w2 := a1.trans (hBx.mono z1)
  have z2 := b02.size
  have a3 := below_alloc w2 (.cells #[.int .i64 (64 * (σ : Int))] 3 (0, 0))
  obtain ⟨w3, hw3⟩ : ∃ w3, w2.alloc (.cells #[.int .i64 (64 * (σ : Int))] 3 (0, 0)) = w3 := ⟨_, rfl⟩
  have hff : Fresh w2.heap.size 3 w3 (some ⟨w2.heap.size, 0, none⟩) 1 1 [.int .i64 (64 * (σ : Int))] := by rw [← hw3]; exact Fresh.new w2 _ _ 1 rfl (by decide)
  have z3 : w3.heap.size = w2.heap.size + 1 := by rw [← hw3]; simp
  rw [hw3] at a3
  have hfc : Fresh w.heap.size 92 w3 (some ⟨w.heap.size, 0, none⟩) 1 1 [.pointer (some ⟨c, 0, none⟩)] := ((Fresh.new w _ [.pointer (some ⟨c, 0, none⟩)] 1 rfl (by decide)).below hBx).below a3
  have a4 := fun (l : List Value) => below_alloc w3 (.cells l.toArray 89 (0, 0))
  have b03 := Below.then_ b02 a3
  have hWr : WrAt w.heap.size base w3 c d p b f w.heap.size gx w2.heap.size σ S x A cp k K ck over :=
    ⟨h.dr.below b03, hrow.below b03, hfc, (hFx.below a3).lower z1, hff.lower z2, hA.below b03, hxs, hsl, hxt, hxb⟩
  have hG := Fresh.new w3 89 [.func (.func 185) #[] #[.pointer (some ⟨w.heap.size, 0, none⟩), .pointer (some ⟨gx, 0, none⟩)], .func (.func 186) #[] #[.pointer (some ⟨w.heap.size, 0, none⟩), .pointer (some ⟨w2.heap.size, 0, none⟩), .pointer (some ⟨gx, 0, none⟩)], .func (.func 188) #[] #[.pointer (some ⟨w.heap.size, 0, none⟩), .pointer (some ⟨w2.heap.size, 0, none⟩)]] 3 rfl (by decide)
  have hU := upTo_any (hWr.below (a4 _)) (Nat.le_trans hbase (Below.then_ b03 (a4 _)).size) w3.heap.size (hG.lower b03.size) r hr
  rw [z3] at hU
  simp only [hw3]
  refine hU.mono ?_
  rintro e w5 ⟨rfl, hD5, hB5⟩
  go_wp2_with fail
  go_ret
  exact ⟨rfl, hD5, (But.of_below (Below.then_ b03 (a4 _))).then_ hB5⟩
end
end Go.Proofs.Ytpdfalgjmeagjaa
namespace Go.Proofs.Ytpdfalgjmeagjaa
open Go.RowKit
set_option linter.unusedVariables false

/-- What a Put makes of what is there. -/
def nextC (z : Co) (bs : List UInt8) : Co := ⟨(z.other : Int), z.t + 1, bs⟩
theorem coL_next (z : Co) (bs : List UInt8) (q : Option Addr) (c : Nat) : coL (nextC z bs) q c = [.int .i64 (z.other : Int), .int .i64 ((z.t : Int) + 1), .slice q bs.length c] := rfl
theorem nextC_ok {z : Co} (hz : z.Ok) {bs : List UInt8} (ht : z.t < 2147483648) (hb : bs.length ≤ 244) : (nextC z bs).Ok :=
  ⟨.inr (by have := Co.other_lt hz; show ((z.other : Nat) : Int) = 0 ∨ ((z.other : Nat) : Int) = 1; omega), by show z.t + 1 ≤ 2147483648; omega, hb, fun h => by exfalso; have h2 : ((z.other : Nat) : Int) = -1 := h; omega⟩
def putFacts (c base : Nat) (z : Co) (K : Option Addr) (ck : Nat) (bs : List UInt8) (A0 : Option Addr) (c0 : Nat) (k : Nat) (v : Value) (w : World) : Prop :=
  match k with
  | 0 => v = .pointer (some ⟨c, 0, none⟩)
  | 1 => v = .pointer (some ⟨c, 0, none⟩)
  | 2 => v = .pointer (some ⟨c, 2, none⟩)
  | 3 => v = .agg (coL z K ck).toArray
  | 4 => v = .int .i64 (z.other : Int)
  | 5 => v = .pointer (some ⟨c, 0, none⟩)
  | 6 => v = .pointer (some ⟨c, 0, none⟩)
  | 7 => v = .pointer (some ⟨c, 2, none⟩)
  | 8 => v = .pointer (some ⟨c, 3, none⟩)
  | 9 => v = .int .i64 (z.t : Int)
  | 10 => v = .int .i64 ((z.t : Int) + 1)
  | 11 => v = .slice A0 bs.length c0
  | 12 => ∃ q c, v = .slice q bs.length c ∧ Fresh base 5 w q bs.length c (cb bs)
  | 13 => ∃ q c, v = .agg (coL (nextC z bs) q c).toArray ∧ Fresh base 5 w q bs.length c (cb bs)
  | 14 => ∃ q, v = .pointer (some ⟨q, 0, none⟩) ∧ Fresh base 206 w (some ⟨q, 0, none⟩) 3 3 zero3
  | _ => True
theorem putFacts_stab (c base : Nat) (z : Co) (K : Option Addr) (ck : Nat) (bs : List UInt8) (A0 : Option Addr) (c0 : Nat) : ∀ k v w w', Below w.heap.size w w' → putFacts c base z K ck bs A0 c0 k v w → putFacts c base z K ck bs A0 c0 k v w' := by
  intro k v w w' hb h
  unfold putFacts at *
  split at h <;> first | exact h | (obtain ⟨q, h1, h2⟩ := h; exact ⟨q, h1, h2.below hb⟩) | (obtain ⟨q, c, h1, h2⟩ := h; exact ⟨q, c, h1, h2.below hb⟩) | trivial
section
variable {w w' : World} {base c d p b f : Nat} {over : Bool} {S S' : Fl} {k k' : Co}
set_option maxHeartbeats 4000000 in
set_option maxRecDepth 100000 in
theorem Put_new (h : CeAt base w c d p b f S k over) (hbase : base ≤ w.heap.size) (A0 : Option Addr) (c0 : Nat) (bs : List UInt8) (hin : Off c c w A0 (cb bs)) (r : Nat) (over' : Bool) (hr : S.cput f k over bs = (S', r, k', over')) :
    Calls Try.prog 51 #[.pointer (some ⟨c, 0, none⟩), .slice A0 bs.length c0] w fun e w' => e = .returned (.int .i64 (r : Int)) ∧ CeAt base w' c d p b f S' k' over' ∧ But3 c p b w w' ∧ (r = 0 → ∃ K ck, Fresh base 208 w' (some ⟨c, 0, none⟩) 6 6 (ceObj c d k' K ck over') ∧ Fresh w.heap.size 5 w' K k'.b.length ck (cb k'.b)) := by
  have hI := isCell_any h
  obtain ⟨K0, ck0, hrow0, hk0⟩ := h.row
  have c5 : w.cell? ⟨c, 5, none⟩ = some (.bool over) := hrow0.cell rfl
  cases over with
  | true =>
    obtain ⟨rfl, rfl, rfl, rfl⟩ : S = S' ∧ 60 = r ∧ k = k' ∧ true = over' := by unfold Fl.cput at hr; simpa only [Prod.mk.injEq] using hr
    clear hr
    go_enter Try.func51, Try.ntmps51
    go_wp2_with fail
    refine hI.mono ?_
    rintro e w1 ⟨rfl, rfl⟩
    go_wp2_with fail
    go_ret
    exact ⟨rfl, h, But3.of_below (Below.refl _ _) c p b, fun e => absurd e (by decide)⟩
  | false =>
    unfold Fl.cput at hr
    simp only at hr
    by_cases hlen : 244 < bs.length
    · rw [if_pos hlen] at hr
      obtain ⟨rfl, rfl, rfl, rfl⟩ : S = S' ∧ 3 = r ∧ k = k' ∧ false = over' := by simpa only [Prod.mk.injEq] using hr
      clear hr
      have hl : decide ((244 : Int) < (bs.length : Int)) = true := by simp; omega
      go_enter Try.func51, Try.ntmps51
      go_wp2_with fail
      refine hI.mono ?_
      rintro e w1 ⟨rfl, rfl⟩
      go_wp2_with fail
      go_ret
      exact ⟨rfl, h, But3.of_below (Below.refl _ _) c p b, fun e => absurd e (by decide)⟩
    · rw [if_neg hlen] at hr
      have hbl : bs.length ≤ 244 := by omega
      have hl : decide ((244 : Int) < (bs.length : Int)) = false := by simp; omega
      cases hd : S.down with
      | true =>
        rw [hd] at hr
        simp only at hr
        have hLk := look_no h hd
        by_cases hfull : 2147483648 ≤ k.t
        · rw [if_pos hfull] at hr
          obtain ⟨rfl, rfl, rfl, rfl⟩ : S = S' ∧ 5 = r ∧ k = k' ∧ false = over' := by simpa only [Prod.mk.injEq] using hr
          have hf : decide ((2147483648 : Int) ≤ (k.t : Int)) = true := by simp; omega
          clear hr hd hfull
          go_enter Try.func51, Try.ntmps51
          go_wp2_with fail
          refine hI.mono ?_
          rintro e w1 ⟨rfl, rfl⟩
          go_wp2_with fail
          refine hLk.mono ?_
          rintro e w2 ⟨rfl, hB2⟩
          have c3 : w2.cell? ⟨c, 3, none⟩ = some (.int .i64 (k.t : Int)) := (hrow0.below hB2).cell rfl
          go_wp2_with fail
          go_ret
          exact ⟨rfl, h.below hB2, But3.of_below hB2 c p b, fun e => absurd e (by decide)⟩
        · rw [if_neg hfull] at hr
          obtain ⟨rfl, rfl, rfl, rfl⟩ : S = S' ∧ 40 = r ∧ k = k' ∧ true = over' := by simpa only [Prod.mk.injEq] using hr
          have hf : decide ((2147483648 : Int) ≤ (k.t : Int)) = false := by simp; omega
          have ew : IntKind.i64.wrap ((k.t : Int) + 1) = (k.t : Int) + 1 := wrapI _ (by omega) (by omega)
          clear hr hd
          go_enter Try.func51, Try.ntmps51
          go_wp2_with fail
          refine hI.mono ?_
          rintro e w1 ⟨rfl, rfl⟩
          go_wp2_with fail
          refine hLk.mono ?_
          rintro e w2 ⟨rfl, hB2⟩
          have hT2 := h.below hB2
          obtain ⟨K, ck, hrow2, hk2⟩ := hT2.row
          have hin2 := (hin.step (But.of_below hB2)).sees
          have c3 : w2.cell? ⟨c, 3, none⟩ = some (.int .i64 (k.t : Int)) := hrow2.cell rfl
          obtain ⟨z, rfl⟩ : ∃ z, z = k := ⟨k, rfl⟩
          go_wp2_with fail
          (try simp only [Act.put, List.setIfInBounds_toArray, List.set_cons_succ, List.set_cons_zero])
          refine region_all_tail 15 (putFacts c w2.heap.size z K ck bs A0 c0) (by kernel_rfl) (by kernel_rfl) (by kernel_rfl) (putFacts_stab _ _ _ _ _ _ _ _) ?_ ?_
          · intro w0 hb0
            have hsz0 : w2.heap.size ≤ w0.heap.size := hb0.size
            simp only [List.take_succ_cons, List.take_zero]
            refine ⟨?_, ?_, ?_, ?_, ?_, ?_, ?_, ?_, ?_, ?_, ?_, ?_, ?_, ?_, ?_, trivial⟩
            all_goals intro listed a1 w' hk hd
            · have f0_ : a1.eval (.tmp 0) = .pointer (some ⟨c, 0, none⟩) := hk.ev_old 0 (by kernel_rfl)
              have g0_ : a1.tmps[0]?.getD undef = .pointer (some ⟨c, 0, none⟩) := by simpa [Act.eval] using f0_
              exact stepOk_value rfl (v := .pointer (some ⟨c, 0, none⟩)) (by go_simp) rfl
            · obtain ⟨v0, e0, q0, rfl⟩ := hk.ev_new hd 0 25 (by kernel_rfl) rfl
              exact stepOk_value rfl (v := .pointer (some ⟨c, 0, none⟩)) (by go_simp) rfl
            · obtain ⟨v1, e1, q1, rfl⟩ := hk.ev_new hd 1 26 (by kernel_rfl) rfl
              exact stepOk_value rfl (v := .pointer (some ⟨c, 2, none⟩)) (by go_simp) rfl
            · obtain ⟨v2, e2, q2, rfl⟩ := hk.ev_new hd 2 27 (by kernel_rfl) rfl
              obtain ⟨v2, e2, q2, rfl⟩ := hk.ev_new hd 2 27 (by kernel_rfl) rfl
              have sx : Sees w' w'.heap.size (some ⟨c, 2, none⟩) (coL z K ck) := Sees.of_fresh ((hrow2.below hb0).below hk.below) 2 3
              exact stepOk_value rfl (run_load_agg (.tmp 27) 206 rfl e2 (coL z K ck) 3 rfl (by kernel_rfl) sx) rfl
            · obtain ⟨v3, e3, q3, rfl⟩ := hk.ev_new hd 3 28 (by kernel_rfl) rfl
              refine stepOk_enter rfl (f := 132) (args := #[.agg (coL z K ck).toArray]) (by go_simp) ?_
              refine (other_any (w := w') z hT2.ok K ck).mono ?_
              rintro e w5 ⟨rfl, hB5⟩
              exact ⟨_, rfl, rfl, hB5⟩
            · have f0_ : a1.eval (.tmp 0) = .pointer (some ⟨c, 0, none⟩) := hk.ev_old 0 (by kernel_rfl)
              have g0_ : a1.tmps[0]?.getD undef = .pointer (some ⟨c, 0, none⟩) := by simpa [Act.eval] using f0_
              exact stepOk_value rfl (v := .pointer (some ⟨c, 0, none⟩)) (by go_simp) rfl
            · obtain ⟨v5, e5, q5, rfl⟩ := hk.ev_new hd 5 30 (by kernel_rfl) rfl
              exact stepOk_value rfl (v := .pointer (some ⟨c, 0, none⟩)) (by go_simp) rfl
            · obtain ⟨v6, e6, q6, rfl⟩ := hk.ev_new hd 6 31 (by kernel_rfl) rfl
              exact stepOk_value rfl (v := .pointer (some ⟨c, 2, none⟩)) (by go_simp) rfl
            · obtain ⟨v7, e7, q7, rfl⟩ := hk.ev_new hd 7 32 (by kernel_rfl) rfl
              exact stepOk_value rfl (v := .pointer (some ⟨c, 3, none⟩)) (by go_simp) rfl
            · obtain ⟨v8, e8, q8, rfl⟩ := hk.ev_new hd 8 33 (by kernel_rfl) rfl
              have c1 : w'.cell? ⟨c, 3, none⟩ = some (.int .i64 (z.t : Int)) := ((hrow2.below hb0).below hk.below).cell rfl
              exact stepOk_value rfl (v := .int .i64 (z.t : Int)) (by go_simp) rfl
            · obtain ⟨v9, e9, q9, rfl⟩ := hk.ev_new hd 9 34 (by kernel_rfl) rfl
              exact stepOk_value rfl (v := .int .i64 ((z.t : Int) + 1)) (by go_simp; try exact ew) rfl
            · have f1_ : a1.eval (.tmp 1) = .slice A0 bs.length c0 := hk.ev_old 1 (by kernel_rfl)
              have g1_ : a1.tmps[1]?.getD undef = .slice A0 bs.length c0 := by simpa [Act.eval] using f1_
              exact stepOk_value rfl (v := .slice A0 bs.length c0) (by go_simp) rfl
            · obtain ⟨v11, e11, q11, rfl⟩ := hk.ev_new hd 11 36 (by kernel_rfl) rfl
              refine stepOk_enter rfl (f := 133) (args := #[.slice A0 bs.length c0]) (by go_simp) ?_
              refine (Clone_any A0 c0 bs.length bs w' ((hin2.step hb0).step hk.below) rfl (by omega)).mono ?_
              rintro e w5 ⟨q, cq, rfl, hq, hB5⟩
              exact ⟨_, rfl, ⟨q, cq, rfl, hq.lower (Nat.le_trans hsz0 hk.below.size)⟩, hB5⟩
            · obtain ⟨v4, e4, q4, rfl⟩ := hk.ev_new hd 4 29 (by kernel_rfl) rfl
              obtain ⟨v10, e10, q10, rfl⟩ := hk.ev_new hd 10 35 (by kernel_rfl) rfl
              obtain ⟨v12, e12, q12, hv12⟩ := hk.ev_new hd 12 37 (by kernel_rfl) rfl
              obtain ⟨q, cq, rfl, hq⟩ := hv12
              refine stepOk_value rfl (v := .agg (coL (nextC z bs) q cq).toArray) ?_ ⟨q, cq, rfl, hq⟩
              rw [coL_next]
              go_simp
            · refine stepOk_run rfl (v := .pointer (some ⟨w'.heap.size, 0, none⟩)) (w' := w'.alloc (.cells zero3.toArray 206 (0, 0))) ?_ ⟨_, rfl, (Fresh.new w' 206 zero3 3 rfl (by decide)).lower (Nat.le_trans hsz0 hk.below.size)⟩ (below_alloc _ _)
              · simp only [execOp]
                rw [Sem.run_bind, run_alloc_zero 206 zero3 (by kernel_rfl)]
                rfl
          intro a1 w6 hb6 hp
          obtain ⟨v0, p0, v1, p1, v2, p2, v3, p3, v4, p4, v5, p5, v6, p6, v7, p7, v8, p8, v9, p9, v10, p10, v11, p11, v12, p12, v13, p13, v14, p14, rfl⟩ := hp
          simp only [putFacts] at p0 p1 p2 p3 p4 p5 p6 p7 p8 p9 p10 p11 p12 p13 p14
          subst p0 p1 p2 p3 p4 p5 p6 p7 p8 p9 p10 p11
          obtain ⟨q1, cq1, rfl, -⟩ := p12
          obtain ⟨q, cq, rfl, hq⟩ := p13
          obtain ⟨g, rfl, hg6⟩ := p14
          have hT6 := hT2.below hb6
          have hgs := hg6.block.2
          simp only [List.drop_succ_cons, List.drop_zero, Act.put, List.setIfInBounds_toArray, List.set_cons_succ, List.set_cons_zero]
          go_wp2_with (with_reducible refine wpList_storeN rfl rfl (.tmp 6) (.tmp 38) 206 rfl g 0 w2.heap.size 206 3 zero3 (coL (nextC z bs) q cq) rfl rfl 3 rfl (by kernel_rfl) hg6 (by omega) (coL_one _ _ _) ?_; intro w7 hF7 k1 k2 k3 k4 k5; have hy : But g g w6 w7 := ⟨k1, k2, k3, k4, fun k _ hk _ => k5 k hk⟩; have hT7 := hT6.aside hg6 (by decide) (by decide) (by decide) (by decide) (by decide) hy; obtain ⟨K7, ck7, hrow7, hk7⟩ := hT7.row; have c57 : w7.cell? ⟨c, 5, none⟩ = some (.bool false) := hrow7.cell rfl; have z57 : w7.frozen? ⟨c, 5, none⟩ = false := hrow7.frozenAt)
          go_ret
          obtain ⟨r1, r2⟩ := hT7.setOver true
          have hB26 := Below.then_ hB2 hb6
          have hc7 : But c c w1 w7 := (But.of_below hB26).fresh (Nat.le_trans hB2.size hgs) k1 k2 k3 k4 k5
          exact ⟨rfl, r1, But3.of_own (hc7.then_ r2) p b, fun e => absurd e (by decide)⟩
      | false =>
        rw [hd] at hr
        simp only at hr
        obtain ⟨z, hz⟩ : ∃ z, S.clook f = z := ⟨_, rfl⟩
        have hzo : z.Ok := by rw [← hz]; exact clook_ok S f
        have hLk := look_yes h hd hbase z hz
        rw [hz] at hr
        by_cases hfull : 2147483648 ≤ z.t
        · rw [if_pos hfull] at hr
          obtain ⟨rfl, rfl, rfl, rfl⟩ : S = S' ∧ 5 = r ∧ z = k' ∧ false = over' := by simpa only [Prod.mk.injEq] using hr
          have hf : decide ((2147483648 : Int) ≤ (z.t : Int)) = true := by simp; omega
          clear hr hd hfull hz
          go_enter Try.func51, Try.ntmps51
          go_wp2_with fail
          refine hI.mono ?_
          rintro e w1 ⟨rfl, rfl⟩
          go_wp2_with fail
          refine hLk.mono ?_
          rintro e w2 ⟨rfl, hT2, hC2⟩
          obtain ⟨K, ck, hrow2, hk2⟩ := hT2.row
          have c3 : w2.cell? ⟨c, 3, none⟩ = some (.int .i64 (z.t : Int)) := hrow2.cell rfl
          go_wp2_with fail
          go_ret
          exact ⟨rfl, hT2, But3.of_own hC2 p b, fun e => absurd e (by decide)⟩
        · rw [if_neg hfull] at hr
          have hf : decide ((2147483648 : Int) ≤ (z.t : Int)) = false := by simp; omega
          have ew : IntKind.i64.wrap ((z.t : Int) + 1) = (z.t : Int) + 1 := wrapI _ (by omega) (by omega)
          obtain ⟨T, q0, hq0⟩ : ∃ T q, S.cwrite f z.other (z.t + 1) bs = (T, q) := ⟨_, _, rfl⟩
          rw [hq0] at hr
          have hno := nextC_ok hzo (by omega) hbl
          have HNO := Lib.hid hno
          have HWr := Lib.hid (fun (w' : World) (y : CeAt base w' c d p b f S z false) (hb : base ≤ w'.heap.size) (q : Option Addr) (cq : Nat) (hq : Fresh base 5 w' q bs.length cq (cb bs)) => cwrite_any (x := nextC z bs) (σ := z.other) y hb rfl (Co.other_lt hzo) (by show z.t + 1 ≤ 2147483648; omega) hbl hq q0 hq0)
          have HR := Lib.hid hr
          clear hr hd hz hq0 hfull
          go_enter Try.func51, Try.ntmps51
          go_wp2_with fail
          refine hI.mono ?_
          rintro e w1 ⟨rfl, rfl⟩
          go_wp2_with fail
          refine hLk.mono ?_
          rintro e w2 ⟨rfl, hT2, hC2⟩
          have hin2 := (hin.step hC2).sees
          obtain ⟨K, ck, hrow2, hk2⟩ := hT2.row
          have c3 : w2.cell? ⟨c, 3, none⟩ = some (.int .i64 (z.t : Int)) := hrow2.cell rfl
          have hbase2 := Nat.le_trans hbase hC2.size
          clear hLk hI hin
          go_wp2_with fail
          (try simp only [Act.put, List.setIfInBounds_toArray, List.set_cons_succ, List.set_cons_zero])
          refine region_all_tail 15 (putFacts c w2.heap.size z K ck bs A0 c0) (by kernel_rfl) (by kernel_rfl) (by kernel_rfl) (putFacts_stab _ _ _ _ _ _ _ _) ?_ ?_
          · intro w0 hb0
            have hsz0 : w2.heap.size ≤ w0.heap.size := hb0.size
            simp only [List.take_succ_cons, List.take_zero]
            refine ⟨?_, ?_, ?_, ?_, ?_, ?_, ?_, ?_, ?_, ?_, ?_, ?_, ?_, ?_, ?_, trivial⟩
            all_goals intro listed a1 w' hk hd
            · have f0_ : a1.eval (.tmp 0) = .pointer (some ⟨c, 0, none⟩) := hk.ev_old 0 (by kernel_rfl)
              have g0_ : a1.tmps[0]?.getD undef = .pointer (some ⟨c, 0, none⟩) := by simpa [Act.eval] using f0_
              exact stepOk_value rfl (v := .pointer (some ⟨c, 0, none⟩)) (by go_simp) rfl
            · obtain ⟨v0, e0, q0, rfl⟩ := hk.ev_new hd 0 25 (by kernel_rfl) rfl
              exact stepOk_value rfl (v := .pointer (some ⟨c, 0, none⟩)) (by go_simp) rfl
            · obtain ⟨v1, e1, q1, rfl⟩ := hk.ev_new hd 1 26 (by kernel_rfl) rfl
              exact stepOk_value rfl (v := .pointer (some ⟨c, 2, none⟩)) (by go_simp) rfl
            · obtain ⟨v2, e2, q2, rfl⟩ := hk.ev_new hd 2 27 (by kernel_rfl) rfl
              obtain ⟨v2, e2, q2, rfl⟩ := hk.ev_new hd 2 27 (by kernel_rfl) rfl
              have sx : Sees w' w'.heap.size (some ⟨c, 2, none⟩) (coL z K ck) := Sees.of_fresh ((hrow2.below hb0).below hk.below) 2 3
              exact stepOk_value rfl (run_load_agg (.tmp 27) 206 rfl e2 (coL z K ck) 3 rfl (by kernel_rfl) sx) rfl
            · obtain ⟨v3, e3, q3, rfl⟩ := hk.ev_new hd 3 28 (by kernel_rfl) rfl
              refine stepOk_enter rfl (f := 132) (args := #[.agg (coL z K ck).toArray]) (by go_simp) ?_
              refine (other_any (w := w') z hT2.ok K ck).mono ?_
              rintro e w5 ⟨rfl, hB5⟩
              exact ⟨_, rfl, rfl, hB5⟩
            · have f0_ : a1.eval (.tmp 0) = .pointer (some ⟨c, 0, none⟩) := hk.ev_old 0 (by kernel_rfl)
              have g0_ : a1.tmps[0]?.getD undef = .pointer (some ⟨c, 0, none⟩) := by simpa [Act.eval] using f0_
              exact stepOk_value rfl (v := .pointer (some ⟨c, 0, none⟩)) (by go_simp) rfl
            · obtain ⟨v5, e5, q5, rfl⟩ := hk.ev_new hd 5 30 (by kernel_rfl) rfl
              exact stepOk_value rfl (v := .pointer (some ⟨c, 0, none⟩)) (by go_simp) rfl
            · obtain ⟨v6, e6, q6, rfl⟩ := hk.ev_new hd 6 31 (by kernel_rfl) rfl
              exact stepOk_value rfl (v := .pointer (some ⟨c, 2, none⟩)) (by go_simp) rfl
            · obtain ⟨v7, e7, q7, rfl⟩ := hk.ev_new hd 7 32 (by kernel_rfl) rfl
              exact stepOk_value rfl (v := .pointer (some ⟨c, 3, none⟩)) (by go_simp) rfl
            · obtain ⟨v8, e8, q8, rfl⟩ := hk.ev_new hd 8 33 (by kernel_rfl) rfl
              have c1 : w'.cell? ⟨c, 3, none⟩ = some (.int .i64 (z.t : Int)) := ((hrow2.below hb0).below hk.below).cell rfl
              exact stepOk_value rfl (v := .int .i64 (z.t : Int)) (by go_simp) rfl
            · obtain ⟨v9, e9, q9, rfl⟩ := hk.ev_new hd 9 34 (by kernel_rfl) rfl
              exact stepOk_value rfl (v := .int .i64 ((z.t : Int) + 1)) (by go_simp; try exact ew) rfl
            · have f1_ : a1.eval (.tmp 1) = .slice A0 bs.length c0 := hk.ev_old 1 (by kernel_rfl)
              have g1_ : a1.tmps[1]?.getD undef = .slice A0 bs.length c0 := by simpa [Act.eval] using f1_
              exact stepOk_value rfl (v := .slice A0 bs.length c0) (by go_simp) rfl
            · obtain ⟨v11, e11, q11, rfl⟩ := hk.ev_new hd 11 36 (by kernel_rfl) rfl
              refine stepOk_enter rfl (f := 133) (args := #[.slice A0 bs.length c0]) (by go_simp) ?_
              refine (Clone_any A0 c0 bs.length bs w' ((hin2.step hb0).step hk.below) rfl (by omega)).mono ?_
              rintro e w5 ⟨q, cq, rfl, hq, hB5⟩
              exact ⟨_, rfl, ⟨q, cq, rfl, hq.lower (Nat.le_trans hsz0 hk.below.size)⟩, hB5⟩
            · obtain ⟨v4, e4, q4, rfl⟩ := hk.ev_new hd 4 29 (by kernel_rfl) rfl
              obtain ⟨v10, e10, q10, rfl⟩ := hk.ev_new hd 10 35 (by kernel_rfl) rfl
              obtain ⟨v12, e12, q12, hv12⟩ := hk.ev_new hd 12 37 (by kernel_rfl) rfl
              obtain ⟨q, cq, rfl, hq⟩ := hv12
              refine stepOk_value rfl (v := .agg (coL (nextC z bs) q cq).toArray) ?_ ⟨q, cq, rfl, hq⟩
              rw [coL_next]
              go_simp
            · refine stepOk_run rfl (v := .pointer (some ⟨w'.heap.size, 0, none⟩)) (w' := w'.alloc (.cells zero3.toArray 206 (0, 0))) ?_ ⟨_, rfl, (Fresh.new w' 206 zero3 3 rfl (by decide)).lower (Nat.le_trans hsz0 hk.below.size)⟩ (below_alloc _ _)
              · simp only [execOp]
                rw [Sem.run_bind, run_alloc_zero 206 zero3 (by kernel_rfl)]
                rfl
          intro a1 w6 hb6 hp
          obtain ⟨v0, p0, v1, p1, v2, p2, v3, p3, v4, p4, v5, p5, v6, p6, v7, p7, v8, p8, v9, p9, v10, p10, v11, p11, v12, p12, v13, p13, v14, p14, rfl⟩ := hp
          simp only [putFacts] at p0 p1 p2 p3 p4 p5 p6 p7 p8 p9 p10 p11 p12 p13 p14
          subst p0 p1 p2 p3 p4 p5 p6 p7 p8 p9 p10 p11
          obtain ⟨q1, cq1, rfl, -⟩ := p12
          obtain ⟨q, cq, rfl, hq⟩ := p13
          obtain ⟨g, rfl, hg6⟩ := p14
          have hT6 := hT2.below hb6
          have hgs := hg6.block.2
          simp only [List.drop_succ_cons, List.drop_zero, Act.put, List.setIfInBounds_toArray, List.set_cons_succ, List.set_cons_zero]
          have hq6b := hq.lower hbase2
          go_wp2_with (first
            | (with_reducible refine wpList_storeN rfl rfl (.tmp 6) (.tmp 38) 206 rfl g 0 w2.heap.size 206 3 zero3 (coL (nextC z bs) q cq) rfl rfl 3 rfl (by kernel_rfl) hg6 (by omega) (coL_one _ _ _) ?_; intro w7 hF7 k1 k2 k3 k4 k5)
            | (with_reducible refine wpList_load (o := ⟨some 42, _, _, _, _, _⟩) rfl (.tmp 6) 206 rfl g 0 _ rfl (coL (nextC z bs) q cq) 3 rfl (by kernel_rfl) hF7.sees ?_))
          have hy : But g g w6 w7 := ⟨k1, k2, k3, k4, fun k _ hk _ => k5 k hk⟩
          have hT7 := hT6.aside hg6 (by decide) (by decide) (by decide) (by decide) (by decide) hy
          have hq7 := hq6b.unlike hg6 (by decide) k5
          have hm7 := (hq.lower hC2.size).unlike hg6 (by decide) k5
          have hc7 : But c c w1 w7 := (hC2.then_ (But.of_below hb6)).fresh (Nat.le_trans hC2.size hgs) k1 k2 k3 k4 k5
          have hb7 := Nat.le_trans hbase hc7.size
          refine (HWr.out w7 hT7 hb7 q cq hq7).mono ?_
          rintro e w8 ⟨rfl, hD8, hB8⟩
          have hT8 := hT7.turn hB8 hD8
          have hq8 := hq7.unlike2 hT7.dr.nor.obj hT7.dr.nor.row (by decide) (by decide) hB8
          have hm8 := hm7.unlike2 hT7.dr.nor.obj hT7.dr.nor.row (by decide) (by decide) hB8
          have hg8 := hF7.unlike2 hT7.dr.nor.obj hT7.dr.nor.row (by decide) (by decide) hB8
          have h38 : But3 c p b w1 w8 := (But3.of_own hc7 p b).then_ (But3.of_but hB8 c)
          obtain ⟨K8, ck8, hrow8, hk8⟩ := hT8.row
          have c58 : w8.cell? ⟨c, 5, none⟩ = some (.bool false) := hrow8.cell rfl
          have z58 : w8.frozen? ⟨c, 5, none⟩ = false := hrow8.frozenAt
          have hr := HR.out
          cases q0 with
          | succ y =>
            obtain ⟨rfl, rfl, rfl, rfl⟩ : T = S' ∧ y + 1 = r ∧ z = k' ∧ true = over' := by simpa only [Prod.mk.injEq] using hr
            have h0 : ¬ (((y + 1 : Nat) : Int) = 0) := by omega
            clear hr
            go_wp2_with fail
            go_ret
            obtain ⟨r1, r2⟩ := hT8.setOver true
            exact ⟨rfl, r1, h38.then_ (But3.of_own r2 p b), fun e => absurd e (by omega)⟩
          | zero =>
            obtain ⟨rfl, rfl, rfl, rfl⟩ : T = S' ∧ 0 = r ∧ nextC z bs = k' ∧ false = over' := by simp only [Prod.mk.injEq] at hr; exact hr
            clear hr
            go_wp2_with (first
              | (with_reducible refine wpList_load (o := ⟨some 51, _, _, _, _, _⟩) rfl (.tmp 6) 206 rfl g 0 _ rfl (coL (nextC z bs) q cq) 3 rfl (by kernel_rfl) hg8.sees ?_)
              | (with_reducible refine wpList_storeN rfl rfl (.tmp 53) (.tmp 51) 206 rfl c 2 base 208 6 (ceObj c d z K8 ck8 false) (coL (nextC z bs) q cq) rfl rfl 3 rfl (by kernel_rfl) hrow8 (by omega) (coL_one _ _ _) ?_; intro w9 hF9 m1 m2 m3 m4 m5))
            go_ret
            obtain ⟨r1, r2⟩ := hT8.setKnown HNO.out hq8 hF9 m1 m2 m3 m4 m5
            exact ⟨rfl, r1, h38.then_ (But3.of_own r2 p b), ⟨q, cq, hF9, hm8.unlike hrow8 (by decide) m5⟩⟩
theorem Put_any (h : CeAt base w c d p b f S k over) (hbase : base ≤ w.heap.size) (A0 : Option Addr) (c0 : Nat) (bs : List UInt8) (hin : Off c c w A0 (cb bs)) (r : Nat) (over' : Bool) (hr : S.cput f k over bs = (S', r, k', over')) :
    Calls Try.prog 51 #[.pointer (some ⟨c, 0, none⟩), .slice A0 bs.length c0] w fun e w' => e = .returned (.int .i64 (r : Int)) ∧ CeAt base w' c d p b f S' k' over' ∧ But3 c p b w w' :=
  (Put_new h hbase A0 c0 bs hin r over' hr).mono fun e w' h => ⟨h.1, h.2.1, h.2.2.1⟩
end
end Go.Proofs.Ytpdfalgjmeagjaa
namespace Go.Proofs.Ytpdfalgjmeagjaa
open Go.RowKit
set_option linter.unusedVariables false

theorem Fl.ctold_again (S : Fl) (f : Nat) (x : Co) (over : Bool) : S.ctold f (S.ctold f x over) over = S.ctold f x over := by
  unfold Fl.ctold
  cases over <;> cases S.down <;> rfl
section
variable {w w' : World} {base c d p b f : Nat} {over : Bool} {S S' : Fl} {x z : Co}
set_option maxHeartbeats 1000000 in
set_option maxRecDepth 100000 in
theorem COpen_yes (h : DrAt base w d p b f 2 S) (hd : S.down = false) (hbase : base ≤ w.heap.size) (z : Co) (hz : S.clook f = z) :
    Calls Try.prog 50 #[.pointer (some ⟨d, 0, none⟩)] w fun e w' => ∃ c, e = .returned (.tuple #[.pointer (some ⟨c, 0, none⟩), .int .i64 0]) ∧ CeAt base w' c d p b f S z false ∧ Below w.heap.size w w' ∧ w.heap.size ≤ c := by
  have HL := Lib.hid (fun (w' : World) (c : Nat) (y : CeAt base w' c d p b f S ⟨0, 0, []⟩ false) (hb : base ≤ w'.heap.size) => look_yes y hd hb z hz)
  clear hd hz
  have hS := dSectors_any h
  go_enter Try.func50, Try.ntmps50
  go_wp2_with fail
  refine hS.mono ?_
  rintro e w1 ⟨rfl, rfl⟩
  go_wp2_with (with_reducible refine wpList_box (o := ⟨some 15, _, _, _, _, _⟩) rfl (.tmp 14) 208 rfl [.pointer none, .pointer (some ⟨d, 0, none⟩), .int .i64 0, .int .i64 0, .slice none 0 0, .bool false] rfl 6 rfl (by decide) ?_; intro c w2 hc hF hB; have c0 := hF.cell (j := 0) rfl; have z0 : w2.frozen? ⟨c, 0, none⟩ = false := hF.frozenAt)
  have hF2 : Fresh w1.heap.size 208 (w2.setCell ⟨c, 0, none⟩ (.pointer (some ⟨c, 0, none⟩))) (some ⟨c, 0, none⟩) 6 6 (ceObj c d ⟨0, 0, []⟩ none 0 false) := hF.store 0 (.pointer (some ⟨c, 0, none⟩))
  have hB2 : Below w1.heap.size w1 (w2.setCell ⟨c, 0, none⟩ (.pointer (some ⟨c, 0, none⟩))) := hB.setCell (p := ⟨c, 0, none⟩) hF.block.2 _
  have hT2 : CeAt base (w2.setCell ⟨c, 0, none⟩ (.pointer (some ⟨c, 0, none⟩))) c d p b f S ⟨0, 0, []⟩ false := ⟨h.below hB2, ⟨none, 0, hF2.lower hbase, fresh_nil _ _ _⟩, ⟨.inr (.inl rfl), Nat.zero_le _, Nat.zero_le _, fun e => by cases e⟩⟩
  have hbs := hB2.size
  refine (HL.out _ c hT2 (Nat.le_trans hbase hbs)).mono ?_
  rintro e w3 ⟨rfl, hT3, hC3⟩
  have hB13 : Below w1.heap.size w1 w3 := hB2.trans (hC3.below hc hc hbs)
  go_wp2_with fail
  go_ret2
  exact ⟨c, rfl, hT3, hB13, hc⟩
set_option maxHeartbeats 1000000 in
set_option maxRecDepth 100000 in
theorem COpen_down (h : DrAt base w d p b f 2 S) (hd : S.down = true) (hbase : base ≤ w.heap.size) :
    Calls Try.prog 50 #[.pointer (some ⟨d, 0, none⟩)] w fun e w' => e = .returned (.tuple #[.pointer none, .int .i64 40]) ∧ Below w.heap.size w w' := by
  have HL := Lib.hid (fun (w' : World) (c : Nat) (y : CeAt base w' c d p b f S ⟨0, 0, []⟩ false) => look_no y hd)
  clear hd
  have hS := dSectors_any h
  go_enter Try.func50, Try.ntmps50
  go_wp2_with fail
  refine hS.mono ?_
  rintro e w1 ⟨rfl, rfl⟩
  go_wp2_with (with_reducible refine wpList_box (o := ⟨some 15, _, _, _, _, _⟩) rfl (.tmp 14) 208 rfl [.pointer none, .pointer (some ⟨d, 0, none⟩), .int .i64 0, .int .i64 0, .slice none 0 0, .bool false] rfl 6 rfl (by decide) ?_; intro c w2 hc hF hB; have c0 := hF.cell (j := 0) rfl; have z0 : w2.frozen? ⟨c, 0, none⟩ = false := hF.frozenAt)
  have hF2 : Fresh w1.heap.size 208 (w2.setCell ⟨c, 0, none⟩ (.pointer (some ⟨c, 0, none⟩))) (some ⟨c, 0, none⟩) 6 6 (ceObj c d ⟨0, 0, []⟩ none 0 false) := hF.store 0 (.pointer (some ⟨c, 0, none⟩))
  have hB2 : Below w1.heap.size w1 (w2.setCell ⟨c, 0, none⟩ (.pointer (some ⟨c, 0, none⟩))) := hB.setCell (p := ⟨c, 0, none⟩) hF.block.2 _
  have hT2 : CeAt base (w2.setCell ⟨c, 0, none⟩ (.pointer (some ⟨c, 0, none⟩))) c d p b f S ⟨0, 0, []⟩ false := ⟨h.below hB2, ⟨none, 0, hF2.lower hbase, fresh_nil _ _ _⟩, ⟨.inr (.inl rfl), Nat.zero_le _, Nat.zero_le _, fun e => by cases e⟩⟩
  have hbs := hB2.size
  refine (HL.out _ c hT2).mono ?_
  rintro e w3 ⟨rfl, hB3⟩
  go_wp2_with fail
  go_ret2
  exact ⟨rfl, Below.then_ hB2 hB3⟩
set_option maxHeartbeats 1000000 in
set_option maxRecDepth 100000 in
theorem made7_any (w : World) : Calls Try.prog 55 #[] w fun e w' => ∃ p b d c, e = .returned (.tuple #[.pointer (some ⟨p, 0, none⟩), .pointer (some ⟨d, 0, none⟩), .pointer (some ⟨c, 0, none⟩), .bool true]) ∧ CeAt w.heap.size w' c d p b 1 (Fl.made 3 0) ⟨-1, 0, []⟩ false ∧ Below w.heap.size w w' := by
  have h0 : (Fl.made 3 0).clook 1 = ⟨-1, 0, []⟩ := by kernel_rfl
  have HL := Lib.hid h0
  clear h0
  go_enter Try.func55, Try.ntmps55
  go_wp2_with fail
  refine (New_yes 3 0 (by omega) (by omega) (by omega) (by omega)).mono ?_
  rintro e w1 ⟨p, b, rfl, hN, hB1⟩
  have hbs := hB1.size
  go_wp2_with fail
  refine (Open_yes hN 1 2 (by show 1 + 2 ≤ 3; omega) (by omega) hbs).mono ?_
  rintro e w2 ⟨d, rfl, hD, hB2⟩
  have hB12 := Below.then_ hB1 hB2
  have hbs2 := hB12.size
  go_wp2_with fail
  refine (COpen_yes hD rfl hbs2 _ HL.out).mono ?_
  rintro e w3 ⟨c, rfl, hT, hB3, -⟩
  go_wp2_with fail
  (try simp only [Exit.inBlock, Exit.then])
  refine bodyPost_ret (results_four rfl _ _ _) rfl ?_
  exact ⟨p, b, d, c, rfl, hT, Below.then_ hB12 hB3⟩
theorem reads7_any {m : Nat} (h : DrAt base w d p b f m S) (hd : S.down = false) (at_ n c : Nat) (A : Option Addr) (l : List UInt32) (hs : Sees w w.heap.size A (cw l)) (hl : l.length = n) (hok : at_ + n ≤ 64 * m) (heq : S.at_ f at_ n = l) :
    Calls Try.prog 137 #[.pointer (some ⟨d, 0, none⟩), .int .i64 (at_ : Int), .slice A n c] w fun e w' => e = .returned (.bool true) ∧ Below w.heap.size w w' := by
  have hm := h.small
  have hR := dRead_at h hd at_ n hok
  rw [heq] at hR
  have hn : n ≤ 65536 := by omega
  have HL := Lib.hid hl
  clear hok heq hl
  go_enter Try.func137, Try.ntmps137
  go_wp2_with fail
  refine hR.mono ?_
  rintro e w1 ⟨G, rfl, hF, hB⟩
  have h1 := hF.sees
  have h2 := hs.step hB
  go_wp2_with fail
  refine (SameWords_any (some ⟨G, 0, none⟩) A n c n n l l w1 h1 h2 HL.out HL.out (by omega)).mono ?_
  rintro e w2 ⟨rfl, q, rfl⟩
  go_wp2_with fail
  go_ret
  exact ⟨by simp, below_drewN' hB q⟩
set_option maxHeartbeats 1000000 in
set_option maxRecDepth 100000 in
theorem has_any (h : CeAt base w c d p b f S x over) (hbase : base ≤ w.heap.size) (z : Co) (hz : S.ctold f x over = z) (hs : (z.s != -1) = decide (0 < z.t)) :
    Calls Try.prog 136 #[.pointer (some ⟨c, 0, none⟩), .int .i64 (z.t : Int), .string ⟨z.b.toArray⟩] w fun e w' => e = .returned (.bool true) ∧ CeAt base w' c d p b f S z over ∧ But c c w w' := by
  have hz2 : S.ctold f z over = z := by rw [← hz]; exact Fl.ctold_again S f x over
  have HG := Lib.hid (Get_any h hbase z hz)
  have HT := Lib.hid (fun (w' : World) (y : CeAt base w' c d p b f S z over) (hb : base ≤ w'.heap.size) => CTurn_any y hb z hz2)
  have hcs := h.ok
  clear hz hz2
  go_enter Try.func136, Try.ntmps136
  go_wp2_with fail
  refine HG.out.mono ?_
  rintro e w1 ⟨A, cp, rfl, hF, hT1, hC1⟩
  have s3 := run_str (n := z.b.length) hF.sees rfl cp
  have hb1 := Nat.le_trans hbase hC1.size
  have q4 : ((z.s != -1) == decide ((0 : Int) < (z.t : Int))) = true := by rw [hs]; simp
  go_wp2_with fail
  refine (HT.out w1 hT1 hb1).mono ?_
  rintro e w2 ⟨rfl, hT2, hC2⟩
  go_wp2_with fail
  go_ret
  exact ⟨rfl, hT2, hC1.then_ hC2⟩
/-- A list in a block that is neither of these two. -/
theorem Off.lit {w : World} {B p b g o : Nat} {xs : List Value} (hs : Sees w B (some ⟨g, o, none⟩) xs) (hg : g < w.heap.size) (h1 : g ≠ p) (h2 : g ≠ b) : Off p b w (some ⟨g, o, none⟩) xs := fun w' y hn => by
  obtain ⟨b', o', e, hb, hc⟩ := hs hn
  obtain ⟨rfl, rfl⟩ : g = b' ∧ o = o' := by simpa using e
  exact ⟨g, o, rfl, Nat.lt_of_lt_of_le hg y.size, fun j u hu => (World.cell?_of_block (w := w) (y.keep g hg h1 h2)).trans (hc j u hu)⟩
theorem CeAt.base3 (h : CeAt base w c d p b f S x over) (hb : base ≤ w.heap.size) {w0 : World} (h0 : Below base w0 w) (y : But3 c p b w w') : Below base w0 w' ∧ base ≤ w'.heap.size := by
  obtain ⟨-, h1⟩ := h.lt
  obtain ⟨-, -, h2, h3⟩ := h.dr.nor.lt
  exact ⟨h0.trans (y.below h1 h2 h3 hb), Nat.le_trans hb y.size⟩
theorem CeAt.base1 (h : CeAt base w c d p b f S x over) (hb : base ≤ w.heap.size) {w0 : World} (h0 : Below base w0 w) (y : But c c w w') : Below base w0 w' ∧ base ≤ w'.heap.size := h.base3 hb h0 (But3.of_own y p b)
theorem CeAt.base0 (h : CeAt base w c d p b f S x over) (hb : base ≤ w.heap.size) {w0 : World} (h0 : Below base w0 w) (y : Below w.heap.size w w') : Below base w0 w' ∧ base ≤ w'.heap.size := h.base3 hb h0 (But3.of_below y c p b)
end
/-- The chapter's examples, over plain data. -/
def ce0 : Fl := Fl.made 3 0
def ce1 : Fl := (ce0.cput 1 ⟨-1, 0, []⟩ false [97, 98, 99]).1
def ce2 : Fl := (ce1.cput 1 ⟨0, 1, [97, 98, 99]⟩ false []).1
def ce3 : Fl := (ce2.cput 1 ⟨1, 2, []⟩ false [100]).1
set_option maxRecDepth 100000 in
theorem ce_p : ce0.cput 1 ⟨-1, 0, []⟩ false [97, 98, 99] = (ce1, 0, ⟨0, 1, [97, 98, 99]⟩, false) ∧ ce1.cput 1 ⟨0, 1, [97, 98, 99]⟩ false [] = (ce2, 0, ⟨1, 2, []⟩, false) ∧ ce2.cput 1 ⟨1, 2, []⟩ false [100] = (ce3, 0, ⟨0, 3, [100]⟩, false) := ⟨by kernel_rfl, by kernel_rfl, by kernel_rfl⟩
theorem ce_d : ce0.down = false ∧ ce1.down = false ∧ ce2.down = false ∧ ce3.down = false := ⟨by kernel_rfl, by kernel_rfl, by kernel_rfl, by kernel_rfl⟩
theorem ce_c : ce0.ctold 1 ⟨-1, 0, []⟩ false = ⟨-1, 0, []⟩ ∧ ce1.ctold 1 ⟨0, 1, [97, 98, 99]⟩ false = ⟨0, 1, [97, 98, 99]⟩ ∧ ce2.ctold 1 ⟨1, 2, []⟩ false = ⟨1, 2, []⟩ ∧ ce3.ctold 1 ⟨0, 3, [100]⟩ false = ⟨0, 3, [100]⟩ := ⟨by kernel_rfl, by kernel_rfl, by kernel_rfl, by kernel_rfl⟩
theorem ce_r : ce1.at_ 1 0 3 = [1, 3, 1633838079] ∧ ce1.at_ 1 63 1 = [0] ∧ ce2.at_ 1 64 2 = [2, 0] ∧ ce3.at_ 1 0 2 = [3, 1] := ⟨by kernel_rfl, by kernel_rfl, by kernel_rfl, by kernel_rfl⟩
set_option maxHeartbeats 2000000 in
set_option maxRecDepth 100000 in
theorem awake7_any (w : World) : Calls Try.prog 54 #[] w fun e w' => e = .returned (.bool true) ∧ Below w.heap.size w w' := by
  have HP := Lib.hid ce_p
  have HD := Lib.hid ce_d
  have HC := Lib.hid ce_c
  have HR := Lib.hid ce_r
  have kc := fun (w : World) (C : Array Value) (n c : Nat) => Lib.run_convert_bytes_const (P := Try.prog) w 27 5 C n c Try.underlying27 Try.underlying5
  go_enter Try.func54, Try.ntmps54
  go_wp2_with fail
  refine (made7_any w).mono ?_
  rintro e w1 ⟨p, b, d, c, rfl, hT1, hB1⟩
  have hz1 := hB1.size
  go_wp2_with fail
  refine (has_any hT1 hz1 _ HC.out.1 rfl).mono ?_
  rintro e w2 ⟨rfl, hT2, hx2⟩
  obtain ⟨hB2, hz2⟩ := hT1.base1 hz1 hB1 hx2
  clear hT1 hx2 hB1 hz1
  go_wp2_with fail
  have hF3 := sees_lit w2 5 (3, 4) [97, 98, 99]
  have hBa := below_alloc w2 (.cells (cb [97, 98, 99]).toArray 5 (3, 4))
  have hT3 := hT2.below hBa
  obtain ⟨hB3, hz3⟩ := hT2.base0 hz2 hB2 hBa
  refine (Put_any hT3 hz3 _ 3 [97, 98, 99] (Off.lit hF3 (by simp) (by have := hT2.lt.1; omega) (by have := hT2.lt.1; omega)) 0 false HP.out.1).mono ?_
  rintro e w4 ⟨rfl, hT4, hx4⟩
  obtain ⟨hB4, hz4⟩ := hT3.base3 hz3 hB3 hx4
  clear hx4 hT3
  go_wp2_with fail
  have hF5 := Fresh.new w4 22 (cw [1, 3, 1633838079]) 3 rfl (by decide)
  have hBa := below_alloc w4 (.cells (cw [1, 3, 1633838079]).toArray 22 (0, 0))
  have hT5 := hT4.below hBa
  obtain ⟨hB5, hz5⟩ := hT4.base0 hz4 hB4 hBa
  refine (reads7_any hT5.dr HD.out.2.1 0 3 3 _ [1, 3, 1633838079] hF5.sees rfl (by omega) HR.out.1).mono ?_
  rintro e w6 ⟨rfl, hx6⟩
  have hT6 := hT5.below hx6
  obtain ⟨hB6, hz6⟩ := hT5.base0 hz5 hB5 hx6
  clear hx6 hT5 hT4
  go_wp2_with fail
  have hF7 := Fresh.new w6 22 (cw [0]) 1 rfl (by decide)
  have hBa := below_alloc w6 (.cells (cw [0]).toArray 22 (0, 0))
  have hT7 := hT6.below hBa
  obtain ⟨hB7, hz7⟩ := hT6.base0 hz6 hB6 hBa
  refine (reads7_any hT7.dr HD.out.2.1 63 1 1 _ [0] hF7.sees rfl (by omega) HR.out.2.1).mono ?_
  rintro e w8 ⟨rfl, hx8⟩
  have hT8 := hT7.below hx8
  obtain ⟨hB8, hz8⟩ := hT7.base0 hz7 hB7 hx8
  clear hx8 hT7 hT6
  go_wp2_with fail
  refine (has_any hT8 hz8 _ HC.out.2.1 rfl).mono ?_
  rintro e w9 ⟨rfl, hT9, hx9⟩
  obtain ⟨hB9, hz9⟩ := hT8.base1 hz8 hB8 hx9
  clear hT8 hx9 hB8 hz8
  go_wp2_with fail
  refine (Put_any hT9 hz9 none 0 [] (fun _ _ => Sees.nil) 0 false HP.out.2.1).mono ?_
  rintro e w10 ⟨rfl, hT10, hx10⟩
  obtain ⟨hB10, hz10⟩ := hT9.base3 hz9 hB9 hx10
  clear hx10 hT9
  go_wp2_with fail
  have hF11 := Fresh.new w10 22 (cw [2, 0]) 2 rfl (by decide)
  have hBa := below_alloc w10 (.cells (cw [2, 0]).toArray 22 (0, 0))
  have hT11 := hT10.below hBa
  obtain ⟨hB11, hz11⟩ := hT10.base0 hz10 hB10 hBa
  refine (reads7_any hT11.dr HD.out.2.2.1 64 2 2 _ [2, 0] hF11.sees rfl (by omega) HR.out.2.2.1).mono ?_
  rintro e w12 ⟨rfl, hx12⟩
  have hT12 := hT11.below hx12
  obtain ⟨hB12, hz12⟩ := hT11.base0 hz11 hB11 hx12
  clear hx12 hT11 hT10
  go_wp2_with fail
  refine (has_any hT12 hz12 _ HC.out.2.2.1 rfl).mono ?_
  rintro e w13 ⟨rfl, hT13, hx13⟩
  obtain ⟨hB13, hz13⟩ := hT12.base1 hz12 hB12 hx13
  clear hT12 hx13 hB12 hz12
  go_wp2_with fail
  have hF14 := sees_lit w13 5 (1, 2) [100]
  have hBa := below_alloc w13 (.cells (cb [100]).toArray 5 (1, 2))
  have hT14 := hT13.below hBa
  obtain ⟨hB14, hz14⟩ := hT13.base0 hz13 hB13 hBa
  refine (Put_any hT14 hz14 _ 1 [100] (Off.lit hF14 (by simp) (by have := hT13.lt.1; omega) (by have := hT13.lt.1; omega)) 0 false HP.out.2.2).mono ?_
  rintro e w15 ⟨rfl, hT15, hx15⟩
  obtain ⟨hB15, hz15⟩ := hT14.base3 hz14 hB14 hx15
  clear hx15 hT14
  go_wp2_with fail
  have hF16 := Fresh.new w15 22 (cw [3, 1]) 2 rfl (by decide)
  have hBa := below_alloc w15 (.cells (cw [3, 1]).toArray 22 (0, 0))
  have hT16 := hT15.below hBa
  obtain ⟨hB16, hz16⟩ := hT15.base0 hz15 hB15 hBa
  refine (reads7_any hT16.dr HD.out.2.2.2 0 2 2 _ [3, 1] hF16.sees rfl (by omega) HR.out.2.2.2).mono ?_
  rintro e w17 ⟨rfl, hx17⟩
  have hT17 := hT16.below hx17
  obtain ⟨hB17, hz17⟩ := hT16.base0 hz16 hB16 hx17
  clear hx17 hT16 hT15
  go_wp2_with fail
  refine (has_any hT17 hz17 _ HC.out.2.2.2 rfl).mono ?_
  rintro e w18 ⟨rfl, hT18, hx18⟩
  obtain ⟨hB18, hz18⟩ := hT17.base1 hz17 hB17 hx18
  clear hT17 hx18 hB17 hz17
  go_wp2_with fail
  go_ret
  exact ⟨rfl, hB18⟩
end Go.Proofs.Ytpdfalgjmeagjaa
