/-
  The steps of a Put, as closures, one behind the other up to the first error.
-/
import Derived.Test.YtdilpalggoapnaaCellOps
namespace Go.Proofs.Ytdilpalggoapnaa
open Go.RowKit
set_option linter.unusedVariables false

theorem Fl.derase_n {S T : Fl} {f m q : Nat} {s : Int} (hT : S.derase f m s = (T, q)) : T.n = S.n := by
  have hst := Fl.step_n S
  unfold Fl.derase Fl.erase at hT
  revert hT hst
  cases secsOk m s 1
  · intro h1 _; simp only [Prod.mk.injEq] at h1; rw [← h1.1]
  · simp only
    split
    · intro h1 _; simp only [Prod.mk.injEq] at h1; rw [← h1.1]
    · intro h1 _; simp only [Prod.mk.injEq] at h1; rw [← h1.1]
    · split
      · rename_i hs; rw [hs]; intro h1 h2; simp only [Prod.mk.injEq] at h1; rw [← h1.1]; exact h2
      · rename_i hs; rw [hs]; intro h1 h2; simp only [Prod.mk.injEq] at h1; rw [← h1.1]; exact h2
/-- A list in memory made later than a flash. -/
theorem Off.made {w : World} {base p b n c : Nat} {A : Option Addr} {e : TypeId} {xs : List Value} (h : Fresh base e w A n c xs) (hp : p < base) (hb : b < base) : Off p b w A xs := fun w' y => (h.butC y hp hb).sees
/-- What the steps of a Put find in memory. -/
structure WrAt (B base : Nat) (w : World) (c d p b f gc gx gf σ : Nat) (S : Fl) (x : Co) (A : Option Addr) (cp : Nat) (k : Co) (K : Option Addr) (ck : Nat) (over : Bool) : Prop where
  dr : DrAt base w d p b f 2 S
  fo : Fresh base 97 w (some ⟨c, 0, none⟩) 6 6 (ceObj c d k K ck over)
  fc : Fresh B 80 w (some ⟨gc, 0, none⟩) 1 1 [.pointer (some ⟨c, 0, none⟩)]
  fx : Fresh B 95 w (some ⟨gx, 0, none⟩) 3 3 (coL x A cp)
  ff : Fresh B 3 w (some ⟨gf, 0, none⟩) 1 1 [.int .i64 (64 * (σ : Int))]
  fb : Fresh base 5 w A x.b.length cp (cb x.b)
  xs : x.s = (σ : Int)
  sl : σ < 2
  xt : x.t ≤ 2147483648
  xb : x.b.length ≤ 244
def wr1 (c d gx gf base σ : Nat) (A : Option Addr) (cp : Nat) (x : Co) (k : Nat) (v : Value) (w : World) : Prop :=
  match k with
  | 0 => v = .pointer (some ⟨c, 0, none⟩)
  | 1 => v = .pointer (some ⟨c, 0, none⟩)
  | 2 => v = .pointer (some ⟨c, 1, none⟩)
  | 3 => v = .pointer (some ⟨d, 0, none⟩)
  | 4 => v = .pointer (some ⟨gx, 0, none⟩)
  | 5 => v = .int .i64 (σ : Int)
  | _ => True
theorem wr1_stab (c d gx gf base σ : Nat) (A : Option Addr) (cp : Nat) (x : Co) : ∀ k v w w', Below w.heap.size w w' → wr1 c d gx gf base σ A cp x k v w → wr1 c d gx gf base σ A cp x k v w' := by
  intro k v w w' hb h
  unfold wr1 at *
  split at h <;> first | exact h | (obtain ⟨q, h1, h2⟩ := h; exact ⟨q, h1, h2.below hb⟩) | (obtain ⟨q, c, h1, h2⟩ := h; exact ⟨q, c, h1, h2.below hb⟩) | trivial
def wr2 (c d gx gf base σ : Nat) (A : Option Addr) (cp : Nat) (x : Co) (k : Nat) (v : Value) (w : World) : Prop :=
  match k with
  | 0 => v = .pointer (some ⟨c, 0, none⟩)
  | 1 => v = .pointer (some ⟨c, 0, none⟩)
  | 2 => v = .pointer (some ⟨c, 1, none⟩)
  | 3 => v = .pointer (some ⟨d, 0, none⟩)
  | 4 => v = .int .i64 (64 * (σ : Int))
  | 5 => v = .agg (coL x A cp).toArray
  | 6 => ∃ q c, v = .slice q (2 + (x.b.length + 3) / 4) c ∧ Fresh base 22 w q (2 + (x.b.length + 3) / 4) c (cw (wordsC x.t x.b))
  | _ => True
theorem wr2_stab (c d gx gf base σ : Nat) (A : Option Addr) (cp : Nat) (x : Co) : ∀ k v w w', Below w.heap.size w w' → wr2 c d gx gf base σ A cp x k v w → wr2 c d gx gf base σ A cp x k v w' := by
  intro k v w w' hb h
  unfold wr2 at *
  split at h <;> first | exact h | (obtain ⟨q, h1, h2⟩ := h; exact ⟨q, h1, h2.below hb⟩) | (obtain ⟨q, c, h1, h2⟩ := h; exact ⟨q, c, h1, h2.below hb⟩) | trivial
def wr3 (c d gx gf base σ : Nat) (A : Option Addr) (cp : Nat) (x : Co) (k : Nat) (v : Value) (w : World) : Prop :=
  match k with
  | 0 => v = .pointer (some ⟨c, 0, none⟩)
  | 1 => v = .pointer (some ⟨c, 0, none⟩)
  | 2 => v = .pointer (some ⟨c, 1, none⟩)
  | 3 => v = .pointer (some ⟨d, 0, none⟩)
  | 4 => v = .int .i64 (64 * (σ : Int))
  | 5 => v = .int .i64 (64 * (σ : Int) + 63)
  | 6 => ∃ q, v = .slice (some ⟨q, 0, none⟩) 1 1 ∧ Fresh base 22 w (some ⟨q, 0, none⟩) 1 1 (cw [0])
  | _ => True
theorem wr3_stab (c d gx gf base σ : Nat) (A : Option Addr) (cp : Nat) (x : Co) : ∀ k v w w', Below w.heap.size w w' → wr3 c d gx gf base σ A cp x k v w → wr3 c d gx gf base σ A cp x k v w' := by
  intro k v w w' hb h
  unfold wr3 at *
  split at h <;> first | exact h | (obtain ⟨q, h1, h2⟩ := h; exact ⟨q, h1, h2.below hb⟩) | (obtain ⟨q, c, h1, h2⟩ := h; exact ⟨q, c, h1, h2.below hb⟩) | trivial
section
variable {w w' : World} {B base c d p b f gc gx gf σ : Nat} {S S' : Fl} {x : Co} {A : Option Addr} {cp : Nat} {k : Co} {K : Option Addr} {ck : Nat} {over : Bool}
theorem WrAt.below (h : WrAt B base w c d p b f gc gx gf σ S x A cp k K ck over) (y : Below w.heap.size w w') : WrAt B base w' c d p b f gc gx gf σ S x A cp k K ck over :=
  ⟨h.dr.below y, h.fo.below y, h.fc.below y, h.fx.below y, h.ff.below y, h.fb.below y, h.xs, h.sl, h.xt, h.xb⟩
theorem WrAt.turn (h : WrAt B base w c d p b f gc gx gf σ S x A cp k K ck over) (y : But p b w w') (hD : DrAt base w' d p b f 2 S') : WrAt B base w' c d p b f gc gx gf σ S' x A cp k K ck over := by
  have n1 := h.dr.nor.obj
  have n2 := h.dr.nor.row
  exact ⟨hD, h.fo.unlike2 n1 n2 (by decide) (by decide) y, h.fc.unlike2 n1 n2 (by decide) (by decide) y, h.fx.unlike2 n1 n2 (by decide) (by decide) y, h.ff.unlike2 n1 n2 (by decide) (by decide) y, h.fb.unlike2 n1 n2 (by decide) (by decide) y, h.xs, h.sl, h.xt, h.xb⟩
set_option maxHeartbeats 1000000 in
set_option maxRecDepth 100000 in
theorem write1_any (h : WrAt B base w c d p b f gc gx gf σ S x A cp k K ck over) (T : Fl) (q : Nat) (hT : S.derase f 2 (σ : Int) = (T, q)) :
    Calls Try.prog 130 #[.pointer (some ⟨gc, 0, none⟩), .pointer (some ⟨gx, 0, none⟩)] w fun e w' => e = .returned (.int .i64 (q : Int)) ∧ DrAt base w' d p b f 2 T ∧ But p b w w' := by
  have hn := Fl.derase_n hT
  have hsl := h.sl
  have HT := Lib.hid hT
  clear hT
  go_enter Try.func130, Try.ntmps130
  go_wp2_with fail
  (try simp only [Act.put, List.setIfInBounds_toArray, List.set_cons_succ, List.set_cons_zero])
  refine region_all_tail 6 (wr1 c d gx gf w.heap.size σ A cp x) (by kernel_rfl) (by kernel_rfl) (by kernel_rfl) (wr1_stab _ _ _ _ _ _ _ _ _) ?_ ?_
  · intro w0 hb0
    have hsz0 : w.heap.size ≤ w0.heap.size := hb0.size
    simp only [List.take_succ_cons, List.take_zero]
    refine ⟨?_, ?_, ?_, ?_, ?_, ?_, trivial⟩
    all_goals intro listed a1 w' hk hd
    · have f0_ : a1.eval (.tmp 0) = .pointer (some ⟨gc, 0, none⟩) := hk.ev_old 0 (by kernel_rfl)
      have g0_ : a1.tmps[0]?.getD undef = .pointer (some ⟨gc, 0, none⟩) := by simpa [Act.eval] using f0_
      have c1 : w'.cell? ⟨gc, 0, none⟩ = some (.pointer (some ⟨c, 0, none⟩)) := ((h.below hb0).below hk.below).fc.cell rfl
      exact stepOk_value rfl (v := .pointer (some ⟨c, 0, none⟩)) (by go_simp) rfl
    · obtain ⟨v0, e0, q0, rfl⟩ := hk.ev_new hd 0 3 (by kernel_rfl) rfl
      exact stepOk_value rfl (v := .pointer (some ⟨c, 0, none⟩)) (by go_simp) rfl
    · obtain ⟨v1, e1, q1, rfl⟩ := hk.ev_new hd 1 4 (by kernel_rfl) rfl
      exact stepOk_value rfl (v := .pointer (some ⟨c, 1, none⟩)) (by go_simp) rfl
    · obtain ⟨v2, e2, q2, rfl⟩ := hk.ev_new hd 2 5 (by kernel_rfl) rfl
      have c1 : w'.cell? ⟨c, 1, none⟩ = some (.pointer (some ⟨d, 0, none⟩)) := ((h.below hb0).below hk.below).fo.cell rfl
      exact stepOk_value rfl (v := .pointer (some ⟨d, 0, none⟩)) (by go_simp) rfl
    · have f1_ : a1.eval (.tmp 1) = .pointer (some ⟨gx, 0, none⟩) := hk.ev_old 1 (by kernel_rfl)
      have g1_ : a1.tmps[1]?.getD undef = .pointer (some ⟨gx, 0, none⟩) := by simpa [Act.eval] using f1_
      exact stepOk_value rfl (v := .pointer (some ⟨gx, 0, none⟩)) (by go_simp) rfl
    · obtain ⟨v4, e4, q4, rfl⟩ := hk.ev_new hd 4 7 (by kernel_rfl) rfl
      have c1 : w'.cell? ⟨gx, 0, none⟩ = some (.int .i64 (σ : Int)) := by have := ((h.below hb0).below hk.below).fx.cell (j := 0) rfl; rwa [h.xs] at this
      exact stepOk_value rfl (v := .int .i64 (σ : Int)) (by go_simp) rfl
  · intro a1 w' hbw hp
    obtain ⟨v0, p0, v1, p1, v2, p2, v3, p3, v4, p4, v5, p5, rfl⟩ := hp
    simp only [wr1] at p0 p1 p2 p3 p4 p5
    subst p0 p1 p2 p3 p4 p5
    simp only [List.drop_succ_cons, List.drop_zero, Act.put, List.setIfInBounds_toArray, List.set_cons_succ, List.set_cons_zero]
    have hD := h.dr.below hbw
    go_wp2_with fail
    refine (dErase_any hD (σ : Int) (by omega) T q HT.out hn).mono ?_
    rintro e w3 ⟨rfl, hD3, hB3⟩
    go_wp2_with fail
    go_ret
    exact ⟨rfl, hD3, (But.of_below hbw).then_ hB3⟩
set_option maxHeartbeats 1000000 in
set_option maxRecDepth 100000 in
theorem write2_any (h : WrAt B base w c d p b f gc gx gf σ S x A cp k K ck over) (hbase : base ≤ w.heap.size) (T : Fl) (q : Nat) (hT : S.dwrite f 2 (64 * (σ : Int)) (wordsC x.t x.b) = (T, q)) :
    Calls Try.prog 132 #[.pointer (some ⟨gc, 0, none⟩), .pointer (some ⟨gf, 0, none⟩), .pointer (some ⟨gx, 0, none⟩)] w fun e w' => e = .returned (.int .i64 (q : Int)) ∧ DrAt base w' d p b f 2 T ∧ But p b w w' := by
  have hsl := h.sl
  have HT := Lib.hid hT
  have HL := Lib.hid (wordsC_len (t := x.t) h.xb)
  clear hT
  obtain ⟨hp1, hb1, -, -⟩ := h.dr.nor.lt
  go_enter Try.func132, Try.ntmps132
  go_wp2_with fail
  (try simp only [Act.put, List.setIfInBounds_toArray, List.set_cons_succ, List.set_cons_zero])
  refine region_all_tail 7 (wr2 c d gx gf w.heap.size σ A cp x) (by kernel_rfl) (by kernel_rfl) (by kernel_rfl) (wr2_stab _ _ _ _ _ _ _ _ _) ?_ ?_
  · intro w0 hb0
    have hsz0 : w.heap.size ≤ w0.heap.size := hb0.size
    simp only [List.take_succ_cons, List.take_zero]
    refine ⟨?_, ?_, ?_, ?_, ?_, ?_, ?_, trivial⟩
    all_goals intro listed a1 w' hk hd
    · have f0_ : a1.eval (.tmp 0) = .pointer (some ⟨gc, 0, none⟩) := hk.ev_old 0 (by kernel_rfl)
      have g0_ : a1.tmps[0]?.getD undef = .pointer (some ⟨gc, 0, none⟩) := by simpa [Act.eval] using f0_
      have c1 : w'.cell? ⟨gc, 0, none⟩ = some (.pointer (some ⟨c, 0, none⟩)) := ((h.below hb0).below hk.below).fc.cell rfl
      exact stepOk_value rfl (v := .pointer (some ⟨c, 0, none⟩)) (by go_simp) rfl
    · obtain ⟨v0, e0, q0, rfl⟩ := hk.ev_new hd 0 4 (by kernel_rfl) rfl
      exact stepOk_value rfl (v := .pointer (some ⟨c, 0, none⟩)) (by go_simp) rfl
    · obtain ⟨v1, e1, q1, rfl⟩ := hk.ev_new hd 1 5 (by kernel_rfl) rfl
      exact stepOk_value rfl (v := .pointer (some ⟨c, 1, none⟩)) (by go_simp) rfl
    · obtain ⟨v2, e2, q2, rfl⟩ := hk.ev_new hd 2 6 (by kernel_rfl) rfl
      have c1 : w'.cell? ⟨c, 1, none⟩ = some (.pointer (some ⟨d, 0, none⟩)) := ((h.below hb0).below hk.below).fo.cell rfl
      exact stepOk_value rfl (v := .pointer (some ⟨d, 0, none⟩)) (by go_simp) rfl
    · have f1_ : a1.eval (.tmp 1) = .pointer (some ⟨gf, 0, none⟩) := hk.ev_old 1 (by kernel_rfl)
      have g1_ : a1.tmps[1]?.getD undef = .pointer (some ⟨gf, 0, none⟩) := by simpa [Act.eval] using f1_
      have c1 : w'.cell? ⟨gf, 0, none⟩ = some (.int .i64 (64 * (σ : Int))) := ((h.below hb0).below hk.below).ff.cell rfl
      exact stepOk_value rfl (v := .int .i64 (64 * (σ : Int))) (by go_simp) rfl
    · have f2 : a1.eval (.tmp 2) = .pointer (some ⟨gx, 0, none⟩) := hk.ev_old 2 (by kernel_rfl)
      exact stepOk_value rfl (run_load_agg (.tmp 2) 95 rfl f2 (coL x A cp) 3 rfl (by kernel_rfl) ((h.below hb0).below hk.below).fx.sees) rfl
    · obtain ⟨v5, e5, q5, rfl⟩ := hk.ev_new hd 5 9 (by kernel_rfl) rfl
      have hh := ((h.below hb0).below hk.below)
      refine stepOk_enter rfl (f := 133) (args := #[.agg (coL x A cp).toArray]) (by go_simp) ?_
      refine (cwords_any (w := w') x A cp h.xt h.xb hh.fb.sees).mono ?_
      rintro e w5 ⟨q, cq, rfl, hq, hB5⟩
      exact ⟨_, rfl, ⟨q, cq, rfl, hq.lower (Nat.le_trans hsz0 hk.below.size)⟩, hB5⟩
  · intro a1 w' hbw hp
    obtain ⟨v0, p0, v1, p1, v2, p2, v3, p3, v4, p4, v5, p5, v6, p6, rfl⟩ := hp
    simp only [wr2] at p0 p1 p2 p3 p4 p5 p6
    subst p0 p1 p2 p3 p4 p5
    obtain ⟨q1, c1, rfl, hF1⟩ := p6
    simp only [List.drop_succ_cons, List.drop_zero, Act.put, List.setIfInBounds_toArray, List.set_cons_succ, List.set_cons_zero]
    have hD := h.dr.below hbw
    have hO := Off.made hF1 hp1 hb1
    go_wp2_with fail
    refine (dWrite_any hD (64 * (σ : Int)) (by omega) _ c1 q1 (wordsC x.t x.b) hO HL.out.1 hF1.cap.1 T q HT.out).mono ?_
    rintro e w3 ⟨rfl, hD3, hB3⟩
    go_wp2_with fail
    go_ret
    exact ⟨rfl, hD3, (But.of_below hbw).then_ hB3⟩
set_option maxHeartbeats 1000000 in
set_option maxRecDepth 100000 in
theorem write3_any (h : WrAt B base w c d p b f gc gx gf σ S x A cp k K ck over) (hbase : base ≤ w.heap.size) (T : Fl) (q : Nat) (hT : S.dwrite f 2 (64 * (σ : Int) + 63) [0] = (T, q)) :
    Calls Try.prog 134 #[.pointer (some ⟨gc, 0, none⟩), .pointer (some ⟨gf, 0, none⟩)] w fun e w' => e = .returned (.int .i64 (q : Int)) ∧ DrAt base w' d p b f 2 T ∧ But p b w w' := by
  have hsl := h.sl
  have HT := Lib.hid hT
  have ew : IntKind.i64.wrap (64 * (σ : Int) + 63) = 64 * (σ : Int) + 63 := wrapI _ (by omega) (by omega)
  clear hT
  obtain ⟨hp1, hb1, -, -⟩ := h.dr.nor.lt
  go_enter Try.func134, Try.ntmps134
  go_wp2_with fail
  (try simp only [Act.put, List.setIfInBounds_toArray, List.set_cons_succ, List.set_cons_zero])
  refine region_all_tail 7 (wr3 c d gx gf w.heap.size σ A cp x) (by kernel_rfl) (by kernel_rfl) (by kernel_rfl) (wr3_stab _ _ _ _ _ _ _ _ _) ?_ ?_
  · intro w0 hb0
    have hsz0 : w.heap.size ≤ w0.heap.size := hb0.size
    simp only [List.take_succ_cons, List.take_zero]
    refine ⟨?_, ?_, ?_, ?_, ?_, ?_, ?_, trivial⟩
    all_goals intro listed a1 w' hk hd
    · have f0_ : a1.eval (.tmp 0) = .pointer (some ⟨gc, 0, none⟩) := hk.ev_old 0 (by kernel_rfl)
      have g0_ : a1.tmps[0]?.getD undef = .pointer (some ⟨gc, 0, none⟩) := by simpa [Act.eval] using f0_
      have c1 : w'.cell? ⟨gc, 0, none⟩ = some (.pointer (some ⟨c, 0, none⟩)) := ((h.below hb0).below hk.below).fc.cell rfl
      exact stepOk_value rfl (v := .pointer (some ⟨c, 0, none⟩)) (by go_simp) rfl
    · obtain ⟨v0, e0, q0, rfl⟩ := hk.ev_new hd 0 3 (by kernel_rfl) rfl
      exact stepOk_value rfl (v := .pointer (some ⟨c, 0, none⟩)) (by go_simp) rfl
    · obtain ⟨v1, e1, q1, rfl⟩ := hk.ev_new hd 1 4 (by kernel_rfl) rfl
      exact stepOk_value rfl (v := .pointer (some ⟨c, 1, none⟩)) (by go_simp) rfl
    · obtain ⟨v2, e2, q2, rfl⟩ := hk.ev_new hd 2 5 (by kernel_rfl) rfl
      have c1 : w'.cell? ⟨c, 1, none⟩ = some (.pointer (some ⟨d, 0, none⟩)) := ((h.below hb0).below hk.below).fo.cell rfl
      exact stepOk_value rfl (v := .pointer (some ⟨d, 0, none⟩)) (by go_simp) rfl
    · have f1_ : a1.eval (.tmp 1) = .pointer (some ⟨gf, 0, none⟩) := hk.ev_old 1 (by kernel_rfl)
      have g1_ : a1.tmps[1]?.getD undef = .pointer (some ⟨gf, 0, none⟩) := by simpa [Act.eval] using f1_
      have c1 : w'.cell? ⟨gf, 0, none⟩ = some (.int .i64 (64 * (σ : Int))) := ((h.below hb0).below hk.below).ff.cell rfl
      exact stepOk_value rfl (v := .int .i64 (64 * (σ : Int))) (by go_simp) rfl
    · obtain ⟨v4, e4, q4, rfl⟩ := hk.ev_new hd 4 7 (by kernel_rfl) rfl
      exact stepOk_value rfl (v := .int .i64 (64 * (σ : Int) + 63)) (by go_simp; try exact ew) rfl
    · refine stepOk_run rfl (v := .slice (some ⟨w'.heap.size, 0, none⟩) 1 1) (w' := w'.alloc (.cells (cw [0]).toArray 22)) ?_ ⟨_, rfl, (Fresh.new w' 22 (cw [0]) 1 rfl (by decide)).lower (Nat.le_trans hsz0 hk.below.size)⟩ (below_alloc _ _)
      go_simp
  · intro a1 w' hbw hp
    obtain ⟨v0, p0, v1, p1, v2, p2, v3, p3, v4, p4, v5, p5, v6, p6, rfl⟩ := hp
    simp only [wr3] at p0 p1 p2 p3 p4 p5 p6
    subst p0 p1 p2 p3 p4 p5
    obtain ⟨q1, rfl, hF1⟩ := p6
    simp only [List.drop_succ_cons, List.drop_zero, Act.put, List.setIfInBounds_toArray, List.set_cons_succ, List.set_cons_zero]
    have hD := h.dr.below hbw
    have hO := Off.made hF1 hp1 hb1
    go_wp2_with fail
    refine (dWrite_any hD (64 * (σ : Int) + 63) (by omega) 1 1 _ [0] hO rfl (by omega) T q HT.out).mono ?_
    rintro e w3 ⟨rfl, hD3, hB3⟩
    go_wp2_with fail
    go_ret
    exact ⟨rfl, hD3, (But.of_below hbw).then_ hB3⟩
end
end Go.Proofs.Ytdilpalggoapnaa
