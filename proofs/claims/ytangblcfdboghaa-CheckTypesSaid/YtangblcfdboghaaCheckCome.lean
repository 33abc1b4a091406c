/-
  The places as they lie in memory, and check.come.
-/
import Derived.Test.YtangblcfdboghaaCheckBase
namespace Go.Proofs.Ytangblcfdboghaa
open Go.RowKit
set_option linter.unusedVariables false

/-- A place with where its stack lies, and room. -/
abbrev M3 := Sp × Option Addr × Nat
def c3 (m : M3) : List Value := [.bool m.1.r, .slice m.2.1 m.1.st.length m.2.2, .int .i64 (m.1.k : Int)]
def trips (l : List M3) : List Value := l.flatMap c3
theorem c3_len (m : M3) : (c3 m).length = 3 := rfl
theorem len_trips : ∀ l : List M3, (trips l).length = 3 * l.length
  | [] => rfl
  | a :: l => by
    have := len_trips l
    simp only [trips, List.flatMap_cons, List.length_append, c3_len, List.length_cons] at this ⊢
    omega
theorem trips_cons (a : M3) (l : List M3) : trips (a :: l) = c3 a ++ trips l := by simp [trips]
theorem trips_get : ∀ (l : List M3) (k j : Nat) (m : M3), l[k]? = some m → j < 3 → (trips l)[k * 3 + j]? = (c3 m)[j]?
  | [], k, j, m, h, hj => by simp at h
  | a :: l, k, j, m, h, hj => by
    rw [trips_cons]
    rcases k with _ | k
    · simp at h
      subst h
      rw [Nat.zero_mul, Nat.zero_add, List.getElem?_append_left (by rw [c3_len]; exact hj)]
    · rw [List.getElem?_append_right (by rw [c3_len]; omega), c3_len, show (k + 1) * 3 + j - 3 = k * 3 + j from by omega]
      exact trips_get l k j m (by simpa using h) hj
theorem trips_set : ∀ (l : List M3) (k : Nat) (m : M3), k < l.length → splice (trips l) (k * 3) (c3 m) = trips (l.set k m)
  | [], k, m, h => by simp at h
  | a :: l, k, m, h => by
    rcases k with _ | k
    · simp [splice, trips_cons, c3]
    · have := trips_set l k m (by simpa using h)
      rw [List.set_cons_succ, trips_cons, trips_cons, ← this]
      simp only [splice]
      have e : (k + 1) * 3 = 3 + k * 3 := by omega
      rw [e, ← c3_len a, List.take_length_add_append, Nat.add_assoc, List.drop_append]
      simp [List.append_assoc]

/-- Writes nothing that was there but one block. -/
structure But1 (g : Nat) (w w' : World) : Prop where
  os : w'.os = w.os
  tape : w'.tape = w.tape
  output : w'.output = w.output
  size : w.heap.size ≤ w'.heap.size
  keep : ∀ k, k < w.heap.size → k ≠ g → w'.heap[k]? = w.heap[k]?
theorem But1.refl (g : Nat) (w : World) : But1 g w w := ⟨rfl, rfl, rfl, Nat.le_refl _, fun _ _ _ => rfl⟩
theorem But1.of_below {g : Nat} {w w' : World} (h : Below w.heap.size w w') : But1 g w w' := ⟨h.os, h.tape, h.output, h.size, fun k hk _ => h.block k hk⟩
theorem But1.then_ {g : Nat} {a b c : World} (h : But1 g a b) (k : But1 g b c) : But1 g a c :=
  ⟨k.os.trans h.os, k.tape.trans h.tape, k.output.trans h.output, Nat.le_trans h.size k.size, fun j hj h1 => (k.keep j (Nat.lt_of_lt_of_le hj h.size) h1).trans (h.keep j hj h1)⟩
theorem But1.below {g : Nat} {w0 w w' : World} (h : But1 g w w') (hb : Below w0.heap.size w0 w) (hg : w0.heap.size ≤ g) : Below w0.heap.size w0 w' :=
  ⟨h.os.trans hb.os, h.tape.trans hb.tape, h.output.trans hb.output, Nat.le_trans hb.size h.size, fun k hk => (h.keep k (Nat.lt_of_lt_of_le hk hb.size) (by omega)).trans (hb.block k hk)⟩
theorem But1.new {g : Nat} {w w' : World} (h : But1 g w w') (hg : w.heap.size ≤ g) : Below w.heap.size w w' := h.below (Below.refl _ _) hg
theorem Fresh.but1 {g base b n : Nat} {e : TypeId} {w w' : World} {xs : List Value} (h : Fresh base e w (some ⟨b, 0, none⟩) n n xs) (k : But1 g w w') (h1 : b ≠ g) : Fresh base e w' (some ⟨b, 0, none⟩) n n xs :=
  Fresh.of_block (by rw [k.keep b h.lt_size h1]; exact h.block.1) h.block.2 h.len h.cap.2
theorem KeepB.of_but1 {e : TypeId} {w w' : World} {g : Nat} {t : TypeId} {ys : Array Value} {fz : Nat × Nat} (hg : w.heap[g]? = some (.cells ys t fz)) (hne : e ≠ t) (h : But1 g w w') : KeepB e w w' := fun k xs fz' hk => by
  refine h.keep k (Array.getElem?_eq_some_iff.1 hk).1 (fun e1 => ?_)
  rw [e1, hg] at hk
  simp at hk
  exact hne hk.2.1.symm

/-- The places of a program lie in block g. -/
structure SpAt (base g : Nat) (w : World) (l : List Sp) : Prop where
  ex : ∃ ms : List M3, ms.map (·.1) = l ∧ Fresh base 64 w (some ⟨g, 0, none⟩) (3 * l.length) (3 * l.length) (trips ms) ∧ ∀ m ∈ ms, Fresh base 28 w m.2.1 m.1.st.length m.2.2 (cb m.1.st)
section
variable {base g : Nat} {w w' : World} {l : List Sp}
theorem SpAt.below (h : SpAt base g w l) (x : Below w.heap.size w w') : SpAt base g w' l := by
  obtain ⟨ms, h1, h2, h3⟩ := h.ex
  exact ⟨ms, h1, h2.below x, fun m hm => (h3 m hm).below x⟩
theorem SpAt.lt (h : SpAt base g w l) : base ≤ g ∧ g < w.heap.size := by
  obtain ⟨ms, h1, h2, h3⟩ := h.ex
  exact ⟨h2.block.2, h2.lt_size⟩
theorem SpAt.block (h : SpAt base g w l) : ∃ ys, w.heap[g]? = some (.cells ys 64 (0, 0)) := by
  obtain ⟨ms, h1, h2, h3⟩ := h.ex
  exact ⟨_, h2.block.1⟩
theorem SpAt.get (h : SpAt base g w l) {x : Nat} (hx : x < l.length) : ∃ A c, Sees w w.heap.size (some ⟨g, x * 3, none⟩) (c3 (sp l x, A, c)) ∧ Fresh base 28 w A (sp l x).st.length c (cb (sp l x).st) := by
  obtain ⟨ms, rfl, h2, h3⟩ := h.ex
  rw [List.length_map] at hx
  have e : sp (ms.map (·.1)) x = (ms[x]).1 := by simp [sp, hx]
  rw [e]
  refine ⟨ms[x].2.1, ms[x].2.2, fun _ => ⟨g, x * 3, rfl, h2.lt_size, fun j u hu => ?_⟩, h3 _ (List.getElem_mem _)⟩
  have hj : j < 3 := (List.getElem?_eq_some_iff.1 hu).1
  refine h2.cell_ ?_
  rw [trips_get ms x j ms[x] (List.getElem?_eq_getElem hx) hj]
  exact hu
theorem SpAt.drewN (h : SpAt base g w l) (q : Nat) : SpAt base g (w.drewN q) l := h.below (below_drewN' (Below.refl _ _) q)
end
theorem aggSp : aggB Try.prog 64 3 = true := by kernel_rfl
theorem zeroSp : ((Try.prog.info? 64).map (·.zero)) = some (some (.agg (c3 (default, none, 0)).toArray)) := by kernel_rfl
theorem c3_one (m : M3) : ∀ u ∈ c3 m, u.oneCell' = true := by
  intro u hu
  simp only [c3, List.mem_cons, List.not_mem_nil, or_false] at hu
  rcases hu with rfl | rfl | rfl <;> rfl
theorem ne_sp : (28 : TypeId) ≠ 64 := by decide

/-- What come answers: whether one came there with another stack; and the places behind it. -/
def ComeOut (base g : Nat) (l : List Sp) (x : Nat) (r : Option Sp) (w : World) (e : Ending) (w' : World) : Prop :=
  e = .returned (.bool r.isSome) ∧ But1 g w w' ∧ SpAt base g w' (match r with | some s => l.set x s | none => l)
def cm3 (base g x3 N k0 k mx : Nat) (A : Option Addr) (c : Nat) (st : List UInt8) (j : Nat) (x : Value) (w : World) : Prop :=
  match j with
  | 0 => x = .pointer (some ⟨g, x3, none⟩)
  | 1 => x = .slice A N c
  | 2 => ∃ A c, x = .slice A N c ∧ Fresh base 28 w A N c (cb st)
  | 3 => x = .pointer (some ⟨g, x3, none⟩)
  | 4 => x = .pointer (some ⟨g, x3, none⟩)
  | 5 => x = .pointer (some ⟨g, x3 + 2, none⟩)
  | 6 => x = .int .i64 (k0 : Int)
  | 7 => x = .int .i64 (k : Int)
  | 8 => x = .int .i64 (mx : Int)
  | 9 => ∃ A c, x = .agg (c3 ((⟨true, st, mx⟩ : Sp), A, c)).toArray ∧ Fresh base 28 w A N c (cb st)
  | 10 => x = .pointer (some ⟨g, x3, none⟩)
  | _ => True
theorem cm3_stab (base g x3 N k0 k mx : Nat) (A : Option Addr) (c : Nat) (st : List UInt8) : ∀ j x w w', Below w.heap.size w w' → cm3 base g x3 N k0 k mx A c st j x w → cm3 base g x3 N k0 k mx A c st j x w' := by
  intro j x w w' hb h
  unfold cm3 at *
  split at h <;> first | exact h | (obtain ⟨A, c, h1, h2⟩ := h; exact ⟨A, c, h1, h2.below hb⟩) | trivial
set_option maxHeartbeats 4000000 in
set_option maxRecDepth 100000 in
theorem come_any (w0 w : World) (g x : Nat) (l : List Sp) (A : Option Addr) (c : Nat) (st : List UInt8) (k : Nat) (hb : Below w0.heap.size w0 w) (hg : w0.heap.size ≤ g) (h : SpAt w0.heap.size g w l) (hx : x < l.length)
    (hs : Sees w w.heap.size A (cb st)) (hl : st.length ≤ 64) (hl2 : (sp l x).st.length ≤ 64) (hk : k ≤ 100000) (hk0 : (sp l x).k ≤ 100000) :
    Calls Try.prog 80 #[.pointer (some ⟨g, x * 3, none⟩), .slice A st.length c, .int .i64 (k : Int)] w (ComeOut w0.heap.size g l x (comeF (sp l x) st k) w) := by
  obtain ⟨A0, c0, hs3, hF0⟩ := h.get hx
  obtain ⟨⟨r0, st0, k0⟩, hs0⟩ : ∃ s, sp l x = s := ⟨_, rfl⟩
  rw [hs0] at hs3 hF0 hl2 hk0 ⊢
  simp only at hF0 hl2 hk0
  obtain ⟨N, hN⟩ : ∃ N, st.length = N := ⟨_, rfl⟩
  obtain ⟨N0, hN0⟩ : ∃ N, st0.length = N := ⟨_, rfl⟩
  obtain ⟨mx, hmx⟩ : ∃ mx, max k0 k = mx := ⟨_, rfl⟩
  have hmi : (if k0 < k then (k : Int) else (k0 : Int)) = (mx : Int) := by split <;> omega
  obtain ⟨x3, hx3⟩ : ∃ x3, x * 3 = x3 := ⟨_, rfl⟩
  have hCL : ∀ w', Below w.heap.size w w' → Calls Try.prog 99 #[.slice A N c] w' (MadeT w' st) := fun w' hw => by rw [← hN]; exact CloneT_any A c st w' (hs.step hw) (by omega)
  have c0' : w.cell? ⟨g, x * 3, none⟩ = some (.bool r0) := hs3.cell4 0 (.bool r0) rfl
  have c1' := hs3.cell4 1 (.slice A0 N0 c0) (by rw [← hN0]; rfl)
  have HMX := Lib.hid hmi
  have HMY := Lib.hid hmx
  have HCL := Lib.hid hCL
  have HN := Lib.hid hN
  have HN0 := Lib.hid hN0
  rw [hN] at hl ⊢
  rw [hN0] at hl2 hF0
  rw [hx3] at hs3 c0' c1' ⊢
  have hfit : x3 + 3 ≤ 3 * l.length := by omega
  clear hs0 hmi hmx hCL hN hN0
  cases r0 with
  | false =>
    rw [show comeF ⟨false, st0, k0⟩ st k = some ⟨true, st, mx⟩ from by simp [comeF, HMY.out]]
    have hS1 := h
    have hBw := Below.refl w.heap.size w
    have hbs := hb.size
    clear h c1'
    go_enter Try.func80, Try.ntmps80
    go_wp2_with fail
    refine region_all_tail 11 (cm3 w0.heap.size g x3 N k0 k mx A c st) (by kernel_rfl) (by kernel_rfl) (by kernel_rfl) (cm3_stab _ _ _ _ _ _ _ _ _ _) ?_ ?_
    · intro wz hb0
      simp only [List.take_succ_cons, List.take_zero]
      refine ⟨?_, ?_, ?_, ?_, ?_, ?_, ?_, ?_, ?_, ?_, ?_, trivial⟩
      all_goals intro listed a1 w' hk1 hd1
      · have f0_ : a1.eval (.tmp 0) = .pointer (some ⟨g, x3, none⟩) := hk1.ev_old 0 (by kernel_rfl)
        have g0_ : a1.tmps[0]?.getD undef = .pointer (some ⟨g, x3, none⟩) := by simpa [Act.eval] using f0_
        exact stepOk_value rfl (v := .pointer (some ⟨g, x3, none⟩)) (by go_simp) rfl
      · have f1_ : a1.eval (.tmp 1) = .slice A N c := hk1.ev_old 1 (by kernel_rfl)
        have g1_ : a1.tmps[1]?.getD undef = .slice A N c := by simpa [Act.eval] using f1_
        exact stepOk_value rfl (v := .slice A N c) (by go_simp) rfl
      · obtain ⟨y1, e1, q1, rfl⟩ := hk1.ev_new hd1 1 21 (by kernel_rfl) rfl
        refine stepOk_enter rfl (f := 99) (args := #[.slice A N c]) (by go_simp) ?_
        refine (HCL.out _ (Below.then_ hb0 hk1.below)).mono ?_
        rintro e w5 ⟨A5, c5, rfl, hF5, hB5⟩
        exact ⟨_, rfl, ⟨A5, c5, by rw [HN.out], by rw [HN.out] at hF5; exact hF5.lower (Nat.le_trans hbs (Nat.le_trans hb0.size hk1.below.size))⟩, hB5⟩
      · have f0_ : a1.eval (.tmp 0) = .pointer (some ⟨g, x3, none⟩) := hk1.ev_old 0 (by kernel_rfl)
        have g0_ : a1.tmps[0]?.getD undef = .pointer (some ⟨g, x3, none⟩) := by simpa [Act.eval] using f0_
        exact stepOk_value rfl (v := .pointer (some ⟨g, x3, none⟩)) (by go_simp) rfl
      · obtain ⟨y3, e3, q3, rfl⟩ := hk1.ev_new hd1 3 23 (by kernel_rfl) rfl
        exact stepOk_value rfl (v := .pointer (some ⟨g, x3, none⟩)) (by go_simp) rfl
      · obtain ⟨y4, e4, q4, rfl⟩ := hk1.ev_new hd1 4 24 (by kernel_rfl) rfl
        exact stepOk_value rfl (v := .pointer (some ⟨g, x3 + 2, none⟩)) (by go_simp) rfl
      · obtain ⟨y5, e5, q5, rfl⟩ := hk1.ev_new hd1 5 25 (by kernel_rfl) rfl
        have kc := (hs3.step hb0).step hk1.below
        have kc := kc.cell4 2 (.int .i64 (k0 : Int)) rfl
        exact stepOk_value rfl (v := .int .i64 (k0 : Int)) (by go_simp) rfl
      · have f2_ : a1.eval (.tmp 2) = .int .i64 (k : Int) := hk1.ev_old 2 (by kernel_rfl)
        have g2_ : a1.tmps[2]?.getD undef = .int .i64 (k : Int) := by simpa [Act.eval] using f2_
        exact stepOk_value rfl (v := .int .i64 (k : Int)) (by go_simp) rfl
      · obtain ⟨y6, e6, q6, rfl⟩ := hk1.ev_new hd1 6 26 (by kernel_rfl) rfl
        obtain ⟨y7, e7, q7, rfl⟩ := hk1.ev_new hd1 7 27 (by kernel_rfl) rfl
        have hm1 := HMX.out
        exact stepOk_value rfl (v := .int .i64 (mx : Int)) (by go_simp) rfl
      · obtain ⟨y2, e2, r2, q2⟩ := hk1.ev_new hd1 2 22 (by kernel_rfl) rfl
        obtain ⟨y8, e8, q8, rfl⟩ := hk1.ev_new hd1 8 28 (by kernel_rfl) rfl
        obtain ⟨A5, c5, rfl, hF5⟩ := q2
        refine stepOk_value rfl (v := .agg (c3 ((⟨true, st, mx⟩ : Sp), A5, c5)).toArray) ?_ ⟨A5, c5, rfl, hF5⟩
        rw [show c3 ((⟨true, st, mx⟩ : Sp), A5, c5) = [.bool true, .slice A5 N c5, .int .i64 (mx : Int)] from by rw [c3, HN.out]]
        have hbd := fun w => run_build (P := Try.prog) w 64 #[(0, .bool true), (1, .slice A5 N c5), (2, .int .i64 (mx : Int))] #[.bool true, .slice A5 N c5, .int .i64 (mx : Int)] (by kernel_rfl)
        go_simp
      · obtain ⟨y0, e0, q0, rfl⟩ := hk1.ev_new hd1 0 20 (by kernel_rfl) rfl
        exact stepOk_value rfl (v := .pointer (some ⟨g, x3, none⟩)) (by go_simp) rfl
    · intro a1 w7 hb7 hp
      obtain ⟨x0, p0, x1, p1, x2, p2, x3, p3, x4, p4, x5, p5, x6, p6, x7, p7, x8, p8, x9, p9, x10, p10, rfl⟩ := hp
      simp only [cm3] at p0 p1 p2 p3 p4 p5 p6 p7 p8 p9 p10
      obtain ⟨A2, c2, rfl, -⟩ := p2
      obtain ⟨A9, c9, rfl, hF9⟩ := p9
      subst p0 p1 p3 p4 p5 p6 p7 p8 p10
      simp only [List.drop_succ_cons, List.drop_zero, Act.put, List.setIfInBounds_toArray, List.set_cons_succ, List.set_cons_zero]
      have hb1 := But1.of_below (g := g) (Below.then_ hBw hb7)
      have hS7 := hS1.below hb7
      obtain ⟨ms, hms, hF7, hst⟩ := hS7.ex
      go_wp2_with (
          with_reducible refine wpList_store rfl rfl (.tmp 30) (.tmp 29) 64 rfl g (x * 3) w0.heap.size 64 (3 * l.length) (trips ms) (c3 ((⟨true, st, mx⟩ : Sp), A9, c9)) ?_ ?_ 3 rfl ?_ ?_ ?_ ?_ w0 ?_ ?_ ?_
          · rw [hx3]
            rfl
          · rfl
          · exact aggSp
          · exact hF7
          · omega
          · exact c3_one _
          · exact Below.then_ (Below.then_ hb hBw) hb7
          · exact hg
          intro w8 hF8 hB8 hk8 hs8)
      go_ret
      rw [trips_set ms x _ (by rw [← hms, List.length_map] at hx; exact hx)] at hF8
      refine ⟨rfl, ⟨hB8.os.trans hb.os.symm, hB8.tape.trans hb.tape.symm, hB8.output.trans hb.output.symm, Nat.le_trans hb1.size hs8, fun k hk hne => (hk8 k hne).trans (hb1.keep k hk hne)⟩, ms.set x (⟨true, st, mx⟩, A9, c9), ?_, ?_, ?_⟩
      · rw [List.map_set, hms]
      · rw [List.length_set]
        exact hF8
      · intro m hm
        have hkt : KeepB 28 w7 w8 := KeepB.of_other hF7.block.1 ne_sp hk8
        rcases List.mem_or_eq_of_mem_set hm with hm | rfl
        · exact (hst m hm).keepB hkt
        · have := hF9.keepB hkt
          rw [← HN.out] at this
          exact this
  | true =>
    obtain ⟨r, hr⟩ : ∃ r, (st0 == st) = r := ⟨_, rfl⟩
    have HR := Lib.hid hr
    cases r
    · have hne : ¬ st0 = st := by simpa using hr
      rw [show comeF ⟨true, st0, k0⟩ st k = none from by simp [comeF, hne]]
      clear hr hne
      go_enter Try.func80, Try.ntmps80
      go_wp2_with (go_at_call 97; refine (EqualT_any A0 A c0 c N0 N st0 st _ hF0.sees hs HN0.out HN.out (by omega) (by omega) false HR.out).mono ?_; rintro e w4 ⟨rfl, nq, rfl⟩)
      go_ret
      exact ⟨rfl, But1.of_below (below_drewN' (Below.refl _ _) nq), h.drewN nq⟩
    · have hne : st0 = st := by simpa using hr
      rw [show comeF ⟨true, st0, k0⟩ st k = some ⟨true, st, mx⟩ from by simp [comeF, hne, HMY.out]]
      clear hr hne
      go_enter Try.func80, Try.ntmps80
      go_wp2_with (go_at_call 97; refine (EqualT_any A0 A c0 c N0 N st0 st _ hF0.sees hs HN0.out HN.out (by omega) (by omega) true HR.out).mono ?_; rintro e w4 ⟨rfl, nq, rfl⟩)
      have hS1 := h.drewN nq
      have hBw := below_drewN' (Below.refl w.heap.size w) nq
      have hbs := Nat.le_trans hb.size hBw.size
      clear h
      refine region_all_tail 11 (cm3 w0.heap.size g x3 N k0 k mx A c st) (by kernel_rfl) (by kernel_rfl) (by kernel_rfl) (cm3_stab _ _ _ _ _ _ _ _ _ _) ?_ ?_
      · intro wz hb0
        simp only [List.take_succ_cons, List.take_zero]
        refine ⟨?_, ?_, ?_, ?_, ?_, ?_, ?_, ?_, ?_, ?_, ?_, trivial⟩
        all_goals intro listed a1 w' hk1 hd1
        · have f0_ : a1.eval (.tmp 0) = .pointer (some ⟨g, x3, none⟩) := hk1.ev_old 0 (by kernel_rfl)
          have g0_ : a1.tmps[0]?.getD undef = .pointer (some ⟨g, x3, none⟩) := by simpa [Act.eval] using f0_
          exact stepOk_value rfl (v := .pointer (some ⟨g, x3, none⟩)) (by go_simp) rfl
        · have f1_ : a1.eval (.tmp 1) = .slice A N c := hk1.ev_old 1 (by kernel_rfl)
          have g1_ : a1.tmps[1]?.getD undef = .slice A N c := by simpa [Act.eval] using f1_
          exact stepOk_value rfl (v := .slice A N c) (by go_simp) rfl
        · obtain ⟨y1, e1, q1, rfl⟩ := hk1.ev_new hd1 1 21 (by kernel_rfl) rfl
          refine stepOk_enter rfl (f := 99) (args := #[.slice A N c]) (by go_simp) ?_
          refine (HCL.out _ (Below.then_ (Below.then_ hBw hb0) hk1.below)).mono ?_
          rintro e w5 ⟨A5, c5, rfl, hF5, hB5⟩
          exact ⟨_, rfl, ⟨A5, c5, by rw [HN.out], by rw [HN.out] at hF5; exact hF5.lower (Nat.le_trans hbs (Nat.le_trans hb0.size hk1.below.size))⟩, hB5⟩
        · have f0_ : a1.eval (.tmp 0) = .pointer (some ⟨g, x3, none⟩) := hk1.ev_old 0 (by kernel_rfl)
          have g0_ : a1.tmps[0]?.getD undef = .pointer (some ⟨g, x3, none⟩) := by simpa [Act.eval] using f0_
          exact stepOk_value rfl (v := .pointer (some ⟨g, x3, none⟩)) (by go_simp) rfl
        · obtain ⟨y3, e3, q3, rfl⟩ := hk1.ev_new hd1 3 23 (by kernel_rfl) rfl
          exact stepOk_value rfl (v := .pointer (some ⟨g, x3, none⟩)) (by go_simp) rfl
        · obtain ⟨y4, e4, q4, rfl⟩ := hk1.ev_new hd1 4 24 (by kernel_rfl) rfl
          exact stepOk_value rfl (v := .pointer (some ⟨g, x3 + 2, none⟩)) (by go_simp) rfl
        · obtain ⟨y5, e5, q5, rfl⟩ := hk1.ev_new hd1 5 25 (by kernel_rfl) rfl
          have kc := ((hs3.step hBw).step hb0).step hk1.below
          have kc := kc.cell4 2 (.int .i64 (k0 : Int)) rfl
          exact stepOk_value rfl (v := .int .i64 (k0 : Int)) (by go_simp) rfl
        · have f2_ : a1.eval (.tmp 2) = .int .i64 (k : Int) := hk1.ev_old 2 (by kernel_rfl)
          have g2_ : a1.tmps[2]?.getD undef = .int .i64 (k : Int) := by simpa [Act.eval] using f2_
          exact stepOk_value rfl (v := .int .i64 (k : Int)) (by go_simp) rfl
        · obtain ⟨y6, e6, q6, rfl⟩ := hk1.ev_new hd1 6 26 (by kernel_rfl) rfl
          obtain ⟨y7, e7, q7, rfl⟩ := hk1.ev_new hd1 7 27 (by kernel_rfl) rfl
          have hm1 := HMX.out
          exact stepOk_value rfl (v := .int .i64 (mx : Int)) (by go_simp) rfl
        · obtain ⟨y2, e2, r2, q2⟩ := hk1.ev_new hd1 2 22 (by kernel_rfl) rfl
          obtain ⟨y8, e8, q8, rfl⟩ := hk1.ev_new hd1 8 28 (by kernel_rfl) rfl
          obtain ⟨A5, c5, rfl, hF5⟩ := q2
          refine stepOk_value rfl (v := .agg (c3 ((⟨true, st, mx⟩ : Sp), A5, c5)).toArray) ?_ ⟨A5, c5, rfl, hF5⟩
          rw [show c3 ((⟨true, st, mx⟩ : Sp), A5, c5) = [.bool true, .slice A5 N c5, .int .i64 (mx : Int)] from by rw [c3, HN.out]]
          have hbd := fun w => run_build (P := Try.prog) w 64 #[(0, .bool true), (1, .slice A5 N c5), (2, .int .i64 (mx : Int))] #[.bool true, .slice A5 N c5, .int .i64 (mx : Int)] (by kernel_rfl)
          go_simp
        · obtain ⟨y0, e0, q0, rfl⟩ := hk1.ev_new hd1 0 20 (by kernel_rfl) rfl
          exact stepOk_value rfl (v := .pointer (some ⟨g, x3, none⟩)) (by go_simp) rfl
      · intro a1 w7 hb7 hp
        obtain ⟨x0, p0, x1, p1, x2, p2, x3, p3, x4, p4, x5, p5, x6, p6, x7, p7, x8, p8, x9, p9, x10, p10, rfl⟩ := hp
        simp only [cm3] at p0 p1 p2 p3 p4 p5 p6 p7 p8 p9 p10
        obtain ⟨A2, c2, rfl, -⟩ := p2
        obtain ⟨A9, c9, rfl, hF9⟩ := p9
        subst p0 p1 p3 p4 p5 p6 p7 p8 p10
        simp only [List.drop_succ_cons, List.drop_zero, Act.put, List.setIfInBounds_toArray, List.set_cons_succ, List.set_cons_zero]
        have hb1 := But1.of_below (g := g) (Below.then_ hBw hb7)
        have hS7 := hS1.below hb7
        obtain ⟨ms, hms, hF7, hst⟩ := hS7.ex
        go_wp2_with (
            with_reducible refine wpList_store rfl rfl (.tmp 30) (.tmp 29) 64 rfl g (x * 3) w0.heap.size 64 (3 * l.length) (trips ms) (c3 ((⟨true, st, mx⟩ : Sp), A9, c9)) ?_ ?_ 3 rfl ?_ ?_ ?_ ?_ w0 ?_ ?_ ?_
            · rw [hx3]
              rfl
            · rfl
            · exact aggSp
            · exact hF7
            · omega
            · exact c3_one _
            · exact Below.then_ (Below.then_ hb hBw) hb7
            · exact hg
            intro w8 hF8 hB8 hk8 hs8)
        go_ret
        rw [trips_set ms x _ (by rw [← hms, List.length_map] at hx; exact hx)] at hF8
        refine ⟨rfl, ⟨hB8.os.trans hb.os.symm, hB8.tape.trans hb.tape.symm, hB8.output.trans hb.output.symm, Nat.le_trans hb1.size hs8, fun k hk hne => (hk8 k hne).trans (hb1.keep k hk hne)⟩, ms.set x (⟨true, st, mx⟩, A9, c9), ?_, ?_, ?_⟩
        · rw [List.map_set, hms]
        · rw [List.length_set]
          exact hF8
        · intro m hm
          have hkt : KeepB 28 w7 w8 := KeepB.of_other hF7.block.1 ne_sp hk8
          rcases List.mem_or_eq_of_mem_set hm with hm | rfl
          · exact (hst m hm).keepB hkt
          · have := hF9.keepB hkt
            rw [← HN.out] at this
            exact this
end Go.Proofs.Ytangblcfdboghaa
