/-
  The stack behind an instruction: slices.Grow and slices.Concat over types, check.effect and check.done, for every instruction of a right program.
-/
import Derived.Test.YtangblcfdboghaaCheckEff
import Derived.Test.YtangblcfdboghaaSlice
import Derived.Lib.AppendZeros
namespace Go.Proofs.Ytangblcfdboghaa
open Go.RowKit
set_option linter.unusedVariables false

theorem elemT : Try.prog.underlying 41 = some (.slice (Try.prog.elem 41)) := by kernel_rfl
theorem run_cutT {w : World} (A : Option Addr) (n c k : Nat) (hk : k ≤ c) : (Instr.slice 41 (.slice A n c) none (some (.int .i64 (k : Int))) none).run Try.prog w = .ok (.slice A k c) w := by
  have hz : (sizeOf (Try.prog.elem 41)).run Try.prog w = .ok 1 w := by kernel_rfl
  rw [run_slice_h w 41 A n c elemT .i64 (k : Int) (by omega) (by omega), hz]
  simp only [Result.andThen, sliced, Int.toNat_natCast, Nat.zero_mul, Nat.sub_zero]
  cases A <;> simp [Addr.add]
theorem run_fromT (A : Option Addr) (n c k : Nat) (hk : k ≤ n) (hc : n ≤ c) :
    ∃ A' : Option Addr, (∀ w, (Instr.slice 41 (.slice A n c) (some (.int .i64 (k : Int))) none none).run Try.prog w = .ok (.slice A' (n - k) (c - k)) w) ∧ ∀ (w : World) (B : Nat) (xs : List Value), xs.length = n → Sees w B A xs → Sees w B A' (xs.drop k) := by
  have hz : ∀ w, (sizeOf (Try.prog.elem 41)).run Try.prog w = .ok 1 w := fun w => by kernel_rfl
  have hr : ∀ w, (Instr.slice 41 (.slice A n c) (some (.int .i64 (k : Int))) none none).run Try.prog w = .ok (sliced A k n c 1) w := fun w => by
    rw [run_slice_l w 41 A n c elemT .i64 (k : Int) (by omega) (by omega), hz]
    simp only [Result.andThen, Int.toNat_natCast]
  by_cases hkc : k = c
  · subst hkc
    refine ⟨A, fun w => ?_, fun w B xs hl hs => ?_⟩
    · rw [hr]
      cases A <;> simp [sliced]
    · rw [List.drop_of_length_le (by omega)]
      exact Sees.nil
  · refine ⟨A.map (·.add k), fun w => ?_, fun w B xs hl hs => ?_⟩
    · rw [hr]
      cases A <;> simp [sliced, Ne.symm hkc]
    · by_cases hkn : k < n
      · exact hs.add k (by omega)
      · rw [List.drop_of_length_le (by omega)]
        exact Sees.nil
theorem sees_takeT {w : World} {B : Nat} {A : Option Addr} {l : List UInt8} (h : Sees w B A (cb l)) (k : Nat) : Sees w B A (cb (l.take k)) := fun hn => by
  obtain ⟨b, o, e, hb, hc⟩ := h (by simp [cb] at hn ⊢; omega)
  refine ⟨b, o, e, hb, fun j u hu => hc j u ?_⟩
  have hj : j < k := by
    have := (List.getElem?_eq_some_iff.1 hu).1
    simp [cb] at this
    omega
  rw [← hu]
  simp [cb, hj]

set_option maxHeartbeats 1000000 in
set_option maxRecDepth 100000 in
theorem GrowT_any (n : Nat) (hn : n ≤ 100000) (w : World) :
    Calls Try.prog 101 #[.slice none 0 0, .int .i64 (n : Int)] w fun e w' => ∃ A c, e = .returned (.slice A 0 c) ∧ Fresh w.heap.size 28 w' A 0 c [] ∧ Below w.heap.size w w' := by
  obtain ⟨i0, hi, hz0, hz1, hz2⟩ := info_parts infoT
  have hw : IntKind.i64.wrap (n : Int) = n := by rw [IntKind.wrap_i64]; omega
  rcases Nat.eq_zero_or_pos n with rfl | hp
  · go_enter Try.func101, Try.ntmps101
    go_wp2_with fail
    go_ret
    exact ⟨none, 0, rfl, fresh_nil _ _ _, Below.refl _ _⟩
  · have h := Lib.run_append_nil_zeros (P := Try.prog) w 41 3 41 28 i0 (.int .u8 0) .i64 .i64 Try.underlying41 Try.underlying3 hi hz0 n hp (by omega) (by omega) (by rw [hz2]; omega)
    obtain ⟨C, hC⟩ : ∃ C, grownCap w n 0 28 = C := ⟨_, rfl⟩
    have hge : n ≤ C := by rw [← hC]; exact grownCap_ge w n 0 _
    have hcm : C ≤ maxLen := by rw [← hC]; exact grownCap_le_maxLen w n 0 _ (by unfold maxLen; omega)
    obtain ⟨X, hX⟩ : ∃ X, Builtin.zeroCells (Value.int .u8 0).cells n ++ Builtin.zeroCells (Value.int .u8 0).cells (C - n) = X := ⟨_, rfl⟩
    have hXs : X.size = C := by
      rw [← hX, Array.size_append, size_zeroCells, size_zeroCells]
      simp [Value.cells]
      omega
    rw [hC, hX] at h
    have hF : Fresh w.heap.size 28 (w.drew.alloc (.cells X 28)) (some ⟨w.heap.size, 0, none⟩) 0 C [] :=
      ⟨rfl, .inr ⟨w.heap.size, C, X, rfl, Nat.le_refl _, heap_alloc_new w.drew _, Nat.zero_le _, hcm, by rw [hXs, Nat.mul_one], rfl⟩⟩
    have hB : Below w.heap.size w (w.drew.alloc (.cells X 28)) := ⟨rfl, rfl, rfl, by simp, fun k hk => heap_alloc_old w.drew _ hk⟩
    have hH := Lib.hid h
    have hl0 : ¬ ((n : Int) < 0) := by omega
    have hgt : decide (0 < (n : Int)) = true := by simp; omega
    clear h hC hX hXs hi hz0 hz1 hz2
    go_enter Try.func101, Try.ntmps101
    go_wp2_with (at_builtin; refine Lib.wpList_append_run _ rfl _ _ _ _ rfl _ _ rfl rfl _ _ hH.out ?_)
    go_ret
    exact ⟨_, _, rfl, hF, hB⟩

/-- What is there of two lists behind so many of them. -/
def cat2 (a b : List UInt8) : Nat → List UInt8
  | 0 => []
  | 1 => a
  | _ => a ++ b
set_option maxHeartbeats 4000000 in
set_option maxRecDepth 100000 in
theorem ConcatT_any (g n1 c1 n2 c2 : Nat) (A1 A2 : Option Addr) (l1 l2 : List UInt8) (w : World) (hg : Sees w w.heap.size (some ⟨g, 0, none⟩) [.slice A1 n1 c1, .slice A2 n2 c2])
    (h1 : Sees w w.heap.size A1 (cb l1)) (h2 : Sees w w.heap.size A2 (cb l2)) (e1 : l1.length = n1) (e2 : l2.length = n2) (hn : n1 + n2 ≤ 100000) :
    Calls Try.prog 98 #[.slice (some ⟨g, 0, none⟩) 2 2] w fun e w' => ∃ A c, e = .returned (.slice A (n1 + n2) c) ∧ Fresh w.heap.size 28 w' A (n1 + n2) c (cb (l1 ++ l2)) ∧ Below w.heap.size w w' := by
  obtain ⟨N, hN⟩ : ∃ N, n1 + n2 = N := ⟨_, rfl⟩
  have k0 : ∀ w', Below w.heap.size w w' → w'.cell? ⟨g, 0, none⟩ = some (.slice A1 n1 c1) := fun w' hw => by
    obtain ⟨b, o, e, hb, hc⟩ := hg (by simp)
    obtain ⟨rfl, rfl⟩ : g = b ∧ 0 = o := by simpa using e
    exact (hw.cell (p := ⟨g, 0, none⟩) hb).trans (hc 0 _ rfl)
  have k1 : ∀ w', Below w.heap.size w w' → w'.cell? ⟨g, 1, none⟩ = some (.slice A2 n2 c2) := fun w' hw => by
    obtain ⟨b, o, e, hb, hc⟩ := hg (by simp)
    obtain ⟨rfl, rfl⟩ : g = b ∧ 0 = o := by simpa using e
    exact (hw.cell (p := ⟨g, 1, none⟩) hb).trans (hc 1 _ rfl)
  have HE1 := Lib.hid e1
  have HE2 := Lib.hid e2
  have HN := Lib.hid hN
  have i1 : IntKind.i64.wrap (n1 : Int) = n1 := by rw [IntKind.wrap_i64]; omega
  have i2 : IntKind.i64.wrap (N : Int) = N := by rw [IntKind.wrap_i64]; omega
  have i3 : (n1 : Int) + (n2 : Int) = (N : Int) := by omega
  have p1 : decide ((n1 : Int) < 0) = false := by simp
  have p2 : decide ((N : Int) < 0) = false := by simp
  rw [hN]
  clear hg e1 e2 hN
  go_enter Try.func98, Try.ntmps98
  go_wp2_with fail
  go_loopw [3, 11] (fun s i wr => ((i = .int .i64 0 ∧ s = .int .i64 0) ∨ (i = .int .i64 1 ∧ s = .int .i64 (n1 : Int)) ∨ (i = .int .i64 2 ∧ s = .int .i64 (N : Int))) ∧ wr = w) (fun _ i _ => 2 - (intOf i).toNat)
  case atStart => exact ⟨.inl ⟨rfl, rfl⟩, rfl⟩
  case round =>
    obtain ⟨hc, rfl⟩ := hrel
    have q0 := k0 wr (Below.refl _ _)
    have q1 := k1 wr (Below.refl _ _)
    rcases hc with ⟨rfl, rfl⟩ | ⟨rfl, rfl⟩ | ⟨rfl, rfl⟩
    · go_wp2_with fail
      go_roundw
      case rel => exact ⟨.inr (.inl ⟨rfl, rfl⟩), by first | rfl | trivial⟩
      case measure => simp [intOf]
    · go_wp2_with fail
      go_roundw
      case rel => exact ⟨.inr (.inr ⟨rfl, rfl⟩), by first | rfl | trivial⟩
      case measure => simp [intOf]
    · clear q0 q1
      go_wp2_with (go_at_call 101; refine (GrowT_any N (by have := HN.out; omega) wr).mono ?_; rintro e w1 ⟨A, c, rfl, hF, hB⟩)
      have hw0 : wr = wr := rfl
      obtain ⟨w, rfl⟩ : ∃ w, w = wr := ⟨wr, rfl⟩
      go_loopw [6, 27] (fun s i wr => ∃ k A' m c', i = .int .i64 (k : Nat) ∧ k ≤ 2 ∧ s = .slice A' m c' ∧ Hid (m = (cat2 l1 l2 k).length) ∧ Fresh w.heap.size 28 wr A' m c' (cb (cat2 l1 l2 k)) ∧ Below w.heap.size w wr) (fun _ i _ => 2 - (intOf i).toNat)
      case atStart => exact ⟨0, A, 0, c, rfl, by decide, rfl, Lib.hid rfl, hF, hB⟩
      case round =>
        obtain ⟨k, A', m, c', rfl, hk, rfl, HM, hF2, hB2⟩ := hrel
        have q0 := k0 _ hB2
        have q1 := k1 _ hB2
        have r1 := h1.step hB2
        have r2 := h2.step hB2
        have hm0 := HM.out
        have hn0 := HN.out
        have he1 := HE1.out
        have he2 := HE2.out
        rcases (show k = 0 ∨ k = 1 ∨ k = 2 by omega) with rfl | rfl | rfl
        · obtain rfl : m = 0 := hm0
          clear hn0 he1 he2 hF hB
          go_wp2_with (at_builtin; refine wpList_appT rfl (.tmp 31) (.tmp 32) rfl A' A1 0 c' n1 c1 [] l1 w rfl rfl hF2 r1 HE1.out (by have := HN.out; omega) hB2 ?_; intro A3 c3 w3 hF3 hB3)
          go_roundw
          case rel => exact ⟨1, A3, n1, c3, rfl, by decide, rfl, Lib.hid (by have := HE1.out; simp only [cat2]; omega), by rw [Nat.zero_add] at hF3; exact hF3, hB3⟩
          case measure => simp [intOf]
        · obtain rfl : m = n1 := by rw [hm0, ← he1]; rfl
          clear hm0 hn0 he1 he2 hF hB
          go_wp2_with (at_builtin; refine wpList_appT rfl (.tmp 31) (.tmp 32) rfl A' A2 m c' n2 c2 l1 l2 w rfl rfl hF2 r2 HE2.out (by have := HN.out; omega) hB2 ?_; intro A3 c3 w3 hF3 hB3)
          go_roundw
          case rel => exact ⟨2, A3, m + n2, c3, rfl, by decide, rfl, Lib.hid (by have := HE1.out; have := HE2.out; simp only [cat2, List.length_append]; omega), hF3, hB3⟩
          case measure => simp [intOf]
        · obtain rfl : m = N := by rw [hm0, ← hn0, ← he1, ← he2]; simp [cat2]
          clear hm0 hn0 he1 he2 hF hB r1 r2 q0 q1
          go_wp2_with fail
          go_ret
          exact ⟨A', c', rfl, by simpa [cat2, cb] using hF2, hB2⟩

/-- Which instructions there are. -/
theorem op_of {o : Nat} (h : letF o ≠ none) : o = 1 ∨ o = 2 ∨ o = 3 ∨ o = 4 ∨ o = 5 ∨ o = 6 ∨ o = 7 ∨ o = 8 ∨ o = 9 ∨ o = 10 ∨ o = 11 ∨ o = 12 ∨ o = 13 ∨ o = 14 ∨ o = 15 ∨ o = 16 ∨ o = 17 ∨ o = 18 ∨ o = 19 ∨ o = 20 ∨ o = 21 ∨ o = 22 := by
  have h : ¬ (¬ (o = 1 ∨ o = 2 ∨ o = 3 ∨ o = 4 ∨ o = 5 ∨ o = 6 ∨ o = 7 ∨ o = 8 ∨ o = 9 ∨ o = 10 ∨ o = 11 ∨ o = 12 ∨ o = 13 ∨ o = 14 ∨ o = 15 ∨ o = 16 ∨ o = 17 ∨ o = 18 ∨ o = 19 ∨ o = 20 ∨ o = 21 ∨ o = 22)) := fun k => h (by
    simp only [not_or] at k
    simp [letF, k])
  exact Classical.not_not.1 h
theorem effect_any (m : Pm) (j : Jn) (A : Option Addr) (c n : Nat) (st : List UInt8) (w : World) (hm : PmAt w.heap.size w m) (hs : Sees w w.heap.size A (cb st)) (hl : st.length = n) (hn : n ≤ 1099511627776) (ho : j.Ok) (hj : jnOk m.p j = true) :
    Calls Try.prog 96 #[.agg m.cells.toArray, .agg j.cells.toArray, .slice A n c] w (TwoMade w (effF m.p j st)) := by
  have ht := ho.t
  have hne : letF j.op ≠ none := fun h => by rw [jnOk_none h] at hj; cases hj
  have hb : ∀ {x y : Nat}, letF j.op = some (x, 98, y) → 0 ≤ j.a ∧ j.a < m.nb := fun h => by
    rw [jnOk_some h] at hj
    simp [mayF, isPl, hm.nb] at hj
    exact hj.2.1
  rcases op_of hne with h | h | h | h | h | h | h | h | h | h | h | h | h | h | h | h | h | h | h | h | h | h
  · exact eff1_any m j A c n st w hm hs hl hn ht h
  · refine eff2_any m j A c n st w hm hs hl hn ht h ?_
    rw [jnOk_some (show letF j.op = some (48, 118, 48) by rw [h]; rfl)] at hj
    simp [mayF, isPl, hm.nv] at hj
    exact hj.2.1
  · refine eff3_any m j A c n st w hm hs hl hn ht h ?_
    rw [jnOk_some (show letF j.op = some (48, 115, 48) by rw [h]; rfl)] at hj
    simp [mayF, isPl, hm.nv] at hj
    exact hj.2.1.1
  · exact eff4_any m j A c n st w hm hs hl hn ht h
  · exact eff5_any m j A c n st w hm hs hl hn ht h
  · exact eff6_any m j A c n st w hm hs hl hn ht h
  · exact eff7_any m j A c n st w hm hs hl hn ht h
  · exact eff8_any m j A c n st w hm hs hl hn ht h
  · exact eff9_any m j A c n st w hm hs hl hn ht h
  · exact eff10_any m j A c n st w hm hs hl hn ht h
  · exact eff11_any m j A c n st w hm hs hl hn ht h
  · exact eff12_any m j A c n st w hm hs hl hn ht h
  · exact eff13_any m j A c n st w hm hs hl hn ht h
  · exact eff14_any m j A c n st w hm hs hl hn ht h
  · refine eff15_any m j A c n st w hm hs hl hn ht h ?_
    rw [jnOk_some (show letF j.op = some (116, 116, 48) by rw [h]; rfl)] at hj
    simp [mayF, isTy] at hj
    omega
  · exact eff16_any m j A c n st w hm hs hl hn ht h
  · exact eff17_any m j A c n st w hm hs hl hn ht h
  · exact eff18_any m j A c n st w hm hs hl hn ht h
  · exact eff19_any m j A c n st w hm hs hl hn ht h
  · exact eff20_any m j A c n st w hm hs hl hn ht h (hb (x := 48) (y := 48) (by rw [h]; rfl))
  · refine eff21_any m j A c n st w hm hs hl hn ht h (hb (x := 48) (y := 111) (by rw [h]; rfl)) ?_
    rw [jnOk_some (show letF j.op = some (48, 98, 111) by rw [h]; rfl)] at hj
    simp [mayF, isPl] at hj
    simpa using hj.2.2
  · exact eff22_any m j A c n st w hm hs hl hn ht h
def FewE (e : List UInt8 × List UInt8) : Prop := e.1.length ≤ 10 ∧ e.2.length ≤ 10
theorem ite_few {c : Prop} [Decidable c] {a b : List UInt8 × List UInt8} (ha : FewE a) (hb : FewE b) : FewE (if c then a else b) := by split <;> assumption
theorem eff_few (p : Pg) (j : Jn) (st : List UInt8) : (effF p j st).1.length ≤ 10 ∧ (effF p j st).2.length ≤ 10 := by
  have h : ∀ k, (pinsF k).1.length ≤ 10 := fun k => by
    unfold pinsF
    repeat' split
    all_goals simp
  show FewE (effF p j st)
  unfold effF
  repeat' refine ite_few ?_ ?_
  all_goals first | exact ⟨h _, Nat.zero_le _⟩ | (unfold FewE; simp)
/-- What done answers: the stack behind the instruction, if it can be done. -/
def DoneOut (w : World) (r : Option (List UInt8)) (e : Ending) (w' : World) : Prop :=
  ∃ A n c, e = .returned (.tuple #[.slice A n c, .bool r.isSome]) ∧ (∀ s, r = some s → s.length = n ∧ Fresh w.heap.size 28 w' A n c (cb s)) ∧ Below w.heap.size w w'
theorem DoneOut.no {w w' : World} {e : Ending} {A : Option Addr} {n c : Nat} (h : e = .returned (.tuple #[.slice A n c, .bool false])) (hb : Below w.heap.size w w') : DoneOut w none e w' :=
  ⟨A, n, c, h, (fun _ h => by cases h), hb⟩
set_option maxHeartbeats 4000000 in
set_option maxRecDepth 100000 in
theorem done_any (m : Pm) (j : Jn) (A : Option Addr) (c n : Nat) (st : List UInt8) (w : World) (hm : PmAt w.heap.size w m) (hs : Sees w w.heap.size A (cb st)) (hl : st.length = n) (hnc : n ≤ c) (hn : n ≤ 1000) (ho : j.Ok) (hj : jnOk m.p j = true) (hc : c ≤ 9223372036854775807) :
    Calls Try.prog 78 #[.agg m.cells.toArray, .agg j.cells.toArray, .slice A n c] w (DoneOut w (doneF m.p j st)) := by
  unfold doneF
  have hE : ∀ w', Below w.heap.size w w' → Calls Try.prog 96 #[.agg m.cells.toArray, .agg j.cells.toArray, .slice A n c] w' (TwoMade w' (effF m.p j st)) := fun w' hw => effect_any m j A c n st w' (hm.step hw) (hs.step hw) hl (by omega) ho hj
  have hpl : (effF m.p j st).1.length ≤ 10 ∧ (effF m.p j st).2.length ≤ 10 := eff_few m.p j st
  revert hE hpl
  generalize effF m.p j st = ef
  obtain ⟨tk, pt⟩ := ef
  intro hE hpl
  simp only at hpl ⊢
  have HE := Lib.hid hE
  have HL := Lib.hid hl
  obtain ⟨k, hk⟩ : ∃ k, tk.length = k := ⟨_, rfl⟩
  obtain ⟨q, hq⟩ : ∃ q, pt.length = q := ⟨_, rfl⟩
  rw [hk, hq] at hpl
  have HK := Lib.hid hk
  have HQ := Lib.hid hq
  have boxC : True := trivial
  clear hE hl hk hq hm
  by_cases hle : k ≤ n
  · obtain ⟨d, hd⟩ : ∃ d, d + k = n := ⟨n - k, by omega⟩
    have hd1 : (n : Int) - (k : Int) = (d : Int) := by omega
    have hd2 : IntKind.i64.wrap (d : Int) = (d : Int) := by rw [IntKind.wrap_i64]; omega
    have hd3 : decide ((d : Int) < 0) = false := by simp
    have hd4 : n - k = d := by omega
    obtain ⟨AF, hAF, hSF⟩ := run_fromT A n c d (by omega) hnc
    have hcut : ∀ w', (Instr.slice 41 (.slice A n c) none (some (.int .i64 (d : Int))) none).run Try.prog w' = .ok (.slice A d c) w' := fun w' => run_cutT A n c d (by omega)
    have hnd : n - d = k := by omega
    rw [hnd] at hAF
    obtain ⟨r, hr⟩ : ∃ r, (st.drop d == tk) = r := ⟨_, rfl⟩
    have HR := Lib.hid hr
    clear hr
    have hld : (st.drop d).length = k := by rw [List.length_drop, HL.out]; omega
    have HLD := Lib.hid hld
    have hlt : (st.take d).length = d := by rw [List.length_take, HL.out]; omega
    have HLT := Lib.hid hlt
    have ej : joinF tk pt st = if r = true then (if d + q ≤ 64 then some (st.take d ++ pt) else none) else none := by
      unfold joinF
      have h1 := HR.out
      rw [HK.out, HL.out, hd4, List.length_append, HLT.out, HQ.out]
      have h2 : (st.drop d = tk) ↔ r = true := by rw [← h1]; exact beq_iff_eq.symm
      simp only [h2, hle, true_and]
    rw [ej]
    have HD := Lib.hid hd
    clear hd hd4 hld hlt ej hnd
    obtain ⟨rr, hrr⟩ : ∃ rr, (if d + q ≤ 64 then some (st.take d ++ pt) else none) = rr := ⟨_, rfl⟩
    rw [hrr]
    have HRR := Lib.hid hrr
    clear hrr
    cases r
    · rw [if_neg (by decide)]
      go_enter Try.func78, Try.ntmps78
      go_wp2_with (first
        | (with_reducible refine wpList_box (o := ⟨some 3, _, _, _, _, _⟩) rfl (.tmp 0) 26 rfl m.cells rfl 4 (pm4 m) (by decide) ?_; intro g w1 hg hF hB1)
        | (with_reducible refine wpList_box (o := ⟨some 4, _, _, _, _, _⟩) rfl (.tmp 1) 53 rfl j.cells rfl 4 (jn4 j) (by decide) ?_; intro h w2 hh hH hB2; have hF2 := hF.below hB2; have hBw := Below.then_ hB1 hB2)
        | (with_reducible refine wpList_load (o := ⟨some 12, _, _, _, _, _⟩) rfl (.tmp 3) 26 rfl g 0 _ rfl m.cells 4 (pm4 m) aggCode hF2.sees ?_)
        | (with_reducible refine wpList_load (o := ⟨some 13, _, _, _, _, _⟩) rfl (.tmp 4) 53 rfl h 0 _ rfl j.cells 4 (jn4 j) aggIns hH.sees ?_)
        | (go_at_call 96; refine (HE.out _ hBw).mono ?_; rintro e w3 ⟨A3, c3, A4, c4, rfl, hF3, hF4, hB3⟩; (rw [HK.out] at hF3 ⊢); (rw [HQ.out] at hF4 ⊢); have hB03 := Below.then_ hBw hB3)
        | (go_at_call 97; refine (EqualT_any AF A3 (c - d) c3 k k (st.drop d) tk _ (by have := hSF _ _ _ (by simpa [cb] using HL.out) (hs.step hB03); simpa [cb] using this) hF3.sees HLD.out HK.out (by omega) (by omega) false HR.out).mono ?_; rintro e w4 ⟨rfl, nq, rfl⟩))
      go_ret2
      exact DoneOut.no rfl (below_drewN' hB03 nq)
    · rw [if_pos rfl]
      go_enter Try.func78, Try.ntmps78
      go_wp2_with (first
        | (with_reducible refine wpList_box (o := ⟨some 3, _, _, _, _, _⟩) rfl (.tmp 0) 26 rfl m.cells rfl 4 (pm4 m) (by decide) ?_; intro g w1 hg hF hB1)
        | (with_reducible refine wpList_box (o := ⟨some 4, _, _, _, _, _⟩) rfl (.tmp 1) 53 rfl j.cells rfl 4 (jn4 j) (by decide) ?_; intro h w2 hh hH hB2; have hF2 := hF.below hB2; have hBw := Below.then_ hB1 hB2)
        | (with_reducible refine wpList_load (o := ⟨some 12, _, _, _, _, _⟩) rfl (.tmp 3) 26 rfl g 0 _ rfl m.cells 4 (pm4 m) aggCode hF2.sees ?_)
        | (with_reducible refine wpList_load (o := ⟨some 13, _, _, _, _, _⟩) rfl (.tmp 4) 53 rfl h 0 _ rfl j.cells 4 (jn4 j) aggIns hH.sees ?_)
        | (go_at_call 96; refine (HE.out _ hBw).mono ?_; rintro e w3 ⟨A3, c3, A4, c4, rfl, hF3, hF4, hB3⟩; (rw [HK.out] at hF3 ⊢); (rw [HQ.out] at hF4 ⊢); have hB03 := Below.then_ hBw hB3)
        | (go_at_call 97; refine (EqualT_any AF A3 (c - d) c3 k k (st.drop d) tk _ (by have := hSF _ _ _ (by simpa [cb] using HL.out) (hs.step hB03); simpa [cb] using this) hF3.sees HLD.out HK.out (by omega) (by omega) true HR.out).mono ?_; rintro e w4 ⟨rfl, nq, rfl⟩)
        | (go_at_call 98; refine (ConcatT_any w3.heap.size d c q c4 A A4 (st.take d) pt ((w3.drewN nq).alloc (.cells #[.slice A d c, .slice A4 q c4] 41)) (sees_new (w3.drewN nq) 41 [.slice A d c, .slice A4 q c4]) (sees_takeT (hs.step (Below.then_ (below_drewN' hB03 nq) (below_alloc _ _))) d) (hF4.below (Below.then_ (below_drewN' (Below.refl _ _) nq) (below_alloc _ _))).sees HLT.out HQ.out (by omega)).mono ?_; rintro e w5 ⟨A5, c5, rfl, hF5, hB5⟩; have hB05 := Below.then_ (Below.then_ (below_drewN' hB03 nq) (below_alloc _ _)) hB5; have hF5' := hF5.lower (Below.then_ (below_drewN' hB03 nq) (below_alloc _ (.cells #[.slice A d c, .slice A4 q c4] 41))).size))
      go_ret2
      refine ⟨A5, d + q, c5, (?_ : Ending.returned (.tuple #[.slice A5 (d + q) c5, .bool (decide ((d : Int) + (q : Int) ≤ 64))]) = _), fun s h => ?_, hB05⟩
      · by_cases h64 : d + q ≤ 64
        · have e1 : decide ((d : Int) + (q : Int) ≤ 64) = true := by simp; omega
          have h1 := HRR.out
          rw [if_pos h64] at h1
          rw [e1, ← h1]
          rfl
        · have e1 : decide ((d : Int) + (q : Int) ≤ 64) = false := by simp; omega
          have h1 := HRR.out
          rw [if_neg h64] at h1
          rw [e1, ← h1]
          rfl
      · have h := HRR.out.trans h
        split at h
        · obtain rfl := Option.some.inj h
          exact ⟨by rw [List.length_append, HLT.out, HQ.out], hF5'⟩
        · cases h
  · have ej : joinF tk pt st = none := by
      unfold joinF
      rw [HK.out, HL.out, if_neg (fun h => hle h.1)]
    rw [ej]
    have hd3 : decide ((n : Int) - (k : Int) < 0) = true := by simp; omega
    have hd2 : IntKind.i64.wrap ((n : Int) - (k : Int)) = (n : Int) - (k : Int) := by rw [IntKind.wrap_i64]; omega
    have hk2 : (k : Int) ≤ 10 := by omega
    obtain ⟨z, hz⟩ : ∃ z, (n : Int) - (k : Int) = z := ⟨_, rfl⟩
    rw [hz] at hd2 hd3
    clear ej
    go_enter Try.func78, Try.ntmps78
    go_wp2_with (first
      | (with_reducible refine wpList_box (o := ⟨some 3, _, _, _, _, _⟩) rfl (.tmp 0) 26 rfl m.cells rfl 4 (pm4 m) (by decide) ?_; intro g w1 hg hF hB1)
      | (with_reducible refine wpList_box (o := ⟨some 4, _, _, _, _, _⟩) rfl (.tmp 1) 53 rfl j.cells rfl 4 (jn4 j) (by decide) ?_; intro h w2 hh hH hB2; have hF2 := hF.below hB2; have hBw := Below.then_ hB1 hB2)
      | (with_reducible refine wpList_load (o := ⟨some 12, _, _, _, _, _⟩) rfl (.tmp 3) 26 rfl g 0 _ rfl m.cells 4 (pm4 m) aggCode hF2.sees ?_)
      | (with_reducible refine wpList_load (o := ⟨some 13, _, _, _, _, _⟩) rfl (.tmp 4) 53 rfl h 0 _ rfl j.cells 4 (jn4 j) aggIns hH.sees ?_)
      | (go_at_call 96; refine (HE.out _ hBw).mono ?_; rintro e w3 ⟨A3, c3, A4, c4, rfl, hF3, hF4, hB3⟩; (rw [HK.out] at hF3 ⊢); (rw [HQ.out] at hF4 ⊢); have hB03 := Below.then_ hBw hB3))
    go_ret2
    exact DoneOut.no rfl hB03
end Go.Proofs.Ytangblcfdboghaa
