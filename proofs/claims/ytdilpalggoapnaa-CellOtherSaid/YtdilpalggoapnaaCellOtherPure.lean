/-
  Another hand's words, wherever they lie but in the flash itself; and what the sector that is not the cell's has is told of by nothing: over plain data.
-/
import Derived.Test.YtdilpalggoapnaaCellFall
namespace Go.Proofs.Ytdilpalggoapnaa
open Go.RowKit
set_option linter.unusedVariables false
section
variable {w : World} {base p b : Nat} {S : Fl}
set_option maxHeartbeats 1000000 in
set_option maxRecDepth 100000 in
theorem Rewrite_off (h : NorAt base w p b S) (s a : Int) (ha : -9223372036854775808 ≤ a ∧ a < 9223372036854775808) (m c : Nat) (A : Option Addr) (l : List UInt32) (hs : Off p b w A (cw l)) (hl : l.length = m) (S' : Fl) (r : Nat) (hr : S.rewrite s a l = (S', r)) :
    Calls Try.prog 29 #[.pointer (some ⟨p, 0, none⟩), .int .i64 s, .int .i64 a, .slice A m c] w
      fun e w' => e = .returned (.int .i64 (r : Int)) ∧ NorAt base w' p b S' ∧ But p b w w' := by
  have hpl := hasPlace_any h s a m ha
  unfold Fl.rewrite at hr
  rw [hl] at hr
  obtain ⟨-, c1, c2, -⟩ := h.c
  cases hp : S.place s a m
  · obtain ⟨rfl, rfl⟩ : S = S' ∧ 2 = r := by simpa [hp] using hr
    rw [hp] at hpl
    clear hr hp hl hs ha
    go_enter Try.func29, Try.ntmps29
    go_wp2_with fail
    refine (isFlash_any h).mono ?_
    rintro e w1 ⟨rfl, rfl⟩
    go_wp2_with fail
    refine hpl.mono ?_
    rintro e w2 ⟨rfl, rfl⟩
    go_wp2_with fail
    go_ret
    exact ⟨rfl, h, But.refl _ _ _⟩
  · obtain ⟨σ, α, rfl, rfl, h1, h2⟩ := Fl.place_out hp
    rw [hp] at hpl
    by_cases hg : (σ : Int) < S.guard
    · obtain ⟨rfl, rfl⟩ : S = S' ∧ 41 = r := by simpa [hp, hg] using hr
      clear hr hp hl hs ha
      go_enter Try.func29, Try.ntmps29
      go_wp2_with fail
      refine (isFlash_any h).mono ?_
      rintro e w1 ⟨rfl, rfl⟩
      go_wp2_with fail
      refine hpl.mono ?_
      rintro e w2 ⟨rfl, rfl⟩
      go_wp2_with fail
      go_ret
      exact ⟨rfl, h, But.refl _ _ _⟩
    · obtain ⟨rfl, rfl⟩ : { S with ws := splice S.ws (σ * 64 + α) l } = S' ∧ 0 = r := by simpa [hp, hg] using hr
      have HL := Lib.hid hl
      have HN := h.n_le
      have HLEN := Lib.hid h.len
      obtain ⟨hp1, hb1, hp2, hb2⟩ := h.lt
      clear hr hp hl ha
      go_enter Try.func29, Try.ntmps29
      go_wp2_with fail
      refine (isFlash_any h).mono ?_
      rintro e w1 ⟨rfl, rfl⟩
      go_wp2_with fail
      refine hpl.mono ?_
      rintro e w2 ⟨rfl, rfl⟩
      clear hpl
      go_wp2_with fail
      go_loopw [28] (fun i wr => ∃ k : Nat, k ≤ m ∧ i = .int .i64 k ∧ NorAt base wr p b { S with ws := splice S.ws (σ * 64 + α) (l.take k) } ∧ But p b w2 wr) (fun i _ => m - (intOf i).toNat)
      case atStart => exact ⟨0, by omega, rfl, by simpa [splice] using h, But.refl _ _ _⟩
      case round =>
        obtain ⟨k, hk, rfl, hT, hBw⟩ := hrel
        by_cases hlt : k < m
        · have hs3 := hs wr hBw
          obtain ⟨g, o, rfl, hg, x, HX, hx', hcx⟩ := hs3.word HL.out hlt
          obtain ⟨-, d1, -⟩ := hT.c
          obtain ⟨y, hy, hcy⟩ := hT.word_at (j := σ * 64 + (α + k)) (by show _ < 64 * S.n; omega)
          have hzy := hT.zr (σ * 64 + (α + k))
          have hw1 := wrapI ((α : Int) + (k : Int)) (by omega) (by omega)
          clear hy hs hs3 c1 c2
          go_wp2_with fail
          refine region_qtail 14 (by kernel_rfl) (by kernel_rfl) ?_
          simp only [List.take_succ_cons, List.take_zero, List.drop_succ_cons, List.drop_zero]
          repeat (go_big_quiet_step (fail))
          refine wpQuiet_nil ?_
          rintro _ ⟨nq, rfl⟩
          go_wp2_with fail
          go_roundw
          case rel =>
            have hT2 := (hT.below (below_drewN' (Below.refl _ _) nq)).word (σ * 64 + (α + k)) x
            have hX := HX.out
            have hkl : k < l.length := by rw [HL.out]; exact hlt
            have hxe : l[k] = x := (List.getElem?_eq_some_iff.1 hX).2
            have e1 : (splice S.ws (σ * 64 + α) (l.take k)).set (σ * 64 + (α + k)) x = splice S.ws (σ * 64 + α) (l.take (k + 1)) := by
              rw [← hxe, ← Nat.add_assoc]
              exact splice_step _ _ _ _ hkl (by rw [HL.out, HLEN.out]; omega)
            rw [e1] at hT2
            exact ⟨k + 1, by omega, by go_num, hT2, (hBw.then_ (But.of_below (below_drewN' (Below.refl _ _) nq))).then_ (But.set p b b _ _ (.inr rfl))⟩
          case measure => simp [intOf]; omega
        · obtain rfl : k = m := by omega
          rw [List.take_of_length_le (by rw [HL.out]; exact Nat.le_refl _)] at hT
          clear c1 c2
          go_wp2_with fail
          go_ret
          exact ⟨rfl, hT, hBw⟩
end
/-- What is known stays, if the other sector's turn is one less. -/
theorem clook_less {R T : Fl} {f : Nat} {z : Co} (hz : R.clook f = z) (ht : 0 < z.t) (hs : ∀ τ, τ < 2 → τ ≠ z.other → T.sec f τ = R.sec f τ) (hw : ∃ c, secC (T.sec f z.other) = some (z.t - 1, c)) : T.clook f = z := by
  have hz' : newC (coOf 0 (secC (R.sec f 0))) (coOf 1 (secC (R.sec f 1))) = z := hz
  have hzo : z.Ok := by rw [← hz]; exact clook_ok R f
  obtain ⟨c, hw⟩ := hw
  show newC (coOf 0 (secC (T.sec f 0))) (coOf 1 (secC (T.sec f 1))) = z
  have hsn : ¬ z.s = -1 := fun e => by have := (hzo.no e).1; omega
  by_cases h0 : z.s = 0
  · have ho : z.other = 1 := by simp [Co.other, h0]
    rw [ho] at hs hw
    rw [hs 0 (by omega) (by omega), hw]
    cases hx : secC (R.sec f 0) with
    | none =>
      rw [hx] at hz'
      cases hy : secC (R.sec f 1) <;> rw [hy] at hz' <;> rw [← hz'] at h0 <;> simp [newC, coOf] at h0
    | some x =>
      rw [hx] at hz'
      have e1 : z = ⟨0, x.1, x.2⟩ := by
        rw [← hz']
        cases hy : secC (R.sec f 1) with
        | none => simp [newC, coOf]
        | some y =>
          rw [hy] at hz'
          by_cases e : y.1 = x.1 + 1
          · rw [← hz'] at h0
            simp [newC, coOf, e] at h0
          · simp [newC, coOf, e]
      subst e1
      have hne : ¬ (x.1 - 1 = x.1 + 1) := by omega
      simp [newC, coOf, hne]
  · have ho : z.other = 0 := by
      rcases hzo.s with e | e | e
      · exact absurd e hsn
      · exact absurd e h0
      · simp [Co.other, e]
    rw [ho] at hs hw
    rw [hs 1 (by omega) (by omega), hw]
    cases hy : secC (R.sec f 1) with
    | none =>
      rw [hy] at hz'
      cases hx : secC (R.sec f 0) with
      | none => rw [hx] at hz'; rw [← hz'] at hsn; exact absurd (by simp [newC, coOf]) hsn
      | some x => rw [hx] at hz'; rw [← hz'] at h0; exact absurd (by simp [newC, coOf]) h0
    | some y =>
      rw [hy] at hz'
      have e1 : z = ⟨1, y.1, y.2⟩ := by
        rw [← hz']
        cases hx : secC (R.sec f 0) with
        | none => simp [newC, coOf]
        | some x =>
          rw [hx] at hz'
          by_cases e : y.1 = x.1 + 1
          · simp [newC, coOf, e]
          · rw [← hz'] at h0
            simp [newC, coOf, e] at h0
      subst e1
      have ht' : 0 < y.1 := ht
      have he : y.1 - 1 + 1 = y.1 := by omega
      simp [newC, coOf, he]
/-- Another hand writes the other sector. -/
theorem other_put {S : Fl} {z : Co} (h : Up6 S 1) (hn : S.n = 3) (hg : S.guard = 0) (hz : S.clook 1 = z) (ht : 0 < z.t) (F : List UInt32) (hl : F.length = 64) (hF : secC F = none ∨ ∃ c, secC F = some (z.t - 1, c)) :
    ∃ T, S.rewrite (((1 + z.other : Nat)) : Int) 0 F = (T, 0) ∧ Up6 T 1 ∧ T.clook 1 = z ∧ T.n = 3 ∧ T.guard = 0 := by
  have hzo : z.Ok := by rw [← hz]; exact clook_ok S 1
  have hσ := Co.other_lt hzo
  obtain ⟨T, hT⟩ : ∃ T : Fl, ({ S with ws := splice S.ws ((((1 + z.other : Nat) : Int)).toNat * 64 + (0 : Int).toNat) F } : Fl) = T := ⟨_, rfl⟩
  have hr : S.rewrite (((1 + z.other : Nat)) : Int) 0 F = (T, 0) := by
    unfold Fl.rewrite
    have h1 : S.place (((1 + z.other : Nat)) : Int) 0 F.length = true := by simp [Fl.place, Fl.sector, hn, hl]; omega
    have h2 : decide ((((1 + z.other : Nat)) : Int) < S.guard) = false := by rw [hg]; simp; omega
    rw [h1, h2]
    exact Prod.ext hT rfl
  have hw : T.ws = splice S.ws (64 * 1 + (64 * z.other + 0)) F := by
    rw [← hT]
    simp only [Int.toNat_natCast]
    congr 1
    simp
    omega
  obtain ⟨e2, e3, e4⟩ := h.two.write (T := T) (l := F) (y := 0) hσ (by omega) hw (by rw [← hT])
  have hsec : T.sec 1 z.other = F := by
    rw [e3]
    unfold splice
    rw [List.take_zero, List.nil_append, Nat.zero_add, hl, List.drop_of_length_le (by rw [h.two.sec_len hσ]; exact Nat.le_refl _), List.append_nil]
  refine ⟨T, hr, ⟨e2, by rw [← hT]; exact h.down, by rw [← hT]; exact h.armed, by rw [← hT]; exact h.half⟩, ?_, by rw [← hT]; exact hn, by rw [← hT]; exact hg⟩
  rcases hF with hF | hF
  · exact clook_keep hz e4 (.inl (by rw [hsec]; exact hF))
  · exact clook_less hz ht e4 (by rw [hsec]; exact hF)
theorem secC_not {F : List UInt32} (h : F[63]? ≠ some 0) : secC F = none := by
  match F with
  | [] => rfl
  | [_] => rfl
  | t :: n :: r =>
    have h' : r[61]? ≠ some 0 := by simpa using h
    simp only [secC]
    rw [if_neg (fun e => h' e.1)]
end Go.Proofs.Ytdilpalggoapnaa
