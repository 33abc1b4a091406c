/-
  CellOther returns true for every input, and writes nothing that was there: the walk (under way).
-/
import Derived.Test.YtdilpalggoapnaaCellOtherPure
import Derived.Test.YtdilpalggoapnaaPartsOpen
import Derived.Test.YtdilpalggoapnaaLowCopy
namespace Go.Proofs.Ytdilpalggoapnaa
open Go.RowKit
set_option linter.unusedVariables false
section
variable {w w' w0 : World} {base c d p b f : Nat} {over : Bool} {S S' : Fl} {x z : Co}
theorem Fresh.cell_any {m g n cp j : Nat} {e : TypeId} {xs : List Value} (h : Fresh m e w (some ⟨g, 0, none⟩) n cp xs) (hj : j < n) : ∃ u, w.cell? ⟨g, j, none⟩ = some u := by
  obtain ⟨b, o, e1, _, hc⟩ := h.sees.at_ (k := j) (by rw [h.len]; exact hj)
  obtain ⟨rfl, rfl⟩ : g = b ∧ 0 = o := by simpa using e1
  rw [Nat.zero_add] at hc
  exact ⟨_, hc⟩
theorem Fl.step_guard (S : Fl) : S.step.1.guard = S.guard := by
  obtain ⟨n, ws, g, ar, l, d, hf⟩ := S
  cases ar
  · rfl
  · cases l <;> rfl
theorem Fl.prog_guard : ∀ (l : List UInt32) (S : Fl) (j : Nat), (S.prog j l).1.guard = S.guard
  | [], S, j => rfl
  | x :: l, S, j => by
    have h1 := Fl.step_guard S
    simp only [Fl.prog]
    rcases hs : S.step with ⟨T, _ | _⟩
    · rw [hs] at h1
      exact h1
    · rw [hs] at h1
      exact (Fl.prog_guard l _ _).trans h1
theorem Fl.dwrite_guard (S : Fl) (f m : Nat) (a : Int) (l : List UInt32) : (S.dwrite f m a l).1.guard = S.guard := by
  unfold Fl.dwrite
  cases wordsOk m a (l.length : Int)
  · rfl
  · cases S.down
    · simp only
      cases sets32 (S.at_ f a.toNat l.length) l
      · simp only
        have h := Fl.prog_guard l S (64 * f + a.toNat)
        rcases hp : S.prog (64 * f + a.toNat) l with ⟨T, _ | _⟩ <;> rw [hp] at h <;> exact h
      · rfl
    · rfl
theorem Fl.derase_guard (S : Fl) (f m : Nat) (s : Int) : (S.derase f m s).1.guard = S.guard := by
  unfold Fl.derase Fl.erase
  cases secsOk m s 1
  · rfl
  · simp only
    have h := Fl.step_guard S
    cases S.down <;> cases S.sector ((f : Int) + s) <;> simp only
    rcases hp : S.step with ⟨T, _ | _⟩ <;> rw [hp] at h <;> exact h
theorem Fl.cwrite_guard (S : Fl) (f σ t : Nat) (b : List UInt8) : (S.cwrite f σ t b).1.guard = S.guard := by
  unfold Fl.cwrite
  have h := Fl.derase_guard S f 2 (σ : Int)
  rcases hp : S.derase f 2 (σ : Int) with ⟨T, _ | e⟩ <;> rw [hp] at h <;> simp only
  · have h2 := Fl.dwrite_guard T f 2 (64 * (σ : Int)) (wordsC t b)
    rcases hq : T.dwrite f 2 (64 * (σ : Int)) (wordsC t b) with ⟨U, _ | e⟩ <;> rw [hq] at h2 <;> simp only
    · exact (Fl.dwrite_guard U f 2 _ _).trans (h2.trans h)
    · exact h2.trans h
  · exact h
theorem Fl.cput_guard (S : Fl) (f : Nat) (k : Co) (over : Bool) (b : List UInt8) : (S.cput f k over b).1.guard = S.guard := by
  unfold Fl.cput
  cases over
  · simp only
    split
    · rfl
    · cases S.down
      · simp only
        split
        · rfl
        · have h := Fl.cwrite_guard S f (S.clook f).other ((S.clook f).t + 1) b
          rcases hq : S.cwrite f (S.clook f).other ((S.clook f).t + 1) b with ⟨U, _ | e⟩ <;> rw [hq] at h <;> exact h
      · simp only
        split <;> rfl
  · rfl
theorem ctold_up8 (hd : S.down = false) (hz : S.clook f = z) : S.ctold f x false = z := by unfold Fl.ctold; rw [hd]; exact hz
def lenV : Value → Nat
  | .slice _ n _ => n
  | _ => 0
/-- Behind so many bytes that were put: of which sector the last ones are. -/
def Turned8 (S : Fl) (z : Co) (k : Nat) : Prop := Up6 S 1 ∧ S.clook 1 = z ∧ S.n = 3 ∧ S.guard = 0 ∧ z.t = k ∧ (0 < k → z.s = (((k - 1) % 2 : Nat) : Int)) ∧ (k = 0 → z.s = -1)
theorem turned_put {S : Fl} {z : Co} {k : Nat} (h : Turned8 S z k) (hk : k < 100) (l : List UInt8) (hl : l.length ≤ 244) : ∃ T, S.cput 1 z false l = (T, 0, nextC z l, false) ∧ Turned8 T (nextC z l) (k + 1) := by
  obtain ⟨hU, h1, h2, h3, h4, h5, h6⟩ := h
  obtain ⟨T, r, e1, e2, e3, e4, e5, e6⟩ := cput_gen hU.two hU.down hU.half z z h1 (by omega) l hl
  obtain ⟨rfl, e7⟩ := e6 hU.armed
  obtain ⟨f1, f2, f3, f4⟩ := e4 rfl
  have hs : (nextC z l).s = ((k % 2 : Nat) : Int) := by
    show ((z.other : Nat) : Int) = _
    unfold Co.other
    by_cases hk0 : k = 0
    · rw [h6 hk0, hk0]
      rfl
    · rw [h5 (by omega), if_neg (by omega)]
      omega
  have hg : T.guard = 0 := by
    have h9 := Fl.cput_guard S 1 z false l
    rw [e1] at h9
    exact h9.trans h3
  exact ⟨T, by simpa using e1, ⟨f3, f1, e7, f2⟩, f4, e2.trans h2, hg, by show z.t + 1 = k + 1; omega, fun _ => by rw [hs]; simp, fun h => by omega⟩
set_option maxHeartbeats 16000000 in
set_option maxRecDepth 100000 in
theorem cother_walk (A : Option Addr) (N C : Nat) (ps : List Pb) (A1 : Option Addr) (n1 c1 : Nat) (ws : List UInt32) (A2 : Option Addr) (n2 c2 : Nat) (nx : List UInt8) (el : Bool) (W : World) (hp : Parts W A N ps) (hN : N ≤ 9223372036854775807) (hw : Sees W W.heap.size A1 (cw ws)) (hwl : ws.length = n1) (hn : Sees W W.heap.size A2 (cb nx)) (hnl : nx.length = n2) :
    Calls Try.prog 9 #[.slice A N C, .slice A1 n1 c1, .slice A2 n2 c2, .bool el] W fun e w' => e = .returned (.bool true) ∧ Below W.heap.size W w' := by
  have h0 : Up6 (Fl.made 3 0) 1 := ⟨⟨by decide, by simp [Fl.made]⟩, rfl, rfl, rfl⟩
  have hc0 : (Fl.made 3 0).clook 1 = ⟨-1, 0, []⟩ := by kernel_rfl
  have hT0 : Turned8 (Fl.made 3 0) ⟨-1, 0, []⟩ 0 := ⟨h0, hc0, rfl, rfl, rfl, fun h => absurd h (by omega), fun _ => rfl⟩
  have HT0 := Lib.hid hT0
  have HP := Lib.hid hp
  have HN := Lib.hid hN
  have HW := Lib.hid (And.intro hw hwl)
  have HNX := Lib.hid (And.intro hn hnl)
  have fin : ∀ w2, Below W.heap.size W w2 → W.heap.size ≤ w2.heap.size → Calls Try.prog 49 #[] w2 fun e w' => e = .returned (.bool true) ∧ Below W.heap.size W w' := fun w2 x y => (awake7_any w2).mono fun e w' ⟨h1, h2⟩ => ⟨h1, x.trans (h2.mono y)⟩
  clear h0 hc0 hT0 hp hN hw hwl hn hnl
  go_enter Try.func9, Try.ntmps9
  go_wp2_with fail
  refine (made7_any W).mono ?_
  rintro e w1 ⟨p, b, d, c, rfl, hT1, hB1⟩
  have hz1 := hB1.size
  by_cases h62 : n1 ≤ 62
  · have h62d : decide ((62 : Int) < (n1 : Int)) = false := by simp; omega
    by_cases h244 : n2 ≤ 244
    · have h244d : decide ((244 : Int) < (n2 : Int)) = false := by simp; omega
      go_wp2_with fail
      go_loopw [13, 14] (fun kv iv wr => ∃ (k i : Nat) (S : Fl) (z : Co), k ≤ 5 ∧ i ≤ N ∧ kv = .int .i64 (k : Int) ∧ iv = .int .i64 (i : Int) ∧ CeAt W.heap.size wr c d p b 1 S z false ∧ Hid (Turned8 S z k) ∧ Below W.heap.size W wr ∧ W.heap.size ≤ wr.heap.size) (fun _ i _ => N - (intOf i).toNat)
      case atStart => exact ⟨0, 0, Fl.made 3 0, _, by omega, by omega, rfl, rfl, hT1, HT0, hB1, hz1⟩
      case round =>
        obtain ⟨k, i, S, z, hk, hi, rfl, rfl, hT, HU, hB, hz⟩ := hrel
        obtain ⟨wo, rfl⟩ : ∃ wo, wo = wr := ⟨wr, rfl⟩
        have hN := HN.out
        clear hT1 hB1 hz1 HT0
        by_cases hlt : i < N
        · by_cases hk5 : k < 5
          · have hd5 : decide ((k : Int) < 5) = true := by simp; omega
            obtain ⟨g, o, hA0, q, HX, hq, hcq⟩ := (HP.out.step hB).at_ hlt
            subst hA0
            by_cases hq244 : q.m ≤ 244
            · have hcmp : decide ((244 : Int) < (q.m : Int)) = false := by simp; omega
              obtain ⟨T, e1, e2⟩ := turned_put HU.out (by omega) q.l (by rw [hq.len]; exact hq244)
              have hoff : Off c c wo q.A (cb q.l) := fun w' y => by
                have h9 := (HP.out.ok q (List.mem_of_getElem? HX.out)).sees.keep (w' := w') (fun a ha => (hB.trans (y.below hT.lt.2 hT.lt.2 hz)).cell ha)
                exact h9.more (Nat.le_trans hz y.size)
              have hP := Put_any hT hz q.A q.c q.l hoff 0 false e1
              rw [hq.len] at hP
              go_wp2_with fail
              refine hP.mono ?_
              rintro e w6 ⟨rfl, hT6, hx6⟩
              obtain ⟨hB6, hz6⟩ := hT.base3 hz hB hx6
              go_wp2_with fail
              go_roundw
              case rel => exact ⟨k + 1, i + 1, T, nextC z q.l, by omega, by omega, by go_num, by go_num, hT6, Lib.hid e2, hB6, hz6⟩
              case measure => simp [intOf]; omega
            · have hcmp : decide ((244 : Int) < (q.m : Int)) = true := by simp; omega
              go_wp2_with fail
              go_roundw
              case rel => exact ⟨k, i + 1, S, z, by omega, by omega, rfl, by go_num, hT, HU, hB, hz⟩
              case measure => simp [intOf]; omega
          · have hd5 : decide ((k : Int) < 5) = false := by simp; omega
            have hk0 : ¬ ((k : Int) = 0) := by omega
            have hU8 := HU.out
            obtain ⟨kk, hkk⟩ : ∃ kk, kk = k := ⟨k, rfl⟩
            rw [← hkk] at hU8
            have hk1 : 0 < kk := by omega
            have hk5' : kk ≤ 5 := by omega
            have HU := Lib.hid hU8
            clear hkk hU8
            as_aux_lemma =>
              obtain ⟨hU, hlk, hn3, hg0, hzt, hzs, -⟩ := HU.out
              have hto := ctold_up8 (x := z) hU.down hlk
              go_wp2_with fail
              refine (Get_any hT hz z hto).mono ?_
              rintro e w5 ⟨A5, c5, rfl, hF5, hT5, hC5⟩
              obtain ⟨hB5, hz5⟩ := hT.base1 hz hB hC5
              go_wp2_with fail
              refine (CTurn_any hT5 hz5 z hto).mono ?_
              rintro e w6 ⟨rfl, hT6, hC6⟩
              obtain ⟨hB6, hz6⟩ := hT5.base1 hz5 hB5 hC6
              obtain ⟨_, _, cr5⟩ := hT5.row
              have hF6 := hF5.unlike2 cr5.1 cr5.1 (by decide) (by decide) hC6
              have e1 : IntKind.i64.wrap ((z.t : Int) - 1) = (z.t : Int) - 1 := wrapI _ (by omega) (by omega)
              have hwW := HW.out.1
              have hwl := HW.out.2
              have hw6 := hwW.below hB6
              have hw6s : Sees w6 w6.heap.size A1 (cw ws) := hw6.more hz6
              go_wp2_with fail
              refine (CopyWords_any A1 c1 n1 ws w6 hw6s hwl (by omega)).mono ?_
              rintro e w7 ⟨A7, c7, rfl, hF7, hx7⟩
              have hb7 := below_alloc w7 (.cells (cw [1, 2]).toArray 22 (0, 0))
              have hs7 : Sees (w7.alloc (.cells (cw [1, 2]).toArray 22 (0, 0))) (w7.alloc (.cells (cw [1, 2]).toArray 22 (0, 0))).heap.size (some ⟨w7.heap.size, 0, none⟩) (cw [1, 2]) := (Fresh.new w7 22 (cw [1, 2]) 2 rfl (by decide)).sees
              go_wp2_with (at_builtin; refine wpList_app32 rfl (.tmp 92) (.tmp 93) rfl A7 (some ⟨w7.heap.size, 0, none⟩) n1 c7 2 2 ws [1, 2] w6 rfl rfl (hF7.below hb7) hs7 rfl (by omega) (Below.then_ hx7 hb7) ?_; intro A8 c8 w8 hF8 hx8)
              go_loopw [19] (fun v wr => ∃ (j m : Nat) (A9 : Option Addr) (c9 : Nat), Hid (m = n1 + 2 + j) ∧ m ≤ 64 ∧ v = .slice A9 m c9 ∧ Fresh w6.heap.size 22 wr A9 m c9 (cw (ws ++ [1, 2] ++ List.replicate j 1)) ∧ Below w6.heap.size w6 wr) (fun v _ => 64 - lenV v)
              case atStart => exact ⟨0, n1 + 2, A8, c8, Lib.hid rfl, by omega, rfl, by simpa using hF8, hx8⟩
              case round =>
                obtain ⟨j, m, A9, c9, hm, hm64, rfl, hF9, hx9⟩ := hrel
                clear hF8 hx8
                by_cases hlt64 : m < 64
                · have hb9 := below_alloc wr (.cells (cw [1]).toArray 22 (0, 0))
                  have hs9 : Sees (wr.alloc (.cells (cw [1]).toArray 22 (0, 0))) (wr.alloc (.cells (cw [1]).toArray 22 (0, 0))).heap.size (some ⟨wr.heap.size, 0, none⟩) (cw [1]) := (Fresh.new wr 22 (cw [1]) 1 rfl (by decide)).sees
                  go_wp2_with (at_builtin; refine wpList_app32 rfl (.tmp 98) (.tmp 99) rfl A9 (some ⟨wr.heap.size, 0, none⟩) m c9 1 1 (ws ++ [1, 2] ++ List.replicate j 1) [1] w6 rfl rfl (hF9.below hb9) hs9 rfl (by omega) (Below.then_ hx9 hb9) ?_; intro A10 c10 w10 hF10 hx10)
                  go_roundw
                  case rel => exact ⟨j + 1, m + 1, A10, c10, Lib.hid (by have := hm.out; omega), by omega, rfl, by rw [List.replicate_succ', ← List.append_assoc]; exact hF10, hx10⟩
                  case measure => simp [lenV]; omega
                · obtain rfl : m = 64 := by omega
                  have hm := hm.out
                  obtain ⟨F, hFe⟩ : ∃ F, ws ++ [1, 2] ++ List.replicate j 1 = F := ⟨_, rfl⟩
                  rw [hFe] at hF9
                  have hFl : F.length = 64 := by rw [← hFe]; simp; omega
                  have hF63 : F[63]? ≠ some 0 := by
                    rw [← hFe]
                    by_cases h9 : j = 0
                    · subst h9
                      rw [List.replicate_zero, List.append_nil, List.getElem?_append_right (by omega), show 63 - ws.length = 1 from by omega]
                      decide
                    · rw [List.getElem?_append_right (by simp; omega), List.getElem?_replicate]
                      split <;> decide
                  obtain ⟨g9, rfl, hg9, hg9l⟩ := hF9.spot_ (by omega)
                  have HFL := Lib.hid (And.intro hFl hF63)
                  clear hFl hF63 hFe hm
                  have hoth : (2 : Int) - ((kk : Int) - 1) % 2 = ((1 + z.other : Nat) : Int) := by
                    have h9 := hzs hk1
                    have ho := (Co.other_of hT6.ok (by omega)).1
                    omega
                  obtain ⟨lp6, lb6, -, -⟩ := hT6.dr.nor.lt
                  have hsb : (z.s != -1) = true := by
                    rw [hzs hk1]
                    simp
                    omega
                  have HZS := Lib.hid hzs
                  clear hzs
                  cases el with
                  | false =>
                    obtain ⟨T, r1, r2, r3, r4, r5⟩ := other_put hU hn3 hg0 hlk (by omega) F HFL.out.1 (.inl (secC_not HFL.out.2))
                    have hoff : Off p b wr (some ⟨g9, 0, none⟩) (cw F) := Off.lit hF9.sees hg9l (by omega) (by omega)
                    have hT9 := hT6.below hx9
                    obtain ⟨hB9, hz9⟩ := hT6.base0 hz6 hB6 hx9
                    have hF69 := hF6.below hx9
                    clear hx9 hT6 hF6
                    have hR := Rewrite_off hT9.dr.nor (((1 + z.other : Nat)) : Int) 0 (by omega) 64 c9 _ F hoff HFL.out.1 T 0 r1
                    rw [show (((1 + z.other : Nat)) : Int) = 1 + (z.other : Int) from by omega] at hR
                    go_wp2_with fail
                    refine hR.mono ?_
                    rintro e w10 ⟨rfl, hN10, hx10⟩
                    have hT10 := hT9.turn hx10 (hT9.dr.turn hx10 hN10 (r4.trans hn3.symm))
                    obtain ⟨hB10, hz10⟩ := hT9.base3 hz9 hB9 (But3.of_but hx10 c)
                    have hF10 := hF69.unlike2 hT9.dr.nor.obj hT9.dr.nor.row (by decide) (by decide) hx10
                    have hto2 := ctold_up8 (x := z) r2.down r3
                    clear hR hoff hT9 hF9 hF69 hx10 hN10 hB9 hz9
                    go_wp2_with fail
                    refine (COpen_yes hT10.dr r2.down hz10 z r3).mono ?_
                    rintro e w11 ⟨u, rfl, hu11, hx11, hut⟩
                    obtain ⟨hB11, hz11⟩ := hT10.base0 hz10 hB10 hx11
                    have hF11 := hF10.below hx11
                    clear hT10 hx11 hB10 hz10 hF10
                    go_wp2_with fail
                    refine (Get_any hu11 hz11 z hto2).mono ?_
                    rintro e w12 ⟨A12, c12, rfl, hG12, hu12, hC12⟩
                    obtain ⟨_, _, ur11⟩ := hu11.row
                    have hF12 := hF11.unlike2 ur11.1 ur11.1 (by decide) (by decide) hC12
                    obtain ⟨hB12, hz12⟩ := hu11.base1 hz11 hB11 hC12
                    go_wp2_with fail
                    refine (CTurn_any hu12 hz12 z hto2).mono ?_
                    rintro e w13 ⟨rfl, hu13, hC13⟩
                    obtain ⟨_, _, ur12⟩ := hu12.row
                    have hF13 := hF12.unlike2 ur12.1 ur12.1 (by decide) (by decide) hC13
                    have hG13 := hG12.unlike2 ur12.1 ur12.1 (by decide) (by decide) hC13
                    obtain ⟨hB13, hz13⟩ := hu12.base1 hz12 hB12 hC13
                    clear hu11 hu12 hF11 hF12 hG12 hB11 hB12 hz11 hz12 hC12 hC13 ur11 ur12
                    have q5 : (z.b == z.b) = true := by simp
                    go_wp2_with fail
                    refine (SameBytes_any A12 A5 c12 c5 z.b.length z.b.length z.b z.b w13 hG13.sees hF13.sees rfl rfl).mono ?_
                    rintro e w14 ⟨rfl, rfl⟩
                    obtain ⟨T2, e1, e2⟩ := turned_put (show Turned8 T z kk from ⟨r2, r3, r4, r5, hzt, HZS.out, fun h => by omega⟩) (by omega) nx (by rw [HNX.out.2]; exact h244)
                    have hoff2 : Off u u w13 A2 (cb nx) := fun w' y => by
                      have h9 := HNX.out.1.keep (w' := w') (fun a ha => (hB13.trans (y.below hu13.lt.2 hu13.lt.2 hz13)).cell ha)
                      exact h9.more (Nat.le_trans hz13 y.size)
                    have hP := Put_any hu13 hz13 A2 c2 nx hoff2 0 false e1
                    rw [HNX.out.2] at hP
                    obtain ⟨g1, g2, -, -, g5, -, -⟩ := e2
                    have hto3 := ctold_up8 (x := nextC z nx) g1.down g2
                    clear e1 hoff2
                    go_wp2_with fail
                    refine hP.mono ?_
                    rintro e w15 ⟨rfl, hu15, hx15⟩
                    obtain ⟨hB15, hz15⟩ := hu13.base3 hz13 hB13 hx15
                    clear hP hu13 hB13 hz13 hx15 hF13 hG13
                    go_wp2_with fail
                    refine (COpen_yes hu15.dr g1.down hz15 (nextC z nx) g2).mono ?_
                    rintro e w16 ⟨v, rfl, hv16, hx16, hvt⟩
                    obtain ⟨hB16, hz16⟩ := hu15.base0 hz15 hB15 hx16
                    have hG := Get_any hv16 hz16 (nextC z nx) hto3
                    rw [show (nextC z nx).b = nx from rfl, HNX.out.2] at hG
                    have hsn : ((nextC z nx).s != -1) = true := by
                      have h9 : (nextC z nx).s = (z.other : Int) := rfl
                      rw [h9]
                      simp
                    clear hu15 hx16 hB15 hz15
                    go_wp2_with fail
                    refine hG.mono ?_
                    rintro e w17 ⟨A17, c17, rfl, hG17, hv17, hC17⟩
                    obtain ⟨hB17, hz17⟩ := hv16.base1 hz16 hB16 hC17
                    have ew2 : IntKind.i64.wrap ((kk : Int) + 1) = (kk : Int) + 1 := wrapI _ (by omega) (by omega)
                    have hq6 : (((nextC z nx).t : Nat) : Int) = (kk : Int) + 1 := by rw [g5]; omega
                    go_wp2_with fail
                    refine (CTurn_any hv17 hz17 (nextC z nx) hto3).mono ?_
                    rintro e w18 ⟨rfl, hv18, hC18⟩
                    obtain ⟨_, _, vr17⟩ := hv17.row
                    have hG18 := hG17.unlike2 vr17.1 vr17.1 (by decide) (by decide) hC18
                    obtain ⟨hB18, hz18⟩ := hv17.base1 hz17 hB17 hC18
                    have hnx18 : Sees w18 w18.heap.size A2 (cb nx) := (HNX.out.1.keep (fun a ha => hB18.cell ha)).more hz18
                    have q7 : (nx == nx) = true := by simp
                    clear hv16 hG hC17 hB16 hz16 hB17 hz17 hv17 hG17 vr17
                    rw [hq6]
                    go_wp2_with fail
                    refine (SameBytes_any A17 A2 c17 c2 n2 n2 nx nx w18 hG18.sees hnx18 HNX.out.2 HNX.out.2).mono ?_
                    rintro e w19 ⟨rfl, rfl⟩
                    go_wp2_with fail
                    refine (fin w18 hB18 hz18).mono ?_
                    rintro e w20 ⟨rfl, hB20⟩
                    go_wp2_with fail
                    go_ret
                    exact ⟨rfl, hB20⟩
                  | true =>
                    obtain ⟨t0, ht0⟩ : ∃ t0 : UInt32, UInt32.ofNat (z.t - 1) = t0 := ⟨_, rfl⟩
                    have ht0n : t0.toNat = z.t - 1 := by rw [← ht0]; exact ofNat_toNat32 _ (by omega)
                    obtain ⟨F2, hF2⟩ : ∃ F2, ((F.set 0 t0).set 1 3).set 63 0 = F2 := ⟨_, rfl⟩
                    have hF2l : F2.length = 64 := by rw [← hF2]; simp [HFL.out.1]
                    have hF2w : ∃ c, secC F2 = some (z.t - 1, c) := by
                      have hfl := HFL.out.1
                      rw [← hF2]
                      match F, hfl with
                      | f0 :: f1 :: fr, hfl =>
                        have hrl : fr.length = 62 := by simpa using hfl
                        simp only [List.set_cons_zero, List.set_cons_succ]
                        simp only [secC]
                        rw [if_pos ⟨by rw [List.getElem?_set_self (by omega)], by rw [ht0n]; omega, by decide⟩, ht0n]
                        exact ⟨_, rfl⟩
                    obtain ⟨T, r1, r2, r3, r4, r5⟩ := other_put hU hn3 hg0 hlk (by omega) F2 hF2l (.inr hF2w)
                    have HF2 := Lib.hid hF2l
                    obtain ⟨u0, hu0⟩ := hF9.cell_any (j := 0) (by omega)
                    obtain ⟨u1, hu1⟩ := hF9.cell_any (j := 1) (by omega)
                    obtain ⟨u63, hu63⟩ := hF9.cell_any (j := 63) (by omega)
                    have hz0 : wr.frozen? ⟨g9, 0, none⟩ = false := World.ownsRow.frozenAt hF9 0
                    have hz1' : wr.frozen? ⟨g9, 1, none⟩ = false := World.ownsRow.frozenAt hF9 1
                    have hz63 : wr.frozen? ⟨g9, 63, none⟩ = false := World.ownsRow.frozenAt hF9 63
                    have ew3 : IntKind.u32.wrap ((kk : Int) - 1) = (kk : Int) - 1 := by rw [IntKind.wrap_u32]; omega
                    have ew4 : IntKind.i64.wrap ((kk : Int) - 1) = (kk : Int) - 1 := wrapI _ (by omega) (by omega)
                    have hS1 := (World.ownsRow.stored hF9 0 (.int .u32 ((kk : Int) - 1))).1
                    have hS2 := (World.ownsRow.stored hS1 1 (.int .u32 3)).1
                    have hS3 := (World.ownsRow.stored hS2 63 (.int .u32 0)).1
                    have hx9b := ((hx9.setCell (p := ⟨g9, 0, none⟩) hg9 (.int .u32 ((kk : Int) - 1))).setCell (p := ⟨g9, 1, none⟩) hg9 (.int .u32 3)).setCell (p := ⟨g9, 63, none⟩) hg9 (.int .u32 0)
                    have hcwF : (((cw F).set 0 (.int .u32 ((kk : Int) - 1))).set 1 (.int .u32 3)).set 63 (.int .u32 0) = cw F2 := by
                      rw [← hF2]
                      have : (t0.toNat : Int) = (kk : Int) - 1 := by rw [ht0n]; omega
                      simp [cw, List.map_set, this]
                    rw [hcwF] at hS3
                    have hS3' : Fresh w6.heap.size 22 _ (some ⟨g9, 0, none⟩) 64 c9 (cw F2) := hS3
                    go_wp2_with fail
                    revert hS3 hx9b
                    clear hS3' hS1 hS2
                    generalize ((wr.setCell ⟨g9, 0, none⟩ (.int .u32 ((kk : Int) - 1))).setCell ⟨g9, 1, none⟩ (.int .u32 3)).setCell ⟨g9, 63, none⟩ (.int .u32 0) = wq
                    intro hS3 hx9b
                    have hS4 : Fresh w6.heap.size 22 wq (some ⟨g9, 0, none⟩) 64 c9 (cw F2) := hS3
                    have hoff : Off p b wq (some ⟨g9, 0, none⟩) (cw F2) := Off.lit hS4.sees (hS4.at_lt rfl).2 (by omega) (by omega)
                    have hT9 := hT6.below hx9b
                    obtain ⟨hB9, hz9⟩ := hT6.base0 hz6 hB6 hx9b
                    have hF69 := hF6.below hx9b
                    clear hx9b hx9 hT6 hF6 hS3 hS4
                    have hR := Rewrite_off hT9.dr.nor (((1 + z.other : Nat)) : Int) 0 (by omega) 64 c9 _ F2 hoff HF2.out T 0 r1
                    rw [show (((1 + z.other : Nat)) : Int) = 1 + (z.other : Int) from by omega] at hR
                    refine hR.mono ?_
                    rintro e w10 ⟨rfl, hN10, hx10⟩
                    have hT10 := hT9.turn hx10 (hT9.dr.turn hx10 hN10 (r4.trans hn3.symm))
                    obtain ⟨hB10, hz10⟩ := hT9.base3 hz9 hB9 (But3.of_but hx10 c)
                    have hF10 := hF69.unlike2 hT9.dr.nor.obj hT9.dr.nor.row (by decide) (by decide) hx10
                    have hto2 := ctold_up8 (x := z) r2.down r3
                    clear hR hoff hT9 hF69 hx10 hN10 hB9 hz9
                    go_wp2_with fail
                    refine (COpen_yes hT10.dr r2.down hz10 z r3).mono ?_
                    rintro e w11 ⟨u, rfl, hu11, hx11, hut⟩
                    obtain ⟨hB11, hz11⟩ := hT10.base0 hz10 hB10 hx11
                    have hF11 := hF10.below hx11
                    clear hT10 hx11 hB10 hz10 hF10
                    go_wp2_with fail
                    refine (Get_any hu11 hz11 z hto2).mono ?_
                    rintro e w12 ⟨A12, c12, rfl, hG12, hu12, hC12⟩
                    obtain ⟨_, _, ur11⟩ := hu11.row
                    have hF12 := hF11.unlike2 ur11.1 ur11.1 (by decide) (by decide) hC12
                    obtain ⟨hB12, hz12⟩ := hu11.base1 hz11 hB11 hC12
                    go_wp2_with fail
                    refine (CTurn_any hu12 hz12 z hto2).mono ?_
                    rintro e w13 ⟨rfl, hu13, hC13⟩
                    obtain ⟨_, _, ur12⟩ := hu12.row
                    have hF13 := hF12.unlike2 ur12.1 ur12.1 (by decide) (by decide) hC13
                    have hG13 := hG12.unlike2 ur12.1 ur12.1 (by decide) (by decide) hC13
                    obtain ⟨hB13, hz13⟩ := hu12.base1 hz12 hB12 hC13
                    clear hu11 hu12 hF11 hF12 hG12 hB11 hB12 hz11 hz12 hC12 hC13 ur11 ur12
                    have q5 : (z.b == z.b) = true := by simp
                    go_wp2_with fail
                    refine (SameBytes_any A12 A5 c12 c5 z.b.length z.b.length z.b z.b w13 hG13.sees hF13.sees rfl rfl).mono ?_
                    rintro e w14 ⟨rfl, rfl⟩
                    obtain ⟨T2, e1, e2⟩ := turned_put (show Turned8 T z kk from ⟨r2, r3, r4, r5, hzt, HZS.out, fun h => by omega⟩) (by omega) nx (by rw [HNX.out.2]; exact h244)
                    have hoff2 : Off u u w13 A2 (cb nx) := fun w' y => by
                      have h9 := HNX.out.1.keep (w' := w') (fun a ha => (hB13.trans (y.below hu13.lt.2 hu13.lt.2 hz13)).cell ha)
                      exact h9.more (Nat.le_trans hz13 y.size)
                    have hP := Put_any hu13 hz13 A2 c2 nx hoff2 0 false e1
                    rw [HNX.out.2] at hP
                    obtain ⟨g1, g2, -, -, g5, -, -⟩ := e2
                    have hto3 := ctold_up8 (x := nextC z nx) g1.down g2
                    clear e1 hoff2
                    go_wp2_with fail
                    refine hP.mono ?_
                    rintro e w15 ⟨rfl, hu15, hx15⟩
                    obtain ⟨hB15, hz15⟩ := hu13.base3 hz13 hB13 hx15
                    clear hP hu13 hB13 hz13 hx15 hF13 hG13
                    go_wp2_with fail
                    refine (COpen_yes hu15.dr g1.down hz15 (nextC z nx) g2).mono ?_
                    rintro e w16 ⟨v, rfl, hv16, hx16, hvt⟩
                    obtain ⟨hB16, hz16⟩ := hu15.base0 hz15 hB15 hx16
                    have hG := Get_any hv16 hz16 (nextC z nx) hto3
                    rw [show (nextC z nx).b = nx from rfl, HNX.out.2] at hG
                    have hsn : ((nextC z nx).s != -1) = true := by
                      have h9 : (nextC z nx).s = (z.other : Int) := rfl
                      rw [h9]
                      simp
                    clear hu15 hx16 hB15 hz15
                    go_wp2_with fail
                    refine hG.mono ?_
                    rintro e w17 ⟨A17, c17, rfl, hG17, hv17, hC17⟩
                    obtain ⟨hB17, hz17⟩ := hv16.base1 hz16 hB16 hC17
                    have ew2 : IntKind.i64.wrap ((kk : Int) + 1) = (kk : Int) + 1 := wrapI _ (by omega) (by omega)
                    have hq6 : (((nextC z nx).t : Nat) : Int) = (kk : Int) + 1 := by rw [g5]; omega
                    go_wp2_with fail
                    refine (CTurn_any hv17 hz17 (nextC z nx) hto3).mono ?_
                    rintro e w18 ⟨rfl, hv18, hC18⟩
                    obtain ⟨_, _, vr17⟩ := hv17.row
                    have hG18 := hG17.unlike2 vr17.1 vr17.1 (by decide) (by decide) hC18
                    obtain ⟨hB18, hz18⟩ := hv17.base1 hz17 hB17 hC18
                    have hnx18 : Sees w18 w18.heap.size A2 (cb nx) := (HNX.out.1.keep (fun a ha => hB18.cell ha)).more hz18
                    have q7 : (nx == nx) = true := by simp
                    clear hv16 hG hC17 hB16 hz16 hB17 hz17 hv17 hG17 vr17
                    rw [hq6]
                    go_wp2_with fail
                    refine (SameBytes_any A17 A2 c17 c2 n2 n2 nx nx w18 hG18.sees hnx18 HNX.out.2 HNX.out.2).mono ?_
                    rintro e w19 ⟨rfl, rfl⟩
                    go_wp2_with fail
                    refine (fin w18 hB18 hz18).mono ?_
                    rintro e w20 ⟨rfl, hB20⟩
                    go_wp2_with fail
                    go_ret
                    exact ⟨rfl, hB20⟩
        · by_cases hk0 : (k : Int) = 0
          · obtain rfl : k = 0 := by omega
            obtain ⟨T1, e1, e2⟩ := turned_put HU.out (by omega) [] (by simp)
            have hP := Put_any hT hz none 0 [] (fun _ _ => Sees.nil) 0 false e1
            go_wp2_with fail
            refine hP.mono ?_
            rintro e w4 ⟨rfl, hT4, hx4⟩
            obtain ⟨hB4, hz4⟩ := hT.base3 hz hB hx4
            obtain ⟨z8, hz8⟩ : ∃ z8, nextC z [] = z8 := ⟨_, rfl⟩
            rw [hz8] at e2 hT4
            obtain ⟨kk, hkk⟩ : ∃ kk, kk = 0 + 1 := ⟨_, rfl⟩
            rw [← hkk] at e2
            have hk1 : 0 < kk := by omega
            have hk5' : kk ≤ 5 := by omega
            clear hP hT hB hz hx4 HU e1 hz8 hkk
            have hT := hT4
            have hB := hB4
            have hz := hz4
            have HU := Lib.hid e2
            clear hT4 hB4 hz4 e2
            as_aux_lemma =>
              obtain ⟨hU, hlk, hn3, hg0, hzt, hzs, -⟩ := HU.out
              have hto := ctold_up8 (x := z8) hU.down hlk
              go_wp2_with fail
              refine (Get_any hT hz z8 hto).mono ?_
              rintro e w5 ⟨A5, c5, rfl, hF5, hT5, hC5⟩
              obtain ⟨hB5, hz5⟩ := hT.base1 hz hB hC5
              go_wp2_with fail
              refine (CTurn_any hT5 hz5 z8 hto).mono ?_
              rintro e w6 ⟨rfl, hT6, hC6⟩
              obtain ⟨hB6, hz6⟩ := hT5.base1 hz5 hB5 hC6
              obtain ⟨_, _, cr5⟩ := hT5.row
              have hF6 := hF5.unlike2 cr5.1 cr5.1 (by decide) (by decide) hC6
              have e1 : IntKind.i64.wrap ((z8.t : Int) - 1) = (z8.t : Int) - 1 := wrapI _ (by omega) (by omega)
              have hwW := HW.out.1
              have hwl := HW.out.2
              have hw6 := hwW.below hB6
              have hw6s : Sees w6 w6.heap.size A1 (cw ws) := hw6.more hz6
              go_wp2_with fail
              refine (CopyWords_any A1 c1 n1 ws w6 hw6s hwl (by omega)).mono ?_
              rintro e w7 ⟨A7, c7, rfl, hF7, hx7⟩
              have hb7 := below_alloc w7 (.cells (cw [1, 2]).toArray 22 (0, 0))
              have hs7 : Sees (w7.alloc (.cells (cw [1, 2]).toArray 22 (0, 0))) (w7.alloc (.cells (cw [1, 2]).toArray 22 (0, 0))).heap.size (some ⟨w7.heap.size, 0, none⟩) (cw [1, 2]) := (Fresh.new w7 22 (cw [1, 2]) 2 rfl (by decide)).sees
              go_wp2_with (at_builtin; refine wpList_app32 rfl (.tmp 92) (.tmp 93) rfl A7 (some ⟨w7.heap.size, 0, none⟩) n1 c7 2 2 ws [1, 2] w6 rfl rfl (hF7.below hb7) hs7 rfl (by omega) (Below.then_ hx7 hb7) ?_; intro A8 c8 w8 hF8 hx8)
              go_loopw [19] (fun v wr => ∃ (j m : Nat) (A9 : Option Addr) (c9 : Nat), Hid (m = n1 + 2 + j) ∧ m ≤ 64 ∧ v = .slice A9 m c9 ∧ Fresh w6.heap.size 22 wr A9 m c9 (cw (ws ++ [1, 2] ++ List.replicate j 1)) ∧ Below w6.heap.size w6 wr) (fun v _ => 64 - lenV v)
              case atStart => exact ⟨0, n1 + 2, A8, c8, Lib.hid rfl, by omega, rfl, by simpa using hF8, hx8⟩
              case round =>
                obtain ⟨j, m, A9, c9, hm, hm64, rfl, hF9, hx9⟩ := hrel
                clear hF8 hx8
                by_cases hlt64 : m < 64
                · have hb9 := below_alloc wr (.cells (cw [1]).toArray 22 (0, 0))
                  have hs9 : Sees (wr.alloc (.cells (cw [1]).toArray 22 (0, 0))) (wr.alloc (.cells (cw [1]).toArray 22 (0, 0))).heap.size (some ⟨wr.heap.size, 0, none⟩) (cw [1]) := (Fresh.new wr 22 (cw [1]) 1 rfl (by decide)).sees
                  go_wp2_with (at_builtin; refine wpList_app32 rfl (.tmp 98) (.tmp 99) rfl A9 (some ⟨wr.heap.size, 0, none⟩) m c9 1 1 (ws ++ [1, 2] ++ List.replicate j 1) [1] w6 rfl rfl (hF9.below hb9) hs9 rfl (by omega) (Below.then_ hx9 hb9) ?_; intro A10 c10 w10 hF10 hx10)
                  go_roundw
                  case rel => exact ⟨j + 1, m + 1, A10, c10, Lib.hid (by have := hm.out; omega), by omega, rfl, by rw [List.replicate_succ', ← List.append_assoc]; exact hF10, hx10⟩
                  case measure => simp [lenV]; omega
                · obtain rfl : m = 64 := by omega
                  have hm := hm.out
                  obtain ⟨F, hFe⟩ : ∃ F, ws ++ [1, 2] ++ List.replicate j 1 = F := ⟨_, rfl⟩
                  rw [hFe] at hF9
                  have hFl : F.length = 64 := by rw [← hFe]; simp; omega
                  have hF63 : F[63]? ≠ some 0 := by
                    rw [← hFe]
                    by_cases h9 : j = 0
                    · subst h9
                      rw [List.replicate_zero, List.append_nil, List.getElem?_append_right (by omega), show 63 - ws.length = 1 from by omega]
                      decide
                    · rw [List.getElem?_append_right (by simp; omega), List.getElem?_replicate]
                      split <;> decide
                  obtain ⟨g9, rfl, hg9, hg9l⟩ := hF9.spot_ (by omega)
                  have HFL := Lib.hid (And.intro hFl hF63)
                  clear hFl hF63 hFe hm
                  have hoth : (2 : Int) - ((kk : Int) - 1) % 2 = ((1 + z8.other : Nat) : Int) := by
                    have h9 := hzs hk1
                    have ho := (Co.other_of hT6.ok (by omega)).1
                    omega
                  obtain ⟨lp6, lb6, -, -⟩ := hT6.dr.nor.lt
                  have hsb : (z8.s != -1) = true := by
                    rw [hzs hk1]
                    simp
                    omega
                  have HZS := Lib.hid hzs
                  clear hzs
                  cases el with
                  | false =>
                    obtain ⟨T, r1, r2, r3, r4, r5⟩ := other_put hU hn3 hg0 hlk (by omega) F HFL.out.1 (.inl (secC_not HFL.out.2))
                    have hoff : Off p b wr (some ⟨g9, 0, none⟩) (cw F) := Off.lit hF9.sees hg9l (by omega) (by omega)
                    have hT9 := hT6.below hx9
                    obtain ⟨hB9, hz9⟩ := hT6.base0 hz6 hB6 hx9
                    have hF69 := hF6.below hx9
                    clear hx9 hT6 hF6
                    have hR := Rewrite_off hT9.dr.nor (((1 + z8.other : Nat)) : Int) 0 (by omega) 64 c9 _ F hoff HFL.out.1 T 0 r1
                    rw [show (((1 + z8.other : Nat)) : Int) = 1 + (z8.other : Int) from by omega] at hR
                    go_wp2_with fail
                    refine hR.mono ?_
                    rintro e w10 ⟨rfl, hN10, hx10⟩
                    have hT10 := hT9.turn hx10 (hT9.dr.turn hx10 hN10 (r4.trans hn3.symm))
                    obtain ⟨hB10, hz10⟩ := hT9.base3 hz9 hB9 (But3.of_but hx10 c)
                    have hF10 := hF69.unlike2 hT9.dr.nor.obj hT9.dr.nor.row (by decide) (by decide) hx10
                    have hto2 := ctold_up8 (x := z8) r2.down r3
                    clear hR hoff hT9 hF9 hF69 hx10 hN10 hB9 hz9
                    go_wp2_with fail
                    refine (COpen_yes hT10.dr r2.down hz10 z8 r3).mono ?_
                    rintro e w11 ⟨u, rfl, hu11, hx11, hut⟩
                    obtain ⟨hB11, hz11⟩ := hT10.base0 hz10 hB10 hx11
                    have hF11 := hF10.below hx11
                    clear hT10 hx11 hB10 hz10 hF10
                    go_wp2_with fail
                    refine (Get_any hu11 hz11 z8 hto2).mono ?_
                    rintro e w12 ⟨A12, c12, rfl, hG12, hu12, hC12⟩
                    obtain ⟨_, _, ur11⟩ := hu11.row
                    have hF12 := hF11.unlike2 ur11.1 ur11.1 (by decide) (by decide) hC12
                    obtain ⟨hB12, hz12⟩ := hu11.base1 hz11 hB11 hC12
                    go_wp2_with fail
                    refine (CTurn_any hu12 hz12 z8 hto2).mono ?_
                    rintro e w13 ⟨rfl, hu13, hC13⟩
                    obtain ⟨_, _, ur12⟩ := hu12.row
                    have hF13 := hF12.unlike2 ur12.1 ur12.1 (by decide) (by decide) hC13
                    have hG13 := hG12.unlike2 ur12.1 ur12.1 (by decide) (by decide) hC13
                    obtain ⟨hB13, hz13⟩ := hu12.base1 hz12 hB12 hC13
                    clear hu11 hu12 hF11 hF12 hG12 hB11 hB12 hz11 hz12 hC12 hC13 ur11 ur12
                    have q5 : (z8.b == z8.b) = true := by simp
                    go_wp2_with fail
                    refine (SameBytes_any A12 A5 c12 c5 z8.b.length z8.b.length z8.b z8.b w13 hG13.sees hF13.sees rfl rfl).mono ?_
                    rintro e w14 ⟨rfl, rfl⟩
                    obtain ⟨T2, e1, e2⟩ := turned_put (show Turned8 T z8 kk from ⟨r2, r3, r4, r5, hzt, HZS.out, fun h => by omega⟩) (by omega) nx (by rw [HNX.out.2]; exact h244)
                    have hoff2 : Off u u w13 A2 (cb nx) := fun w' y => by
                      have h9 := HNX.out.1.keep (w' := w') (fun a ha => (hB13.trans (y.below hu13.lt.2 hu13.lt.2 hz13)).cell ha)
                      exact h9.more (Nat.le_trans hz13 y.size)
                    have hP := Put_any hu13 hz13 A2 c2 nx hoff2 0 false e1
                    rw [HNX.out.2] at hP
                    obtain ⟨g1, g2, -, -, g5, -, -⟩ := e2
                    have hto3 := ctold_up8 (x := nextC z8 nx) g1.down g2
                    clear e1 hoff2
                    go_wp2_with fail
                    refine hP.mono ?_
                    rintro e w15 ⟨rfl, hu15, hx15⟩
                    obtain ⟨hB15, hz15⟩ := hu13.base3 hz13 hB13 hx15
                    clear hP hu13 hB13 hz13 hx15 hF13 hG13
                    go_wp2_with fail
                    refine (COpen_yes hu15.dr g1.down hz15 (nextC z8 nx) g2).mono ?_
                    rintro e w16 ⟨v, rfl, hv16, hx16, hvt⟩
                    obtain ⟨hB16, hz16⟩ := hu15.base0 hz15 hB15 hx16
                    have hG := Get_any hv16 hz16 (nextC z8 nx) hto3
                    rw [show (nextC z8 nx).b = nx from rfl, HNX.out.2] at hG
                    have hsn : ((nextC z8 nx).s != -1) = true := by
                      have h9 : (nextC z8 nx).s = (z8.other : Int) := rfl
                      rw [h9]
                      simp
                    clear hu15 hx16 hB15 hz15
                    go_wp2_with fail
                    refine hG.mono ?_
                    rintro e w17 ⟨A17, c17, rfl, hG17, hv17, hC17⟩
                    obtain ⟨hB17, hz17⟩ := hv16.base1 hz16 hB16 hC17
                    have ew2 : IntKind.i64.wrap ((kk : Int) + 1) = (kk : Int) + 1 := wrapI _ (by omega) (by omega)
                    have hq6 : (((nextC z8 nx).t : Nat) : Int) = (kk : Int) + 1 := by rw [g5]; omega
                    go_wp2_with fail
                    refine (CTurn_any hv17 hz17 (nextC z8 nx) hto3).mono ?_
                    rintro e w18 ⟨rfl, hv18, hC18⟩
                    obtain ⟨_, _, vr17⟩ := hv17.row
                    have hG18 := hG17.unlike2 vr17.1 vr17.1 (by decide) (by decide) hC18
                    obtain ⟨hB18, hz18⟩ := hv17.base1 hz17 hB17 hC18
                    have hnx18 : Sees w18 w18.heap.size A2 (cb nx) := (HNX.out.1.keep (fun a ha => hB18.cell ha)).more hz18
                    have q7 : (nx == nx) = true := by simp
                    clear hv16 hG hC17 hB16 hz16 hB17 hz17 hv17 hG17 vr17
                    rw [hq6]
                    go_wp2_with fail
                    refine (SameBytes_any A17 A2 c17 c2 n2 n2 nx nx w18 hG18.sees hnx18 HNX.out.2 HNX.out.2).mono ?_
                    rintro e w19 ⟨rfl, rfl⟩
                    go_wp2_with fail
                    refine (fin w18 hB18 hz18).mono ?_
                    rintro e w20 ⟨rfl, hB20⟩
                    go_wp2_with fail
                    go_ret
                    exact ⟨rfl, hB20⟩
                  | true =>
                    obtain ⟨t0, ht0⟩ : ∃ t0 : UInt32, UInt32.ofNat (z8.t - 1) = t0 := ⟨_, rfl⟩
                    have ht0n : t0.toNat = z8.t - 1 := by rw [← ht0]; exact ofNat_toNat32 _ (by omega)
                    obtain ⟨F2, hF2⟩ : ∃ F2, ((F.set 0 t0).set 1 3).set 63 0 = F2 := ⟨_, rfl⟩
                    have hF2l : F2.length = 64 := by rw [← hF2]; simp [HFL.out.1]
                    have hF2w : ∃ c, secC F2 = some (z8.t - 1, c) := by
                      have hfl := HFL.out.1
                      rw [← hF2]
                      match F, hfl with
                      | f0 :: f1 :: fr, hfl =>
                        have hrl : fr.length = 62 := by simpa using hfl
                        simp only [List.set_cons_zero, List.set_cons_succ]
                        simp only [secC]
                        rw [if_pos ⟨by rw [List.getElem?_set_self (by omega)], by rw [ht0n]; omega, by decide⟩, ht0n]
                        exact ⟨_, rfl⟩
                    obtain ⟨T, r1, r2, r3, r4, r5⟩ := other_put hU hn3 hg0 hlk (by omega) F2 hF2l (.inr hF2w)
                    have HF2 := Lib.hid hF2l
                    obtain ⟨u0, hu0⟩ := hF9.cell_any (j := 0) (by omega)
                    obtain ⟨u1, hu1⟩ := hF9.cell_any (j := 1) (by omega)
                    obtain ⟨u63, hu63⟩ := hF9.cell_any (j := 63) (by omega)
                    have hz0 : wr.frozen? ⟨g9, 0, none⟩ = false := World.ownsRow.frozenAt hF9 0
                    have hz1' : wr.frozen? ⟨g9, 1, none⟩ = false := World.ownsRow.frozenAt hF9 1
                    have hz63 : wr.frozen? ⟨g9, 63, none⟩ = false := World.ownsRow.frozenAt hF9 63
                    have ew3 : IntKind.u32.wrap ((kk : Int) - 1) = (kk : Int) - 1 := by rw [IntKind.wrap_u32]; omega
                    have ew4 : IntKind.i64.wrap ((kk : Int) - 1) = (kk : Int) - 1 := wrapI _ (by omega) (by omega)
                    have hS1 := (World.ownsRow.stored hF9 0 (.int .u32 ((kk : Int) - 1))).1
                    have hS2 := (World.ownsRow.stored hS1 1 (.int .u32 3)).1
                    have hS3 := (World.ownsRow.stored hS2 63 (.int .u32 0)).1
                    have hx9b := ((hx9.setCell (p := ⟨g9, 0, none⟩) hg9 (.int .u32 ((kk : Int) - 1))).setCell (p := ⟨g9, 1, none⟩) hg9 (.int .u32 3)).setCell (p := ⟨g9, 63, none⟩) hg9 (.int .u32 0)
                    have hcwF : (((cw F).set 0 (.int .u32 ((kk : Int) - 1))).set 1 (.int .u32 3)).set 63 (.int .u32 0) = cw F2 := by
                      rw [← hF2]
                      have : (t0.toNat : Int) = (kk : Int) - 1 := by rw [ht0n]; omega
                      simp [cw, List.map_set, this]
                    rw [hcwF] at hS3
                    have hS3' : Fresh w6.heap.size 22 _ (some ⟨g9, 0, none⟩) 64 c9 (cw F2) := hS3
                    go_wp2_with fail
                    revert hS3 hx9b
                    clear hS3' hS1 hS2
                    generalize ((wr.setCell ⟨g9, 0, none⟩ (.int .u32 ((kk : Int) - 1))).setCell ⟨g9, 1, none⟩ (.int .u32 3)).setCell ⟨g9, 63, none⟩ (.int .u32 0) = wq
                    intro hS3 hx9b
                    have hS4 : Fresh w6.heap.size 22 wq (some ⟨g9, 0, none⟩) 64 c9 (cw F2) := hS3
                    have hoff : Off p b wq (some ⟨g9, 0, none⟩) (cw F2) := Off.lit hS4.sees (hS4.at_lt rfl).2 (by omega) (by omega)
                    have hT9 := hT6.below hx9b
                    obtain ⟨hB9, hz9⟩ := hT6.base0 hz6 hB6 hx9b
                    have hF69 := hF6.below hx9b
                    clear hx9b hx9 hT6 hF6 hS3 hS4
                    have hR := Rewrite_off hT9.dr.nor (((1 + z8.other : Nat)) : Int) 0 (by omega) 64 c9 _ F2 hoff HF2.out T 0 r1
                    rw [show (((1 + z8.other : Nat)) : Int) = 1 + (z8.other : Int) from by omega] at hR
                    refine hR.mono ?_
                    rintro e w10 ⟨rfl, hN10, hx10⟩
                    have hT10 := hT9.turn hx10 (hT9.dr.turn hx10 hN10 (r4.trans hn3.symm))
                    obtain ⟨hB10, hz10⟩ := hT9.base3 hz9 hB9 (But3.of_but hx10 c)
                    have hF10 := hF69.unlike2 hT9.dr.nor.obj hT9.dr.nor.row (by decide) (by decide) hx10
                    have hto2 := ctold_up8 (x := z8) r2.down r3
                    clear hR hoff hT9 hF69 hx10 hN10 hB9 hz9
                    go_wp2_with fail
                    refine (COpen_yes hT10.dr r2.down hz10 z8 r3).mono ?_
                    rintro e w11 ⟨u, rfl, hu11, hx11, hut⟩
                    obtain ⟨hB11, hz11⟩ := hT10.base0 hz10 hB10 hx11
                    have hF11 := hF10.below hx11
                    clear hT10 hx11 hB10 hz10 hF10
                    go_wp2_with fail
                    refine (Get_any hu11 hz11 z8 hto2).mono ?_
                    rintro e w12 ⟨A12, c12, rfl, hG12, hu12, hC12⟩
                    obtain ⟨_, _, ur11⟩ := hu11.row
                    have hF12 := hF11.unlike2 ur11.1 ur11.1 (by decide) (by decide) hC12
                    obtain ⟨hB12, hz12⟩ := hu11.base1 hz11 hB11 hC12
                    go_wp2_with fail
                    refine (CTurn_any hu12 hz12 z8 hto2).mono ?_
                    rintro e w13 ⟨rfl, hu13, hC13⟩
                    obtain ⟨_, _, ur12⟩ := hu12.row
                    have hF13 := hF12.unlike2 ur12.1 ur12.1 (by decide) (by decide) hC13
                    have hG13 := hG12.unlike2 ur12.1 ur12.1 (by decide) (by decide) hC13
                    obtain ⟨hB13, hz13⟩ := hu12.base1 hz12 hB12 hC13
                    clear hu11 hu12 hF11 hF12 hG12 hB11 hB12 hz11 hz12 hC12 hC13 ur11 ur12
                    have q5 : (z8.b == z8.b) = true := by simp
                    go_wp2_with fail
                    refine (SameBytes_any A12 A5 c12 c5 z8.b.length z8.b.length z8.b z8.b w13 hG13.sees hF13.sees rfl rfl).mono ?_
                    rintro e w14 ⟨rfl, rfl⟩
                    obtain ⟨T2, e1, e2⟩ := turned_put (show Turned8 T z8 kk from ⟨r2, r3, r4, r5, hzt, HZS.out, fun h => by omega⟩) (by omega) nx (by rw [HNX.out.2]; exact h244)
                    have hoff2 : Off u u w13 A2 (cb nx) := fun w' y => by
                      have h9 := HNX.out.1.keep (w' := w') (fun a ha => (hB13.trans (y.below hu13.lt.2 hu13.lt.2 hz13)).cell ha)
                      exact h9.more (Nat.le_trans hz13 y.size)
                    have hP := Put_any hu13 hz13 A2 c2 nx hoff2 0 false e1
                    rw [HNX.out.2] at hP
                    obtain ⟨g1, g2, -, -, g5, -, -⟩ := e2
                    have hto3 := ctold_up8 (x := nextC z8 nx) g1.down g2
                    clear e1 hoff2
                    go_wp2_with fail
                    refine hP.mono ?_
                    rintro e w15 ⟨rfl, hu15, hx15⟩
                    obtain ⟨hB15, hz15⟩ := hu13.base3 hz13 hB13 hx15
                    clear hP hu13 hB13 hz13 hx15 hF13 hG13
                    go_wp2_with fail
                    refine (COpen_yes hu15.dr g1.down hz15 (nextC z8 nx) g2).mono ?_
                    rintro e w16 ⟨v, rfl, hv16, hx16, hvt⟩
                    obtain ⟨hB16, hz16⟩ := hu15.base0 hz15 hB15 hx16
                    have hG := Get_any hv16 hz16 (nextC z8 nx) hto3
                    rw [show (nextC z8 nx).b = nx from rfl, HNX.out.2] at hG
                    have hsn : ((nextC z8 nx).s != -1) = true := by
                      have h9 : (nextC z8 nx).s = (z8.other : Int) := rfl
                      rw [h9]
                      simp
                    clear hu15 hx16 hB15 hz15
                    go_wp2_with fail
                    refine hG.mono ?_
                    rintro e w17 ⟨A17, c17, rfl, hG17, hv17, hC17⟩
                    obtain ⟨hB17, hz17⟩ := hv16.base1 hz16 hB16 hC17
                    have ew2 : IntKind.i64.wrap ((kk : Int) + 1) = (kk : Int) + 1 := wrapI _ (by omega) (by omega)
                    have hq6 : (((nextC z8 nx).t : Nat) : Int) = (kk : Int) + 1 := by rw [g5]; omega
                    go_wp2_with fail
                    refine (CTurn_any hv17 hz17 (nextC z8 nx) hto3).mono ?_
                    rintro e w18 ⟨rfl, hv18, hC18⟩
                    obtain ⟨_, _, vr17⟩ := hv17.row
                    have hG18 := hG17.unlike2 vr17.1 vr17.1 (by decide) (by decide) hC18
                    obtain ⟨hB18, hz18⟩ := hv17.base1 hz17 hB17 hC18
                    have hnx18 : Sees w18 w18.heap.size A2 (cb nx) := (HNX.out.1.keep (fun a ha => hB18.cell ha)).more hz18
                    have q7 : (nx == nx) = true := by simp
                    clear hv16 hG hC17 hB16 hz16 hB17 hz17 hv17 hG17 vr17
                    rw [hq6]
                    go_wp2_with fail
                    refine (SameBytes_any A17 A2 c17 c2 n2 n2 nx nx w18 hG18.sees hnx18 HNX.out.2 HNX.out.2).mono ?_
                    rintro e w19 ⟨rfl, rfl⟩
                    go_wp2_with fail
                    refine (fin w18 hB18 hz18).mono ?_
                    rintro e w20 ⟨rfl, hB20⟩
                    go_wp2_with fail
                    go_ret
                    exact ⟨rfl, hB20⟩
          · as_aux_lemma =>
              have hU8 := HU.out
              obtain ⟨kk, hkk⟩ : ∃ kk, kk = k := ⟨k, rfl⟩
              rw [← hkk] at hU8
              have hk1 : 0 < kk := by omega
              have hk5' : kk ≤ 5 := by omega
              have HU := Lib.hid hU8
              clear hkk hU8
              obtain ⟨hU, hlk, hn3, hg0, hzt, hzs, -⟩ := HU.out
              have hto := ctold_up8 (x := z) hU.down hlk
              go_wp2_with fail
              refine (Get_any hT hz z hto).mono ?_
              rintro e w5 ⟨A5, c5, rfl, hF5, hT5, hC5⟩
              obtain ⟨hB5, hz5⟩ := hT.base1 hz hB hC5
              go_wp2_with fail
              refine (CTurn_any hT5 hz5 z hto).mono ?_
              rintro e w6 ⟨rfl, hT6, hC6⟩
              obtain ⟨hB6, hz6⟩ := hT5.base1 hz5 hB5 hC6
              obtain ⟨_, _, cr5⟩ := hT5.row
              have hF6 := hF5.unlike2 cr5.1 cr5.1 (by decide) (by decide) hC6
              have e1 : IntKind.i64.wrap ((z.t : Int) - 1) = (z.t : Int) - 1 := wrapI _ (by omega) (by omega)
              have hwW := HW.out.1
              have hwl := HW.out.2
              have hw6 := hwW.below hB6
              have hw6s : Sees w6 w6.heap.size A1 (cw ws) := hw6.more hz6
              go_wp2_with fail
              refine (CopyWords_any A1 c1 n1 ws w6 hw6s hwl (by omega)).mono ?_
              rintro e w7 ⟨A7, c7, rfl, hF7, hx7⟩
              have hb7 := below_alloc w7 (.cells (cw [1, 2]).toArray 22 (0, 0))
              have hs7 : Sees (w7.alloc (.cells (cw [1, 2]).toArray 22 (0, 0))) (w7.alloc (.cells (cw [1, 2]).toArray 22 (0, 0))).heap.size (some ⟨w7.heap.size, 0, none⟩) (cw [1, 2]) := (Fresh.new w7 22 (cw [1, 2]) 2 rfl (by decide)).sees
              go_wp2_with (at_builtin; refine wpList_app32 rfl (.tmp 92) (.tmp 93) rfl A7 (some ⟨w7.heap.size, 0, none⟩) n1 c7 2 2 ws [1, 2] w6 rfl rfl (hF7.below hb7) hs7 rfl (by omega) (Below.then_ hx7 hb7) ?_; intro A8 c8 w8 hF8 hx8)
              go_loopw [19] (fun v wr => ∃ (j m : Nat) (A9 : Option Addr) (c9 : Nat), Hid (m = n1 + 2 + j) ∧ m ≤ 64 ∧ v = .slice A9 m c9 ∧ Fresh w6.heap.size 22 wr A9 m c9 (cw (ws ++ [1, 2] ++ List.replicate j 1)) ∧ Below w6.heap.size w6 wr) (fun v _ => 64 - lenV v)
              case atStart => exact ⟨0, n1 + 2, A8, c8, Lib.hid rfl, by omega, rfl, by simpa using hF8, hx8⟩
              case round =>
                obtain ⟨j, m, A9, c9, hm, hm64, rfl, hF9, hx9⟩ := hrel
                clear hF8 hx8
                by_cases hlt64 : m < 64
                · have hb9 := below_alloc wr (.cells (cw [1]).toArray 22 (0, 0))
                  have hs9 : Sees (wr.alloc (.cells (cw [1]).toArray 22 (0, 0))) (wr.alloc (.cells (cw [1]).toArray 22 (0, 0))).heap.size (some ⟨wr.heap.size, 0, none⟩) (cw [1]) := (Fresh.new wr 22 (cw [1]) 1 rfl (by decide)).sees
                  go_wp2_with (at_builtin; refine wpList_app32 rfl (.tmp 98) (.tmp 99) rfl A9 (some ⟨wr.heap.size, 0, none⟩) m c9 1 1 (ws ++ [1, 2] ++ List.replicate j 1) [1] w6 rfl rfl (hF9.below hb9) hs9 rfl (by omega) (Below.then_ hx9 hb9) ?_; intro A10 c10 w10 hF10 hx10)
                  go_roundw
                  case rel => exact ⟨j + 1, m + 1, A10, c10, Lib.hid (by have := hm.out; omega), by omega, rfl, by rw [List.replicate_succ', ← List.append_assoc]; exact hF10, hx10⟩
                  case measure => simp [lenV]; omega
                · obtain rfl : m = 64 := by omega
                  have hm := hm.out
                  obtain ⟨F, hFe⟩ : ∃ F, ws ++ [1, 2] ++ List.replicate j 1 = F := ⟨_, rfl⟩
                  rw [hFe] at hF9
                  have hFl : F.length = 64 := by rw [← hFe]; simp; omega
                  have hF63 : F[63]? ≠ some 0 := by
                    rw [← hFe]
                    by_cases h9 : j = 0
                    · subst h9
                      rw [List.replicate_zero, List.append_nil, List.getElem?_append_right (by omega), show 63 - ws.length = 1 from by omega]
                      decide
                    · rw [List.getElem?_append_right (by simp; omega), List.getElem?_replicate]
                      split <;> decide
                  obtain ⟨g9, rfl, hg9, hg9l⟩ := hF9.spot_ (by omega)
                  have HFL := Lib.hid (And.intro hFl hF63)
                  clear hFl hF63 hFe hm
                  have hoth : (2 : Int) - ((kk : Int) - 1) % 2 = ((1 + z.other : Nat) : Int) := by
                    have h9 := hzs hk1
                    have ho := (Co.other_of hT6.ok (by omega)).1
                    omega
                  obtain ⟨lp6, lb6, -, -⟩ := hT6.dr.nor.lt
                  have hsb : (z.s != -1) = true := by
                    rw [hzs hk1]
                    simp
                    omega
                  have HZS := Lib.hid hzs
                  clear hzs
                  cases el with
                  | false =>
                    obtain ⟨T, r1, r2, r3, r4, r5⟩ := other_put hU hn3 hg0 hlk (by omega) F HFL.out.1 (.inl (secC_not HFL.out.2))
                    have hoff : Off p b wr (some ⟨g9, 0, none⟩) (cw F) := Off.lit hF9.sees hg9l (by omega) (by omega)
                    have hT9 := hT6.below hx9
                    obtain ⟨hB9, hz9⟩ := hT6.base0 hz6 hB6 hx9
                    have hF69 := hF6.below hx9
                    clear hx9 hT6 hF6
                    have hR := Rewrite_off hT9.dr.nor (((1 + z.other : Nat)) : Int) 0 (by omega) 64 c9 _ F hoff HFL.out.1 T 0 r1
                    rw [show (((1 + z.other : Nat)) : Int) = 1 + (z.other : Int) from by omega] at hR
                    go_wp2_with fail
                    refine hR.mono ?_
                    rintro e w10 ⟨rfl, hN10, hx10⟩
                    have hT10 := hT9.turn hx10 (hT9.dr.turn hx10 hN10 (r4.trans hn3.symm))
                    obtain ⟨hB10, hz10⟩ := hT9.base3 hz9 hB9 (But3.of_but hx10 c)
                    have hF10 := hF69.unlike2 hT9.dr.nor.obj hT9.dr.nor.row (by decide) (by decide) hx10
                    have hto2 := ctold_up8 (x := z) r2.down r3
                    clear hR hoff hT9 hF9 hF69 hx10 hN10 hB9 hz9
                    go_wp2_with fail
                    refine (COpen_yes hT10.dr r2.down hz10 z r3).mono ?_
                    rintro e w11 ⟨u, rfl, hu11, hx11, hut⟩
                    obtain ⟨hB11, hz11⟩ := hT10.base0 hz10 hB10 hx11
                    have hF11 := hF10.below hx11
                    clear hT10 hx11 hB10 hz10 hF10
                    go_wp2_with fail
                    refine (Get_any hu11 hz11 z hto2).mono ?_
                    rintro e w12 ⟨A12, c12, rfl, hG12, hu12, hC12⟩
                    obtain ⟨_, _, ur11⟩ := hu11.row
                    have hF12 := hF11.unlike2 ur11.1 ur11.1 (by decide) (by decide) hC12
                    obtain ⟨hB12, hz12⟩ := hu11.base1 hz11 hB11 hC12
                    go_wp2_with fail
                    refine (CTurn_any hu12 hz12 z hto2).mono ?_
                    rintro e w13 ⟨rfl, hu13, hC13⟩
                    obtain ⟨_, _, ur12⟩ := hu12.row
                    have hF13 := hF12.unlike2 ur12.1 ur12.1 (by decide) (by decide) hC13
                    have hG13 := hG12.unlike2 ur12.1 ur12.1 (by decide) (by decide) hC13
                    obtain ⟨hB13, hz13⟩ := hu12.base1 hz12 hB12 hC13
                    clear hu11 hu12 hF11 hF12 hG12 hB11 hB12 hz11 hz12 hC12 hC13 ur11 ur12
                    have q5 : (z.b == z.b) = true := by simp
                    go_wp2_with fail
                    refine (SameBytes_any A12 A5 c12 c5 z.b.length z.b.length z.b z.b w13 hG13.sees hF13.sees rfl rfl).mono ?_
                    rintro e w14 ⟨rfl, rfl⟩
                    obtain ⟨T2, e1, e2⟩ := turned_put (show Turned8 T z kk from ⟨r2, r3, r4, r5, hzt, HZS.out, fun h => by omega⟩) (by omega) nx (by rw [HNX.out.2]; exact h244)
                    have hoff2 : Off u u w13 A2 (cb nx) := fun w' y => by
                      have h9 := HNX.out.1.keep (w' := w') (fun a ha => (hB13.trans (y.below hu13.lt.2 hu13.lt.2 hz13)).cell ha)
                      exact h9.more (Nat.le_trans hz13 y.size)
                    have hP := Put_any hu13 hz13 A2 c2 nx hoff2 0 false e1
                    rw [HNX.out.2] at hP
                    obtain ⟨g1, g2, -, -, g5, -, -⟩ := e2
                    have hto3 := ctold_up8 (x := nextC z nx) g1.down g2
                    clear e1 hoff2
                    go_wp2_with fail
                    refine hP.mono ?_
                    rintro e w15 ⟨rfl, hu15, hx15⟩
                    obtain ⟨hB15, hz15⟩ := hu13.base3 hz13 hB13 hx15
                    clear hP hu13 hB13 hz13 hx15 hF13 hG13
                    go_wp2_with fail
                    refine (COpen_yes hu15.dr g1.down hz15 (nextC z nx) g2).mono ?_
                    rintro e w16 ⟨v, rfl, hv16, hx16, hvt⟩
                    obtain ⟨hB16, hz16⟩ := hu15.base0 hz15 hB15 hx16
                    have hG := Get_any hv16 hz16 (nextC z nx) hto3
                    rw [show (nextC z nx).b = nx from rfl, HNX.out.2] at hG
                    have hsn : ((nextC z nx).s != -1) = true := by
                      have h9 : (nextC z nx).s = (z.other : Int) := rfl
                      rw [h9]
                      simp
                    clear hu15 hx16 hB15 hz15
                    go_wp2_with fail
                    refine hG.mono ?_
                    rintro e w17 ⟨A17, c17, rfl, hG17, hv17, hC17⟩
                    obtain ⟨hB17, hz17⟩ := hv16.base1 hz16 hB16 hC17
                    have ew2 : IntKind.i64.wrap ((kk : Int) + 1) = (kk : Int) + 1 := wrapI _ (by omega) (by omega)
                    have hq6 : (((nextC z nx).t : Nat) : Int) = (kk : Int) + 1 := by rw [g5]; omega
                    go_wp2_with fail
                    refine (CTurn_any hv17 hz17 (nextC z nx) hto3).mono ?_
                    rintro e w18 ⟨rfl, hv18, hC18⟩
                    obtain ⟨_, _, vr17⟩ := hv17.row
                    have hG18 := hG17.unlike2 vr17.1 vr17.1 (by decide) (by decide) hC18
                    obtain ⟨hB18, hz18⟩ := hv17.base1 hz17 hB17 hC18
                    have hnx18 : Sees w18 w18.heap.size A2 (cb nx) := (HNX.out.1.keep (fun a ha => hB18.cell ha)).more hz18
                    have q7 : (nx == nx) = true := by simp
                    clear hv16 hG hC17 hB16 hz16 hB17 hz17 hv17 hG17 vr17
                    rw [hq6]
                    go_wp2_with fail
                    refine (SameBytes_any A17 A2 c17 c2 n2 n2 nx nx w18 hG18.sees hnx18 HNX.out.2 HNX.out.2).mono ?_
                    rintro e w19 ⟨rfl, rfl⟩
                    go_wp2_with fail
                    refine (fin w18 hB18 hz18).mono ?_
                    rintro e w20 ⟨rfl, hB20⟩
                    go_wp2_with fail
                    go_ret
                    exact ⟨rfl, hB20⟩
                  | true =>
                    obtain ⟨t0, ht0⟩ : ∃ t0 : UInt32, UInt32.ofNat (z.t - 1) = t0 := ⟨_, rfl⟩
                    have ht0n : t0.toNat = z.t - 1 := by rw [← ht0]; exact ofNat_toNat32 _ (by omega)
                    obtain ⟨F2, hF2⟩ : ∃ F2, ((F.set 0 t0).set 1 3).set 63 0 = F2 := ⟨_, rfl⟩
                    have hF2l : F2.length = 64 := by rw [← hF2]; simp [HFL.out.1]
                    have hF2w : ∃ c, secC F2 = some (z.t - 1, c) := by
                      have hfl := HFL.out.1
                      rw [← hF2]
                      match F, hfl with
                      | f0 :: f1 :: fr, hfl =>
                        have hrl : fr.length = 62 := by simpa using hfl
                        simp only [List.set_cons_zero, List.set_cons_succ]
                        simp only [secC]
                        rw [if_pos ⟨by rw [List.getElem?_set_self (by omega)], by rw [ht0n]; omega, by decide⟩, ht0n]
                        exact ⟨_, rfl⟩
                    obtain ⟨T, r1, r2, r3, r4, r5⟩ := other_put hU hn3 hg0 hlk (by omega) F2 hF2l (.inr hF2w)
                    have HF2 := Lib.hid hF2l
                    obtain ⟨u0, hu0⟩ := hF9.cell_any (j := 0) (by omega)
                    obtain ⟨u1, hu1⟩ := hF9.cell_any (j := 1) (by omega)
                    obtain ⟨u63, hu63⟩ := hF9.cell_any (j := 63) (by omega)
                    have hz0 : wr.frozen? ⟨g9, 0, none⟩ = false := World.ownsRow.frozenAt hF9 0
                    have hz1' : wr.frozen? ⟨g9, 1, none⟩ = false := World.ownsRow.frozenAt hF9 1
                    have hz63 : wr.frozen? ⟨g9, 63, none⟩ = false := World.ownsRow.frozenAt hF9 63
                    have ew3 : IntKind.u32.wrap ((kk : Int) - 1) = (kk : Int) - 1 := by rw [IntKind.wrap_u32]; omega
                    have ew4 : IntKind.i64.wrap ((kk : Int) - 1) = (kk : Int) - 1 := wrapI _ (by omega) (by omega)
                    have hS1 := (World.ownsRow.stored hF9 0 (.int .u32 ((kk : Int) - 1))).1
                    have hS2 := (World.ownsRow.stored hS1 1 (.int .u32 3)).1
                    have hS3 := (World.ownsRow.stored hS2 63 (.int .u32 0)).1
                    have hx9b := ((hx9.setCell (p := ⟨g9, 0, none⟩) hg9 (.int .u32 ((kk : Int) - 1))).setCell (p := ⟨g9, 1, none⟩) hg9 (.int .u32 3)).setCell (p := ⟨g9, 63, none⟩) hg9 (.int .u32 0)
                    have hcwF : (((cw F).set 0 (.int .u32 ((kk : Int) - 1))).set 1 (.int .u32 3)).set 63 (.int .u32 0) = cw F2 := by
                      rw [← hF2]
                      have : (t0.toNat : Int) = (kk : Int) - 1 := by rw [ht0n]; omega
                      simp [cw, List.map_set, this]
                    rw [hcwF] at hS3
                    have hS3' : Fresh w6.heap.size 22 _ (some ⟨g9, 0, none⟩) 64 c9 (cw F2) := hS3
                    go_wp2_with fail
                    revert hS3 hx9b
                    clear hS3' hS1 hS2
                    generalize ((wr.setCell ⟨g9, 0, none⟩ (.int .u32 ((kk : Int) - 1))).setCell ⟨g9, 1, none⟩ (.int .u32 3)).setCell ⟨g9, 63, none⟩ (.int .u32 0) = wq
                    intro hS3 hx9b
                    have hS4 : Fresh w6.heap.size 22 wq (some ⟨g9, 0, none⟩) 64 c9 (cw F2) := hS3
                    have hoff : Off p b wq (some ⟨g9, 0, none⟩) (cw F2) := Off.lit hS4.sees (hS4.at_lt rfl).2 (by omega) (by omega)
                    have hT9 := hT6.below hx9b
                    obtain ⟨hB9, hz9⟩ := hT6.base0 hz6 hB6 hx9b
                    have hF69 := hF6.below hx9b
                    clear hx9b hx9 hT6 hF6 hS3 hS4
                    have hR := Rewrite_off hT9.dr.nor (((1 + z.other : Nat)) : Int) 0 (by omega) 64 c9 _ F2 hoff HF2.out T 0 r1
                    rw [show (((1 + z.other : Nat)) : Int) = 1 + (z.other : Int) from by omega] at hR
                    refine hR.mono ?_
                    rintro e w10 ⟨rfl, hN10, hx10⟩
                    have hT10 := hT9.turn hx10 (hT9.dr.turn hx10 hN10 (r4.trans hn3.symm))
                    obtain ⟨hB10, hz10⟩ := hT9.base3 hz9 hB9 (But3.of_but hx10 c)
                    have hF10 := hF69.unlike2 hT9.dr.nor.obj hT9.dr.nor.row (by decide) (by decide) hx10
                    have hto2 := ctold_up8 (x := z) r2.down r3
                    clear hR hoff hT9 hF69 hx10 hN10 hB9 hz9
                    go_wp2_with fail
                    refine (COpen_yes hT10.dr r2.down hz10 z r3).mono ?_
                    rintro e w11 ⟨u, rfl, hu11, hx11, hut⟩
                    obtain ⟨hB11, hz11⟩ := hT10.base0 hz10 hB10 hx11
                    have hF11 := hF10.below hx11
                    clear hT10 hx11 hB10 hz10 hF10
                    go_wp2_with fail
                    refine (Get_any hu11 hz11 z hto2).mono ?_
                    rintro e w12 ⟨A12, c12, rfl, hG12, hu12, hC12⟩
                    obtain ⟨_, _, ur11⟩ := hu11.row
                    have hF12 := hF11.unlike2 ur11.1 ur11.1 (by decide) (by decide) hC12
                    obtain ⟨hB12, hz12⟩ := hu11.base1 hz11 hB11 hC12
                    go_wp2_with fail
                    refine (CTurn_any hu12 hz12 z hto2).mono ?_
                    rintro e w13 ⟨rfl, hu13, hC13⟩
                    obtain ⟨_, _, ur12⟩ := hu12.row
                    have hF13 := hF12.unlike2 ur12.1 ur12.1 (by decide) (by decide) hC13
                    have hG13 := hG12.unlike2 ur12.1 ur12.1 (by decide) (by decide) hC13
                    obtain ⟨hB13, hz13⟩ := hu12.base1 hz12 hB12 hC13
                    clear hu11 hu12 hF11 hF12 hG12 hB11 hB12 hz11 hz12 hC12 hC13 ur11 ur12
                    have q5 : (z.b == z.b) = true := by simp
                    go_wp2_with fail
                    refine (SameBytes_any A12 A5 c12 c5 z.b.length z.b.length z.b z.b w13 hG13.sees hF13.sees rfl rfl).mono ?_
                    rintro e w14 ⟨rfl, rfl⟩
                    obtain ⟨T2, e1, e2⟩ := turned_put (show Turned8 T z kk from ⟨r2, r3, r4, r5, hzt, HZS.out, fun h => by omega⟩) (by omega) nx (by rw [HNX.out.2]; exact h244)
                    have hoff2 : Off u u w13 A2 (cb nx) := fun w' y => by
                      have h9 := HNX.out.1.keep (w' := w') (fun a ha => (hB13.trans (y.below hu13.lt.2 hu13.lt.2 hz13)).cell ha)
                      exact h9.more (Nat.le_trans hz13 y.size)
                    have hP := Put_any hu13 hz13 A2 c2 nx hoff2 0 false e1
                    rw [HNX.out.2] at hP
                    obtain ⟨g1, g2, -, -, g5, -, -⟩ := e2
                    have hto3 := ctold_up8 (x := nextC z nx) g1.down g2
                    clear e1 hoff2
                    go_wp2_with fail
                    refine hP.mono ?_
                    rintro e w15 ⟨rfl, hu15, hx15⟩
                    obtain ⟨hB15, hz15⟩ := hu13.base3 hz13 hB13 hx15
                    clear hP hu13 hB13 hz13 hx15 hF13 hG13
                    go_wp2_with fail
                    refine (COpen_yes hu15.dr g1.down hz15 (nextC z nx) g2).mono ?_
                    rintro e w16 ⟨v, rfl, hv16, hx16, hvt⟩
                    obtain ⟨hB16, hz16⟩ := hu15.base0 hz15 hB15 hx16
                    have hG := Get_any hv16 hz16 (nextC z nx) hto3
                    rw [show (nextC z nx).b = nx from rfl, HNX.out.2] at hG
                    have hsn : ((nextC z nx).s != -1) = true := by
                      have h9 : (nextC z nx).s = (z.other : Int) := rfl
                      rw [h9]
                      simp
                    clear hu15 hx16 hB15 hz15
                    go_wp2_with fail
                    refine hG.mono ?_
                    rintro e w17 ⟨A17, c17, rfl, hG17, hv17, hC17⟩
                    obtain ⟨hB17, hz17⟩ := hv16.base1 hz16 hB16 hC17
                    have ew2 : IntKind.i64.wrap ((kk : Int) + 1) = (kk : Int) + 1 := wrapI _ (by omega) (by omega)
                    have hq6 : (((nextC z nx).t : Nat) : Int) = (kk : Int) + 1 := by rw [g5]; omega
                    go_wp2_with fail
                    refine (CTurn_any hv17 hz17 (nextC z nx) hto3).mono ?_
                    rintro e w18 ⟨rfl, hv18, hC18⟩
                    obtain ⟨_, _, vr17⟩ := hv17.row
                    have hG18 := hG17.unlike2 vr17.1 vr17.1 (by decide) (by decide) hC18
                    obtain ⟨hB18, hz18⟩ := hv17.base1 hz17 hB17 hC18
                    have hnx18 : Sees w18 w18.heap.size A2 (cb nx) := (HNX.out.1.keep (fun a ha => hB18.cell ha)).more hz18
                    have q7 : (nx == nx) = true := by simp
                    clear hv16 hG hC17 hB16 hz16 hB17 hz17 hv17 hG17 vr17
                    rw [hq6]
                    go_wp2_with fail
                    refine (SameBytes_any A17 A2 c17 c2 n2 n2 nx nx w18 hG18.sees hnx18 HNX.out.2 HNX.out.2).mono ?_
                    rintro e w19 ⟨rfl, rfl⟩
                    go_wp2_with fail
                    refine (fin w18 hB18 hz18).mono ?_
                    rintro e w20 ⟨rfl, hB20⟩
                    go_wp2_with fail
                    go_ret
                    exact ⟨rfl, hB20⟩
    · have h244d : decide ((244 : Int) < (n2 : Int)) = true := by simp; omega
      go_wp2_with fail
      refine (fin w1 hB1 hz1).mono ?_
      rintro e w2 ⟨rfl, hB2⟩
      go_wp2_with fail
      go_ret
      exact ⟨rfl, hB2⟩
  · have h62d : decide ((62 : Int) < (n1 : Int)) = true := by simp; omega
    go_wp2_with fail
    refine (fin w1 hB1 hz1).mono ?_
    rintro e w2 ⟨rfl, hB2⟩
    go_wp2_with fail
    go_ret
    exact ⟨rfl, hB2⟩
end
end Go.Proofs.Ytdilpalggoapnaa
