/-
  The document's own drive, by value: Read, Blank.
-/
import Derived.Test.YtcfjbllmaejiaaaRefDr
namespace Go.Proofs.Ytcfjbllmaejiaaa
open Go.RowKit
set_option linter.unusedVariables false

theorem sees_w1 (w : World) (e : TypeId) (C : Array Value) (c : UInt32) (hC : C = (cw [c]).toArray) : Sees (w.alloc (.cells C e)) (w.alloc (.cells C e)).heap.size (some ⟨w.heap.size, 0, none⟩) (cw [c]) := fun _ => by
  subst hC
  exact ⟨w.heap.size, 0, rfl, by simp, fun j u hu => by rw [Nat.zero_add, World.cell?_alloc_mark]; simpa using hu⟩
/-- A word of a drive is the flash's own. -/
theorem read_at {S : Fl} {f m at_ many i : Nat} (hd : S.down = false) (hl : S.ws.length = 64 * S.n) (hfm : f + m ≤ S.n) (hok : at_ + many ≤ 64 * m) (hi : i < many) :
    ∃ x : UInt32, (S.at_ f at_ many)[i]? = some x ∧ S.read ((f + (at_ + i) / 64 : Nat) : Int) (((at_ + i) % 64 : Nat) : Int) = (x, 0) := by
  have h1 : 64 * f + at_ + i < S.ws.length := by omega
  refine ⟨S.ws[64 * f + at_ + i], ?_, ?_⟩
  · rw [Fl.at_, List.getElem?_take, if_pos hi, List.getElem?_drop, List.getElem?_eq_getElem h1]
  · have hpl : S.place ((f + (at_ + i) / 64 : Nat) : Int) (((at_ + i) % 64 : Nat) : Int) 1 = true := by simp [Fl.place, Fl.sector]; omega
    unfold Fl.read
    rw [hd, hpl]
    simp only [Int.toNat_natCast]
    rw [show (f + (at_ + i) / 64) * 64 + (at_ + i) % 64 = 64 * f + at_ + i from by omega, List.getD_eq_getElem?_getD, List.getElem?_eq_getElem h1]
    rfl
section
variable {w : World} {A : Option Addr} {c : Nat} {S : Fl}
set_option maxHeartbeats 1000000 in
set_option maxRecDepth 100000 in
theorem rdRead_ok (h : RnAt w A c S) (hd : S.down = false) (f m at_ many : Nat) (hfm : f + m ≤ S.n) (hok : at_ + many ≤ 64 * m) :
    Calls Try.prog 55 #[.agg (rdL (f : Int) (m : Int)).toArray, .agg (S.rL A c).toArray, .int .i64 (at_ : Int), .int .i64 (many : Int)] w fun e w' => ∃ B d, e = .returned (.tuple #[.slice B many d, .int .i64 0]) ∧ Fresh w.heap.size 75 w' B many d (cw (S.at_ f at_ many)) ∧ Below w.heap.size w w' := by
  have hn := h.n_le
  have HR := Lib.hid (fun (i : Nat) (hi : i < many) => read_at hd h.len hfm hok hi)
  have hAl : (S.at_ f at_ many).length = many := by simp [Fl.at_, h.len]; omega
  have HAL := Lib.hid hAl
  have HX3 : Hid ((S.rL A c)[3]? = some (.bool false)) := Lib.hid (by unfold Fl.rL; rw [hd]; rfl)
  have HH := Lib.hid h
  have em : IntKind.i64.wrap ((m : Int) * 64) = (m : Int) * 64 := wrapI _ (by omega) (by omega)
  have es : IntKind.i64.wrap ((m : Int) * 64 - (at_ : Int)) = (m : Int) * 64 - (at_ : Int) := wrapI _ (by omega) (by omega)
  have d1 : decide ((m : Int) * 64 < (at_ : Int)) = false := by simp; omega
  have d2 : decide ((m : Int) * 64 - (at_ : Int) < (many : Int)) = false := by simp; omega
  generalize S.at_ f at_ many = L at *
  clear hd hAl h
  go_enter Try.func55, Try.ntmps55
  go_wp2_with (first | ((with_reducible refine wpList_box (o := ⟨some 4, _, _, _, _, _⟩) rfl (.tmp 0) 35 rfl (rdL (f : Int) (m : Int)) rfl 2 rfl (by decide) ?_); intro g w1 hg hF hB; have z1 := hB.size; have lg := hF.lt_size) | ((with_reducible refine wpList_box (o := ⟨some 5, _, _, _, _, _⟩) rfl (.tmp 1) 30 rfl (S.rL A c) rfl 5 rfl (by decide) ?_); intro gn w2 hgn hFn hBn; have z2 := hBn.size; have lgn := hFn.lt_size; have hF2 := hF.below hBn; have hB2 := Below.then_ hB hBn; have c0 : w2.cell? ⟨g, 0, none⟩ = some (.int .i64 (f : Int)) := hF2.cell (j := 0) rfl; have c1 : w2.cell? ⟨g, 1, none⟩ = some (.int .i64 (m : Int)) := hF2.cell (j := 1) rfl; have nr : w2.cell? ⟨gn, 3, none⟩ = some (.bool false) := hFn.cell (j := 3) HX3.out))
  have HB2 := Lib.hid hB2
  clear hF hB hBn nr hB2
  go_loopw [10, 11] (fun v i wr => ∃ (k : Nat) (B : Option Addr) (d : Nat), k ≤ many ∧ i = .int .i64 (k : Int) ∧ v = .slice B k d ∧ Fresh w2.heap.size 75 wr B k d (cw (L.take k)) ∧ Below w2.heap.size w2 wr) (fun _ i _ => many - (intOf i).toNat)
  case atStart => exact ⟨0, none, 0, by omega, rfl, rfl, by simpa using fresh_nil w2.heap.size 75 w2, Below.refl _ _⟩
  case round =>
    obtain ⟨k, B, d, hk, rfl, rfl, hFk, hBk⟩ := hrel
    by_cases hlt : k < many
    · obtain ⟨x, hx, hrd⟩ := HR.out k hlt
      have HX := Lib.hid hx
      have HRD := Lib.hid hrd
      clear hx hrd
      have hFd := hF2.below hBk
      have hFn2 := hFn.below hBk
      have k0 : wr.cell? ⟨g, 0, none⟩ = some (.int .i64 (f : Int)) := hFd.cell (j := 0) rfl
      have hRn := HH.out.step (Below.then_ HB2.out hBk)
      have ea : IntKind.i64.wrap ((at_ : Int) + (k : Int)) = (at_ : Int) + (k : Int) := wrapI _ (by omega) (by omega)
      have ef : IntKind.i64.wrap ((f : Int) + ((at_ : Int) + (k : Int)) / 64) = (f : Int) + ((at_ : Int) + (k : Int)) / 64 := wrapI _ (by omega) (by omega)
      have hrd : S.read ((f : Int) + ((at_ : Int) + (k : Int)) / 64) (((at_ : Int) + (k : Int)) % 64) = (x, 0) := by
        rw [show (f : Int) + ((at_ : Int) + (k : Int)) / 64 = ((f + (at_ + k) / 64 : Nat) : Int) from by omega, show ((at_ : Int) + (k : Int)) % 64 = (((at_ + k) % 64 : Nat) : Int) from by omega]
        exact HRD.out
      have hRd := rRead_any hRn _ _ (by omega) x 0 hrd
      clear hrd
      go_wp2_with (with_reducible refine wpList_load (o := ⟨some 44, _, _, _, _, _⟩) rfl (.tmp 5) 30 rfl gn 0 _ rfl (S.rL A c) 5 rfl (by kernel_rfl) hFn2.sees ?_)
      refine hRd.mono ?_
      rintro e w3 ⟨rfl, hB3⟩
      have hbs := (Below.then_ hBk hB3).size
      go_wp2_with (at_builtin; refine wpList_app32 rfl (.tmp 59) (.tmp 61) rfl B (some ⟨w3.heap.size, 0, none⟩) k d 1 1 (L.take k) [x] w2 rfl rfl ((hFk.below hB3).below ((Below.refl _ _).alloc (Nat.le_refl _) _)) (sees_w1 w3 75 _ _ rfl) rfl (by omega) ((Below.then_ hBk hB3).alloc hbs _) ?_; intro B' d' w4 hF4 hB4)
      have e2 : L.take k ++ [x] = L.take (k + 1) := by rw [List.take_add_one, HX.out]; rfl
      rw [e2] at hF4
      go_roundw
      case rel => exact ⟨k + 1, B', d', by omega, by go_num, rfl, hF4, hB4⟩
      case measure => simp [intOf]; omega
    · obtain rfl : k = many := by omega
      rw [List.take_of_length_le (by rw [HAL.out]; exact Nat.le_refl _)] at hFk
      go_wp2_with fail
      go_ret2
      exact ⟨B, d, rfl, hFk.lower HB2.out.size, Below.then_ HB2.out hBk⟩
set_option maxHeartbeats 1000000 in
set_option maxRecDepth 100000 in
theorem rdRead_no (h : RnAt w A c S) (f m : Nat) (hfm : f + m ≤ 1024) (a k : Int) (ha : a < 9223372036854775808) (hno : wordsOk m a k = false ∨ S.down = true) :
    Calls Try.prog 55 #[.agg (rdL (f : Int) (m : Int)).toArray, .agg (S.rL A c).toArray, .int .i64 a, .int .i64 k] w fun e w' => e = .returned (.tuple #[.slice none 0 0, .int .i64 (readErr S m a k : Int)]) ∧ Below w.heap.size w w' := by
  have em : IntKind.i64.wrap ((m : Int) * 64) = (m : Int) * 64 := wrapI _ (by omega) (by omega)
  obtain ⟨r, hr⟩ : ∃ r, wordsOk m a k = r := ⟨_, rfl⟩
  cases r
  · rw [show readErr S m a k = 2 from by simp [readErr, hr]]
    simp [wordsOk] at hr
    by_cases a1 : a < 0
    · clear hr hno ha
      go_enter Try.func55, Try.ntmps55
      go_wp2_with (first | ((with_reducible refine wpList_box (o := ⟨some 4, _, _, _, _, _⟩) rfl (.tmp 0) 35 rfl (rdL (f : Int) (m : Int)) rfl 2 rfl (by decide) ?_); intro g w1 hg hF hB; have z1 := hB.size; have lg := hF.lt_size) | ((with_reducible refine wpList_box (o := ⟨some 5, _, _, _, _, _⟩) rfl (.tmp 1) 30 rfl (S.rL A c) rfl 5 rfl (by decide) ?_); intro gn w2 hgn hFn hBn; have z2 := hBn.size; have lgn := hFn.lt_size; have hF2 := hF.below hBn; have hB2 := Below.then_ hB hBn; have c0 : w2.cell? ⟨g, 0, none⟩ = some (.int .i64 (f : Int)) := hF2.cell (j := 0) rfl; have c1 : w2.cell? ⟨g, 1, none⟩ = some (.int .i64 (m : Int)) := hF2.cell (j := 1) rfl))
      go_ret2
      exact ⟨rfl, hB2⟩
    · have d1 : decide (a < 0) = false := by simp; omega
      by_cases a2 : k < 0
      · clear hr hno ha
        go_enter Try.func55, Try.ntmps55
        go_wp2_with (first | ((with_reducible refine wpList_box (o := ⟨some 4, _, _, _, _, _⟩) rfl (.tmp 0) 35 rfl (rdL (f : Int) (m : Int)) rfl 2 rfl (by decide) ?_); intro g w1 hg hF hB; have z1 := hB.size; have lg := hF.lt_size) | ((with_reducible refine wpList_box (o := ⟨some 5, _, _, _, _, _⟩) rfl (.tmp 1) 30 rfl (S.rL A c) rfl 5 rfl (by decide) ?_); intro gn w2 hgn hFn hBn; have z2 := hBn.size; have lgn := hFn.lt_size; have hF2 := hF.below hBn; have hB2 := Below.then_ hB hBn; have c0 : w2.cell? ⟨g, 0, none⟩ = some (.int .i64 (f : Int)) := hF2.cell (j := 0) rfl; have c1 : w2.cell? ⟨g, 1, none⟩ = some (.int .i64 (m : Int)) := hF2.cell (j := 1) rfl))
        go_ret2
        exact ⟨rfl, hB2⟩
      · have d2 : decide (k < 0) = false := by simp; omega
        by_cases a3 : (m : Int) * 64 < a
        · clear hr hno ha
          go_enter Try.func55, Try.ntmps55
          go_wp2_with (first | ((with_reducible refine wpList_box (o := ⟨some 4, _, _, _, _, _⟩) rfl (.tmp 0) 35 rfl (rdL (f : Int) (m : Int)) rfl 2 rfl (by decide) ?_); intro g w1 hg hF hB; have z1 := hB.size; have lg := hF.lt_size) | ((with_reducible refine wpList_box (o := ⟨some 5, _, _, _, _, _⟩) rfl (.tmp 1) 30 rfl (S.rL A c) rfl 5 rfl (by decide) ?_); intro gn w2 hgn hFn hBn; have z2 := hBn.size; have lgn := hFn.lt_size; have hF2 := hF.below hBn; have hB2 := Below.then_ hB hBn; have c0 : w2.cell? ⟨g, 0, none⟩ = some (.int .i64 (f : Int)) := hF2.cell (j := 0) rfl; have c1 : w2.cell? ⟨g, 1, none⟩ = some (.int .i64 (m : Int)) := hF2.cell (j := 1) rfl))
          go_ret2
          exact ⟨rfl, hB2⟩
        · have d3 : decide ((m : Int) * 64 < a) = false := by simp; omega
          have a4 : (m : Int) * 64 - a < k := by omega
          have es : IntKind.i64.wrap ((m : Int) * 64 - a) = (m : Int) * 64 - a := wrapI _ (by omega) (by omega)
          clear hr hno ha
          go_enter Try.func55, Try.ntmps55
          go_wp2_with (first | ((with_reducible refine wpList_box (o := ⟨some 4, _, _, _, _, _⟩) rfl (.tmp 0) 35 rfl (rdL (f : Int) (m : Int)) rfl 2 rfl (by decide) ?_); intro g w1 hg hF hB; have z1 := hB.size; have lg := hF.lt_size) | ((with_reducible refine wpList_box (o := ⟨some 5, _, _, _, _, _⟩) rfl (.tmp 1) 30 rfl (S.rL A c) rfl 5 rfl (by decide) ?_); intro gn w2 hgn hFn hBn; have z2 := hBn.size; have lgn := hFn.lt_size; have hF2 := hF.below hBn; have hB2 := Below.then_ hB hBn; have c0 : w2.cell? ⟨g, 0, none⟩ = some (.int .i64 (f : Int)) := hF2.cell (j := 0) rfl; have c1 : w2.cell? ⟨g, 1, none⟩ = some (.int .i64 (m : Int)) := hF2.cell (j := 1) rfl))
          go_ret2
          exact ⟨rfl, hB2⟩
  · rw [show readErr S m a k = 40 from by simp [readErr, hr]]
    obtain hd : S.down = true := by
      rcases hno with h1 | h1
      · rw [hr] at h1; cases h1
      · exact h1
    have HX3 : Hid ((S.rL A c)[3]? = some (.bool true)) := Lib.hid (by unfold Fl.rL; rw [hd]; rfl)
    simp [wordsOk] at hr
    have d1 : decide (a < 0) = false := by simp; omega
    have d2 : decide (k < 0) = false := by simp; omega
    have d3 : decide ((m : Int) * 64 < a) = false := by simp; omega
    have d4 : decide ((m : Int) * 64 - a < k) = false := by simp; omega
    have es : IntKind.i64.wrap ((m : Int) * 64 - a) = (m : Int) * 64 - a := wrapI _ (by omega) (by omega)
    clear hr hno ha hd
    go_enter Try.func55, Try.ntmps55
    go_wp2_with (first | ((with_reducible refine wpList_box (o := ⟨some 4, _, _, _, _, _⟩) rfl (.tmp 0) 35 rfl (rdL (f : Int) (m : Int)) rfl 2 rfl (by decide) ?_); intro g w1 hg hF hB; have z1 := hB.size; have lg := hF.lt_size) | ((with_reducible refine wpList_box (o := ⟨some 5, _, _, _, _, _⟩) rfl (.tmp 1) 30 rfl (S.rL A c) rfl 5 rfl (by decide) ?_); intro gn w2 hgn hFn hBn; have z2 := hBn.size; have lgn := hFn.lt_size; have hF2 := hF.below hBn; have hB2 := Below.then_ hB hBn; have c0 : w2.cell? ⟨g, 0, none⟩ = some (.int .i64 (f : Int)) := hF2.cell (j := 0) rfl; have c1 : w2.cell? ⟨g, 1, none⟩ = some (.int .i64 (m : Int)) := hF2.cell (j := 1) rfl; have nr : w2.cell? ⟨gn, 3, none⟩ = some (.bool true) := hFn.cell (j := 3) HX3.out))
    go_ret2
    exact ⟨rfl, hB2⟩
end
end Go.Proofs.Ytcfjbllmaejiaaa
