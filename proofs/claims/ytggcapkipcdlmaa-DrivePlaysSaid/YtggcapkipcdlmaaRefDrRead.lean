/-
  The document's own drive, by value: Read, Blank.
-/
import Derived.Test.YtggcapkipcdlmaaRefDr
namespace Go.Proofs.Ytggcapkipcdlmaa
open Go.RowKit
set_option linter.unusedVariables false

theorem sees_w1 (w : World) (e : TypeId) (C : Array Value) (c : UInt32) (hC : C = (cw [c]).toArray) : Sees (w.alloc (.cells C e)) (w.alloc (.cells C e)).heap.size (some ⟨w.heap.size, 0, none⟩) (cw [c]) := fun _ => by
  subst hC
  exact ⟨w.heap.size, 0, rfl, by simp, fun j u hu => by rw [Nat.zero_add, World.cell?_alloc_mark]; simpa using hu⟩
/-- A word of a drive is the flash's own. -/
theorem read_at {S : Fl} {f m at_ many i : Nat} (hd : S.down = false) (hl : S.ws.length = 64 * S.n) (hfm : f + m ≤ S.n) (hok : at_ + many ≤ 64 * m) (hi : i < many) :
    ∃ x : UInt32, (S.at_ f at_ many)[i]? = some x ∧ S.read ((f + (at_ + i) / 64 : Nat) : Int) (((at_ + i) % 64 : Nat) : Int) = (x, 0) := by
  have h1 : 64 * f + at_ + i < S.ws.length := by omega
  refine ⟨S.ws[64 * f + at_ + i], ?_, ?_⟩
  · rw [Fl.at_, List.getElem?_take, if_pos hi, List.getElem?_drop, List.getElem?_eq_getElem h1]
  · have hpl : S.place ((f + (at_ + i) / 64 : Nat) : Int) (((at_ + i) % 64 : Nat) : Int) 1 = true := by simp [Fl.place, Fl.sector]; omega
    unfold Fl.read
    rw [hd, hpl]
    simp only [Int.toNat_natCast]
    rw [show (f + (at_ + i) / 64) * 64 + (at_ + i) % 64 = 64 * f + at_ + i from by omega, List.getD_eq_getElem?_getD, List.getElem?_eq_getElem h1]
    rfl
section
variable {w : World} {A : Option Addr} {c : Nat} {S : Fl}
set_option maxHeartbeats 1000000 in
set_option maxRecDepth 100000 in
theorem rdRead_ok (h : RnAt w A c S) (hd : S.down = false) (f m at_ many : Nat) (hfm : f + m ≤ S.n) (hok : at_ + many ≤ 64 * m) :
    Calls Try.prog 43 #[.agg (rdL (f : Int) (m : Int)).toArray, .agg (S.rL A c).toArray, .int .i64 (at_ : Int), .int .i64 (many : Int)] w fun e w' => ∃ B d, e = .returned (.tuple #[.slice B many d, .int .i64 0]) ∧ Fresh w.heap.size 22 w' B many d (cw (S.at_ f at_ many)) ∧ Below w.heap.size w w' := by
  have hn := h.n_le
  have HR := Lib.hid (fun (i : Nat) (hi : i < many) => read_at hd h.len hfm hok hi)
  have hAl : (S.at_ f at_ many).length = many := by simp [Fl.at_, h.len]; omega
  have HAL := Lib.hid hAl
  have HX3 : Hid ((S.rL A c)[3]? = some (.bool false)) := Lib.hid (by unfold Fl.rL; rw [hd]; rfl)
  have HH := Lib.hid h
  have em : IntKind.i64.wrap ((m : Int) * 64) = (m : Int) * 64 := wrapI _ (by omega) (by omega)
  have es : IntKind.i64.wrap ((m : Int) * 64 - (at_ : Int)) = (m : Int) * 64 - (at_ : Int) := wrapI _ (by omega) (by omega)
  have d1 : decide ((m : Int) * 64 < (at_ : Int)) = false := by simp; omega
  have d2 : decide ((m : Int) * 64 - (at_ : Int) < (many : Int)) = false := by simp; omega
  generalize S.at_ f at_ many = L at *
  clear hd hAl h
  go_enter Try.func43, Try.ntmps43
  go_wp2_with (first | ((with_reducible refine wpList_box (o := ⟨some 4, _, _, _, _, _⟩) rfl (.tmp 0) 73 rfl (rdL (f : Int) (m : Int)) rfl 2 rfl (by decide) ?_); intro g w1 hg hF hB; have z1 := hB.size; have lg := hF.lt_size) | ((with_reducible refine wpList_box (o := ⟨some 5, _, _, _, _, _⟩) rfl (.tmp 1) 66 rfl (S.rL A c) rfl 5 rfl (by decide) ?_); intro gn w2 hgn hFn hBn; have z2 := hBn.size; have lgn := hFn.lt_size; have hF2 := hF.below hBn; have hB2 := Below.then_ hB hBn; have c0 : w2.cell? ⟨g, 0, none⟩ = some (.int .i64 (f : Int)) := hF2.cell (j := 0) rfl; have c1 : w2.cell? ⟨g, 1, none⟩ = some (.int .i64 (m : Int)) := hF2.cell (j := 1) rfl; have nr : w2.cell? ⟨gn, 3, none⟩ = some (.bool false) := hFn.cell (j := 3) HX3.out))
  have HB2 := Lib.hid hB2
  clear hF hB hBn nr hB2
  go_loopw [10, 11] (fun v i wr => ∃ (k : Nat) (B : Option Addr) (d : Nat), k ≤ many ∧ i = .int .i64 (k : Int) ∧ v = .slice B k d ∧ Fresh w2.heap.size 22 wr B k d (cw (L.take k)) ∧ Below w2.heap.size w2 wr) (fun _ i _ => many - (intOf i).toNat)
  case atStart => exact ⟨0, none, 0, by omega, rfl, rfl, by simpa using fresh_nil w2.heap.size 22 w2, Below.refl _ _⟩
  case round =>
    obtain ⟨k, B, d, hk, rfl, rfl, hFk, hBk⟩ := hrel
    by_cases hlt : k < many
    · obtain ⟨x, hx, hrd⟩ := HR.out k hlt
      have HX := Lib.hid hx
      have HRD := Lib.hid hrd
      clear hx hrd
      have hFd := hF2.below hBk
      have hFn2 := hFn.below hBk
      have k0 : wr.cell? ⟨g, 0, none⟩ = some (.int .i64 (f : Int)) := hFd.cell (j := 0) rfl
      have hRn := HH.out.step (Below.then_ HB2.out hBk)
      have ea : IntKind.i64.wrap ((at_ : Int) + (k : Int)) = (at_ : Int) + (k : Int) := wrapI _ (by omega) (by omega)
      have ef : IntKind.i64.wrap ((f : Int) + ((at_ : Int) + (k : Int)) / 64) = (f : Int) + ((at_ : Int) + (k : Int)) / 64 := wrapI _ (by omega) (by omega)
      have hrd : S.read ((f : Int) + ((at_ : Int) + (k : Int)) / 64) (((at_ : Int) + (k : Int)) % 64) = (x, 0) := by
        rw [show (f : Int) + ((at_ : Int) + (k : Int)) / 64 = ((f + (at_ + k) / 64 : Nat) : Int) from by omega, show ((at_ : Int) + (k : Int)) % 64 = (((at_ + k) % 64 : Nat) : Int) from by omega]
        exact HRD.out
      have hRd := rRead_any hRn _ _ (by omega) x 0 hrd
      clear hrd
      go_wp2_with (with_reducible refine wpList_load (o := ⟨some 44, _, _, _, _, _⟩) rfl (.tmp 5) 66 rfl gn 0 _ rfl (S.rL A c) 5 rfl (by kernel_rfl) hFn2.sees ?_)
      refine hRd.mono ?_
      rintro e w3 ⟨rfl, hB3⟩
      have hbs := (Below.then_ hBk hB3).size
      go_wp2_with (at_builtin; refine wpList_app32 rfl (.tmp 59) (.tmp 61) rfl B (some ⟨w3.heap.size, 0, none⟩) k d 1 1 (L.take k) [x] w2 rfl rfl ((hFk.below hB3).below ((Below.refl _ _).alloc (Nat.le_refl _) _)) (sees_w1 w3 22 _ _ rfl) rfl (by omega) ((Below.then_ hBk hB3).alloc hbs _) ?_; intro B' d' w4 hF4 hB4)
      have e2 : L.take k ++ [x] = L.take (k + 1) := by rw [List.take_add_one, HX.out]; rfl
      rw [e2] at hF4
      go_roundw
      case rel => exact ⟨k + 1, B', d', by omega, by go_num, rfl, hF4, hB4⟩
      case measure => simp [intOf]; omega
    · obtain rfl : k = many := by omega
      rw [List.take_of_length_le (by rw [HAL.out]; exact Nat.le_refl _)] at hFk
      go_wp2_with fail
      go_ret2
      exact ⟨B, d, rfl, hFk.lower HB2.out.size, Below.then_ HB2.out hBk⟩
set_option maxHeartbeats 1000000 in
set_option maxRecDepth 100000 in
theorem rdRead_no (h : RnAt w A c S) (f m : Nat) (hfm : f + m ≤ 1024) (a k : Int) (ha : a < 9223372036854775808) (hno : wordsOk m a k = false ∨ S.down = true) :
    Calls Try.prog 43 #[.agg (rdL (f : Int) (m : Int)).toArray, .agg (S.rL A c).toArray, .int .i64 a, .int .i64 k] w fun e w' => e = .returned (.tuple #[.slice none 0 0, .int .i64 (readErr S m a k : Int)]) ∧ Below w.heap.size w w' := by
  have em : IntKind.i64.wrap ((m : Int) * 64) = (m : Int) * 64 := wrapI _ (by omega) (by omega)
  obtain ⟨r, hr⟩ : ∃ r, wordsOk m a k = r := ⟨_, rfl⟩
  cases r
  · rw [show readErr S m a k = 2 from by simp [readErr, hr]]
    simp [wordsOk] at hr
    by_cases a1 : a < 0
    · clear hr hno ha
      go_enter Try.func43, Try.ntmps43
      go_wp2_with (first | ((with_reducible refine wpList_box (o := ⟨some 4, _, _, _, _, _⟩) rfl (.tmp 0) 73 rfl (rdL (f : Int) (m : Int)) rfl 2 rfl (by decide) ?_); intro g w1 hg hF hB; have z1 := hB.size; have lg := hF.lt_size) | ((with_reducible refine wpList_box (o := ⟨some 5, _, _, _, _, _⟩) rfl (.tmp 1) 66 rfl (S.rL A c) rfl 5 rfl (by decide) ?_); intro gn w2 hgn hFn hBn; have z2 := hBn.size; have lgn := hFn.lt_size; have hF2 := hF.below hBn; have hB2 := Below.then_ hB hBn; have c0 : w2.cell? ⟨g, 0, none⟩ = some (.int .i64 (f : Int)) := hF2.cell (j := 0) rfl; have c1 : w2.cell? ⟨g, 1, none⟩ = some (.int .i64 (m : Int)) := hF2.cell (j := 1) rfl))
      go_ret2
      exact ⟨rfl, hB2⟩
    · have d1 : decide (a < 0) = false := by simp; omega
      by_cases a2 : k < 0
      · clear hr hno ha
        go_enter Try.func43, Try.ntmps43
        go_wp2_with (first | ((with_reducible refine wpList_box (o := ⟨some 4, _, _, _, _, _⟩) rfl (.tmp 0) 73 rfl (rdL (f : Int) (m : Int)) rfl 2 rfl (by decide) ?_); intro g w1 hg hF hB; have z1 := hB.size; have lg := hF.lt_size) | ((with_reducible refine wpList_box (o := ⟨some 5, _, _, _, _, _⟩) rfl (.tmp 1) 66 rfl (S.rL A c) rfl 5 rfl (by decide) ?_); intro gn w2 hgn hFn hBn; have z2 := hBn.size; have lgn := hFn.lt_size; have hF2 := hF.below hBn; have hB2 := Below.then_ hB hBn; have c0 : w2.cell? ⟨g, 0, none⟩ = some (.int .i64 (f : Int)) := hF2.cell (j := 0) rfl; have c1 : w2.cell? ⟨g, 1, none⟩ = some (.int .i64 (m : Int)) := hF2.cell (j := 1) rfl))
        go_ret2
        exact ⟨rfl, hB2⟩
      · have d2 : decide (k < 0) = false := by simp; omega
        by_cases a3 : (m : Int) * 64 < a
        · clear hr hno ha
          go_enter Try.func43, Try.ntmps43
          go_wp2_with (first | ((with_reducible refine wpList_box (o := ⟨some 4, _, _, _, _, _⟩) rfl (.tmp 0) 73 rfl (rdL (f : Int) (m : Int)) rfl 2 rfl (by decide) ?_); intro g w1 hg hF hB; have z1 := hB.size; have lg := hF.lt_size) | ((with_reducible refine wpList_box (o := ⟨some 5, _, _, _, _, _⟩) rfl (.tmp 1) 66 rfl (S.rL A c) rfl 5 rfl (by decide) ?_); intro gn w2 hgn hFn hBn; have z2 := hBn.size; have lgn := hFn.lt_size; have hF2 := hF.below hBn; have hB2 := Below.then_ hB hBn; have c0 : w2.cell? ⟨g, 0, none⟩ = some (.int .i64 (f : Int)) := hF2.cell (j := 0) rfl; have c1 : w2.cell? ⟨g, 1, none⟩ = some (.int .i64 (m : Int)) := hF2.cell (j := 1) rfl))
          go_ret2
          exact ⟨rfl, hB2⟩
        · have d3 : decide ((m : Int) * 64 < a) = false := by simp; omega
          have a4 : (m : Int) * 64 - a < k := by omega
          have es : IntKind.i64.wrap ((m : Int) * 64 - a) = (m : Int) * 64 - a := wrapI _ (by omega) (by omega)
          clear hr hno ha
          go_enter Try.func43, Try.ntmps43
          go_wp2_with (first | ((with_reducible refine wpList_box (o := ⟨some 4, _, _, _, _, _⟩) rfl (.tmp 0) 73 rfl (rdL (f : Int) (m : Int)) rfl 2 rfl (by decide) ?_); intro g w1 hg hF hB; have z1 := hB.size; have lg := hF.lt_size) | ((with_reducible refine wpList_box (o := ⟨some 5, _, _, _, _, _⟩) rfl (.tmp 1) 66 rfl (S.rL A c) rfl 5 rfl (by decide) ?_); intro gn w2 hgn hFn hBn; have z2 := hBn.size; have lgn := hFn.lt_size; have hF2 := hF.below hBn; have hB2 := Below.then_ hB hBn; have c0 : w2.cell? ⟨g, 0, none⟩ = some (.int .i64 (f : Int)) := hF2.cell (j := 0) rfl; have c1 : w2.cell? ⟨g, 1, none⟩ = some (.int .i64 (m : Int)) := hF2.cell (j := 1) rfl))
          go_ret2
          exact ⟨rfl, hB2⟩
  · rw [show readErr S m a k = 40 from by simp [readErr, hr]]
    obtain hd : S.down = true := by
      rcases hno with h1 | h1
      · rw [hr] at h1; cases h1
      · exact h1
    have HX3 : Hid ((S.rL A c)[3]? = some (.bool true)) := Lib.hid (by unfold Fl.rL; rw [hd]; rfl)
    simp [wordsOk] at hr
    have d1 : decide (a < 0) = false := by simp; omega
    have d2 : decide (k < 0) = false := by simp; omega
    have d3 : decide ((m : Int) * 64 < a) = false := by simp; omega
    have d4 : decide ((m : Int) * 64 - a < k) = false := by simp; omega
    have es : IntKind.i64.wrap ((m : Int) * 64 - a) = (m : Int) * 64 - a := wrapI _ (by omega) (by omega)
    clear hr hno ha hd
    go_enter Try.func43, Try.ntmps43
    go_wp2_with (first | ((with_reducible refine wpList_box (o := ⟨some 4, _, _, _, _, _⟩) rfl (.tmp 0) 73 rfl (rdL (f : Int) (m : Int)) rfl 2 rfl (by decide) ?_); intro g w1 hg hF hB; have z1 := hB.size; have lg := hF.lt_size) | ((with_reducible refine wpList_box (o := ⟨some 5, _, _, _, _, _⟩) rfl (.tmp 1) 66 rfl (S.rL A c) rfl 5 rfl (by decide) ?_); intro gn w2 hgn hFn hBn; have z2 := hBn.size; have lgn := hFn.lt_size; have hF2 := hF.below hBn; have hB2 := Below.then_ hB hBn; have c0 : w2.cell? ⟨g, 0, none⟩ = some (.int .i64 (f : Int)) := hF2.cell (j := 0) rfl; have c1 : w2.cell? ⟨g, 1, none⟩ = some (.int .i64 (m : Int)) := hF2.cell (j := 1) rfl; have nr : w2.cell? ⟨gn, 3, none⟩ = some (.bool true) := hFn.cell (j := 3) HX3.out))
    go_ret2
    exact ⟨rfl, hB2⟩
set_option maxHeartbeats 1000000 in
set_option maxRecDepth 100000 in
theorem rdBlank_any (h : RnAt w A c S) (f m : Nat) (hfm : f + m ≤ S.n) (a k : Int) (ha : a < 9223372036854775808) (r : Bool) (hr : S.blank f m a k = r) :
    Calls Try.prog 54 #[.agg (rdL (f : Int) (m : Int)).toArray, .agg (S.rL A c).toArray, .int .i64 a, .int .i64 k] w fun e w' => e = .returned (.bool r) ∧ Below w.heap.size w w' := by
  have hn := h.n_le
  by_cases hno : wordsOk m a k = false ∨ S.down = true
  · have hR := fun (w' : World) (x : Below w.heap.size w w') => rdRead_no (h.step x) f m (by omega) a k ha hno
    obtain rfl : r = false := by
      rw [← hr]
      rcases hno with h1 | h1 <;> simp [Fl.blank, h1]
    obtain ⟨z, hz⟩ : ∃ z, readErr S m a k = z + 1 := by
      unfold readErr
      split
      · exact ⟨1, rfl⟩
      · exact ⟨39, rfl⟩
    rw [hz] at hR
    have h0 : ¬ (((z + 1 : Nat) : Int) = 0) := by omega
    clear hr hno ha hz
    go_enter Try.func54, Try.ntmps54
    go_wp2_with (first | ((with_reducible refine wpList_box (o := ⟨some 4, _, _, _, _, _⟩) rfl (.tmp 0) 73 rfl (rdL (f : Int) (m : Int)) rfl 2 rfl (by decide) ?_); intro g w1 hg hF hB; have z1 := hB.size; have lg := hF.lt_size) | ((with_reducible refine wpList_box (o := ⟨some 5, _, _, _, _, _⟩) rfl (.tmp 1) 66 rfl (S.rL A c) rfl 5 rfl (by decide) ?_); intro gn w2 hgn hFn hBn; have z2 := hBn.size; have lgn := hFn.lt_size; have hF2 := hF.below hBn; have hB2 := Below.then_ hB hBn) | (with_reducible refine wpList_load (o := ⟨some 13, _, _, _, _, _⟩) rfl (.tmp 4) 73 rfl g 0 _ rfl (rdL (f : Int) (m : Int)) 2 rfl (by kernel_rfl) hF2.sees ?_) | (with_reducible refine wpList_load (o := ⟨some 14, _, _, _, _, _⟩) rfl (.tmp 5) 66 rfl gn 0 _ rfl (S.rL A c) 5 rfl (by kernel_rfl) hFn.sees ?_))
    refine (hR w2 hB2).mono ?_
    rintro e w3 ⟨rfl, hB3⟩
    have hB23 := Below.then_ hB2 hB3
    clear hR
    go_wp2_with fail
    go_loopw [11] (fun i wr => i = .int .i64 0 ∧ wr = w3) (fun _ _ => 0)
    case atStart => exact ⟨rfl, rfl⟩
    case round =>
      obtain ⟨rfl, rfl⟩ := hrel
      go_wp2_with fail
      go_ret
      exact ⟨rfl, hB23⟩
  · have h1 : wordsOk m a k = true := by
      cases h1 : wordsOk m a k
      · exact absurd (.inl h1) hno
      · rfl
    have h2 : S.down = false := by
      cases h2 : S.down
      · rfl
      · exact absurd (.inr h2) hno
    obtain ⟨at_, many, rfl, rfl, hok⟩ := wordsOk_out h1
    have hR := fun (w' : World) (x : Below w.heap.size w w') => rdRead_ok (h.step x) h2 f m at_ many hfm hok
    have hl : (S.at_ f at_ many).length = many := by simp [Fl.at_, h.len]; omega
    simp only [Fl.blank, h1, h2, Int.toNat_natCast, Bool.not_false, Bool.and_true, Bool.true_and] at hr
    revert hr hR hl
    generalize S.at_ f at_ many = L
    intro hR hl hr
    have HL := Lib.hid hl
    have HR := Lib.hid hr
    have hmm : many ≤ 65536 := by omega
    clear hr hl hno ha h1 h2 hok
    go_enter Try.func54, Try.ntmps54
    go_wp2_with (first | ((with_reducible refine wpList_box (o := ⟨some 4, _, _, _, _, _⟩) rfl (.tmp 0) 73 rfl (rdL (f : Int) (m : Int)) rfl 2 rfl (by decide) ?_); intro g w1 hg hF hB; have z1 := hB.size; have lg := hF.lt_size) | ((with_reducible refine wpList_box (o := ⟨some 5, _, _, _, _, _⟩) rfl (.tmp 1) 66 rfl (S.rL A c) rfl 5 rfl (by decide) ?_); intro gn w2 hgn hFn hBn; have z2 := hBn.size; have lgn := hFn.lt_size; have hF2 := hF.below hBn; have hB2 := Below.then_ hB hBn) | (with_reducible refine wpList_load (o := ⟨some 13, _, _, _, _, _⟩) rfl (.tmp 4) 73 rfl g 0 _ rfl (rdL (f : Int) (m : Int)) 2 rfl (by kernel_rfl) hF2.sees ?_) | (with_reducible refine wpList_load (o := ⟨some 14, _, _, _, _, _⟩) rfl (.tmp 5) 66 rfl gn 0 _ rfl (S.rL A c) 5 rfl (by kernel_rfl) hFn.sees ?_))
    refine (hR w2 hB2).mono ?_
    rintro e w3 ⟨B, d, rfl, hFr, hB3⟩
    have hB23 := Below.then_ hB2 hB3
    have hs := hFr.sees
    clear hR
    go_wp2_with fail
    go_loopw [11] (fun i wr => ∃ j : Nat, j ≤ many ∧ i = .int .i64 (j : Int) ∧ Hid (onesL (L.drop j) = r) ∧ wr = w3) (fun i _ => many - (intOf i).toNat)
    case atStart => exact ⟨0, Nat.zero_le _, rfl, Lib.hid (by simpa using HR.out), rfl⟩
    case round =>
      obtain ⟨j, hj, rfl, hu, rfl⟩ := hrel
      by_cases hlt : j < many
      · obtain ⟨gg, o, rfl, hg, x, HX, hx', hcx⟩ := hs.word HL.out hlt
        have hu2 := hu.out
        rw [drop_at32 HX.out] at hu2
        simp only [onesL, List.all_cons] at hu2
        clear hFr hs hu HR
        by_cases hx : x = 4294967295
        · subst hx
          rw [beq_self_eq_true, Bool.true_and] at hu2
          have HU := Lib.hid hu2
          clear hu2
          go_wp2_with fail
          go_roundw
          case rel => exact ⟨j + 1, by omega, by go_num, HU, (by first | rfl | trivial)⟩
          case measure => simp [intOf]; omega
        · obtain rfl : r = false := by rw [← hu2]; simp [hx]
          have h0 : ¬ ((x.toNat : Int) = 4294967295) := by
            intro e
            exact hx (UInt32.toNat_inj.1 (by rw [show x.toNat = 4294967295 from by omega]; rfl))
          clear hu2 hx
          go_wp2_with fail
          go_ret
          exact ⟨rfl, hB23⟩
      · obtain rfl : j = many := by omega
        have hu2 := hu.out
        rw [List.drop_of_length_le (by rw [HL.out]; exact Nat.le_refl _)] at hu2
        obtain rfl : r = true := by rw [← hu2]; rfl
        clear hu2
        go_wp2_with fail
        go_ret
        exact ⟨rfl, hB23⟩
end
end Go.Proofs.Ytggcapkipcdlmaa
