/-
  TallyRises returns true for every input, and writes nothing that was there: the walk, of a tally of two blank sectors.
-/
import Derived.Test.YtpdfalgjmeagjaaTallyAwake
import Derived.Test.YtpdfalgjmeagjaaRisesPure
import Derived.Test.YtpdfalgjmeagjaaFallsOpen
namespace Go.Proofs.Ytpdfalgjmeagjaa
open Go.RowKit Go.Shelf
set_option linter.unusedVariables false

set_option maxHeartbeats 8000000 in
set_option maxRecDepth 100000 in
theorem rises_walk0 (z : Nat) (hz16 : z < 4294967296) (hzb : z % 2147483648 = 0) (A : Option Addr) (N C : Nat) (W : World) (hf : FallsAt W A N) :
    Calls Try.prog 9 #[.int .u32 (z : Int), .slice A N C] W fun e w' => e = .returned (.bool true) ∧ Below W.heap.size W w' := by
  have HG := Lib.hid risen_zero
  have HF0 := Lib.hid hf
  have hb0 : (z : Int) % 2147483648 = 0 := by omega
  clear hf hzb hz16
  go_enter Try.func9, Try.ntmps9
  go_wp2_with fail
  refine (New_yes 2 2 (by omega) (by omega) (by omega) (by omega)).mono ?_
  rintro e w1 ⟨p, b, rfl, hNr, hB1⟩
  have hbs := hB1.size
  go_wp2_with fail
  refine (Open_yes hNr 0 2 (by show 0 + 2 ≤ 2; omega) (by omega) hbs).mono ?_
  rintro e w2 ⟨d, rfl, hD, hB2⟩
  have hB12 := Below.then_ hB1 hB2
  have hbs2 := hB12.size
  go_wp2_with fail
  refine (TOpen_yes hD rfl hbs2 0 HG.out.count).mono ?_
  rintro e w3 ⟨t0, rfl, hT3, hB3, -⟩
  have hB13 := Below.then_ hB12 hB3
  have hbs3 := hB13.size
  go_wp2_with fail
  refine (Count_any hT3 rfl hbs3 0 HG.out.count).mono ?_
  rintro e w4 ⟨rfl, hT4, hx4⟩
  obtain ⟨hB4, hz4⟩ := hT3.base1 hbs3 hB13 hx4
  go_wp2_with fail
  go_loopw [10, 12, 13] (fun tv cv iv wr => ∃ (i c t last : Nat) (S : Fl) (zc : Int), i ≤ 4 ∧ iv = .int .i64 (i : Int) ∧ cv = .int .i64 zc ∧ tv = .pointer (some ⟨t, 0, none⟩) ∧ Hid (zc = (c : Int)) ∧ Hid (c ≤ 2147483648) ∧ TyAt W.heap.size wr t d p b 0 S last false ∧ Hid (Risen S c) ∧ Below W.heap.size W wr ∧ W.heap.size ≤ wr.heap.size) (fun _ _ i _ => 4 - (intOf i).toNat)
  case atStart => exact ⟨0, 0, t0, 0, Fl.made 2 2, 0, by omega, rfl, rfl, rfl, Lib.hid rfl, Lib.hid (by omega), hT4, Lib.hid HG.out, hB4, hz4⟩
  case round =>
    obtain ⟨i, c, t, last, S, zc, hi, rfl, rfl, rfl, HZ, HC, hT, HU, hB, hz⟩ := hrel
    clear hT3 hT4 hx4 hB4 hz4 hB13 hbs3 hB12 hbs2 hB1 hB2 hB3 hbs hNr hD HG
    have fin : ∀ w2, Below W.heap.size W w2 → W.heap.size ≤ w2.heap.size → Calls Try.prog 49 #[] w2 fun e w' => e = .returned (.bool true) ∧ Below W.heap.size W w' := fun w2 x y => (awake6_any w2).mono fun e w' ⟨h1, h2⟩ => ⟨h1, x.trans (h2.mono y)⟩
    by_cases hlt : i < N
    · by_cases hlt2 : i < 4
      · obtain ⟨g, o, rfl, hg, a, m, B, q, dd, ks, ha, hm, fc0, fc1, fc2, hq, hs⟩ := HF0.out i hlt
        have hq := Lib.hid hq
        obtain ⟨n, hn⟩ : ∃ n, a % 1991 = n := ⟨_, rfl⟩
        have hn4 : n < 1991 := by omega
        have hd1 : decide ((i : Int) < 4) = true := by simp; omega
        go_wp2_with fail
        go_loopw [12, 14] (fun cv kv wr => ∃ (k c2 last2 : Nat) (S2 : Fl) (zc2 : Int), k ≤ n ∧ kv = .int .i64 (k : Int) ∧ cv = .int .i64 zc2 ∧ Hid (zc2 = (c2 : Int)) ∧ Hid (c2 ≤ 2147483648) ∧ TyAt W.heap.size wr t d p b 0 S2 last2 false ∧ Hid (Risen S2 c2) ∧ Below W.heap.size W wr ∧ W.heap.size ≤ wr.heap.size) (fun _ k _ => n - (intOf k).toNat)
        case atStart => exact ⟨0, c, last, S, zc, by omega, rfl, rfl, HZ, HC, hT, HU, hB, hz⟩
        case round =>
          obtain ⟨k, c2, last2, S2, zc2, hk, rfl, rfl, HZ2, HC2, hT2, HU2, hB2, hz2⟩ := hrel
          clear hT HU hB hz HC HZ
          have hc0 : wr.cell? ⟨g, o + i * 3, none⟩ = some (.int .u16 (a : Int)) := by rw [hB2.cell (p := ⟨g, o + i * 3, none⟩) hg]; exact fc0
          by_cases hkn : k < n
          · by_cases hc31 : c2 < 2147483648
            · obtain ⟨T, e1, e2⟩ := HU2.out.step hc31 last2
              have HE := Lib.hid e2
              have hzz := HZ2.out
              have hcD : decide (zc2 < 2147483648) = true := by simp; omega
              have HC3 : Hid (c2 + 1 ≤ 2147483648) := Lib.hid (by omega)
              have HZ3 : Hid (zc2 + 1 = ((c2 + 1 : Nat) : Int)) := Lib.hid (by omega)
              have ec : IntKind.i64.wrap (zc2 + 1) = zc2 + 1 := wrapI _ (by omega) (by omega)
              have ecc : (((c2 + 1 : Nat)) : Int) = zc2 + 1 := by omega
              have ECC := Lib.hid ecc
              have hSt := Step_any hT2 hz2 T 0 (c2 + 1) false e1
              clear e1 e2 hc31 hzz ecc
              go_wp2_with fail
              refine hSt.mono ?_
              rintro e w3 ⟨rfl, hT3, hx3⟩
              obtain ⟨hB3, hz3⟩ := hT2.base3 hz2 hB2 hx3
              clear hSt
              go_wp2_with fail
              have hCt := Count_any hT3 HE.out.up.down hz3 (c2 + 1) HE.out.count
              rw [ECC.out] at hCt
              refine hCt.mono ?_
              rintro e w4 ⟨rfl, hT4, hx4⟩
              obtain ⟨hB4, hz4⟩ := hT3.base1 hz3 hB3 hx4
              clear hCt
              go_wp2_with fail
              go_roundw
              case rel => exact ⟨k + 1, c2 + 1, c2 + 1, T, zc2 + 1, by omega, by go_num, (by first | rfl | go_num), HZ3, HC3, hT4, HE, hB4, hz4⟩
              case measure => simp [intOf]; omega
            · have hcD : decide (zc2 < 2147483648) = false := by have hzz := HZ2.out; simp; omega
              clear hc31
              have hT' := hT2
              obtain ⟨hup, -⟩ := HU2.out.up, True.intro
              obtain ⟨T, r, last', over', c', f1, f2, f3, f4, f5, f6⟩ := HU2.out.fall HC2.out last2 (m % 5) ks
              have he : ((m % 5 : Nat) : Int) = (m : Int) % 5 := by omega
              have hAr := Arm_any hT2.dr.nor ((m % 5 : Nat) : Int) (by omega)
              have hAn : (S2.arm ((m % 5 : Nat) : Int)).n = S2.n := by unfold Fl.arm; split <;> rfl
              revert hAr hAn f1
              generalize S2.arm ((m % 5 : Nat) : Int) = R
              intro f1 hAr hAn
              rw [he] at hAr
              have HAN := Lib.hid hAn
              have HF := Lib.hid (And.intro f2 (And.intro f3 f4))
              have HC6 := Lib.hid f6
              have HF5 := Lib.hid f5
              have hSt := fun (w' : World) (hT : TyAt W.heap.size w' t d p b 0 R last2 false) (hz : W.heap.size ≤ w'.heap.size) => Step_any hT hz T r last' over' f1
              have HSt := Lib.hid hSt
              have hc1 : wr.cell? ⟨g, o + i * 3 + 1, none⟩ = some (.int .u8 (m : Int)) := by rw [hB2.cell (p := ⟨g, o + i * 3 + 1, none⟩) hg]; exact fc1
              clear f1 f2 f3 f4 f5 f6 hAn he hup hSt hT'
              go_wp2_with fail
              refine hAr.mono ?_
              rintro e w3 ⟨rfl, hN3, hx3⟩
              have hT3 := hT2.turn hx3 (hT2.dr.turn hx3 hN3 HAN.out)
              obtain ⟨hB3, hz3⟩ := hT2.base3 hz2 hB2 (But3.of_but hx3 t)
              clear hT2 hN3 hx3 hAr hB2 hz2
              go_wp2_with fail
              refine (HSt.out w3 hT3 hz3).mono ?_
              rintro e w4 ⟨rfl, hT4, hx4⟩
              obtain ⟨hB4, hz4⟩ := hT3.base3 hz3 hB3 hx4
              clear hT3 hx4 hB3 hz3
              have hc2 : w4.cell? ⟨g, o + i * 3 + 2, none⟩ = some (.slice B q dd) := by rw [hB4.cell (p := ⟨g, o + i * 3 + 2, none⟩) hg]; exact fc2
              have hks := hs.below hB4
              have hCr := Crash_any hT4.dr.nor HF.out.2.1 B q dd ks hz4 hks hq.out
              have hn4 : (T.crash ks).n = T.n := HF.out.2.2.n.trans HF.out.1.symm
              have ec0 : IntKind.i64.wrap (zc2 + 1) = zc2 + 1 := by
                have := HC2.out
                have := HZ2.out
                exact wrapI _ (by omega) (by omega)
              have ec1 : IntKind.i64.wrap (zc2 + 1 + 1) = zc2 + 1 + 1 := by
                have := HC2.out
                have := HZ2.out
                exact wrapI _ (by omega) (by omega)
              by_cases hr : r = 0
              · obtain rfl : c' = c2 + 1 := by rw [HF5.out, if_pos hr]
                subst hr
                have ECC : Hid (((c2 + 1 : Nat) : Int) = zc2 + 1) := Lib.hid (by have := HZ2.out; omega)
                have HZ4 : Hid (zc2 + 1 = ((c2 + 1 : Nat) : Int)) := Lib.hid (by have := HZ2.out; omega)
                go_wp2_with fail
                refine hCr.mono ?_
                rintro e w5 ⟨rfl, hN5, hx5⟩
                have hD5 := hT4.dr.turn hx5 hN5 hn4
                obtain ⟨hB5, hz5⟩ := hT4.base3 hz4 hB4 (But3.of_but hx5 t)
                clear hT4 hN5 hx5 hB4 hz4 hCr hc2
                go_wp2_with fail
                refine (TOpen_yes hD5 HF.out.2.2.up.down hz5 (c2 + 1) HF.out.2.2.count).mono ?_
                rintro e w6 ⟨u, rfl, hu6, hx6, -⟩
                have hB6 : Below W.heap.size W w6 := hB5.trans (hx6.mono hz5)
                have hz6 : W.heap.size ≤ w6.heap.size := Nat.le_trans hz5 hx6.size
                clear hD5 hx6 hB5 hz5
                go_wp2_with fail
                have hCt7 := Count_any hu6 HF.out.2.2.up.down hz6 (c2 + 1) HF.out.2.2.count
                rw [ECC.out] at hCt7
                refine hCt7.mono ?_
                rintro e w7 ⟨rfl, hu7, hx7⟩
                obtain ⟨hB7, hz7⟩ := hu6.base1 hz6 hB6 hx7
                clear hCt7 hu6 hx7 hB6 hz6
                go_wp2_with fail
                have hCt8 := Count_any hu7 HF.out.2.2.up.down hz7 (c2 + 1) HF.out.2.2.count
                rw [ECC.out] at hCt8
                refine hCt8.mono ?_
                rintro e w8 ⟨rfl, hu8, hx8⟩
                obtain ⟨hB8, hz8⟩ := hu7.base1 hz7 hB7 hx8
                clear hCt8 hu7 hx8 hB7 hz7
                go_wp2_with fail
                have hCt9 := Count_any hu8 HF.out.2.2.up.down hz8 (c2 + 1) HF.out.2.2.count
                rw [ECC.out] at hCt9
                refine hCt9.mono ?_
                rintro e w9 ⟨rfl, hu9, hx9⟩
                obtain ⟨hB9, hz9⟩ := hu8.base1 hz8 hB8 hx9
                clear hCt9 hu8 hx9 hB8 hz8
                go_wp2_with fail
                have hCt10 := Count_any hu9 HF.out.2.2.up.down hz9 (c2 + 1) HF.out.2.2.count
                rw [ECC.out] at hCt10
                refine hCt10.mono ?_
                rintro e w10 ⟨rfl, hu10, hx10⟩
                obtain ⟨hB10, hz10⟩ := hu9.base1 hz9 hB9 hx10
                clear hCt10 hu9 hx10 hB9 hz9
                go_wp2_with fail
                go_roundw
                case rel => exact ⟨i + 1, (c2 + 1), u, (c2 + 1), T.crash ks, _, by omega, by go_num, rfl, rfl, HZ4, HC6, hu10, Lib.hid HF.out.2.2, hB10, hz10⟩
                case measure => simp [intOf]; omega
              · obtain rfl : c' = c2 := by rw [HF5.out, if_neg hr]
                have hrI : ¬ ((r : Int) = 0) := by omega
                have ECC : Hid ((c' : Int) = zc2) := Lib.hid HZ2.out.symm
                have HZ4 : Hid (zc2 = (c' : Int)) := HZ2
                go_wp2_with fail
                refine hCr.mono ?_
                rintro e w5 ⟨rfl, hN5, hx5⟩
                have hD5 := hT4.dr.turn hx5 hN5 hn4
                obtain ⟨hB5, hz5⟩ := hT4.base3 hz4 hB4 (But3.of_but hx5 t)
                clear hT4 hN5 hx5 hB4 hz4 hCr hc2
                go_wp2_with fail
                refine (TOpen_yes hD5 HF.out.2.2.up.down hz5 c' HF.out.2.2.count).mono ?_
                rintro e w6 ⟨u, rfl, hu6, hx6, -⟩
                have hB6 : Below W.heap.size W w6 := hB5.trans (hx6.mono hz5)
                have hz6 : W.heap.size ≤ w6.heap.size := Nat.le_trans hz5 hx6.size
                clear hD5 hx6 hB5 hz5
                go_wp2_with fail
                have hCt7 := Count_any hu6 HF.out.2.2.up.down hz6 c' HF.out.2.2.count
                rw [ECC.out] at hCt7
                refine hCt7.mono ?_
                rintro e w7 ⟨rfl, hu7, hx7⟩
                obtain ⟨hB7, hz7⟩ := hu6.base1 hz6 hB6 hx7
                clear hCt7 hu6 hx7 hB6 hz6
                go_wp2_with fail
                have hCt8 := Count_any hu7 HF.out.2.2.up.down hz7 c' HF.out.2.2.count
                rw [ECC.out] at hCt8
                refine hCt8.mono ?_
                rintro e w8 ⟨rfl, hu8, hx8⟩
                obtain ⟨hB8, hz8⟩ := hu7.base1 hz7 hB7 hx8
                clear hCt8 hu7 hx8 hB7 hz7
                go_wp2_with fail
                have hCt9 := Count_any hu8 HF.out.2.2.up.down hz8 c' HF.out.2.2.count
                rw [ECC.out] at hCt9
                refine hCt9.mono ?_
                rintro e w9 ⟨rfl, hu9, hx9⟩
                obtain ⟨hB9, hz9⟩ := hu8.base1 hz8 hB8 hx9
                clear hCt9 hu8 hx9 hB8 hz8
                go_wp2_with fail
                have hCt10 := Count_any hu9 HF.out.2.2.up.down hz9 c' HF.out.2.2.count
                rw [ECC.out] at hCt10
                refine hCt10.mono ?_
                rintro e w10 ⟨rfl, hu10, hx10⟩
                obtain ⟨hB10, hz10⟩ := hu9.base1 hz9 hB9 hx10
                clear hCt10 hu9 hx10 hB9 hz9
                go_wp2_with fail
                go_roundw
                case rel => exact ⟨i + 1, c', u, c', T.crash ks, _, by omega, by go_num, rfl, rfl, HZ4, HC6, hu10, Lib.hid HF.out.2.2, hB10, hz10⟩
                case measure => simp [intOf]; omega
          · obtain rfl : k = n := by omega
            have hT' := hT2
            obtain ⟨hup, -⟩ := HU2.out.up, True.intro
            obtain ⟨T, r, last', over', c', f1, f2, f3, f4, f5, f6⟩ := HU2.out.fall HC2.out last2 (m % 5) ks
            have he : ((m % 5 : Nat) : Int) = (m : Int) % 5 := by omega
            have hAr := Arm_any hT2.dr.nor ((m % 5 : Nat) : Int) (by omega)
            have hAn : (S2.arm ((m % 5 : Nat) : Int)).n = S2.n := by unfold Fl.arm; split <;> rfl
            revert hAr hAn f1
            generalize S2.arm ((m % 5 : Nat) : Int) = R
            intro f1 hAr hAn
            rw [he] at hAr
            have HAN := Lib.hid hAn
            have HF := Lib.hid (And.intro f2 (And.intro f3 f4))
            have HC6 := Lib.hid f6
            have HF5 := Lib.hid f5
            have hSt := fun (w' : World) (hT : TyAt W.heap.size w' t d p b 0 R last2 false) (hz : W.heap.size ≤ w'.heap.size) => Step_any hT hz T r last' over' f1
            have HSt := Lib.hid hSt
            have hc1 : wr.cell? ⟨g, o + i * 3 + 1, none⟩ = some (.int .u8 (m : Int)) := by rw [hB2.cell (p := ⟨g, o + i * 3 + 1, none⟩) hg]; exact fc1
            clear f1 f2 f3 f4 f5 f6 hAn he hup hSt hT'
            go_wp2_with fail
            refine hAr.mono ?_
            rintro e w3 ⟨rfl, hN3, hx3⟩
            have hT3 := hT2.turn hx3 (hT2.dr.turn hx3 hN3 HAN.out)
            obtain ⟨hB3, hz3⟩ := hT2.base3 hz2 hB2 (But3.of_but hx3 t)
            clear hT2 hN3 hx3 hAr hB2 hz2
            go_wp2_with fail
            refine (HSt.out w3 hT3 hz3).mono ?_
            rintro e w4 ⟨rfl, hT4, hx4⟩
            obtain ⟨hB4, hz4⟩ := hT3.base3 hz3 hB3 hx4
            clear hT3 hx4 hB3 hz3
            have hc2 : w4.cell? ⟨g, o + i * 3 + 2, none⟩ = some (.slice B q dd) := by rw [hB4.cell (p := ⟨g, o + i * 3 + 2, none⟩) hg]; exact fc2
            have hks := hs.below hB4
            have hCr := Crash_any hT4.dr.nor HF.out.2.1 B q dd ks hz4 hks hq.out
            have hn4 : (T.crash ks).n = T.n := HF.out.2.2.n.trans HF.out.1.symm
            have ec0 : IntKind.i64.wrap (zc2 + 1) = zc2 + 1 := by
              have := HC2.out
              have := HZ2.out
              exact wrapI _ (by omega) (by omega)
            have ec1 : IntKind.i64.wrap (zc2 + 1 + 1) = zc2 + 1 + 1 := by
              have := HC2.out
              have := HZ2.out
              exact wrapI _ (by omega) (by omega)
            by_cases hr : r = 0
            · obtain rfl : c' = c2 + 1 := by rw [HF5.out, if_pos hr]
              subst hr
              have ECC : Hid (((c2 + 1 : Nat) : Int) = zc2 + 1) := Lib.hid (by have := HZ2.out; omega)
              have HZ4 : Hid (zc2 + 1 = ((c2 + 1 : Nat) : Int)) := Lib.hid (by have := HZ2.out; omega)
              go_wp2_with fail
              refine hCr.mono ?_
              rintro e w5 ⟨rfl, hN5, hx5⟩
              have hD5 := hT4.dr.turn hx5 hN5 hn4
              obtain ⟨hB5, hz5⟩ := hT4.base3 hz4 hB4 (But3.of_but hx5 t)
              clear hT4 hN5 hx5 hB4 hz4 hCr hc2
              go_wp2_with fail
              refine (TOpen_yes hD5 HF.out.2.2.up.down hz5 (c2 + 1) HF.out.2.2.count).mono ?_
              rintro e w6 ⟨u, rfl, hu6, hx6, -⟩
              have hB6 : Below W.heap.size W w6 := hB5.trans (hx6.mono hz5)
              have hz6 : W.heap.size ≤ w6.heap.size := Nat.le_trans hz5 hx6.size
              clear hD5 hx6 hB5 hz5
              go_wp2_with fail
              have hCt7 := Count_any hu6 HF.out.2.2.up.down hz6 (c2 + 1) HF.out.2.2.count
              rw [ECC.out] at hCt7
              refine hCt7.mono ?_
              rintro e w7 ⟨rfl, hu7, hx7⟩
              obtain ⟨hB7, hz7⟩ := hu6.base1 hz6 hB6 hx7
              clear hCt7 hu6 hx7 hB6 hz6
              go_wp2_with fail
              have hCt8 := Count_any hu7 HF.out.2.2.up.down hz7 (c2 + 1) HF.out.2.2.count
              rw [ECC.out] at hCt8
              refine hCt8.mono ?_
              rintro e w8 ⟨rfl, hu8, hx8⟩
              obtain ⟨hB8, hz8⟩ := hu7.base1 hz7 hB7 hx8
              clear hCt8 hu7 hx8 hB7 hz7
              go_wp2_with fail
              have hCt9 := Count_any hu8 HF.out.2.2.up.down hz8 (c2 + 1) HF.out.2.2.count
              rw [ECC.out] at hCt9
              refine hCt9.mono ?_
              rintro e w9 ⟨rfl, hu9, hx9⟩
              obtain ⟨hB9, hz9⟩ := hu8.base1 hz8 hB8 hx9
              clear hCt9 hu8 hx9 hB8 hz8
              go_wp2_with fail
              have hCt10 := Count_any hu9 HF.out.2.2.up.down hz9 (c2 + 1) HF.out.2.2.count
              rw [ECC.out] at hCt10
              refine hCt10.mono ?_
              rintro e w10 ⟨rfl, hu10, hx10⟩
              obtain ⟨hB10, hz10⟩ := hu9.base1 hz9 hB9 hx10
              clear hCt10 hu9 hx10 hB9 hz9
              go_wp2_with fail
              go_roundw
              case rel => exact ⟨i + 1, (c2 + 1), u, (c2 + 1), T.crash ks, _, by omega, by go_num, rfl, rfl, HZ4, HC6, hu10, Lib.hid HF.out.2.2, hB10, hz10⟩
              case measure => simp [intOf]; omega
            · obtain rfl : c' = c2 := by rw [HF5.out, if_neg hr]
              have hrI : ¬ ((r : Int) = 0) := by omega
              have ECC : Hid ((c' : Int) = zc2) := Lib.hid HZ2.out.symm
              have HZ4 : Hid (zc2 = (c' : Int)) := HZ2
              go_wp2_with fail
              refine hCr.mono ?_
              rintro e w5 ⟨rfl, hN5, hx5⟩
              have hD5 := hT4.dr.turn hx5 hN5 hn4
              obtain ⟨hB5, hz5⟩ := hT4.base3 hz4 hB4 (But3.of_but hx5 t)
              clear hT4 hN5 hx5 hB4 hz4 hCr hc2
              go_wp2_with fail
              refine (TOpen_yes hD5 HF.out.2.2.up.down hz5 c' HF.out.2.2.count).mono ?_
              rintro e w6 ⟨u, rfl, hu6, hx6, -⟩
              have hB6 : Below W.heap.size W w6 := hB5.trans (hx6.mono hz5)
              have hz6 : W.heap.size ≤ w6.heap.size := Nat.le_trans hz5 hx6.size
              clear hD5 hx6 hB5 hz5
              go_wp2_with fail
              have hCt7 := Count_any hu6 HF.out.2.2.up.down hz6 c' HF.out.2.2.count
              rw [ECC.out] at hCt7
              refine hCt7.mono ?_
              rintro e w7 ⟨rfl, hu7, hx7⟩
              obtain ⟨hB7, hz7⟩ := hu6.base1 hz6 hB6 hx7
              clear hCt7 hu6 hx7 hB6 hz6
              go_wp2_with fail
              have hCt8 := Count_any hu7 HF.out.2.2.up.down hz7 c' HF.out.2.2.count
              rw [ECC.out] at hCt8
              refine hCt8.mono ?_
              rintro e w8 ⟨rfl, hu8, hx8⟩
              obtain ⟨hB8, hz8⟩ := hu7.base1 hz7 hB7 hx8
              clear hCt8 hu7 hx8 hB7 hz7
              go_wp2_with fail
              have hCt9 := Count_any hu8 HF.out.2.2.up.down hz8 c' HF.out.2.2.count
              rw [ECC.out] at hCt9
              refine hCt9.mono ?_
              rintro e w9 ⟨rfl, hu9, hx9⟩
              obtain ⟨hB9, hz9⟩ := hu8.base1 hz8 hB8 hx9
              clear hCt9 hu8 hx9 hB8 hz8
              go_wp2_with fail
              have hCt10 := Count_any hu9 HF.out.2.2.up.down hz9 c' HF.out.2.2.count
              rw [ECC.out] at hCt10
              refine hCt10.mono ?_
              rintro e w10 ⟨rfl, hu10, hx10⟩
              obtain ⟨hB10, hz10⟩ := hu9.base1 hz9 hB9 hx10
              clear hCt10 hu9 hx10 hB9 hz9
              go_wp2_with fail
              go_roundw
              case rel => exact ⟨i + 1, c', u, c', T.crash ks, _, by omega, by go_num, rfl, rfl, HZ4, HC6, hu10, Lib.hid HF.out.2.2, hB10, hz10⟩
              case measure => simp [intOf]; omega
      · have hd1 : decide ((i : Int) < 4) = false := by simp; omega
        go_wp2_with fail
        refine (fin wr hB hz).mono ?_
        rintro e w2 ⟨rfl, hB2⟩
        go_wp2_with fail
        go_ret
        exact ⟨rfl, hB2⟩
    · go_wp2_with fail
      refine (fin wr hB hz).mono ?_
      rintro e w2 ⟨rfl, hB2⟩
      go_wp2_with fail
      go_ret
      exact ⟨rfl, hB2⟩
end Go.Proofs.Ytpdfalgjmeagjaa
