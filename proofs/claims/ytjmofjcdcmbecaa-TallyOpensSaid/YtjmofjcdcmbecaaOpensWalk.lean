/-
  TallyOpens returns true for every input, and writes nothing that was there: the walk.
-/
import Derived.Test.YtjmofjcdcmbecaaTallyAwake
import Derived.Test.YtjmofjcdcmbecaaRow
namespace Go.Proofs.Ytjmofjcdcmbecaa
open Go.RowKit Go.Shelf
set_option linter.unusedVariables false

theorem row_u16 {w : World} {a : Option Addr} {len cap : Nat} {zs : List Int} (h : IsRow .u16 w a len cap zs) : len ≤ cap ∧ cap ≤ maxLen ∧ ∀ j, j < len → ∃ g o, a = some ⟨g, o, none⟩ ∧ g < w.heap.size ∧ ∃ z : Nat, z < 65536 ∧ w.cell? ⟨g, o + j, none⟩ = some (.int .u16 (z : Int)) := by
  obtain ⟨h1, h2, h3, h4, h5⟩ := row_cells h
  refine ⟨h1, h2, fun j hj => ?_⟩
  obtain ⟨g, o, e, hg, hc⟩ := h4 (by simp; omega)
  have hjz : j < zs.length := by omega
  have hw := h5 zs[j] (List.getElem_mem hjz)
  have hb := bounds_u16 hw
  obtain ⟨z, hz⟩ := Int.eq_ofNat_of_zero_le hb.1
  refine ⟨g, o, e, hg, z, by omega, hc j _ ?_⟩
  rw [List.getElem?_map, List.getElem?_take, if_pos hj, List.getElem?_eq_getElem hjz, hz]
  rfl
section
variable {w w' : World} {base t u d p b f last last' : Nat} {over over' : Bool} {S : Fl}
/-- One tally's own writing leaves the other one. -/
theorem TyAt.other (h : TyAt base w t d p b f S last over) (hu : TyAt base w u d p b f S last' over') (hne : t ≠ u) (x : But u u w w') : TyAt base w' t d p b f S last over :=
  ⟨h.dr.other6 x (Ne.symm hu.tp) (Ne.symm hu.tb) (Ne.symm hu.td), h.obj.but x hne hne, h.last_le⟩
theorem TyAt.seen (h : TyAt base w t d p b f S last over) : Two S f := ⟨h.dr.fits, h.dr.nor.len⟩
set_option maxHeartbeats 4000000 in
set_option maxRecDepth 100000 in
theorem opens_walk (A : Option Addr) (N C : Nat) (zs : List Int) (W : World) (hrow : IsRow .u16 W A N C zs) :
    Calls Try.prog 11 #[.slice A N C] W fun e w' => e = .returned (.bool true) ∧ Below W.heap.size W w' := by
  obtain ⟨hNC, -, hcell⟩ := row_u16 hrow
  have HCELL := Lib.hid hcell
  clear hcell hrow
  have h0 : Up6 (Fl.made 3 0) 1 := ⟨⟨by decide, by simp [Fl.made]⟩, rfl, rfl, rfl⟩
  have hc0 := ex_c.1
  go_enter Try.func11, Try.ntmps11
  go_wp2_with fail
  refine (made6_any W).mono ?_
  rintro e w1 ⟨p, b, d, t0, rfl, hT1, hB1⟩
  have hz1 := hB1.size
  go_wp2_with fail
  go_loopw [5, 7, 8] (fun tv cv iv wr => ∃ (i c t last : Nat) (S : Fl), i ≤ 10 ∧ iv = .int .i64 (i : Int) ∧ cv = .int .i64 (c : Int) ∧ tv = .pointer (some ⟨t, 0, none⟩) ∧ c ≤ 400 * i ∧ TyAt W.heap.size wr t d p b 1 S last false ∧ Hid (Up6 S 1 ∧ (S.tlook 1).2.1 = c) ∧ Below W.heap.size W wr ∧ W.heap.size ≤ wr.heap.size) (fun _ _ i _ => 10 - (intOf i).toNat)
  case atStart => exact ⟨0, 0, t0, 0, Fl.made 3 0, by omega, rfl, rfl, rfl, by omega, hT1, Lib.hid ⟨h0, hc0⟩, hB1, hz1⟩
  case round =>
    obtain ⟨i, c, t, last, S, hi, rfl, rfl, rfl, hc, hT, HU, hB, hz⟩ := hrel
    clear hT1 hB1 hz1 h0 hc0
    have fin : ∀ w2, Below W.heap.size W w2 → W.heap.size ≤ w2.heap.size → Calls Try.prog 76 #[] w2 fun e w' => e = .returned (.bool true) ∧ Below W.heap.size W w' := fun w2 x y => (awake6_any w2).mono fun e w' ⟨h1, h2⟩ => ⟨h1, x.trans (h2.mono y)⟩
    by_cases hlt : i < N
    · by_cases hlt2 : i < 10
      · obtain ⟨g, o, rfl, hg, z, hz16, hcz⟩ := HCELL.out i hlt
        obtain ⟨m, hm⟩ : ∃ m, z % 400 = m := ⟨_, rfl⟩
        have hm4 : m < 400 := by omega
        have hd1 : decide ((i : Int) < 10) = true := by simp; omega
        go_wp2_with fail
        go_loopw [7, 9] (fun cv kv wr => ∃ (k c2 last2 : Nat) (S2 : Fl), k ≤ m ∧ kv = .int .i64 (k : Int) ∧ cv = .int .i64 (c2 : Int) ∧ c2 ≤ 400 * i + k ∧ TyAt W.heap.size wr t d p b 1 S2 last2 false ∧ Hid (Up6 S2 1 ∧ (S2.tlook 1).2.1 = c2) ∧ Below W.heap.size W wr ∧ W.heap.size ≤ wr.heap.size) (fun _ k _ => m - (intOf k).toNat)
        case atStart => exact ⟨0, c, last, S, by omega, rfl, rfl, by omega, hT, HU, hB, hz⟩
        case round =>
          obtain ⟨k, c2, last2, S2, hk, rfl, rfl, hc2, hT2, HU2, hB2, hz2⟩ := hrel
          clear hT HU hB hz
          have hcz2 : wr.cell? ⟨g, o + i, none⟩ = some (.int .u16 (z : Int)) := by rw [hB2.cell (p := ⟨g, o + i, none⟩) hg]; exact hcz
          by_cases hkm : k < m
          · obtain ⟨T, e1, e2, e3, e4⟩ := tstep_up HU2.out.1 HU2.out.2 (by omega) last2
            have hcT := e4.count HU2.out.2 (by omega)
            have HE := Lib.hid (And.intro e2 hcT)
            have hSt := Step_any hT2 hz2 T 0 (c2 + 1) false e1
            have e5 : T.n = S2.n := e3
            clear e1 e2 e3 e4 hcT
            go_wp2_with fail
            refine hSt.mono ?_
            rintro e w3 ⟨rfl, hT3, hx3⟩
            obtain ⟨hB3, hz3⟩ := hT2.base3 hz2 hB2 hx3
            go_wp2_with fail
            go_roundw
            case rel => exact ⟨k + 1, c2 + 1, c2 + 1, T, by omega, by go_num, by go_num, by omega, hT3, HE, hB3, hz3⟩
            case measure => simp [intOf]; omega
          · obtain rfl : k = m := by omega
            have hU := HU2.out.1
            have hcc := HU2.out.2
            have hRd := fun (w' : World) (x : Below wr.heap.size wr w') => dRead_at (hT2.dr.below x) hU.down 0 128 (by omega)
            have hL : (S2.at_ 1 0 128).length = 128 := hT2.dr.at_len (by omega)
            revert hRd hL
            generalize S2.at_ 1 0 128 = L
            intro hRd hL
            have HL := Lib.hid hL
            have HRd := Lib.hid hRd
            clear hL hRd
            go_wp2_with fail
            refine (HRd.out wr (Below.refl _ _)).mono ?_
            rintro e w3 ⟨G1, rfl, hG1, hx3⟩
            have hT3 := hT2.below hx3
            obtain ⟨hB3, hz3⟩ := hT2.base0 hz2 hB2 hx3
            go_wp2_with fail
            refine (TOpen_yes hT3.dr hU.down hz3 c2 hcc).mono ?_
            rintro e w4 ⟨u, rfl, hu4, hx4, hut⟩
            have hT4 := hT3.below hx4
            have htu : t ≠ u := by have := hT3.lt; omega
            obtain ⟨hB4, hz4⟩ := hT3.base0 hz3 hB3 hx4
            have hG14 := hG1.below hx4
            have hx24 := Below.then_ hx3 hx4
            go_wp2_with fail
            refine (HRd.out w4 hx24).mono ?_
            rintro e w5 ⟨G2, rfl, hG2, hx5⟩
            have hT5 := hT4.below hx5
            have hu5 := hu4.below hx5
            obtain ⟨hB5, hz5⟩ := hT4.base0 hz4 hB4 hx5
            have hG15 := hG14.below hx5
            go_wp2_with fail
            refine (Count_any hu5 hU.down hz5 c2 hcc).mono ?_
            rintro e w6 ⟨rfl, hu6, hx6⟩
            have hT6 := hT5.other hu5 htu hx6
            obtain ⟨hB6, hz6⟩ := hu5.base1 hz5 hB5 hx6
            have l1 := hG1.lt_size
            have l1' := hG1.block.2
            have l2' := hG2.block.2
            have lu := hu4.lt.1
            have lt' := hT2.lt.1
            have lz := hx24.size
            have hG16 := hG15.but hx6 (by omega) (by omega)
            have hG26 := hG2.but hx6 (by omega) (by omega)
            go_wp2_with fail
            refine (Count_any hT6 hU.down hz6 c2 hcc).mono ?_
            rintro e w7 ⟨rfl, hT7, hx7⟩
            have hu7 := hu6.other hT6 (Ne.symm htu) hx7
            obtain ⟨hB7, hz7⟩ := hT6.base1 hz6 hB6 hx7
            have hG17 := hG16.but hx7 (by omega) (by omega)
            have hG27 := hG26.but hx7 (by omega) (by omega)
            have s1 := hG17.sees
            have s2 := hG27.sees
            clear hG17 hG27 hG16 hG26 hG15 hG2 hG14 hG1 hT6 hu6 hT5 hu5 hT4 hu4 hT3 hT2 hB6 hB5 hB4 hB3 hB2 hx3 hx4 hx5 hx6 hx7 hx24 hcz2 hcz HRd
            go_wp2_with fail
            go_loopw [95] (fun jv wr => ∃ j : Nat, j ≤ 128 ∧ jv = .int .i64 (j : Int) ∧ ∃ q, wr = w7.drewN q) (fun jv _ => 128 - (intOf jv).toNat)
            case atStart => exact ⟨0, by omega, rfl, 0, rfl⟩
            case round =>
              obtain ⟨j, hj, rfl, q, rfl⟩ := hrel
              by_cases hj2 : j < 128
              · obtain ⟨ga, oa, ea, hga, x, HX, hx', hcx⟩ := s1.word HL.out hj2
                obtain ⟨gb, ob, eb, hgb, y, HY, hy', hcy⟩ := s2.word HL.out hj2
                obtain ⟨rfl, rfl⟩ : G1 = ga ∧ 0 = oa := by simpa using ea
                obtain ⟨rfl, rfl⟩ : G2 = gb ∧ 0 = ob := by simpa using eb
                have hxy := HX.out
                rw [HY.out] at hxy
                obtain rfl : x = y := (Option.some.inj hxy).symm
                clear hxy ea eb
                rw [Nat.zero_add] at hcx hcy
                go_wp2_with fail
                go_quiet (fail)
                go_wp2_with fail
                go_roundw
                case rel => exact ⟨j + 1, by omega, by go_num, q + nq, rfl⟩
                case measure => simp [intOf]; omega
              · obtain rfl : j = 128 := by omega
                go_wp2_with fail
                go_roundw
                case rel => exact ⟨i + 1, c2, u, c2, S2, by omega, by go_num, rfl, rfl, by omega, hu7.below (below_drewN' (Below.refl _ _) q), HU2, below_drewN' hB7 q, hz7⟩
                case measure => simp [intOf]; omega
      · have hd1 : decide ((i : Int) < 10) = false := by simp; omega
        go_wp2_with fail
        refine (fin wr hB hz).mono ?_
        rintro e w2 ⟨rfl, hB2⟩
        go_wp2_with fail
        go_ret
        exact ⟨rfl, hB2⟩
    · go_wp2_with fail
      refine (fin wr hB hz).mono ?_
      rintro e w2 ⟨rfl, hB2⟩
      go_wp2_with fail
      go_ret
      exact ⟨rfl, hB2⟩
theorem opens_law (W : World) (a0 : Option Addr) (len0 cap0 : Nat) (z0 : List Int) (w0 : IsRow .u16 W a0 len0 cap0 z0) :
    Calls Try.prog 11 #[.slice a0 len0 cap0] W fun e w' => e = .returned (.bool true) ∧ Below W.heap.size W w' := opens_walk a0 len0 cap0 z0 W w0
end
end Go.Proofs.Ytjmofjcdcmbecaa
