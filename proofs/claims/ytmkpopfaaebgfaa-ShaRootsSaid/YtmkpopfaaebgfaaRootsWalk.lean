/-
  ShaRoots returns true for every input, and writes nothing that was there: the walk.
-/
import Derived.Test.YtmkpopfaaebgfaaRootsCube
import Derived.Test.YtmkpopfaaebgfaaShaAwake
import Derived.Test.YtmkpopfaaebgfaaApp1
namespace Go.Proofs.Ytmkpopfaaebgfaa
open Go.RowKit
set_option linter.unusedVariables false

def c64 (l : List Nat) : List Value := l.map fun (q : Nat) => Value.int .u64 (q : Int)
theorem c64_get {l : List Nat} {j q : Nat} (h : l[j]? = some q) : (c64 l)[j]? = some (.int .u64 (q : Int)) := by rw [c64, List.getElem?_map, h]; rfl
theorem c64_at {w : World} {B : Nat} {A : Option Addr} {l : List Nat} {j q : Nat} (hs : Sees w B A (c64 l)) (h : l[j]? = some q) : ∃ g o, A = some ⟨g, o, none⟩ ∧ w.cell? ⟨g, o + j, none⟩ = some (.int .u64 (q : Int)) := by
  have hj := (List.getElem?_eq_some_iff.1 h).1
  obtain ⟨g, o, e, _, hc⟩ := hs (by simp only [c64, List.length_map]; omega)
  exact ⟨g, o, e, hc j _ (c64_get h)⟩
theorem or_word (W K : Nat) (hW : W ≤ 100) (hK : K < 4294967296) : bits .or .u64 ((W : Int) * 4294967296) (K : Int) = ((W * 4294967296 + K : Nat) : Int) := by
  rw [show (W : Int) * 4294967296 = ((W * 4294967296 : Nat) : Int) from (Int.natCast_mul _ _).symm, bits_or_u64_nat _ _ (by omega) (by omega)]
  have h := Nat.two_pow_add_eq_or_of_lt (i := 32) (b := K) hK W
  rw [Nat.mul_comm W, show (4294967296 : Nat) = 2 ^ 32 from rfl, h]
theorem bare_step (p : Nat) (l : List Nat) (j q : Nat) (h : l[j]? = some q) : bare p (l.take (j + 1)) = (bare p (l.take j) && !(Nat.beq (p % q) 0)) := by
  unfold bare
  rw [List.take_add_one, h, List.all_append]
  simp
set_option maxHeartbeats 4000000 in
set_option maxRecDepth 100000 in
theorem roots_walk (z : UInt8) (w : World) : Calls Try.prog 7 #[.int .u8 (z.toNat : Int)] w fun e w' => e = .returned (.bool true) ∧ Below w.heap.size w w' := by
  have hk : z.toNat % 64 < 64 := Nat.mod_lt _ (by decide)
  obtain ⟨k, hkz⟩ : ∃ k, z.toNat % 64 = k := ⟨_, rfl⟩
  have hkm : ((z.toNat : Int)).tmod 64 = (k : Int) := by rw [Int.tmod_eq_emod_of_nonneg (by omega)]; omega
  rw [hkz] at hk
  clear hkz
  generalize (z.toNat : Int) = zi at *
  go_enter Try.func7, Try.ntmps7
  go_wp2_with (first
    | (go_at_call 39; refine (Table_any _).mono ?_; rintro e w1 ⟨rfl, hB1⟩; generalize hTL : firstL ++ keysL = TL; have HTL := Lib.hid hTL; clear hTL; have hlt : TL.length = 72 := by rw [← HTL.out]; rfl)
    | (with_reducible refine wpList_alloc (o := ⟨some 3, _, _, _, _, _⟩) rfl 48 rfl (cw (List.replicate 72 0)) (by kernel_rfl) 72 (by simp) (by decide) ?_; intro gt w2 hgt hFt hBt; have hB02 := Below.then_ hB1 hBt; have z1 := hB1.size)
    | (with_reducible refine wpList_store rfl rfl (.tmp 3) (.tmp 17) 48 rfl gt 0 w1.heap.size 48 72 (cw (List.replicate 72 0)) (cw TL) rfl rfl 72 (by rw [List.length_map]; exact hlt) (by kernel_rfl) hFt (by omega) (cw_one _) w hB02 (by omega) ?_; intro w3 hF3 hB3 _ _
       rw [show splice (cw (List.replicate 72 0)) 0 (cw TL) = cw TL from by simp [splice, hlt], ← HTL.out] at hF3))
  clear hFt hBt hB02 hB1 hlt
  go_loopw [4, 5] (fun v pv wr => ∃ (p n c : Nat) (A : Option Addr), 2 ≤ p ∧ p ≤ 312 ∧ pv = .int .u64 (p : Int) ∧ v = .slice A n c ∧ Hid ((cutP p).length = n) ∧ Fresh w3.heap.size 22 wr A n c (c64 (cutP p)) ∧ Below w3.heap.size w3 wr) (fun _ pv _ => 312 - (intOf pv).toNat)
  case atStart => exact ⟨2, 0, 0, none, by omega, by omega, rfl, rfl, Lib.hid (by rw [cut_first]; rfl), by rw [cut_first]; exact World.ownsRow_nil _ _ _ _, Below.refl _ _⟩
  case round =>
    obtain ⟨p, n, c, A, h2, hp, rfl, rfl, HN, hF, hB⟩ := hrel
    by_cases hlt : p < 312
    · obtain ⟨hst, hl⟩ := cut_step p h2 hlt
      have hn64 : n < 64 := by rw [← HN.out]; exact hl
      have HST := Lib.hid hst
      clear hst hl
      go_wp2_with fail
      go_loopw [6, 25] (fun b i wq => ∃ j : Nat, j ≤ n ∧ i = .int .i64 (j : Int) ∧ b = .bool (bare p ((cutP p).take j)) ∧ wq = wr) (fun _ i _ => n - (intOf i).toNat)
      case atStart => exact ⟨0, by omega, rfl, rfl, rfl⟩
      case round =>
        obtain ⟨j, hj, rfl, rfl, rfl⟩ := hrel
        by_cases hjn : j < n
        · obtain ⟨q, hq⟩ : ∃ q, (cutP p)[j]? = some q := ⟨_, List.getElem?_eq_getElem (by rw [HN.out]; exact hjn)⟩
          obtain ⟨g, o, rfl, hc⟩ := c64_at hF.sees hq
          obtain ⟨q2, q311⟩ := cut_ge p q (List.mem_of_getElem? hq)
          have hbs := bare_step p (cutP p) j q hq
          have HBS := Lib.hid hbs
          cases hb : bare p ((cutP p).take j)
          · rw [hb, Bool.false_and] at hbs
            have HBS := Lib.hid hbs
            clear hbs hb hq
            go_wp2_with fail
            go_roundw
            case rel => exact ⟨j + 1, by omega, by go_num, by rw [HBS.out], trivial⟩
            case measure => simp [intOf]; omega
          · rw [hb, Bool.true_and] at hbs
            have hrem : ((p : Int)).tmod (q : Int) = ((p % q : Nat) : Int) := by rw [Int.tmod_eq_emod_of_nonneg (by omega), Int.natCast_emod]
            have hq0 : decide ((q : Int) = 0) = false := by simp; omega
            have hq1 : ((q : Int) == 0) = false := by simp; omega
            generalize hr : p % q = r at *
            by_cases hr0 : r = 0
            · subst hr0
              have HBS := Lib.hid hbs
              have hne : ((((0 : Nat) : Int)) != 0) = false := by simp
              clear hbs hb hq hr
              go_wp2_with fail
              go_roundw
              case rel => exact ⟨j + 1, by omega, by go_num, by rw [HBS.out]; rfl, trivial⟩
              case measure => simp [intOf]; omega
            · have hne : ((r : Int) != 0) = true := by simp; omega
              rw [show Nat.beq r 0 = false from by
                cases hz : Nat.beq r 0
                · rfl
                · exact absurd (Nat.eq_of_beq_eq_true hz) hr0] at hbs
              have HBS := Lib.hid hbs
              have HR0 := Lib.hid hr0
              clear hbs hb hq hr hr0
              go_wp2_with fail
              go_roundw
              case rel => exact ⟨j + 1, by omega, by go_num, by rw [HBS.out]; rfl, trivial⟩
              case measure => simp [intOf]; omega
        · obtain rfl : j = n := by omega
          rw [List.take_of_length_le (by rw [HN.out]; exact Nat.le_refl _)]
          have hst := HST.out
          unfold nextP at hst
          cases hb : bare p (cutP p)
          · rw [hb] at hst
            simp only at hst
            have HST2 := Lib.hid hst
            clear hb hst
            go_wp2_with fail
            go_roundw
            case rel => exact ⟨p + 1, _, c, A, by omega, by omega, by go_num, rfl, Lib.hid (by rw [← HST2.out]; exact HN.out), by rw [← HST2.out]; exact hF, hB⟩
            case measure => simp [intOf]; omega
          · rw [hb] at hst
            simp only at hst
            have HST2 := Lib.hid hst
            clear hb hst
            have hba := below_alloc wr (.cells #[.int .u64 (p : Int)] 22)
            have hF3 := hF.below hba
            have hcell : (wr.alloc (.cells #[.int .u64 (p : Int)] 22)).cell? ⟨wr.heap.size, 0, none⟩ = some (.int .u64 (p : Int)) := by
              rw [World.cell?_alloc_mark]; rfl
            go_wp2_with (at_builtin; refine wpList_one rfl (.tmp 38) (.tmp 40) 72 22 (.int .u64 0) 8 rfl Try.underlying72 (by kernel_rfl) rfl (by omega) A j c wr.heap.size _ (.int .u64 (p : Int)) w3 rfl rfl hF3 hcell rfl (by omega) (Below.then_ hB hba) ?_; intro A2 c2 w4 hF4 hB4 hgr)
            go_roundw
            case rel =>
              refine ⟨p + 1, j + 1, c2, A2, by omega, by omega, by go_num, rfl, Lib.hid ?_, ?_, hB4⟩
              · rw [← HST2.out, List.length_append, HN.out]; rfl
              · rw [← HST2.out, c64, List.map_append]; exact hF4
            case measure => simp [intOf]; omega
    · obtain rfl : p = 312 := by omega
      rw [cut_last] at HN hF
      obtain rfl : n = 64 := HN.out.symm
      obtain ⟨P, hP, hPD, hP2, hP3⟩ := p64_at k hk
      obtain ⟨g, o, rfl, hc⟩ := c64_at hF.sees hP
      have hBw := Below.then_ hB3 hB
      have hTw : Fresh w1.heap.size 48 wr (some ⟨gt, 0, none⟩) 72 72 (cw (firstL ++ keysL)) := hF3.below hB
      clear hB3 hB hF3 hp hlt h2 HN hF hP
      go_wp2_with fail
      go_loopw [11] (fun v wq => ∃ W : Nat, 1 ≤ W ∧ W ≤ 6 ∧ v = .int .u64 (W : Int) ∧ Hid (W * W * W ≤ P) ∧ wq = wr) (fun v _ => 7 - (intOf v).toNat)
      case atStart => exact ⟨1, by omega, by omega, rfl, Lib.hid (by omega), rfl⟩
      case round =>
        obtain ⟨W, hW1, hW6, rfl, HW, rfl⟩ := hrel
        obtain ⟨Y, X, hY, hX, e2, e3, hXP⟩ : ∃ Y X : Nat, (W + 1) * (W + 1) = Y ∧ (W + 1) * (W + 1) * (W + 1) = X ∧ IntKind.u64.wrap (((W : Int) + 1) * ((W : Int) + 1)) = (Y : Int) ∧ IntKind.u64.wrap ((Y : Int) * ((W : Int) + 1)) = (X : Int) ∧ (X ≤ P → W + 1 ≤ 6) := by
          rcases (by omega : W = 1 ∨ W = 2 ∨ W = 3 ∨ W = 4 ∨ W = 5 ∨ W = 6) with rfl | rfl | rfl | rfl | rfl | rfl <;> exact ⟨_, _, rfl, rfl, rfl, rfl, fun h => by omega⟩
        have HX := Lib.hid hX
        clear hX hY
        by_cases hle : X ≤ P
        · have hW5 := hXP hle
          have HLE := Lib.hid hle
          have hb : decide (X ≤ P) = true := by simp; exact hle
          clear hle hXP
          go_wp2_with fail
          go_roundw
          case rel => exact ⟨W + 1, by omega, hW5, by go_num, Lib.hid (by rw [HX.out]; exact HLE.out), trivial⟩
          case measure => simp [intOf]; omega
        · have HGT : Hid (P < (W + 1) * (W + 1) * (W + 1)) := Lib.hid (by rw [HX.out]; omega)
          have hb : decide (X ≤ P) = false := by simp; omega
          clear hle hXP
          obtain ⟨K, hKk, hKl⟩ : ∃ K : UInt32, keysL[k]? = some K ∧ third W k = W * 4294967296 + K.toNat := by
            have e : keysL[k]? = some (keysL[k]'(by show k < 64; exact hk)) := List.getElem?_eq_getElem _
            exact ⟨_, e, by rw [third, List.getD_eq_getElem?_getD, e]; rfl⟩
          have hcK : wr.cell? ⟨gt, 8 + k, none⟩ = some (.int .u32 (K.toNat : Int)) := hTw.cell_ (k := 8 + k) (by
            rw [List.getElem?_map, List.getElem?_append_right (by show 8 ≤ 8 + k; omega), show 8 + k - firstL.length = k from by show 8 + k - 8 = k; omega, hKk]; rfl)
          have hKlt := K.toNat_lt
          have hor : bits .or .u64 ((W : Int) * 4294967296) (K.toNat : Int) = ((third W k : Nat) : Int) := by
            rw [hKl]; exact or_word W _ (by omega) hKlt
          have hC : third W k < 1099511627775 := by omega
          obtain ⟨ht1, ht2⟩ := thirds k W hk (by omega) (by rw [hPD]; exact HW.out) (by rw [hPD]; exact HGT.out)
          rw [hPD] at ht1 ht2
          generalize third W k = C at *
          have q1 := fun W' => cube_any C P (by omega) hP3 true ht1 W'
          have q2 := fun W' => cube_any (C + 1) P (by omega) hP3 false ht2 W'
          clear hKk hKl ht1 ht2
          by_cases hk8 : k < 8
          · have hb8 : decide (8 ≤ k) = false := by simp; omega
            go_wp2_with fail
            refine (q1 _).mono ?_
            rintro e w' ⟨rfl, rfl⟩
            go_wp2_with fail
            refine (q2 _).mono ?_
            rintro e w' ⟨rfl, rfl⟩
            clear q1 q2 hor hcK hC hKlt
            have hP19 := p64_small k hk8
            rw [hPD] at hP19
            go_wp2_with fail
            go_loopw [11] (fun v wq => ∃ V : Nat, 1 ≤ V ∧ V ≤ 4 ∧ v = .int .u64 (V : Int) ∧ Hid (V * V ≤ P) ∧ wq = w') (fun v _ => 7 - (intOf v).toNat)
            case atStart => exact ⟨1, by omega, by omega, rfl, Lib.hid (by omega), rfl⟩
            case round =>
              obtain ⟨V, hV1, hV4, rfl, HV, rfl⟩ := hrel
              obtain ⟨Z, hZ, f2, hZP⟩ : ∃ Z : Nat, (V + 1) * (V + 1) = Z ∧ IntKind.u64.wrap (((V : Int) + 1) * ((V : Int) + 1)) = (Z : Int) ∧ (Z ≤ P → V + 1 ≤ 4) := by
                rcases (by omega : V = 1 ∨ V = 2 ∨ V = 3 ∨ V = 4) with rfl | rfl | rfl | rfl <;> exact ⟨_, rfl, rfl, fun h => by omega⟩
              have HZ := Lib.hid hZ
              clear hZ
              by_cases hle : Z ≤ P
              · have hV5 := hZP hle
                have HLE := Lib.hid hle
                have hb : decide (Z ≤ P) = true := by simp; exact hle
                clear hle hZP
                go_wp2_with fail
                go_roundw
                case rel => exact ⟨V + 1, by omega, hV5, by go_num, Lib.hid (by rw [HZ.out]; exact HLE.out), trivial⟩
                case measure => simp [intOf]; omega
              · have HGT2 : Hid (P < (V + 1) * (V + 1)) := Lib.hid (by rw [HZ.out]; omega)
                have hb : decide (Z ≤ P) = false := by simp; omega
                clear hle hZP
                obtain ⟨G, hGk, hGl⟩ : ∃ G : UInt32, firstL[k]? = some G ∧ second V k = V * 4294967296 + G.toNat := by
                  have e : firstL[k]? = some (firstL[k]'(by show k < 8; exact hk8)) := List.getElem?_eq_getElem _
                  exact ⟨_, e, by rw [second, List.getD_eq_getElem?_getD, e]; rfl⟩
                have hcG := hTw.cell_ (k := k) (u := .int .u32 (G.toNat : Int)) (by
                  rw [List.getElem?_map, List.getElem?_append_left (by show k < 8; exact hk8), hGk]; rfl)
                have hGlt := G.toNat_lt
                have hor2 : bits .or .u64 ((V : Int) * 4294967296) (G.toNat : Int) = ((second V k : Nat) : Int) := by
                  rw [hGl]; exact or_word V _ (by omega) hGlt
                have hD : second V k < 1099511627775 := by omega
                obtain ⟨hs1, hs2, hs3⟩ := seconds k V hk8 (by omega) (by rw [hPD]; exact HV.out) (by rw [hPD]; exact HGT2.out)
                rw [hPD] at hs1 hs2
                generalize second V k = D at *
                have q3 := fun W' => mul64_any D D (by omega) (by omega) W'
                have q4 := fun W' => mul64_any (D + 1) (D + 1) (by omega) (by omega) W'
                rw [hs2] at q4
                generalize (D + 1) * (D + 1) % 18446744073709551616 = low2 at *
                generalize D * D % 18446744073709551616 = low1 at *
                generalize D * D / 18446744073709551616 = high1 at *
                have b1 : decide (high1 < P) = true := by simp; exact hs1
                have b2 : decide ((P : Int) < (P : Int)) = false := by simp
                have b2' : decide (P < P) = false := by simp
                have b3 : ((P : Int) == (P : Int)) = true := by simp
                have b4 : decide (0 < low2) = true := by simp; omega
                have b5 : decide ((0 : Int) < (low2 : Int)) = true := by simp; omega
                clear hGk hGl hs1 hs2 hs3
                go_wp2_with fail
                refine (q3 _).mono ?_
                rintro e w7 ⟨rfl, rfl⟩
                go_wp2_with fail
                refine (q4 _).mono ?_
                rintro e w8 ⟨rfl, rfl⟩
                clear q3 q4 hD hor2 hcG hGlt
                go_wp2_with fail
                refine (awake2_any _).mono ?_
                rintro e w6 ⟨rfl, hB6⟩
                go_wp2_with fail
                go_ret
                exact ⟨rfl, Below.then_ hBw hB6⟩
          · have hb8 : decide (8 ≤ k) = true := by simp; omega
            go_wp2_with fail
            refine (q1 _).mono ?_
            rintro e w' ⟨rfl, rfl⟩
            go_wp2_with fail
            refine (q2 _).mono ?_
            rintro e w' ⟨rfl, rfl⟩
            clear q1 q2 hor hcK hC hKlt
            go_wp2_with fail
            refine (awake2_any _).mono ?_
            rintro e w6 ⟨rfl, hB6⟩
            go_wp2_with fail
            go_ret
            exact ⟨rfl, Below.then_ hBw hB6⟩
end Go.Proofs.Ytmkpopfaaebgfaa
