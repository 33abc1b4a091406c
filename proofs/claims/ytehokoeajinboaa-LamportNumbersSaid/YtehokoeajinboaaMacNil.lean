/-
  mac by a table that is none, for keys of one block; what is so made is a digest of noughts.
-/
import Derived.Test.YtehokoeajinboaaMacMac
import Derived.Test.YtehokoeajinboaaShaNil
namespace Go.Proofs.Ytehokoeajinboaa
open Go.RowKit
set_option linter.unusedVariables false

def zF : List UInt8 → List UInt8 := fun _ => List.replicate 32 0
theorem zF_len (b : List UInt8) : (zF b).length = 32 := by simp [zF]
def keyZ (key : List UInt8) : List UInt8 := keyF (List.replicate 8 0) [] key
set_option maxHeartbeats 1000000 in
set_option maxRecDepth 100000 in
theorem keyBlock_nil (A : Option Addr) (n c : Nat) (key : List UInt8) (w : World) (hA : Sees w w.heap.size A (cb key)) (hn : key.length = n) (hnc : n ≤ c) (h64 : n ≤ 64) :
    Calls Try.prog 71 #[.pointer none, .slice A n c] w fun e w' => e = .returned (.agg (cb (keyZ key)).toArray) ∧ Below w.heap.size w w' := by
  have hl64 : (keyZ key).length = 64 := keyF_len (List.replicate 8 0) [] key (by simp)
  have HN := Lib.hid hn
  have HL := Lib.hid hl64
  clear hl64
  · have hke : splice (List.replicate 64 0) 0 (key.take n) = keyZ key := by
      unfold keyZ keyF
      rw [hn, decide_eq_true h64, List.take_of_length_le (by omega)]
    have hmin : Nat.min n 64 = n := Nat.min_eq_left h64
    have HMIN := Lib.hid hmin
    clear hmin hn
    go_enter Try.func71, Try.ntmps71
    go_wp2_with (first
      | (with_reducible refine wpList_alloc (o := ⟨some 4, _, _, _, _, _⟩) rfl 118 rfl (cb (List.replicate 64 0)) (by kernel_rfl) 64 (by simp) (by decide) ?_; intro gr w1 hgr hFr hBr)
      | (with_reducible refine wpList_alloc (o := ⟨some 5, _, _, _, _, _⟩) rfl 118 rfl (cb (List.replicate 64 0)) (by kernel_rfl) 64 (by simp) (by decide) ?_; intro gb w2 hgb hFb hBb; have hsl := sl64_all gb; have z1 := hBr.size; have hB2 := Below.then_ hBr hBb; have hF2 := hFb.lower z1; have hR2 := hFr.below hBb; have dr := hFr.lt_size; have hrb := Nat.lt_of_lt_of_le dr hFb.block.2; have hA2 := hA.step hB2)
      | (with_reducible refine wpList_copyA rfl (.tmp 16) (.tmp 17) rfl _ _ _ _ _ _ rfl rfl 118 gb 64 0 n w.heap.size (List.replicate 64 0) key hF2 HMIN.out HN.out (fun _ => rfl) hA2 (by omega) ?_; intro w3 hF3 hB3; rw [hke] at hF3; have hR3 : Fresh w.heap.size 118 w3 (some ⟨gr, 0, none⟩) 64 64 (cb (List.replicate 64 0)) := Fresh.of_block ((hB3.block gr hrb).trans hR2.block.1) hR2.block.2 hR2.len hR2.cap.2; have hB03 : Below w.heap.size w w3 := hB2.trans (hB3.mono (Nat.le_trans z1 hFb.block.2)))
      | (with_reducible refine wpList_load (o := ⟨some 19, _, _, _, _, _⟩) rfl (.tmp 5) 118 rfl gb 0 _ rfl (cb (keyZ key)) 64 (by simp [HL.out]) (by kernel_rfl) hF3.sees ?_)
      | (with_reducible refine wpList_store rfl rfl (.tmp 4) (.tmp 19) 118 rfl gr 0 w.heap.size 118 64 (cb (List.replicate 64 0)) (cb (keyZ key)) rfl rfl 64 (by simp [HL.out]) (by kernel_rfl) hR3 (by omega) (cb_one _) w hB03 (by omega) ?_; intro w5 hF5 hB5 hoth5 hz5))
    rw [show splice (cb (List.replicate 64 (0 : UInt8))) 0 (cb (keyZ key)) = cb (keyZ key) from by have := HL.out; simp [splice, this]] at hF5
    refine bodyPost_cell rfl rfl (cb (keyZ key)) 64 (by simp [HL.out]) (by kernel_rfl) hF5.sees rfl ⟨rfl, hB5⟩
set_option maxHeartbeats 1000000 in
set_option maxRecDepth 100000 in
theorem mdigest_nil (A : Option Addr) (n c : Nat) (ps : List Pb) (w : World) (hp : Parts w A n ps) (hn7 : n ≤ 7) :
    Calls Try.prog 73 #[.pointer none, .slice A n c] w fun e w' => e = .returned (.agg (cb (List.replicate 32 (0 : UInt8))).toArray) ∧ Below w.heap.size w w' := by
  have HP := Lib.hid hp
  have hlo : (List.replicate 32 (0 : UInt8)).length = 32 := by simp
  have HLO := Lib.hid hlo
  clear hlo hp
  go_enter Try.func73, Try.ntmps73
  go_wp2_with (first
    | (with_reducible refine wpList_alloc (o := ⟨some 4, _, _, _, _, _⟩) rfl 32 rfl (cb (List.replicate 32 0)) (by kernel_rfl) 32 (by simp) (by decide) ?_; intro gr w1 hgr hFr hBr)
    | (go_at_call 122; refine (New_nil _).mono ?_; rintro e w2 ⟨rfl, hB2⟩; have hB02 := Below.then_ hBr hB2)
    | (with_reducible refine wpList_alloc (o := ⟨some 5, _, _, _, _, _⟩) rfl 179 rfl (hz (List.replicate 8 0) (.slice none 0 0) 0) (by kernel_rfl) 10 (by simp [hz]) (by decide) ?_; intro gh w3 hgh hFh hB3; have hB03 := Below.then_ hB02 hB3; have hFr3 := (hFr.below hB2).below hB3)
    | (with_reducible refine wpList_store rfl rfl (.tmp 5) (.tmp 9) 179 rfl gh 0 _ 179 10 (hz (List.replicate 8 0) (.slice none 0 0) 0) (hz (List.replicate 8 0) (.slice none 0 0) 0) rfl rfl 10 (by simp [hz]) (by kernel_rfl) hFh (by omega) (hz_one _ _ _ rfl) w hB03 (by have := hB02.size; omega) ?_; intro w4 hF4 hB4 ho4 hz4))
  have e0 : splice (hz (List.replicate 8 0) (.slice none 0 0) 0) 0 (hz (List.replicate 8 0) (.slice none 0 0) 0) = hz (List.replicate 8 0) (.slice none 0 0) 0 := hz_over (by simp) (by simp)
  rw [e0] at hF4
  have z3 := hB03.size
  have hF4' : Fresh w.heap.size 179 w4 (some ⟨gh, 0, none⟩) 10 10 (hz (List.replicate 8 0) (.slice none 0 0) 0) := hF4.lower (by have := hB02.size; omega)
  have lr := hFr3.lt_size
  have lr2 := hFr.lt_size
  have z2 := hB2.size
  have hFr4 : Fresh w.heap.size 32 w4 (some ⟨gr, 0, none⟩) 32 32 (cb (List.replicate 32 0)) := hFr3.other (by omega) ho4
  have nrh : gr ≠ gh := by omega
  have hwg : w.heap.size ≤ gh := by have := hB02.size; omega
  clear hBr hB2 hB02 hFr hFh hB3 hB03 hFr3 hF4 ho4 hz4 e0
  go_loopw [12] (fun i wr => ∃ (j : Nat) (R : Option Addr) (cr : Nat), j ≤ n ∧ i = .int .i64 (j : Int) ∧ Fresh w.heap.size 179 wr (some ⟨gh, 0, none⟩) 10 10 (hz (List.replicate 8 0) (.slice R 0 cr) 0) ∧ Sees wr wr.heap.size R (cb []) ∧ Fresh w.heap.size 32 wr (some ⟨gr, 0, none⟩) 32 32 (cb (List.replicate 32 0)) ∧ Below w.heap.size w wr) (fun i _ => n - (intOf i).toNat)
  case atStart => exact ⟨0, none, 0, by omega, rfl, hF4', Sees.nil, hFr4, hB4⟩
  case round =>
    obtain ⟨j, R, cr, hj, rfl, hFj, hRj, hrj, hBj⟩ := hrel
    clear hF4' hFr4 hB4
    have hst : (List.replicate 8 (0 : UInt32)).length = 8 := by simp
    have hz10 : (hz (List.replicate 8 0) (.slice R 0 cr) 0).length = 10 := hz_len _ _ _ hst
    by_cases hlt : j < n
    · have HLT := Lib.hid hlt
      obtain ⟨g, o, rfl, p, HK, hpo, hcell⟩ := (HP.out.step hBj).at_ hlt
      have hp1 := hpo.sees
      have hp2 := hpo.len
      have hp3 := hpo.cap
      obtain ⟨Ap, mp, cp, lp⟩ := p
      simp only at hp1 hp2 hp3 hcell
      have HP2 := Lib.hid hp2
      have HST := Lib.hid hst
      have HZ := Lib.hid hz10
      have HP3 := Lib.hid hp3
      clear hp2 hpo hst hz10 hp3
      have hW := fun (w' : World) (x : Below wr.heap.size wr w') => Write_nil (List.replicate 8 0) R Ap 0 cr mp cp 0 [] w' HST.out (hRj.step x) rfl (by omega)
      go_wp2_with (with_reducible refine wpList_load (o := ⟨some 17, _, _, _, _, _⟩) rfl (.tmp 5) 179 rfl gh 0 _ rfl (hz (List.replicate 8 0) (.slice R 0 cr) 0) 10 HZ.out (by kernel_rfl) hFj.sees ?_)
      refine (hW _ (Below.refl _ _)).mono ?_
      rintro e w5 ⟨A3, c3, rfl, hF5, hB5⟩
      have hFj5 := hFj.below hB5
      have hrj5 := hrj.below hB5
      have hB05 := Below.then_ hBj hB5
      have HL9 : Hid ((hz (List.replicate 8 0) (.slice A3 0 c3) 0).length = 10) := Lib.hid (hz_len _ _ _ HST.out)
      clear hW
      go_wp2_with (with_reducible refine wpList_store rfl rfl (.tmp 5) (.tmp 19) 179 rfl gh 0 w.heap.size 179 10 (hz (List.replicate 8 0) (.slice R 0 cr) 0) (hz (List.replicate 8 0) (.slice A3 0 c3) 0) rfl rfl 10 HL9.out (by kernel_rfl) hFj5 (by omega) (hz_one _ _ _ rfl) w hB05 hwg ?_; intro w6 hF6 hB6 ho6 hz6)
      rw [hz_over HST.out HST.out] at hF6
      have h65 : Sees w6 w6.heap.size A3 (cb []) := by
        have h8 := hF5.others (w' := w6) fun k hk => ho6 k (by have := hFj.lt_size; omega)
        exact h8.sees
      go_roundw
      case rel => exact ⟨j + 1, A3, c3, (by have := HLT.out; omega), by go_num, hF6, h65, hrj5.other nrh ho6, hB6⟩
      case measure => (have := HLT.out); simp [intOf]; omega
    · obtain rfl : j = n := by omega
      have HST := Lib.hid hst
      have HZ := Lib.hid hz10
      clear hst hz10
      have hS := fun (w' : World) => Sum_nil (List.replicate 8 0) R 0 cr 0 w' HST.out
      go_wp2_with (with_reducible refine wpList_load (o := ⟨some 22, _, _, _, _, _⟩) rfl (.tmp 5) 179 rfl gh 0 _ rfl (hz (List.replicate 8 0) (.slice R 0 cr) 0) 10 HZ.out (by kernel_rfl) hFj.sees ?_)
      refine (hS _).mono ?_
      rintro e w5 ⟨rfl, hB5⟩
      have hrj5 := hrj.below hB5
      have hB05 := Below.then_ hBj hB5
      clear hS
      go_wp2_with (with_reducible refine wpList_store rfl rfl (.tmp 4) (.tmp 23) 32 rfl gr 0 w.heap.size 32 32 (cb (List.replicate 32 0)) (cb (List.replicate 32 (0 : UInt8))) rfl rfl 32 (by rw [List.length_map]; exact HLO.out) (by kernel_rfl) hrj5 (by omega) (cb_one _) w hB05 (by omega) ?_; intro w9 hF9 hB9 _ _)
      have e : splice (cb (List.replicate 32 0)) 0 (cb (List.replicate 32 (0 : UInt8))) = cb (List.replicate 32 (0 : UInt8)) := by
        simp [splice]
      rw [e] at hF9
      exact bodyPost_cell rfl rfl (cb (List.replicate 32 (0 : UInt8))) 32 (by rw [List.length_map]; exact HLO.out) (by kernel_rfl) hF9.sees rfl ⟨rfl, hB9⟩
def outZ (g9 gi : Nat) (y z : List UInt8) (k : Nat) (v : Value) (w : World) : Prop :=
  match k with
  | 0 => v = .pointer none
  | 1 => v = .slice (some ⟨g9, 0, none⟩) 64 64
  | 2 => v = .slice (some ⟨gi, 0, none⟩) 32 32
  | 3 => ∃ A, v = .slice A 2 2 ∧ Parts w A 2 [⟨some ⟨g9, 0, none⟩, 64, 64, y⟩, ⟨some ⟨gi, 0, none⟩, 32, 32, z⟩]
  | _ => True
theorem outZ_stab (g9 gi : Nat) (y z : List UInt8) : ∀ k v w w', Below w.heap.size w w' → outZ g9 gi y z k v w → outZ g9 gi y z k v w' := fun k v w w' hb h =>
  match k, h with
  | 0, h => h
  | 1, h => h
  | 2, h => h
  | 3, ⟨A, e, h⟩ => ⟨A, e, h.step hb⟩
  | _ + 4, _ => trivial
set_option maxHeartbeats 2000000 in
set_option maxRecDepth 100000 in
theorem Mac_nil (A B : Option Addr) (n c m d : Nat) (key b : List UInt8) (w : World) (hA : Sees w w.heap.size A (cb key)) (hn : key.length = n) (hnc : n ≤ c) (h64 : n ≤ 64) (hB : Sees w w.heap.size B (cb b)) (hm : b.length = m) (hmd : m ≤ d) (hd : m ≤ 1000000000000) :
    Calls Try.prog 15 #[.pointer none, .slice A n c, .slice B m d] w fun e w' => e = .returned (.agg (cb (zF b)).toArray) ∧ Below w.heap.size w w' := by
  have HM := Lib.hid hm
  have HN := Lib.hid hn
  have HK : Hid ((keyZ key).length = 64) := Lib.hid (keyF_len (List.replicate 8 0) [] key (by simp))
  clear hm hn
  go_enter Try.func15, Try.ntmps15
  go_upto_region 2 with (first
    | (with_reducible refine wpList_alloc (o := ⟨some 6, _, _, _, _, _⟩) rfl 32 rfl (cb (List.replicate 32 0)) (by kernel_rfl) 32 (by simp) (by decide) ?_; intro gr w1 hgr hFr hBr)
    | (go_at_call 71; refine (keyBlock_nil A n c key _ (hA.step hBr) HN.out hnc h64).mono ?_; rintro e w2 ⟨rfl, hB2⟩; have hB02 := Below.then_ hBr hB2; have z1 := hBr.size; have z2 := hB2.size)
    | (with_reducible refine wpList_alloc (o := ⟨some 7, _, _, _, _, _⟩) rfl 118 rfl (cb (List.replicate 64 0)) (by kernel_rfl) 64 (by simp) (by decide) ?_; intro gk w3 hgk hFk hB3; have hB03 := Below.then_ hB02 hB3; have hFr3 := (hFr.below hB2).below hB3)
    | (with_reducible refine wpList_store rfl rfl (.tmp 7) (.tmp 13) 118 rfl gk 0 _ 118 64 (cb (List.replicate 64 0)) (cb (keyZ key)) rfl rfl 64 (by simp [HK.out]) (by kernel_rfl) hFk (by omega) (cb_one _) w hB03 (by omega) ?_; intro w4 hF4 hB4 ho4 hz4))
  have e0 : splice (cb (List.replicate 64 0)) 0 (cb (keyZ key)) = cb (keyZ key) := by
    have := HK.out
    simp [splice, this]
  rw [e0] at hF4
  obtain ⟨kb, hkb⟩ : ∃ kb, keyZ key = kb := ⟨_, rfl⟩
  have hmac : zF b = zF (turnF kb 92 ++ zF (turnF kb 54 ++ b)) := rfl
  rw [hkb] at HK
  have HX : Hid ((turnF kb 54).length = 64) := Lib.hid (by rw [turnF_len]; exact HK.out)
  have HY : Hid ((turnF kb 92).length = 64) := Lib.hid (by rw [turnF_len]; exact HK.out)
  have hGk : Fresh w.heap.size 118 w4 (some ⟨gk, 0, none⟩) 64 64 (cb kb) := by rw [← hkb]; exact Fresh.lower hF4 (by omega)
  have z3 := hB3.size
  have hGr : Fresh w.heap.size 32 w4 (some ⟨gr, 0, none⟩) 32 32 (cb (List.replicate 32 0)) := hFr3.other (by have := hFr.lt_size; omega) ho4
  have HMAC := Lib.hid hmac
  have z4 := hB4.size
  have lr := hGr.lt_size
  have lk := hGk.lt_size
  clear hmac hkb e0 hF4 hFr3 hFk hB3 hB03 hB2 hB02 hFr hBr ho4 hz4 hA hnc h64
  obtain ⟨x, hx⟩ : ∃ x, turnF kb 54 = x := ⟨_, rfl⟩
  obtain ⟨y, hy⟩ : ∃ y, turnF kb 92 = y := ⟨_, rfl⟩
  rw [hx] at HX HMAC
  rw [hy] at HY HMAC
  have HTX := Lib.hid hx
  have HTY := Lib.hid hy
  clear hx hy
  have mt : ∀ (z : List UInt8) (c : UInt8) (w' : World), turnF kb c = z → Calls Try.prog 72 #[.agg (cb kb).toArray, .int .u8 (c.toNat : Int)] w' fun e w2 => e = .returned (.agg (cb z).toArray) ∧ Below w'.heap.size w' w2 := fun z c w' h => by
    rw [← h]
    exact mturned_any kb c w' HK.out
  have hmx := fun w' h => mt x 54 w' h
  have hmy := fun w' h => mt y 92 w' h
  refine region_L (mkFacts kb x y) (mkJ w w4.heap.size gk gr kb x y) (by kernel_rfl) (by kernel_rfl) ⟨⟨hB4.os, hB4.tape, hB4.output, hB4.size, hB4.block⟩, Nat.le_refl _, hGk.below ⟨rfl, rfl, rfl, Nat.le_refl _, fun _ _ => rfl⟩, hGr.below ⟨rfl, rfl, rfl, Nat.le_refl _, fun _ _ => rfl⟩, (by intro h; rw [getD_replicate_false] at h; cases h), (by intro h; rw [getD_replicate_false] at h; cases h), (by intro h; rw [getD_replicate_false] at h; cases h), (by intro h; rw [getD_replicate_false] at h; cases h)⟩ ?_ ?_
  · refine ⟨?_, ?_, ?_, ?_, ?_, ?_, ?_, ?_, trivial⟩
    all_goals intro listed a1 w' hk h1 hd
    · have f2 : a1.eval (.tmp 7) = .pointer (some ⟨gk, 0, none⟩) := hk.ev_old 7 (by kernel_rfl)
      exact stepL_value rfl (run_load_agg (.tmp 7) 118 rfl f2 (cb kb) 64 (by simp [HK.out]) (by kernel_rfl) hk.inv.2.2.1.sees) rfl (hk.inv.other 0 14 _ (by omega) (by omega))
    · obtain ⟨v0, e0, q0, rfl, l0⟩ := hk.ev_new hd 0 14 (by kernel_rfl) rfl
      refine stepL_enter rfl (f := 72) (args := #[.agg (cb kb).toArray, .int .u8 54]) (by go_simp) ?_
      refine (hmx w' HTX.out).mono ?_
      rintro e w5 ⟨rfl, hB5⟩
      exact ⟨_, rfl, rfl, (hk.inv.below hB5).other 1 15 _ (by omega) (by omega), fun _ _ h => h⟩
    · have f2 : a1.eval (.tmp 7) = .pointer (some ⟨gk, 0, none⟩) := hk.ev_old 7 (by kernel_rfl)
      exact stepL_value rfl (run_load_agg (.tmp 7) 118 rfl f2 (cb kb) 64 (by simp [HK.out]) (by kernel_rfl) hk.inv.2.2.1.sees) rfl (hk.inv.other 2 16 _ (by omega) (by omega))
    · obtain ⟨v2, e2, q2, rfl, l2⟩ := hk.ev_new hd 2 16 (by kernel_rfl) rfl
      refine stepL_enter rfl (f := 72) (args := #[.agg (cb kb).toArray, .int .u8 92]) (by go_simp) ?_
      refine (hmy w' HTY.out).mono ?_
      rintro e w5 ⟨rfl, hB5⟩
      exact ⟨_, rfl, rfl, (hk.inv.below hB5).other 3 17 _ (by omega) (by omega), fun _ _ h => h⟩
    · refine stepL_run rfl (v := .pointer (some ⟨w'.heap.size, 0, none⟩)) (w' := w'.alloc (.cells (cb zer64).toArray 118 (0, 0))) ?_ trivial (hk.inv.made8 (by rw [hk.size]; exact (show (9 : Nat) < 28 by decide)) h1 ((Fresh.new w' 118 (cb zer64) 64 (by simp [zer64]) (by decide)).lower hk.inv.2.1) (below_alloc w' _)) (fun _ _ h => h)
      · simp only [execOp]
        rw [Sem.run_bind, run_alloc_zero 118 (cb zer64) (by kernel_rfl)]
        rfl
    · refine stepL_run rfl (v := .pointer (some ⟨w'.heap.size, 0, none⟩)) (w' := w'.alloc (.cells (cb zer64).toArray 118 (0, 0))) ?_ trivial (hk.inv.made9 (by rw [hk.size]; exact (show (9 : Nat) < 28 by decide)) h1 ((Fresh.new w' 118 (cb zer64) 64 (by simp [zer64]) (by decide)).lower hk.inv.2.1) (below_alloc w' _)) (fun _ _ h => h)
      · simp only [execOp]
        rw [Sem.run_bind, run_alloc_zero 118 (cb zer64) (by kernel_rfl)]
        rfl
    · obtain ⟨v1, e1, q1, rfl, l1⟩ := hk.ev_new hd 1 15 (by kernel_rfl) rfl
      obtain ⟨v4, e4, q4, _, l4⟩ := hk.ev_new hd 4 8 (by kernel_rfl) rfl
      obtain ⟨g, hg, _⟩ := hk.inv.2.2.2.2.1 l4
      obtain ⟨hz, hJ⟩ := hk.inv.set8 h1 l4 hg ⟨lk, lr, by omega⟩ HX.out
      have f2 : a1.eval (.tmp 8) = .pointer (some ⟨g, 0, none⟩) := by rw [e4]; rw [q4] at hg; simpa using hg
      exact stepL_skip rfl rfl (run_store_agg (.tmp 8) (.tmp 15) 118 rfl f2 (cb x) e1 (by rw [show (cb x).length = 64 from by simp [HX.out]]; kernel_rfl) hz (by simp [HX.out]) (cb_one _)) trivial hJ (fun _ _ h => h)
    · obtain ⟨v3, e3, q3, rfl, l3⟩ := hk.ev_new hd 3 17 (by kernel_rfl) rfl
      obtain ⟨v5, e5, q5, _, l5⟩ := hk.ev_new hd 5 9 (by kernel_rfl) rfl
      obtain ⟨g, hg, _⟩ := hk.inv.2.2.2.2.2.1 l5
      obtain ⟨hz, hJ⟩ := hk.inv.set9 h1 l5 hg ⟨lk, lr, by omega⟩ HY.out
      have f2 : a1.eval (.tmp 9) = .pointer (some ⟨g, 0, none⟩) := by rw [e5]; rw [q5] at hg; simpa using hg
      exact stepL_skip rfl rfl (run_store_agg (.tmp 9) (.tmp 17) 118 rfl f2 (cb y) e3 (by rw [show (cb y).length = 64 from by simp [HY.out]]; kernel_rfl) hz (by simp [HY.out]) (cb_one _)) trivial hJ (fun _ _ h => h)
  · intro listed a1 w6 hJ hall hp
    obtain ⟨v0, p0, v1, p1, v2, p2, v3, p3, v4, p4, v5, p5, rfl⟩ := hp
    simp only [mkFacts] at p0 p1 p2 p3 p4 p5
    subst p0 p1 p2 p3
    obtain ⟨k1, k2, k3, k4, k5, k6, -⟩ := hJ
    obtain ⟨g8, a8, hF8, hne⟩ := k5 (hall 4 (by decide))
    obtain ⟨g9, a9, q9⟩ := k6 (hall 5 (by decide))
    rw [hall 6 (by decide)] at hF8
    rw [hall 7 (by decide)] at q9
    have hne := hne (hall 5 (by decide))
    simp only [Act.put, List.setIfInBounds_toArray, List.set_cons_succ, List.set_cons_zero] at a8 a9 hne ⊢
    obtain rfl : v4 = .pointer (some ⟨g8, 0, none⟩) := by simpa using a8
    obtain rfl : v5 = .pointer (some ⟨g9, 0, none⟩) := by simpa using a9
    have n89 : g8 ≠ g9 := fun e => hne (by rw [e]; simp)
    have s8 := sl64_all g8
    have s9 := sl64_all g9
    clear hne p4 p5 a8 a9 hall k5 k6 hmx hmy mt
    have hb6 := hB.step k1
    go_wp2_with fail
    have hP1 : ∀ (e : TypeId) (C : Array Value) (hC : C = [Value.slice (some ⟨g8, 0, none⟩) 64 64, Value.slice B m d].toArray), Parts (w6.alloc (.cells C e)) (some ⟨w6.heap.size, 0, none⟩) 2 [⟨some ⟨g8, 0, none⟩, 64, 64, x⟩, ⟨B, m, d, b⟩] := fun e C hC => parts_two w6 e C ⟨some ⟨g8, 0, none⟩, 64, 64, x⟩ ⟨B, m, d, b⟩ hC ⟨hF8.sees, HX.out, Nat.le_refl _⟩ ⟨hb6, HM.out, hmd⟩
    refine (mdigest_nil _ 2 2 _ _ (hP1 _ _ rfl) (by omega)).mono ?_
    rintro e w7 ⟨rfl, hB7⟩
    rw [show List.replicate 32 (0 : UInt8) = zF (x ++ b) from rfl]
    have hB67 := Below.then_ (below_alloc w6 _) hB7
    have HI : Hid ((zF (x ++ b)).length = 32) := Lib.hid (zF_len _)
    have hB07 := Below.then_ k1 hB67
    have z67 := hB67.size
    clear hP1
    go_upto_region 4 with (first
      | (with_reducible refine wpList_alloc (o := ⟨some 10, _, _, _, _, _⟩) rfl 32 rfl (cb (List.replicate 32 0)) (by kernel_rfl) 32 (by simp) (by decide) ?_; intro gi w8 hgi hFi hB8; have z8 := hB8.size)
      | (with_reducible refine wpList_store rfl rfl (.tmp 10) (.tmp 22) 32 rfl gi 0 _ 32 32 (cb (List.replicate 32 0)) (cb (zF (x ++ b))) rfl rfl 32 (by simp [HI.out]) (by kernel_rfl) hFi (by omega) (cb_one _) w (Below.then_ hB07 hB8) (by omega) ?_; intro w9 hF9 hB9 ho9 hz9))
    have e9 : splice (cb (List.replicate 32 0)) 0 (cb (zF (x ++ b))) = cb (zF (x ++ b)) := by
      have := HI.out
      simp [splice, this]
    rw [e9] at hF9
    have hB69 : Below w6.heap.size w6 w9 := ⟨hB9.os.trans k1.os.symm, hB9.tape.trans k1.tape.symm, hB9.output.trans k1.output.symm, by omega, fun k hk => (ho9 k (by omega)).trans ((Below.then_ hB67 hB8).block k hk)⟩
    have hF99 := Fresh.below q9 hB69
    have hGr9 := Fresh.below k4 hB69
    have hF9' : Fresh w7.heap.size 32 w9 (some ⟨gi, 0, none⟩) 32 32 (cb (zF (x ++ b))) := hF9
    have s10 := sl32_all gi
    simp only [Act.put, List.setIfInBounds_toArray, List.set_cons_succ, List.set_cons_zero]
    refine region_all_tail 4 (outZ g9 gi y (zF (x ++ b))) (by kernel_rfl) (by kernel_rfl) (by kernel_rfl) (outZ_stab _ _ _ _) ?_ ?_
    · intro w0 hb0
      simp only [List.take_succ_cons, List.take_zero]
      refine ⟨?_, ?_, ?_, ?_, trivial⟩
      all_goals intro listed a1 w' hk hd
      · have f2 := hk.ev_old 0 (by kernel_rfl)
        exact stepOk_value rfl (v := .pointer none) (by simp [execOp]; exact f2) rfl
      · have f2 : a1.eval (.tmp 9) = .pointer (some ⟨g9, 0, none⟩) := hk.ev_old 9 (by kernel_rfl)
        have f3 : a1.tmps[9]?.getD undef = .pointer (some ⟨g9, 0, none⟩) := by simpa [Act.eval] using f2
        exact stepOk_value rfl (v := .slice (some ⟨g9, 0, none⟩) 64 64) (by go_simp) rfl
      · have f2 : a1.eval (.tmp 10) = .pointer (some ⟨gi, 0, none⟩) := hk.ev_old 10 (by kernel_rfl)
        have f3 : a1.tmps[10]?.getD undef = .pointer (some ⟨gi, 0, none⟩) := by simpa [Act.eval] using f2
        exact stepOk_value rfl (v := .slice (some ⟨gi, 0, none⟩) 32 32) (by go_simp) rfl
      · obtain ⟨v1, e1, q1, rfl⟩ := hk.ev_new hd 1 24 (by kernel_rfl) rfl
        obtain ⟨v2, e2, q2, rfl⟩ := hk.ev_new hd 2 25 (by kernel_rfl) rfl
        have hbb := Below.then_ hb0 hk.below
        refine stepOk_run rfl (v := .slice (some ⟨w'.heap.size, 0, none⟩) 2 2) (w' := w'.alloc (.cells #[.slice (some ⟨g9, 0, none⟩) 64 64, .slice (some ⟨gi, 0, none⟩) 32 32] 27)) ?_ ⟨_, rfl, parts_two w' _ _ ⟨some ⟨g9, 0, none⟩, 64, 64, y⟩ ⟨some ⟨gi, 0, none⟩, 32, 32, zF (x ++ b)⟩ rfl ⟨(hF99.below hbb).sees, HY.out, Nat.le_refl _⟩ ⟨(hF9'.below hbb).sees, HI.out, Nat.le_refl _⟩⟩ (below_alloc w' _)
        go_simp
    intro a1 w10 hbw hp
    obtain ⟨v0, p0, v1, p1, v2, p2, v3, p3, rfl⟩ := hp
    simp only [outZ] at p0 p1 p2 p3
    obtain ⟨A2, rfl, hP2⟩ := p3
    subst p0 p1 p2
    simp only [List.drop_succ_cons, List.drop_zero, Act.put, List.setIfInBounds_toArray, List.set_cons_succ, List.set_cons_zero]
    have hGrq := hGr9.below hbw
    have hB0q := Below.then_ hB9 hbw
    go_wp2_with fail
    refine (mdigest_nil _ 2 2 _ w10 hP2 (by omega)).mono ?_
    rintro e w11 ⟨rfl, hB11⟩
    rw [show List.replicate 32 (0 : UInt8) = zF (y ++ zF (x ++ b)) from rfl]
    have HO : Hid ((zF (y ++ zF (x ++ b))).length = 32) := Lib.hid (zF_len _)
    have hGr11 := hGrq.below hB11
    have hB011 := Below.then_ hB0q hB11
    go_wp2_with (with_reducible refine wpList_store rfl rfl (.tmp 6) (.tmp 27) 32 rfl gr 0 w.heap.size 32 32 (cb (List.replicate 32 0)) (cb (zF (y ++ zF (x ++ b)))) rfl rfl 32 (by simp [HO.out]) (by kernel_rfl) hGr11 (by omega) (cb_one _) w hB011 (by omega) ?_; intro w12 hF12 hB12 _ _)
    have e12 : splice (cb (List.replicate 32 0)) 0 (cb (zF (y ++ zF (x ++ b)))) = cb (zF (y ++ zF (x ++ b))) := by
      have := HO.out
      simp [splice, this]
    rw [e12] at hF12
    exact bodyPost_cell rfl rfl (cb (zF (y ++ zF (x ++ b)))) 32 (by simp [HO.out]) (by kernel_rfl) hF12.sees rfl ⟨by rw [HMAC.out], hB12⟩
end Go.Proofs.Ytehokoeajinboaa
