/-
  BytesRound returns true for every input, and writes nothing that was there: the walk.
-/
import Derived.Test.YtbmolgfjdjpniaaReadOne
namespace Go.Proofs.Ytbmolgfjdjpniaa
open Go.RowKit
set_option linter.unusedVariables false

theorem elem49 : Try.prog.underlying 49 = some (.slice (Try.prog.elem 49)) := by kernel_rfl
/-- 'l[:k]' of pieces. -/
theorem run_cut49 {w : World} (A : Option Addr) (n c k : Nat) (hk : k ≤ c) : (Instr.slice 49 (.slice A n c) none (some (.int .i64 (k : Int))) none).run Try.prog w = .ok (.slice A k c) w := by
  have hz : (sizeOf (Try.prog.elem 49)).run Try.prog w = .ok 3 w := by kernel_rfl
  rw [run_slice_h w 49 A n c elem49 .i64 (k : Int) (by omega) (by omega), hz]
  simp only [Result.andThen, sliced, Int.toNat_natCast, Nat.zero_mul, Nat.sub_zero]
  cases A <;> simp [Addr.add]

set_option maxRecDepth 100000 in
set_option maxHeartbeats 2000000 in
theorem round_small (PA A B : Option Addr) (N pc n c m d : Nat) (ps : List Pc) (a b : List UInt8) (w : World) (hp : Sees w w.heap.size PA (pcs ps)) (hok : ∀ p ∈ ps, p.Ok w) (hN : ps.length = N) (hpc : N ≤ pc)
    (hs : Sees w w.heap.size A (cb a)) (ht : Sees w w.heap.size B (cb b)) (ha : a.length = n) (hb : b.length = m) (hle : N ≤ 30) :
    Calls Try.prog 5 #[.slice PA N pc, .slice A n c, .slice B m d] w fun e w' => e = .returned (.bool true) ∧ Below w.heap.size w w' := by
  have HN := Lib.hid hN
  have HA := Lib.hid ha
  have HB := Lib.hid hb
  have HO := Lib.hid hok
  clear hN ha hb hok
  have hcut := fun W => run_cut49 (w := W) PA N pc N hpc
  go_enter Try.func5, Try.ntmps5
  go_wp2_with fail
  clear hcut
  go_loopw [23] (fun i wr => ∃ k : Nat, k ≤ N ∧ i = .int .i64 k ∧ (∀ p ∈ ps.take k, p.b.length ≤ 100) ∧ Below w.heap.size w wr) (fun i _ => N - (intOf i).toNat)
  case atStart => exact ⟨0, by omega, rfl, by simp, Below.refl _ _⟩
  case round =>
    obtain ⟨k, hk, rfl, hm, hbr⟩ := hrel
    have HM := Lib.hid hm
    clear hm
    by_cases hlt : k < N
    · obtain ⟨g, o, rfl, hg, ⟨kd, x, D, mm, dd, bs⟩, HP, d0, d1, d2⟩ := (hp.step hbr).piece HN.out hlt
      have hlen : bs.length = mm := (HO.out _ (List.mem_of_getElem? HP.out)).len
      have HBL := Lib.hid hlen
      clear hlen
      have hba := fun ob => (Below.refl wr.heap.size wr).alloc (Nat.le_refl _) ob
      have HBA := Lib.hid hba
      clear hba
      by_cases h100 : 100 < mm
      · go_wp2_with (go_at_call 17; refine (awake_any _).mono ?_; rintro e w9 ⟨rfl, hB9⟩)
        go_ret
        exact ⟨rfl, Below.then_ hbr (Below.then_ (HBA.out _) hB9)⟩
      · go_wp2_with fail
        go_roundw
        case rel => 
          refine ⟨k + 1, by omega, by go_num, ?_, Below.then_ hbr (HBA.out _)⟩
          intro p hp
          rw [List.take_add_one, HP.out] at hp
          simp at hp
          rcases hp with hp | rfl
          · exact HM.out p hp
          · show bs.length ≤ 100
            rw [HBL.out]; omega
        case measure => simp [intOf]; omega
    · by_cases h1 : 100 < n
      · go_wp2_with (go_at_call 17; refine (awake_any _).mono ?_; rintro e w9 ⟨rfl, hB9⟩)
        go_ret
        exact ⟨rfl, Below.then_ hbr hB9⟩
      · by_cases h2 : 100 < m
        · go_wp2_with (go_at_call 17; refine (awake_any _).mono ?_; rintro e w9 ⟨rfl, hB9⟩)
          go_ret
          exact ⟨rfl, Below.then_ hbr hB9⟩
        · have hM : ∀ p ∈ ps, p.b.length ≤ 100 := fun p hp => HM.out p (by
            rw [List.take_of_length_le (by rw [HN.out]; omega)]; exact hp)
          obtain ⟨w0, hw0⟩ : ∃ w0, w0 = wr := ⟨_, rfl⟩
          rw [← hw0] at hbr ⊢
          clear hw0 HM
          have HM := Lib.hid hM
          clear hM
          have hel := encs_le ps HM.out
          rw [HN.out] at hel
          obtain ⟨E, hE⟩ : ∃ E, E = (encs ps).length := ⟨_, rfl⟩
          rw [← hE] at hel
          have HE := Lib.hid hE
          clear hE
          have hd1 : decide (100 < (n : Int)) = false := by simp; omega
          have hd2 : decide (100 < (m : Int)) = false := by simp; omega
          go_wp2_with fail
          refine (CopyBytes_any A c n a _ (hs.step hbr) HA.out (by omega)).mono ?_
          rintro e w1 ⟨A1, c1, rfl, hF1, hB1⟩
          have hb1 := Below.then_ hbr hB1
          go_wp2_with fail
          refine (written_any A1 PA c1 n N pc w0.heap.size a ps w1 hF1 hB1.size (hp.step hb1) (fun p hp => (HO.out p hp).step hb1) HM.out HN.out (by omega) (by omega)).mono ?_
          rw [← HE.out]
          rintro e w2 ⟨A2, c2, rfl, hF2, hB2⟩
          have hb2 := Below.then_ hb1 hB2
          have hb02 := Below.then_ hB1 hB2
          go_wp2_with (at_builtin; refine wpList_app8 rfl (.tmp 48) (.tmp 49) rfl A2 B (n + E) c2 m d (a ++ encs ps) b w0 rfl rfl hF2 (ht.step hb2) HB.out (by omega) hb02 ?_; intro A3 c3 w3 hF3 hB3)
          have hb3 := Below.then_ hbr hB3
          clear hF1 hF2 hB1 hB2 hb1 hb2 hb02 hB3 hd1 hd2
          go_loopw [11, 55] (fun v i wr => ∃ k q : Nat, k ≤ N ∧ i = .int .i64 k ∧ v = .int .i64 (q : Int) ∧ q = n + (encs (ps.take k)).length ∧ Below w3.heap.size w3 wr) (fun _ i _ => N - (intOf i).toNat)
          case atStart => exact ⟨0, n, by omega, rfl, rfl, by simp [encs], Below.refl _ _⟩
          case round =>
            obtain ⟨j, q, hj, rfl, rfl, hq, hbj⟩ := hrel
            have HQ := Lib.hid hq
            clear hq
            have hbw := Below.then_ hb3 hbj
            by_cases hlt2 : j < N
            · obtain ⟨g, o, rfl, hg, ⟨kd, x, D, mm, dd, bs⟩, HP, d0, d1, d2⟩ := (hp.step hbw).piece HN.out hlt2
              have hmem := List.mem_of_getElem? HP.out
              have hO := (HO.out _ hmem).step hbw
              have hmb : bs.length ≤ 100 := HM.out _ hmem
              have hml : bs.length = mm := hO.len
              have hmm : mm ≤ 100 := by omega
              have hen := enc_le ⟨kd, x, D, mm, dd, bs⟩ hmb
              obtain ⟨e, he⟩ : ∃ e, e = (Pc.enc ⟨kd, x, D, mm, dd, bs⟩).length := ⟨_, rfl⟩
              rw [← he] at hen
              have hen1 := hen.1
              have hen2 := hen.2
              have hstep := encs_take ps j _ HP.out
              have hsplit : encs ps = encs (ps.take j) ++ (Pc.enc ⟨kd, x, D, mm, dd, bs⟩ ++ encs (ps.drop (j + 1))) := by
                conv => lhs; rw [← List.take_append_drop (j + 1) ps]
                rw [encs, List.flatMap_append]
                show encs (ps.take (j + 1)) ++ encs (ps.drop (j + 1)) = _
                rw [hstep, List.append_assoc]
              have hL : (a ++ encs ps) ++ b = (a ++ encs (ps.take j)) ++ (Pc.enc ⟨kd, x, D, mm, dd, bs⟩ ++ (encs (ps.drop (j + 1)) ++ b)) := by
                rw [hsplit]; simp
              have hpre : ((q : Nat) : Int) = ((a ++ encs (ps.take j)).length : Int) := by rw [HQ.out, List.length_append, HA.out]
              have hqe : q + e = (a ++ encs (ps.take j)).length + (Pc.enc ⟨kd, x, D, mm, dd, bs⟩).length := by rw [← he, List.length_append, HA.out, HQ.out]
              have hlen3 : ((a ++ encs ps) ++ b).length = n + E + m := by rw [List.length_append, List.length_append, HA.out, HB.out, HE.out]
              have hq2 : q + e = n + (encs (ps.take (j + 1))).length := by rw [hstep, List.length_append, ← he, HQ.out]; omega
              have hqb : q ≤ 5000 := by
                have h5 := encs_le (ps.take j) (fun p hp => HM.out p (List.mem_of_mem_take hp))
                rw [List.length_take] at h5
                rw [HQ.out]; omega
              have HL := Lib.hid hL
              have HPre := Lib.hid hpre
              have HQE := Lib.hid hqe
              have HLen := Lib.hid hlen3
              have HQ2 := Lib.hid hq2
              have hba := fun ob => (Below.refl wr.heap.size wr).alloc (Nat.le_refl _) ob
              have HBA := Lib.hid hba
              clear hba hL hpre hqe hlen3 hq2 hsplit hstep hen he hmb hml hmem
              have hcap := hF3.cap
              go_wp2_with fail
              refine (read_any A3 D c3 (n + E + m) mm dd x (q + e) kd _ ((a ++ encs ps) ++ b) bs (a ++ encs (ps.take j)) (encs (ps.drop (j + 1)) ++ b) _ ((hF3.below hbj).sees.step (HBA.out _)) HLen.out hcap.1 (by omega) (hO.step (HBA.out _)) hmm HL.out HPre.out HQE.out).mono ?_
              rintro e1 w4 ⟨rfl, hB4⟩
              have hbn := Below.then_ hbj (Below.then_ (HBA.out _) hB4)
              clear d0 d1 d2 hB4 hO hcap
              go_wp2_with fail
              go_roundw
              case rel => exact ⟨j + 1, q + e, by omega, by go_num, rfl, HQ2.out, hbn⟩
              case measure => simp [intOf]; omega
            · obtain rfl : j = N := by omega
              have hqN : q = n + E := by rw [HQ.out, List.take_of_length_le (by rw [HN.out]; exact Nat.le_refl _), HE.out]
              have hqI : ((q : Nat) : Int) = (n : Int) + (E : Int) := by rw [hqN]; omega
              rw [hqI]
              clear hqI hqN
              go_wp2_with fail
              have hpre : ((a ++ encs ps) ++ b).take n = a := by
                rw [List.append_assoc, ← HA.out]
                exact List.take_left
              have hcut : Sees wr wr.heap.size A3 (cb a) := by
                have h6 := (hF3.below hbj).sees.take_ n
                rwa [show (cb ((a ++ encs ps) ++ b)).take n = cb (((a ++ encs ps) ++ b).take n) from by simp only [cb, List.map_take], hpre] at h6
              have hcap := hF3.cap.1
              clear hpre
              refine region_tail 14 (by kernel_rfl) (by kernel_rfl) ?_
              intro w8 hB8
              have s1 := run_str (hcut.step hB8) HA.out c3
              have s2 := run_str (hs.step (Below.then_ hbw hB8)) HA.out c
              have s3 := run_cut (w := w8) A3 (n + E + m) c3 n (by omega)
              clear hF3 hcut hcap
              simp only [List.take_succ_cons, List.take_zero, List.drop_succ_cons, List.drop_zero]
              repeat still_step
              refine wpStill_nil ?_
              clear s1 s2 s3
              go_wp2_with (go_at_call 17; refine (awake_any _).mono ?_; rintro e w9 ⟨rfl, hB9⟩)
              go_ret
              exact ⟨rfl, Below.then_ hbw (Below.then_ hB8 hB9)⟩
set_option maxRecDepth 100000 in
set_option maxHeartbeats 2000000 in
theorem round_big (PA A B : Option Addr) (N pc n c m d : Nat) (ps : List Pc) (a b : List UInt8) (w : World) (hp : Sees w w.heap.size PA (pcs ps)) (hok : ∀ p ∈ ps, p.Ok w) (hN : ps.length = 30) (hpc : N ≤ pc)
    (hs : Sees w w.heap.size A (cb a)) (ht : Sees w w.heap.size B (cb b)) (ha : a.length = n) (hb : b.length = m) (hle : 30 < N) :
    Calls Try.prog 5 #[.slice PA N pc, .slice A n c, .slice B m d] w fun e w' => e = .returned (.bool true) ∧ Below w.heap.size w w' := by
  have HN := Lib.hid hN
  have HA := Lib.hid ha
  have HB := Lib.hid hb
  have HO := Lib.hid hok
  clear hN ha hb hok
  have hcut : ∀ W, (Instr.slice 49 (.slice PA N pc) none (some (.int .i64 30)) none).run Try.prog W = .ok (.slice PA 30 pc) W := fun W => run_cut49 (w := W) PA N pc 30 (by omega)
  go_enter Try.func5, Try.ntmps5
  go_wp2_with fail
  clear hcut
  go_loopw [23] (fun i wr => ∃ k : Nat, k ≤ 30 ∧ i = .int .i64 k ∧ (∀ p ∈ ps.take k, p.b.length ≤ 100) ∧ Below w.heap.size w wr) (fun i _ => 30 - (intOf i).toNat)
  case atStart => exact ⟨0, by omega, rfl, by simp, Below.refl _ _⟩
  case round =>
    obtain ⟨k, hk, rfl, hm, hbr⟩ := hrel
    have HM := Lib.hid hm
    clear hm
    by_cases hlt : k < 30
    · obtain ⟨g, o, rfl, hg, ⟨kd, x, D, mm, dd, bs⟩, HP, d0, d1, d2⟩ := (hp.step hbr).piece HN.out hlt
      have hlen : bs.length = mm := (HO.out _ (List.mem_of_getElem? HP.out)).len
      have HBL := Lib.hid hlen
      clear hlen
      have hba := fun ob => (Below.refl wr.heap.size wr).alloc (Nat.le_refl _) ob
      have HBA := Lib.hid hba
      clear hba
      by_cases h100 : 100 < mm
      · go_wp2_with (go_at_call 17; refine (awake_any _).mono ?_; rintro e w9 ⟨rfl, hB9⟩)
        go_ret
        exact ⟨rfl, Below.then_ hbr (Below.then_ (HBA.out _) hB9)⟩
      · go_wp2_with fail
        go_roundw
        case rel => 
          refine ⟨k + 1, by omega, by go_num, ?_, Below.then_ hbr (HBA.out _)⟩
          intro p hp
          rw [List.take_add_one, HP.out] at hp
          simp at hp
          rcases hp with hp | rfl
          · exact HM.out p hp
          · show bs.length ≤ 100
            rw [HBL.out]; omega
        case measure => simp [intOf]; omega
    · by_cases h1 : 100 < n
      · go_wp2_with (go_at_call 17; refine (awake_any _).mono ?_; rintro e w9 ⟨rfl, hB9⟩)
        go_ret
        exact ⟨rfl, Below.then_ hbr hB9⟩
      · by_cases h2 : 100 < m
        · go_wp2_with (go_at_call 17; refine (awake_any _).mono ?_; rintro e w9 ⟨rfl, hB9⟩)
          go_ret
          exact ⟨rfl, Below.then_ hbr hB9⟩
        · have hM : ∀ p ∈ ps, p.b.length ≤ 100 := fun p hp => HM.out p (by
            rw [List.take_of_length_le (by rw [HN.out]; omega)]; exact hp)
          obtain ⟨w0, hw0⟩ : ∃ w0, w0 = wr := ⟨_, rfl⟩
          rw [← hw0] at hbr ⊢
          clear hw0 HM
          have HM := Lib.hid hM
          clear hM
          have hel := encs_le ps HM.out
          rw [HN.out] at hel
          obtain ⟨E, hE⟩ : ∃ E, E = (encs ps).length := ⟨_, rfl⟩
          rw [← hE] at hel
          have HE := Lib.hid hE
          clear hE
          have hd1 : decide (100 < (n : Int)) = false := by simp; omega
          have hd2 : decide (100 < (m : Int)) = false := by simp; omega
          go_wp2_with fail
          refine (CopyBytes_any A c n a _ (hs.step hbr) HA.out (by omega)).mono ?_
          rintro e w1 ⟨A1, c1, rfl, hF1, hB1⟩
          have hb1 := Below.then_ hbr hB1
          go_wp2_with fail
          refine (written_any A1 PA c1 n 30 pc w0.heap.size a ps w1 hF1 hB1.size (hp.step hb1) (fun p hp => (HO.out p hp).step hb1) HM.out HN.out (by omega) (by omega)).mono ?_
          rw [← HE.out]
          rintro e w2 ⟨A2, c2, rfl, hF2, hB2⟩
          have hb2 := Below.then_ hb1 hB2
          have hb02 := Below.then_ hB1 hB2
          go_wp2_with (at_builtin; refine wpList_app8 rfl (.tmp 48) (.tmp 49) rfl A2 B (n + E) c2 m d (a ++ encs ps) b w0 rfl rfl hF2 (ht.step hb2) HB.out (by omega) hb02 ?_; intro A3 c3 w3 hF3 hB3)
          have hb3 := Below.then_ hbr hB3
          clear hF1 hF2 hB1 hB2 hb1 hb2 hb02 hB3 hd1 hd2
          go_loopw [11, 55] (fun v i wr => ∃ k q : Nat, k ≤ 30 ∧ i = .int .i64 k ∧ v = .int .i64 (q : Int) ∧ q = n + (encs (ps.take k)).length ∧ Below w3.heap.size w3 wr) (fun _ i _ => 30 - (intOf i).toNat)
          case atStart => exact ⟨0, n, by omega, rfl, rfl, by simp [encs], Below.refl _ _⟩
          case round =>
            obtain ⟨j, q, hj, rfl, rfl, hq, hbj⟩ := hrel
            have HQ := Lib.hid hq
            clear hq
            have hbw := Below.then_ hb3 hbj
            by_cases hlt2 : j < 30
            · obtain ⟨g, o, rfl, hg, ⟨kd, x, D, mm, dd, bs⟩, HP, d0, d1, d2⟩ := (hp.step hbw).piece HN.out hlt2
              have hmem := List.mem_of_getElem? HP.out
              have hO := (HO.out _ hmem).step hbw
              have hmb : bs.length ≤ 100 := HM.out _ hmem
              have hml : bs.length = mm := hO.len
              have hmm : mm ≤ 100 := by omega
              have hen := enc_le ⟨kd, x, D, mm, dd, bs⟩ hmb
              obtain ⟨e, he⟩ : ∃ e, e = (Pc.enc ⟨kd, x, D, mm, dd, bs⟩).length := ⟨_, rfl⟩
              rw [← he] at hen
              have hen1 := hen.1
              have hen2 := hen.2
              have hstep := encs_take ps j _ HP.out
              have hsplit : encs ps = encs (ps.take j) ++ (Pc.enc ⟨kd, x, D, mm, dd, bs⟩ ++ encs (ps.drop (j + 1))) := by
                conv => lhs; rw [← List.take_append_drop (j + 1) ps]
                rw [encs, List.flatMap_append]
                show encs (ps.take (j + 1)) ++ encs (ps.drop (j + 1)) = _
                rw [hstep, List.append_assoc]
              have hL : (a ++ encs ps) ++ b = (a ++ encs (ps.take j)) ++ (Pc.enc ⟨kd, x, D, mm, dd, bs⟩ ++ (encs (ps.drop (j + 1)) ++ b)) := by
                rw [hsplit]; simp
              have hpre : ((q : Nat) : Int) = ((a ++ encs (ps.take j)).length : Int) := by rw [HQ.out, List.length_append, HA.out]
              have hqe : q + e = (a ++ encs (ps.take j)).length + (Pc.enc ⟨kd, x, D, mm, dd, bs⟩).length := by rw [← he, List.length_append, HA.out, HQ.out]
              have hlen3 : ((a ++ encs ps) ++ b).length = n + E + m := by rw [List.length_append, List.length_append, HA.out, HB.out, HE.out]
              have hq2 : q + e = n + (encs (ps.take (j + 1))).length := by rw [hstep, List.length_append, ← he, HQ.out]; omega
              have hqb : q ≤ 5000 := by
                have h5 := encs_le (ps.take j) (fun p hp => HM.out p (List.mem_of_mem_take hp))
                rw [List.length_take] at h5
                rw [HQ.out]; omega
              have HL := Lib.hid hL
              have HPre := Lib.hid hpre
              have HQE := Lib.hid hqe
              have HLen := Lib.hid hlen3
              have HQ2 := Lib.hid hq2
              have hba := fun ob => (Below.refl wr.heap.size wr).alloc (Nat.le_refl _) ob
              have HBA := Lib.hid hba
              clear hba hL hpre hqe hlen3 hq2 hsplit hstep hen he hmb hml hmem
              have hcap := hF3.cap
              go_wp2_with fail
              refine (read_any A3 D c3 (n + E + m) mm dd x (q + e) kd _ ((a ++ encs ps) ++ b) bs (a ++ encs (ps.take j)) (encs (ps.drop (j + 1)) ++ b) _ ((hF3.below hbj).sees.step (HBA.out _)) HLen.out hcap.1 (by omega) (hO.step (HBA.out _)) hmm HL.out HPre.out HQE.out).mono ?_
              rintro e1 w4 ⟨rfl, hB4⟩
              have hbn := Below.then_ hbj (Below.then_ (HBA.out _) hB4)
              clear d0 d1 d2 hB4 hO hcap
              go_wp2_with fail
              go_roundw
              case rel => exact ⟨j + 1, q + e, by omega, by go_num, rfl, HQ2.out, hbn⟩
              case measure => simp [intOf]; omega
            · have hj30 : j = 30 := by omega
              subst hj30
              have hqN : q = n + E := by rw [HQ.out, List.take_of_length_le (by rw [HN.out]; exact Nat.le_refl _), HE.out]
              have hqI : ((q : Nat) : Int) = (n : Int) + (E : Int) := by rw [hqN]; omega
              rw [hqI]
              clear hqI hqN
              go_wp2_with fail
              have hpre : ((a ++ encs ps) ++ b).take n = a := by
                rw [List.append_assoc, ← HA.out]
                exact List.take_left
              have hcut : Sees wr wr.heap.size A3 (cb a) := by
                have h6 := (hF3.below hbj).sees.take_ n
                rwa [show (cb ((a ++ encs ps) ++ b)).take n = cb (((a ++ encs ps) ++ b).take n) from by simp only [cb, List.map_take], hpre] at h6
              have hcap := hF3.cap.1
              clear hpre
              refine region_tail 14 (by kernel_rfl) (by kernel_rfl) ?_
              intro w8 hB8
              have s1 := run_str (hcut.step hB8) HA.out c3
              have s2 := run_str (hs.step (Below.then_ hbw hB8)) HA.out c
              have s3 := run_cut (w := w8) A3 (n + E + m) c3 n (by omega)
              clear hF3 hcut hcap
              simp only [List.take_succ_cons, List.take_zero, List.drop_succ_cons, List.drop_zero]
              repeat still_step
              refine wpStill_nil ?_
              clear s1 s2 s3
              go_wp2_with (go_at_call 17; refine (awake_any _).mono ?_; rintro e w9 ⟨rfl, hB9⟩)
              go_ret
              exact ⟨rfl, Below.then_ hbw (Below.then_ hB8 hB9)⟩
theorem pcs_take (ps : List Pc) (k : Nat) : pcs (ps.take k) = (pcs ps).take (3 * k) := by
  induction ps generalizing k with
  | nil => simp [pcs]
  | cons p ps ih =>
    rcases k with _ | k
    · simp [pcs]
    · have hl : p.cells.length = 3 := rfl
      have e : pcs (p :: ps) = p.cells ++ pcs ps := rfl
      have e2 : pcs ((p :: ps).take (k + 1)) = p.cells ++ pcs (ps.take k) := rfl
      rw [e, e2, ih k, List.take_append, hl, List.take_of_length_le (l := p.cells) (by rw [hl]; omega), show 3 * (k + 1) - 3 = 3 * k from by omega]
theorem round_law (PA A B : Option Addr) (N pc n c m d : Nat) (ps : List Pc) (a b : List UInt8) (w : World) (hp : Sees w w.heap.size PA (pcs ps)) (hok : ∀ p ∈ ps, p.Ok w) (hN : ps.length = N) (hpc : N ≤ pc)
    (hs : Sees w w.heap.size A (cb a)) (ht : Sees w w.heap.size B (cb b)) (ha : a.length = n) (hb : b.length = m) :
    Calls Try.prog 5 #[.slice PA N pc, .slice A n c, .slice B m d] w fun e w' => e = .returned (.bool true) ∧ Below w.heap.size w w' := by
  by_cases h : N ≤ 30
  · exact round_small PA A B N pc n c m d ps a b w hp hok hN hpc hs ht ha hb h
  · refine round_big PA A B N pc n c m d (ps.take 30) a b w ?_ (fun p hp => hok p (List.mem_of_mem_take hp)) (by rw [List.length_take]; omega) hpc hs ht ha hb (by omega)
    rw [pcs_take]
    exact hp.take_ _
end Go.Proofs.Ytbmolgfjdjpniaa
