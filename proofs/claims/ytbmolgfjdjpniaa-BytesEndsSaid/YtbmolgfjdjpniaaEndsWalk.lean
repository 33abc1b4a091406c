/-
  BytesEnds returns true for every input, and writes nothing that was there: the walk.
-/
import Derived.Test.YtbmolgfjdjpniaaReadOne
namespace Go.Proofs.Ytbmolgfjdjpniaa
open Go.RowKit
set_option linter.unusedVariables false

theorem guF_all : ∀ f l i acc, l.length < f → (∀ c ∈ l, 128 ≤ c.toNat) → guF f l i acc = (0, 0, 10)
  | 0, l, i, acc, h, _ => by omega
  | f + 1, [], i, acc, _, _ => rfl
  | f + 1, c :: l, i, acc, h, hc => by
    rw [guF_cons, if_pos (hc c List.mem_cons_self)]
    exact guF_all f l (i + 1) _ (by simp at h; omega) (fun d hd => hc d (List.mem_cons_of_mem _ hd))
theorem gu_cut (n k : Nat) (hk : k < nd n) : gu ((digs n).take k) = (0, 0, 10) := by
  have hb := nd_bd n
  refine guF_all 10 _ 0 0 (by rw [List.length_take]; omega) fun c hc => ?_
  obtain ⟨i, hi⟩ := List.getElem?_of_mem hc
  rw [List.getElem?_take] at hi
  split at hi
  · rename_i hik
    rw [digs_get n i (by omega)] at hi
    injection hi with hi
    rw [← hi, digAt, if_pos (by omega), ofNat_toNat _ (by omega)]
    omega
  · cases hi
theorem getU_zero (l : List UInt8) : getU l 0 = if (gu l).2.2 = 0 then ((gu l).1, (gu l).2.1, 0) else (0, 0, (gu l).2.2) := by
  have := getU_at [] l 0 rfl
  simpa using this
theorem getU_cut (n k : Nat) (hk : k < nd n) : getU ((digs n).take k) 0 = (0, 0, 10) := by
  rw [getU_zero, gu_cut n k hk]; rfl
theorem getW_cut (n k : Nat) (hk : k < 4) : getW ((wd n).take k) 0 = (0, 0, 10) := by
  have hl : ((wd n).take k).length = k := by rw [List.length_take, len_wd]; omega
  have ha : isAt ((wd n).take k).length 0 = true := by simp [isAt]
  unfold getW
  rw [ha, if_pos rfl, hl, if_pos (by omega)]
theorem getB_cut (b : List UInt8) (k : Nat) (hb : b.length < 18446744073709551616) (hk : k < nd b.length + b.length) : getB ((blob b).take k) 0 (b.length : Int) = ([], 0, 10) := by
  by_cases h : k < nd b.length
  · have e : (blob b).take k = (digs b.length).take k := by
      rw [blob, List.take_append_of_le_length (by rw [len_digs]; omega)]
    rw [e]
    simp only [getB, getU_cut _ k h]
    rfl
  · have e : (blob b).take k = [] ++ (digs b.length ++ b.take (k - nd b.length)) := by
      rw [blob, List.take_append, len_digs, List.take_of_length_le (by rw [len_digs]; omega), List.nil_append]
    have hg := getU_digs [] (b.take (k - nd b.length)) b.length 0 rfl hb
    rw [e]
    simp only [getB, hg]
    rw [if_neg (by simp), if_neg (by omega), if_pos (by simp [len_digs, List.length_take]; omega)]
theorem getB_whole (b : List UInt8) (most : Int) (hb : b.length < 18446744073709551616) : getB (blob b) 0 most = if most < (b.length : Int) then ([], 0, 3) else (b, nd b.length + b.length, 0) := by
  by_cases h : most < (b.length : Int)
  · have hg := getU_digs [] b b.length 0 rfl hb
    have e : blob b = [] ++ (digs b.length ++ b) := rfl
    rw [e]
    simp only [getB, hg]
    rw [if_neg (by simp), if_pos h, if_pos h]
  · have := getB_blob [] b [] 0 most rfl hb (by omega)
    rw [if_neg h]
    simpa using this
/-- What is cut off is not read. -/
def cutErr (p : Pc) (k : Nat) : Prop :=
  (p.k = 1 → getW (p.enc.take k) 0 = (0, 0, 10)) ∧ (p.k = 2 → getB (p.enc.take k) 0 (p.b.length : Int) = ([], 0, 10)) ∧ (¬ p.k = 1 → ¬ p.k = 2 → getU (p.enc.take k) 0 = (0, 0, 10))
theorem cut_err (p : Pc) (k : Nat) (hk : k < p.enc.length) (hb : p.b.length < 18446744073709551616) : cutErr p k := by
  refine ⟨fun h => ?_, fun h => ?_, fun h1 h2 => ?_⟩
  · have e : p.enc = wd (p.n % 4294967296) := by simp [Pc.enc, h]
    rw [e] at hk ⊢
    exact getW_cut _ k (by rwa [len_wd] at hk)
  · have e : p.enc = blob p.b := by simp [Pc.enc, h]
    rw [e] at hk ⊢
    exact getB_cut p.b k hb (by rwa [blob, List.length_append, len_digs] at hk)
  · have e : p.enc = digs p.n := by simp [Pc.enc, h1, h2]
    rw [e] at hk ⊢
    exact getU_cut _ k (by rwa [len_digs] at hk)

theorem sees_pieces (w : World) (e : TypeId) (ps : List Pc) (C : Array Value) (hC : C = (pcs ps).toArray) : Sees (w.alloc (.cells C e)) (w.alloc (.cells C e)).heap.size (some ⟨w.heap.size, 0, none⟩) (pcs ps) := fun _ =>
  ⟨w.heap.size, 0, rfl, by simp, fun j u hu => by rw [Nat.zero_add, World.cell?_alloc_mark, hC]; simpa using hu⟩

set_option maxRecDepth 100000 in
set_option maxHeartbeats 2000000 in
theorem ends_walk (B : Option Addr) (x m d cut : Nat) (most : Int) (kd : UInt8) (bs : List UInt8) (w : World) (hok : Pc.Ok w ⟨kd, x, B, m, d, bs⟩) (hm : m ≤ 100) (hcut : cut < 65536) (hmost : most ≤ 9223372036854775807) :
    Calls Try.prog 8 #[.agg #[.int .u8 (kd.toNat : Int), .int .u64 (x : Int), .slice B m d], .int .u16 (cut : Int), .int .i64 most] w fun e w' => e = .returned (.bool true) ∧ Below w.heap.size w w' := by
  have HBL : Hid (bs.length = m) := hok.len
  have HO := Lib.hid hok
  have hba := fun (W : World) ob => (Below.refl W.heap.size W).alloc (Nat.le_refl _) ob
  have HBA := Lib.hid hba
  have hlen : bs.length ≤ 100 := by have : bs.length = m := hok.len; omega
  have hen := enc_le ⟨kd, x, B, m, d, bs⟩ hlen
  obtain ⟨E, hE⟩ : ∃ E, E = (Pc.enc ⟨kd, x, B, m, d, bs⟩).length := ⟨_, rfl⟩
  rw [← hE] at hen
  have h1E := hen.1
  have h2E := hen.2
  have HE := Lib.hid hE
  clear hok hba hlen hen hE
  go_enter Try.func8, Try.ntmps8
  go_wp2_with fail
  have hS := sees_pieces (w.alloc (.cells #[.int .u8 (kd.toNat : Int), .int .u64 (x : Int), .slice B m d] 51)) 51 [⟨kd, x, B, m, d, bs⟩] _ rfl
  rw [show (w.alloc (.cells #[.int .u8 (kd.toNat : Int), .int .u64 (x : Int), .slice B m d] 51)).heap.size = w.heap.size + 1 from by simp] at hS
  have hB1 := Below.then_ (HBA.out w (.cells #[.int .u8 (kd.toNat : Int), .int .u64 (x : Int), .slice B m d] 51)) (HBA.out _ (.cells (pcs [⟨kd, x, B, m, d, bs⟩]).toArray 51))
  have q0 : ((w.alloc (.cells #[.int .u8 (kd.toNat : Int), .int .u64 (x : Int), .slice B m d] 51)).alloc (.cells (pcs [⟨kd, x, B, m, d, bs⟩]).toArray 51)).cell? ⟨w.heap.size, 0, none⟩ = some (.int .u8 (kd.toNat : Int)) := by
    rw [World.cell?_alloc_lt _ _ _ (by simp), World.cell?_alloc_mark]; rfl
  have q2 : ((w.alloc (.cells #[.int .u8 (kd.toNat : Int), .int .u64 (x : Int), .slice B m d] 51)).alloc (.cells (pcs [⟨kd, x, B, m, d, bs⟩]).toArray 51)).cell? ⟨w.heap.size, 2, none⟩ = some (.slice B m d) := by
    rw [World.cell?_alloc_lt _ _ _ (by simp), World.cell?_alloc_mark]; rfl
  refine (written_any none (some ⟨w.heap.size + 1, 0, none⟩) 0 0 1 1 w.heap.size [] [⟨kd, x, B, m, d, bs⟩] _ (fresh_nil _ _ _) (by simp; omega) hS (fun p hp => by simp at hp; subst hp; exact HO.out.step hB1) (fun p hp => by simp at hp; subst hp; show bs.length ≤ 100; rw [HBL.out]; exact hm) rfl (by omega) (by omega)).mono ?_
  have hEs : encs [⟨kd, x, B, m, d, bs⟩] = Pc.enc ⟨kd, x, B, m, d, bs⟩ := by simp [encs]
  rw [hEs, ← HE.out, List.nil_append, Nat.zero_add]
  rintro e w2 ⟨A2, c2, rfl, hF2, hB2⟩
  have hb2 := Below.then_ hB1 hB2
  have p0 : w2.cell? ⟨w.heap.size, 0, none⟩ = some (.int .u8 (kd.toNat : Int)) := (hB2.cell (p := ⟨w.heap.size, 0, none⟩) (by simp; omega)).trans q0
  have p2 : w2.cell? ⟨w.heap.size, 2, none⟩ = some (.slice B m d) := (hB2.cell (p := ⟨w.heap.size, 2, none⟩) (by simp; omega)).trans q2
  clear q0 q2 hS hEs hB1 hB2
  obtain ⟨k, hk⟩ : ∃ k : Nat, k = cut % E := ⟨_, rfl⟩
  have hkI : ((cut : Int) % (E : Int)) = (k : Int) := by rw [hk]; simp
  have hk2 : k < E := by rw [hk]; exact Nat.mod_lt _ (by omega)
  clear hk
  have hsz := hF2.cap.1
  have s3 := run_cut (w := w2) A2 E c2 k (by omega)
  have hE0 : ((E : Int) == 0) = false := by simp; omega
  have hT := (hF2.sees).take_ k
  rw [show (cb (Pc.enc ⟨kd, x, B, m, d, bs⟩)).take k = cb ((Pc.enc ⟨kd, x, B, m, d, bs⟩).take k) from by simp only [cb, List.map_take]] at hT
  have hTl : ((Pc.enc ⟨kd, x, B, m, d, bs⟩).take k).length = k := by rw [List.length_take, ← HE.out]; omega
  have hce := cut_err ⟨kd, x, B, m, d, bs⟩ k (by rw [← HE.out]; exact hk2) (by show bs.length < _; rw [HBL.out]; omega)
  have HT := Lib.hid hTl
  have HC := Lib.hid hce
  clear hTl hce
  by_cases h1 : kd.toNat = 1
  · have h1' : ((kd.toNat : Int) == 1) = true := by simp [h1]
    have hkd : kd = 1 := UInt8.toNat_inj.1 h1
    have HG := Lib.hid (HC.out.1 hkd)
    clear h1 hkd
    go_wp2_with fail
    refine (GetWord_eq HG.out A2 c2 k _ hT HT.out (by omega)).mono ?_
    rintro e w3 ⟨rfl, rfl⟩
    have hB3 := Below.refl w2.heap.size w2
    clear HG
    have hB03 := Below.then_ hb2 hB3
    have hlt := World.block_lt_of_cell? _ _ p2
    have r2 : w2.cell? ⟨w.heap.size, 2, none⟩ = some (.slice B m d) := (hB3.cell (p := ⟨w.heap.size, 2, none⟩) hlt).trans p2
    have hlt3 := World.block_lt_of_cell? _ _ r2
    clear p0 p2 hF2 s3 hkI hE0
    go_wp2_with fail
    refine (Blob_made (n := 0) (N := nd m + m) (l := []) (L := blob bs) Sees.nil (HO.out.sees.step hB03) rfl HBL.out (by omega) rfl (by omega) (by omega)).mono ?_
    rintro e w4 ⟨A4, c4, rfl, hF4, hB4⟩
    have u2 : w4.cell? ⟨w.heap.size, 2, none⟩ = some (.slice B m d) := (hB4.cell (p := ⟨w.heap.size, 2, none⟩) hlt3).trans r2
    have hlt4 := World.block_lt_of_cell? _ _ u2
    have hB04 := Below.then_ hB03 hB4
    have hll : (blob bs).length = nd m + m := by rw [blob, List.length_append, len_digs, HBL.out]
    have hcp := hF4.cap.1
    have hnd := (nd_bd m).2
    clear r2 hB3 hB4 hB03
    go_wp2_with fail
    by_cases hmo : most < (m : Int)
    · have hg : getB (blob bs) 0 most = ([], 0, 3) := by rw [getB_whole bs most (by rw [HBL.out]; omega), HBL.out, if_pos hmo]
      have hq1 : decide ((m : Int) ≤ most) = false := by simp; omega
      have hq2 : decide (most < (m : Int)) = true := by simp; omega
      refine (GetBlob_told (N := 0) hg hF4.sees hll hcp rfl (by omega) hmost).mono ?_
      rintro e w5 ⟨A5, c5, rfl, hF5, hB5⟩
      have v2 : w5.cell? ⟨w.heap.size, 2, none⟩ = some (.slice B m d) := (hB5.cell (p := ⟨w.heap.size, 2, none⟩) hlt4).trans u2
      have hB05 := Below.then_ hB04 hB5
      clear u2 hll hg hF4 hF5 hB5 hB04
      go_wp2_with (go_at_call 17; refine (awake_any _).mono ?_; rintro e w9 ⟨rfl, hB9⟩)
      go_ret
      exact ⟨rfl, Below.then_ hB05 hB9⟩
    · have hg : getB (blob bs) 0 most = (bs, nd m + m, 0) := by rw [getB_whole bs most (by rw [HBL.out]; omega), HBL.out, if_neg hmo]
      have hq1 : decide ((m : Int) ≤ most) = true := by simp; omega
      have hq2 : decide (most < (m : Int)) = false := by simp; omega
      refine (GetBlob_told (N := m) hg hF4.sees hll hcp HBL.out (by omega) hmost).mono ?_
      rintro e w5 ⟨A5, c5, rfl, hF5, hB5⟩
      have v2 : w5.cell? ⟨w.heap.size, 2, none⟩ = some (.slice B m d) := (hB5.cell (p := ⟨w.heap.size, 2, none⟩) hlt4).trans u2
      have hB05 := Below.then_ hB04 hB5
      clear u2 hll hg hF4 hF5 hB5 hB04
      go_wp2_with (go_at_call 17; refine (awake_any _).mono ?_; rintro e w9 ⟨rfl, hB9⟩)
      go_ret
      exact ⟨rfl, Below.then_ hB05 hB9⟩
  · have h1' : ((kd.toNat : Int) == 1) = false := by simp; omega
    have hk1 : ¬ kd = 1 := fun e => h1 (by rw [e]; rfl)
    clear h1
    by_cases h2 : kd.toNat = 2
    · have h2' : ((kd.toNat : Int) == 2) = true := by simp [h2]
      have hkd : kd = 2 := UInt8.toNat_inj.1 h2
      have hg := HC.out.2.1 hkd
      have hgl : ((bs.length : Nat) : Int) = (m : Int) := by rw [HBL.out]
      have hg' : getB ((Pc.enc ⟨kd, x, B, m, d, bs⟩).take k) 0 (m : Int) = ([], 0, 10) := by rw [← hgl]; exact hg
      have HG := Lib.hid hg'
      clear h2 hkd hg hgl hg'
      go_wp2_with fail
      refine (GetBlob_told (N := 0) HG.out hT HT.out (by omega) rfl (by omega) (by omega)).mono ?_
      rintro e w3 ⟨A3, c3, rfl, hF3, hB3⟩
      clear HG hF3
      have hB03 := Below.then_ hb2 hB3
      have hlt := World.block_lt_of_cell? _ _ p2
      have r2 : w3.cell? ⟨w.heap.size, 2, none⟩ = some (.slice B m d) := (hB3.cell (p := ⟨w.heap.size, 2, none⟩) hlt).trans p2
      have hlt3 := World.block_lt_of_cell? _ _ r2
      clear p0 p2 hF2 s3 hkI hE0
      go_wp2_with fail
      refine (Blob_made (n := 0) (N := nd m + m) (l := []) (L := blob bs) Sees.nil (HO.out.sees.step hB03) rfl HBL.out (by omega) rfl (by omega) (by omega)).mono ?_
      rintro e w4 ⟨A4, c4, rfl, hF4, hB4⟩
      have u2 : w4.cell? ⟨w.heap.size, 2, none⟩ = some (.slice B m d) := (hB4.cell (p := ⟨w.heap.size, 2, none⟩) hlt3).trans r2
      have hlt4 := World.block_lt_of_cell? _ _ u2
      have hB04 := Below.then_ hB03 hB4
      have hll : (blob bs).length = nd m + m := by rw [blob, List.length_append, len_digs, HBL.out]
      have hcp := hF4.cap.1
      have hnd := (nd_bd m).2
      clear r2 hB3 hB4 hB03
      go_wp2_with fail
      by_cases hmo : most < (m : Int)
      · have hg : getB (blob bs) 0 most = ([], 0, 3) := by rw [getB_whole bs most (by rw [HBL.out]; omega), HBL.out, if_pos hmo]
        have hq1 : decide ((m : Int) ≤ most) = false := by simp; omega
        have hq2 : decide (most < (m : Int)) = true := by simp; omega
        refine (GetBlob_told (N := 0) hg hF4.sees hll hcp rfl (by omega) hmost).mono ?_
        rintro e w5 ⟨A5, c5, rfl, hF5, hB5⟩
        have v2 : w5.cell? ⟨w.heap.size, 2, none⟩ = some (.slice B m d) := (hB5.cell (p := ⟨w.heap.size, 2, none⟩) hlt4).trans u2
        have hB05 := Below.then_ hB04 hB5
        clear u2 hll hg hF4 hF5 hB5 hB04
        go_wp2_with (go_at_call 17; refine (awake_any _).mono ?_; rintro e w9 ⟨rfl, hB9⟩)
        go_ret
        exact ⟨rfl, Below.then_ hB05 hB9⟩
      · have hg : getB (blob bs) 0 most = (bs, nd m + m, 0) := by rw [getB_whole bs most (by rw [HBL.out]; omega), HBL.out, if_neg hmo]
        have hq1 : decide ((m : Int) ≤ most) = true := by simp; omega
        have hq2 : decide (most < (m : Int)) = false := by simp; omega
        refine (GetBlob_told (N := m) hg hF4.sees hll hcp HBL.out (by omega) hmost).mono ?_
        rintro e w5 ⟨A5, c5, rfl, hF5, hB5⟩
        have v2 : w5.cell? ⟨w.heap.size, 2, none⟩ = some (.slice B m d) := (hB5.cell (p := ⟨w.heap.size, 2, none⟩) hlt4).trans u2
        have hB05 := Below.then_ hB04 hB5
        clear u2 hll hg hF4 hF5 hB5 hB04
        go_wp2_with (go_at_call 17; refine (awake_any _).mono ?_; rintro e w9 ⟨rfl, hB9⟩)
        go_ret
        exact ⟨rfl, Below.then_ hB05 hB9⟩
    · have h2' : ((kd.toNat : Int) == 2) = false := by simp; omega
      have hk2' : ¬ kd = 2 := fun e => h2 (by rw [e]; rfl)
      have HG := Lib.hid (HC.out.2.2 hk1 hk2')
      clear h2
      go_wp2_with fail
      refine (GetUint_eq HG.out A2 c2 k _ hT HT.out (by omega)).mono ?_
      rintro e w3 ⟨rfl, rfl⟩
      have hB3 := Below.refl w2.heap.size w2
      clear HG
      have hB03 := Below.then_ hb2 hB3
      have hlt := World.block_lt_of_cell? _ _ p2
      have r2 : w2.cell? ⟨w.heap.size, 2, none⟩ = some (.slice B m d) := (hB3.cell (p := ⟨w.heap.size, 2, none⟩) hlt).trans p2
      have hlt3 := World.block_lt_of_cell? _ _ r2
      clear p0 p2 hF2 s3 hkI hE0
      go_wp2_with fail
      refine (Blob_made (n := 0) (N := nd m + m) (l := []) (L := blob bs) Sees.nil (HO.out.sees.step hB03) rfl HBL.out (by omega) rfl (by omega) (by omega)).mono ?_
      rintro e w4 ⟨A4, c4, rfl, hF4, hB4⟩
      have u2 : w4.cell? ⟨w.heap.size, 2, none⟩ = some (.slice B m d) := (hB4.cell (p := ⟨w.heap.size, 2, none⟩) hlt3).trans r2
      have hlt4 := World.block_lt_of_cell? _ _ u2
      have hB04 := Below.then_ hB03 hB4
      have hll : (blob bs).length = nd m + m := by rw [blob, List.length_append, len_digs, HBL.out]
      have hcp := hF4.cap.1
      have hnd := (nd_bd m).2
      clear r2 hB3 hB4 hB03
      go_wp2_with fail
      by_cases hmo : most < (m : Int)
      · have hg : getB (blob bs) 0 most = ([], 0, 3) := by rw [getB_whole bs most (by rw [HBL.out]; omega), HBL.out, if_pos hmo]
        have hq1 : decide ((m : Int) ≤ most) = false := by simp; omega
        have hq2 : decide (most < (m : Int)) = true := by simp; omega
        refine (GetBlob_told (N := 0) hg hF4.sees hll hcp rfl (by omega) hmost).mono ?_
        rintro e w5 ⟨A5, c5, rfl, hF5, hB5⟩
        have v2 : w5.cell? ⟨w.heap.size, 2, none⟩ = some (.slice B m d) := (hB5.cell (p := ⟨w.heap.size, 2, none⟩) hlt4).trans u2
        have hB05 := Below.then_ hB04 hB5
        clear u2 hll hg hF4 hF5 hB5 hB04
        go_wp2_with (go_at_call 17; refine (awake_any _).mono ?_; rintro e w9 ⟨rfl, hB9⟩)
        go_ret
        exact ⟨rfl, Below.then_ hB05 hB9⟩
      · have hg : getB (blob bs) 0 most = (bs, nd m + m, 0) := by rw [getB_whole bs most (by rw [HBL.out]; omega), HBL.out, if_neg hmo]
        have hq1 : decide ((m : Int) ≤ most) = true := by simp; omega
        have hq2 : decide (most < (m : Int)) = false := by simp; omega
        refine (GetBlob_told (N := m) hg hF4.sees hll hcp HBL.out (by omega) hmost).mono ?_
        rintro e w5 ⟨A5, c5, rfl, hF5, hB5⟩
        have v2 : w5.cell? ⟨w.heap.size, 2, none⟩ = some (.slice B m d) := (hB5.cell (p := ⟨w.heap.size, 2, none⟩) hlt4).trans u2
        have hB05 := Below.then_ hB04 hB5
        clear u2 hll hg hF4 hF5 hB5 hB04
        go_wp2_with (go_at_call 17; refine (awake_any _).mono ?_; rintro e w9 ⟨rfl, hB9⟩)
        go_ret
        exact ⟨rfl, Below.then_ hB05 hB9⟩
set_option maxRecDepth 100000 in
set_option maxHeartbeats 400000 in
theorem ends_over (B : Option Addr) (k x : Int) (m d : Nat) (cut most : Int) (w : World) (hm : 100 < m) :
    Calls Try.prog 8 #[.agg #[.int .u8 k, .int .u64 x, .slice B m d], .int .u16 cut, .int .i64 most] w fun e w' => e = .returned (.bool true) ∧ Below w.heap.size w w' := by
  have HBA := Lib.hid (fun ob => (Below.refl w.heap.size w).alloc (Nat.le_refl _) ob)
  go_enter Try.func8, Try.ntmps8
  go_wp2_with (go_at_call 17; refine (awake_any _).mono ?_; rintro e w9 ⟨rfl, hB9⟩)
  go_ret
  exact ⟨rfl, Below.then_ (HBA.out _) hB9⟩
theorem ends_law (p : Pc) (cut most : Int) (w : World) (hok : p.Ok w) (wc : (Lit.int .u16 cut).wf = true) (wm : (Lit.int .i64 most).wf = true) :
    Calls Try.prog 8 #[.agg #[.int .u8 (p.k.toNat : Int), .int .u64 (p.n : Int), .slice p.A p.m p.c], .int .u16 cut, .int .i64 most] w fun e w' => e = .returned (.bool true) ∧ Below w.heap.size w w' := by
  obtain ⟨kd, x, B, m, d, bs⟩ := p
  by_cases h : 100 < m
  · exact ends_over B _ _ m d cut most w h
  · have h1 := bounds_u16 wc
    have h2 := bounds_i64 wm
    obtain ⟨k, rfl⟩ := Int.eq_ofNat_of_zero_le (show 0 ≤ cut by omega)
    exact ends_walk B x m d k most kd bs w hok (by omega) (by omega) h2.2
end Go.Proofs.Ytbmolgfjdjpniaa
