/-
  What written of the statements' package answers: the pieces, written down one behind the other, in new memory.
-/
import Derived.Test.YtbmolgfjdjpniaaTools
import Derived.Test.YtbmolgfjdjpniaaReadPure
namespace Go.Proofs.Ytbmolgfjdjpniaa
open Go.RowKit
set_option linter.unusedVariables false

/-- A piece to be written down, where its string lies, and what it is. -/
structure Pc where
  k : UInt8
  n : Nat
  A : Option Addr
  m : Nat
  c : Nat
  b : List UInt8
def Pc.cells (p : Pc) : List Value := [.int .u8 (p.k.toNat : Int), .int .u64 (p.n : Int), .slice p.A p.m p.c]
def pcs (ps : List Pc) : List Value := ps.flatMap Pc.cells
structure Pc.Ok (w : World) (p : Pc) : Prop where
  sees : Sees w w.heap.size p.A (cb p.b)
  len : p.b.length = p.m
  cap : p.m ≤ p.c
  num : p.n < 18446744073709551616
def Pc.enc (p : Pc) : List UInt8 := if p.k = 1 then wd (p.n % 4294967296) else if p.k = 2 then blob p.b else digs p.n
def encs (ps : List Pc) : List UInt8 := ps.flatMap Pc.enc
theorem Pc.Ok.step {w w' : World} {p : Pc} (h : p.Ok w) (hb : Below w.heap.size w w') : p.Ok w' := ⟨h.sees.step hb, h.len, h.cap, h.num⟩
theorem enc_le (p : Pc) (h : p.b.length ≤ 100) : 1 ≤ p.enc.length ∧ p.enc.length ≤ 110 := by
  have h1 := nd_bd p.n
  have h2 := nd_bd p.b.length
  unfold Pc.enc
  split
  · simp [len_wd]
  · split
    · rw [blob, List.length_append, len_digs]; omega
    · rw [len_digs]; omega
theorem encs_le : ∀ (ps : List Pc), (∀ p ∈ ps, p.b.length ≤ 100) → (encs ps).length ≤ 110 * ps.length
  | [], _ => by simp [encs]
  | p :: ps, h => by
    have h1 := enc_le p (h p List.mem_cons_self)
    have h2 := encs_le ps (fun q hq => h q (List.mem_cons_of_mem _ hq))
    simp only [encs, List.flatMap_cons, List.length_append, List.length_cons] at h2 ⊢
    omega
theorem encs_take (ps : List Pc) (k : Nat) (p : Pc) (h : ps[k]? = some p) : encs (ps.take (k + 1)) = encs (ps.take k) ++ p.enc := by
  simp [encs, List.take_add_one, h]
theorem pcs_get (ps : List Pc) : ∀ (k j : Nat) (p : Pc) (u : Value), ps[k]? = some p → p.cells[j]? = some u → (pcs ps)[k * 3 + j]? = some u := by
  induction ps with
  | nil => intro k j p u h; simp at h
  | cons a ps ih =>
    intro k j p u h hu
    have hl : ∀ p : Pc, p.cells.length = 3 := fun _ => rfl
    have hj : j < 3 := by
      have := (List.getElem?_eq_some_iff.1 hu).1
      rwa [hl] at this
    rw [pcs, List.flatMap_cons]
    rcases k with _ | k
    · simp at h
      subst h
      rw [List.getElem?_append_left (by rw [hl]; omega)]
      simpa using hu
    · rw [List.getElem?_append_right (by rw [hl]; omega), hl, show (k + 1) * 3 + j - 3 = k * 3 + j from by omega]
      exact ih k j p u (by simpa using h) hu
theorem len_pcs (ps : List Pc) : (pcs ps).length = 3 * ps.length := by
  induction ps with
  | nil => rfl
  | cons a ps ih =>
    have : a.cells.length = 3 := rfl
    simp only [pcs, List.flatMap_cons, List.length_append, this, List.length_cons] at ih ⊢
    omega
/-- A piece of what a slice of pieces reads as. -/
theorem Sees.piece {w : World} {B : Nat} {A : Option Addr} {ps : List Pc} {N k : Nat} (h : Sees w B A (pcs ps)) (hl : ps.length = N) (hk : k < N) :
    ∃ b o, A = some ⟨b, o, none⟩ ∧ b < B ∧ ∃ p : Pc, Hid (ps[k]? = some p) ∧ w.cell? ⟨b, o + k * 3, none⟩ = some (.int .u8 (p.k.toNat : Int)) ∧ w.cell? ⟨b, o + k * 3 + 1, none⟩ = some (.int .u64 (p.n : Int)) ∧ w.cell? ⟨b, o + k * 3 + 2, none⟩ = some (.slice p.A p.m p.c) := by
  obtain ⟨b, o, e, hb, hc⟩ := h (by rw [len_pcs]; omega)
  have hp : ps[k]? = some (ps[k]'(by omega)) := List.getElem?_eq_getElem (by omega)
  exact ⟨b, o, e, hb, _, hp, hc (k * 3 + 0) _ (pcs_get ps k 0 _ _ hp rfl), hc (k * 3 + 1) _ (pcs_get ps k 1 _ _ hp rfl), hc (k * 3 + 2) _ (pcs_get ps k 2 _ _ hp rfl)⟩

def Writes (base n : Nat) (w : World) (l : List UInt8) (e : Ending) (w' : World) : Prop :=
  ∃ A c, e = .returned (.slice A n c) ∧ Fresh base 5 w' A n c (cb l) ∧ Below w.heap.size w w'

set_option maxRecDepth 100000 in
set_option maxHeartbeats 1000000 in
theorem written_any (A PA : Option Addr) (c n N pc base : Nat) (l : List UInt8) (ps : List Pc) (w : World) (hF : Fresh base 5 w A n c (cb l)) (hbase : base ≤ w.heap.size) (hp : Sees w w.heap.size PA (pcs ps)) (hok : ∀ p ∈ ps, p.Ok w) (hm : ∀ p ∈ ps, p.b.length ≤ 100)
    (hN : ps.length = N) (hn : n ≤ 1000) (hNb : N ≤ 30) : Calls Try.prog 32 #[.slice A n c, .slice PA N pc] w (Writes base (n + (encs ps).length) w (l ++ encs ps)) := by
  have HN := Lib.hid hN
  have HL := Lib.hid (show l.length = n by simpa using hF.len)
  have HM := Lib.hid hm
  have HO := Lib.hid hok
  clear hN hm hok
  go_enter Try.func32, Try.ntmps32
  go_wp2
  go_loopw [0, 9] (fun v i wr => ∃ (k : Nat) (A' : Option Addr) (n' c' : Nat), k ≤ N ∧ i = .int .i64 k ∧ v = .slice A' n' c' ∧ n' = n + (encs (ps.take k)).length ∧ Fresh base 5 wr A' n' c' (cb (l ++ encs (ps.take k))) ∧ Below w.heap.size w wr) (fun _ i _ => N - (intOf i).toNat)
  case atStart => exact ⟨0, A, n, c, by omega, rfl, rfl, by simp [encs], by simpa [encs] using hF, Below.refl _ _⟩
  case round =>
    obtain ⟨k, A', n', c', hk, rfl, rfl, hn', hFr, hbr⟩ := hrel
    have HN' := Lib.hid hn'
    have hn2 : n' ≤ 5000 := by
      have := encs_le (ps.take k) (fun p hp => HM.out p (List.mem_of_mem_take hp))
      rw [List.length_take] at this
      omega
    clear hn'
    by_cases hlt : k < N
    · obtain ⟨b, o, rfl, hb, ⟨kd, x, B, m, d, bs⟩, HP, d0, d1, d2⟩ := (hp.step hbr).piece HN.out hlt
      have hmem := List.mem_of_getElem? HP.out
      have hO := (HO.out _ hmem).step hbr
      have hMb := HM.out _ hmem
      have hlen : bs.length = m := hO.len
      have hm1 : bs.length ≤ 100 := hMb
      have hm2 : m ≤ 100 := by omega
      have hsee : Sees wr wr.heap.size B (cb bs) := hO.sees
      have HBL := Lib.hid hlen
      have HX : Hid (x < 18446744073709551616) := hO.num
      have hll : (l ++ encs (ps.take k)).length = n' := by rw [List.length_append, HL.out, HN'.out]
      have HLL := Lib.hid hll
      have HS := Lib.hid (encs_take ps k _ HP.out)
      have hba := fun ob => (Below.refl wr.heap.size wr).alloc (Nat.le_refl _) ob
      have HBA := Lib.hid hba
      have hbs := hbr.size
      clear hlen hm1 hMb hO hll hba hmem
      obtain ⟨y, hy1, hy2⟩ : ∃ y : Nat, (x : Int) % 4294967296 = (y : Int) ∧ Hid (y = x % 4294967296) := ⟨x % 4294967296, by simp, rfl⟩
      have hy3 : y < 4294967296 := by rw [hy2.out]; exact Nat.mod_lt _ (by omega)
      by_cases h1 : kd.toNat = 1
      · have h1' : ((kd.toNat : Int) == 1) = true := by simp [h1]
        have H1 := Lib.hid h1
        clear h1
        go_wp2_with fail
        refine (Word_made (x := y) (hFr.below (HBA.out _)).sees HLL.out rfl rfl (by omega) hy3).mono ?_
        rintro e w1 ⟨A1, c1, rfl, hF1, hB1⟩
        have hE : Pc.enc ⟨kd, x, B, m, d, bs⟩ = wd y := by
          have hkd : kd = 1 := UInt8.toNat_inj.1 H1.out
          simp only [Pc.enc, hkd, if_true]
          rw [hy2.out]
        have hF2 : Fresh base 5 w1 A1 (n' + 4) c1 (cb (l ++ encs (ps.take (k + 1)))) := by
          rw [HS.out, hE, ← List.append_assoc]
          exact hF1.lower (by simp; omega)
        have hN2 : n' + 4 = n + (encs (ps.take (k + 1))).length := by rw [HS.out, hE, List.length_append, len_wd, HN'.out]; omega
        have HF2 := Lib.hid hF2
        have HN2 := Lib.hid hN2
        clear hF1 hE hF2 hN2
        have hB2 := Below.then_ hbr (Below.then_ (HBA.out _) hB1)
        clear hB1 d0 d1 d2 h1'
        go_wp2
        go_roundw
        case rel => exact ⟨k + 1, A1, n' + 4, _, by omega, by go_num, rfl, HN2.out, HF2.out, hB2⟩
        case measure => simp [intOf]; omega
      · have h1' : ((kd.toNat : Int) == 1) = false := by simp; omega
        have H1 := Lib.hid h1
        clear h1
        by_cases h2 : kd.toNat = 2
        · have h2' : ((kd.toNat : Int) == 2) = true := by simp [h2]
          have H2 := Lib.hid h2
          clear h2
          go_wp2_with fail
          refine (Blob_made (hFr.below (HBA.out _)).sees (hsee.step (HBA.out _)) HLL.out HBL.out rfl rfl (by omega) (by omega)).mono ?_
          rintro e w1 ⟨A1, c1, rfl, hF1, hB1⟩
          have hE : Pc.enc ⟨kd, x, B, m, d, bs⟩ = blob bs := by
            have hkd : kd = 2 := UInt8.toNat_inj.1 H2.out
            simp [Pc.enc, hkd]
          have hF2 : Fresh base 5 w1 A1 (n' + (nd m + m)) c1 (cb (l ++ encs (ps.take (k + 1)))) := by
            rw [HS.out, hE, ← List.append_assoc]
            exact hF1.lower (by simp; omega)
          have hN2 : n' + (nd m + m) = n + (encs (ps.take (k + 1))).length := by rw [HS.out, hE, List.length_append, blob, List.length_append, len_digs, HBL.out, HN'.out]; omega
          have HF2 := Lib.hid hF2
          have HN2 := Lib.hid hN2
          clear hF1 hE hF2 hN2
          have hB2 := Below.then_ hbr (Below.then_ (HBA.out _) hB1)
          clear hB1 d0 d1 d2 h1' h2'
          go_wp2
          go_roundw
          case rel => exact ⟨k + 1, A1, n' + (nd m + m), _, by omega, by go_num, rfl, HN2.out, HF2.out, hB2⟩
          case measure => simp [intOf]; omega
        · have h2' : ((kd.toNat : Int) == 2) = false := by simp; omega
          have H2 := Lib.hid h2
          clear h2
          go_wp2_with fail
          refine (Uint_made (hFr.below (HBA.out _)).sees HLL.out rfl rfl (by omega) HX.out).mono ?_
          rintro e w1 ⟨A1, c1, rfl, hF1, hB1⟩
          have hE : Pc.enc ⟨kd, x, B, m, d, bs⟩ = digs x := by
            have hk1 : ¬ kd = 1 := fun e => H1.out (by rw [e]; rfl)
            have hk2 : ¬ kd = 2 := fun e => H2.out (by rw [e]; rfl)
            simp [Pc.enc, hk1, hk2]
          have hF2 : Fresh base 5 w1 A1 (n' + nd x) c1 (cb (l ++ encs (ps.take (k + 1)))) := by
            rw [HS.out, hE, ← List.append_assoc]
            exact hF1.lower (by simp; omega)
          have hN2 : n' + nd x = n + (encs (ps.take (k + 1))).length := by rw [HS.out, hE, List.length_append, len_digs, HN'.out]; omega
          have HF2 := Lib.hid hF2
          have HN2 := Lib.hid hN2
          clear hF1 hE hF2 hN2
          have hB2 := Below.then_ hbr (Below.then_ (HBA.out _) hB1)
          clear hB1 d0 d1 d2 h1' h2'
          go_wp2
          go_roundw
          case rel => exact ⟨k + 1, A1, n' + nd x, _, by omega, by go_num, rfl, HN2.out, HF2.out, hB2⟩
          case measure => simp [intOf]; omega
    · go_wp2
      go_ret
      obtain rfl : k = N := by omega
      have hall : ps.take k = ps := List.take_of_length_le (by rw [HN.out]; exact Nat.le_refl _)
      rw [hall] at hFr HN'
      exact ⟨A', c', by rw [HN'.out]; rfl, by rw [← HN'.out]; exact hFr, hbr⟩
end Go.Proofs.Ytbmolgfjdjpniaa
