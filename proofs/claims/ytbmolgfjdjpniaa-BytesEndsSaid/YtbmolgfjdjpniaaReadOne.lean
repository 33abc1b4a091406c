/-
  What read of the statements' package answers where a piece stands at the place: the place behind it, and true.
-/
import Derived.Test.YtbmolgfjdjpniaaWritten
namespace Go.Proofs.Ytbmolgfjdjpniaa
open Go.RowKit
set_option linter.unusedVariables false

theorem GetWord_eq {l : List UInt8} {p : Int} {x q r : Nat} (h : getW l p = (x, q, r)) (A : Option Addr) (c n : Nat) (w : World) (hs : Sees w w.heap.size A (cb l)) (hl : l.length = n) (hn : n ≤ 1099511627776) :
    Calls Try.prog 13 #[.slice A n c, .int .i64 p] w fun e w' => e = .returned (.tuple #[.int .u32 (x : Int), .int .i64 (q : Int), .int .i64 (r : Int)]) ∧ w = w' := by
  have := GetWord_any A c n p l w hs hl hn
  rw [h] at this
  exact this

def Reads2 (w : World) (q : Nat) (e : Ending) (w' : World) : Prop := e = .returned (.tuple #[.int .i64 (q : Int), .bool true]) ∧ Below w.heap.size w w'

set_option maxRecDepth 100000 in
set_option maxHeartbeats 1000000 in
theorem read_any (A B : Option Addr) (c n m d x q : Nat) (kd : UInt8) (P : Int) (l bs pre rest : List UInt8) (w : World) (hs : Sees w w.heap.size A (cb l)) (hl : l.length = n) (hnc : n ≤ c) (hn : n ≤ 100000)
    (hok : Pc.Ok w ⟨kd, x, B, m, d, bs⟩) (hm : m ≤ 100) (hL : l = pre ++ (Pc.enc ⟨kd, x, B, m, d, bs⟩ ++ rest)) (hP : P = (pre.length : Int)) (hq : q = pre.length + (Pc.enc ⟨kd, x, B, m, d, bs⟩).length) :
    Calls Try.prog 33 #[.slice A n c, .int .i64 P, .agg #[.int .u8 (kd.toNat : Int), .int .u64 (x : Int), .slice B m d]] w (Reads2 w q) := by
  have HL := Lib.hid hl
  have HE := Lib.hid hL
  have HQ := Lib.hid hq
  have HP := Lib.hid hP
  have HBL : Hid (bs.length = m) := hok.len
  have HX : Hid (x < 18446744073709551616) := hok.num
  have hsee : Sees w w.heap.size B (cb bs) := hok.sees
  have hmc : m ≤ d := hok.cap
  have hba := fun ob => (Below.refl w.heap.size w).alloc (Nat.le_refl _) ob
  have HBA := Lib.hid hba
  clear hl hL hq hP hok hba
  obtain ⟨y, hy1, hy2⟩ : ∃ y : Nat, (x : Int) % 4294967296 = (y : Int) ∧ Hid (y = x % 4294967296) := ⟨x % 4294967296, by simp, rfl⟩
  have hy3 : y < 4294967296 := by rw [hy2.out]; exact Nat.mod_lt _ (by omega)
  by_cases h1 : kd.toNat = 1
  · have h1' : ((kd.toNat : Int) == 1) = true := by simp [h1]
    have hkd : kd = 1 := UInt8.toNat_inj.1 h1
    have hG : getW l P = (y, q, 0) := by
      have hE : Pc.enc ⟨kd, x, B, m, d, bs⟩ = wd y := by simp only [Pc.enc, hkd, if_true]; rw [hy2.out]
      rw [HE.out, HQ.out, hE]
      exact getW_wd pre rest y P HP.out hy3
    have HG := Lib.hid hG
    clear h1 hkd hG
    go_enter Try.func33, Try.ntmps33
    go_wp2_with fail
    refine (GetWord_eq HG.out A c n _ (hs.step (HBA.out _)) HL.out (by omega)).mono ?_
    rintro e w1 ⟨rfl, rfl⟩
    go_wp2_with fail
    go_quiet (fail)
    go_wp2
    go_ret2
    exact ⟨rfl, below_drewN' (HBA.out _) _⟩
  · have h1' : ((kd.toNat : Int) == 1) = false := by simp; omega
    have hk1 : ¬ kd = 1 := fun e => h1 (by rw [e]; rfl)
    clear h1
    by_cases h2 : kd.toNat = 2
    · have h2' : ((kd.toNat : Int) == 2) = true := by simp [h2]
      have hkd : kd = 2 := UInt8.toNat_inj.1 h2
      have hG : getB l P (m : Int) = (bs, q, 0) := by
        have hE : Pc.enc ⟨kd, x, B, m, d, bs⟩ = blob bs := by simp [Pc.enc, hkd]
        rw [HE.out, HQ.out, hE, blob, List.length_append, len_digs]
        have := getB_blob pre bs rest P (m : Int) HP.out (by rw [HBL.out]; omega) (by rw [HBL.out]; omega)
        rw [blob] at this
        exact this
      have HG := Lib.hid hG
      clear h2 hk1 hkd hG
      go_enter Try.func33, Try.ntmps33
      go_wp2_with fail
      refine (GetBlob_told (N := m) HG.out (hs.step (HBA.out _)) HL.out hnc HBL.out (by omega) (by omega)).mono ?_
      rintro e w1 ⟨A1, c1, rfl, hF1, hB1⟩
      have hC := fun o => hB1.cell (p := ⟨w.heap.size, o, none⟩) (by simp)
      have hC2 := hC 2
      simp at hC2
      have hS := hsee.step (Below.then_ (HBA.out _) hB1)
      clear hC
      go_wp2_with fail
      refine (SameBytes_any _ _ _ _ _ _ bs bs w1 hF1.sees hS HBL.out HBL.out).mono ?_
      rw [beq_self_eq_true]
      rintro e w2 ⟨rfl, rfl⟩
      go_wp2
      go_ret2
      exact ⟨rfl, Below.then_ (HBA.out _) hB1⟩
    · have h2' : ((kd.toNat : Int) == 2) = false := by simp; omega
      have hk2 : ¬ kd = 2 := fun e => h2 (by rw [e]; rfl)
      have hG : getU l P = (x, q, 0) := by
        have hE : Pc.enc ⟨kd, x, B, m, d, bs⟩ = digs x := by simp [Pc.enc, hk1, hk2]
        rw [HE.out, HQ.out, hE, len_digs]
        exact getU_digs pre rest x P HP.out HX.out
      have HG := Lib.hid hG
      clear h2 hk1 hk2 hG
      go_enter Try.func33, Try.ntmps33
      go_wp2_with fail
      refine (GetUint_eq HG.out A c n _ (hs.step (HBA.out _)) HL.out (by omega)).mono ?_
      rintro e w1 ⟨rfl, rfl⟩
      go_wp2_with fail
      go_quiet (fail)
      go_wp2
      go_ret2
      exact ⟨rfl, below_drewN' (HBA.out _) _⟩
end Go.Proofs.Ytbmolgfjdjpniaa
