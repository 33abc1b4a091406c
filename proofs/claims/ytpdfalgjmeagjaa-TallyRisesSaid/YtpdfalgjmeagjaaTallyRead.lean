/-
  What a sector of these words counts, and where it has room: tally's counts and rest.
-/
import Derived.Test.YtpdfalgjmeagjaaTallyLeaf
import Derived.Test.YtpdfalgjmeagjaaTallyPure
import Derived.Test.YtpdfalgjmeagjaaShaWord
namespace Go.Proofs.Ytpdfalgjmeagjaa
open Go.RowKit
set_option linter.unusedVariables false

theorem zers_step {l : List UInt32} {j : Nat} {x : UInt32} (hx : l[j]? = some x) : zers (l.take (j + 1)) = zers (l.take j) + zer x := by
  rw [List.take_add_one, hx, Option.toList_some, zers_app]
  simp only [zers, Nat.add_zero]
theorem zer_as {x : UInt32} {y : Nat} (hy : 4294967295 - x.toNat = y) : zer x = Lib.popAux 32 y := by
  unfold zer
  rw [hy]
section
variable {w : World} {B g off : Nat} {l : List UInt32}
theorem not32 (x : UInt32) : bits .xor .u32 (if IntKind.u32.signed = true then -1 else IntKind.u32.max) (x.toNat : Int) = (((4294967295 - x.toNat : Nat)) : Int) := by
  have hx := x.toNat_lt
  rw [if_neg (by decide), show IntKind.u32.max = ((4294967295 : UInt32).toNat : Int) from by decide, u32_xor]
  congr 1
  have : (4294967295 : UInt32) ^^^ x = ~~~x := by
    apply UInt32.toBitVec_inj.1
    show (4294967295#32 : BitVec 32) ^^^ x.toBitVec = ~~~x.toBitVec
    rw [show (4294967295#32 : BitVec 32) = BitVec.allOnes 32 from rfl, BitVec.allOnes_xor]
  rw [this, UInt32.toNat_not]
  rfl
theorem ones_nat (n : Nat) (h : n < 4294967296) (w : World) : Calls Try.prog 202 #[.int .u32 (n : Int)] w fun e w' => e = .returned (.int .i64 (Lib.popAux 32 n : Int)) ∧ ∃ q, w' = w.drewN q := by
  have := OnesCount32_any (UInt32.ofNat n) w
  rwa [UInt32.toNat_ofNat', Nat.mod_eq_of_lt (show n < 2 ^ 32 from h)] at this
/-- What is told: a count, and whether it counts. -/
def cntV : Option Nat → Value
  | none => .tuple #[.int .i64 0, .bool false]
  | some n => .tuple #[.int .i64 (n : Int), .bool true]
set_option maxHeartbeats 1000000 in
set_option maxRecDepth 100000 in
theorem counts_any (hs : Sees w B (some ⟨g, off, none⟩) (cw l)) (hl : l.length = 64) (r : Option Nat) (hr : cntL l = r) :
    Calls Try.prog 178 #[.pointer (some ⟨g, off, none⟩)] w fun e w' => e = .returned (cntV r) ∧ ∃ q, w' = w.drewN q := by
  match l, hl with
  | b :: t :: rr, hl =>
  simp only [List.length_cons] at hl
  have hl2 : rr.length = 62 := by omega
  obtain ⟨g', o', he, hg, hc⟩ := hs (by simp)
  obtain ⟨rfl, rfl⟩ : g = g' ∧ off = o' := by simpa using he
  have c0 : w.cell? ⟨g, off, none⟩ = some (.int .u32 (b.toNat : Int)) := hc 0 _ rfl
  have c1 := hc 1 (.int .u32 (t.toNat : Int)) rfl
  have cc : ∀ k, k < 62 → ∃ x, rr[k]? = some x ∧ w.cell? ⟨g, off + (2 + k), none⟩ = some (.int .u32 (x.toNat : Int)) := fun k hk => by
    have e : rr[k]? = some (rr[k]'(by omega)) := List.getElem?_eq_getElem (by omega)
    refine ⟨_, e, ?_⟩
    have := hc (2 + k) (.int .u32 ((rr[k]'(by omega)).toNat : Int)) (by
      rw [show 2 + k = k + 1 + 1 from by omega]
      simp [e])
    exact this
  have hb := b.toNat_lt
  have ht := t.toNat_lt
  have nb := not32 b
  simp only [cntL] at hr
  clear hc hs he
  obtain ⟨m, hm⟩ : ∃ m, 4294967295 - b.toNat = m := ⟨_, rfl⟩
  rw [hm] at nb hr
  by_cases k1 : b.toNat ≤ 2147483648
  · by_cases k2 : t.toNat = m
    · rw [if_pos ⟨k1, k2⟩] at hr
      subst hr
      have K3 : ((t.toNat : Int) != (m : Int)) = false := by simp; omega
      have HR := Lib.hid hl2
      clear hl2 hl ht hm
      go_enter Try.func178, Try.ntmps178
      go_wp2_with fail
      go_loopw [5, 24] (fun v i wr => ∃ j : Nat, j ≤ 62 ∧ i = .int .i64 (j : Int) ∧ v = .int .i64 ((b.toNat + zers (rr.take j) : Nat) : Int) ∧ ∃ q, wr = w.drewN q) (fun _ i _ => 62 - (intOf i).toNat)
      case atStart => exact ⟨0, Nat.zero_le _, rfl, by simp [zers], 0, rfl⟩
      case round =>
        obtain ⟨j, hj, rfl, rfl, q, rfl⟩ := hrel
        by_cases hlt : j < 62
        · obtain ⟨x, hx, cx⟩ := cc j hlt
          obtain ⟨y, hy⟩ : ∃ y, 4294967295 - x.toNat = y := ⟨_, rfl⟩
          have nx : bits .xor .u32 IntKind.u32.max (x.toNat : Int) = (y : Int) := by
            have := not32 x
            rw [if_neg (by decide), hy] at this
            exact this
          have hz : zers (rr.take (j + 1)) = zers (rr.take j) + Lib.popAux 32 y := by
            rw [zers_step hx, zer_as hy]
          have hzl := zers_le (rr.take j)
          have hzl2 : (rr.take j).length ≤ 62 := by simp; omega
          have hp := pop_le 32 y
          have hO := fun w => ones_nat y (by omega) w
          revert hz hp hO
          generalize Lib.popAux 32 y = P
          intro hz hp hO
          revert hz hzl
          generalize zers (rr.take j) = Z
          intro hzl hz
          have HZ := Lib.hid hz
          have ew : IntKind.i64.wrap (((b.toNat + Z : Nat) : Int) + (P : Int)) = ((b.toNat + Z : Nat) : Int) + (P : Int) := by
            rw [IntKind.wrap_i64]
            omega
          have hZ : Z ≤ 1984 := by omega
          clear hz hzl hzl2 hy
          go_wp2_with fail
          refine (hO _).mono ?_
          rintro e w1 ⟨rfl, q1, rfl⟩
          go_wp2_with fail
          go_roundw
          case rel => exact ⟨j + 1, by omega, by go_num, by rw [HZ.out]; go_num, q + q1, rfl⟩
          case measure => simp [intOf]; omega
        · obtain rfl : j = 62 := by omega
          rw [List.take_of_length_le (by rw [HR.out]; exact Nat.le_refl _)]
          go_wp2_with fail
          go_ret2
          exact ⟨rfl, q, rfl⟩
    · rw [if_neg (fun h => k2 h.2)] at hr
      subst hr
      have K3 : ((t.toNat : Int) != (m : Int)) = true := by simp; omega
      clear hl2 hl ht hm
      go_enter Try.func178, Try.ntmps178
      go_wp2_with fail
      go_ret2
      exact ⟨rfl, 0, rfl⟩
  · rw [if_neg (fun h => k1 h.1)] at hr
    subst hr
    clear hl2 hl hm ht
    go_enter Try.func178, Try.ntmps178
    go_wp2_with fail
    go_ret2
    exact ⟨rfl, 0, rfl⟩
/-- Where there is room. -/
def rstV : Option Nat → Value
  | none => .tuple #[.int .i64 0, .bool false]
  | some n => .tuple #[.int .i64 (n : Int), .bool true]
theorem firstNz_drop (l : List UInt32) (j : Nat) (x : UInt32) (hx : l[j]? = some x) : firstNz (l.drop j) = if x = 0 then (firstNz (l.drop (j + 1))).map (· + 1) else some 0 := by
  rw [drop_at32 hx]
  rfl
set_option maxHeartbeats 1000000 in
set_option maxRecDepth 100000 in
theorem rest_any (hs : Sees w B (some ⟨g, off, none⟩) (cw l)) (hl : l.length = 64) (r : Option Nat) (hr : restL l = r) :
    Calls Try.prog 180 #[.pointer (some ⟨g, off, none⟩)] w fun e w' => e = .returned (rstV r) ∧ w' = w := by
  obtain ⟨g', o', he, hg, hc⟩ := hs (by simp; omega)
  obtain ⟨rfl, rfl⟩ : g = g' ∧ off = o' := by simpa using he
  have cc : ∀ k, k < 62 → ∃ x, l[2 + k]? = some x ∧ w.cell? ⟨g, off + (2 + k), none⟩ = some (.int .u32 (x.toNat : Int)) := fun k hk => by
    have e : l[2 + k]? = some (l[2 + k]'(by omega)) := List.getElem?_eq_getElem (by omega)
    exact ⟨_, e, hc (2 + k) (.int .u32 ((l[2 + k]'(by omega)).toNat : Int)) (by simp [e])⟩
  have HL := Lib.hid hl
  unfold restL at hr
  have HR := Lib.hid hr
  clear hc hs he hl hr
  go_enter Try.func180, Try.ntmps180
  go_wp2_with fail
  go_loopw [5] (fun i wr => ∃ j : Nat, j ≤ 62 ∧ i = .int .i64 (j : Int) ∧ Hid ((firstNz (l.drop (2 + j))).map (· + (2 + j)) = r) ∧ wr = w) (fun i _ => 62 - (intOf i).toNat)
  case atStart => exact ⟨0, Nat.zero_le _, rfl, Lib.hid HR.out, rfl⟩
  case round =>
    obtain ⟨j, hj, rfl, hu, rfl⟩ := hrel
    by_cases hlt : j < 62
    · obtain ⟨x, hx, cx⟩ := cc j hlt
      have hu2 := hu.out
      rw [firstNz_drop l (2 + j) x hx] at hu2
      have HX := Lib.hid hx
      clear hu hx HR cc
      by_cases h0 : x = 0
      · subst h0
        rw [if_pos rfl] at hu2
        have HU := Lib.hid hu2
        clear hu2
        go_wp2_with fail
        go_roundw
        case rel =>
          refine ⟨j + 1, by omega, by go_num, Lib.hid ?_, (by first | rfl | trivial)⟩
          rw [← HU.out, Option.map_map, show 2 + (j + 1) = 2 + j + 1 from by omega]
          cases firstNz (l.drop (2 + j + 1))
          · rfl
          · simp
            omega
        case measure => simp [intOf]; omega
      · rw [if_neg h0] at hu2
        obtain rfl : r = some (2 + j) := by rw [← hu2]; simp
        have hn : ¬ ((x.toNat : Int) = 0) := by
          have := ne0 h0
          omega
        clear hu2 h0
        go_wp2_with fail
        go_ret2
        exact ⟨rfl, rfl⟩
    · obtain rfl : j = 62 := by omega
      have hu2 := hu.out
      rw [List.drop_of_length_le (by rw [HL.out]; exact Nat.le_refl _)] at hu2
      obtain rfl : r = none := by rw [← hu2]; rfl
      clear hu hu2 HR
      go_wp2_with fail
      go_ret2
      exact ⟨rfl, rfl⟩
end
end Go.Proofs.Ytpdfalgjmeagjaa
