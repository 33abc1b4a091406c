/-
  BytesShorter returns true for every input, and writes nothing that was there: the walk.
-/
import Derived.Test.YtbmolgfjdjpniaaTools
import Derived.Test.YtbmolgfjdjpniaaShortPure
import Derived.Test.YtbmolgfjdjpniaaRegion
namespace Go.Proofs.Ytbmolgfjdjpniaa
open Go.RowKit
set_option linter.unusedVariables false

def shortFacts (a b : List UInt8) (A B : Option Addr) (p c q d : Nat) : Nat → Value → World → Prop
  | 0, v, _ => v = .slice A p c
  | 1, v, w => ∃ A' c', v = .slice A' (nd p + p) c' ∧ Sees w w.heap.size A' (cb (blob a))
  | 2, v, _ => v = .string ⟨(blob a).toArray⟩
  | 3, v, _ => v = .slice B q d
  | 4, v, w => ∃ A' c', v = .slice A' (nd q + q) c' ∧ Sees w w.heap.size A' (cb (blob b))
  | 5, v, _ => v = .string ⟨(blob b).toArray⟩
  | 6, v, _ => v = .bool (blob a == blob b)
  | 7, v, _ => v = .slice A p c
  | 8, v, _ => v = .string ⟨a.toArray⟩
  | 9, v, _ => v = .slice B q d
  | 10, v, _ => v = .string ⟨b.toArray⟩
  | 11, v, _ => v = .bool (a == b)
  | _, v, _ => v = .bool true
theorem shortFacts_stab (a b : List UInt8) (A B : Option Addr) (p c q d : Nat) : ∀ j v w w', Below w.heap.size w w' → shortFacts a b A B p c q d j v w → shortFacts a b A B p c q d j v w' := by
  intro j v w w' hb h
  unfold shortFacts at h ⊢
  split at h <;> first | exact h | (obtain ⟨A', c', e, hs⟩ := h; exact ⟨A', c', e, hs.step hb⟩)

set_option maxRecDepth 100000 in
set_option maxHeartbeats 1000000 in
theorem short_lt (A B : Option Addr) (n m p c q d : Nat) (a b : List UInt8) (w : World) (hs : Sees w w.heap.size A (cb a)) (ht : Sees w w.heap.size B (cb b)) (ha : a.length = p) (hb : b.length = q) (hn : n < 18446744073709551616) (hm : m < 18446744073709551616) (hp : p ≤ 200) (hq : q ≤ 200) (hle : n < m) :
    Calls Try.prog 6 #[.int .u64 (n : Int), .int .u64 (m : Int), .slice A p c, .slice B q d] w fun e w' => e = .returned (.bool true) ∧ Below w.heap.size w w' := by
  have Ha := Lib.hid ha
  have Hb := Lib.hid hb
  have Hn := Lib.hid hn
  have Hm := Lib.hid hm
  clear ha hb hn hm
  go_enter Try.func6, Try.ntmps6
  go_wp2_with fail
  refine (Uint_made (n := 0) (l := []) Sees.nil rfl rfl rfl (by omega) Hn.out).mono ?_
  rintro e w1 ⟨A1, c1, rfl, hF1, hB1⟩
  rw [Nat.zero_add, List.nil_append] at hF1
  rw [Nat.zero_add]
  go_wp2_with fail
  refine (Uint_made (n := 0) (l := []) Sees.nil rfl rfl rfl (by omega) Hm.out).mono ?_
  rintro e w2 ⟨A2, c2, rfl, hF2, hB2⟩
  rw [Nat.zero_add, List.nil_append] at hF2
  rw [Nat.zero_add]
  go_wp2_with fail
  obtain ⟨x, hx1, hx2⟩ : ∃ x : Nat, (n : Int) % 4294967296 = (x : Int) ∧ x < 4294967296 := ⟨n % 4294967296, by simp, Nat.mod_lt _ (by omega)⟩
  obtain ⟨y, hy1, hy2⟩ : ∃ y : Nat, (m : Int) % 4294967296 = (y : Int) ∧ y < 4294967296 := ⟨m % 4294967296, by simp, Nat.mod_lt _ (by omega)⟩
  rw [hx1]
  refine (Word_made (n := 0) (N := 4) (l := []) (x := x) Sees.nil rfl rfl rfl (by omega) hx2).mono ?_
  rintro e w3 ⟨A3, c3, rfl, hF3, hB3⟩
  rw [List.nil_append] at hF3
  go_wp2_with fail
  refine (Word_made (n := 0) (N := 4) (l := []) (x := y) Sees.nil rfl rfl rfl (by omega) hy2).mono ?_
  rintro e w4 ⟨A4, c4, rfl, hF4, hB4⟩
  rw [List.nil_append] at hF4
  have s1 := run_str (((hF1.below hB2).below hB3).below hB4).sees (len_digs n) c1
  have s2 := run_str ((hF2.below hB3).below hB4).sees (len_digs m) c2
  have s3 := run_str (hF3.below hB4).sees (len_wd x) c3
  have s4 := run_str hF4.sees (len_wd y) c4
  have k1 := (nd_bd n).1
  have k2 := nd_mono n m (by omega)
  have k3 := (nd_bd m).2
  have e1 : (digs n == digs m) = ((n : Int) == (m : Int)) := by
    rw [Bool.eq_iff_iff]
    simp only [beq_iff_eq]
    constructor
    · intro h; have := digs_inj n m Hn.out Hm.out h; omega
    · intro h; have : n = m := by omega
      rw [this]
  have e2 : Op.bytesLess (wd x) (wd y) = decide ((x : Int) < (y : Int)) := by
    rw [wd_less x y hx2 hy2]
    simp
  have hB14 := Below.then_ (Below.then_ (Below.then_ hB1 hB2) hB3) hB4
  have hs4 := hs.step hB14
  have ht4 := ht.step hB14
  clear hF1 hF2 hF3 hF4 hB1 hB2 hB3 hB4
  go_wp2_with fail
  clear s1 s2 s3 s4 e1 e2
  have eab : (blob a == blob b) = (a == b) := by
    rw [Bool.eq_iff_iff]
    simp only [beq_iff_eq]
    exact ⟨blob_inj a b (by rw [Ha.out]; omega) (by rw [Hb.out]; omega), fun h => by rw [h]⟩
  have hla : (blob a).length = nd p + p := by rw [blob, List.length_append, len_digs, Ha.out]
  have hlb : (blob b).length = nd q + q := by rw [blob, List.length_append, len_digs, Hb.out]
  refine region_all (shortFacts a b A B p c q d) (by kernel_rfl) (by kernel_rfl) (shortFacts_stab a b A B p c q d) ?_ ?_
  · intro w0 hb0
    have hs0 := hs4.step hb0
    have ht0 := ht4.step hb0
    refine ⟨?_, ?_, ?_, ?_, ?_, ?_, ?_, ?_, ?_, ?_, ?_, ?_, ?_, ?_, ?_, ?_, ?_, trivial⟩
    all_goals intro listed a1 w' hk hd
    · have f2 := hk.ev_old 2 (by kernel_rfl)
      exact stepOk_value rfl (v := .slice A p c) (by simp [execOp]; exact f2) rfl
    · obtain ⟨v, e0, _, rfl⟩ := hk.ev_new hd 0 83 (by kernel_rfl) rfl
      refine stepOk_enter rfl (f := 30) (args := #[.slice none 0 0, .slice A p c]) (by go_simp) ?_
      refine (Blob_made (n := 0) (N := nd p + p) (l := []) (L := blob a) Sees.nil (hs0.step hk.below) rfl Ha.out (by omega) rfl (by omega) (by omega)).mono ?_
      rintro e w5 ⟨A5, c5, rfl, hF5, hB5⟩
      exact ⟨_, rfl, ⟨A5, c5, rfl, hF5.sees⟩, hB5⟩
    · obtain ⟨v, e0, _, A', c', rfl, hS⟩ := hk.ev_new hd 1 84 (by kernel_rfl) rfl
      have h := run_str hS hla c'
      exact stepOk_value rfl (v := .string ⟨(blob a).toArray⟩) (by go_simp) rfl
    · have f3 := hk.ev_old 3 (by kernel_rfl)
      exact stepOk_value rfl (v := .slice B q d) (by simp [execOp]; exact f3) rfl
    · obtain ⟨v, e0, _, rfl⟩ := hk.ev_new hd 3 86 (by kernel_rfl) rfl
      refine stepOk_enter rfl (f := 30) (args := #[.slice none 0 0, .slice B q d]) (by go_simp) ?_
      refine (Blob_made (n := 0) (N := nd q + q) (l := []) (L := blob b) Sees.nil (ht0.step hk.below) rfl Hb.out (by omega) rfl (by omega) (by omega)).mono ?_
      rintro e w5 ⟨A5, c5, rfl, hF5, hB5⟩
      exact ⟨_, rfl, ⟨A5, c5, rfl, hF5.sees⟩, hB5⟩
    · obtain ⟨v, e0, _, A', c', rfl, hS⟩ := hk.ev_new hd 4 87 (by kernel_rfl) rfl
      have h := run_str hS hlb c'
      exact stepOk_value rfl (v := .string ⟨(blob b).toArray⟩) (by go_simp) rfl
    · obtain ⟨v, e0, _, rfl⟩ := hk.ev_new hd 2 85 (by kernel_rfl) rfl
      obtain ⟨v, e1, _, rfl⟩ := hk.ev_new hd 5 88 (by kernel_rfl) rfl
      clear eab
      exact stepOk_value rfl (v := .bool (blob a == blob b)) (by go_simp) rfl
    · have f2 := hk.ev_old 2 (by kernel_rfl)
      exact stepOk_value rfl (v := .slice A p c) (by simp [execOp]; exact f2) rfl
    · obtain ⟨v, e0, _, rfl⟩ := hk.ev_new hd 7 90 (by kernel_rfl) rfl
      have h := run_str (hs0.step hk.below) Ha.out c
      exact stepOk_value rfl (v := .string ⟨a.toArray⟩) (by go_simp) rfl
    · have f3 := hk.ev_old 3 (by kernel_rfl)
      exact stepOk_value rfl (v := .slice B q d) (by simp [execOp]; exact f3) rfl
    · obtain ⟨v, e0, _, rfl⟩ := hk.ev_new hd 9 92 (by kernel_rfl) rfl
      have h := run_str (ht0.step hk.below) Hb.out d
      exact stepOk_value rfl (v := .string ⟨b.toArray⟩) (by go_simp) rfl
    · obtain ⟨v, e0, _, rfl⟩ := hk.ev_new hd 8 91 (by kernel_rfl) rfl
      obtain ⟨v, e1, _, rfl⟩ := hk.ev_new hd 10 93 (by kernel_rfl) rfl
      exact stepOk_value rfl (v := .bool (a == b)) (by go_simp) rfl
    · obtain ⟨v, e0, _, rfl⟩ := hk.ev_new hd 6 89 (by kernel_rfl) rfl
      obtain ⟨v, e1, _, rfl⟩ := hk.ev_new hd 11 94 (by kernel_rfl) rfl
      exact stepOk_value rfl (v := .bool true) (by go_simp) rfl
    · obtain ⟨v, e0, _, rfl⟩ := hk.ev_new hd 12 95 (by kernel_rfl) rfl
      exact stepOk_value rfl (v := .bool true) (by go_simp) rfl
    · obtain ⟨v, e0, hv, rfl⟩ := hk.ev_new hd 13 96 (by kernel_rfl) rfl
      refine stepOk_enter (wanted_at (t := 96) rfl rfl hv) (f := 17) (args := #[]) (by go_simp) ?_
      refine (awake_any _).mono ?_
      rintro e w5 ⟨rfl, hB5⟩
      exact ⟨_, rfl, rfl, hB5⟩
    · obtain ⟨v, e0, _, rfl⟩ := hk.ev_new hd 13 96 (by kernel_rfl) rfl
      obtain ⟨v, e1, _, rfl⟩ := hk.ev_new hd 14 97 (by kernel_rfl) rfl
      exact stepOk_value rfl (v := .bool true) (by go_simp) rfl
    · obtain ⟨v, e0, _, rfl⟩ := hk.ev_new hd 15 98 (by kernel_rfl) rfl
      exact stepOk_value rfl (v := .bool true) (by go_simp) rfl
  · intro w0 hb0 listed a1 w' hk hall
    obtain ⟨v, hv, rfl⟩ := hk.new 16 _ 8 rfl rfl (hall 16 (by simp))
    have hdf := hk.defers
    have hB := Below.then_ hB14 (Below.then_ hb0 hk.below)
    rename_i hK
    refine hK _ _ (wp_ret ?_)
    refine bodyPost_ret (v := .bool true) ?_ hdf ⟨rfl, hB⟩
    rw [results_tmp (t := 8) rfl]
    simp [Array.getD_eq_getD_getElem?, hv]
set_option maxRecDepth 100000 in
set_option maxHeartbeats 1000000 in
theorem short_gt (A B : Option Addr) (n m p c q d : Nat) (a b : List UInt8) (w : World) (hs : Sees w w.heap.size A (cb a)) (ht : Sees w w.heap.size B (cb b)) (ha : a.length = p) (hb : b.length = q) (hn : n < 18446744073709551616) (hm : m < 18446744073709551616) (hp : p ≤ 200) (hq : q ≤ 200) (hle : m < n) :
    Calls Try.prog 6 #[.int .u64 (n : Int), .int .u64 (m : Int), .slice A p c, .slice B q d] w fun e w' => e = .returned (.bool true) ∧ Below w.heap.size w w' := by
  have Ha := Lib.hid ha
  have Hb := Lib.hid hb
  have Hn := Lib.hid hn
  have Hm := Lib.hid hm
  clear ha hb hn hm
  go_enter Try.func6, Try.ntmps6
  go_wp2_with fail
  refine (Uint_made (n := 0) (l := []) Sees.nil rfl rfl rfl (by omega) Hm.out).mono ?_
  rintro e w1 ⟨A1, c1, rfl, hF1, hB1⟩
  rw [Nat.zero_add, List.nil_append] at hF1
  rw [Nat.zero_add]
  go_wp2_with fail
  refine (Uint_made (n := 0) (l := []) Sees.nil rfl rfl rfl (by omega) Hn.out).mono ?_
  rintro e w2 ⟨A2, c2, rfl, hF2, hB2⟩
  rw [Nat.zero_add, List.nil_append] at hF2
  rw [Nat.zero_add]
  go_wp2_with fail
  obtain ⟨x, hx1, hx2⟩ : ∃ x : Nat, (n : Int) % 4294967296 = (x : Int) ∧ x < 4294967296 := ⟨n % 4294967296, by simp, Nat.mod_lt _ (by omega)⟩
  obtain ⟨y, hy1, hy2⟩ : ∃ y : Nat, (m : Int) % 4294967296 = (y : Int) ∧ y < 4294967296 := ⟨m % 4294967296, by simp, Nat.mod_lt _ (by omega)⟩
  rw [hx1]
  refine (Word_made (n := 0) (N := 4) (l := []) (x := x) Sees.nil rfl rfl rfl (by omega) hx2).mono ?_
  rintro e w3 ⟨A3, c3, rfl, hF3, hB3⟩
  rw [List.nil_append] at hF3
  go_wp2_with fail
  refine (Word_made (n := 0) (N := 4) (l := []) (x := y) Sees.nil rfl rfl rfl (by omega) hy2).mono ?_
  rintro e w4 ⟨A4, c4, rfl, hF4, hB4⟩
  rw [List.nil_append] at hF4
  have s1 := run_str (((hF1.below hB2).below hB3).below hB4).sees (len_digs m) c1
  have s2 := run_str ((hF2.below hB3).below hB4).sees (len_digs n) c2
  have s3 := run_str (hF3.below hB4).sees (len_wd x) c3
  have s4 := run_str hF4.sees (len_wd y) c4
  have k1 := (nd_bd m).1
  have k2 := nd_mono m n (by omega)
  have k3 := (nd_bd n).2
  have e1 : (digs m == digs n) = ((n : Int) == (m : Int)) := by
    rw [Bool.eq_iff_iff]
    simp only [beq_iff_eq]
    constructor
    · intro h; have := digs_inj m n Hm.out Hn.out h; omega
    · intro h; have : n = m := by omega
      rw [this]
  have e2 : Op.bytesLess (wd x) (wd y) = decide ((x : Int) < (y : Int)) := by
    rw [wd_less x y hx2 hy2]
    simp
  have hB14 := Below.then_ (Below.then_ (Below.then_ hB1 hB2) hB3) hB4
  have hs4 := hs.step hB14
  have ht4 := ht.step hB14
  clear hF1 hF2 hF3 hF4 hB1 hB2 hB3 hB4
  go_wp2_with fail
  clear s1 s2 s3 s4 e1 e2
  have eab : (blob a == blob b) = (a == b) := by
    rw [Bool.eq_iff_iff]
    simp only [beq_iff_eq]
    exact ⟨blob_inj a b (by rw [Ha.out]; omega) (by rw [Hb.out]; omega), fun h => by rw [h]⟩
  have hla : (blob a).length = nd p + p := by rw [blob, List.length_append, len_digs, Ha.out]
  have hlb : (blob b).length = nd q + q := by rw [blob, List.length_append, len_digs, Hb.out]
  refine region_all (shortFacts a b A B p c q d) (by kernel_rfl) (by kernel_rfl) (shortFacts_stab a b A B p c q d) ?_ ?_
  · intro w0 hb0
    have hs0 := hs4.step hb0
    have ht0 := ht4.step hb0
    refine ⟨?_, ?_, ?_, ?_, ?_, ?_, ?_, ?_, ?_, ?_, ?_, ?_, ?_, ?_, ?_, ?_, ?_, trivial⟩
    all_goals intro listed a1 w' hk hd
    · have f2 := hk.ev_old 2 (by kernel_rfl)
      exact stepOk_value rfl (v := .slice A p c) (by simp [execOp]; exact f2) rfl
    · obtain ⟨v, e0, _, rfl⟩ := hk.ev_new hd 0 83 (by kernel_rfl) rfl
      refine stepOk_enter rfl (f := 30) (args := #[.slice none 0 0, .slice A p c]) (by go_simp) ?_
      refine (Blob_made (n := 0) (N := nd p + p) (l := []) (L := blob a) Sees.nil (hs0.step hk.below) rfl Ha.out (by omega) rfl (by omega) (by omega)).mono ?_
      rintro e w5 ⟨A5, c5, rfl, hF5, hB5⟩
      exact ⟨_, rfl, ⟨A5, c5, rfl, hF5.sees⟩, hB5⟩
    · obtain ⟨v, e0, _, A', c', rfl, hS⟩ := hk.ev_new hd 1 84 (by kernel_rfl) rfl
      have h := run_str hS hla c'
      exact stepOk_value rfl (v := .string ⟨(blob a).toArray⟩) (by go_simp) rfl
    · have f3 := hk.ev_old 3 (by kernel_rfl)
      exact stepOk_value rfl (v := .slice B q d) (by simp [execOp]; exact f3) rfl
    · obtain ⟨v, e0, _, rfl⟩ := hk.ev_new hd 3 86 (by kernel_rfl) rfl
      refine stepOk_enter rfl (f := 30) (args := #[.slice none 0 0, .slice B q d]) (by go_simp) ?_
      refine (Blob_made (n := 0) (N := nd q + q) (l := []) (L := blob b) Sees.nil (ht0.step hk.below) rfl Hb.out (by omega) rfl (by omega) (by omega)).mono ?_
      rintro e w5 ⟨A5, c5, rfl, hF5, hB5⟩
      exact ⟨_, rfl, ⟨A5, c5, rfl, hF5.sees⟩, hB5⟩
    · obtain ⟨v, e0, _, A', c', rfl, hS⟩ := hk.ev_new hd 4 87 (by kernel_rfl) rfl
      have h := run_str hS hlb c'
      exact stepOk_value rfl (v := .string ⟨(blob b).toArray⟩) (by go_simp) rfl
    · obtain ⟨v, e0, _, rfl⟩ := hk.ev_new hd 2 85 (by kernel_rfl) rfl
      obtain ⟨v, e1, _, rfl⟩ := hk.ev_new hd 5 88 (by kernel_rfl) rfl
      clear eab
      exact stepOk_value rfl (v := .bool (blob a == blob b)) (by go_simp) rfl
    · have f2 := hk.ev_old 2 (by kernel_rfl)
      exact stepOk_value rfl (v := .slice A p c) (by simp [execOp]; exact f2) rfl
    · obtain ⟨v, e0, _, rfl⟩ := hk.ev_new hd 7 90 (by kernel_rfl) rfl
      have h := run_str (hs0.step hk.below) Ha.out c
      exact stepOk_value rfl (v := .string ⟨a.toArray⟩) (by go_simp) rfl
    · have f3 := hk.ev_old 3 (by kernel_rfl)
      exact stepOk_value rfl (v := .slice B q d) (by simp [execOp]; exact f3) rfl
    · obtain ⟨v, e0, _, rfl⟩ := hk.ev_new hd 9 92 (by kernel_rfl) rfl
      have h := run_str (ht0.step hk.below) Hb.out d
      exact stepOk_value rfl (v := .string ⟨b.toArray⟩) (by go_simp) rfl
    · obtain ⟨v, e0, _, rfl⟩ := hk.ev_new hd 8 91 (by kernel_rfl) rfl
      obtain ⟨v, e1, _, rfl⟩ := hk.ev_new hd 10 93 (by kernel_rfl) rfl
      exact stepOk_value rfl (v := .bool (a == b)) (by go_simp) rfl
    · obtain ⟨v, e0, _, rfl⟩ := hk.ev_new hd 6 89 (by kernel_rfl) rfl
      obtain ⟨v, e1, _, rfl⟩ := hk.ev_new hd 11 94 (by kernel_rfl) rfl
      exact stepOk_value rfl (v := .bool true) (by go_simp) rfl
    · obtain ⟨v, e0, _, rfl⟩ := hk.ev_new hd 12 95 (by kernel_rfl) rfl
      exact stepOk_value rfl (v := .bool true) (by go_simp) rfl
    · obtain ⟨v, e0, hv, rfl⟩ := hk.ev_new hd 13 96 (by kernel_rfl) rfl
      refine stepOk_enter (wanted_at (t := 96) rfl rfl hv) (f := 17) (args := #[]) (by go_simp) ?_
      refine (awake_any _).mono ?_
      rintro e w5 ⟨rfl, hB5⟩
      exact ⟨_, rfl, rfl, hB5⟩
    · obtain ⟨v, e0, _, rfl⟩ := hk.ev_new hd 13 96 (by kernel_rfl) rfl
      obtain ⟨v, e1, _, rfl⟩ := hk.ev_new hd 14 97 (by kernel_rfl) rfl
      exact stepOk_value rfl (v := .bool true) (by go_simp) rfl
    · obtain ⟨v, e0, _, rfl⟩ := hk.ev_new hd 15 98 (by kernel_rfl) rfl
      exact stepOk_value rfl (v := .bool true) (by go_simp) rfl
  · intro w0 hb0 listed a1 w' hk hall
    obtain ⟨v, hv, rfl⟩ := hk.new 16 _ 8 rfl rfl (hall 16 (by simp))
    have hdf := hk.defers
    have hB := Below.then_ hB14 (Below.then_ hb0 hk.below)
    rename_i hK
    refine hK _ _ (wp_ret ?_)
    refine bodyPost_ret (v := .bool true) ?_ hdf ⟨rfl, hB⟩
    rw [results_tmp (t := 8) rfl]
    simp [Array.getD_eq_getD_getElem?, hv]
set_option maxRecDepth 100000 in
set_option maxHeartbeats 1000000 in
theorem short_eq (A B : Option Addr) (n p c q d : Nat) (a b : List UInt8) (w : World) (hs : Sees w w.heap.size A (cb a)) (ht : Sees w w.heap.size B (cb b)) (ha : a.length = p) (hb : b.length = q) (hn : n < 18446744073709551616) (hp : p ≤ 200) (hq : q ≤ 200) :
    Calls Try.prog 6 #[.int .u64 (n : Int), .int .u64 (n : Int), .slice A p c, .slice B q d] w fun e w' => e = .returned (.bool true) ∧ Below w.heap.size w w' := by
  have Ha := Lib.hid ha
  have Hb := Lib.hid hb
  have Hn := Lib.hid hn
  have Hm := Lib.hid hn
  clear ha hb hn
  go_enter Try.func6, Try.ntmps6
  go_wp2_with fail
  refine (Uint_made (n := 0) (l := []) Sees.nil rfl rfl rfl (by omega) Hn.out).mono ?_
  rintro e w1 ⟨A1, c1, rfl, hF1, hB1⟩
  rw [Nat.zero_add, List.nil_append] at hF1
  rw [Nat.zero_add]
  go_wp2_with fail
  refine (Uint_made (n := 0) (l := []) Sees.nil rfl rfl rfl (by omega) Hm.out).mono ?_
  rintro e w2 ⟨A2, c2, rfl, hF2, hB2⟩
  rw [Nat.zero_add, List.nil_append] at hF2
  rw [Nat.zero_add]
  go_wp2_with fail
  obtain ⟨x, hx1, hx2⟩ : ∃ x : Nat, (n : Int) % 4294967296 = (x : Int) ∧ x < 4294967296 := ⟨n % 4294967296, by simp, Nat.mod_lt _ (by omega)⟩
  rw [hx1]
  refine (Word_made (n := 0) (N := 4) (l := []) (x := x) Sees.nil rfl rfl rfl (by omega) hx2).mono ?_
  rintro e w3 ⟨A3, c3, rfl, hF3, hB3⟩
  rw [List.nil_append] at hF3
  go_wp2_with fail
  refine (Word_made (n := 0) (N := 4) (l := []) (x := x) Sees.nil rfl rfl rfl (by omega) hx2).mono ?_
  rintro e w4 ⟨A4, c4, rfl, hF4, hB4⟩
  rw [List.nil_append] at hF4
  have s1 := run_str (((hF1.below hB2).below hB3).below hB4).sees (len_digs n) c1
  have s2 := run_str ((hF2.below hB3).below hB4).sees (len_digs n) c2
  have s3 := run_str (hF3.below hB4).sees (len_wd x) c3
  have s4 := run_str hF4.sees (len_wd x) c4
  have k1 := (nd_bd n).1
  have k3 := (nd_bd n).2
  have e2 : Op.bytesLess (wd x) (wd x) = decide ((x : Int) < (x : Int)) := by
    rw [wd_less x x hx2 hx2]
    simp
  have hB14 := Below.then_ (Below.then_ (Below.then_ hB1 hB2) hB3) hB4
  have hs4 := hs.step hB14
  have ht4 := ht.step hB14
  clear hF1 hF2 hF3 hF4 hB1 hB2 hB3 hB4
  go_wp2_with fail
  clear s1 s2 s3 s4 e2
  have eab : (blob a == blob b) = (a == b) := by
    rw [Bool.eq_iff_iff]
    simp only [beq_iff_eq]
    exact ⟨blob_inj a b (by rw [Ha.out]; omega) (by rw [Hb.out]; omega), fun h => by rw [h]⟩
  have hla : (blob a).length = nd p + p := by rw [blob, List.length_append, len_digs, Ha.out]
  have hlb : (blob b).length = nd q + q := by rw [blob, List.length_append, len_digs, Hb.out]
  refine region_all (shortFacts a b A B p c q d) (by kernel_rfl) (by kernel_rfl) (shortFacts_stab a b A B p c q d) ?_ ?_
  · intro w0 hb0
    have hs0 := hs4.step hb0
    have ht0 := ht4.step hb0
    refine ⟨?_, ?_, ?_, ?_, ?_, ?_, ?_, ?_, ?_, ?_, ?_, ?_, ?_, ?_, ?_, ?_, ?_, trivial⟩
    all_goals intro listed a1 w' hk hd
    · have f2 := hk.ev_old 2 (by kernel_rfl)
      exact stepOk_value rfl (v := .slice A p c) (by simp [execOp]; exact f2) rfl
    · obtain ⟨v, e0, _, rfl⟩ := hk.ev_new hd 0 83 (by kernel_rfl) rfl
      refine stepOk_enter rfl (f := 30) (args := #[.slice none 0 0, .slice A p c]) (by go_simp) ?_
      refine (Blob_made (n := 0) (N := nd p + p) (l := []) (L := blob a) Sees.nil (hs0.step hk.below) rfl Ha.out (by omega) rfl (by omega) (by omega)).mono ?_
      rintro e w5 ⟨A5, c5, rfl, hF5, hB5⟩
      exact ⟨_, rfl, ⟨A5, c5, rfl, hF5.sees⟩, hB5⟩
    · obtain ⟨v, e0, _, A', c', rfl, hS⟩ := hk.ev_new hd 1 84 (by kernel_rfl) rfl
      have h := run_str hS hla c'
      exact stepOk_value rfl (v := .string ⟨(blob a).toArray⟩) (by go_simp) rfl
    · have f3 := hk.ev_old 3 (by kernel_rfl)
      exact stepOk_value rfl (v := .slice B q d) (by simp [execOp]; exact f3) rfl
    · obtain ⟨v, e0, _, rfl⟩ := hk.ev_new hd 3 86 (by kernel_rfl) rfl
      refine stepOk_enter rfl (f := 30) (args := #[.slice none 0 0, .slice B q d]) (by go_simp) ?_
      refine (Blob_made (n := 0) (N := nd q + q) (l := []) (L := blob b) Sees.nil (ht0.step hk.below) rfl Hb.out (by omega) rfl (by omega) (by omega)).mono ?_
      rintro e w5 ⟨A5, c5, rfl, hF5, hB5⟩
      exact ⟨_, rfl, ⟨A5, c5, rfl, hF5.sees⟩, hB5⟩
    · obtain ⟨v, e0, _, A', c', rfl, hS⟩ := hk.ev_new hd 4 87 (by kernel_rfl) rfl
      have h := run_str hS hlb c'
      exact stepOk_value rfl (v := .string ⟨(blob b).toArray⟩) (by go_simp) rfl
    · obtain ⟨v, e0, _, rfl⟩ := hk.ev_new hd 2 85 (by kernel_rfl) rfl
      obtain ⟨v, e1, _, rfl⟩ := hk.ev_new hd 5 88 (by kernel_rfl) rfl
      clear eab
      exact stepOk_value rfl (v := .bool (blob a == blob b)) (by go_simp) rfl
    · have f2 := hk.ev_old 2 (by kernel_rfl)
      exact stepOk_value rfl (v := .slice A p c) (by simp [execOp]; exact f2) rfl
    · obtain ⟨v, e0, _, rfl⟩ := hk.ev_new hd 7 90 (by kernel_rfl) rfl
      have h := run_str (hs0.step hk.below) Ha.out c
      exact stepOk_value rfl (v := .string ⟨a.toArray⟩) (by go_simp) rfl
    · have f3 := hk.ev_old 3 (by kernel_rfl)
      exact stepOk_value rfl (v := .slice B q d) (by simp [execOp]; exact f3) rfl
    · obtain ⟨v, e0, _, rfl⟩ := hk.ev_new hd 9 92 (by kernel_rfl) rfl
      have h := run_str (ht0.step hk.below) Hb.out d
      exact stepOk_value rfl (v := .string ⟨b.toArray⟩) (by go_simp) rfl
    · obtain ⟨v, e0, _, rfl⟩ := hk.ev_new hd 8 91 (by kernel_rfl) rfl
      obtain ⟨v, e1, _, rfl⟩ := hk.ev_new hd 10 93 (by kernel_rfl) rfl
      exact stepOk_value rfl (v := .bool (a == b)) (by go_simp) rfl
    · obtain ⟨v, e0, _, rfl⟩ := hk.ev_new hd 6 89 (by kernel_rfl) rfl
      obtain ⟨v, e1, _, rfl⟩ := hk.ev_new hd 11 94 (by kernel_rfl) rfl
      exact stepOk_value rfl (v := .bool true) (by go_simp) rfl
    · obtain ⟨v, e0, _, rfl⟩ := hk.ev_new hd 12 95 (by kernel_rfl) rfl
      exact stepOk_value rfl (v := .bool true) (by go_simp) rfl
    · obtain ⟨v, e0, hv, rfl⟩ := hk.ev_new hd 13 96 (by kernel_rfl) rfl
      refine stepOk_enter (wanted_at (t := 96) rfl rfl hv) (f := 17) (args := #[]) (by go_simp) ?_
      refine (awake_any _).mono ?_
      rintro e w5 ⟨rfl, hB5⟩
      exact ⟨_, rfl, rfl, hB5⟩
    · obtain ⟨v, e0, _, rfl⟩ := hk.ev_new hd 13 96 (by kernel_rfl) rfl
      obtain ⟨v, e1, _, rfl⟩ := hk.ev_new hd 14 97 (by kernel_rfl) rfl
      exact stepOk_value rfl (v := .bool true) (by go_simp) rfl
    · obtain ⟨v, e0, _, rfl⟩ := hk.ev_new hd 15 98 (by kernel_rfl) rfl
      exact stepOk_value rfl (v := .bool true) (by go_simp) rfl
  · intro w0 hb0 listed a1 w' hk hall
    obtain ⟨v, hv, rfl⟩ := hk.new 16 _ 8 rfl rfl (hall 16 (by simp))
    have hdf := hk.defers
    have hB := Below.then_ hB14 (Below.then_ hb0 hk.below)
    rename_i hK
    refine hK _ _ (wp_ret ?_)
    refine bodyPost_ret (v := .bool true) ?_ hdf ⟨rfl, hB⟩
    rw [results_tmp (t := 8) rfl]
    simp [Array.getD_eq_getD_getElem?, hv]
set_option maxHeartbeats 400000 in
theorem short_over (A B : Option Addr) (n m : Int) (p c q d : Nat) (w : World) (h : 200 < p ∨ 200 < q) :
    Calls Try.prog 6 #[.int .u64 n, .int .u64 m, .slice A p c, .slice B q d] w fun e w' => e = .returned (.bool true) ∧ Below w.heap.size w w' := by
  rcases Nat.lt_or_ge 200 p with h1 | h1
  · go_enter Try.func6, Try.ntmps6
    go_wp2_with (go_at_call 17; refine (awake_any _).mono ?_; rintro e w9 ⟨rfl, hB9⟩)
    go_ret
    exact ⟨rfl, hB9⟩
  · have h2 : 200 < q := by omega
    go_enter Try.func6, Try.ntmps6
    go_wp2_with (go_at_call 17; refine (awake_any _).mono ?_; rintro e w9 ⟨rfl, hB9⟩)
    go_ret
    exact ⟨rfl, hB9⟩
theorem short_law (a0 a1 : Int) (a2 : Option Addr) (len2 cap2 : Nat) (z2 : List Int) (a3 : Option Addr) (len3 cap3 : Nat) (z3 : List Int) (w : World) (w0 : (Lit.int .u64 a0).wf = true) (w1 : (Lit.int .u64 a1).wf = true) (w2 : IsRow .u8 w a2 len2 cap2 z2) (w3 : IsRow .u8 w a3 len3 cap3 z3) :
    Calls Try.prog 6 #[.int .u64 a0, .int .u64 a1, .slice a2 len2 cap2, .slice a3 len3 cap3] w fun e w' => e = .returned (.bool true) ∧ Below w.heap.size w w' := by
  obtain ⟨a, ha, hs, _⟩ := row_bytes w2
  obtain ⟨b, hb, ht, _⟩ := row_bytes w3
  by_cases h : 200 < len2 ∨ 200 < len3
  · exact short_over a2 a3 a0 a1 len2 cap2 len3 cap3 w h
  · have h0 := bounds_u64 w0
    have h1 := bounds_u64 w1
    obtain ⟨n, rfl⟩ := Int.eq_ofNat_of_zero_le (show 0 ≤ a0 by omega)
    obtain ⟨m, rfl⟩ := Int.eq_ofNat_of_zero_le (show 0 ≤ a1 by omega)
    rcases Nat.lt_trichotomy n m with hlt | rfl | hgt
    · exact short_lt a2 a3 n m len2 cap2 len3 cap3 a b w hs ht ha hb (by omega) (by omega) (by omega) (by omega) hlt
    · exact short_eq a2 a3 n len2 cap2 len3 cap3 a b w hs ht ha hb (by omega) (by omega) (by omega)
    · exact short_gt a2 a3 n m len2 cap2 len3 cap3 a b w hs ht ha hb (by omega) (by omega) (by omega) (by omega) hgt
end Go.Proofs.Ytbmolgfjdjpniaa
