/-
  Opening a tally; what the statements make; the chapter's examples.
-/
import Derived.Test.YtpdfalgjmeagjaaTallyCalls
namespace Go.Proofs.Ytpdfalgjmeagjaa
open Go.RowKit Go.Shelf
set_option linter.unusedVariables false

section
variable {w : World} {base d p b f : Nat} {S : Fl}
set_option maxHeartbeats 1000000 in
set_option maxRecDepth 100000 in
theorem TOpen_yes (h : DrAt base w d p b f 2 S) (hd : S.down = false) (hbase : base ≤ w.heap.size) (c : Nat) (hr : (S.tlook f).2.1 = c) :
    Calls Try.prog 46 #[.pointer (some ⟨d, 0, none⟩)] w fun e w' => ∃ t, e = .returned (.tuple #[.pointer (some ⟨t, 0, none⟩), .int .i64 0]) ∧ TyAt base w' t d p b f S c false ∧ Below w.heap.size w w' ∧ w.heap.size ≤ t := by
  obtain ⟨s, c', l, hl⟩ : ∃ s c' l, S.tlook f = (s, c', l) := ⟨_, _, _, rfl⟩
  obtain rfl : c' = c := by rw [hl] at hr; exact hr
  have hTwo : Two S f := ⟨h.fits, h.nor.len⟩
  have HLL := Lib.hid (look_len hTwo hl).1
  have hS := dSectors_any h
  have hR := fun (w' : World) (t : Nat) (hT : TyAt base w' t d p b f S 0 false) (hb : base ≤ w'.heap.size) => read_any hT hd hb s c' l hl
  clear hr hd hl
  go_enter Try.func46, Try.ntmps46
  go_wp2_with fail
  refine hS.mono ?_
  rintro e w1 ⟨rfl, rfl⟩
  go_wp2_with (with_reducible refine wpList_box (o := ⟨some 16, _, _, _, _, _⟩) rfl (.tmp 15) 196 rfl [.pointer none, .pointer (some ⟨d, 0, none⟩), .int .i64 0, .bool false] rfl 4 rfl (by decide) ?_; intro t w2 ht hF hB; have c0 := hF.cell (j := 0) rfl; have z0 : w2.frozen? ⟨t, 0, none⟩ = false := hF.frozenAt)
  have hF2 : Fresh w1.heap.size 196 (w2.setCell ⟨t, 0, none⟩ (.pointer (some ⟨t, 0, none⟩))) (some ⟨t, 0, none⟩) 4 4 (tyObj t d 0 false) := hF.store 0 (.pointer (some ⟨t, 0, none⟩))
  have hB2 : Below w1.heap.size w1 (w2.setCell ⟨t, 0, none⟩ (.pointer (some ⟨t, 0, none⟩))) := hB.setCell (p := ⟨t, 0, none⟩) hF.block.2 _
  have hT2 : TyAt base (w2.setCell ⟨t, 0, none⟩ (.pointer (some ⟨t, 0, none⟩))) t d p b f S 0 false := ⟨h.below hB2, hF2.lower hbase, by omega⟩
  have hbs := hB2.size
  refine (hR _ t hT2 (Nat.le_trans hbase hbs)).mono ?_
  rintro e w3 ⟨rfl, hT3, hB3⟩
  have hB13 : Below w1.heap.size w1 w3 := hB2.trans (hB3.below ht ht hbs)
  go_wp2_with (first
    | (with_reducible refine wpList_alloc (o := ⟨some 6, _, _, _, _, _⟩) rfl 199 rfl (stL 0 0 zeros64) (by kernel_rfl) 66 (by simp [stL_len, zeros64]) (by decide) ?_; intro gs w4 hgs hFs hBs)
    | (with_reducible refine wpList_store rfl rfl (.tmp 6) (.tmp 24) 199 rfl gs 0 w3.heap.size 199 66 (stL 0 0 zeros64) (stL s c' l) rfl rfl 66 (by simp [stL_len, HLL.out]) (by kernel_rfl) hFs (by omega) (stL_one _ _ _) w3 hBs hgs ?_; intro w5 hF5 hB5 hoth5 hz5))
  go_ret2
  exact ⟨t, rfl, hT3.below hB5, Below.then_ hB13 hB5, ht⟩
set_option maxHeartbeats 1000000 in
set_option maxRecDepth 100000 in
theorem made6_any (w : World) : Calls Try.prog 128 #[] w fun e w' => ∃ p b d t, e = .returned (.tuple #[.pointer (some ⟨p, 0, none⟩), .pointer (some ⟨d, 0, none⟩), .pointer (some ⟨t, 0, none⟩), .bool true]) ∧ TyAt w.heap.size w' t d p b 1 (Fl.made 3 0) 0 false ∧ Below w.heap.size w w' := by
  have h0 : ((Fl.made 3 0).tlook 1).2.1 = 0 := by kernel_rfl
  have HL := Lib.hid h0
  clear h0
  go_enter Try.func128, Try.ntmps128
  go_wp2_with fail
  refine (New_yes 3 0 (by omega) (by omega) (by omega) (by omega)).mono ?_
  rintro e w1 ⟨p, b, rfl, hN, hB1⟩
  have hbs := hB1.size
  go_wp2_with fail
  refine (Open_yes hN 1 2 (by show 1 + 2 ≤ 3; omega) (by omega) hbs).mono ?_
  rintro e w2 ⟨d, rfl, hD, hB2⟩
  have hB12 := Below.then_ hB1 hB2
  have hbs2 := hB12.size
  go_wp2_with fail
  refine (TOpen_yes hD rfl hbs2 0 HL.out).mono ?_
  rintro e w3 ⟨t, rfl, hT, hB3, -⟩
  go_wp2_with fail
  (try simp only [Exit.inBlock, Exit.then])
  refine bodyPost_ret (results_four rfl _ _ _) rfl ?_
  exact ⟨p, b, d, t, rfl, hT, Below.then_ hB12 hB3⟩
theorem reads6_any {m : Nat} (h : DrAt base w d p b f m S) (hd : S.down = false) (at_ n c : Nat) (A : Option Addr) (l : List UInt32) (hs : Sees w w.heap.size A (cw l)) (hl : l.length = n) (hok : at_ + n ≤ 64 * m) (heq : S.at_ f at_ n = l) :
    Calls Try.prog 129 #[.pointer (some ⟨d, 0, none⟩), .int .i64 (at_ : Int), .slice A n c] w fun e w' => e = .returned (.bool true) ∧ Below w.heap.size w w' := by
  have hm := h.small
  have hR := dRead_at h hd at_ n hok
  rw [heq] at hR
  have hn : n ≤ 65536 := by omega
  have HL := Lib.hid hl
  clear hok heq hl
  go_enter Try.func129, Try.ntmps129
  go_wp2_with fail
  refine hR.mono ?_
  rintro e w1 ⟨G, rfl, hF, hB⟩
  have h1 := hF.sees
  have h2 := hs.step hB
  go_wp2_with fail
  refine (SameWords_any (some ⟨G, 0, none⟩) A n c n n l l w1 h1 h2 HL.out HL.out (by omega)).mono ?_
  rintro e w2 ⟨rfl, q, rfl⟩
  go_wp2_with fail
  go_ret
  exact ⟨by simp, below_drewN' hB q⟩
end
/-- The chapter's examples, over plain data. -/
def ex0 : Fl := Fl.made 3 0
def ex1 : Fl := (ex0.tstep 1 0 false).1
def ex2 : Fl := (ex1.tstep 1 1 false).1
set_option maxRecDepth 100000 in
theorem ex_s1 : ex0.tstep 1 0 false = (ex1, 0, 1, false) := by kernel_rfl
set_option maxRecDepth 100000 in
theorem ex_s2 : ex1.tstep 1 1 false = (ex2, 0, 2, false) := by kernel_rfl
theorem ex_d : ex0.down = false ∧ ex1.down = false ∧ ex2.down = false := ⟨by kernel_rfl, by kernel_rfl, by kernel_rfl⟩
theorem ex_c : (ex0.tlook 1).2.1 = 0 ∧ (ex1.tlook 1).2.1 = 1 ∧ (ex2.tlook 1).2.1 = 2 := ⟨by kernel_rfl, by kernel_rfl, by kernel_rfl⟩
theorem ex_r : ex1.at_ 1 0 2 = [1, 4294967294] ∧ ex2.at_ 1 2 1 = [2147483647] := ⟨by kernel_rfl, by kernel_rfl⟩
end Go.Proofs.Ytpdfalgjmeagjaa
