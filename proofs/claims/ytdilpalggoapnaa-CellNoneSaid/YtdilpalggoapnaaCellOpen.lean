/-
  Opening a cell; what the statements make and read; the chapter's examples.
-/
import Derived.Test.YtdilpalggoapnaaCellPut2
import Derived.Test.YtdilpalggoapnaaNorNew
import Derived.Test.YtdilpalggoapnaaDrOpen
namespace Go.Proofs.Ytdilpalggoapnaa
open Go.RowKit
set_option linter.unusedVariables false

theorem Fl.ctold_again (S : Fl) (f : Nat) (x : Co) (over : Bool) : S.ctold f (S.ctold f x over) over = S.ctold f x over := by
  unfold Fl.ctold
  cases over <;> cases S.down <;> rfl
section
variable {w w' : World} {base c d p b f : Nat} {over : Bool} {S S' : Fl} {x z : Co}
set_option maxHeartbeats 1000000 in
set_option maxRecDepth 100000 in
theorem COpen_yes (h : DrAt base w d p b f 2 S) (hd : S.down = false) (hbase : base ≤ w.heap.size) (z : Co) (hz : S.clook f = z) :
    Calls Try.prog 43 #[.pointer (some ⟨d, 0, none⟩)] w fun e w' => ∃ c, e = .returned (.tuple #[.pointer (some ⟨c, 0, none⟩), .int .i64 0]) ∧ CeAt base w' c d p b f S z false ∧ Below w.heap.size w w' ∧ w.heap.size ≤ c := by
  have HL := Lib.hid (fun (w' : World) (c : Nat) (y : CeAt base w' c d p b f S ⟨0, 0, []⟩ false) (hb : base ≤ w'.heap.size) => look_yes y hd hb z hz)
  clear hd hz
  have hS := dSectors_any h
  go_enter Try.func43, Try.ntmps43
  go_wp2_with fail
  refine hS.mono ?_
  rintro e w1 ⟨rfl, rfl⟩
  go_wp2_with (with_reducible refine wpList_box (o := ⟨some 15, _, _, _, _, _⟩) rfl (.tmp 14) 97 rfl [.pointer none, .pointer (some ⟨d, 0, none⟩), .int .i64 0, .int .i64 0, .slice none 0 0, .bool false] rfl 6 rfl (by decide) ?_; intro c w2 hc hF hB; have c0 := hF.cell (j := 0) rfl; have z0 : w2.frozen? ⟨c, 0, none⟩ = false := hF.frozenAt)
  have hF2 : Fresh w1.heap.size 97 (w2.setCell ⟨c, 0, none⟩ (.pointer (some ⟨c, 0, none⟩))) (some ⟨c, 0, none⟩) 6 6 (ceObj c d ⟨0, 0, []⟩ none 0 false) := hF.store 0 (.pointer (some ⟨c, 0, none⟩))
  have hB2 : Below w1.heap.size w1 (w2.setCell ⟨c, 0, none⟩ (.pointer (some ⟨c, 0, none⟩))) := hB.setCell (p := ⟨c, 0, none⟩) hF.block.2 _
  have hT2 : CeAt base (w2.setCell ⟨c, 0, none⟩ (.pointer (some ⟨c, 0, none⟩))) c d p b f S ⟨0, 0, []⟩ false := ⟨h.below hB2, ⟨none, 0, hF2.lower hbase, fresh_nil _ _ _⟩, ⟨.inr (.inl rfl), Nat.zero_le _, Nat.zero_le _, fun e => by cases e⟩⟩
  have hbs := hB2.size
  refine (HL.out _ c hT2 (Nat.le_trans hbase hbs)).mono ?_
  rintro e w3 ⟨rfl, hT3, hC3⟩
  have hB13 : Below w1.heap.size w1 w3 := hB2.trans (hC3.below hc hc hbs)
  go_wp2_with fail
  go_ret2
  exact ⟨c, rfl, hT3, hB13, hc⟩
set_option maxHeartbeats 1000000 in
set_option maxRecDepth 100000 in
theorem COpen_down (h : DrAt base w d p b f 2 S) (hd : S.down = true) (hbase : base ≤ w.heap.size) :
    Calls Try.prog 43 #[.pointer (some ⟨d, 0, none⟩)] w fun e w' => e = .returned (.tuple #[.pointer none, .int .i64 40]) ∧ Below w.heap.size w w' := by
  have HL := Lib.hid (fun (w' : World) (c : Nat) (y : CeAt base w' c d p b f S ⟨0, 0, []⟩ false) => look_no y hd)
  clear hd
  have hS := dSectors_any h
  go_enter Try.func43, Try.ntmps43
  go_wp2_with fail
  refine hS.mono ?_
  rintro e w1 ⟨rfl, rfl⟩
  go_wp2_with (with_reducible refine wpList_box (o := ⟨some 15, _, _, _, _, _⟩) rfl (.tmp 14) 97 rfl [.pointer none, .pointer (some ⟨d, 0, none⟩), .int .i64 0, .int .i64 0, .slice none 0 0, .bool false] rfl 6 rfl (by decide) ?_; intro c w2 hc hF hB; have c0 := hF.cell (j := 0) rfl; have z0 : w2.frozen? ⟨c, 0, none⟩ = false := hF.frozenAt)
  have hF2 : Fresh w1.heap.size 97 (w2.setCell ⟨c, 0, none⟩ (.pointer (some ⟨c, 0, none⟩))) (some ⟨c, 0, none⟩) 6 6 (ceObj c d ⟨0, 0, []⟩ none 0 false) := hF.store 0 (.pointer (some ⟨c, 0, none⟩))
  have hB2 : Below w1.heap.size w1 (w2.setCell ⟨c, 0, none⟩ (.pointer (some ⟨c, 0, none⟩))) := hB.setCell (p := ⟨c, 0, none⟩) hF.block.2 _
  have hT2 : CeAt base (w2.setCell ⟨c, 0, none⟩ (.pointer (some ⟨c, 0, none⟩))) c d p b f S ⟨0, 0, []⟩ false := ⟨h.below hB2, ⟨none, 0, hF2.lower hbase, fresh_nil _ _ _⟩, ⟨.inr (.inl rfl), Nat.zero_le _, Nat.zero_le _, fun e => by cases e⟩⟩
  have hbs := hB2.size
  refine (HL.out _ c hT2).mono ?_
  rintro e w3 ⟨rfl, hB3⟩
  go_wp2_with fail
  go_ret2
  exact ⟨rfl, Below.then_ hB2 hB3⟩
set_option maxHeartbeats 1000000 in
set_option maxRecDepth 100000 in
theorem made7_any (w : World) : Calls Try.prog 40 #[] w fun e w' => ∃ p b d c, e = .returned (.tuple #[.pointer (some ⟨p, 0, none⟩), .pointer (some ⟨d, 0, none⟩), .pointer (some ⟨c, 0, none⟩), .bool true]) ∧ CeAt w.heap.size w' c d p b 1 (Fl.made 3 0) ⟨-1, 0, []⟩ false ∧ Below w.heap.size w w' := by
  have h0 : (Fl.made 3 0).clook 1 = ⟨-1, 0, []⟩ := by kernel_rfl
  have HL := Lib.hid h0
  clear h0
  go_enter Try.func40, Try.ntmps40
  go_wp2_with fail
  refine (New_yes 3 0 (by omega) (by omega) (by omega) (by omega)).mono ?_
  rintro e w1 ⟨p, b, rfl, hN, hB1⟩
  have hbs := hB1.size
  go_wp2_with fail
  refine (Open_yes hN 1 2 (by show 1 + 2 ≤ 3; omega) (by omega) hbs).mono ?_
  rintro e w2 ⟨d, rfl, hD, hB2⟩
  have hB12 := Below.then_ hB1 hB2
  have hbs2 := hB12.size
  go_wp2_with fail
  refine (COpen_yes hD rfl hbs2 _ HL.out).mono ?_
  rintro e w3 ⟨c, rfl, hT, hB3, -⟩
  go_wp2_with fail
  (try simp only [Exit.inBlock, Exit.then])
  refine bodyPost_ret (results_four rfl _ _ _) rfl ?_
  exact ⟨p, b, d, c, rfl, hT, Below.then_ hB12 hB3⟩
theorem reads7_any {m : Nat} (h : DrAt base w d p b f m S) (hd : S.down = false) (at_ n c : Nat) (A : Option Addr) (l : List UInt32) (hs : Sees w w.heap.size A (cw l)) (hl : l.length = n) (hok : at_ + n ≤ 64 * m) (heq : S.at_ f at_ n = l) :
    Calls Try.prog 100 #[.pointer (some ⟨d, 0, none⟩), .int .i64 (at_ : Int), .slice A n c] w fun e w' => e = .returned (.bool true) ∧ Below w.heap.size w w' := by
  have hm := h.small
  have hR := dRead_at h hd at_ n hok
  rw [heq] at hR
  have hn : n ≤ 65536 := by omega
  have HL := Lib.hid hl
  clear hok heq hl
  go_enter Try.func100, Try.ntmps100
  go_wp2_with fail
  refine hR.mono ?_
  rintro e w1 ⟨G, rfl, hF, hB⟩
  have h1 := hF.sees
  have h2 := hs.step hB
  go_wp2_with fail
  refine (SameWords_any (some ⟨G, 0, none⟩) A n c n n l l w1 h1 h2 HL.out HL.out (by omega)).mono ?_
  rintro e w2 ⟨rfl, q, rfl⟩
  go_wp2_with fail
  go_ret
  exact ⟨by simp, below_drewN' hB q⟩
set_option maxHeartbeats 1000000 in
set_option maxRecDepth 100000 in
theorem has_any (h : CeAt base w c d p b f S x over) (hbase : base ≤ w.heap.size) (z : Co) (hz : S.ctold f x over = z) (hs : (z.s != -1) = decide (0 < z.t)) :
    Calls Try.prog 99 #[.pointer (some ⟨c, 0, none⟩), .int .i64 (z.t : Int), .string ⟨z.b.toArray⟩] w fun e w' => e = .returned (.bool true) ∧ CeAt base w' c d p b f S z over ∧ But c c w w' := by
  have hz2 : S.ctold f z over = z := by rw [← hz]; exact Fl.ctold_again S f x over
  have HG := Lib.hid (Get_any h hbase z hz)
  have HT := Lib.hid (fun (w' : World) (y : CeAt base w' c d p b f S z over) (hb : base ≤ w'.heap.size) => CTurn_any y hb z hz2)
  have hcs := h.ok
  clear hz hz2
  go_enter Try.func99, Try.ntmps99
  go_wp2_with fail
  refine HG.out.mono ?_
  rintro e w1 ⟨A, cp, rfl, hF, hT1, hC1⟩
  have s3 := run_str (n := z.b.length) hF.sees rfl cp
  have hb1 := Nat.le_trans hbase hC1.size
  have q4 : ((z.s != -1) == decide ((0 : Int) < (z.t : Int))) = true := by rw [hs]; simp
  go_wp2_with fail
  refine (HT.out w1 hT1 hb1).mono ?_
  rintro e w2 ⟨rfl, hT2, hC2⟩
  go_wp2_with fail
  go_ret
  exact ⟨rfl, hT2, hC1.then_ hC2⟩
/-- A list in a block that is neither of these two. -/
theorem Off.lit {w : World} {B p b g o : Nat} {xs : List Value} (hs : Sees w B (some ⟨g, o, none⟩) xs) (hg : g < w.heap.size) (h1 : g ≠ p) (h2 : g ≠ b) : Off p b w (some ⟨g, o, none⟩) xs := fun w' y hn => by
  obtain ⟨b', o', e, hb, hc⟩ := hs hn
  obtain ⟨rfl, rfl⟩ : g = b' ∧ o = o' := by simpa using e
  exact ⟨g, o, rfl, Nat.lt_of_lt_of_le hg y.size, fun j u hu => (World.cell?_of_block (w := w) (y.keep g hg h1 h2)).trans (hc j u hu)⟩
theorem CeAt.base3 (h : CeAt base w c d p b f S x over) (hb : base ≤ w.heap.size) {w0 : World} (h0 : Below base w0 w) (y : But3 c p b w w') : Below base w0 w' ∧ base ≤ w'.heap.size := by
  obtain ⟨-, h1⟩ := h.lt
  obtain ⟨-, -, h2, h3⟩ := h.dr.nor.lt
  exact ⟨h0.trans (y.below h1 h2 h3 hb), Nat.le_trans hb y.size⟩
theorem CeAt.base1 (h : CeAt base w c d p b f S x over) (hb : base ≤ w.heap.size) {w0 : World} (h0 : Below base w0 w) (y : But c c w w') : Below base w0 w' ∧ base ≤ w'.heap.size := h.base3 hb h0 (But3.of_own y p b)
theorem CeAt.base0 (h : CeAt base w c d p b f S x over) (hb : base ≤ w.heap.size) {w0 : World} (h0 : Below base w0 w) (y : Below w.heap.size w w') : Below base w0 w' ∧ base ≤ w'.heap.size := h.base3 hb h0 (But3.of_below y c p b)
end
/-- The chapter's examples, over plain data. -/
def ce0 : Fl := Fl.made 3 0
def ce1 : Fl := (ce0.cput 1 ⟨-1, 0, []⟩ false [97, 98, 99]).1
def ce2 : Fl := (ce1.cput 1 ⟨0, 1, [97, 98, 99]⟩ false []).1
def ce3 : Fl := (ce2.cput 1 ⟨1, 2, []⟩ false [100]).1
set_option maxRecDepth 100000 in
theorem ce_p : ce0.cput 1 ⟨-1, 0, []⟩ false [97, 98, 99] = (ce1, 0, ⟨0, 1, [97, 98, 99]⟩, false) ∧ ce1.cput 1 ⟨0, 1, [97, 98, 99]⟩ false [] = (ce2, 0, ⟨1, 2, []⟩, false) ∧ ce2.cput 1 ⟨1, 2, []⟩ false [100] = (ce3, 0, ⟨0, 3, [100]⟩, false) := ⟨by kernel_rfl, by kernel_rfl, by kernel_rfl⟩
theorem ce_d : ce0.down = false ∧ ce1.down = false ∧ ce2.down = false ∧ ce3.down = false := ⟨by kernel_rfl, by kernel_rfl, by kernel_rfl, by kernel_rfl⟩
theorem ce_c : ce0.ctold 1 ⟨-1, 0, []⟩ false = ⟨-1, 0, []⟩ ∧ ce1.ctold 1 ⟨0, 1, [97, 98, 99]⟩ false = ⟨0, 1, [97, 98, 99]⟩ ∧ ce2.ctold 1 ⟨1, 2, []⟩ false = ⟨1, 2, []⟩ ∧ ce3.ctold 1 ⟨0, 3, [100]⟩ false = ⟨0, 3, [100]⟩ := ⟨by kernel_rfl, by kernel_rfl, by kernel_rfl, by kernel_rfl⟩
theorem ce_r : ce1.at_ 1 0 3 = [1, 3, 1633838079] ∧ ce1.at_ 1 63 1 = [0] ∧ ce2.at_ 1 64 2 = [2, 0] ∧ ce3.at_ 1 0 2 = [3, 1] := ⟨by kernel_rfl, by kernel_rfl, by kernel_rfl, by kernel_rfl⟩
set_option maxHeartbeats 2000000 in
set_option maxRecDepth 100000 in
theorem awake7_any (w : World) : Calls Try.prog 49 #[] w fun e w' => e = .returned (.bool true) ∧ Below w.heap.size w w' := by
  have HP := Lib.hid ce_p
  have HD := Lib.hid ce_d
  have HC := Lib.hid ce_c
  have HR := Lib.hid ce_r
  have kc := fun (w : World) (C : Array Value) (n c : Nat) => Lib.run_convert_bytes_const (P := Try.prog) w 27 5 C n c Try.underlying27 Try.underlying5
  go_enter Try.func49, Try.ntmps49
  go_wp2_with fail
  refine (made7_any w).mono ?_
  rintro e w1 ⟨p, b, d, c, rfl, hT1, hB1⟩
  have hz1 := hB1.size
  go_wp2_with fail
  refine (has_any hT1 hz1 _ HC.out.1 rfl).mono ?_
  rintro e w2 ⟨rfl, hT2, hx2⟩
  obtain ⟨hB2, hz2⟩ := hT1.base1 hz1 hB1 hx2
  clear hT1 hx2 hB1 hz1
  go_wp2_with fail
  have hF3 := sees_lit w2 5 (3, 4) [97, 98, 99]
  have hBa := below_alloc w2 (.cells (cb [97, 98, 99]).toArray 5 (3, 4))
  have hT3 := hT2.below hBa
  obtain ⟨hB3, hz3⟩ := hT2.base0 hz2 hB2 hBa
  refine (Put_any hT3 hz3 _ 3 [97, 98, 99] (Off.lit hF3 (by simp) (by have := hT2.lt.1; omega) (by have := hT2.lt.1; omega)) 0 false HP.out.1).mono ?_
  rintro e w4 ⟨rfl, hT4, hx4⟩
  obtain ⟨hB4, hz4⟩ := hT3.base3 hz3 hB3 hx4
  clear hx4 hT3
  go_wp2_with fail
  have hF5 := Fresh.new w4 22 (cw [1, 3, 1633838079]) 3 rfl (by decide)
  have hBa := below_alloc w4 (.cells (cw [1, 3, 1633838079]).toArray 22 (0, 0))
  have hT5 := hT4.below hBa
  obtain ⟨hB5, hz5⟩ := hT4.base0 hz4 hB4 hBa
  refine (reads7_any hT5.dr HD.out.2.1 0 3 3 _ [1, 3, 1633838079] hF5.sees rfl (by omega) HR.out.1).mono ?_
  rintro e w6 ⟨rfl, hx6⟩
  have hT6 := hT5.below hx6
  obtain ⟨hB6, hz6⟩ := hT5.base0 hz5 hB5 hx6
  clear hx6 hT5 hT4
  go_wp2_with fail
  have hF7 := Fresh.new w6 22 (cw [0]) 1 rfl (by decide)
  have hBa := below_alloc w6 (.cells (cw [0]).toArray 22 (0, 0))
  have hT7 := hT6.below hBa
  obtain ⟨hB7, hz7⟩ := hT6.base0 hz6 hB6 hBa
  refine (reads7_any hT7.dr HD.out.2.1 63 1 1 _ [0] hF7.sees rfl (by omega) HR.out.2.1).mono ?_
  rintro e w8 ⟨rfl, hx8⟩
  have hT8 := hT7.below hx8
  obtain ⟨hB8, hz8⟩ := hT7.base0 hz7 hB7 hx8
  clear hx8 hT7 hT6
  go_wp2_with fail
  refine (has_any hT8 hz8 _ HC.out.2.1 rfl).mono ?_
  rintro e w9 ⟨rfl, hT9, hx9⟩
  obtain ⟨hB9, hz9⟩ := hT8.base1 hz8 hB8 hx9
  clear hT8 hx9 hB8 hz8
  go_wp2_with fail
  refine (Put_any hT9 hz9 none 0 [] (fun _ _ => Sees.nil) 0 false HP.out.2.1).mono ?_
  rintro e w10 ⟨rfl, hT10, hx10⟩
  obtain ⟨hB10, hz10⟩ := hT9.base3 hz9 hB9 hx10
  clear hx10 hT9
  go_wp2_with fail
  have hF11 := Fresh.new w10 22 (cw [2, 0]) 2 rfl (by decide)
  have hBa := below_alloc w10 (.cells (cw [2, 0]).toArray 22 (0, 0))
  have hT11 := hT10.below hBa
  obtain ⟨hB11, hz11⟩ := hT10.base0 hz10 hB10 hBa
  refine (reads7_any hT11.dr HD.out.2.2.1 64 2 2 _ [2, 0] hF11.sees rfl (by omega) HR.out.2.2.1).mono ?_
  rintro e w12 ⟨rfl, hx12⟩
  have hT12 := hT11.below hx12
  obtain ⟨hB12, hz12⟩ := hT11.base0 hz11 hB11 hx12
  clear hx12 hT11 hT10
  go_wp2_with fail
  refine (has_any hT12 hz12 _ HC.out.2.2.1 rfl).mono ?_
  rintro e w13 ⟨rfl, hT13, hx13⟩
  obtain ⟨hB13, hz13⟩ := hT12.base1 hz12 hB12 hx13
  clear hT12 hx13 hB12 hz12
  go_wp2_with fail
  have hF14 := sees_lit w13 5 (1, 2) [100]
  have hBa := below_alloc w13 (.cells (cb [100]).toArray 5 (1, 2))
  have hT14 := hT13.below hBa
  obtain ⟨hB14, hz14⟩ := hT13.base0 hz13 hB13 hBa
  refine (Put_any hT14 hz14 _ 1 [100] (Off.lit hF14 (by simp) (by have := hT13.lt.1; omega) (by have := hT13.lt.1; omega)) 0 false HP.out.2.2).mono ?_
  rintro e w15 ⟨rfl, hT15, hx15⟩
  obtain ⟨hB15, hz15⟩ := hT14.base3 hz14 hB14 hx15
  clear hx15 hT14
  go_wp2_with fail
  have hF16 := Fresh.new w15 22 (cw [3, 1]) 2 rfl (by decide)
  have hBa := below_alloc w15 (.cells (cw [3, 1]).toArray 22 (0, 0))
  have hT16 := hT15.below hBa
  obtain ⟨hB16, hz16⟩ := hT15.base0 hz15 hB15 hBa
  refine (reads7_any hT16.dr HD.out.2.2.2 0 2 2 _ [3, 1] hF16.sees rfl (by omega) HR.out.2.2.2).mono ?_
  rintro e w17 ⟨rfl, hx17⟩
  have hT17 := hT16.below hx17
  obtain ⟨hB17, hz17⟩ := hT16.base0 hz16 hB16 hx17
  clear hx17 hT16 hT15
  go_wp2_with fail
  refine (has_any hT17 hz17 _ HC.out.2.2.2 rfl).mono ?_
  rintro e w18 ⟨rfl, hT18, hx18⟩
  obtain ⟨hB18, hz18⟩ := hT17.base1 hz17 hB17 hx18
  clear hT17 hx18 hB17 hz17
  go_wp2_with fail
  go_ret
  exact ⟨rfl, hB18⟩
end Go.Proofs.Ytdilpalggoapnaa
