/-
  CodeCuts over its arguments as they are opened.
-/
import Derived.Test.YtangblcfdboghaaCodeBackWalk
import Derived.Test.YtangblcfdboghaaCodeOpen
import Derived.Test.YtangblcfdboghaaRow
import Derived.OpenShut
namespace Go.Proofs.Ytangblcfdboghaa
open Go.RowKit
set_option linter.unusedVariables false
set_option linter.constructorNameAsVariable false

theorem read_right {l : List UInt8} (h : readOk l = true) : (readP l).1.right = true ∧ Small (readP l).1 ∧ (readP l).1.bytes = l := by
  obtain ⟨h1, h2⟩ := readOk_is h
  exact ⟨h1, small_of h1 (read_small l).2.1, h2⟩
theorem cut_no {p : Pg} (h : p.right = true) (hs : Small p) {k : Nat} (hk : k < p.bytes.length) : readOk (p.bytes.take k) = false := by
  rw [Bool.eq_false_iff]
  intro hy
  obtain ⟨h1, h2, h3⟩ := read_right hy
  have := (bytes_cut h hs h1 h2 (t := []) (u := p.bytes.drop k) (by rw [h3, List.append_nil, List.take_append_drop])).2
  have := congrArg List.length this
  simp at this
  omega
theorem more_no {p : Pg} (h : p.right = true) (hs : Small p) (x : UInt8) : readOk (p.bytes ++ [x]) = false := by
  rw [Bool.eq_false_iff]
  intro hy
  obtain ⟨h1, h2, h3⟩ := read_right hy
  have := (bytes_cut h hs h1 h2 (t := [x]) (u := []) (by rw [h3, List.append_nil])).2
  cases this
theorem bytes_one {p q : Pg} (h : p.right = true) (hs : Small p) (h' : q.right = true) (hs' : Small q) (e : p.bytes = q.bytes) : p = q :=
  (bytes_cut h hs h' hs' (t := []) (u := []) (by rw [e])).1
theorem bytes_some {p : Pg} (h : p.right = true) : 0 < p.bytes.length := by
  have := nd_bd p.name.length
  simp only [Pg.bytes, blob, List.length_append, len_digs]
  omega

theorem elem8c : Try.prog.underlying 27 = some (.slice (Try.prog.elem 27)) := by kernel_rfl
theorem run_cut8c {w : World} (A : Option Addr) (n c k : Nat) (hk : k ≤ c) : (Instr.slice 27 (.slice A n c) none (some (.int .i64 (k : Int))) none).run Try.prog w = .ok (.slice A k c) w := by
  have hz : (sizeOf (Try.prog.elem 27)).run Try.prog w = .ok 1 w := by kernel_rfl
  rw [run_slice_h w 27 A n c elem8c .i64 (k : Int) (by omega) (by omega), hz]
  simp only [Result.andThen, sliced, Int.toNat_natCast, Nat.zero_mul, Nat.sub_zero]
  cases A <;> simp [Addr.add]
end Go.Proofs.Ytangblcfdboghaa

namespace Go.Proofs.Ytangblcfdboghaa
open Go.RowKit
set_option linter.unusedVariables false
set_option linter.constructorNameAsVariable false
theorem bytes_less {p : Pg} (h : p.right = true) : p.bytes.length ≤ 200000 := by
  have hf := Pg.facts h
  have h1 := flat_le Vr.bytes 80 p.vars (fun x hx => len_vr x (Vr.right_facts (hf.var x hx)).1)
  have h2 := flat_le (fun (x : UInt8) => digs x.toNat) 10 p.blocks (fun x _ => by rw [len_digs]; exact (nd_bd _).2)
  have h3 := flat_le Jn.bytes 40 p.ins (fun x _ => len_jn x)
  have q1 := hf.name
  have q2 := hf.vars
  have q3 := hf.blocks
  have q4 := hf.ins
  have n1 := (nd_bd p.name.length).2
  have n2 := (nd_bd p.vars.length).2
  have n3 := (nd_bd p.blocks.length).2
  have n4 := (nd_bd p.ins.length).2
  simp only [Pg.bytes, blob, blB, List.length_append, len_digs]
  omega
section
variable {P : Program} {ops : Array Oper} {Q : Exit → Act → World → Prop} {pr : Nat → Value → World → Prop} {o : Oper} {i : Nat} {a : Act} {w : World}
theorem stepOk_valC {v : Value} (hw : Region.wanted o (yielded ops a.tmps) = true) (hrun : (execOp a.eval o).run P w = .ok (.value v) w) (hp : pr i v w) : StepOk P ops Q pr i o a w := by
  unfold StepOk
  rw [if_pos hw]
  unfold Oper.wp
  rw [hrun]
  exact ⟨v, rfl, hp, Below.refl _ _⟩
end
theorem Same_is (a b : Pm) (w : World) (ha : PmAt w.heap.size w a) (hb : PmAt w.heap.size w b) (q : Bool) (h : q = true ↔ a.p = b.p) :
    Calls Try.prog 22 #[.agg a.cells.toArray, .agg b.cells.toArray] w fun e w' => e = .returned (.bool q) ∧ Below w.heap.size w w' := by
  refine (Same_any a b w ha hb).mono ?_
  rintro e w' ⟨⟨r, he, hr⟩, hB⟩
  obtain rfl : r = q := by rw [Bool.eq_iff_iff, hr, h]
  exact ⟨he, hB⟩
def cc5 (A3 A4 : Option Addr) (n n2 c3 c4 : Nat) (L L2 : List UInt8) (m d : Pm) (q : Bool) (j : Nat) (x : Value) (w : World) : Prop :=
  match j with
  | 0 => x = .int .i64 0
  | 1 => x = .bool false
  | 2 => x = .bool false
  | 3 => x = .slice A3 n c3
  | 4 => x = .int .i64 (n : Int)
  | 5 => x = .bool false
  | 6 => x = .bool false
  | 7 => x = .bool false
  | 8 => x = .int .i64 0
  | 9 => x = .bool true
  | 10 => x = .bool true
  | 11 => x = .slice A3 n c3
  | 12 => x = .string ⟨L.toArray⟩
  | 13 => x = .slice A4 n2 c4
  | 14 => x = .string ⟨L2.toArray⟩
  | 15 => x = .bool q
  | 16 => x = .agg m.cells.toArray
  | 17 => x = .agg d.cells.toArray
  | 18 => x = .bool q
  | 19 => x = .bool false
  | 20 => x = .bool false
  | _ => True
theorem cc5_stab (A3 A4 : Option Addr) (n n2 c3 c4 : Nat) (L L2 : List UInt8) (m d : Pm) (q : Bool) : ∀ j x w w', Below w.heap.size w w' → cc5 A3 A4 n n2 c3 c4 L L2 m d q j x w → cc5 A3 A4 n n2 c3 c4 L L2 m d q j x w' := fun _ _ _ _ _ h => h
theorem sees_take {w : World} {B : Nat} {A : Option Addr} {l : List UInt8} (h : Sees w B A (cb l)) (k : Nat) : Sees w B A (cb (l.take k)) := fun hn => by
  obtain ⟨b, o, e, hb, hc⟩ := h (by simp [cb] at hn ⊢; omega)
  refine ⟨b, o, e, hb, fun j u hu => hc j u ?_⟩
  have hj : j < k := by
    have := (List.getElem?_eq_some_iff.1 hu).1
    simp [cb] at this
    omega
  rw [← hu]
  simp [cb, hj]

set_option maxHeartbeats 16000000 in
set_option maxRecDepth 100000 in
theorem codeCuts_any (w : World) (m d : Pm) (hm : PmAt w.heap.size w m) (hd : PmAt w.heap.size w d) (at_ : Nat) (hat : at_ < 65536) (x : UInt8) :
    Calls Try.prog 4 #[.agg m.cells.toArray, .agg d.cells.toArray, .int .u16 (at_ : Int), .int .u8 (x.toNat : Int)] w fun e w' => e = .returned (.bool true) ∧ Below w.heap.size w w' := by
  have quit : ∀ wq, Below w.heap.size w wq → Calls Try.prog 13 #[] wq fun e w' => e = .returned (.bool true) ∧ Below w.heap.size w w' := fun wq hq => (awake13_any wq).mono (fun e w' h => ⟨h.1, Below.then_ hq h.2⟩)
  go_enter Try.func4, Try.ntmps4
  go_wp2_with (first
    | (with_reducible refine wpList_box (o := ⟨some 4, _, _, _, _, _⟩) rfl (.tmp 0) 26 rfl m.cells rfl 4 (pm4' m) (by decide) ?_; intro g w1 hg hG hB)
    | (with_reducible refine wpList_box (o := ⟨some 5, _, _, _, _, _⟩) rfl (.tmp 1) 26 rfl d.cells rfl 4 (pm4' d) (by decide) ?_; intro k w2 hk hK hB2; have hG2 := hG.below hB2; have hBw2 := Below.then_ hB hB2; have hm2 := (hm.step hB).step hB2; have hd2 := (hd.step hB).step hB2)
    | (with_reducible refine wpList_load_g (.tmp 4) 26 rfl g 0 _ rfl m.cells 4 (pm4' m) aggCode' hG2.sees rfl ?_)
    | (go_at_call 12; refine (Great_any m _ hm2).mono ?_))
  rintro e w3 ⟨⟨b, rfl, hgt⟩, hB3⟩
  have hG3 := hG2.below hB3
  have hK3 := hK.below hB3
  have hm3 := hm2.step hB3
  have hd3 := hd2.step hB3
  have hBw3 := Below.then_ hBw2 hB3
  clear hB hB2 hB3 hG hG2 hK hm hd hm2 hd2 hgt hBw2
  cases b
  rotate_left
  · go_wp2_with (go_at_call 13; refine (quit _ hBw3).mono ?_; rintro e w20 ⟨rfl, hB20⟩)
    go_ret
    exact ⟨rfl, hB20⟩
  go_wp2_with (first
    | (with_reducible refine wpList_load_g (.tmp 5) 26 rfl k 0 _ rfl d.cells 4 (pm4' d) aggCode' hK3.sees rfl ?_)
    | (go_at_call 12; refine (Great_any d _ hd3).mono ?_))
  rintro e w4 ⟨⟨b, rfl, hgt⟩, hB4⟩
  have hG4 := hG3.below hB4
  have hK4 := hK3.below hB4
  have hm4 := hm3.step hB4
  have hd4 := hd3.step hB4
  have hBw4 := Below.then_ hBw3 hB4
  clear hB4 hG3 hK3 hm3 hd3 hgt hBw3
  cases b
  rotate_left
  · go_wp2_with (go_at_call 13; refine (quit _ hBw4).mono ?_; rintro e w20 ⟨rfl, hB20⟩)
    go_ret
    exact ⟨rfl, hB20⟩
  obtain ⟨r, hr⟩ : ∃ r, m.p.right = r := ⟨_, rfl⟩
  go_wp2_with (first
    | (with_reducible refine wpList_load_g (.tmp 4) 26 rfl g 0 _ rfl m.cells 4 (pm4' m) aggCode' hG4.sees rfl ?_)
    | (go_at_call 26; refine (Right_is m _ hm4 r hr).mono ?_))
  rintro e w5 ⟨rfl, hB5⟩
  have hG5 := hG4.below hB5
  have hK5 := hK4.below hB5
  have hm5 := hm4.step hB5
  have hd5 := hd4.step hB5
  have hBw5 := Below.then_ hBw4 hB5
  clear hB5 hG4 hK4 hm4 hd4 hBw4
  cases r
  · go_wp2_with (go_at_call 13; refine (quit _ hBw5).mono ?_; rintro e w20 ⟨rfl, hB20⟩)
    go_ret
    exact ⟨rfl, hB20⟩
  obtain ⟨L, hL⟩ : ∃ L, m.p.bytes = L := ⟨_, rfl⟩
  obtain ⟨n, hLn⟩ : ∃ n, L.length = n := ⟨_, rfl⟩
  have hn0 : 0 < n := by rw [← hLn, ← hL]; exact bytes_some hr
  have hn1 : n ≤ 200000 := by rw [← hLn, ← hL]; exact bytes_less hr
  have hsm := small_of hr hm5.oki
  have HN := Lib.hid hLn
  clear hLn
  go_wp2_with (first
    | (with_reducible refine wpList_load_g (.tmp 4) 26 rfl g 0 _ rfl m.cells 4 (pm4' m) aggCode' hG5.sees rfl ?_)
    | (go_at_call 14; refine (Bytes_is m _ hm5 hr L hL n HN.out).mono ?_))
  rintro e w6 ⟨A3, c3, rfl, hF6, hB6⟩
  have hG6 := hG5.below hB6
  have hK6 := hK5.below hB6
  have hm6 := hm5.step hB6
  have hd6 := hd5.step hB6
  have hBw6 := Below.then_ hBw5 hB6
  clear hG5 hK5 hm5 hd5 hB6 hBw5
  obtain ⟨q, hq⟩ : ∃ q, d.p.right = q := ⟨_, rfl⟩
  cases q
  · go_wp2_with (first
      | (with_reducible refine wpList_load_g (.tmp 5) 26 rfl k 0 _ rfl d.cells 4 (pm4' d) aggCode' hK6.sees rfl ?_)
      | (go_at_call 14; refine (Bytes_no d _ hd6 hq).mono ?_))
    rintro e w7 ⟨rfl, hB7⟩
    have hF7 := hF6.below hB7
    have hBw7 := Below.then_ hBw6 hB7
    clear hG6 hK6 hm6 hd6 hF6 hB7 hBw6
    go_wp2_with fail
    have hz : ((n : Int) == 0) = false := by simp; omega
    have hc3 := hF7.cap.1
    have hk1 : at_ % n < n := Nat.mod_lt _ hn0
    have hle : (at_ : Int) % (n : Int) ≤ (c3 : Int) := by
      have : ((at_ % n : Nat) : Int) = (at_ : Int) % (n : Int) := by simp
      omega
    go_quiet (fail)
    have hF8 := hF7.below (below_drewN' (Below.refl _ _) nq)
    have hBw8 := below_drewN' hBw7 nq
    go_wp2_with fail
    have hno : readOk (L.take (at_ % n)) = false := by
      rw [← hL]
      exact cut_no hr hsm (by rw [hL, HN.out]; exact hk1)
    refine (Read_no A3 (at_ % n) c3 (L.take (at_ % n)) _ (sees_take hF8.sees _) (by rw [List.length_take, HN.out]; omega) (by omega) (by omega) hno).mono ?_
    rintro e w9 ⟨rfl, hB9⟩
    have hF9 := hF8.below hB9
    have hBw9 := Below.then_ hBw8 hB9
    clear hF7 hF8 hB9 hBw7 hBw8 hno hle
    go_wp2_with (first
      | (with_reducible refine wpList_alloc (o := ⟨some 13, _, _, _, _, _⟩) rfl 26 rfl noCells zeroCode 4 rfl (by decide) ?_; intro g3 w10 hg10 hF10 hB10)
      | (
          with_reducible refine wpList_store rfl rfl (.tmp 13) (.tmp 70) 26 rfl g3 0 w9.heap.size 26 4 noCells noCells ?_ ?_ 4 ?_ ?_ ?_ ?_ ?_ w9 ?_ ?_ ?_
          · rfl
          · rfl
          · rfl
          · exact aggCode'
          · exact hF10
          · omega
          · exact cd_one _ _ _ _ _ _ _ _ _ _
          · exact hB10
          · exact hg10
          intro w11 hF11 hB11 hoth11 hz11
          have hF12 := hF9.below hB11
          have hBw12 := Below.then_ hBw9 hB11
          clear hF9 hBw9 hF10 hB10 hoth11 hF11
          have hN : Fresh w11.heap.size 5 (w11.alloc (.cells #[] 5)) (some ⟨w11.heap.size, 0, none⟩) 0 0 (cb []) := Fresh.new w11 5 (cb []) 0 rfl (by omega)
          have hS12 := hF12.sees.step (below_alloc w11 (.cells #[] 5))
          have hA12 := below_alloc w11 (.cells #[] 5))
      | (
          refine wpList_app8 rfl (.tmp 73) (.tmp 74) rfl (some ⟨w11.heap.size, 0, none⟩) A3 0 0 n c3 [] L w11 rfl rfl ?_ ?_ ?_ ?_ ?_ ?_
          · exact hN
          · exact hS12
          · exact HN.out
          · omega
          · exact hA12
          intro A13 c13 w13 hF13 hB13
          rw [Nat.zero_add, List.nil_append] at hF13
          have hS13 : Sees (w13.alloc (.cells #[.int .u8 (x.toNat : Int)] 5)) (w13.alloc (.cells #[.int .u8 (x.toNat : Int)] 5)).heap.size (some ⟨w13.heap.size, 0, none⟩) (cb [x]) := sees_new w13 5 (cb [x])
          have hA13 := Below.then_ hB13 (below_alloc w13 (.cells #[.int .u8 (x.toNat : Int)] 5))
          have hF13b := hF13.below (below_alloc w13 (.cells #[.int .u8 (x.toNat : Int)] 5)))
      | (
          refine wpList_app8 rfl (.tmp 75) (.tmp 77) rfl A13 (some ⟨w13.heap.size, 0, none⟩) n c13 1 1 L [x] w11 rfl rfl ?_ ?_ ?_ ?_ ?_ ?_
          · exact hF13b
          · exact hS13
          · rfl
          · omega
          · exact hA13
          intro A14 c14 w14 hF14 hB14))
    have hBw14 := Below.then_ hBw12 hB14
    have hno2 : readOk (L ++ [x]) = false := by
      rw [← hL]
      exact more_no hr hsm x
    refine (Read_no A14 (n + 1) c14 (L ++ [x]) _ hF14.sees (by rw [List.length_append, HN.out]; rfl) hF14.cap.1 (by omega) hno2).mono ?_
    rintro e w15 ⟨rfl, hB15⟩
    have hBw15 := Below.then_ hBw14 hB15
    go_wp2_with (first
      | (with_reducible refine wpList_alloc (o := ⟨some 15, _, _, _, _, _⟩) rfl 26 rfl noCells zeroCode 4 rfl (by decide) ?_; intro g5 w16 hg16 hF16 hB16)
      | (
          with_reducible refine wpList_store rfl rfl (.tmp 15) (.tmp 80) 26 rfl g5 0 w15.heap.size 26 4 noCells noCells ?_ ?_ 4 ?_ ?_ ?_ ?_ ?_ w15 ?_ ?_ ?_
          · rfl
          · rfl
          · rfl
          · exact aggCode'
          · exact hF16
          · omega
          · exact cd_one _ _ _ _ _ _ _ _ _ _
          · exact hB16
          · exact hg16
          intro w17 hF17 hB17 hoth17 hz17
          have hBw17 := Below.then_ hBw15 hB17)
      | (go_at_call 13; refine (quit _ hBw17).mono ?_; rintro e w20 ⟨rfl, hB20⟩))
    go_ret
    exact ⟨rfl, hB20⟩
  · have hsd := small_of hq hd6.oki
    obtain ⟨L2, hL2⟩ : ∃ L, d.p.bytes = L := ⟨_, rfl⟩
    obtain ⟨n2, hLn2⟩ : ∃ n, L2.length = n := ⟨_, rfl⟩
    have HN2 := Lib.hid hLn2
    clear hLn2
    obtain ⟨q, hpq⟩ : ∃ q : Bool, q = true ↔ m.p = d.p := ⟨decide (m.p = d.p), by simp⟩
    have HQ := Lib.hid hpq
    have hsq : ((⟨L.toArray⟩ : ByteArray) == ⟨L2.toArray⟩) = q := by
      rw [Bool.eq_iff_iff, Go.MapKept.bytes_beq, hpq]
      constructor
      · intro e
        injection e with e
        exact bytes_one hr hsm hq hsd (by rw [hL, hL2]; exact congrArg Array.toList e)
      · intro e
        rw [← hL, ← hL2, e]
    have hsq2 : (L == L2) = q := by
      rw [Bool.eq_iff_iff, beq_iff_eq, hpq]
      exact ⟨fun e => bytes_one hr hsm hq hsd (by rw [hL, hL2, e]), fun e => by rw [← hL, ← hL2, e]⟩
    clear hpq
    go_wp2_with (first
      | (with_reducible refine wpList_load_g (.tmp 5) 26 rfl k 0 _ rfl d.cells 4 (pm4' d) aggCode' hK6.sees rfl ?_)
      | (go_at_call 14; refine (Bytes_is d _ hd6 hq L2 hL2 n2 HN2.out).mono ?_))
    rintro e w7 ⟨A4, c4, rfl, hFd, hB7⟩
    have hF7 := hF6.below hB7
    have hG7 := hG6.below hB7
    have hK7 := hK6.below hB7
    have hm7 := hm6.step hB7
    have hd7 := hd6.step hB7
    have hBw7 := Below.then_ hBw6 hB7
    clear hG6 hK6 hm6 hd6 hF6 hB7 hBw6
    have hz : ((n : Int) == 0) = false := by simp; omega
    go_wp2_with fail
    refine region_all_tail 21 (cc5 A3 A4 n n2 c3 c4 L L2 m d q) (by kernel_rfl) (by kernel_rfl) (by kernel_rfl) (cc5_stab _ _ _ _ _ _ _ _ _ _ _) ?_ ?_
    · intro w0 hb0
      simp only [List.take_succ_cons, List.take_zero]
      refine ⟨?_, ?_, ?_, ?_, ?_, ?_, ?_, ?_, ?_, ?_, ?_, ?_, ?_, ?_, ?_, ?_, ?_, ?_, ?_, ?_, ?_, trivial⟩
      all_goals intro listed a1 w' hk1 hd1
      · have f10_ : a1.eval (.tmp 10) = .int .i64 0 := hk1.ev_old 10 (by kernel_rfl)
        have g10_ : a1.tmps[10]?.getD undef = .int .i64 0 := by simpa [Act.eval] using f10_
        exact stepOk_value rfl (v := .int .i64 0) (by go_simp) rfl
      · obtain ⟨y0, e0, q0, rfl⟩ := hk1.ev_new hd1 0 39 (by kernel_rfl) rfl
        exact stepOk_value rfl (v := .bool false) (by go_simp) rfl
      · obtain ⟨y1, e1, q1, rfl⟩ := hk1.ev_new hd1 1 40 (by kernel_rfl) rfl
        exact stepOk_value rfl (v := .bool false) (by go_simp) rfl
      · obtain ⟨y2, e2, q2, rfl⟩ := hk1.ev_new hd1 2 41 (by kernel_rfl) rfl
        have f9_ : a1.eval (.tmp 9) = .slice A3 n c3 := hk1.ev_old 9 (by kernel_rfl)
        have g9_ : a1.tmps[9]?.getD undef = .slice A3 n c3 := by simpa [Act.eval] using f9_
        exact stepOk_valC (wanted_at (t := 41) rfl rfl q2) (v := .slice A3 n c3) (by go_simp) rfl
      · obtain ⟨y2, e2, q2, rfl⟩ := hk1.ev_new hd1 2 41 (by kernel_rfl) rfl
        obtain ⟨y3, e3, q3, rfl⟩ := hk1.ev_new hd1 3 42 (by kernel_rfl) rfl
        exact stepOk_valC (wanted_at (t := 41) rfl rfl q2) (v := .int .i64 (n : Int)) (by go_simp) rfl
      · obtain ⟨y2, e2, q2, rfl⟩ := hk1.ev_new hd1 2 41 (by kernel_rfl) rfl
        obtain ⟨y4, e4, q4, rfl⟩ := hk1.ev_new hd1 4 43 (by kernel_rfl) rfl
        exact stepOk_valC (wanted_at (t := 41) rfl rfl q2) (v := .bool false) (by go_simp) rfl
      · obtain ⟨y2, e2, q2, rfl⟩ := hk1.ev_new hd1 2 41 (by kernel_rfl) rfl
        obtain ⟨y5, e5, q5, rfl⟩ := hk1.ev_new hd1 5 44 (by kernel_rfl) rfl
        exact stepOk_value rfl (v := .bool false) (by go_simp) rfl
      · obtain ⟨y6, e6, q6, rfl⟩ := hk1.ev_new hd1 6 45 (by kernel_rfl) rfl
        exact stepOk_value rfl (v := .bool false) (by go_simp) rfl
      · obtain ⟨y7, e7, q7, rfl⟩ := hk1.ev_new hd1 7 46 (by kernel_rfl) rfl
        have f12_ : a1.eval (.tmp 12) = .int .i64 0 := hk1.ev_old 12 (by kernel_rfl)
        have g12_ : a1.tmps[12]?.getD undef = .int .i64 0 := by simpa [Act.eval] using f12_
        exact stepOk_valC (wanted_at (t := 46) rfl rfl q7) (v := .int .i64 0) (by go_simp) rfl
      · obtain ⟨y7, e7, q7, rfl⟩ := hk1.ev_new hd1 7 46 (by kernel_rfl) rfl
        obtain ⟨y8, e8, q8, rfl⟩ := hk1.ev_new hd1 8 47 (by kernel_rfl) rfl
        exact stepOk_valC (wanted_at (t := 46) rfl rfl q7) (v := .bool true) (by go_simp) rfl
      · obtain ⟨y7, e7, q7, rfl⟩ := hk1.ev_new hd1 7 46 (by kernel_rfl) rfl
        obtain ⟨y9, e9, q9, rfl⟩ := hk1.ev_new hd1 9 48 (by kernel_rfl) rfl
        exact stepOk_valC (wanted_at (t := 46) rfl rfl q7) (v := .bool true) (by go_simp) rfl
      · obtain ⟨y10, e10, q10, rfl⟩ := hk1.ev_new hd1 10 49 (by kernel_rfl) rfl
        have f9_ : a1.eval (.tmp 9) = .slice A3 n c3 := hk1.ev_old 9 (by kernel_rfl)
        have g9_ : a1.tmps[9]?.getD undef = .slice A3 n c3 := by simpa [Act.eval] using f9_
        exact stepOk_valC (wanted_at (t := 49) rfl rfl q10) (v := .slice A3 n c3) (by go_simp) rfl
      · obtain ⟨y10, e10, q10, rfl⟩ := hk1.ev_new hd1 10 49 (by kernel_rfl) rfl
        obtain ⟨y11, e11, q11, rfl⟩ := hk1.ev_new hd1 11 50 (by kernel_rfl) rfl
        have hst1 := run_str ((hF7.below hb0).below hk1.below).sees HN.out c3
        exact stepOk_valC (wanted_at (t := 49) rfl rfl q10) (v := .string ⟨L.toArray⟩) (by go_simp) rfl
      · obtain ⟨y10, e10, q10, rfl⟩ := hk1.ev_new hd1 10 49 (by kernel_rfl) rfl
        have f11_ : a1.eval (.tmp 11) = .slice A4 n2 c4 := hk1.ev_old 11 (by kernel_rfl)
        have g11_ : a1.tmps[11]?.getD undef = .slice A4 n2 c4 := by simpa [Act.eval] using f11_
        exact stepOk_valC (wanted_at (t := 49) rfl rfl q10) (v := .slice A4 n2 c4) (by go_simp) rfl
      · obtain ⟨y10, e10, q10, rfl⟩ := hk1.ev_new hd1 10 49 (by kernel_rfl) rfl
        obtain ⟨y13, e13, q13, rfl⟩ := hk1.ev_new hd1 13 52 (by kernel_rfl) rfl
        have hst2 := run_str ((hFd.below hb0).below hk1.below).sees HN2.out c4
        exact stepOk_valC (wanted_at (t := 49) rfl rfl q10) (v := .string ⟨L2.toArray⟩) (by go_simp) rfl
      · obtain ⟨y10, e10, q10, rfl⟩ := hk1.ev_new hd1 10 49 (by kernel_rfl) rfl
        obtain ⟨y12, e12, q12, rfl⟩ := hk1.ev_new hd1 12 51 (by kernel_rfl) rfl
        obtain ⟨y14, e14, q14, rfl⟩ := hk1.ev_new hd1 14 53 (by kernel_rfl) rfl
        exact stepOk_valC (wanted_at (t := 49) rfl rfl q10) (v := .bool q) (by go_simp) rfl
      · obtain ⟨y10, e10, q10, rfl⟩ := hk1.ev_new hd1 10 49 (by kernel_rfl) rfl
        have f4_ : a1.eval (.tmp 4) = .pointer (some ⟨g, 0, none⟩) := hk1.ev_old 4 (by kernel_rfl)
        have g4_ : a1.tmps[4]?.getD undef = .pointer (some ⟨g, 0, none⟩) := by simpa [Act.eval] using f4_
        exact stepOk_valC (wanted_at (t := 49) rfl rfl q10) (run_load_agg (.tmp 4) 26 rfl (hk1.ev_old 4 (by kernel_rfl)) m.cells 4 (pm4' m) aggCode' ((hG7.below hb0).below hk1.below).sees) rfl
      · obtain ⟨y10, e10, q10, rfl⟩ := hk1.ev_new hd1 10 49 (by kernel_rfl) rfl
        have f5_ : a1.eval (.tmp 5) = .pointer (some ⟨k, 0, none⟩) := hk1.ev_old 5 (by kernel_rfl)
        have g5_ : a1.tmps[5]?.getD undef = .pointer (some ⟨k, 0, none⟩) := by simpa [Act.eval] using f5_
        exact stepOk_valC (wanted_at (t := 49) rfl rfl q10) (run_load_agg (.tmp 5) 26 rfl (hk1.ev_old 5 (by kernel_rfl)) d.cells 4 (pm4' d) aggCode' ((hK7.below hb0).below hk1.below).sees) rfl
      · obtain ⟨y10, e10, q10, rfl⟩ := hk1.ev_new hd1 10 49 (by kernel_rfl) rfl
        obtain ⟨y16, e16, q16, rfl⟩ := hk1.ev_new hd1 16 55 (by kernel_rfl) rfl
        obtain ⟨y17, e17, q17, rfl⟩ := hk1.ev_new hd1 17 56 (by kernel_rfl) rfl
        refine stepOk_enter (wanted_at (t := 49) rfl rfl q10) (f := 22) (args := #[.agg m.cells.toArray, .agg d.cells.toArray]) (by go_simp) ?_
        refine (Same_is m d _ ((hm7.step hb0).step hk1.below) ((hd7.step hb0).step hk1.below) q HQ.out).mono ?_
        rintro e w8 ⟨rfl, hB8⟩
        exact ⟨_, rfl, rfl, hB8⟩
      · obtain ⟨y10, e10, q10, rfl⟩ := hk1.ev_new hd1 10 49 (by kernel_rfl) rfl
        obtain ⟨y15, e15, q15, rfl⟩ := hk1.ev_new hd1 15 54 (by kernel_rfl) rfl
        obtain ⟨y18, e18, q18, rfl⟩ := hk1.ev_new hd1 18 57 (by kernel_rfl) rfl
        exact stepOk_valC (wanted_at (t := 49) rfl rfl q10) (v := .bool false) (by go_simp) rfl
      · obtain ⟨y7, e7, q7, rfl⟩ := hk1.ev_new hd1 7 46 (by kernel_rfl) rfl
        obtain ⟨y10, e10, q10, rfl⟩ := hk1.ev_new hd1 10 49 (by kernel_rfl) rfl
        obtain ⟨y19, e19, q19, rfl⟩ := hk1.ev_new hd1 19 58 (by kernel_rfl) rfl
        exact stepOk_valC (wanted_at (t := 46) rfl rfl q7) (v := .bool false) (by go_simp) rfl
    · intro a1 wq hb7 hp
      obtain ⟨x0, p0, x1, p1, x2, p2, x3, p3, x4, p4, x5, p5, x6, p6, x7, p7, x8, p8, x9, p9, x10, p10, x11, p11, x12, p12, x13, p13, x14, p14, x15, p15, x16, p16, x17, p17, x18, p18, x19, p19, x20, p20, rfl⟩ := hp
      simp only [cc5] at p0 p1 p2 p3 p4 p5 p6 p7 p8 p9 p10 p11 p12 p13 p14 p15 p16 p17 p18 p19 p20
      subst p0 p1 p2 p3 p4 p5 p6 p7 p8 p9 p10 p11 p12 p13 p14 p15 p16 p17 p18 p19 p20
      simp only [List.drop_succ_cons, List.drop_zero, Act.put, List.setIfInBounds_toArray, List.set_cons_succ, List.set_cons_zero]
      have hF8 := hF7.below hb7
      have hBw8 := Below.then_ hBw7 hb7
      have hc3 := hF7.cap.1
      have hk1 : at_ % n < n := Nat.mod_lt _ hn0
      have hle : (at_ : Int) % (n : Int) ≤ (c3 : Int) := by
        have : ((at_ % n : Nat) : Int) = (at_ : Int) % (n : Int) := by simp
        omega
      go_wp2_with fail
      have hno : readOk (L.take (at_ % n)) = false := by
        rw [← hL]
        exact cut_no hr hsm (by rw [hL, HN.out]; exact hk1)
      refine (Read_no A3 (at_ % n) c3 (L.take (at_ % n)) _ (sees_take hF8.sees _) (by rw [List.length_take, HN.out]; omega) (by omega) (by omega) hno).mono ?_
      rintro e w9 ⟨rfl, hB9⟩
      have hF9 := hF8.below hB9
      have hBw9 := Below.then_ hBw8 hB9
      clear hF7 hF8 hB9 hBw7 hBw8 hno hle hb7 hG7 hK7 hm7 hd7 hFd
      go_wp2_with (first
        | (with_reducible refine wpList_alloc (o := ⟨some 13, _, _, _, _, _⟩) rfl 26 rfl noCells zeroCode 4 rfl (by decide) ?_; intro g3 w10 hg10 hF10 hB10)
        | (
            with_reducible refine wpList_store rfl rfl (.tmp 13) (.tmp 70) 26 rfl g3 0 w9.heap.size 26 4 noCells noCells ?_ ?_ 4 ?_ ?_ ?_ ?_ ?_ w9 ?_ ?_ ?_
            · rfl
            · rfl
            · rfl
            · exact aggCode'
            · exact hF10
            · omega
            · exact cd_one _ _ _ _ _ _ _ _ _ _
            · exact hB10
            · exact hg10
            intro w11 hF11 hB11 hoth11 hz11
            have hF12 := hF9.below hB11
            have hBw12 := Below.then_ hBw9 hB11
            clear hF9 hBw9 hF10 hB10 hoth11 hF11
            have hN : Fresh w11.heap.size 5 (w11.alloc (.cells #[] 5)) (some ⟨w11.heap.size, 0, none⟩) 0 0 (cb []) := Fresh.new w11 5 (cb []) 0 rfl (by omega)
            have hS12 := hF12.sees.step (below_alloc w11 (.cells #[] 5))
            have hA12 := below_alloc w11 (.cells #[] 5))
        | (
            refine wpList_app8 rfl (.tmp 73) (.tmp 74) rfl (some ⟨w11.heap.size, 0, none⟩) A3 0 0 n c3 [] L w11 rfl rfl ?_ ?_ ?_ ?_ ?_ ?_
            · exact hN
            · exact hS12
            · exact HN.out
            · omega
            · exact hA12
            intro A13 c13 w13 hF13 hB13
            rw [Nat.zero_add, List.nil_append] at hF13
            have hS13 : Sees (w13.alloc (.cells #[.int .u8 (x.toNat : Int)] 5)) (w13.alloc (.cells #[.int .u8 (x.toNat : Int)] 5)).heap.size (some ⟨w13.heap.size, 0, none⟩) (cb [x]) := sees_new w13 5 (cb [x])
            have hA13 := Below.then_ hB13 (below_alloc w13 (.cells #[.int .u8 (x.toNat : Int)] 5))
            have hF13b := hF13.below (below_alloc w13 (.cells #[.int .u8 (x.toNat : Int)] 5)))
        | (
            refine wpList_app8 rfl (.tmp 75) (.tmp 77) rfl A13 (some ⟨w13.heap.size, 0, none⟩) n c13 1 1 L [x] w11 rfl rfl ?_ ?_ ?_ ?_ ?_ ?_
            · exact hF13b
            · exact hS13
            · rfl
            · omega
            · exact hA13
            intro A14 c14 w14 hF14 hB14))
      have hBw14 := Below.then_ hBw12 hB14
      have hno2 : readOk (L ++ [x]) = false := by
        rw [← hL]
        exact more_no hr hsm x
      refine (Read_no A14 (n + 1) c14 (L ++ [x]) _ hF14.sees (by rw [List.length_append, HN.out]; rfl) hF14.cap.1 (by omega) hno2).mono ?_
      rintro e w15 ⟨rfl, hB15⟩
      have hBw15 := Below.then_ hBw14 hB15
      go_wp2_with (first
        | (with_reducible refine wpList_alloc (o := ⟨some 15, _, _, _, _, _⟩) rfl 26 rfl noCells zeroCode 4 rfl (by decide) ?_; intro g5 w16 hg16 hF16 hB16)
        | (
            with_reducible refine wpList_store rfl rfl (.tmp 15) (.tmp 80) 26 rfl g5 0 w15.heap.size 26 4 noCells noCells ?_ ?_ 4 ?_ ?_ ?_ ?_ ?_ w15 ?_ ?_ ?_
            · rfl
            · rfl
            · rfl
            · exact aggCode'
            · exact hF16
            · omega
            · exact cd_one _ _ _ _ _ _ _ _ _ _
            · exact hB16
            · exact hg16
            intro w17 hF17 hB17 hoth17 hz17
            have hBw17 := Below.then_ hBw15 hB17)
        | (go_at_call 13; refine (quit _ hBw17).mono ?_; rintro e w20 ⟨rfl, hB20⟩))
      go_ret
      exact ⟨rfl, hB20⟩
end Go.Proofs.Ytangblcfdboghaa

namespace Go.Proofs.Ytangblcfdboghaa
open Go.RowKit
set_option linter.unusedVariables false

theorem lit_u16 {a : Int} (h : (Lit.int .u16 a).wf = true) : ∃ k : Nat, a = (k : Int) ∧ k < 65536 := by
  have := bounds_u16 h
  exact ⟨a.toNat, by omega, by omega⟩
theorem lit_u8 {a : Int} (h : (Lit.int .u8 a).wf = true) : ∃ t : UInt8, a = (t.toNat : Int) := by
  have := bounds_u8 h
  exact ⟨UInt8.ofNat a.toNat, by rw [ofNat_toNat _ (by omega)]; omega⟩
theorem codeCuts_law (w : World) (m : Pm) (hm : PmAt w.heap.size w m) (d : Pm) (hd : PmAt w.heap.size w d) (a2 : Int) (w2 : (Lit.int .u16 a2).wf = true) (a3 : Int) (w3 : (Lit.int .u8 a3).wf = true) :
    Calls Try.prog 4 #[.agg m.cells.toArray, .agg d.cells.toArray, .int .u16 a2, .int .u8 a3] w fun e w' => e = .returned (.bool true) ∧ Below w.heap.size w w' := by
  obtain ⟨k, rfl, hk⟩ := lit_u16 w2
  obtain ⟨x, rfl⟩ := lit_u8 w3
  exact codeCuts_any w m d hm hd k hk x
end Go.Proofs.Ytangblcfdboghaa
