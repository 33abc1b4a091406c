/-
  A program is read as it was written; what is read of any bytes, written again, is those bytes, and is right.
-/
import Derived.Test.YtfeomfoicibmcaaCodeRead
import Derived.Test.YtfeomfoicibmcaaCodeNo
import Derived.Test.YtfeomfoicibmcaaCodeSame
import Derived.Test.YtfeomfoicibmcaaRow
namespace Go.Proofs.Ytfeomfoicibmcaa
open Go.RowKit
set_option linter.unusedVariables false
set_option linter.constructorNameAsVariable false

theorem small_of {p : Pg} (h : p.right = true) (ho : ∀ j ∈ p.ins, j.Ok) : Small p :=
  ⟨fun j hj => ⟨(ho j hj).op, (ho j hj).t, jn_a ((Pg.facts h).jn j hj), (ho j hj).a.2, (ho j hj).n.1, (ho j hj).n.2⟩⟩
theorem bytes_le {p : Pg} (h : p.right = true) : p.bytes.length ≤ 1000000 := by
  have hf := Pg.facts h
  have h1 := flat_le Vr.bytes 80 p.vars (fun x hx => len_vr x (Vr.right_facts (hf.var x hx)).1)
  have h2 := flat_le (fun (x : UInt8) => digs x.toNat) 10 p.blocks (fun x _ => by rw [len_digs]; exact (nd_bd _).2)
  have h3 := flat_le Jn.bytes 40 p.ins (fun x _ => len_jn x)
  have q1 := hf.name
  have q2 := hf.vars
  have q3 := hf.blocks
  have q4 := hf.ins
  have n1 := (nd_bd p.name.length).2
  have n2 := (nd_bd p.vars.length).2
  have n3 := (nd_bd p.blocks.length).2
  have n4 := (nd_bd p.ins.length).2
  simp only [Pg.bytes, blob, blB, List.length_append, len_digs]
  omega
/-- Whether Right answers as it does. -/
theorem Right_is (m : Pm) (w : World) (hm : PmAt w.heap.size w m) (r : Bool) (hr : m.p.right = r) : Calls Try.prog 22 #[.agg m.cells.toArray] w fun e w' => e = .returned (.bool r) ∧ Below w.heap.size w w' := by
  have := Right_any m w hm
  rwa [hr] at this
/-- A program's bytes, read: the program. -/
theorem Read_back (m : Pm) (hr : m.p.right = true) (ho : ∀ j ∈ m.p.ins, j.Ok) (A : Option Addr) (n c : Nat) (w : World) (hs : Sees w w.heap.size A (cb m.p.bytes)) (hl : m.p.bytes.length = n) (hc : n ≤ c) :
    Calls Try.prog 12 #[.slice A n c] w fun e w' => (∃ d : Pm, e = .returned (.tuple #[.agg d.cells.toArray, .int .i64 0]) ∧ d.p = m.p ∧ PmAt w'.heap.size w' d) ∧ Below w.heap.size w w' := by
  refine (Read_any A n c m.p.bytes w hs hl hc (by rw [← hl]; exact bytes_le hr)).mono ?_
  rintro e w' ⟨h, hB⟩
  obtain ⟨h1, h2⟩ := readOk_bytes hr (small_of hr ho)
  unfold ReadOut at h
  rw [if_pos h1] at h
  obtain ⟨d, hd, he, hp⟩ := h
  exact ⟨⟨d, he, hd.trans h2, hp⟩, hB⟩
/-- Any bytes, read: none, or the program whose bytes they are. -/
theorem Read_yes (A : Option Addr) (n c : Nat) (l : List UInt8) (w : World) (hs : Sees w w.heap.size A (cb l)) (hl : l.length = n) (hc : n ≤ c) (hn : n ≤ 1000000) (hy : readOk l = true) :
    Calls Try.prog 12 #[.slice A n c] w fun e w' => (∃ d : Pm, e = .returned (.tuple #[.agg d.cells.toArray, .int .i64 0]) ∧ d.p.right = true ∧ d.p.bytes = l ∧ PmAt w'.heap.size w' d) ∧ Below w.heap.size w w' := by
  refine (Read_any A n c l w hs hl hc hn).mono ?_
  rintro e w' ⟨h, hB⟩
  obtain ⟨h1, h2⟩ := readOk_is hy
  unfold ReadOut at h
  rw [if_pos hy] at h
  obtain ⟨d, hd, he, hp⟩ := h
  exact ⟨⟨d, he, by rw [hd]; exact h1, by rw [hd]; exact h2, hp⟩, hB⟩
theorem Read_no (A : Option Addr) (n c : Nat) (l : List UInt8) (w : World) (hs : Sees w w.heap.size A (cb l)) (hl : l.length = n) (hc : n ≤ c) (hn : n ≤ 1000000) (hy : readOk l = false) :
    Calls Try.prog 12 #[.slice A n c] w fun e w' => e = .returned (.tuple #[.agg noCells.toArray, .int .i64 130]) ∧ Below w.heap.size w w' := by
  refine (Read_any A n c l w hs hl hc hn).mono ?_
  rintro e w' ⟨h, hB⟩
  unfold ReadOut at h
  rw [if_neg (by rw [hy]; simp)] at h
  exact ⟨h, hB⟩
theorem Bytes_is (m : Pm) (w : World) (hm : PmAt w.heap.size w m) (hr : m.p.right = true) (l : List UInt8) (hb : m.p.bytes = l) (n : Nat) (hl : l.length = n) :
    Calls Try.prog 10 #[.agg m.cells.toArray] w fun e w' => ∃ A c, e = .returned (.tuple #[.slice A n c, .int .i64 0]) ∧ Fresh w.heap.size 5 w' A n c (cb l) ∧ Below w.heap.size w w' := by
  have := Bytes_yes m w hm hr
  rw [hb, hl] at this
  exact this
theorem Same_yes (a b : Pm) (w : World) (ha : PmAt w.heap.size w a) (hb : PmAt w.heap.size w b) (h : a.p = b.p) :
    Calls Try.prog 18 #[.agg a.cells.toArray, .agg b.cells.toArray] w fun e w' => e = .returned (.bool true) ∧ Below w.heap.size w w' := by
  refine (Same_any a b w ha hb).mono ?_
  rintro e w' ⟨⟨r, he, hr⟩, hB⟩
  exact ⟨by rw [he, hr.2 h], hB⟩

set_option maxHeartbeats 16000000 in
set_option maxRecDepth 100000 in
theorem codeBack_any (w : World) (m : Pm) (hm : PmAt w.heap.size w m) (A : Option Addr) (n c : Nat) (l : List UInt8) (hl : l.length = n) (hs : Sees w w.heap.size A (cb l)) (hc : n ≤ c) (hc2 : c ≤ maxLen) :
    Calls Try.prog 4 #[.agg m.cells.toArray, .slice A n c] w fun e w' => e = .returned (.bool true) ∧ Below w.heap.size w w' := by
  have HL := Lib.hid hl
  clear hl
  unfold maxLen at hc2
  go_enter Try.func4, Try.ntmps4
  go_wp2_with (first
    | (with_reducible refine wpList_box (o := ⟨some 2, _, _, _, _, _⟩) rfl (.tmp 0) 26 rfl m.cells rfl 4 (pm4' m) (by decide) ?_; intro g w1 hg hG hB)
    | (with_reducible refine wpList_load_g (.tmp 2) 26 rfl g 0 _ rfl m.cells 4 (pm4' m) aggCode' hG.sees rfl ?_)
    | (go_at_call 8; refine (Great_any m _ (hm.step hB)).mono ?_))
  rintro e w2 ⟨⟨b, rfl, hgt⟩, hB2⟩
  have hG2 := hG.below hB2
  have hm2 := (hm.step hB).step hB2
  have hBw2 := Below.then_ hB hB2
  clear hB hB2 hG hm hgt
  have quit : ∀ wq, Below w.heap.size w wq → Calls Try.prog 9 #[] wq fun e w' => e = .returned (.bool true) ∧ Below w.heap.size w w' := fun wq hq => (awake13_any wq).mono (fun e w' h => ⟨h.1, Below.then_ hq h.2⟩)
  cases b
  · by_cases hn : n ≤ 30000
    · obtain ⟨r, hr⟩ : ∃ r, m.p.right = r := ⟨_, rfl⟩
      cases r
      · as_aux_lemma =>
          go_wp2_with (first
            | (with_reducible refine wpList_load_g (.tmp 2) 26 rfl g 0 _ rfl m.cells 4 (pm4' m) aggCode' hG2.sees rfl ?_)
            | (go_at_call 10; refine (Bytes_no m _ hm2 hr).mono ?_; rintro e w3 ⟨rfl, hB3⟩; have hG3 := hG2.below hB3; have hm3 := hm2.step hB3; have hBw3 := Below.then_ hBw2 hB3)
            | (with_reducible refine wpList_load_g (.tmp 2) 26 rfl g 0 _ rfl m.cells 4 (pm4' m) aggCode' hG3.sees rfl ?_)
            | (go_at_call 22; refine (Right_is m _ hm3 false hr).mono ?_; rintro e w4 ⟨rfl, hB4⟩; have hBw4 := Below.then_ hBw3 hB4))
          clear hG2 hG3 hm2 hm3 hB3 hB4 hBw2 hBw3
          obtain ⟨y, hy⟩ : ∃ y, readOk l = y := ⟨_, rfl⟩
          cases y
          · refine (Read_no A n c l _ (hs.step hBw4) HL.out hc (by omega) hy).mono ?_
            rintro e w10 ⟨rfl, hB10⟩
            have hBw10 := Below.then_ hBw4 hB10
            clear hB10
            go_wp2_with (first
              | (with_reducible refine wpList_alloc (o := ⟨some 9, _, _, _, _, _⟩) rfl 26 rfl noCells zeroCode 4 rfl (by decide) ?_; intro g9 w11 hg9 hF11 hB11)
              | (
                  with_reducible refine wpList_store rfl rfl (.tmp 9) (.tmp 58) 26 rfl g9 0 w10.heap.size 26 4 noCells noCells ?_ ?_ 4 ?_ ?_ ?_ ?_ ?_ w10 ?_ ?_ ?_
                  · rfl
                  · rfl
                  · rfl
                  · exact aggCode'
                  · exact hF11
                  · omega
                  · exact cd_one _ _ _ _ _ _ _ _ _ _
                  · exact hB11
                  · exact hg9
                  intro w12 hF12 hB12 hoth12 hz12
                  have hBw12 := Below.then_ hBw10 hB12)
              | (go_at_call 9; refine (quit _ hBw12).mono ?_; rintro e w20 ⟨rfl, hB20⟩))
            go_ret
            exact ⟨rfl, hB20⟩
          · refine (Read_yes A n c l _ (hs.step hBw4) HL.out hc (by omega) hy).mono ?_
            rintro e w10 ⟨⟨d2, rfl, hdr, hdl, hpd2⟩, hB10⟩
            have hBw10 := Below.then_ hBw4 hB10
            clear hB10
            go_wp2_with (first
              | (with_reducible refine wpList_alloc (o := ⟨some 9, _, _, _, _, _⟩) rfl 26 rfl noCells zeroCode 4 rfl (by decide) ?_; intro g9 w11 hg9 hF11 hB11)
              | (
                  with_reducible refine wpList_store rfl rfl (.tmp 9) (.tmp 58) 26 rfl g9 0 w10.heap.size 26 4 noCells d2.cells ?_ ?_ 4 ?_ ?_ ?_ ?_ ?_ w10 ?_ ?_ ?_
                  · rfl
                  · rfl
                  · rfl
                  · exact aggCode'
                  · exact hF11
                  · omega
                  · exact cd_one _ _ _ _ _ _ _ _ _ _
                  · exact hB11
                  · exact hg9
                  intro w12 hF12 hB12 hoth12 hz12
                  rw [splice4 (n := 4) rfl rfl] at hF12
                  have hBw12 := Below.then_ hBw10 hB12
                  have hpd12 := hpd2.step hB12
                  clear hpd2 hB12 hoth12 hz12 hF11 hB11)
              | (with_reducible refine wpList_load_g (.tmp 9) 26 rfl g9 0 _ rfl d2.cells 4 (pm4' d2) aggCode' hF12.sees rfl ?_)
              | (go_at_call 10; refine (Bytes_is d2 _ hpd12 hdr l hdl n HL.out).mono ?_; rintro e w13 ⟨A13, c13, rfl, hF13, hB13⟩; have hpd13 := hpd12.step hB13; have hF12b := hF12.below hB13; have hBw13 := Below.then_ hBw12 hB13; have hstr1 := run_str hF13.sees HL.out c13; have hstr2 := run_str (hs.step hBw13) HL.out c)
              | (with_reducible refine wpList_load_g (.tmp 9) 26 rfl g9 0 _ rfl d2.cells 4 (pm4' d2) aggCode' hF12b.sees rfl ?_)
              | (go_at_call 22; refine (Right_is d2 _ hpd13 true hdr).mono ?_; rintro e w14 ⟨rfl, hB14⟩; have hBw14 := Below.then_ hBw13 hB14)
              | (go_at_call 9; refine (quit _ hBw14).mono ?_; rintro e w20 ⟨rfl, hB20⟩))
            go_ret
            exact ⟨rfl, hB20⟩
      · as_aux_lemma =>
          go_wp2_with (first
            | (with_reducible refine wpList_load_g (.tmp 2) 26 rfl g 0 _ rfl m.cells 4 (pm4' m) aggCode' hG2.sees rfl ?_)
            | (go_at_call 10; refine (Bytes_yes m _ hm2 hr).mono ?_; rintro e w3 ⟨A3, c3, rfl, hF3, hB3⟩; have hG3 := hG2.below hB3; have hm3 := hm2.step hB3; have hBw3 := Below.then_ hBw2 hB3)
            | (with_reducible refine wpList_load_g (.tmp 2) 26 rfl g 0 _ rfl m.cells 4 (pm4' m) aggCode' hG3.sees rfl ?_)
            | (go_at_call 22; refine (Right_is m _ hm3 true hr).mono ?_; rintro e w4 ⟨rfl, hB4⟩; have hG4 := hG3.below hB4; have hm4 := hm3.step hB4; have hF4 := hF3.below hB4; have hBw4 := Below.then_ hBw3 hB4))
          refine (Read_back m hr hm4.oki A3 _ c3 _ hF4.sees rfl hF4.cap.1).mono ?_
          rintro e w5 ⟨⟨d, rfl, hd, hpd⟩, hB5⟩
          have hG5 := hG4.below hB5
          have hm5 := hm4.step hB5
          have hBw5 := Below.then_ hBw4 hB5
          clear hG2 hG3 hG4 hm2 hm3 hm4 hF3 hF4 hB3 hB4 hBw2 hBw3 hBw4 hB5
          go_wp2_with (first
            | (with_reducible refine wpList_alloc (o := ⟨some 7, _, _, _, _, _⟩) rfl 26 rfl noCells zeroCode 4 rfl (by decide) ?_; intro g7 w6 hg7 hF6 hB6)
            | (
                with_reducible refine wpList_store rfl rfl (.tmp 7) (.tmp 45) 26 rfl g7 0 w5.heap.size 26 4 noCells d.cells ?_ ?_ 4 ?_ ?_ ?_ ?_ ?_ w5 ?_ ?_ ?_
                · rfl
                · rfl
                · rfl
                · exact aggCode'
                · exact hF6
                · omega
                · exact cd_one _ _ _ _ _ _ _ _ _ _
                · exact hB6
                · exact hg7
                intro w7 hF7 hB7 hoth7 hz7
                rw [splice4 (n := 4) rfl rfl] at hF7
                have hG7 := hG5.below hB7
                have hm7 := hm5.step hB7
                have hpd7 := hpd.step hB7
                have hBw7 := Below.then_ hBw5 hB7)
            | (with_reducible refine wpList_load_g (.tmp 2) 26 rfl g 0 _ rfl m.cells 4 (pm4' m) aggCode' hG7.sees rfl ?_)
            | (with_reducible refine wpList_load_g (.tmp 7) 26 rfl g7 0 _ rfl d.cells 4 (pm4' d) aggCode' hF7.sees rfl ?_)
            | (go_at_call 18; refine (Same_yes m d _ hm7 hpd7 hd.symm).mono ?_; rintro e w8 ⟨rfl, hB8⟩; have hBw8 := Below.then_ hBw7 hB8))
          clear hG5 hG7 hm5 hm7 hpd hpd7 hF6 hF7 hB6 hB7 hoth7 hz7 hBw5 hBw7 hB8 hd
          obtain ⟨y, hy⟩ : ∃ y, readOk l = y := ⟨_, rfl⟩
          cases y
          · refine (Read_no A n c l _ (hs.step hBw8) HL.out hc (by omega) hy).mono ?_
            rintro e w10 ⟨rfl, hB10⟩
            have hBw10 := Below.then_ hBw8 hB10
            clear hB10
            go_wp2_with (first
              | (with_reducible refine wpList_alloc (o := ⟨some 9, _, _, _, _, _⟩) rfl 26 rfl noCells zeroCode 4 rfl (by decide) ?_; intro g9 w11 hg9 hF11 hB11)
              | (
                  with_reducible refine wpList_store rfl rfl (.tmp 9) (.tmp 58) 26 rfl g9 0 w10.heap.size 26 4 noCells noCells ?_ ?_ 4 ?_ ?_ ?_ ?_ ?_ w10 ?_ ?_ ?_
                  · rfl
                  · rfl
                  · rfl
                  · exact aggCode'
                  · exact hF11
                  · omega
                  · exact cd_one _ _ _ _ _ _ _ _ _ _
                  · exact hB11
                  · exact hg9
                  intro w12 hF12 hB12 hoth12 hz12
                  have hBw12 := Below.then_ hBw10 hB12)
              | (go_at_call 9; refine (quit _ hBw12).mono ?_; rintro e w20 ⟨rfl, hB20⟩))
            go_ret
            exact ⟨rfl, hB20⟩
          · refine (Read_yes A n c l _ (hs.step hBw8) HL.out hc (by omega) hy).mono ?_
            rintro e w10 ⟨⟨d2, rfl, hdr, hdl, hpd2⟩, hB10⟩
            have hBw10 := Below.then_ hBw8 hB10
            clear hB10
            go_wp2_with (first
              | (with_reducible refine wpList_alloc (o := ⟨some 9, _, _, _, _, _⟩) rfl 26 rfl noCells zeroCode 4 rfl (by decide) ?_; intro g9 w11 hg9 hF11 hB11)
              | (
                  with_reducible refine wpList_store rfl rfl (.tmp 9) (.tmp 58) 26 rfl g9 0 w10.heap.size 26 4 noCells d2.cells ?_ ?_ 4 ?_ ?_ ?_ ?_ ?_ w10 ?_ ?_ ?_
                  · rfl
                  · rfl
                  · rfl
                  · exact aggCode'
                  · exact hF11
                  · omega
                  · exact cd_one _ _ _ _ _ _ _ _ _ _
                  · exact hB11
                  · exact hg9
                  intro w12 hF12 hB12 hoth12 hz12
                  rw [splice4 (n := 4) rfl rfl] at hF12
                  have hBw12 := Below.then_ hBw10 hB12
                  have hpd12 := hpd2.step hB12
                  clear hpd2 hB12 hoth12 hz12 hF11 hB11)
              | (with_reducible refine wpList_load_g (.tmp 9) 26 rfl g9 0 _ rfl d2.cells 4 (pm4' d2) aggCode' hF12.sees rfl ?_)
              | (go_at_call 10; refine (Bytes_is d2 _ hpd12 hdr l hdl n HL.out).mono ?_; rintro e w13 ⟨A13, c13, rfl, hF13, hB13⟩; have hpd13 := hpd12.step hB13; have hF12b := hF12.below hB13; have hBw13 := Below.then_ hBw12 hB13; have hstr1 := run_str hF13.sees HL.out c13; have hstr2 := run_str (hs.step hBw13) HL.out c)
              | (with_reducible refine wpList_load_g (.tmp 9) 26 rfl g9 0 _ rfl d2.cells 4 (pm4' d2) aggCode' hF12b.sees rfl ?_)
              | (go_at_call 22; refine (Right_is d2 _ hpd13 true hdr).mono ?_; rintro e w14 ⟨rfl, hB14⟩; have hBw14 := Below.then_ hBw13 hB14)
              | (go_at_call 9; refine (quit _ hBw14).mono ?_; rintro e w20 ⟨rfl, hB20⟩))
            go_ret
            exact ⟨rfl, hB20⟩
    · go_wp2_with (go_at_call 9; refine (quit _ hBw2).mono ?_; rintro e w3 ⟨rfl, hB3⟩)
      go_ret
      exact ⟨rfl, hB3⟩
  · go_wp2_with (go_at_call 9; refine (quit _ hBw2).mono ?_; rintro e w3 ⟨rfl, hB3⟩)
    go_ret
    exact ⟨rfl, hB3⟩
end Go.Proofs.Ytfeomfoicibmcaa
