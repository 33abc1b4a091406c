/-
  CellOpens returns true for every input, and writes nothing that was there: the walk.
-/
import Derived.Test.YtdilpalggoapnaaCellFall
import Derived.Test.YtdilpalggoapnaaPartsOpen
namespace Go.Proofs.Ytdilpalggoapnaa
open Go.RowKit
set_option linter.unusedVariables false

/-- Writes nothing that was there but the block of this slice. -/
structure Only (A : Option Addr) (w w' : World) : Prop where
  os : w'.os = w.os
  tape : w'.tape = w.tape
  output : w'.output = w.output
  size : w.heap.size ≤ w'.heap.size
  keep : ∀ k, k < w.heap.size → A ≠ some ⟨k, 0, none⟩ → w'.heap[k]? = w.heap[k]?
section
variable {w w' w0 : World} {base c d p b f : Nat} {over : Bool} {S S' : Fl} {x z : Co} {A B : Option Addr}
theorem Only.refl (A : Option Addr) (w : World) : Only A w w := ⟨rfl, rfl, rfl, Nat.le_refl _, fun _ _ _ => rfl⟩
theorem Only.set {g j : Nat} (h : Only (some ⟨g, 0, none⟩) w w') (u : Value) : Only (some ⟨g, 0, none⟩) w (w'.setCell ⟨g, j, none⟩ u) :=
  ⟨h.os, h.tape, h.output, by simpa [World.setCell] using h.size, fun k hk hA => (heap_setCell_other _ ⟨g, j, none⟩ k u (fun e => hA (by have e' : k = g := e; rw [e']))).trans (h.keep k hk hA)⟩
theorem Only.below {m : Nat} {e : TypeId} {n cp : Nat} {xs : List Value} (h : Only A w w') (hA : Fresh m e w A n cp xs) (hm : m ≤ w.heap.size) : Below m w w' :=
  ⟨h.os, h.tape, h.output, h.size, fun k hk => h.keep k (by omega) (fun e => by
    subst e
    have := (hA.at_lt rfl).1
    omega)⟩
theorem Fresh.only {m : Nat} {e : TypeId} {n cp : Nat} {xs : List Value} (h : Fresh m e w A n cp xs) (o : Only B w w') (hne : ∀ g, A = some ⟨g, 0, none⟩ → B ≠ some ⟨g, 0, none⟩) : Fresh m e w' A n cp xs := by
  refine ⟨h.1, ?_⟩
  rcases h.2 with hn | ⟨g, cap, cur, hv, hb, hg, rest⟩
  · exact .inl hn
  · have hA : A = some ⟨g, 0, none⟩ := by simp at hv; exact hv.1
    exact .inr ⟨g, cap, cur, hv, hb, (o.keep g (Array.getElem?_eq_some_iff.1 hg).1 (hne g hA)).trans hg, rest⟩
theorem Fresh.off {m1 m2 : Nat} {T1 T2 : TypeId} {n1 n2 c1 c2 : Nat} {xs ys : List Value} (h1 : Fresh m1 T1 w A n1 c1 xs) (h2 : Fresh m2 T2 w B n2 c2 ys) (hT : T1 ≠ T2) : ∀ g, A = some ⟨g, 0, none⟩ → B ≠ some ⟨g, 0, none⟩ := by
  rintro g rfl rfl
  rcases h1.2 with ⟨q, _⟩ | ⟨g1, cap1, cur1, q1, _, q2, _⟩
  · cases q
  · rcases h2.2 with ⟨r, _⟩ | ⟨g2, cap2, cur2, r1, _, r2, _⟩
    · cases r
    · simp at q1 r1
      obtain ⟨rfl, -⟩ := q1
      obtain ⟨rfl, -⟩ := r1
      rw [q2] at r2
      simp at r2
      exact hT r2.2
/-- Another list of bytes is written; the cell stays. -/
theorem CeAt.only {m n cp : Nat} {xs : List Value} (h : CeAt base w c d p b f S x over) (hB : Fresh m 5 w B n cp xs) (hr : ∃ K ck, Fresh base 97 w (some ⟨c, 0, none⟩) 6 6 (ceObj c d x K ck over) ∧ Fresh base 5 w K x.b.length ck (cb x.b) ∧ ∀ g, K = some ⟨g, 0, none⟩ → B ≠ some ⟨g, 0, none⟩) (o : Only B w w') : CeAt base w' c d p b f S x over := by
  obtain ⟨K, ck, r1, r2, r3⟩ := hr
  have hd := h.dr
  exact ⟨⟨⟨hd.nor.obj.only o (hd.nor.obj.off hB (by decide)), hd.nor.row.only o (hd.nor.row.off hB (by decide)), hd.nor.ne, hd.nor.n_le, hd.nor.left_le⟩, hd.obj.only o (hd.obj.off hB (by decide)), hd.fits, hd.some_⟩, ⟨K, ck, r1.only o (r1.off hB (by decide)), r2.only o r3⟩, h.ok⟩
theorem Fresh.before {m m2 : Nat} {T1 T2 : TypeId} {n1 n2 c1 c2 : Nat} {xs ys : List Value} (h1 : Fresh m T1 w A n1 c1 xs) (h2 : Fresh m2 T2 w0 B n2 c2 ys) (hm : w0.heap.size ≤ m) : ∀ g, A = some ⟨g, 0, none⟩ → B ≠ some ⟨g, 0, none⟩ := fun g e1 e2 => by
  have q1 := (h1.at_lt e1).1
  have q2 := (h2.at_lt e2).2
  omega
theorem Fresh.but3C {m n cp : Nat} {e : TypeId} {xs : List Value} (h : Fresh m e w A n cp xs) (y : But3 c p b w w') (hc : c < m) (hp : p < m) (hb : b < m) : Fresh m e w' A n cp xs := by
  refine ⟨h.1, ?_⟩
  rcases h.2 with hn | ⟨g, cap, cur, hv, hg0, hg, rest⟩
  · exact .inl hn
  · exact .inr ⟨g, cap, cur, hv, hg0, (y.keep g (Array.getElem?_eq_some_iff.1 hg).1 (by omega) (by omega) (by omega)).trans hg, rest⟩
theorem Fl.ctold_up (hd : S.down = false) (hz : S.clook f = z) : S.ctold f x false = z := by unfold Fl.ctold; rw [hd]; exact hz
set_option maxHeartbeats 8000000 in
set_option maxRecDepth 100000 in
theorem copens_walk (A : Option Addr) (N C : Nat) (ps : List Pb) (W : World) (hp : Parts W A N ps) :
    Calls Try.prog 10 #[.slice A N C] W fun e w' => e = .returned (.bool true) ∧ Below W.heap.size W w' := by
  have h0 : Up6 (Fl.made 3 0) 1 := ⟨⟨by decide, by simp [Fl.made]⟩, rfl, rfl, rfl⟩
  have hc0 : (Fl.made 3 0).clook 1 = ⟨-1, 0, []⟩ := by kernel_rfl
  have HP := Lib.hid hp
  clear hp
  go_enter Try.func10, Try.ntmps10
  go_wp2_with fail
  refine (made7_any W).mono ?_
  rintro e w1 ⟨p, b, d, c0, rfl, hT1, hB1⟩
  have hz1 := hB1.size
  go_wp2_with fail
  go_loopw [5, 7] (fun cv iv wr => ∃ (i c : Nat) (S : Fl) (z : Co), i ≤ 8 ∧ iv = .int .i64 (i : Int) ∧ cv = .pointer (some ⟨c, 0, none⟩) ∧ CeAt W.heap.size wr c d p b 1 S z false ∧ Hid (Up6 S 1 ∧ S.clook 1 = z ∧ z.t ≤ i) ∧ Below W.heap.size W wr ∧ W.heap.size ≤ wr.heap.size) (fun _ i _ => 8 - (intOf i).toNat)
  case atStart => exact ⟨0, c0, Fl.made 3 0, _, by omega, rfl, rfl, hT1, Lib.hid ⟨h0, hc0, Nat.le_refl _⟩, hB1, hz1⟩
  case round =>
    obtain ⟨i, c, S, z, hi, rfl, rfl, hT, HU, hB, hz⟩ := hrel
    obtain ⟨wo, rfl⟩ : ∃ wo, wo = wr := ⟨wr, rfl⟩
    clear hT1 hB1 hz1 h0 hc0
    have fin : ∀ w2, Below W.heap.size W w2 → W.heap.size ≤ w2.heap.size → Calls Try.prog 49 #[] w2 fun e w' => e = .returned (.bool true) ∧ Below W.heap.size W w' := fun w2 x y => (awake7_any w2).mono fun e w' ⟨h1, h2⟩ => ⟨h1, x.trans (h2.mono y)⟩
    by_cases hlt : i < N
    · by_cases hlt2 : i < 8
      · obtain ⟨g, o, rfl, hgW, hcW⟩ := HP.out.sees.at_ (k := i) (by have := HP.out.len; simp; omega)
        obtain ⟨q, hqe⟩ : ∃ q, ps[i]'(by have := HP.out.len; omega) = q := ⟨_, rfl⟩
        have hqW : q.Ok W := by rw [← hqe]; exact HP.out.ok _ (List.getElem_mem _)
        have hcW' : W.cell? ⟨g, o + i, none⟩ = some (.slice q.A q.m q.c) := by rw [hcW]; simp [← hqe, Pb.cell]
        have HQ := Lib.hid (fun (w' : World) (x : Below W.heap.size W w') => hqW.step x)
        have HCQ := Lib.hid (fun (w' : World) (x : Below W.heap.size W w') => (x.cell (p := ⟨g, o + i, none⟩) hgW).trans hcW')
        have hq := HQ.out _ hB
        have hcq := HCQ.out _ hB
        clear hqe hcW hcW' hqW
        have hd1 : decide ((i : Int) < 8) = true := by simp; omega
        clear fin
        by_cases hq244 : q.m ≤ 244
        · have hcmp : decide ((244 : Int) < (q.m : Int)) = false := by simp; omega
          go_wp2_with fail
          refine (CopyBytes_any q.A q.c q.m q.l wo hq.sees hq.len (by omega)).mono ?_
          rintro e w2 ⟨A1, c1, rfl, hF2, hx2⟩
          obtain ⟨hB2, hz2⟩ := hT.base0 hz hB hx2
          have hT2 := hT.below hx2
          obtain ⟨hU, hzl, hzt⟩ := HU.out
          obtain ⟨T, r, e1, e2, e3, e4, e5, e6⟩ := cput_gen hU.two hU.down hU.half z z hzl (by omega) q.l (by rw [hq.len]; exact hq244)
          obtain ⟨rfl, e7⟩ := e6 hU.armed
          obtain ⟨f1, f2, f3, f4⟩ := e4 rfl
          have HE := Lib.hid (And.intro (Up6.mk f3 f1 e7 f2) f4)
          have hP := Put_new hT2 hz2 A1 c1 q.l (Off.made hF2 hT.lt.1 hT.lt.1) 0 false (k' := nextC z q.l) (S' := T) (by simpa using e1)
          rw [hq.len] at hP
          have hzt1 : (nextC z q.l).t ≤ i + 1 := by show z.t + 1 ≤ i + 1; omega
          clear e1 e2 e3 e4 e5 e7 f1 f2 f3 f4 hU hzl hzt HU
          go_wp2_with fail
          refine hP.mono ?_
          rintro e w3 ⟨rfl, hT3, hx3, hk3⟩
          obtain ⟨K3, ck3, kr3, kb3⟩ := hk3 trivial
          obtain ⟨hB3, hz3⟩ := hT2.base3 hz2 hB2 hx3
          have lt2 := hT.lt
          obtain ⟨lp, lb, -, -⟩ := hT.dr.nor.lt
          have hF3 := hF2.but3C hx3 lt2.1 lp lb
          have hw3 := Nat.le_trans hx2.size hx3.size
          have HK3 := Lib.hid (kb3.before hF2 (Nat.le_refl _))
          have kb3' := kb3.lower hz2
          clear hk3 hx2 hP kb3
          go_wp2_with fail
          go_loopw [58] (fun jv wv => ∃ (j : Nat) (bs : List UInt8), j ≤ q.m ∧ jv = .int .i64 (j : Int) ∧ bs.length = q.m ∧ Fresh wo.heap.size 5 wv A1 q.m c1 (cb bs) ∧ Only A1 w3 wv) (fun jv _ => q.m - (intOf jv).toNat)
          case atStart => exact ⟨0, q.l, by omega, rfl, hq.len, hF3, Only.refl _ _⟩
          case round =>
            obtain ⟨j, bs, hj, rfl, hbl, hFj, hoj⟩ := hrel
            by_cases hlt3 : j < q.m
            · obtain ⟨g1, rfl, hg1, hg1l⟩ := hFj.spot_ (by omega)
              obtain ⟨g2, o2, e2, -, y, HY, hy, hcy⟩ := hFj.sees.byte hbl hlt3
              obtain ⟨rfl, rfl⟩ : g1 = g2 ∧ 0 = o2 := by simpa using e2
              rw [Nat.zero_add] at hcy
              have hzy : wr.frozen? ⟨g1, j, none⟩ = false := World.ownsRow.frozenAt hFj j
              have hxor : bits .xor .u8 (y.toNat : Int) 255 = ((y.toNat ^^^ 255 : Nat) : Int) := u8_xor_nat _ 255 y.toNat_lt (by decide)
              have hst : Fresh wo.heap.size 5 (wr.setCell ⟨g1, j, none⟩ (.int .u8 ((y.toNat ^^^ 255 : Nat) : Int))) (some ⟨g1, 0, none⟩) q.m c1 (cb (bs.set j (y ^^^ 255))) := by
                have h9 := (World.ownsRow.stored hFj j (.int .u8 ((y.toNat ^^^ 255 : Nat) : Int))).1
                have e9 : (cb bs).set j (.int .u8 ((y.toNat ^^^ 255 : Nat) : Int)) = cb (bs.set j (y ^^^ 255)) := by simp [cb, List.map_set, UInt8.toNat_xor]
                rw [e9] at h9
                exact h9
              go_wp2_with fail
              go_roundw
              case rel => exact ⟨j + 1, bs.set j (y ^^^ 255), by omega, by go_num, by simpa using hbl, hst, hoj.set _⟩
              case measure => simp [intOf]; omega
            · obtain rfl : j = q.m := by omega
              have hT4 := hT3.only hF3 ⟨K3, ck3, kr3, kb3', HK3.out⟩ hoj
              have hB34 := hoj.below hF3 hw3
              have hB4 := hB3.trans (hB34.mono hz)
              have hz4 := Nat.le_trans hz3 hoj.size
              clear hT3 hFj hF3 kr3 kb3' HK3 hB34 hoj hB3 hT2 hF2 hx3 hB2
              have hG := Get_new hT4 hz4 (nextC z q.l) (Fl.ctold_up HE.out.1.down HE.out.2)
              rw [show (nextC z q.l).b = q.l from rfl, hq.len] at hG
              go_wp2_with fail
              refine hG.mono ?_
              rintro e w5 ⟨A2, c2, m2, rfl, hm2, hF5, ⟨K5, ck5, kr5, kb5, ks5⟩, hT5, hC5⟩
              obtain ⟨hB5, hz5⟩ := hT4.base1 hz4 hB4 hC5
              clear hG
              go_wp2_with fail
              go_loopw [75] (fun jv wv => ∃ (j : Nat) (bs : List UInt8), j ≤ q.m ∧ jv = .int .i64 (j : Int) ∧ bs.length = q.m ∧ Fresh m2 5 wv A2 q.m c2 (cb bs) ∧ Only A2 w5 wv) (fun jv _ => q.m - (intOf jv).toNat)
              case atStart => exact ⟨0, q.l, by omega, rfl, hq.len, hF5, Only.refl _ _⟩
              case round =>
                obtain ⟨j, bs, hj, rfl, hbl, hFj, hoj⟩ := hrel
                by_cases hlt3 : j < q.m
                · obtain ⟨g1, rfl, hg1, hg1l⟩ := hFj.spot_ (by omega)
                  obtain ⟨g2, o2, e2, -, y, HY, hy, hcy⟩ := hFj.sees.byte hbl hlt3
                  obtain ⟨rfl, rfl⟩ : g1 = g2 ∧ 0 = o2 := by simpa using e2
                  rw [Nat.zero_add] at hcy
                  have hzy : wr.frozen? ⟨g1, j, none⟩ = false := World.ownsRow.frozenAt hFj j
                  have hxor : bits .xor .u8 (y.toNat : Int) 255 = ((y.toNat ^^^ 255 : Nat) : Int) := u8_xor_nat _ 255 y.toNat_lt (by decide)
                  have hst : Fresh m2 5 (wr.setCell ⟨g1, j, none⟩ (.int .u8 ((y.toNat ^^^ 255 : Nat) : Int))) (some ⟨g1, 0, none⟩) q.m c2 (cb (bs.set j (y ^^^ 255))) := by
                    have h9 := (World.ownsRow.stored hFj j (.int .u8 ((y.toNat ^^^ 255 : Nat) : Int))).1
                    have e9 : (cb bs).set j (.int .u8 ((y.toNat ^^^ 255 : Nat) : Int)) = cb (bs.set j (y ^^^ 255)) := by simp [cb, List.map_set, UInt8.toNat_xor]
                    rw [e9] at h9
                    exact h9
                  go_wp2_with fail
                  go_roundw
                  case rel => exact ⟨j + 1, bs.set j (y ^^^ 255), by omega, by go_num, by simpa using hbl, hst, hoj.set _⟩
                  case measure => simp [intOf]; omega
                · obtain rfl : j = q.m := by omega
                  have kb5' : Fresh W.heap.size 5 w5 K5 (nextC z q.l).b.length ck5 (cb (nextC z q.l).b) := by rw [show (nextC z q.l).b = q.l from rfl, hq.len]; exact kb5
                  have hT6 := hT5.only hF5 ⟨K5, ck5, kr5, kb5', fun g e1 e2 => by
                    have q1 := ks5 g e1
                    have q2 := (hF5.at_lt e2).1
                    omega⟩ hoj
                  have hB56 := hoj.below (hF5.lower hm2) hC5.size
                  have hB6 := hB5.trans (hB56.mono hz4)
                  have hz6 := Nat.le_trans hz5 hoj.size
                  clear hT5 hFj hF5 kr5 kb5 ks5 hB56 hoj hB5 hT4 hC5 hB4 hm2
                  obtain ⟨hUp, hlk⟩ := HE.out
                  have hRd := fun (w' : World) (x : Below wr.heap.size wr w') => dRead_at (hT6.dr.below x) hUp.down 0 128 (by omega)
                  have hL : (T.at_ 1 0 128).length = 128 := hT6.dr.at_len (by omega)
                  revert hRd hL
                  generalize T.at_ 1 0 128 = L
                  intro hRd hL
                  have HL := Lib.hid hL
                  have HRd := Lib.hid hRd
                  clear hL hRd
                  go_wp2_with fail
                  refine (HRd.out wr (Below.refl _ _)).mono ?_
                  rintro e w7 ⟨G1, rfl, hG1, hx7⟩
                  have hT7 := hT6.below hx7
                  obtain ⟨hB7, hz7⟩ := hT6.base0 hz6 hB6 hx7
                  go_wp2_with fail
                  refine (COpen_yes hT7.dr hUp.down hz7 _ hlk).mono ?_
                  rintro e w8 ⟨u, rfl, hu8, hx8, hut⟩
                  have hT8 := hT7.below hx8
                  have hcu : c ≠ u := by have := hT7.lt; omega
                  obtain ⟨hB8, hz8⟩ := hT7.base0 hz7 hB7 hx8
                  have hG18 := hG1.below hx8
                  have hx68 := Below.then_ hx7 hx8
                  go_wp2_with fail
                  refine (HRd.out w8 hx68).mono ?_
                  rintro e w9 ⟨G2, rfl, hG2, hx9⟩
                  have hT9 := hT8.below hx9
                  have hu9 := hu8.below hx9
                  obtain ⟨hB9, hz9⟩ := hT8.base0 hz8 hB8 hx9
                  have hG19 := hG18.below hx9
                  have hGu := Get_any hu9 hz9 (nextC z q.l) (Fl.ctold_up hUp.down hlk)
                  rw [show (nextC z q.l).b = q.l from rfl, hq.len] at hGu
                  obtain ⟨_, _, ur9⟩ := hu9.row
                  go_wp2_with fail
                  refine hGu.mono ?_
                  rintro e w10 ⟨A3, c3, rfl, hF10, hu10, hC10⟩
                  have hn9 := hu9.dr.nor
                  have hT10 := hT9.other hC10 (hn9.obj.ne ur9.1 (by decide)) (hn9.row.ne ur9.1 (by decide)) (hu9.dr.obj.ne ur9.1 (by decide)) hcu ur9.1 (by decide)
                  obtain ⟨hB10, hz10⟩ := hu9.base1 hz9 hB9 hC10
                  have hG110 := hG19.unlike2 ur9.1 ur9.1 (by decide) (by decide) hC10
                  have hG210 := hG2.unlike2 ur9.1 ur9.1 (by decide) (by decide) hC10
                  have hGc := Get_any hT10 hz10 (nextC z q.l) (Fl.ctold_up hUp.down hlk)
                  rw [show (nextC z q.l).b = q.l from rfl, hq.len] at hGc
                  obtain ⟨_, _, cr10⟩ := hT10.row
                  go_wp2_with fail
                  refine hGc.mono ?_
                  rintro e w11 ⟨A4, c4, rfl, hF11, hT11, hC11⟩
                  have hn10 := hT10.dr.nor
                  have hu11 := hu10.other hC11 (hn10.obj.ne cr10.1 (by decide)) (hn10.row.ne cr10.1 (by decide)) (hT10.dr.obj.ne cr10.1 (by decide)) (Ne.symm hcu) cr10.1 (by decide)
                  obtain ⟨hB11, hz11⟩ := hT10.base1 hz10 hB10 hC11
                  have hG111 := hG110.unlike2 cr10.1 cr10.1 (by decide) (by decide) hC11
                  have hG211 := hG210.unlike2 cr10.1 cr10.1 (by decide) (by decide) hC11
                  have hF1011 := hF10.unlike2 cr10.1 cr10.1 (by decide) (by decide) hC11
                  have hsb : ((nextC z q.l).s != -1) = true := by
                    have h9 : (nextC z q.l).s = (z.other : Int) := rfl
                    rw [h9]
                    simp
                  have hSW := SameWords_any (some ⟨G1, 0, none⟩) (some ⟨G2, 0, none⟩) 128 128 128 128 L L w11 hG111.sees hG211.sees HL.out HL.out (by omega)
                  clear hG1 hG18 hG19 hG110 hG2 hG210 hF10 hT10 hT9 hT8 hT7 hT6 hu8 hu9 hu10 hGu hGc HRd hx68 hx7 hx8 hx9 hB6 hB7 hB8 hB9 hB10 hC10 hC11 ur9 cr10 hn9 hn10
                  go_wp2_with fail
                  refine hSW.mono ?_
                  rintro e w12 ⟨rfl, qd, rfl⟩
                  have hdr := below_drewN' (Below.refl w11.heap.size w11) qd
                  have hT12 := hT11.below hdr
                  have hu12 := hu11.below hdr
                  have hF312 := hF1011.below hdr
                  have hF412 := hF11.below hdr
                  have hB12 := below_drewN' hB11 qd
                  have hq12 := HQ.out _ hB12
                  have hc12 := HCQ.out _ hB12
                  have hLL : (L == L) = true := by simp
                  have hz12 : W.heap.size ≤ (w11.drewN qd).heap.size := hz11
                  have hll : (q.l == q.l) = true := by simp
                  revert hT12 hu12 hF312 hF412 hB12 hq12 hc12 hz12
                  generalize w11.drewN qd = w12
                  intro hT12 hu12 hF312 hF412 hB12 hq12 hc12 hz12
                  clear hdr hT11 hu11 hF1011 hF11 hB11 hz11 hG111 hG211
                  go_wp2_with fail
                  refine (SameBytes_any A3 q.A c3 q.c q.m q.m q.l q.l w12 hF312.sees hq12.sees hq.len hq.len).mono ?_
                  rintro e w13 ⟨rfl, rfl⟩
                  go_wp2_with fail
                  refine (SameBytes_any A4 q.A c4 q.c q.m q.m q.l q.l w12 hF412.sees hq12.sees hq.len hq.len).mono ?_
                  rintro e w13 ⟨rfl, rfl⟩
                  obtain ⟨_, _, ur12⟩ := hu12.row
                  go_wp2_with fail
                  refine (CTurn_any hu12 hz12 (nextC z q.l) (Fl.ctold_up hUp.down hlk)).mono ?_
                  rintro e w15 ⟨rfl, hu15, hC15⟩
                  have hT15 := hT12.other hC15 (hu12.dr.nor.obj.ne ur12.1 (by decide)) (hu12.dr.nor.row.ne ur12.1 (by decide)) (hu12.dr.obj.ne ur12.1 (by decide)) hcu ur12.1 (by decide)
                  obtain ⟨hB15, hz15⟩ := hu12.base1 hz12 hB12 hC15
                  obtain ⟨_, _, cr15⟩ := hT15.row
                  go_wp2_with fail
                  refine (CTurn_any hT15 hz15 (nextC z q.l) (Fl.ctold_up hUp.down hlk)).mono ?_
                  rintro e w16 ⟨rfl, hT16, hC16⟩
                  have hu16 := hu15.other hC16 (hT15.dr.nor.obj.ne cr15.1 (by decide)) (hT15.dr.nor.row.ne cr15.1 (by decide)) (hT15.dr.obj.ne cr15.1 (by decide)) (Ne.symm hcu) cr15.1 (by decide)
                  obtain ⟨hB16, hz16⟩ := hT15.base1 hz15 hB15 hC16
                  go_wp2_with fail
                  go_roundw
                  case rel => exact ⟨i + 1, u, T, nextC z q.l, by omega, by go_num, rfl, hu16, Lib.hid ⟨hUp, hlk, hzt1⟩, hB16, hz16⟩
                  case measure => simp [intOf]; omega
        · have hcmp : decide ((244 : Int) < (q.m : Int)) = true := by simp; omega
          go_wp2_with fail
          go_roundw
          case rel => exact ⟨i + 1, c, S, z, by omega, by go_num, rfl, hT, Lib.hid ⟨HU.out.1, HU.out.2.1, Nat.le_succ_of_le HU.out.2.2⟩, hB, hz⟩
          case measure => simp [intOf]; omega
      · have hd1 : decide ((i : Int) < 8) = false := by simp; omega
        go_wp2_with fail
        refine (fin wo hB hz).mono ?_
        rintro e w2 ⟨rfl, hB2⟩
        go_wp2_with fail
        go_ret
        exact ⟨rfl, hB2⟩
    · go_wp2_with fail
      refine (fin wo hB hz).mono ?_
      rintro e w2 ⟨rfl, hB2⟩
      go_wp2_with fail
      go_ret
      exact ⟨rfl, hB2⟩
theorem copens_law (W : World) (a0 : Option Addr) (len0 cap0 : Nat) (o0 : List Pb) (s0 : Parts W a0 len0 o0) :
    Calls Try.prog 10 #[.slice a0 len0 cap0] W fun e w' => e = .returned (.bool true) ∧ Below W.heap.size W w' := copens_walk a0 len0 cap0 o0 W s0
end
end Go.Proofs.Ytdilpalggoapnaa
