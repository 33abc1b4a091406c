/-
  AreaOwn returns true for every input, and writes nothing that was there: the walk.
-/
import Derived.Test.YthigepkcgijbbaaAreaLaw
import Derived.Test.YthigepkcgijbbaaAreaOwnApp
import Derived.Test.YthigepkcgijbbaaAreaAwake
import Derived.Test.YthigepkcgijbbaaPartsOpen
import Derived.Laws.BitsAllLaws
namespace Go.Proofs.Ythigepkcgijbbaa
open Go.RowKit
set_option linter.unusedVariables false

/-- Writes nothing that was there but the block of this slice. -/
structure Only (A : Option Addr) (w w' : World) : Prop where
  os : w'.os = w.os
  tape : w'.tape = w.tape
  output : w'.output = w.output
  size : w.heap.size ≤ w'.heap.size
  keep : ∀ k, k < w.heap.size → A ≠ some ⟨k, 0, none⟩ → w'.heap[k]? = w.heap[k]?
theorem Fresh.at_ltO {w : World} {m n c g : Nat} {e : TypeId} {A : Option Addr} {xs : List Value} (h : Fresh m e w A n c xs) (hA : A = some ⟨g, 0, none⟩) : m ≤ g ∧ g < w.heap.size := by
  subst hA
  rcases h.2 with ⟨h1, _⟩ | ⟨g', cap, cur, h1, h2, h3, _⟩
  · cases h1
  · simp at h1
    obtain ⟨rfl, -⟩ := h1
    exact ⟨h2, (Array.getElem?_eq_some_iff.1 h3).1⟩
section
variable {w w' w0 : World} {base a d p b f m c n : Nat} {mk A B : Option Addr} {over : Bool} {S : Fl} {x : Ar} {ps qs : List Pb}
theorem Only.refl (A : Option Addr) (w : World) : Only A w w := ⟨rfl, rfl, rfl, Nat.le_refl _, fun _ _ _ => rfl⟩
theorem Only.set {g j : Nat} (h : Only (some ⟨g, 0, none⟩) w w') (u : Value) : Only (some ⟨g, 0, none⟩) w (w'.setCell ⟨g, j, none⟩ u) :=
  ⟨h.os, h.tape, h.output, by simpa [World.setCell] using h.size, fun k hk hA => (heap_setCell_other _ ⟨g, j, none⟩ k u (fun e => hA (by have e' : k = g := e; rw [e']))).trans (h.keep k hk hA)⟩
theorem Only.below {m : Nat} {e : TypeId} {n cp : Nat} {xs : List Value} (h : Only A w w') (hA : Fresh m e w A n cp xs) (hm : m ≤ w.heap.size) : Below m w w' :=
  ⟨h.os, h.tape, h.output, h.size, fun k hk => h.keep k (by omega) (fun e => by
    subst e
    have := (hA.at_ltO rfl).1
    omega)⟩
theorem Fresh.only {m : Nat} {e : TypeId} {n cp : Nat} {xs : List Value} (h : Fresh m e w A n cp xs) (o : Only B w w') (hne : ∀ g, A = some ⟨g, 0, none⟩ → B ≠ some ⟨g, 0, none⟩) : Fresh m e w' A n cp xs := by
  refine ⟨h.1, ?_⟩
  rcases h.2 with hn | ⟨g, cap, cur, hv, hb, hg, rest⟩
  · exact .inl hn
  · have hA : A = some ⟨g, 0, none⟩ := by simp at hv; exact hv.1
    exact .inr ⟨g, cap, cur, hv, hb, (o.keep g (Array.getElem?_eq_some_iff.1 hg).1 (hne g hA)).trans hg, rest⟩
theorem Fresh.off {m1 m2 : Nat} {T1 T2 : TypeId} {n1 n2 c1 c2 : Nat} {xs ys : List Value} (h1 : Fresh m1 T1 w A n1 c1 xs) (h2 : Fresh m2 T2 w B n2 c2 ys) (hT : T1 ≠ T2) : ∀ g, A = some ⟨g, 0, none⟩ → B ≠ some ⟨g, 0, none⟩ := by
  rintro g rfl rfl
  rcases h1.2 with ⟨q, _⟩ | ⟨g1, cap1, cur1, q1, _, q2, _⟩
  · cases q
  · rcases h2.2 with ⟨r, _⟩ | ⟨g2, cap2, cur2, r1, _, r2, _⟩
    · cases r
    · simp at q1 r1
      obtain ⟨rfl, -⟩ := q1
      obtain ⟨rfl, -⟩ := r1
      rw [q2] at r2
      simp at r2
      exact hT r2.2
theorem Fresh.before {m m2 : Nat} {T1 T2 : TypeId} {n1 n2 c1 c2 : Nat} {xs ys : List Value} (h1 : Fresh m T1 w A n1 c1 xs) (h2 : Fresh m2 T2 w0 B n2 c2 ys) (hm : w0.heap.size ≤ m) : ∀ g, A = some ⟨g, 0, none⟩ → B ≠ some ⟨g, 0, none⟩ := fun g e1 e2 => by
  have q1 := (h1.at_ltO e1).1
  have q2 := (h2.at_ltO e2).2
  omega
/-- Another list of bytes is written; records and the area stay. -/
theorem Recs.only {m n cp cc : Nat} {xs : List Value} {R : Option Addr} (h : Recs base w R cc qs) (hB : Fresh m 5 w B n cp xs) (hne : ∀ r ∈ qs, ∀ g, r.A = some ⟨g, 0, none⟩ → B ≠ some ⟨g, 0, none⟩) (o : Only B w w') : Recs base w' R cc qs :=
  ⟨h.row.only o (h.row.off hB (by decide)), fun r hr => (h.each r hr).only o (hne r hr)⟩
theorem ArAt.only {m2 n cp : Nat} {xs : List Value} (h : ArAt base w mk a d p b f m S x over A c ps) (hB : Fresh m2 5 w B n cp xs) (hne : ∀ r ∈ ps, ∀ g, r.A = some ⟨g, 0, none⟩ → B ≠ some ⟨g, 0, none⟩) (o : Only B w w') : ArAt base w' mk a d p b f m S x over A c ps :=
  have hd := h.dr
  ⟨⟨⟨hd.nor.obj.only o (hd.nor.obj.off hB (by decide)), hd.nor.row.only o (hd.nor.row.off hB (by decide)), hd.nor.ne, hd.nor.n_le, hd.nor.left_le⟩, hd.obj.only o (hd.obj.off hB (by decide)), hd.fits, hd.some_⟩, h.obj.only o (h.obj.off hB (by decide)), h.recs.only hB hne o, h.is, h.ok, h.many⟩
/-- The area is written; bytes beside it, and other records, stay. -/
theorem Fresh.but4u {m2 n cp : Nat} {xs : List Value} (h : Fresh m2 5 w B n cp xs) (hA : ArAt base w (some ⟨a, 0, none⟩) a d p b f m S x over A c ps) (y : But4 a p b (Value.slice A ps.length c).ownBlock w w') : Fresh m2 5 w' B n cp xs :=
  h.stay fun k hk hlt => y.keep k hlt (fun e => h.far hA.obj (by decide) (e ▸ hk)) (fun e => h.far hA.dr.nor.obj (by decide) (e ▸ hk)) (fun e => h.far hA.dr.nor.row (by decide) (e ▸ hk)) (fun e => by
    rcases fresh_unlike h hA.recs.row (by decide) with h1 | h1
    · rw [h1] at hk; cases hk
    · exact h1 (hk.trans e.symm))
theorem Recs.but4w {B2 cB : Nat} (h : Recs B2 w B cB qs) (hA : ArAt base w (some ⟨a, 0, none⟩) a d p b f m S x over A c ps) (hdj : ∀ k, (Value.slice A ps.length c).ownBlock = some k → (Value.slice B qs.length cB).ownBlock ≠ some k) (y : But4 a p b (Value.slice A ps.length c).ownBlock w w') : Recs B2 w' B cB qs :=
  ⟨h.row.stay fun k hk hlt => y.keep k hlt (fun e => h.row.far hA.obj (by decide) (e ▸ hk)) (fun e => h.row.far hA.dr.nor.obj (by decide) (e ▸ hk)) (fun e => h.row.far hA.dr.nor.row (by decide) (e ▸ hk)) (fun e => hdj k e hk),
    fun q hq => (h.each q hq).but4u hA y⟩
theorem ArAt.growsO {row : Option Nat} {B2 n2 cc : Nat} {R : Option Addr} {ys : List Value} (h : ArAt base w mk a d p b f m S x over A c ps) (hg : w.grownBy w' row) (hR : Fresh B2 27 w R n2 cc ys) (hrow : row = (Value.slice R n2 cc).ownBlock) (hdj : ∀ k, (Value.slice A ps.length c).ownBlock = some k → (Value.slice R n2 cc).ownBlock ≠ some k) : ArAt base w' mk a d p b f m S x over A c ps := by
  subst hrow
  have hne : (Value.slice A ps.length c).ownBlock = none ∨ (Value.slice A ps.length c).ownBlock ≠ (Value.slice R n2 cc).ownBlock := by
    cases h1 : (Value.slice A ps.length c).ownBlock with
    | none => exact .inl rfl
    | some k => exact .inr fun e => hdj k h1 e.symm
  exact ⟨h.dr.grows hg hR rfl, World.ownsRow.kept h.obj hg (fresh_unlike h.obj hR (by decide)), ⟨World.ownsRow.kept h.recs.row hg hne, fun q hq => World.ownsRow.kept (h.recs.each q hq) hg (fresh_unlike (h.recs.each q hq) hR (by decide))⟩, h.is, h.ok, h.many⟩
theorem Fresh.put8 {B2 n cp g : Nat} {l : List UInt8} (h : Fresh B2 5 w (some ⟨g, 0, none⟩) n cp (cb l)) (j : Nat) (y : UInt8) : Fresh B2 5 (w.setCell ⟨g, j, none⟩ (.int .u8 ((y.toNat ^^^ 255 : Nat) : Int))) (some ⟨g, 0, none⟩) n cp (cb (l.set j (y ^^^ 255))) := by
  have h9 := (World.ownsRow.stored h j (.int .u8 ((y.toNat ^^^ 255 : Nat) : Int))).1
  have e9 : (cb l).set j (.int .u8 ((y.toNat ^^^ 255 : Nat) : Int)) = cb (l.set j (y ^^^ 255)) := by simp [cb, List.map_set, UInt8.toNat_xor]
  rw [e9] at h9
  exact h9
/-- A byte is written somewhere: bytes stay bytes. -/
theorem Fresh.poke {B2 n cp : Nat} {l : List UInt8} (h : Fresh B2 5 w A n cp (cb l)) (g j : Nat) (y : UInt8) : ∃ l' : List UInt8, l'.length = l.length ∧ Fresh B2 5 (w.setCell ⟨g, j, none⟩ (.int .u8 ((y.toNat ^^^ 255 : Nat) : Int))) A n cp (cb l') := by
  by_cases hA : A = some ⟨g, 0, none⟩
  · subst hA
    exact ⟨_, by simp, h.put8 j y⟩
  · exact ⟨l, rfl, h.only ((Only.refl (some ⟨g, 0, none⟩) w).set _) (fun g' e1 e2 => hA (by rw [e1, ← e2]))⟩
/-- A list of byte strings in memory of its own, whatever bytes they are. -/
structure Some8 (B2 : Nat) (w : World) (A : Option Addr) (c : Nat) (rs : List Pb) : Prop where
  row : Fresh B2 27 w A rs.length c (rs.map Pb.cell)
  each : ∀ r ∈ rs, ∃ l' : List UInt8, l'.length = r.m ∧ Fresh B2 5 w r.A r.m r.c (cb l')
theorem Some8.poke {B2 g j cp n : Nat} {rs : List Pb} {l : List UInt8} (h : Some8 B2 w A c rs) (hF : Fresh B2 5 w (some ⟨g, 0, none⟩) n cp (cb l)) (y : UInt8) : Some8 B2 (w.setCell ⟨g, j, none⟩ (.int .u8 ((y.toNat ^^^ 255 : Nat) : Int))) A c rs :=
  ⟨h.row.only ((Only.refl (some ⟨g, 0, none⟩) w).set _) (h.row.off hF (by decide)), fun r hr => by
    obtain ⟨l1, h1, h2⟩ := h.each r hr
    obtain ⟨l2, h3, h4⟩ := h2.poke g j y
    exact ⟨l2, h3.trans h1, h4⟩⟩
set_option maxHeartbeats 16000000 in
set_option maxRecDepth 100000 in
theorem aown_walk (A0 : Option Addr) (N C : Nat) (ls : List Pb) (W : World) (hf : Parts W A0 N ls) :
    Calls Try.prog 12 #[.slice A0 N C] W fun e w' => e = .returned (.bool true) ∧ Below W.heap.size W w' := by
  have HF := Lib.hid hf
  have HG0 := Lib.hid (made_good 3 (by omega))
  clear hf
  go_enter Try.func12, Try.ntmps12
  go_wp2_with fail
  refine (made8_any 3 (by omega) (by omega) W).mono ?_
  rintro e w1 ⟨p, b, d, a, A1, c1, ps1, rfl, hA1, hB1⟩
  have hz1 := hB1.size
  go_wp2_with fail
  go_loopw [7, 8] (fun wv iv wr => ∃ (i cB c : Nat) (B A : Option Addr) (qs ps : List Pb) (S : Fl) (x : Ar), i ≤ 8 ∧ iv = .int .i64 (i : Int) ∧ wv = .slice B qs.length cB ∧ ArAt W.heap.size wr (some ⟨a, 0, none⟩) a d p b 1 3 S x false A c ps ∧ Recs W.heap.size wr B cB qs ∧ (∀ k, (Value.slice A ps.length c).ownBlock = some k → (Value.slice B qs.length cB).ownBlock ≠ some k) ∧ Hid (AGood S 1 3 x ∧ S.armed = false ∧ x.L = qs.map Pb.l) ∧ Below W.heap.size W wr ∧ W.heap.size ≤ wr.heap.size) (fun _ iv _ => 9 - (intOf iv).toNat)
  case atStart => exact ⟨0, 0, c1, none, A1, [], ps1, Fl.made (3 + 1) 0, emptyAr 3, by omega, rfl, rfl, hA1, Recs.nil _ _, (fun k _ (h : (none : Option Nat) = some k) => by cases h), Lib.hid ⟨HG0.out, rfl, rfl⟩, hB1, hz1⟩
  case round =>
    obtain ⟨i, cB, c, B, A, qs, ps, S, x, hi, rfl, rfl, hA, hQ, hdj, HX, hB, hz⟩ := hrel
    obtain ⟨wo, rfl⟩ : ∃ wo, wo = wr := ⟨wr, rfl⟩
    clear hA1 hB1 hz1 HG0 ps1
    have hqn : qs.length ≤ 100 := by
      have h1 := congrArg List.length HX.out.2.2
      rw [List.length_map] at h1
      have := hA.ok.many
      omega
    obtain ⟨Rm, hRm⟩ : ∃ Rm, roomI x.left = Rm := ⟨_, rfl⟩
    have hRb : -1 ≤ Rm ∧ Rm ≤ 4096 := by
      rw [← hRm]
      unfold roomI
      split
      · omega
      · split <;> omega
    obtain ⟨hRb1, hRb2⟩ := hRb
    have HRM := Lib.hid hRm
    clear hRm
    by_cases hlt : i < N
    · by_cases hlt2 : i < 8
      · have hd1 : decide ((i : Int) < 8) = true := by simp; omega
        obtain ⟨g, o, rfl, pk, HPK, hpk, hck0⟩ := HF.out.at_ hlt
        have hgW : g < W.heap.size := World.block_lt_of_cell? _ _ hck0
        have HCK := Lib.hid (fun (w' : World) (y : Below W.heap.size W w') => (y.cell (p := ⟨g, o + i, none⟩) hgW).trans hck0)
        have HPS := Lib.hid hpk.sees
        have HPL := Lib.hid hpk.len
        have hck := HCK.out _ hB
        have hq1 : ∀ nq, Calls Try.prog 56 #[.pointer (some ⟨a, 0, none⟩)] (wo.drewN nq) fun e w' => e = .returned (.int .i64 Rm) ∧ w' = wo.drewN nq := fun nq => ARoom_any (hA.below (below_drewN' (Below.refl _ _) nq)) Rm HRM.out
        clear hck0 hpk
        by_cases hlen : pk.m ≤ 100
        · have hcmp : decide ((100 : Int) < (pk.m : Int)) = false := by simp; omega
          by_cases hrm : (pk.m : Int) ≤ Rm
          · have hcmp2 : decide (Rm < (pk.m : Int)) = false := by simp; omega
            as_aux_lemma =>
              go_wp2_with fail
              go_quiet ((go_at_call 56; exact Calls.quiet_of_same (hq1 _)))
              have hBq := below_drewN' (Below.refl wo.heap.size wo) nq
              obtain ⟨w2, hw2⟩ : ∃ w2, wo.drewN nq = w2 := ⟨_, rfl⟩
              rw [hw2] at hBq ⊢
              have hA2 := hA.below hBq
              have hQ2 := hQ.below hBq
              have hB2 := hB.trans (hBq.mono hz)
              have hz2 := Nat.le_trans hz hBq.size
              have hck := HCK.out _ hB2
              obtain ⟨T, r, x', over', e1, e2, hTok, e4⟩ := append_law HX.out.1 pk.l (by rw [HPL.out]; omega)
              have HXL := Lib.hid HX.out.2.2
              rcases e4 with ⟨-, -, -, -, h9⟩ | ⟨rfl, rfl, hxL, hx', f1, f2, f3⟩ | ⟨-, -, -, h9, -⟩
              · exfalso
                rw [HPL.out] at h9
                have h10 := HRM.out
                unfold nW at h9
                unfold roomI at h10
                split at h10
                · omega
                · split at h10 <;> omega
              · have HE1 := Lib.hid e1
                have HX2 : Hid (AGood T 1 3 x' ∧ T.armed = false ∧ x'.L = qs.map Pb.l ++ [pk.l]) := Lib.hid ⟨f1, f2 HX.out.2.1, by rw [hxL, HXL.out]⟩
                clear hA hQ hB hz hBq hw2 e1 e2 hxL hx' f1 f2 f3 hTok hq1 HX
                have hs2 : Sees w2 w2.heap.size pk.A (cb pk.l) := (HPS.out.keep fun q hq => hB2.cell hq).more hz2
                go_wp2_with fail
                refine (CopyBytes_any pk.A pk.c pk.m pk.l w2 hs2 HPL.out (by omega)).mono ?_
                rintro e w3 ⟨A3, c3, rfl, hF3, hx3⟩
                obtain ⟨l1, l2, -, -⟩ := hA2.dr.nor.lt
                have hoff : Off p b w3 A3 (cb pk.l) := fun w' y => (hF3.butC y l1 l2).sees
                have hA3 := hA2.below hx3
                have hQ3 := hQ2.below hx3
                have hB3 := hB2.trans (hx3.mono hz2)
                have hz3 := Nat.le_trans hz2 hx3.size
                have hck := HCK.out _ hB3
                have hold : ∀ r ∈ ps, ∀ g, r.A = some ⟨g, 0, none⟩ → A3 ≠ some ⟨g, 0, none⟩ := fun r hr g' e1 e2 => (hF3.before (hA2.recs.each r hr) (Nat.le_refl _)) g' e2 e1
                have holdq : ∀ r ∈ qs, ∀ g, r.A = some ⟨g, 0, none⟩ → A3 ≠ some ⟨g, 0, none⟩ := fun r hr g' e1 e2 => (hF3.before (hQ2.each r hr) (Nat.le_refl _)) g' e2 e1
                clear hA2 hQ2 hB2 hs2 l1 l2
                go_wp2_with fail
                refine (AAppend_own hA3 hz3 A3 pk.m c3 pk.l hoff HPL.out (by omega) T 0 x' false HE1.out).mono ?_
                rintro e w4 ⟨rfl, A4, c4, ps4, hA4, hb4, ho4, hn4⟩
                have hlow4 := But4.low hA3 hz3 hb4
                have hB4 := hB3.trans hlow4
                have hz4 := Nat.le_trans hz3 hb4.size
                have hck := HCK.out _ hB4
                have hF4 := hF3.but4u hA3 hb4
                have hQ4 := hQ3.but4w hA3 hdj hb4
                have hdj4 : ∀ k, (Value.slice A4 ps4.length c4).ownBlock = some k → (Value.slice B qs.length cB).ownBlock ≠ some k := fun k h1 h2 => by
                  rcases ho4 with h3 | h3
                  · exact hdj k (h3 ▸ h1) h2
                  · have := h3 k h1
                    have := (hQ3.row.own h2).2
                    omega
                have hnew4 : ∀ r ∈ ps4, ∀ g, r.A = some ⟨g, 0, none⟩ → A3 ≠ some ⟨g, 0, none⟩ := fun r hr => by
                  rcases hn4 with rfl | ⟨q, rfl, hq⟩
                  · exact hold r hr
                  · rcases List.mem_append.1 hr with h1 | h1
                    · exact hold r h1
                    · simp at h1
                      subst h1
                      exact hq.before hF3 (Nat.le_refl _)
                have h34 := hb4.size
                have hs4 : Sees w4 w4.heap.size pk.A (cb pk.l) := (HPS.out.keep fun q hq => hB4.cell hq).more hz4
                clear hA3 hQ3 hB3 hz3 hoff hold hb4 ho4 hn4 hlow4 hdj HE1
                go_wp2_with fail
                refine (CopyBytes_any pk.A pk.c pk.m pk.l w4 hs4 HPL.out (by omega)).mono ?_
                rintro e w5 ⟨A5, c5, rfl, hF5, hx5⟩
                have hba := below_alloc w5 (.cells #[.slice A5 pk.m c5] 27)
                have hx6 := Below.then_ hx5 hba
                have hQ6 := hQ4.below hx6
                have hcell : (w5.alloc (.cells #[.slice A5 pk.m c5] 27)).cell? ⟨w5.heap.size, 0, none⟩ = some (.slice A5 pk.m c5) := by
                  rw [World.cell?_alloc_mark]; rfl
                have hz6 := Nat.le_trans hz4 hx6.size
                have hrow6 := hQ6.row
                go_wp2_with (at_builtin; refine wpList_one_at rfl (.tmp 63) (.tmp 69) 28 27 (.slice none 0 0) 24 rfl Try.underlying28 (by kernel_rfl) rfl (by omega) W.heap.size B qs.length cB w5.heap.size (qs.map Pb.cell) (.slice A5 pk.m c5) rfl rfl hrow6 hcell rfl (by omega) hz6 ?_; intro A9 c9 w9 hF9 hgr9 hat9)
                have hA6 := hA4.below hx6
                have hA9 := hA6.growsO hgr9 hrow6 rfl hdj4
                have hI9 : Fresh w2.heap.size 5 w9 A3 pk.m c3 (cb pk.l) := World.ownsRow.kept (hF4.below hx6) hgr9 (fresh_unlike (hF4.below hx6) hrow6 (by decide))
                have hN9 : Fresh w4.heap.size 5 w9 A5 pk.m c5 (cb pk.l) := World.ownsRow.kept (hF5.below hba) hgr9 (fresh_unlike (hF5.below hba) hrow6 (by decide))
                have hdj9 : ∀ k, (Value.slice A4 ps4.length c4).ownBlock = some k → (Value.slice A9 (qs.length + 1) c9).ownBlock ≠ some k := fun k h1 h2 => by
                  rcases hat9 with h3 | h3
                  · exact hdj4 k h1 (h3 ▸ h2)
                  · have := (hA6.recs.row.own h1).2
                    rw [h3] at h2
                    have h4 := Option.some.inj h2
                    omega
                obtain ⟨qs9, hqs9⟩ : ∃ qs9, qs9 = qs ++ [(⟨A5, pk.m, c5, pk.l⟩ : Pb)] := ⟨_, rfl⟩
                have hlen9 : qs.length + 1 = qs9.length := by rw [hqs9]; simp
                have hQ9 : Recs W.heap.size w9 A9 c9 qs9 := by
                  refine ⟨?_, fun r hr => ?_⟩
                  · rw [← hlen9, hqs9, List.map_append]
                    exact hF9
                  · rw [hqs9] at hr
                    rcases List.mem_append.1 hr with h1 | h1
                    · exact World.ownsRow.kept (hQ6.each r h1) hgr9 (fresh_unlike (hQ6.each r h1) hrow6 (by decide))
                    · simp at h1
                      subst h1
                      exact hN9.lower hz4
                have hneQ : ∀ r ∈ qs9, ∀ g, r.A = some ⟨g, 0, none⟩ → A3 ≠ some ⟨g, 0, none⟩ := fun r hr => by
                  rw [hqs9] at hr
                  rcases List.mem_append.1 hr with h1 | h1
                  · exact holdq r h1
                  · simp at h1
                    subst h1
                    exact hN9.before hF3 h34
                have hB9 : Below W.heap.size W w9 := (hB4.trans (hx6.mono hz4)).grown hgr9 hz6 (fun k hk => (hrow6.own hk).1)
                have hz9 : W.heap.size ≤ w9.heap.size := Nat.le_trans hz6 hgr9.size
                have hz29 : w2.heap.size ≤ w9.heap.size := Nat.le_trans (Nat.le_trans hx3.size h34) (Nat.le_trans hx6.size hgr9.size)
                have HQ9 : Hid (qs9.map Pb.l = qs.map Pb.l ++ [pk.l]) := Lib.hid (by rw [hqs9, List.map_append]; rfl)
                rw [hlen9] at hdj9 ⊢
                clear hqs9 hlen9 hF9 hgr9 hat9 hN9 hA6 hcell hrow6 hQ6 hx6 hba hF5 hx5 hA4 hQ4 hF4 hB4 hz4 hs4 hdj4 holdq hz6 hF3 hx3
                go_wp2_with fail
                go_loopw [73] (fun jv wv => ∃ (j : Nat) (bs : List UInt8), j ≤ pk.m ∧ jv = .int .i64 (j : Int) ∧ bs.length = pk.m ∧ Fresh w2.heap.size 5 wv A3 pk.m c3 (cb bs) ∧ Only A3 w9 wv) (fun jv _ => pk.m - (intOf jv).toNat)
                case atStart => exact ⟨0, pk.l, by omega, rfl, HPL.out, hI9, Only.refl _ _⟩
                case round =>
                  obtain ⟨j, bs, hj, rfl, hbl, hFj, hoj⟩ := hrel
                  by_cases hlt3 : j < pk.m
                  · as_aux_lemma =>
                      obtain ⟨g1, rfl, hg1, hg1l⟩ := hFj.spot_ (by omega)
                      obtain ⟨g2, o2, e2, -, y, HY, hy, hcy⟩ := hFj.sees.byte hbl hlt3
                      obtain ⟨rfl, rfl⟩ : g1 = g2 ∧ 0 = o2 := by simpa using e2
                      rw [Nat.zero_add] at hcy
                      have hzy : wr.frozen? ⟨g1, j, none⟩ = false := World.ownsRow.frozenAt hFj j
                      have hxor : bits .xor .u8 (y.toNat : Int) 255 = ((y.toNat ^^^ 255 : Nat) : Int) := u8_xor_nat _ 255 y.toNat_lt (by decide)
                      have hst := hFj.put8 j y
                      go_wp2_with fail
                      go_roundw
                      case rel => exact ⟨j + 1, bs.set j (y ^^^ 255), by omega, by go_num, by simpa using hbl, hst, hoj.set _⟩
                      case measure => simp [intOf]; omega
                  · obtain rfl : j = pk.m := by omega
                    have hA10 := hA9.only hI9 hnew4 hoj
                    have hQ10 := hQ9.only hI9 hneQ hoj
                    have hB10 := hB9.trans (hoj.below (hI9.lower hz2) hz9)
                    have hz10 := Nat.le_trans hz9 hoj.size
                    clear hA9 hQ9 hB9 hz9 hoj hFj hI9 hbl hnew4 hneQ
                    go_wp2_with fail
                    refine (All_any hA10).mono ?_
                    rintro e w11 ⟨A11, c11, rs, rfl, hR11, hrl, hB11⟩
                    have hE11 : Some8 wr.heap.size w11 A11 c11 rs := ⟨hR11.row, fun r hr => ⟨r.l, by simpa using (hR11.each r hr).len, hR11.each r hr⟩⟩
                    have hrm : ∀ r ∈ rs, r.m ≤ 4096 := fun r hr => by
                      have h1 : r.l ∈ x'.L := by rw [← hrl]; exact List.mem_map_of_mem hr
                      have h2 := hA10.ok.small r.l h1
                      have h3 : r.l.length = r.m := by simpa using (hR11.each r hr).len
                      omega
                    have hrn : rs.length ≤ 1000 := by
                      have h1 := congrArg List.length hrl
                      rw [List.length_map] at h1
                      have := hA10.ok.many
                      omega
                    obtain ⟨wa, rfl⟩ : ∃ wa, wa = wr := ⟨wr, rfl⟩
                    clear hR11 hrl
                    go_wp2_with fail
                    go_loopw [86] (fun jv wv => ∃ (j : Nat), j ≤ rs.length ∧ jv = .int .i64 (j : Int) ∧ Some8 wa.heap.size wv A11 c11 rs ∧ Below wa.heap.size wa wv) (fun jv _ => rs.length - (intOf jv).toNat)
                    case atStart => exact ⟨0, by omega, rfl, hE11, hB11⟩
                    case round =>
                      obtain ⟨j, hj, rfl, hE, hb⟩ := hrel
                      clear hE11 hB11
                      by_cases hlt4 : j < rs.length
                      · as_aux_lemma =>
                          obtain ⟨g11, rfl, -, -⟩ := hE.row.spot_ (by omega)
                          obtain ⟨⟨RA, rm, rc, rl⟩, hr⟩ : ∃ r, rs[j]? = some r := ⟨_, List.getElem?_eq_getElem hlt4⟩
                          have hmem := List.mem_of_getElem? hr
                          have hrm2 : rm ≤ 4096 := hrm _ hmem
                          have hcr : wr.cell? ⟨g11, j, none⟩ = some (.slice RA rm rc) := by
                            obtain ⟨g', o', e', -, hc'⟩ := hE.row.sees (by simp; omega)
                            simp at e'
                            obtain ⟨rfl, rfl⟩ := e'
                            have := hc' j (.slice RA rm rc) (by rw [List.getElem?_map, hr]; rfl)
                            rwa [Nat.zero_add] at this
                          obtain ⟨wb, rfl⟩ : ∃ wb, wb = wr := ⟨wr, rfl⟩
                          go_wp2_with fail
                          go_loopw [92] (fun kv wv => ∃ (k : Nat), k ≤ rm ∧ kv = .int .i64 (k : Int) ∧ Some8 wa.heap.size wv (some ⟨g11, 0, none⟩) c11 rs ∧ Below wa.heap.size wa wv) (fun kv _ => rm - (intOf kv).toNat)
                          case atStart => exact ⟨0, by omega, rfl, hE, hb⟩
                          case round =>
                            obtain ⟨k, hk, rfl, hE2, hb2⟩ := hrel
                            clear hE hb hcr
                            by_cases hlt5 : k < rm
                            · obtain ⟨bs, hbl, hFk⟩ := hE2.each _ hmem
                              simp only at hbl hFk
                              obtain ⟨g1, rfl, hg1, hg1l⟩ := hFk.spot_ (by omega)
                              obtain ⟨g2, o2, e2, -, y, HY, hy, hcy⟩ := hFk.sees.byte hbl hlt5
                              obtain ⟨rfl, rfl⟩ : g1 = g2 ∧ 0 = o2 := by simpa using e2
                              rw [Nat.zero_add] at hcy
                              have hzy : wr.frozen? ⟨g1, k, none⟩ = false := World.ownsRow.frozenAt hFk k
                              have hxor : bits .xor .u8 (y.toNat : Int) 255 = ((y.toNat ^^^ 255 : Nat) : Int) := u8_xor_nat _ 255 y.toNat_lt (by decide)
                              have hst := hE2.poke (j := k) hFk y
                              have hb3 := hb2.trans (((Only.refl (some ⟨g1, 0, none⟩) wr).set (j := k) (.int .u8 ((y.toNat ^^^ 255 : Nat) : Int))).below hFk hb2.size)
                              go_wp2_with fail
                              go_roundw
                              case rel => exact ⟨k + 1, by omega, by go_num, hst, hb3⟩
                              case measure => simp [intOf]; omega
                            · obtain rfl : k = rm := by omega
                              go_wp2_with fail
                              go_roundw
                              case rel => exact ⟨j + 1, by omega, by go_num, hE2, hb2⟩
                              case measure => simp [intOf]; omega
                      · obtain rfl : j = rs.length := by omega
                        have hA12 := hA10.below hb
                        have hQ12 := hQ10.below hb
                        have hB12 := hB10.trans (hb.mono hz10)
                        have hz12 := Nat.le_trans hz10 hb.size
                        have HX3 : Hid (AGood T 1 3 x' ∧ T.armed = false ∧ x'.L = qs9.map Pb.l) := Lib.hid ⟨HX2.out.1, HX2.out.2.1, by rw [HQ9.out]; exact HX2.out.2.2⟩
                        clear hA10 hQ10 hB10 hz10 hE hb
                        go_wp2_with fail
                        go_roundw
                        case rel => exact ⟨i + 1, c9, c4, A9, A4, qs9, ps4, T, x', by omega, by go_num, rfl, hA12, hQ12, hdj9, HX3, hB12, hz12⟩
                        case measure => simp [intOf]; omega
              · rw [HX.out.2.1] at h9
                cases h9
          · have hcmp2 : decide (Rm < (pk.m : Int)) = true := by simp; omega
            as_aux_lemma =>
              go_wp2_with fail
              go_quiet ((go_at_call 56; exact Calls.quiet_of_same (hq1 _)))
              have hBq := below_drewN' (Below.refl wo.heap.size wo) nq
              go_wp2_with fail
              go_roundw
              case rel => exact ⟨i + 1, cB, c, B, A, qs, ps, S, x, by omega, by go_num, rfl, hA.below hBq, hQ.below hBq, hdj, HX, hB.trans (hBq.mono hz), Nat.le_trans hz hBq.size⟩
              case measure => simp [intOf]; omega
        · have hcmp : decide ((100 : Int) < (pk.m : Int)) = true := by simp; omega
          as_aux_lemma =>
            go_wp2_with fail
            go_quiet ((go_at_call 56; exact Calls.quiet_of_same (hq1 _)))
            have hBq := below_drewN' (Below.refl wo.heap.size wo) nq
            go_wp2_with fail
            go_roundw
            case rel => exact ⟨i + 1, cB, c, B, A, qs, ps, S, x, by omega, by go_num, rfl, hA.below hBq, hQ.below hBq, hdj, HX, hB.trans (hBq.mono hz), Nat.le_trans hz hBq.size⟩
            case measure => simp [intOf]; omega
      · have hd1 : decide ((i : Int) < 8) = false := by simp; omega
        as_aux_lemma =>
          obtain ⟨hg, har, hxl⟩ := HX.out
          have HOP := Lib.hid (aopen_good hg)
          have HDN := Lib.hid hg.live.down
          have HXL := Lib.hid hxl
          have hL : (S.at_ 1 0 192).length = 192 := hA.dr.at_len (by omega)
          have HRd := Lib.hid (fun (w' : World) (B2 : Nat) (y : DrAt B2 w' d p b 1 3 S) => dRead_ok y HDN.out 0 192 (by omega))
          clear HX hg har hxl
          revert hL HRd
          generalize S.at_ 1 0 192 = L
          intro hL HRd
          have HLL : Hid ((L == L) = true) := Lib.hid (by simp)
          have HL := Lib.hid hL
          have hwx : wo.heap.size ≤ wo.heap.size := Nat.le_refl _
          clear hL
          go_wp2_with fail
          refine (HRd.out _ _ hA.dr).mono ?_
          rintro e w2 ⟨A2, c2, rfl, hF2, hx2⟩
          have hA2 := hA.below hx2
          have hQ2 := hQ.below hx2
          have hB2 := hB.trans (hx2.mono hz)
          have hz2 := Nat.le_trans hz hx2.size
          obtain ⟨l1, l2, -, -⟩ := hA.dr.nor.lt
          clear hA hQ hB hz
          go_wp2_with fail
          refine (AOpen_any hA2.dr (by omega) hz2 _ 0 x HOP.out).mono ?_
          rintro e w3 ⟨hx3, ⟨-, a3, A3, c3, ps3, rfl, hA3, -, -⟩ | ⟨h0, -⟩⟩
          case inr => exact absurd rfl h0
          obtain ⟨-, -, l3, l4⟩ := hA2.dr.nor.lt
          have hF3 := hF2.butC hx3 l1 l2
          have hAa3 := hA2.turn hx3 hA3.dr
          have hQ3 := hQ2.but4w hA2 hdj (But4.of_but hx3 a _)
          have hB3 := hB2.trans (hx3.below l3 l4 hz2)
          have hz3 := Nat.le_trans hz2 hx3.size
          clear hA2 hQ2 hB2 hz2 hF2 hx2 hx3
          go_wp2_with fail
          refine (HRd.out _ _ hA3.dr).mono ?_
          rintro e w4 ⟨A4, c4, rfl, hF4, hx4⟩
          have hF34 := hF3.below hx4
          have hA4 := hA3.below hx4
          have hAa4 := hAa3.below hx4
          have hQ4 := hQ3.below hx4
          have hB4 := hB3.trans (hx4.mono hz3)
          have hz4 := Nat.le_trans hz3 hx4.size
          clear hA3 hAa3 hQ3 hB3 hz3 hF3 hx4
          go_wp2_with fail
          refine (SameWords_any A2 A4 c2 c4 192 192 L L w4 hF34.sees hF4.sees HL.out HL.out (by omega)).mono ?_
          rintro e w5 ⟨rfl, k5, rfl⟩
          have hx5 := below_drewN' (Below.refl w4.heap.size w4) k5
          have hA5 := hA4.below hx5
          have hAa5 := hAa4.below hx5
          have hQ5 := hQ4.below hx5
          have hB5 := hB4.trans (hx5.mono hz4)
          have hz5 := Nat.le_trans hz4 hx5.size
          rw [HLL.out]
          clear hA4 hAa4 hQ4 hB4 hz4 hF34 hF4 hx5
          go_wp2_with fail
          refine (same8_any hAa5 (by omega) B qs.length cB qs hQ5.parts true (by rw [HXL.out]; simp)).mono ?_
          rintro e w6 ⟨rfl, hx6⟩
          have hA6 := hA5.below hx6
          have hAa6 := hAa5.below hx6
          have hQ6 := hQ5.below hx6
          have hB6 := hB5.trans (hx6.mono hz5)
          have hz6 := Nat.le_trans hz5 hx6.size
          clear hA5 hAa5 hQ5 hB5 hz5 hx6
          go_wp2_with fail
          refine (same8_any hA6 (by omega) B qs.length cB qs hQ6.parts true (by rw [HXL.out]; simp)).mono ?_
          rintro e w7 ⟨rfl, hx7⟩
          have hA7 := hA6.below hx7
          have hAa7 := hAa6.below hx7
          have hB7 := hB6.trans (hx7.mono hz6)
          have hz7 := Nat.le_trans hz6 hx7.size
          clear hA6 hAa6 hQ6 hB6 hz6 hx7
          go_wp2_with fail
          refine (ARoom_any hA7 Rm HRM.out).mono ?_
          rintro e w8 ⟨rfl, rfl⟩
          go_wp2_with fail
          refine (ARoom_any hAa7 Rm HRM.out).mono ?_
          rintro e w8 ⟨rfl, rfl⟩
          go_wp2_with fail
          refine (awake8_any _).mono ?_
          rintro e w9 ⟨rfl, hBa⟩
          go_wp2_with fail
          go_ret
          exact ⟨rfl, hB7.trans (hBa.mono hz7)⟩
    · as_aux_lemma =>
        obtain ⟨hg, har, hxl⟩ := HX.out
        have HOP := Lib.hid (aopen_good hg)
        have HDN := Lib.hid hg.live.down
        have HXL := Lib.hid hxl
        have hL : (S.at_ 1 0 192).length = 192 := hA.dr.at_len (by omega)
        have HRd := Lib.hid (fun (w' : World) (B2 : Nat) (y : DrAt B2 w' d p b 1 3 S) => dRead_ok y HDN.out 0 192 (by omega))
        clear HX hg har hxl
        revert hL HRd
        generalize S.at_ 1 0 192 = L
        intro hL HRd
        have HLL : Hid ((L == L) = true) := Lib.hid (by simp)
        have HL := Lib.hid hL
        have hwx : wo.heap.size ≤ wo.heap.size := Nat.le_refl _
        clear hL
        go_wp2_with fail
        refine (HRd.out _ _ hA.dr).mono ?_
        rintro e w2 ⟨A2, c2, rfl, hF2, hx2⟩
        have hA2 := hA.below hx2
        have hQ2 := hQ.below hx2
        have hB2 := hB.trans (hx2.mono hz)
        have hz2 := Nat.le_trans hz hx2.size
        obtain ⟨l1, l2, -, -⟩ := hA.dr.nor.lt
        clear hA hQ hB hz
        go_wp2_with fail
        refine (AOpen_any hA2.dr (by omega) hz2 _ 0 x HOP.out).mono ?_
        rintro e w3 ⟨hx3, ⟨-, a3, A3, c3, ps3, rfl, hA3, -, -⟩ | ⟨h0, -⟩⟩
        case inr => exact absurd rfl h0
        obtain ⟨-, -, l3, l4⟩ := hA2.dr.nor.lt
        have hF3 := hF2.butC hx3 l1 l2
        have hAa3 := hA2.turn hx3 hA3.dr
        have hQ3 := hQ2.but4w hA2 hdj (But4.of_but hx3 a _)
        have hB3 := hB2.trans (hx3.below l3 l4 hz2)
        have hz3 := Nat.le_trans hz2 hx3.size
        clear hA2 hQ2 hB2 hz2 hF2 hx2 hx3
        go_wp2_with fail
        refine (HRd.out _ _ hA3.dr).mono ?_
        rintro e w4 ⟨A4, c4, rfl, hF4, hx4⟩
        have hF34 := hF3.below hx4
        have hA4 := hA3.below hx4
        have hAa4 := hAa3.below hx4
        have hQ4 := hQ3.below hx4
        have hB4 := hB3.trans (hx4.mono hz3)
        have hz4 := Nat.le_trans hz3 hx4.size
        clear hA3 hAa3 hQ3 hB3 hz3 hF3 hx4
        go_wp2_with fail
        refine (SameWords_any A2 A4 c2 c4 192 192 L L w4 hF34.sees hF4.sees HL.out HL.out (by omega)).mono ?_
        rintro e w5 ⟨rfl, k5, rfl⟩
        have hx5 := below_drewN' (Below.refl w4.heap.size w4) k5
        have hA5 := hA4.below hx5
        have hAa5 := hAa4.below hx5
        have hQ5 := hQ4.below hx5
        have hB5 := hB4.trans (hx5.mono hz4)
        have hz5 := Nat.le_trans hz4 hx5.size
        rw [HLL.out]
        clear hA4 hAa4 hQ4 hB4 hz4 hF34 hF4 hx5
        go_wp2_with fail
        refine (same8_any hAa5 (by omega) B qs.length cB qs hQ5.parts true (by rw [HXL.out]; simp)).mono ?_
        rintro e w6 ⟨rfl, hx6⟩
        have hA6 := hA5.below hx6
        have hAa6 := hAa5.below hx6
        have hQ6 := hQ5.below hx6
        have hB6 := hB5.trans (hx6.mono hz5)
        have hz6 := Nat.le_trans hz5 hx6.size
        clear hA5 hAa5 hQ5 hB5 hz5 hx6
        go_wp2_with fail
        refine (same8_any hA6 (by omega) B qs.length cB qs hQ6.parts true (by rw [HXL.out]; simp)).mono ?_
        rintro e w7 ⟨rfl, hx7⟩
        have hA7 := hA6.below hx7
        have hAa7 := hAa6.below hx7
        have hB7 := hB6.trans (hx7.mono hz6)
        have hz7 := Nat.le_trans hz6 hx7.size
        clear hA6 hAa6 hQ6 hB6 hz6 hx7
        go_wp2_with fail
        refine (ARoom_any hA7 Rm HRM.out).mono ?_
        rintro e w8 ⟨rfl, rfl⟩
        go_wp2_with fail
        refine (ARoom_any hAa7 Rm HRM.out).mono ?_
        rintro e w8 ⟨rfl, rfl⟩
        go_wp2_with fail
        refine (awake8_any _).mono ?_
        rintro e w9 ⟨rfl, hBa⟩
        go_wp2_with fail
        go_ret
        exact ⟨rfl, hB7.trans (hBa.mono hz7)⟩
end
end Go.Proofs.Ythigepkcgijbbaa
