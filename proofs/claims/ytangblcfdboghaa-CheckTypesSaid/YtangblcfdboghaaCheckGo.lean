/-
  One place is gone over: check.goOver.
-/
import Derived.Test.YtangblcfdboghaaCheckCome
namespace Go.Proofs.Ytangblcfdboghaa
open Go.RowKit
set_option linter.unusedVariables false

theorem splice_c3 (x y : M3) : splice (c3 x) 0 (c3 y) = c3 y := by simp [splice, c3]
theorem splice_jn (x y : Jn) : splice x.cells 0 y.cells = y.cells := by simp [splice, Jn.cells]
/-- What goOver answers: the fault, or the places behind it. -/
def GoOut (base g : Nat) (p : Pg) (l : List Sp) (k : Nat) (w : World) (e : Ending) (w' : World) : Prop :=
  But1 g w w' ∧ match goF p l k with
    | .ok l' => e = .returned (.int .i64 0) ∧ SpAt base g w' l'
    | .error er => e = .returned (.int .i64 (er : Int))
theorem GoOut.ok {base g k : Nat} {p : Pg} {l l' : List Sp} {w w' : World} {e : Ending} (h : goF p l k = .ok l') (hb : But1 g w w') (he : e = .returned (.int .i64 0)) (hs : SpAt base g w' l') : GoOut base g p l k w e w' := by
  refine ⟨hb, ?_⟩
  rw [h]
  exact ⟨he, hs⟩
theorem GoOut.err {base g k er : Nat} {p : Pg} {l : List Sp} {w w' : World} {e : Ending} (h : goF p l k = .error er) (hb : But1 g w w') (he : e = .returned (.int .i64 (er : Int))) : GoOut base g p l k w e w' := by
  refine ⟨hb, ?_⟩
  rw [h]
  exact he
theorem go_off {p : Pg} {l : List Sp} {k : Nat} {st : List UInt8} {k0 : Nat} (h : sp l k = ⟨false, st, k0⟩) : goF p l k = .ok l := by simp [goF, h]
theorem go_end {p : Pg} {l : List Sp} {k : Nat} {st : List UInt8} {k0 : Nat} (h : sp l k = ⟨true, st, k0⟩) (he : k = p.ins.length ∨ (jn p k).op = 22) : goF p l k = if st = [] then .ok l else .error 140 := by simp [goF, h, he]
theorem go_flow {p : Pg} {l : List Sp} {k : Nat} {st : List UInt8} {k0 : Nat} (h : sp l k = ⟨true, st, k0⟩) (he : ¬ (k = p.ins.length ∨ (jn p k).op = 22)) (hf : ((jn p k).op = 18 ∨ (jn p k).op = 19) ∧ (jn p k).a ≤ k) : goF p l k = .error 141 := by simp [goF, h, he, hf]
theorem go_on {p : Pg} {l : List Sp} {k : Nat} {st : List UInt8} {k0 : Nat} (h : sp l k = ⟨true, st, k0⟩) (he : ¬ (k = p.ins.length ∨ (jn p k).op = 22)) (hf : ¬ (((jn p k).op = 18 ∨ (jn p k).op = 19) ∧ (jn p k).a ≤ k)) :
    goF p l k = match doneF p (jn p k) st with
      | none => .error 140
      | some s => match comes s (k0 + 1) (onF (jn p k) k) l with
        | none => .error 140
        | some l' => .ok l' := by
  unfold goF
  rw [h]
  simp only [Bool.true_eq_false, if_false, if_neg he, if_neg hf]
  rfl
theorem comes_cons {st : List UInt8} {n q : Nat} {r : List Nat} {l : List Sp} : comes st n (q :: r) l = match comeF (sp l q) st n with
    | none => none
    | some s => comes st n r (l.set q s) := rfl
theorem come_low {k n y : Nat} {l : List Sp} {st : List UInt8} {s : Sp} (hs : st.length ≤ 64) (hn : n ≤ k) (hl : Low k l) (h : comeF (sp l y) st n = some s) : Low k (l.set y s) := fun x hx => by
  rcases List.mem_or_eq_of_mem_set hx with hx | rfl
  · exact hl x hx
  · unfold comeF at h
    split at h
    · cases h
    · obtain rfl := Option.some.inj h
      exact ⟨hs, Nat.max_le.2 ⟨(hl.sp y).2, hn⟩⟩
theorem comes_len {st : List UInt8} {n : Nat} : ∀ {qs : List Nat} {l l' : List Sp}, comes st n qs l = some l' → l'.length = l.length
  | [], l, l', h => by obtain rfl := Option.some.inj h; rfl
  | q :: r, l, l', h => by
    unfold comes at h
    split at h
    · cases h
    · have := comes_len h
      simpa using this
def gv17 (g b M y n5 c5 k0 k1 : Nat) (A5 : Option Addr) (j : Nat) (x : Value) (w : World) : Prop :=
  match j with
  | 0 => x = .slice (some ⟨g, 0, none⟩) M M
  | 1 => x = .int .i64 (y : Int)
  | 2 => x = .pointer (some ⟨g, y * 3, none⟩)
  | 3 => x = .slice A5 n5 c5
  | 4 => x = .pointer (some ⟨b, 2, none⟩)
  | 5 => x = .int .i64 (k0 : Int)
  | 6 => x = .int .i64 (k1 : Int)
  | _ => True
theorem gv17_stab (g b M y n5 c5 k0 k1 : Nat) (A5 : Option Addr) : ∀ j x w w', Below w.heap.size w w' → gv17 g b M y n5 c5 k0 k1 A5 j x w → gv17 g b M y n5 c5 k0 k1 A5 j x w' := fun _ _ _ _ _ h => h

set_option maxHeartbeats 8000000 in
set_option maxRecDepth 100000 in
theorem goOver_any (m : Pm) (w0 w : World) (g k : Nat) (l : List Sp) (hm : PmAt w0.heap.size w m) (hr : m.p.right = true) (hb : Below w0.heap.size w0 w) (hg : w0.heap.size ≤ g) (h : SpAt w0.heap.size g w l) (hll : l.length = m.ni + 1) (hk : k ≤ m.ni) (hlow : Low k l) :
    Calls Try.prog 59 #[.agg m.cells.toArray, .slice (some ⟨g, 0, none⟩) l.length l.length, .int .i64 (k : Int)] w (GoOut w0.heap.size g m.p l k w) := by
  have hni : m.ni ≤ 2000 := by
    have := hr
    simp only [Pg.right, insOk, Bool.and_eq_true, decide_eq_true_eq] at this
    rw [← hm.ni]
    exact this.2.2.2.1.2
  obtain ⟨M, hM⟩ : ∃ M, l.length = M := ⟨_, rfl⟩
  rw [hM]
  have hkM : k < M := by omega
  have hM2 : M ≤ 2001 := by omega
  obtain ⟨A, c, hS3, hFA⟩ := h.get (x := k) (by omega)
  obtain ⟨hl64, hk0⟩ := hlow.sp k
  obtain ⟨⟨r, st, k0⟩, hs0⟩ : ∃ s, sp l k = s := ⟨_, rfl⟩
  rw [hs0] at hS3 hFA hl64 hk0
  simp only at hFA hl64 hk0
  obtain ⟨N, hN⟩ : ∃ N, st.length = N := ⟨_, rfl⟩
  have hS0 := Lib.hid hs0
  have HN := Lib.hid hN
  have HM := Lib.hid hM
  rw [hN] at hFA hl64
  have hcapA := hFA.cap
  have hglt := h.lt.2
  have hm0 := hm.more hb.size
  clear hs0
  have hgb : ∀ b, w.heap.size ≤ b → b ≠ g := fun b hb' => by omega
  cases r with
  | false =>
    go_enter Try.func59, Try.ntmps59
    go_wp2_with (first
      | (with_reducible refine wpList_box (o := ⟨some 3, _, _, _, _, _⟩) rfl (.tmp 0) 26 rfl m.cells rfl 4 (pm4 m) (by decide) ?_; intro gc w1 hgc hC hB1; have hS3b := hS3.step hB1)
      | (with_reducible refine wpList_load (o := ⟨some 16, _, _, _, _, _⟩) rfl (.tmp 15) 64 rfl g (k * 3) _ rfl (c3 (⟨false, st, k0⟩, A, c)) 3 rfl aggSp hS3b ?_)
      | (with_reducible refine wpList_alloc (o := ⟨some 7, _, _, _, _, _⟩) rfl 64 rfl (c3 (default, none, 0)) zeroSp 3 rfl (by decide) ?_; intro b w2 hgw2 hFw2 hBw2)
      | (
          with_reducible refine wpList_store rfl rfl (.tmp 7) (.tmp 16) 64 rfl b 0 w1.heap.size 64 3 (c3 (default, none, 0)) (c3 (⟨false, st, k0⟩, A, c)) ?_ ?_ 3 ?_ ?_ ?_ ?_ ?_ w1 ?_ ?_ ?_
          · rfl
          · rfl
          · rfl
          · exact aggSp
          · exact hFw2
          · omega
          · exact c3_one _
          · exact hBw2
          · exact hgw2
          intro w3 hFw3 hBw3 hkw3 hsw3
          rw [splice_c3] at hFw3; have v0 := hFw3.cell_ (k := 0) (u := .bool false) rfl))
    go_ret
    exact GoOut.ok (go_off hS0.out) (But1.of_below (Below.then_ hB1 hBw3)) rfl (h.below (Below.then_ hB1 hBw3))
  | true =>
    obtain ⟨ie, hie⟩ : ∃ ie, decide (k = m.ni ∨ (jn m.p k).op = 22) = ie := ⟨_, rfl⟩
    have hE : ∀ w', Below w.heap.size w w' → Calls Try.prog 76 #[.agg m.cells.toArray, .int .i64 (k : Int)] w' fun e w2 => e = .returned (.bool ie) ∧ Below w'.heap.size w' w2 := fun w' hw => by
      rw [← hie]
      exact isEnd_any m k w' (hm0.step hw) hk
    have HE := Lib.hid hE
    have HIE := Lib.hid hie
    have HNI := Lib.hid hm.ni
    clear hE hie
    cases ie with
    | true =>
      have hend : k = m.p.ins.length ∨ (jn m.p k).op = 22 := by
        have := HIE.out
        rw [← HNI.out] at this
        simpa using this
      have HG := Lib.hid (go_end hS0.out hend)
      clear hend
      by_cases hz : N = 0
      · have hpos : decide ((0 : Int) < (N : Int)) = false := by simp; omega
        have hpos2 : decide ((N : Int) > 0) = false := by simp; omega
        have hne : st = [] := List.eq_nil_of_length_eq_zero (hN.trans hz)
        have HG2 := Lib.hid (HG.out.trans (if_pos hne))
        clear hne
        go_enter Try.func59, Try.ntmps59
        go_wp2_with (first
          | (with_reducible refine wpList_box (o := ⟨some 3, _, _, _, _, _⟩) rfl (.tmp 0) 26 rfl m.cells rfl 4 (pm4 m) (by decide) ?_; intro gc w1 hgc hC hB1; have hS3b := hS3.step hB1)
          | (with_reducible refine wpList_load (o := ⟨some 16, _, _, _, _, _⟩) rfl (.tmp 15) 64 rfl g (k * 3) _ rfl (c3 (⟨true, st, k0⟩, A, c)) 3 rfl aggSp hS3b ?_)
          | (with_reducible refine wpList_alloc (o := ⟨some 7, _, _, _, _, _⟩) rfl 64 rfl (c3 (default, none, 0)) zeroSp 3 rfl (by decide) ?_; intro b w2 hgw2 hFw2 hBw2)
          | (
              with_reducible refine wpList_store rfl rfl (.tmp 7) (.tmp 16) 64 rfl b 0 w1.heap.size 64 3 (c3 (default, none, 0)) (c3 (⟨true, st, k0⟩, A, c)) ?_ ?_ 3 ?_ ?_ ?_ ?_ ?_ w1 ?_ ?_ ?_
              · rfl
              · rfl
              · rfl
              · exact aggSp
              · exact hFw2
              · omega
              · exact c3_one _
              · exact hBw2
              · exact hgw2
              intro w3 hFw3 hBw3 hkw3 hsw3
              rw [splice_c3] at hFw3; have v0 := hFw3.cell_ (k := 0) (u := .bool true) rfl; have hC3 := hC.below hBw3; have hBz3 := Below.then_ hB1 hBw3)
          | (with_reducible refine wpList_load (o := ⟨some 20, _, _, _, _, _⟩) rfl (.tmp 3) 26 rfl gc 0 _ rfl m.cells 4 (pm4 m) aggCode hC3.sees ?_)
          | (go_at_call 76; refine (HE.out _ hBz3).mono ?_; rintro e wE ⟨rfl, hBE⟩; have hV4 := hFw3.below hBE; have v1 := hV4.cell_ (k := 1) (u := .slice A N c) (by rw [← hN]; rfl); have hC4 := hC3.below hBE; have hBz := Below.then_ hBz3 hBE))
        go_ret
        exact GoOut.ok HG2.out (But1.of_below hBz) rfl (h.below hBz)
      · have hpos : decide ((0 : Int) < (N : Int)) = true := by simp; omega
        have hpos2 : decide ((N : Int) > 0) = true := by simp; omega
        have hne : st ≠ [] := fun e => hz (by rw [← hN, e]; rfl)
        have HG2 := Lib.hid (HG.out.trans (if_neg hne))
        clear hne
        go_enter Try.func59, Try.ntmps59
        go_wp2_with (first
          | (with_reducible refine wpList_box (o := ⟨some 3, _, _, _, _, _⟩) rfl (.tmp 0) 26 rfl m.cells rfl 4 (pm4 m) (by decide) ?_; intro gc w1 hgc hC hB1; have hS3b := hS3.step hB1)
          | (with_reducible refine wpList_load (o := ⟨some 16, _, _, _, _, _⟩) rfl (.tmp 15) 64 rfl g (k * 3) _ rfl (c3 (⟨true, st, k0⟩, A, c)) 3 rfl aggSp hS3b ?_)
          | (with_reducible refine wpList_alloc (o := ⟨some 7, _, _, _, _, _⟩) rfl 64 rfl (c3 (default, none, 0)) zeroSp 3 rfl (by decide) ?_; intro b w2 hgw2 hFw2 hBw2)
          | (
              with_reducible refine wpList_store rfl rfl (.tmp 7) (.tmp 16) 64 rfl b 0 w1.heap.size 64 3 (c3 (default, none, 0)) (c3 (⟨true, st, k0⟩, A, c)) ?_ ?_ 3 ?_ ?_ ?_ ?_ ?_ w1 ?_ ?_ ?_
              · rfl
              · rfl
              · rfl
              · exact aggSp
              · exact hFw2
              · omega
              · exact c3_one _
              · exact hBw2
              · exact hgw2
              intro w3 hFw3 hBw3 hkw3 hsw3
              rw [splice_c3] at hFw3; have v0 := hFw3.cell_ (k := 0) (u := .bool true) rfl; have hC3 := hC.below hBw3; have hBz3 := Below.then_ hB1 hBw3)
          | (with_reducible refine wpList_load (o := ⟨some 20, _, _, _, _, _⟩) rfl (.tmp 3) 26 rfl gc 0 _ rfl m.cells 4 (pm4 m) aggCode hC3.sees ?_)
          | (go_at_call 76; refine (HE.out _ hBz3).mono ?_; rintro e wE ⟨rfl, hBE⟩; have hV4 := hFw3.below hBE; have v1 := hV4.cell_ (k := 1) (u := .slice A N c) (by rw [← hN]; rfl); have hC4 := hC3.below hBE; have hBz := Below.then_ hBz3 hBE))
        go_ret
        exact GoOut.err HG2.out (But1.of_below hBz) rfl
    | false =>
      have hend : ¬ (k = m.p.ins.length ∨ (jn m.p k).op = 22) := by
        have := HIE.out
        rw [← HNI.out] at this
        simpa using this
      have hkn : k < m.ni := by
        rcases Nat.lt_or_ge k m.ni with x | x
        · exact x
        · exact absurd (.inl (by rw [HNI.out]; omega)) hend
      obtain ⟨bi, oi, hA, hbi, j, HX, hxj, hX0⟩ := hm0.ins.quad jn4 hm.ni hkn
      have ej : jn m.p k = j := jn_get HX.out
      have hok : jnOk m.p j = true := by
        have := hr
        simp only [Pg.right, insOk, Bool.and_eq_true] at this
        exact List.all_eq_true.1 this.2.2.2.2 _ hxj
      have hoj := hm.oki j hxj
      have hons := fun hf => onF_in (k := k) hr (by rw [HNI.out]; exact hkn) hf
      rw [ej] at hend hons
      have HG := fun hf => go_on (p := m.p) (l := l) (k := k) (st := st) (k0 := k0) hS0.out (by rw [ej]; exact hend) hf
      have HF := fun hf => go_flow (p := m.p) (l := l) (k := k) (st := st) (k0 := k0) hS0.out (by rw [ej]; exact hend) hf
      rw [ej] at HG HF
      have hcc : m.cells = [sv m.p.name, .slice m.av m.nv m.cv, .slice m.ab m.nb m.cb, .slice (some ⟨bi, oi, none⟩) m.ni m.ci] := by rw [Pm.cells, hA]
      have HCC := Lib.hid hcc
      clear hcc
      obtain ⟨jb, hjb⟩ : ∃ jb, decide (j.op = 18 ∨ j.op = 19) = jb := ⟨_, rfl⟩
      have hJ : ∀ w', Calls Try.prog 77 #[.int .u8 (j.op : Int)] w' fun e w2 => e = .returned (.bool jb) ∧ w' = w2 := fun w' => by
        rw [← hjb]
        exact isJump_any j.op w'
      have HJ := Lib.hid hJ
      obtain ⟨fl, hfl⟩ : ∃ fl, decide (j.a ≤ (k : Int)) = fl := ⟨_, rfl⟩
      have hjump : (jb = true ∧ fl = true) ↔ ((j.op = 18 ∨ j.op = 19) ∧ j.a ≤ k) := by rw [← hjb, ← hfl]; simp
      obtain ⟨D, hD⟩ : ∃ D, doneF m.p j st = D := ⟨_, rfl⟩
      have hDN : ∀ w', Below w.heap.size w w' → Calls Try.prog 78 #[.agg m.cells.toArray, .agg j.cells.toArray, .slice A N c] w' (DoneOut w' D) := fun w' hw => by
        rw [← hD]
        exact done_any m j A c N st w' (hm0.step hw) ((hFA.sees).step hw) hN hcapA.1 (by omega) hoj hok (by have := hcapA.2; unfold maxLen at this; omega)
      have HD := Lib.hid hD
      have HDN := Lib.hid hDN
      clear hD hDN hJ hjb hend ej HX hA
      by_cases hfault : jb = true ∧ fl = true
      · obtain ⟨rfl, rfl⟩ := hfault
        have HR := Lib.hid (HF (hjump.1 ⟨rfl, rfl⟩))
        clear HF HG hons hjump
        go_enter Try.func59, Try.ntmps59
        go_wp2_with (first
          | (with_reducible refine wpList_box (o := ⟨some 3, _, _, _, _, _⟩) rfl (.tmp 0) 26 rfl m.cells rfl 4 (pm4 m) (by decide) ?_; intro gc w1 hgc hC hB1; have hS3b := hS3.step hB1)
          | (with_reducible refine wpList_load (o := ⟨some 16, _, _, _, _, _⟩) rfl (.tmp 15) 64 rfl g (k * 3) _ rfl (c3 (⟨true, st, k0⟩, A, c)) 3 rfl aggSp hS3b ?_)
          | (with_reducible refine wpList_alloc (o := ⟨some 7, _, _, _, _, _⟩) rfl 64 rfl (c3 (default, none, 0)) zeroSp 3 rfl (by decide) ?_; intro b w2 hgw2 hFw2 hBw2)
          | (
              with_reducible refine wpList_store rfl rfl (.tmp 7) (.tmp 16) 64 rfl b 0 w1.heap.size 64 3 (c3 (default, none, 0)) (c3 (⟨true, st, k0⟩, A, c)) ?_ ?_ 3 ?_ ?_ ?_ ?_ ?_ w1 ?_ ?_ ?_
              · rfl
              · rfl
              · rfl
              · exact aggSp
              · exact hFw2
              · omega
              · exact c3_one _
              · exact hBw2
              · exact hgw2
              intro w3 hFw3 hBw3 hkw3 hsw3
              rw [splice_c3] at hFw3; have v0 := hFw3.cell_ (k := 0) (u := .bool true) rfl; have hC3 := hC.below hBw3; have hBz3 := Below.then_ hB1 hBw3)
          | (with_reducible refine wpList_load (o := ⟨some 20, _, _, _, _, _⟩) rfl (.tmp 3) 26 rfl gc 0 _ rfl m.cells 4 (pm4 m) aggCode hC3.sees ?_)
          | (go_at_call 76; refine (HE.out _ hBz3).mono ?_; rintro e wE ⟨rfl, hBE⟩; have hV4 := hFw3.below hBE; have v1 := hV4.cell_ (k := 1) (u := .slice A N c) (by rw [← hN]; rfl); have hC4 := hC3.below hBE; have hBz := Below.then_ hBz3 hBE; have u3 := hC4.cell_ (k := 3) (u := .slice (some ⟨bi, oi, none⟩) m.ni m.ci) (by rw [HCC.out]; rfl); have hX4 := hX0.step hBz)
          | (with_reducible refine wpList_load (o := ⟨some 31, _, _, _, _, _⟩) rfl (.tmp 30) 53 rfl bi (oi + k * 4) _ rfl j.cells 4 (jn4 j) aggIns hX4 ?_)
          | (with_reducible refine wpList_alloc (o := ⟨some 8, _, _, _, _, _⟩) rfl 53 rfl (Jn.cells default) zeroIns 4 rfl (by decide) ?_; intro bj w5 hgw5 hFw5 hBw5)
          | (
              with_reducible refine wpList_store rfl rfl (.tmp 8) (.tmp 31) 53 rfl bj 0 wE.heap.size 53 4 (Jn.cells default) j.cells ?_ ?_ 4 ?_ ?_ ?_ ?_ ?_ wE ?_ ?_ ?_
              · rfl
              · rfl
              · rfl
              · exact aggIns
              · exact hFw5
              · omega
              · exact jn_one j
              · exact hBw5
              · exact hgw5
              intro w6 hFw6 hBw6 hkw6 hsw6
              rw [splice_jn] at hFw6; have j0 := hFw6.cell_ (k := 0) rfl; have j2 := hFw6.cell_ (k := 2) rfl; have hC6 := hC4.below hBw6; have hV6 := hV4.below hBw6; have v1 := hV6.cell_ (k := 1) (u := .slice A N c) (by rw [← hN]; rfl); have hB6 := Below.then_ hBz hBw6)
          | (go_at_call 77; refine (HJ.out _).mono ?_; rintro e wj ⟨rfl, rfl⟩))
        go_ret
        exact GoOut.err HR.out (But1.of_below hB6) rfl
      · have hnf := fun x => hfault (hjump.2 x)
        have HR := Lib.hid (HG hnf)
        have HQ := Lib.hid (hons hnf)
        have hon : ∀ w', Below w.heap.size w w' → Calls Try.prog 79 #[.agg j.cells.toArray, .int .i64 (k : Int)] w' fun e w2 => ∃ g, e = .returned (.slice (some ⟨g, 0, none⟩) (onF j k).length (onF j k).length) ∧ Fresh w'.heap.size 3 w2 (some ⟨g, 0, none⟩) (onF j k).length (onF j k).length (ic (onF j k)) ∧ Below w'.heap.size w' w2 := fun w' _ =>
          onward_any j k w' (by omega) (fun ho => by
            rcases ho with h1 | h1
            · have hok := hok
              rw [jnOk_some (show letF j.op = some (48, 106, 48) by rw [h1]; rfl)] at hok
              simp [mayF, isPl] at hok
              exact hok.2.1.1
            · have hok := hok
              rw [jnOk_some (show letF j.op = some (48, 106, 48) by rw [h1]; rfl)] at hok
              simp [mayF, isPl] at hok
              exact hok.2.1.1)
        have hol2 : (onF j k).length ≤ 2 := by
          unfold onF
          repeat' split
          all_goals simp
        revert hon HR HQ hol2
        generalize onF j k = qs
        intro HR HQ hon hol2
        obtain ⟨ol, hol⟩ : ∃ ol, qs.length = ol := ⟨_, rfl⟩
        rw [hol] at hon hol2
        have HOL := Lib.hid hol
        have HON := Lib.hid hon
        have hjf : jb = false ∨ (jb = true ∧ fl = false) := by
          cases jb
          · exact .inl rfl
          · cases fl
            · exact .inr ⟨rfl, rfl⟩
            · exact absurd ⟨rfl, rfl⟩ hfault
        obtain ⟨k1, hk1⟩ : ∃ k1, k0 + 1 = k1 := ⟨_, rfl⟩
        rw [hk1] at HR
        have hk2 : (k0 : Int) + 1 = (k1 : Int) := by omega
        have hk3 : IntKind.i64.wrap (k1 : Int) = (k1 : Int) := by rw [IntKind.wrap_i64]; omega
        have hk4 : k1 ≤ k + 1 := by omega
        have HK1 := Lib.hid hk1
        clear HF HG hons hjump hnf hon hol hfault hok hoj hk1
        cases D with
        | none =>
          rw [HD.out] at HR
          simp only at HR
          have HR := Lib.hid HR.out
          have hDN2 : ∀ w', Below w.heap.size w w' → Calls Try.prog 78 #[.agg m.cells.toArray, .agg j.cells.toArray, .slice A N c] w' fun e w2 => ∃ A n c, e = .returned (.tuple #[.slice A n c, .bool false]) ∧ Below w'.heap.size w' w2 := fun w' hw => (HDN.out w' hw).mono (fun e w2 ⟨A, n, c, h1, _, h2⟩ => ⟨A, n, c, h1, h2⟩)
          have HDN := Lib.hid hDN2
          clear hDN2
          rcases hjf with rfl | ⟨rfl, rfl⟩
          all_goals go_enter Try.func59, Try.ntmps59
          all_goals go_wp2_with (first
            | (with_reducible refine wpList_box (o := ⟨some 3, _, _, _, _, _⟩) rfl (.tmp 0) 26 rfl m.cells rfl 4 (pm4 m) (by decide) ?_; intro gc w1 hgc hC hB1; have hS3b := hS3.step hB1)
            | (with_reducible refine wpList_load (o := ⟨some 16, _, _, _, _, _⟩) rfl (.tmp 15) 64 rfl g (k * 3) _ rfl (c3 (⟨true, st, k0⟩, A, c)) 3 rfl aggSp hS3b ?_)
            | (with_reducible refine wpList_alloc (o := ⟨some 7, _, _, _, _, _⟩) rfl 64 rfl (c3 (default, none, 0)) zeroSp 3 rfl (by decide) ?_; intro b w2 hgw2 hFw2 hBw2)
            | (
                with_reducible refine wpList_store rfl rfl (.tmp 7) (.tmp 16) 64 rfl b 0 w1.heap.size 64 3 (c3 (default, none, 0)) (c3 (⟨true, st, k0⟩, A, c)) ?_ ?_ 3 ?_ ?_ ?_ ?_ ?_ w1 ?_ ?_ ?_
                · rfl
                · rfl
                · rfl
                · exact aggSp
                · exact hFw2
                · omega
                · exact c3_one _
                · exact hBw2
                · exact hgw2
                intro w3 hFw3 hBw3 hkw3 hsw3
                rw [splice_c3] at hFw3; have v0 := hFw3.cell_ (k := 0) (u := .bool true) rfl; have hC3 := hC.below hBw3; have hBz3 := Below.then_ hB1 hBw3)
            | (with_reducible refine wpList_load (o := ⟨some 20, _, _, _, _, _⟩) rfl (.tmp 3) 26 rfl gc 0 _ rfl m.cells 4 (pm4 m) aggCode hC3.sees ?_)
            | (go_at_call 76; refine (HE.out _ hBz3).mono ?_; rintro e wE ⟨rfl, hBE⟩; have hV4 := hFw3.below hBE; have v1 := hV4.cell_ (k := 1) (u := .slice A N c) (by rw [← hN]; rfl); have hC4 := hC3.below hBE; have hBz := Below.then_ hBz3 hBE; have u3 := hC4.cell_ (k := 3) (u := .slice (some ⟨bi, oi, none⟩) m.ni m.ci) (by rw [HCC.out]; rfl); have hX4 := hX0.step hBz)
            | (with_reducible refine wpList_load (o := ⟨some 31, _, _, _, _, _⟩) rfl (.tmp 30) 53 rfl bi (oi + k * 4) _ rfl j.cells 4 (jn4 j) aggIns hX4 ?_)
            | (with_reducible refine wpList_alloc (o := ⟨some 8, _, _, _, _, _⟩) rfl 53 rfl (Jn.cells default) zeroIns 4 rfl (by decide) ?_; intro bj w5 hgw5 hFw5 hBw5)
            | (
                with_reducible refine wpList_store rfl rfl (.tmp 8) (.tmp 31) 53 rfl bj 0 wE.heap.size 53 4 (Jn.cells default) j.cells ?_ ?_ 4 ?_ ?_ ?_ ?_ ?_ wE ?_ ?_ ?_
                · rfl
                · rfl
                · rfl
                · exact aggIns
                · exact hFw5
                · omega
                · exact jn_one j
                · exact hBw5
                · exact hgw5
                intro w6 hFw6 hBw6 hkw6 hsw6
                rw [splice_jn] at hFw6; have j0 := hFw6.cell_ (k := 0) rfl; have j2 := hFw6.cell_ (k := 2) rfl; have hC6 := hC4.below hBw6; have hV6 := hV4.below hBw6; have v1 := hV6.cell_ (k := 1) (u := .slice A N c) (by rw [← hN]; rfl); have hB6 := Below.then_ hBz hBw6)
            | (go_at_call 77; refine (HJ.out _).mono ?_; rintro e wj ⟨rfl, rfl⟩)
            | (with_reducible refine wpList_load (o := ⟨some 42, _, _, _, _, _⟩) rfl (.tmp 3) 26 rfl gc 0 _ rfl m.cells 4 (pm4 m) aggCode hC6.sees ?_)
            | (with_reducible refine wpList_load (o := ⟨some 43, _, _, _, _, _⟩) rfl (.tmp 8) 53 rfl bj 0 _ rfl j.cells 4 (jn4 j) aggIns hFw6.sees ?_)
            | (go_at_call 78; refine (HDN.out _ hB6).mono ?_; rintro e w7 ⟨A5, n5, c5, rfl, hB7⟩; have hBw7 := Below.then_ hB6 hB7))
          all_goals go_ret
          all_goals exact GoOut.err HR.out (But1.of_below hBw7) rfl
        | some s =>
          rw [HD.out] at HR
          simp only at HR
          have HR := Lib.hid HR.out
          have hDN2 : ∀ w', Below w.heap.size w w' → Calls Try.prog 78 #[.agg m.cells.toArray, .agg j.cells.toArray, .slice A N c] w' fun e w2 => ∃ A c, e = .returned (.tuple #[.slice A s.length c, .bool true]) ∧ Fresh w'.heap.size 28 w2 A s.length c (cb s) ∧ Below w'.heap.size w' w2 := fun w' hw => (HDN.out w' hw).mono (fun e w2 ⟨A, n, c, h1, h3, h2⟩ => by
            obtain ⟨h4, h5⟩ := h3 s rfl
            subst h4
            exact ⟨A, c, h1, h5, h2⟩)
          have HDN := Lib.hid hDN2
          have hs64 : s.length ≤ 64 := join_le HD.out
          clear hDN2
          rcases hjf with rfl | ⟨rfl, rfl⟩
          · go_enter Try.func59, Try.ntmps59
            go_wp2_with (first
              | (with_reducible refine wpList_box (o := ⟨some 3, _, _, _, _, _⟩) rfl (.tmp 0) 26 rfl m.cells rfl 4 (pm4 m) (by decide) ?_; intro gc w1 hgc hC hB1; have hS3b := hS3.step hB1)
              | (with_reducible refine wpList_load (o := ⟨some 16, _, _, _, _, _⟩) rfl (.tmp 15) 64 rfl g (k * 3) _ rfl (c3 (⟨true, st, k0⟩, A, c)) 3 rfl aggSp hS3b ?_)
              | (with_reducible refine wpList_alloc (o := ⟨some 7, _, _, _, _, _⟩) rfl 64 rfl (c3 (default, none, 0)) zeroSp 3 rfl (by decide) ?_; intro b w2 hgw2 hFw2 hBw2)
              | (
                  with_reducible refine wpList_store rfl rfl (.tmp 7) (.tmp 16) 64 rfl b 0 w1.heap.size 64 3 (c3 (default, none, 0)) (c3 (⟨true, st, k0⟩, A, c)) ?_ ?_ 3 ?_ ?_ ?_ ?_ ?_ w1 ?_ ?_ ?_
                  · rfl
                  · rfl
                  · rfl
                  · exact aggSp
                  · exact hFw2
                  · omega
                  · exact c3_one _
                  · exact hBw2
                  · exact hgw2
                  intro w3 hFw3 hBw3 hkw3 hsw3
                  rw [splice_c3] at hFw3; have v0 := hFw3.cell_ (k := 0) (u := .bool true) rfl; have hC3 := hC.below hBw3; have hBz3 := Below.then_ hB1 hBw3)
              | (with_reducible refine wpList_load (o := ⟨some 20, _, _, _, _, _⟩) rfl (.tmp 3) 26 rfl gc 0 _ rfl m.cells 4 (pm4 m) aggCode hC3.sees ?_)
              | (go_at_call 76; refine (HE.out _ hBz3).mono ?_; rintro e wE ⟨rfl, hBE⟩; have hV4 := hFw3.below hBE; have v1 := hV4.cell_ (k := 1) (u := .slice A N c) (by rw [← hN]; rfl); have hC4 := hC3.below hBE; have hBz := Below.then_ hBz3 hBE; have u3 := hC4.cell_ (k := 3) (u := .slice (some ⟨bi, oi, none⟩) m.ni m.ci) (by rw [HCC.out]; rfl); have hX4 := hX0.step hBz)
              | (with_reducible refine wpList_load (o := ⟨some 31, _, _, _, _, _⟩) rfl (.tmp 30) 53 rfl bi (oi + k * 4) _ rfl j.cells 4 (jn4 j) aggIns hX4 ?_)
              | (with_reducible refine wpList_alloc (o := ⟨some 8, _, _, _, _, _⟩) rfl 53 rfl (Jn.cells default) zeroIns 4 rfl (by decide) ?_; intro bj w5 hgw5 hFw5 hBw5)
              | (
                  with_reducible refine wpList_store rfl rfl (.tmp 8) (.tmp 31) 53 rfl bj 0 wE.heap.size 53 4 (Jn.cells default) j.cells ?_ ?_ 4 ?_ ?_ ?_ ?_ ?_ wE ?_ ?_ ?_
                  · rfl
                  · rfl
                  · rfl
                  · exact aggIns
                  · exact hFw5
                  · omega
                  · exact jn_one j
                  · exact hBw5
                  · exact hgw5
                  intro w6 hFw6 hBw6 hkw6 hsw6
                  rw [splice_jn] at hFw6; have j0 := hFw6.cell_ (k := 0) rfl; have j2 := hFw6.cell_ (k := 2) rfl; have hC6 := hC4.below hBw6; have hV6 := hV4.below hBw6; have v1 := hV6.cell_ (k := 1) (u := .slice A N c) (by rw [← hN]; rfl); have hB6 := Below.then_ hBz hBw6)
              | (go_at_call 77; refine (HJ.out _).mono ?_; rintro e wj ⟨rfl, rfl⟩)
              | (with_reducible refine wpList_load (o := ⟨some 42, _, _, _, _, _⟩) rfl (.tmp 3) 26 rfl gc 0 _ rfl m.cells 4 (pm4 m) aggCode hC6.sees ?_)
              | (with_reducible refine wpList_load (o := ⟨some 43, _, _, _, _, _⟩) rfl (.tmp 8) 53 rfl bj 0 _ rfl j.cells 4 (jn4 j) aggIns hFw6.sees ?_)
              | (go_at_call 78; refine (HDN.out _ hB6).mono ?_; rintro e w7 ⟨A5, c5, rfl, hFD, hB7⟩; have hBw7 := Below.then_ hB6 hB7; have hJ7 := hFw6.below hB7; have hV7 := hV6.below hB7)
              | (with_reducible refine wpList_load (o := ⟨some 51, _, _, _, _, _⟩) rfl (.tmp 8) 53 rfl bj 0 _ rfl j.cells 4 (jn4 j) aggIns hJ7.sees ?_)
              | (go_at_call 79; refine (HON.out _ hBw7).mono ?_; rintro e w8 ⟨go, rfl, hFO, hB8⟩; have hBw8 := Below.then_ hBw7 hB8; have hV8 := hV7.below hB8; have hD8 := hFD.below hB8))
            have hS8 := h.below hBw8
            have hgo : go ≠ g := hgb go (Nat.le_trans (Nat.le_trans hBw7.size (Nat.le_refl _)) hFO.block.2)
            have hbg : b ≠ g := hgb b (Nat.le_trans hB1.size hgw2)
            clear HE HIE HDN HON HJ hS3 hFA hcapA hm0 hxj hX0 hX4 hC hC3 hC4 hC6 hV4 hV6 hV7 hFw2 hBw2 hFw5 hBw5 hFw6 hBw6 hJ7 hFD v0 v1 u3 j0 j2 hBz hBz3 hB6 hBE hB7 hB8 hFw3 hBw3 hB1
            go_loopw [55] (fun i wr => ∃ q l', q ≤ ol ∧ i = .int .i64 (q : Nat) ∧ But1 g w8 wr ∧ SpAt w0.heap.size g wr l' ∧ Low (k + 1) l' ∧ Hid (l'.length = M) ∧ Hid (comes s k1 (qs.drop q) l' = comes s k1 qs l)) (fun i _ => ol - (intOf i).toNat)
            case atStart => exact ⟨0, l, Nat.zero_le _, rfl, But1.refl _ _, hS8, fun x hx => ⟨(hlow x hx).1, Nat.le_succ_of_le (hlow x hx).2⟩, HM, Lib.hid rfl⟩
            case round =>
              obtain ⟨q, l', hq, rfl, hbut, hS, hlow', HM', HCO⟩ := hrel
              have hV := hV8.but1 hbut hbg
              have hO := hFO.but1 hbut hgo
              obtain ⟨ys, hys⟩ := hS8.block
              have hDs := hD8.keepB (KeepB.of_but1 hys ne_sp hbut)
              by_cases hlt : q < ol
              · have hql : q < qs.length := by rw [HOL.out]; exact hlt
                obtain ⟨y, hy⟩ : ∃ y, qs[q] = y := ⟨_, rfl⟩
                have hyM : y < M := by
                  have := (HQ.out qs[q] (List.getElem_mem hql)).2
                  rw [HNI.out] at this
                  omega
                have ho := hO.cell_ (k := q) (u := .int .i64 (y : Int)) (by simp [ic, hql, hy])
                have hdr : qs.drop q = y :: qs.drop (q + 1) := by rw [← hy]; exact List.drop_eq_getElem_cons hql
                have hco := HCO.out
                rw [hdr] at hco
                rw [comes_cons] at hco
                have HLT := Lib.hid hlt
                obtain ⟨cf, hcf⟩ : ∃ cf, comeF (sp l' y) s k1 = cf := ⟨_, rfl⟩
                rw [hcf] at hco
                have HCF := Lib.hid hcf
                have HC2 := Lib.hid hco
                have hyl : y < l'.length := by rw [HM'.out]; exact hyM
                have hsy := hlow'.sp y
                clear hcf hco hdr hy hql
                go_wp2_with fail
                refine region_all_tail 7 (gv17 g b M y s.length c5 k0 k1 A5) (by kernel_rfl) (by kernel_rfl) (by kernel_rfl) (gv17_stab _ _ _ _ _ _ _ _ _) ?_ ?_
                · intro wz hb0
                  simp only [List.take_succ_cons, List.take_zero]
                  refine ⟨?_, ?_, ?_, ?_, ?_, ?_, ?_, trivial⟩
                  all_goals intro listed a1 w' hk1 hd1
                  · have f1_ : a1.eval (.tmp 1) = .slice (some ⟨g, 0, none⟩) M M := hk1.ev_old 1 (by kernel_rfl)
                    have g1_ : a1.tmps[1]?.getD undef = .slice (some ⟨g, 0, none⟩) M M := by simpa [Act.eval] using f1_
                    exact stepOk_value rfl (v := .slice (some ⟨g, 0, none⟩) M M) (by go_simp) rfl
                  · have f12_ : a1.eval (.tmp 12) = .int .i64 (y : Int) := hk1.ev_old 12 (by kernel_rfl)
                    have g12_ : a1.tmps[12]?.getD undef = .int .i64 (y : Int) := by simpa [Act.eval] using f12_
                    exact stepOk_value rfl (v := .int .i64 (y : Int)) (by go_simp) rfl
                  · obtain ⟨y0, e0, q0, rfl⟩ := hk1.ev_new hd1 0 59 (by kernel_rfl) rfl
                    obtain ⟨y1, e1, q1, rfl⟩ := hk1.ev_new hd1 1 60 (by kernel_rfl) rfl
                    exact stepOk_value rfl (v := .pointer (some ⟨g, y * 3, none⟩)) (by go_simp) rfl
                  · have f9_ : a1.eval (.tmp 9) = .slice A5 s.length c5 := hk1.ev_old 9 (by kernel_rfl)
                    have g9_ : a1.tmps[9]?.getD undef = .slice A5 s.length c5 := by simpa [Act.eval] using f9_
                    exact stepOk_value rfl (v := .slice A5 s.length c5) (by go_simp) rfl
                  · have f7_ : a1.eval (.tmp 7) = .pointer (some ⟨b, 0, none⟩) := hk1.ev_old 7 (by kernel_rfl)
                    have g7_ : a1.tmps[7]?.getD undef = .pointer (some ⟨b, 0, none⟩) := by simpa [Act.eval] using f7_
                    exact stepOk_value rfl (v := .pointer (some ⟨b, 2, none⟩)) (by go_simp) rfl
                  · obtain ⟨y4, e4, q4, rfl⟩ := hk1.ev_new hd1 4 63 (by kernel_rfl) rfl
                    have kc := ((hV.below hb0).below hk1.below).cell_ (k := 2) (u := .int .i64 (k0 : Int)) rfl
                    exact stepOk_value rfl (v := .int .i64 (k0 : Int)) (by go_simp) rfl
                  · obtain ⟨y5, e5, q5, rfl⟩ := hk1.ev_new hd1 5 64 (by kernel_rfl) rfl
                    exact stepOk_value rfl (v := .int .i64 (k1 : Int)) (by go_simp) rfl
                · intro a1 wq hb7 hp
                  obtain ⟨x0, p0, x1, p1, x2, p2, x3, p3, x4, p4, x5, p5, x6, p6, rfl⟩ := hp
                  simp only [gv17] at p0 p1 p2 p3 p4 p5 p6
                  subst p0 p1 p2 p3 p4 p5 p6
                  simp only [List.drop_succ_cons, List.drop_zero, Act.put, List.setIfInBounds_toArray, List.set_cons_succ, List.set_cons_zero]
                  have hbq : Below w0.heap.size w0 wq := ((But1.of_below hBw8).then_ (hbut.then_ (But1.of_below hb7))).below hb hg
                  have hcm := come_any w0 wq g y l' A5 c5 s k1 hbq hg (hS.below hb7) hyl (hDs.below hb7).sees hs64 hsy.1 (by omega) (by omega)
                  rw [HCF.out] at hcm
                  cases cf with
                  | none =>
                    go_wp2_with (go_at_call 80; refine hcm.mono ?_; rintro e w9 ⟨rfl, hbut9, hS9⟩)
                    go_ret
                    exact GoOut.err (by rw [HR.out, ← HC2.out]) ((But1.of_below hBw8).then_ (hbut.then_ ((But1.of_below hb7).then_ hbut9))) rfl
                  | some s9 =>
                    go_wp2_with (go_at_call 80; refine hcm.mono ?_; rintro e w9 ⟨rfl, hbut9, hS9⟩)
                    go_roundw
                    case rel => exact ⟨q + 1, l'.set y s9, by have := HLT.out; omega, by go_num, hbut.then_ ((But1.of_below hb7).then_ hbut9), hS9, come_low hs64 hk4 hlow' HCF.out, Lib.hid (by rw [List.length_set]; exact HM'.out), Lib.hid HC2.out⟩
                    case measure => have := HLT.out; simp [intOf]; omega
              · obtain rfl : q = ol := by omega
                have hco := HCO.out
                rw [List.drop_of_length_le (by rw [HOL.out]; exact Nat.le_refl _)] at hco
                have hfin : goF m.p l k = .ok l' := by rw [HR.out, ← hco]; rfl
                have HFIN := Lib.hid hfin
                clear hco hfin hO hFO
                go_wp2_with fail
                go_ret
                exact GoOut.ok HFIN.out ((But1.of_below hBw8).then_ hbut) rfl hS
          · go_enter Try.func59, Try.ntmps59
            go_wp2_with (first
              | (with_reducible refine wpList_box (o := ⟨some 3, _, _, _, _, _⟩) rfl (.tmp 0) 26 rfl m.cells rfl 4 (pm4 m) (by decide) ?_; intro gc w1 hgc hC hB1; have hS3b := hS3.step hB1)
              | (with_reducible refine wpList_load (o := ⟨some 16, _, _, _, _, _⟩) rfl (.tmp 15) 64 rfl g (k * 3) _ rfl (c3 (⟨true, st, k0⟩, A, c)) 3 rfl aggSp hS3b ?_)
              | (with_reducible refine wpList_alloc (o := ⟨some 7, _, _, _, _, _⟩) rfl 64 rfl (c3 (default, none, 0)) zeroSp 3 rfl (by decide) ?_; intro b w2 hgw2 hFw2 hBw2)
              | (
                  with_reducible refine wpList_store rfl rfl (.tmp 7) (.tmp 16) 64 rfl b 0 w1.heap.size 64 3 (c3 (default, none, 0)) (c3 (⟨true, st, k0⟩, A, c)) ?_ ?_ 3 ?_ ?_ ?_ ?_ ?_ w1 ?_ ?_ ?_
                  · rfl
                  · rfl
                  · rfl
                  · exact aggSp
                  · exact hFw2
                  · omega
                  · exact c3_one _
                  · exact hBw2
                  · exact hgw2
                  intro w3 hFw3 hBw3 hkw3 hsw3
                  rw [splice_c3] at hFw3; have v0 := hFw3.cell_ (k := 0) (u := .bool true) rfl; have hC3 := hC.below hBw3; have hBz3 := Below.then_ hB1 hBw3)
              | (with_reducible refine wpList_load (o := ⟨some 20, _, _, _, _, _⟩) rfl (.tmp 3) 26 rfl gc 0 _ rfl m.cells 4 (pm4 m) aggCode hC3.sees ?_)
              | (go_at_call 76; refine (HE.out _ hBz3).mono ?_; rintro e wE ⟨rfl, hBE⟩; have hV4 := hFw3.below hBE; have v1 := hV4.cell_ (k := 1) (u := .slice A N c) (by rw [← hN]; rfl); have hC4 := hC3.below hBE; have hBz := Below.then_ hBz3 hBE; have u3 := hC4.cell_ (k := 3) (u := .slice (some ⟨bi, oi, none⟩) m.ni m.ci) (by rw [HCC.out]; rfl); have hX4 := hX0.step hBz)
              | (with_reducible refine wpList_load (o := ⟨some 31, _, _, _, _, _⟩) rfl (.tmp 30) 53 rfl bi (oi + k * 4) _ rfl j.cells 4 (jn4 j) aggIns hX4 ?_)
              | (with_reducible refine wpList_alloc (o := ⟨some 8, _, _, _, _, _⟩) rfl 53 rfl (Jn.cells default) zeroIns 4 rfl (by decide) ?_; intro bj w5 hgw5 hFw5 hBw5)
              | (
                  with_reducible refine wpList_store rfl rfl (.tmp 8) (.tmp 31) 53 rfl bj 0 wE.heap.size 53 4 (Jn.cells default) j.cells ?_ ?_ 4 ?_ ?_ ?_ ?_ ?_ wE ?_ ?_ ?_
                  · rfl
                  · rfl
                  · rfl
                  · exact aggIns
                  · exact hFw5
                  · omega
                  · exact jn_one j
                  · exact hBw5
                  · exact hgw5
                  intro w6 hFw6 hBw6 hkw6 hsw6
                  rw [splice_jn] at hFw6; have j0 := hFw6.cell_ (k := 0) rfl; have j2 := hFw6.cell_ (k := 2) rfl; have hC6 := hC4.below hBw6; have hV6 := hV4.below hBw6; have v1 := hV6.cell_ (k := 1) (u := .slice A N c) (by rw [← hN]; rfl); have hB6 := Below.then_ hBz hBw6)
              | (go_at_call 77; refine (HJ.out _).mono ?_; rintro e wj ⟨rfl, rfl⟩)
              | (with_reducible refine wpList_load (o := ⟨some 42, _, _, _, _, _⟩) rfl (.tmp 3) 26 rfl gc 0 _ rfl m.cells 4 (pm4 m) aggCode hC6.sees ?_)
              | (with_reducible refine wpList_load (o := ⟨some 43, _, _, _, _, _⟩) rfl (.tmp 8) 53 rfl bj 0 _ rfl j.cells 4 (jn4 j) aggIns hFw6.sees ?_)
              | (go_at_call 78; refine (HDN.out _ hB6).mono ?_; rintro e w7 ⟨A5, c5, rfl, hFD, hB7⟩; have hBw7 := Below.then_ hB6 hB7; have hJ7 := hFw6.below hB7; have hV7 := hV6.below hB7)
              | (with_reducible refine wpList_load (o := ⟨some 51, _, _, _, _, _⟩) rfl (.tmp 8) 53 rfl bj 0 _ rfl j.cells 4 (jn4 j) aggIns hJ7.sees ?_)
              | (go_at_call 79; refine (HON.out _ hBw7).mono ?_; rintro e w8 ⟨go, rfl, hFO, hB8⟩; have hBw8 := Below.then_ hBw7 hB8; have hV8 := hV7.below hB8; have hD8 := hFD.below hB8))
            have hS8 := h.below hBw8
            have hgo : go ≠ g := hgb go (Nat.le_trans (Nat.le_trans hBw7.size (Nat.le_refl _)) hFO.block.2)
            have hbg : b ≠ g := hgb b (Nat.le_trans hB1.size hgw2)
            clear HE HIE HDN HON HJ hS3 hFA hcapA hm0 hxj hX0 hX4 hC hC3 hC4 hC6 hV4 hV6 hV7 hFw2 hBw2 hFw5 hBw5 hFw6 hBw6 hJ7 hFD v0 v1 u3 j0 j2 hBz hBz3 hB6 hBE hB7 hB8 hFw3 hBw3 hB1
            go_loopw [55] (fun i wr => ∃ q l', q ≤ ol ∧ i = .int .i64 (q : Nat) ∧ But1 g w8 wr ∧ SpAt w0.heap.size g wr l' ∧ Low (k + 1) l' ∧ Hid (l'.length = M) ∧ Hid (comes s k1 (qs.drop q) l' = comes s k1 qs l)) (fun i _ => ol - (intOf i).toNat)
            case atStart => exact ⟨0, l, Nat.zero_le _, rfl, But1.refl _ _, hS8, fun x hx => ⟨(hlow x hx).1, Nat.le_succ_of_le (hlow x hx).2⟩, HM, Lib.hid rfl⟩
            case round =>
              obtain ⟨q, l', hq, rfl, hbut, hS, hlow', HM', HCO⟩ := hrel
              have hV := hV8.but1 hbut hbg
              have hO := hFO.but1 hbut hgo
              obtain ⟨ys, hys⟩ := hS8.block
              have hDs := hD8.keepB (KeepB.of_but1 hys ne_sp hbut)
              by_cases hlt : q < ol
              · have hql : q < qs.length := by rw [HOL.out]; exact hlt
                obtain ⟨y, hy⟩ : ∃ y, qs[q] = y := ⟨_, rfl⟩
                have hyM : y < M := by
                  have := (HQ.out qs[q] (List.getElem_mem hql)).2
                  rw [HNI.out] at this
                  omega
                have ho := hO.cell_ (k := q) (u := .int .i64 (y : Int)) (by simp [ic, hql, hy])
                have hdr : qs.drop q = y :: qs.drop (q + 1) := by rw [← hy]; exact List.drop_eq_getElem_cons hql
                have hco := HCO.out
                rw [hdr] at hco
                rw [comes_cons] at hco
                have HLT := Lib.hid hlt
                obtain ⟨cf, hcf⟩ : ∃ cf, comeF (sp l' y) s k1 = cf := ⟨_, rfl⟩
                rw [hcf] at hco
                have HCF := Lib.hid hcf
                have HC2 := Lib.hid hco
                have hyl : y < l'.length := by rw [HM'.out]; exact hyM
                have hsy := hlow'.sp y
                clear hcf hco hdr hy hql
                go_wp2_with fail
                refine region_all_tail 7 (gv17 g b M y s.length c5 k0 k1 A5) (by kernel_rfl) (by kernel_rfl) (by kernel_rfl) (gv17_stab _ _ _ _ _ _ _ _ _) ?_ ?_
                · intro wz hb0
                  simp only [List.take_succ_cons, List.take_zero]
                  refine ⟨?_, ?_, ?_, ?_, ?_, ?_, ?_, trivial⟩
                  all_goals intro listed a1 w' hk1 hd1
                  · have f1_ : a1.eval (.tmp 1) = .slice (some ⟨g, 0, none⟩) M M := hk1.ev_old 1 (by kernel_rfl)
                    have g1_ : a1.tmps[1]?.getD undef = .slice (some ⟨g, 0, none⟩) M M := by simpa [Act.eval] using f1_
                    exact stepOk_value rfl (v := .slice (some ⟨g, 0, none⟩) M M) (by go_simp) rfl
                  · have f12_ : a1.eval (.tmp 12) = .int .i64 (y : Int) := hk1.ev_old 12 (by kernel_rfl)
                    have g12_ : a1.tmps[12]?.getD undef = .int .i64 (y : Int) := by simpa [Act.eval] using f12_
                    exact stepOk_value rfl (v := .int .i64 (y : Int)) (by go_simp) rfl
                  · obtain ⟨y0, e0, q0, rfl⟩ := hk1.ev_new hd1 0 59 (by kernel_rfl) rfl
                    obtain ⟨y1, e1, q1, rfl⟩ := hk1.ev_new hd1 1 60 (by kernel_rfl) rfl
                    exact stepOk_value rfl (v := .pointer (some ⟨g, y * 3, none⟩)) (by go_simp) rfl
                  · have f9_ : a1.eval (.tmp 9) = .slice A5 s.length c5 := hk1.ev_old 9 (by kernel_rfl)
                    have g9_ : a1.tmps[9]?.getD undef = .slice A5 s.length c5 := by simpa [Act.eval] using f9_
                    exact stepOk_value rfl (v := .slice A5 s.length c5) (by go_simp) rfl
                  · have f7_ : a1.eval (.tmp 7) = .pointer (some ⟨b, 0, none⟩) := hk1.ev_old 7 (by kernel_rfl)
                    have g7_ : a1.tmps[7]?.getD undef = .pointer (some ⟨b, 0, none⟩) := by simpa [Act.eval] using f7_
                    exact stepOk_value rfl (v := .pointer (some ⟨b, 2, none⟩)) (by go_simp) rfl
                  · obtain ⟨y4, e4, q4, rfl⟩ := hk1.ev_new hd1 4 63 (by kernel_rfl) rfl
                    have kc := ((hV.below hb0).below hk1.below).cell_ (k := 2) (u := .int .i64 (k0 : Int)) rfl
                    exact stepOk_value rfl (v := .int .i64 (k0 : Int)) (by go_simp) rfl
                  · obtain ⟨y5, e5, q5, rfl⟩ := hk1.ev_new hd1 5 64 (by kernel_rfl) rfl
                    exact stepOk_value rfl (v := .int .i64 (k1 : Int)) (by go_simp) rfl
                · intro a1 wq hb7 hp
                  obtain ⟨x0, p0, x1, p1, x2, p2, x3, p3, x4, p4, x5, p5, x6, p6, rfl⟩ := hp
                  simp only [gv17] at p0 p1 p2 p3 p4 p5 p6
                  subst p0 p1 p2 p3 p4 p5 p6
                  simp only [List.drop_succ_cons, List.drop_zero, Act.put, List.setIfInBounds_toArray, List.set_cons_succ, List.set_cons_zero]
                  have hbq : Below w0.heap.size w0 wq := ((But1.of_below hBw8).then_ (hbut.then_ (But1.of_below hb7))).below hb hg
                  have hcm := come_any w0 wq g y l' A5 c5 s k1 hbq hg (hS.below hb7) hyl (hDs.below hb7).sees hs64 hsy.1 (by omega) (by omega)
                  rw [HCF.out] at hcm
                  cases cf with
                  | none =>
                    go_wp2_with (go_at_call 80; refine hcm.mono ?_; rintro e w9 ⟨rfl, hbut9, hS9⟩)
                    go_ret
                    exact GoOut.err (by rw [HR.out, ← HC2.out]) ((But1.of_below hBw8).then_ (hbut.then_ ((But1.of_below hb7).then_ hbut9))) rfl
                  | some s9 =>
                    go_wp2_with (go_at_call 80; refine hcm.mono ?_; rintro e w9 ⟨rfl, hbut9, hS9⟩)
                    go_roundw
                    case rel => exact ⟨q + 1, l'.set y s9, by have := HLT.out; omega, by go_num, hbut.then_ ((But1.of_below hb7).then_ hbut9), hS9, come_low hs64 hk4 hlow' HCF.out, Lib.hid (by rw [List.length_set]; exact HM'.out), Lib.hid HC2.out⟩
                    case measure => have := HLT.out; simp [intOf]; omega
              · obtain rfl : q = ol := by omega
                have hco := HCO.out
                rw [List.drop_of_length_le (by rw [HOL.out]; exact Nat.le_refl _)] at hco
                have hfin : goF m.p l k = .ok l' := by rw [HR.out, ← hco]; rfl
                have HFIN := Lib.hid hfin
                clear hco hfin hO hFO
                go_wp2_with fail
                go_ret
                exact GoOut.ok HFIN.out ((But1.of_below hBw8).then_ hbut) rfl hS
end Go.Proofs.Ytangblcfdboghaa
