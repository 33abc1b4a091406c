/-
  Which sector has a cell's bytes, its turn, the bytes, as the document's own answer of layer 7 looks.
-/
import Derived.Test.YtpdfalgjmeagjaaCpB13
import Derived.Test.YtpdfalgjmeagjaaCpB14
namespace Go.Proofs.Ytpdfalgjmeagjaa
open Go.RowKit
set_option linter.unusedVariables false
theorem wanted_unT {ops : Array Oper} {o : Oper} {a : Act} {j : Nat} {b : Bool} {t : Tmp} (hg : o.guard = some (j, b)) (ht : ((ops[j]?).bind (·.dst)) = some t) (hv : a.tmps[t]? = some undef) : Region.wanted o (yielded ops a.tmps) = false := by
  simp [Region.wanted, hg, yielded, ht, hv, undef]
theorem results_three {fn : Func} {p q r : Tmp} (h : fn.results = #[.tmp p, .tmp q, .tmp r]) (tmps : Array Value) (P : Program) (w : World) : (results fn tmps).run P w = .ok (.tuple #[tmps.getD p undef, tmps.getD q undef, tmps.getD r undef]) w := by
  simp [results, h]
theorem secC_bytes {t n : UInt32} {r : List UInt32} {x : Nat × List UInt8} (h : secC (t :: n :: r) = some x) (hl : r.length = 62) : ∃ L, getBytes (r.take 61) (n.toNat : Int) = (L, 0) ∧ x = (t.toNat, L) := by
  simp only [secC] at h
  split at h
  · rename_i hc
    simp only [Option.some.injEq] at h
    exact ⟨_, getBytes_some _ _ (by rw [List.length_take, hl]; have := hc.2.2; omega), h.symm⟩
  · cases h
theorem cut_u (G lo cp : Nat) (w : World) (h : 64 ≤ cp) : (Instr.slice 54 (.slice (some ⟨G, lo, none⟩) 64 cp) (some (.int .i64 2)) (some (.int .i64 63)) none).run Try.prog w = .ok (.slice (some ⟨G, lo + 2, none⟩) 61 (cp - 2)) w := by
  have hz : (sizeOf (Try.prog.elem 54)).run Try.prog w = .ok 1 w := by kernel_rfl
  rw [run_slice_lh w 54 _ 64 cp elemU .i64 .i64 2 63 (by omega) (by omega) (by omega), hz]
  simp [Result.andThen, sliced, Addr.add, show ¬ (cp = 2) from by omega]
theorem cut_x (G lo d : Nat) (h : 128 ≤ d) (hl : lo = 0 ∨ lo = 64) (w : World) : (Instr.slice 54 (.slice (some ⟨G, 0, none⟩) 128 d) (some (.int .i64 (lo : Int))) (some (.int .i64 ((lo + 64 : Nat) : Int))) none).run Try.prog w = .ok (.slice (some ⟨G, lo, none⟩) 64 (d - lo)) w := by
  have hz : (sizeOf (Try.prog.elem 54)).run Try.prog w = .ok 1 w := by kernel_rfl
  rw [run_slice_lh w 54 _ 128 d elemU .i64 .i64 (lo : Int) ((lo + 64 : Nat) : Int) (by omega) (by omega) (by omega), hz]
  rcases hl with rfl | rfl <;> simp [Result.andThen, sliced, Addr.add, show ¬ (d = 0) from by omega, show ¬ (d = 64) from by omega]
theorem sees_mid {w : World} {B G off : Nat} {t n : UInt32} {r : List UInt32} (h : Sees w B (some ⟨G, off, none⟩) (cw (t :: n :: r))) : Sees w B (some ⟨G, off + 2, none⟩) (cw (r.take 61)) := by
  obtain ⟨g, o, e, hg, hc⟩ := h (by simp)
  obtain ⟨rfl, rfl⟩ : G = g ∧ off = o := by simpa using e
  refine fun _ => ⟨G, off + 2, rfl, hg, fun j u hu => ?_⟩
  have hj := (List.getElem?_eq_some_iff.1 hu).1
  rw [List.length_map, List.length_take] at hj
  have := hc (2 + j) u (by
    rw [List.getElem?_map, List.getElem?_take, if_pos (by omega)] at hu
    rw [show 2 + j = j + 1 + 1 from by omega]
    simpa using hu)
  rw [show off + 2 + j = off + (2 + j) from by omega]
  exact this
def Fl.rclook (S : Fl) (f : Nat) : Co := if S.down then ⟨-1, 0, []⟩ else S.clook f
def clF (G d : Nat) (j : Nat) (x : Value) (w : World) : Prop :=
  match j with
  | 0 => x = .slice (some ⟨G, 0, none⟩) 128 d
  | 1 => x = .slice (some ⟨G, 0, none⟩) 64 d
  | 2 => x = .slice (some ⟨G, 0, none⟩) 128 d
  | 3 => x = .slice (some ⟨G, 64, none⟩) 64 (d - 64)
  | 4 => x = .slice (some ⟨G, 0, none⟩) 64 d
  | _ => True
theorem clF_stab (G d : Nat) : ∀ j x w w', Below w.heap.size w w' → clF G d j x w → clF G d j x w' := fun _ _ _ _ _ h => h
def c8A (G d t1 : Nat) (on : Int) (tx ty : UInt32) (j : Nat) (x : Value) (w : World) : Prop :=
  match j with
  | 0 => x = .slice (some ⟨G, 64, none⟩) 64 (d - 64)
  | 1 => x = .bool false
  | 2 => x = .bool false
  | 3 => x = undef
  | 4 => x = undef
  | 5 => x = undef
  | 6 => x = undef
  | 7 => x = undef
  | 8 => x = undef
  | 9 => x = undef
  | 10 => x = undef
  | 11 => x = undef
  | 12 => x = undef
  | 13 => x = undef
  | 14 => x = undef
  | _ => True
theorem c8A_stab (G d t1 : Nat) (on : Int) (tx ty : UInt32) : ∀ j x w w', Below w.heap.size w w' → c8A G d t1 on tx ty j x w → c8A G d t1 on tx ty j x w' := fun _ _ _ _ _ h => h
def c8B (G d t1 : Nat) (on : Int) (tx ty : UInt32) (j : Nat) (x : Value) (w : World) : Prop :=
  match j with
  | 0 => x = .slice (some ⟨G, 64, none⟩) 64 (d - 64)
  | 1 => x = .bool true
  | 2 => x = .bool true
  | 3 => x = .int .i64 on
  | 4 => x = .bool true
  | 5 => x = .bool true
  | 6 => x = undef
  | 7 => x = undef
  | 8 => x = undef
  | 9 => x = undef
  | 10 => x = undef
  | 11 => x = undef
  | 12 => x = undef
  | 13 => x = undef
  | 14 => x = .bool true
  | _ => True
theorem c8B_stab (G d t1 : Nat) (on : Int) (tx ty : UInt32) : ∀ j x w w', Below w.heap.size w w' → c8B G d t1 on tx ty j x w → c8B G d t1 on tx ty j x w' := fun _ _ _ _ _ h => h
def c8C (G d t1 : Nat) (on : Int) (tx ty : UInt32) (j : Nat) (x : Value) (w : World) : Prop :=
  match j with
  | 0 => x = .slice (some ⟨G, 64, none⟩) 64 (d - 64)
  | 1 => x = .bool true
  | 2 => x = .bool true
  | 3 => x = .int .i64 on
  | 4 => x = .bool false
  | 5 => x = .bool false
  | 6 => x = .slice (some ⟨G, 64, none⟩) 64 (d - 64)
  | 7 => x = .pointer (some ⟨G, 64, none⟩)
  | 8 => x = .int .u32 (ty.toNat : Int)
  | 9 => x = .slice (some ⟨G, 0, none⟩) 64 d
  | 10 => x = .pointer (some ⟨G, 0, none⟩)
  | 11 => x = .int .u32 (tx.toNat : Int)
  | 12 => x = .int .u32 (t1 : Int)
  | 13 => x = .bool true
  | 14 => x = .bool true
  | _ => True
theorem c8C_stab (G d t1 : Nat) (on : Int) (tx ty : UInt32) : ∀ j x w w', Below w.heap.size w w' → c8C G d t1 on tx ty j x w → c8C G d t1 on tx ty j x w' := fun _ _ _ _ _ h => h
def c8D (G d t1 : Nat) (on : Int) (tx ty : UInt32) (j : Nat) (x : Value) (w : World) : Prop :=
  match j with
  | 0 => x = .slice (some ⟨G, 64, none⟩) 64 (d - 64)
  | 1 => x = .bool true
  | 2 => x = .bool true
  | 3 => x = .int .i64 on
  | 4 => x = .bool false
  | 5 => x = .bool false
  | 6 => x = .slice (some ⟨G, 64, none⟩) 64 (d - 64)
  | 7 => x = .pointer (some ⟨G, 64, none⟩)
  | 8 => x = .int .u32 (ty.toNat : Int)
  | 9 => x = .slice (some ⟨G, 0, none⟩) 64 d
  | 10 => x = .pointer (some ⟨G, 0, none⟩)
  | 11 => x = .int .u32 (tx.toNat : Int)
  | 12 => x = .int .u32 (t1 : Int)
  | 13 => x = .bool false
  | 14 => x = .bool false
  | _ => True
theorem c8D_stab (G d t1 : Nat) (on : Int) (tx ty : UInt32) : ∀ j x w w', Below w.heap.size w w' → c8D G d t1 on tx ty j x w → c8D G d t1 on tx ty j x w' := fun _ _ _ _ _ h => h
def clT0 (base G d : Nat) (nx : UInt32) (L : List UInt8) (j : Nat) (x : Value) (w : World) : Prop :=
  match j with
  | 0 => x = .slice (some ⟨G, 0, none⟩) 64 d
  | 1 => x = .slice (some ⟨G, 2, none⟩) 61 (d - 2)
  | 2 => x = .slice (some ⟨G, 0, none⟩) 64 d
  | 3 => x = .pointer (some ⟨G, 1, none⟩)
  | 4 => x = .int .u32 (nx.toNat : Int)
  | 5 => x = .int .i64 (nx.toNat : Int)
  | 6 => ∃ A c, x = .tuple #[.slice A L.length c, .int .i64 0] ∧ Fresh base 5 w A L.length c (cb L)
  | 7 => ∃ A c, x = .tuple #[.slice A L.length c, .int .i64 0] ∧ Fresh base 5 w A L.length c (cb L)
  | 8 => ∃ A c, x = .slice A L.length c ∧ Fresh base 5 w A L.length c (cb L)
  | 9 => x = .int .i64 0
  | 10 => ∃ A c, x = .slice A L.length c ∧ Fresh base 5 w A L.length c (cb L)
  | 11 => x = .int .i64 0
  | _ => True
theorem clT0_stab (base G d : Nat) (nx : UInt32) (L : List UInt8) : ∀ j x w w', Below w.heap.size w w' → clT0 base G d nx L j x w → clT0 base G d nx L j x w' := by
  intro j v w w' hb h
  unfold clT0 at *
  split at h <;> first | exact h | (obtain ⟨A, c, h1, h2⟩ := h; exact ⟨A, c, h1, h2.below hb⟩) | trivial
def clU0 (G d N c8 : Nat) (on : Int) (A8 : Option Addr) (tx : UInt32) (j : Nat) (x : Value) (w : World) : Prop :=
  match j with
  | 0 => x = .int .i64 on
  | 1 => x = .slice (some ⟨G, 0, none⟩) 64 d
  | 2 => x = .pointer (some ⟨G, 0, none⟩)
  | 3 => x = .int .u32 (tx.toNat : Int)
  | 4 => x = .int .i64 (tx.toNat : Int)
  | 5 => x = .slice A8 N c8
  | 6 => x = .int .i64 on
  | 7 => x = .int .i64 (tx.toNat : Int)
  | 8 => x = .slice A8 N c8
  | _ => True
theorem clU0_stab (G d N c8 : Nat) (on : Int) (A8 : Option Addr) (tx : UInt32) : ∀ j x w w', Below w.heap.size w w' → clU0 G d N c8 on A8 tx j x w → clU0 G d N c8 on A8 tx j x w' := fun _ _ _ _ _ h => h
def clT64 (base G d : Nat) (ny : UInt32) (L : List UInt8) (j : Nat) (x : Value) (w : World) : Prop :=
  match j with
  | 0 => x = .slice (some ⟨G, 64, none⟩) 64 (d - 64)
  | 1 => x = .slice (some ⟨G, 66, none⟩) 61 (d - 64 - 2)
  | 2 => x = .slice (some ⟨G, 64, none⟩) 64 (d - 64)
  | 3 => x = .pointer (some ⟨G, 65, none⟩)
  | 4 => x = .int .u32 (ny.toNat : Int)
  | 5 => x = .int .i64 (ny.toNat : Int)
  | 6 => ∃ A c, x = .tuple #[.slice A L.length c, .int .i64 0] ∧ Fresh base 5 w A L.length c (cb L)
  | 7 => ∃ A c, x = .tuple #[.slice A L.length c, .int .i64 0] ∧ Fresh base 5 w A L.length c (cb L)
  | 8 => ∃ A c, x = .slice A L.length c ∧ Fresh base 5 w A L.length c (cb L)
  | 9 => x = .int .i64 0
  | 10 => ∃ A c, x = .slice A L.length c ∧ Fresh base 5 w A L.length c (cb L)
  | 11 => x = .int .i64 0
  | _ => True
theorem clT64_stab (base G d : Nat) (ny : UInt32) (L : List UInt8) : ∀ j x w w', Below w.heap.size w w' → clT64 base G d ny L j x w → clT64 base G d ny L j x w' := by
  intro j v w w' hb h
  unfold clT64 at *
  split at h <;> first | exact h | (obtain ⟨A, c, h1, h2⟩ := h; exact ⟨A, c, h1, h2.below hb⟩) | trivial
def clU64 (G d N c8 : Nat) (on : Int) (A8 : Option Addr) (ty : UInt32) (j : Nat) (x : Value) (w : World) : Prop :=
  match j with
  | 0 => x = .int .i64 on
  | 1 => x = .slice (some ⟨G, 64, none⟩) 64 (d - 64)
  | 2 => x = .pointer (some ⟨G, 64, none⟩)
  | 3 => x = .int .u32 (ty.toNat : Int)
  | 4 => x = .int .i64 (ty.toNat : Int)
  | 5 => x = .slice A8 N c8
  | 6 => x = .int .i64 on
  | 7 => x = .int .i64 (ty.toNat : Int)
  | 8 => x = .slice A8 N c8
  | _ => True
theorem clU64_stab (G d N c8 : Nat) (on : Int) (A8 : Option Addr) (ty : UInt32) : ∀ j x w w', Below w.heap.size w w' → clU64 G d N c8 on A8 ty j x w → clU64 G d N c8 on A8 ty j x w' := fun _ _ _ _ _ h => h
section
variable {w : World} {A : Option Addr} {c : Nat} {S : Fl}
set_option maxHeartbeats 8000000 in
set_option maxRecDepth 100000 in
theorem rCLook_any (h : RnAt w A c S) (f : Nat) (hf : f + 2 ≤ S.n) (X : Co) (hX : S.rclook f = X) :
    Calls Try.prog 64 #[.agg (rdL (f : Int) 2).toArray, .agg (S.rL A c).toArray] w fun e w' => ∃ A2 n2 c2, e = .returned (.tuple #[.int .i64 X.s, .int .i64 (X.t : Int), .slice A2 n2 c2]) ∧ Fresh w.heap.size 5 w' A2 n2 c2 (cb X.b) ∧ X.b.length = n2 ∧ Below w.heap.size w w' := by
  have hn := h.n_le
  cases hd : S.down with
  | true =>
    obtain rfl : (⟨-1, 0, []⟩ : Co) = X := by rw [← hX]; simp [Fl.rclook, hd]
    have hR : ∀ w', Below w.heap.size w w' → Calls Try.prog 144 #[.agg (rdL (f : Int) 2).toArray, .agg (S.rL A c).toArray, .int .i64 0, .int .i64 128] w' fun e w2 => e = .returned (.tuple #[.slice none 0 0, .int .i64 40]) ∧ Below w'.heap.size w' w2 := fun w' x => rdRead_no (h.step x) f 2 (by omega) 0 128 (by decide) (.inr hd)
    have HR := Lib.hid hR
    clear hR hX hd
    go_enter Try.func64, Try.ntmps64
    go_wp2_with (first
      | (with_reducible refine wpList_box (o := ⟨some 2, _, _, _, _, _⟩) rfl (.tmp 0) 109 rfl (rdL (f : Int) 2) rfl 2 rfl (by decide) ?_; intro g w1 hg hF hB; have z1 := hB.size)
      | (with_reducible refine wpList_box (o := ⟨some 3, _, _, _, _, _⟩) rfl (.tmp 1) 105 rfl (S.rL A c) rfl 5 rfl (by decide) ?_; intro gn w2 hgn hFn hBn; have z2 := hBn.size; have hF2 := hF.below hBn; have hB2 := Below.then_ hB hBn)
      | (with_reducible refine wpList_load (o := ⟨some 16, _, _, _, _, _⟩) rfl (.tmp 2) 109 rfl g 0 _ rfl (rdL (f : Int) 2) 2 rfl (by kernel_rfl) hF2.sees ?_)
      | (with_reducible refine wpList_load (o := ⟨some 17, _, _, _, _, _⟩) rfl (.tmp 3) 105 rfl gn 0 _ rfl (S.rL A c) 5 rfl (by kernel_rfl) hFn.sees ?_)
      | (go_at_call 144; refine (HR.out _ hB2).mono ?_; rintro e w3 ⟨rfl, hB3⟩))
    (try simp only [Exit.inBlock, Exit.then])
    refine bodyPost_ret (results_three rfl _ _ _) rfl ?_
    exact ⟨none, 0, 0, rfl, fresh_nil _ _ _, rfl, Below.then_ hB2 hB3⟩
  | false =>
    have hl0 : (S.sec f 0).length = 64 := by simp [Fl.sec, Fl.at_, h.len]; omega
    have hl1 : (S.sec f 1).length = 64 := by simp [Fl.sec, Fl.at_, h.len]; omega
    have hlk : newC (coOf 0 (secC (S.sec f 0))) (coOf 1 (secC (S.sec f 1))) = X := by rw [← hX]; simp [Fl.rclook, hd]; rfl
    have hR : ∀ w', Below w.heap.size w w' → Calls Try.prog 144 #[.agg (rdL (f : Int) 2).toArray, .agg (S.rL A c).toArray, .int .i64 0, .int .i64 128] w' fun e w2 => ∃ B d, e = .returned (.tuple #[.slice B 128 d, .int .i64 0]) ∧ Fresh w'.heap.size 22 w2 B 128 d (cw (S.sec f 0 ++ S.sec f 1)) ∧ Below w'.heap.size w' w2 := fun w' x => by
      have := rdRead_ok (h.step x) hd f 2 0 128 hf (by decide)
      rw [sec_parts] at this
      exact this
    clear hX hd
    revert hR hlk hl0 hl1
    generalize S.sec f 0 = a
    generalize S.sec f 1 = b
    intro hl0 hl1 hlk hR
    obtain ⟨tx, nx, ra, rfl⟩ : ∃ t n r, a = t :: n :: r := by
      match a, hl0 with
      | t :: n :: r, _ => exact ⟨t, n, r, rfl⟩
    obtain ⟨ty, ny, rb2, rfl⟩ : ∃ t n r, b = t :: n :: r := by
      match b, hl1 with
      | t :: n :: r, _ => exact ⟨t, n, r, rfl⟩
    have HL0 := Lib.hid hl0
    have HL1 := Lib.hid hl1
    have HR := Lib.hid hR
    have txl := tx.toNat_lt
    obtain ⟨t1, ht1⟩ : ∃ t1, (tx.toNat + 1) % 4294967296 = t1 := ⟨_, rfl⟩
    have et1 : IntKind.u32.wrap ((tx.toNat : Int) + 1) = (t1 : Int) := by rw [IntKind.wrap_u32]; omega
    replace hl0 : ra.length = 62 := by simp only [List.length_cons] at hl0; omega
    replace hl1 : rb2.length = 62 := by simp only [List.length_cons] at hl1; omega
    cases ha : secC (tx :: nx :: ra) with
    | none =>
      have HA : Hid ((secC (tx :: nx :: ra)).isSome = false) := Lib.hid (by rw [ha]; rfl)
      cases hb : secC (ty :: ny :: rb2) with
      | none =>
        have HB : Hid ((secC (ty :: ny :: rb2)).isSome = false) := Lib.hid (by rw [hb]; rfl)
        rw [ha, hb] at hlk
        obtain rfl : (⟨-1, 0, []⟩ : Co) = X := hlk
        clear ha hb hR
        go_enter Try.func64, Try.ntmps64
        go_wp2_with (first
          | (with_reducible refine wpList_box (o := ⟨some 2, _, _, _, _, _⟩) rfl (.tmp 0) 109 rfl (rdL (f : Int) 2) rfl 2 rfl (by decide) ?_; intro g w1 hg hF hB; have z1 := hB.size)
          | (with_reducible refine wpList_box (o := ⟨some 3, _, _, _, _, _⟩) rfl (.tmp 1) 105 rfl (S.rL A c) rfl 5 rfl (by decide) ?_; intro gn w2 hgn hFn hBn; have z2 := hBn.size; have hF2 := hF.below hBn; have hB2 := Below.then_ hB hBn)
          | (with_reducible refine wpList_load (o := ⟨some 16, _, _, _, _, _⟩) rfl (.tmp 2) 109 rfl g 0 _ rfl (rdL (f : Int) 2) 2 rfl (by kernel_rfl) hF2.sees ?_)
          | (with_reducible refine wpList_load (o := ⟨some 17, _, _, _, _, _⟩) rfl (.tmp 3) 105 rfl gn 0 _ rfl (S.rL A c) 5 rfl (by kernel_rfl) hFn.sees ?_)
          | (go_at_call 144; refine (HR.out _ hB2).mono ?_; rintro e w3 ⟨Bq, d, rfl, hFr, hB3⟩; have hB3w := Below.then_ hB2 hB3; obtain ⟨G, rfl, hG1, hG2⟩ := hFr.spot_ (by omega); have hdc : 128 ≤ d := hFr.cap.1; obtain ⟨hs0, hs1⟩ := sees_parts HL0.out HL1.out hFr.sees))
        clear hFr hF hFn hF2 hB hBn hB2 hB3 z1 z2 hG1 hG2 hg hgn
        refine region_all_tail 5 (clF G d) (by kernel_rfl) (by kernel_rfl) (by kernel_rfl) (clF_stab _ _) ?_ ?_
        · intro w0 hb0
          simp only [List.take_succ_cons, List.take_zero]
          refine ⟨?_, ?_, ?_, ?_, ?_, trivial⟩
          all_goals intro listed a1 w' hk1 hd1
          · have f7_ : a1.eval (.tmp 7) = .slice (some ⟨G, 0, none⟩) 128 d := hk1.ev_old 7 (by kernel_rfl)
            have g7_ : a1.tmps[7]?.getD undef = .slice (some ⟨G, 0, none⟩) 128 d := by simpa [Act.eval] using f7_
            exact stepOk_value rfl (v := .slice (some ⟨G, 0, none⟩) 128 d) (by go_simp) rfl
          · obtain ⟨y0, e0, q0, rfl⟩ := hk1.ev_new hd1 0 23 (by kernel_rfl) rfl
            exact stepOk_value rfl (run_hiU (.tmp 23) rfl e0 (by omega)) rfl
          · have f7_ : a1.eval (.tmp 7) = .slice (some ⟨G, 0, none⟩) 128 d := hk1.ev_old 7 (by kernel_rfl)
            have g7_ : a1.tmps[7]?.getD undef = .slice (some ⟨G, 0, none⟩) 128 d := by simpa [Act.eval] using f7_
            exact stepOk_value rfl (v := .slice (some ⟨G, 0, none⟩) 128 d) (by go_simp) rfl
          · obtain ⟨y2, e2, q2, rfl⟩ := hk1.ev_new hd1 2 25 (by kernel_rfl) rfl
            exact stepOk_value rfl (run_loU (.tmp 25) rfl e2 (by omega)) rfl
          · obtain ⟨y1, e1, q1, rfl⟩ := hk1.ev_new hd1 1 24 (by kernel_rfl) rfl
            exact stepOk_value rfl (v := .slice (some ⟨G, 0, none⟩) 64 d) (by go_simp) rfl
        · intro a1 w7 hb7 hp
          obtain ⟨x0, p0, x1, p1, x2, p2, x3, p3, x4, p4, rfl⟩ := hp
          simp only [clF] at p0 p1 p2 p3 p4
          subst p0 p1 p2 p3 p4
          simp only [List.drop_succ_cons, List.drop_zero, Act.put, List.setIfInBounds_toArray, List.set_cons_succ, List.set_cons_zero]
          have hB4b := Below.then_ hB3w hb7
          have hs0 := hs0.step hb7
          have hs1 := hs1.step hb7
          have hbs := hB4b.size
          go_wp2_with (go_at_call 145; refine (rWhole_any (c := d) hs0 HL0.out false HA.out).mono ?_; rintro e w5 ⟨rfl, hB5⟩; have hB4c := Below.then_ hB4b hB5; have hs0 := hs0.step hB5; have hs1 := hs1.step hB5)
          have hbs := hB4c.size
          refine region_all_tail 15 (c8A G d t1 (-1) tx ty) (by kernel_rfl) (by kernel_rfl) (by kernel_rfl) (c8A_stab _ _ _ _ _ _) ?_ ?_
          · intro w0 hb0
            simp only [List.take_succ_cons, List.take_zero]
            refine ⟨?_, ?_, ?_, ?_, ?_, ?_, ?_, ?_, ?_, ?_, ?_, ?_, ?_, ?_, ?_, trivial⟩
            all_goals intro listed a1 w' hk1 hd1
            · have f10_ : a1.eval (.tmp 10) = .slice (some ⟨G, 64, none⟩) 64 (d - 64) := hk1.ev_old 10 (by kernel_rfl)
              have g10_ : a1.tmps[10]?.getD undef = .slice (some ⟨G, 64, none⟩) 64 (d - 64) := by simpa [Act.eval] using f10_
              exact stepOk_value rfl (v := .slice (some ⟨G, 64, none⟩) 64 (d - 64)) (by go_simp) rfl
            · obtain ⟨y0, e0, q0, rfl⟩ := hk1.ev_new hd1 0 29 (by kernel_rfl) rfl
              refine stepOk_enter rfl (f := 145) (args := #[.slice (some ⟨G, 64, none⟩) 64 (d - 64)]) (by go_simp) ?_
              have ho := rWhole_any (c := d - 64) ((hs1.step hb0).step hk1.below) HL1.out false HB.out
              refine ho.mono ?_
              rintro e w5 ⟨rfl, hB5⟩
              exact ⟨_, rfl, rfl, hB5⟩
            · obtain ⟨y1, e1, q1, rfl⟩ := hk1.ev_new hd1 1 30 (by kernel_rfl) rfl
              exact stepOk_value rfl (v := .bool false) (by go_simp) rfl
            · obtain ⟨y2, e2, q2, rfl⟩ := hk1.ev_new hd1 2 31 (by kernel_rfl) rfl
              have f11_ : a1.eval (.tmp 11) = .int .i64 (-1) := hk1.ev_old 11 (by kernel_rfl)
              have g11_ : a1.tmps[11]?.getD undef = .int .i64 (-1) := by simpa [Act.eval] using f11_
              exact stepOk_offT (wanted_offT (t := 31) rfl rfl q2 rfl) rfl
            · obtain ⟨y2, e2, q2, rfl⟩ := hk1.ev_new hd1 2 31 (by kernel_rfl) rfl
              obtain ⟨y3, e3, q3, rfl⟩ := hk1.ev_new hd1 3 32 (by kernel_rfl) rfl
              exact stepOk_offT (wanted_offT (t := 31) rfl rfl q2 rfl) rfl
            · obtain ⟨y2, e2, q2, rfl⟩ := hk1.ev_new hd1 2 31 (by kernel_rfl) rfl
              obtain ⟨y4, e4, q4, rfl⟩ := hk1.ev_new hd1 4 33 (by kernel_rfl) rfl
              exact stepOk_offT (wanted_offT (t := 31) rfl rfl q2 rfl) rfl
            · obtain ⟨y5, e5, q5, rfl⟩ := hk1.ev_new hd1 5 34 (by kernel_rfl) rfl
              have f10_ : a1.eval (.tmp 10) = .slice (some ⟨G, 64, none⟩) 64 (d - 64) := hk1.ev_old 10 (by kernel_rfl)
              have g10_ : a1.tmps[10]?.getD undef = .slice (some ⟨G, 64, none⟩) 64 (d - 64) := by simpa [Act.eval] using f10_
              exact stepOk_offT (wanted_unT (t := 34) rfl rfl q5) rfl
            · obtain ⟨y5, e5, q5, rfl⟩ := hk1.ev_new hd1 5 34 (by kernel_rfl) rfl
              obtain ⟨y6, e6, q6, rfl⟩ := hk1.ev_new hd1 6 35 (by kernel_rfl) rfl
              exact stepOk_offT (wanted_unT (t := 34) rfl rfl q5) rfl
            · obtain ⟨y5, e5, q5, rfl⟩ := hk1.ev_new hd1 5 34 (by kernel_rfl) rfl
              obtain ⟨y7, e7, q7, rfl⟩ := hk1.ev_new hd1 7 36 (by kernel_rfl) rfl
              exact stepOk_offT (wanted_unT (t := 34) rfl rfl q5) rfl
            · obtain ⟨y5, e5, q5, rfl⟩ := hk1.ev_new hd1 5 34 (by kernel_rfl) rfl
              have f9_ : a1.eval (.tmp 9) = .slice (some ⟨G, 0, none⟩) 64 d := hk1.ev_old 9 (by kernel_rfl)
              have g9_ : a1.tmps[9]?.getD undef = .slice (some ⟨G, 0, none⟩) 64 d := by simpa [Act.eval] using f9_
              exact stepOk_offT (wanted_unT (t := 34) rfl rfl q5) rfl
            · obtain ⟨y5, e5, q5, rfl⟩ := hk1.ev_new hd1 5 34 (by kernel_rfl) rfl
              obtain ⟨y9, e9, q9, rfl⟩ := hk1.ev_new hd1 9 38 (by kernel_rfl) rfl
              exact stepOk_offT (wanted_unT (t := 34) rfl rfl q5) rfl
            · obtain ⟨y5, e5, q5, rfl⟩ := hk1.ev_new hd1 5 34 (by kernel_rfl) rfl
              obtain ⟨y10, e10, q10, rfl⟩ := hk1.ev_new hd1 10 39 (by kernel_rfl) rfl
              exact stepOk_offT (wanted_unT (t := 34) rfl rfl q5) rfl
            · obtain ⟨y5, e5, q5, rfl⟩ := hk1.ev_new hd1 5 34 (by kernel_rfl) rfl
              obtain ⟨y11, e11, q11, rfl⟩ := hk1.ev_new hd1 11 40 (by kernel_rfl) rfl
              exact stepOk_offT (wanted_unT (t := 34) rfl rfl q5) rfl
            · obtain ⟨y5, e5, q5, rfl⟩ := hk1.ev_new hd1 5 34 (by kernel_rfl) rfl
              obtain ⟨y8, e8, q8, rfl⟩ := hk1.ev_new hd1 8 37 (by kernel_rfl) rfl
              obtain ⟨y12, e12, q12, rfl⟩ := hk1.ev_new hd1 12 41 (by kernel_rfl) rfl
              exact stepOk_offT (wanted_unT (t := 34) rfl rfl q5) rfl
            · obtain ⟨y2, e2, q2, rfl⟩ := hk1.ev_new hd1 2 31 (by kernel_rfl) rfl
              obtain ⟨y5, e5, q5, rfl⟩ := hk1.ev_new hd1 5 34 (by kernel_rfl) rfl
              obtain ⟨y13, e13, q13, rfl⟩ := hk1.ev_new hd1 13 42 (by kernel_rfl) rfl
              exact stepOk_offT (wanted_offT (t := 31) rfl rfl q2 rfl) rfl
          · intro a1 w7 hb7 hp
            obtain ⟨x0, p0, x1, p1, x2, p2, x3, p3, x4, p4, x5, p5, x6, p6, x7, p7, x8, p8, x9, p9, x10, p10, x11, p11, x12, p12, x13, p13, x14, p14, rfl⟩ := hp
            simp only [c8A] at p0 p1 p2 p3 p4 p5 p6 p7 p8 p9 p10 p11 p12 p13 p14
            subst p0 p1 p2 p3 p4 p5 p6 p7 p8 p9 p10 p11 p12 p13 p14
            simp only [List.drop_succ_cons, List.drop_zero, Act.put, List.setIfInBounds_toArray, List.set_cons_succ, List.set_cons_zero]
            have hB7 := Below.then_ hB4c hb7
            have hs0 := hs0.step hb7
            have hs1 := hs1.step hb7
            have hbs := hB7.size
            clear hb7 hB4c
            go_wp2_with fail
            (try simp only [Exit.inBlock, Exit.then])
            refine bodyPost_ret (results_three rfl _ _ _) rfl ?_
            exact ⟨none, 0, 0, rfl, fresh_nil _ _ _, rfl, hB7⟩
      | some y =>
        have HB : Hid ((secC (ty :: ny :: rb2)).isSome = true) := Lib.hid (by rw [hb]; rfl)
        rw [ha, hb] at hlk
        obtain rfl : (⟨1, y.1, y.2⟩ : Co) = X := hlk
        obtain ⟨L, hgb, hy⟩ := secC_bytes hb hl1
        subst hy
        have HGB := Lib.hid hgb
        have HM : Hid ((rb2.take 61).length = 61) := Lib.hid (by rw [List.length_take]; omega)
        clear ha hb hR hgb
        go_enter Try.func64, Try.ntmps64
        go_wp2_with (first
          | (with_reducible refine wpList_box (o := ⟨some 2, _, _, _, _, _⟩) rfl (.tmp 0) 109 rfl (rdL (f : Int) 2) rfl 2 rfl (by decide) ?_; intro g w1 hg hF hB; have z1 := hB.size)
          | (with_reducible refine wpList_box (o := ⟨some 3, _, _, _, _, _⟩) rfl (.tmp 1) 105 rfl (S.rL A c) rfl 5 rfl (by decide) ?_; intro gn w2 hgn hFn hBn; have z2 := hBn.size; have hF2 := hF.below hBn; have hB2 := Below.then_ hB hBn)
          | (with_reducible refine wpList_load (o := ⟨some 16, _, _, _, _, _⟩) rfl (.tmp 2) 109 rfl g 0 _ rfl (rdL (f : Int) 2) 2 rfl (by kernel_rfl) hF2.sees ?_)
          | (with_reducible refine wpList_load (o := ⟨some 17, _, _, _, _, _⟩) rfl (.tmp 3) 105 rfl gn 0 _ rfl (S.rL A c) 5 rfl (by kernel_rfl) hFn.sees ?_)
          | (go_at_call 144; refine (HR.out _ hB2).mono ?_; rintro e w3 ⟨Bq, d, rfl, hFr, hB3⟩; have hB3w := Below.then_ hB2 hB3; obtain ⟨G, rfl, hG1, hG2⟩ := hFr.spot_ (by omega); have hdc : 128 ≤ d := hFr.cap.1; obtain ⟨hs0, hs1⟩ := sees_parts HL0.out HL1.out hFr.sees))
        clear hFr hF hFn hF2 hB hBn hB2 hB3 z1 z2 hG1 hG2 hg hgn
        refine region_all_tail 5 (clF G d) (by kernel_rfl) (by kernel_rfl) (by kernel_rfl) (clF_stab _ _) ?_ ?_
        · intro w0 hb0
          simp only [List.take_succ_cons, List.take_zero]
          refine ⟨?_, ?_, ?_, ?_, ?_, trivial⟩
          all_goals intro listed a1 w' hk1 hd1
          · have f7_ : a1.eval (.tmp 7) = .slice (some ⟨G, 0, none⟩) 128 d := hk1.ev_old 7 (by kernel_rfl)
            have g7_ : a1.tmps[7]?.getD undef = .slice (some ⟨G, 0, none⟩) 128 d := by simpa [Act.eval] using f7_
            exact stepOk_value rfl (v := .slice (some ⟨G, 0, none⟩) 128 d) (by go_simp) rfl
          · obtain ⟨y0, e0, q0, rfl⟩ := hk1.ev_new hd1 0 23 (by kernel_rfl) rfl
            exact stepOk_value rfl (run_hiU (.tmp 23) rfl e0 (by omega)) rfl
          · have f7_ : a1.eval (.tmp 7) = .slice (some ⟨G, 0, none⟩) 128 d := hk1.ev_old 7 (by kernel_rfl)
            have g7_ : a1.tmps[7]?.getD undef = .slice (some ⟨G, 0, none⟩) 128 d := by simpa [Act.eval] using f7_
            exact stepOk_value rfl (v := .slice (some ⟨G, 0, none⟩) 128 d) (by go_simp) rfl
          · obtain ⟨y2, e2, q2, rfl⟩ := hk1.ev_new hd1 2 25 (by kernel_rfl) rfl
            exact stepOk_value rfl (run_loU (.tmp 25) rfl e2 (by omega)) rfl
          · obtain ⟨y1, e1, q1, rfl⟩ := hk1.ev_new hd1 1 24 (by kernel_rfl) rfl
            exact stepOk_value rfl (v := .slice (some ⟨G, 0, none⟩) 64 d) (by go_simp) rfl
        · intro a1 w7 hb7 hp
          obtain ⟨x0, p0, x1, p1, x2, p2, x3, p3, x4, p4, rfl⟩ := hp
          simp only [clF] at p0 p1 p2 p3 p4
          subst p0 p1 p2 p3 p4
          simp only [List.drop_succ_cons, List.drop_zero, Act.put, List.setIfInBounds_toArray, List.set_cons_succ, List.set_cons_zero]
          have hB4b := Below.then_ hB3w hb7
          have hs0 := hs0.step hb7
          have hs1 := hs1.step hb7
          have hbs := hB4b.size
          go_wp2_with (go_at_call 145; refine (rWhole_any (c := d) hs0 HL0.out false HA.out).mono ?_; rintro e w5 ⟨rfl, hB5⟩; have hB4c := Below.then_ hB4b hB5; have hs0 := hs0.step hB5; have hs1 := hs1.step hB5)
          have hbs := hB4c.size
          refine region_all_tail 15 (c8B G d t1 (-1) tx ty) (by kernel_rfl) (by kernel_rfl) (by kernel_rfl) (c8B_stab _ _ _ _ _ _) ?_ ?_
          · intro w0 hb0
            simp only [List.take_succ_cons, List.take_zero]
            refine ⟨?_, ?_, ?_, ?_, ?_, ?_, ?_, ?_, ?_, ?_, ?_, ?_, ?_, ?_, ?_, trivial⟩
            all_goals intro listed a1 w' hk1 hd1
            · have f10_ : a1.eval (.tmp 10) = .slice (some ⟨G, 64, none⟩) 64 (d - 64) := hk1.ev_old 10 (by kernel_rfl)
              have g10_ : a1.tmps[10]?.getD undef = .slice (some ⟨G, 64, none⟩) 64 (d - 64) := by simpa [Act.eval] using f10_
              exact stepOk_value rfl (v := .slice (some ⟨G, 64, none⟩) 64 (d - 64)) (by go_simp) rfl
            · obtain ⟨y0, e0, q0, rfl⟩ := hk1.ev_new hd1 0 29 (by kernel_rfl) rfl
              refine stepOk_enter rfl (f := 145) (args := #[.slice (some ⟨G, 64, none⟩) 64 (d - 64)]) (by go_simp) ?_
              have ho := rWhole_any (c := d - 64) ((hs1.step hb0).step hk1.below) HL1.out true HB.out
              refine ho.mono ?_
              rintro e w5 ⟨rfl, hB5⟩
              exact ⟨_, rfl, rfl, hB5⟩
            · obtain ⟨y1, e1, q1, rfl⟩ := hk1.ev_new hd1 1 30 (by kernel_rfl) rfl
              exact stepOk_value rfl (v := .bool true) (by go_simp) rfl
            · obtain ⟨y2, e2, q2, rfl⟩ := hk1.ev_new hd1 2 31 (by kernel_rfl) rfl
              have f11_ : a1.eval (.tmp 11) = .int .i64 (-1) := hk1.ev_old 11 (by kernel_rfl)
              have g11_ : a1.tmps[11]?.getD undef = .int .i64 (-1) := by simpa [Act.eval] using f11_
              exact stepOk_valT (wanted_at (t := 31) rfl rfl q2) (v := .int .i64 (-1)) (by go_simp) rfl
            · obtain ⟨y2, e2, q2, rfl⟩ := hk1.ev_new hd1 2 31 (by kernel_rfl) rfl
              obtain ⟨y3, e3, q3, rfl⟩ := hk1.ev_new hd1 3 32 (by kernel_rfl) rfl
              exact stepOk_valT (wanted_at (t := 31) rfl rfl q2) (v := .bool true) (by go_simp) rfl
            · obtain ⟨y2, e2, q2, rfl⟩ := hk1.ev_new hd1 2 31 (by kernel_rfl) rfl
              obtain ⟨y4, e4, q4, rfl⟩ := hk1.ev_new hd1 4 33 (by kernel_rfl) rfl
              exact stepOk_valT (wanted_at (t := 31) rfl rfl q2) (v := .bool true) (by go_simp) rfl
            · obtain ⟨y5, e5, q5, rfl⟩ := hk1.ev_new hd1 5 34 (by kernel_rfl) rfl
              have f10_ : a1.eval (.tmp 10) = .slice (some ⟨G, 64, none⟩) 64 (d - 64) := hk1.ev_old 10 (by kernel_rfl)
              have g10_ : a1.tmps[10]?.getD undef = .slice (some ⟨G, 64, none⟩) 64 (d - 64) := by simpa [Act.eval] using f10_
              exact stepOk_offT (wanted_offT (t := 34) rfl rfl q5 rfl) rfl
            · obtain ⟨y5, e5, q5, rfl⟩ := hk1.ev_new hd1 5 34 (by kernel_rfl) rfl
              obtain ⟨y6, e6, q6, rfl⟩ := hk1.ev_new hd1 6 35 (by kernel_rfl) rfl
              exact stepOk_offT (wanted_offT (t := 34) rfl rfl q5 rfl) rfl
            · obtain ⟨y5, e5, q5, rfl⟩ := hk1.ev_new hd1 5 34 (by kernel_rfl) rfl
              obtain ⟨y7, e7, q7, rfl⟩ := hk1.ev_new hd1 7 36 (by kernel_rfl) rfl
              exact stepOk_offT (wanted_offT (t := 34) rfl rfl q5 rfl) rfl
            · obtain ⟨y5, e5, q5, rfl⟩ := hk1.ev_new hd1 5 34 (by kernel_rfl) rfl
              have f9_ : a1.eval (.tmp 9) = .slice (some ⟨G, 0, none⟩) 64 d := hk1.ev_old 9 (by kernel_rfl)
              have g9_ : a1.tmps[9]?.getD undef = .slice (some ⟨G, 0, none⟩) 64 d := by simpa [Act.eval] using f9_
              exact stepOk_offT (wanted_offT (t := 34) rfl rfl q5 rfl) rfl
            · obtain ⟨y5, e5, q5, rfl⟩ := hk1.ev_new hd1 5 34 (by kernel_rfl) rfl
              obtain ⟨y9, e9, q9, rfl⟩ := hk1.ev_new hd1 9 38 (by kernel_rfl) rfl
              exact stepOk_offT (wanted_offT (t := 34) rfl rfl q5 rfl) rfl
            · obtain ⟨y5, e5, q5, rfl⟩ := hk1.ev_new hd1 5 34 (by kernel_rfl) rfl
              obtain ⟨y10, e10, q10, rfl⟩ := hk1.ev_new hd1 10 39 (by kernel_rfl) rfl
              exact stepOk_offT (wanted_offT (t := 34) rfl rfl q5 rfl) rfl
            · obtain ⟨y5, e5, q5, rfl⟩ := hk1.ev_new hd1 5 34 (by kernel_rfl) rfl
              obtain ⟨y11, e11, q11, rfl⟩ := hk1.ev_new hd1 11 40 (by kernel_rfl) rfl
              exact stepOk_offT (wanted_offT (t := 34) rfl rfl q5 rfl) rfl
            · obtain ⟨y5, e5, q5, rfl⟩ := hk1.ev_new hd1 5 34 (by kernel_rfl) rfl
              obtain ⟨y8, e8, q8, rfl⟩ := hk1.ev_new hd1 8 37 (by kernel_rfl) rfl
              obtain ⟨y12, e12, q12, rfl⟩ := hk1.ev_new hd1 12 41 (by kernel_rfl) rfl
              exact stepOk_offT (wanted_offT (t := 34) rfl rfl q5 rfl) rfl
            · obtain ⟨y2, e2, q2, rfl⟩ := hk1.ev_new hd1 2 31 (by kernel_rfl) rfl
              obtain ⟨y5, e5, q5, rfl⟩ := hk1.ev_new hd1 5 34 (by kernel_rfl) rfl
              obtain ⟨y13, e13, q13, rfl⟩ := hk1.ev_new hd1 13 42 (by kernel_rfl) rfl
              exact stepOk_valT (wanted_at (t := 31) rfl rfl q2) (v := .bool true) (by go_simp) rfl
          · intro a1 w7 hb7 hp
            obtain ⟨x0, p0, x1, p1, x2, p2, x3, p3, x4, p4, x5, p5, x6, p6, x7, p7, x8, p8, x9, p9, x10, p10, x11, p11, x12, p12, x13, p13, x14, p14, rfl⟩ := hp
            simp only [c8B] at p0 p1 p2 p3 p4 p5 p6 p7 p8 p9 p10 p11 p12 p13 p14
            subst p0 p1 p2 p3 p4 p5 p6 p7 p8 p9 p10 p11 p12 p13 p14
            simp only [List.drop_succ_cons, List.drop_zero, Act.put, List.setIfInBounds_toArray, List.set_cons_succ, List.set_cons_zero]
            have hB7 := Below.then_ hB4c hb7
            have hs0 := hs0.step hb7
            have hs1 := hs1.step hb7
            have hbs := hB7.size
            clear hb7 hB4c
            have hcx := cut_x G 64 d (by omega)
            go_wp2_with fail
            refine region_all_end (clT64 w.heap.size G d ny L) (by kernel_rfl) (by kernel_rfl) (clT64_stab _ _ _ _ _) ?_ ?_
            · intro w0 hb0
              refine ⟨?_, ?_, ?_, ?_, ?_, ?_, ?_, ?_, ?_, ?_, ?_, ?_, trivial⟩
              all_goals intro listed a1 w' hk1 hd1
              · have f12_ : a1.eval (.tmp 12) = .slice (some ⟨G, 64, none⟩) 64 (d - 64) := hk1.ev_old 12 (by kernel_rfl)
                have g12_ : a1.tmps[12]?.getD undef = .slice (some ⟨G, 64, none⟩) 64 (d - 64) := by simpa [Act.eval] using f12_
                exact stepOk_value rfl (v := .slice (some ⟨G, 64, none⟩) 64 (d - 64)) (by go_simp) rfl
              · obtain ⟨y0, e0, q0, rfl⟩ := hk1.ev_new hd1 0 55 (by kernel_rfl) rfl
                have hcu := cut_u G 64 (d - 64) w' (by omega)
                exact stepOk_value rfl (v := .slice (some ⟨G, 66, none⟩) 61 (d - 64 - 2)) (by go_simp) rfl
              · have f12_ : a1.eval (.tmp 12) = .slice (some ⟨G, 64, none⟩) 64 (d - 64) := hk1.ev_old 12 (by kernel_rfl)
                have g12_ : a1.tmps[12]?.getD undef = .slice (some ⟨G, 64, none⟩) 64 (d - 64) := by simpa [Act.eval] using f12_
                exact stepOk_value rfl (v := .slice (some ⟨G, 64, none⟩) 64 (d - 64)) (by go_simp) rfl
              · obtain ⟨y2, e2, q2, rfl⟩ := hk1.ev_new hd1 2 57 (by kernel_rfl) rfl
                exact stepOk_value rfl (v := .pointer (some ⟨G, 65, none⟩)) (by go_simp) rfl
              · obtain ⟨y3, e3, q3, rfl⟩ := hk1.ev_new hd1 3 58 (by kernel_rfl) rfl
                have kc : w'.cell? ⟨G, 65, none⟩ = some (.int .u32 (ny.toNat : Int)) := sees_at (k := 1) ((hs1.step hb0).step hk1.below) rfl
                exact stepOk_value rfl (v := .int .u32 (ny.toNat : Int)) (by go_simp) rfl
              · obtain ⟨y4, e4, q4, rfl⟩ := hk1.ev_new hd1 4 59 (by kernel_rfl) rfl
                have ew : IntKind.i64.wrap (ny.toNat : Int) = (ny.toNat : Int) := by rw [IntKind.wrap_i64]; have := ny.toNat_lt; omega
                exact stepOk_value rfl (v := .int .i64 (ny.toNat : Int)) (by go_simp) rfl
              · obtain ⟨y1, e1, q1, rfl⟩ := hk1.ev_new hd1 1 56 (by kernel_rfl) rfl
                obtain ⟨y5, e5, q5, rfl⟩ := hk1.ev_new hd1 5 60 (by kernel_rfl) rfl
                refine stepOk_enter rfl (f := 146) (args := #[.slice (some ⟨G, 66, none⟩) 61 (d - 64 - 2), .int .i64 (ny.toNat : Int)]) (by go_simp) ?_
                have hsz := Nat.le_trans hbs (Nat.le_trans hb0.size hk1.below.size)
                refine (rBytes_any (some ⟨G, 66, none⟩) (d - 64 - 2) 61 (ny.toNat : Int) _ w' (sees_mid ((hs1.step hb0).step hk1.below)) HM.out (by omega) L L.length 0 HGB.out rfl).mono ?_
                rintro e w5 ⟨A5, c5, rfl, hF5, hB5⟩
                exact ⟨_, rfl, ⟨A5, c5, rfl, hF5.lower hsz⟩, hB5⟩
              · obtain ⟨y6, e6, r6, q6_⟩ := hk1.ev_new hd1 6 61 (by kernel_rfl) rfl
                obtain ⟨A5, c5, rfl, hF5⟩ := q6_
                exact stepOk_value rfl (v := .tuple #[.slice A5 L.length c5, .int .i64 0]) (by go_simp) ⟨A5, c5, rfl, hF5⟩
              · obtain ⟨y7, e7, r7, q7_⟩ := hk1.ev_new hd1 7 54 (by kernel_rfl) rfl
                obtain ⟨A5, c5, rfl, hF5⟩ := q7_
                exact stepOk_value rfl (v := .slice A5 L.length c5) (by go_simp) ⟨A5, c5, rfl, hF5⟩
              · obtain ⟨y7, e7, r7, q7_⟩ := hk1.ev_new hd1 7 54 (by kernel_rfl) rfl
                obtain ⟨A5, c5, rfl, hF5⟩ := q7_
                exact stepOk_value rfl (v := .int .i64 0) (by go_simp) rfl
              · obtain ⟨y8, e8, r8, q8_⟩ := hk1.ev_new hd1 8 62 (by kernel_rfl) rfl
                obtain ⟨A5, c5, rfl, hF5⟩ := q8_
                exact stepOk_value rfl (v := .slice A5 L.length c5) (by go_simp) ⟨A5, c5, rfl, hF5⟩
              · obtain ⟨y9, e9, q9, rfl⟩ := hk1.ev_new hd1 9 63 (by kernel_rfl) rfl
                exact stepOk_value rfl (v := .int .i64 0) (by go_simp) rfl
            · intro a1 w7 hb7 hp
              obtain ⟨x0, p0, x1, p1, x2, p2, x3, p3, x4, p4, x5, p5, x6, p6, x7, p7, x8, p8, x9, p9, x10, p10, x11, p11, rfl⟩ := hp
              simp only [clT64] at p0 p1 p2 p3 p4 p5 p6 p7 p8 p9 p10 p11
              obtain ⟨A6, c6, rfl, -⟩ := p6
              obtain ⟨A7, c7, rfl, -⟩ := p7
              obtain ⟨A9, c9, rfl, -⟩ := p8
              obtain ⟨A8, c8, rfl, hF8⟩ := p10
              subst p0 p1 p2 p3 p4 p5 p9 p11
              simp only [Act.put, List.setIfInBounds_toArray, List.set_cons_succ, List.set_cons_zero]
              have hs0 := hs0.step hb7
              have hs1 := hs1.step hb7
              have hB7b := Below.then_ hB7 hb7
              have hbs2 := hB7b.size
              clear hb7 hB7
              go_wp2_with fail
              refine region_all_end (clU64 G d L.length c8 (1) A8 ty) (by kernel_rfl) (by kernel_rfl) (clU64_stab _ _ _ _ _ _ _) ?_ ?_
              · intro w0 hb0
                refine ⟨?_, ?_, ?_, ?_, ?_, ?_, ?_, ?_, ?_, trivial⟩
                all_goals intro listed a1 w' hk1 hd1
                · have f11_ : a1.eval (.tmp 11) = .int .i64 (1) := hk1.ev_old 11 (by kernel_rfl)
                  have g11_ : a1.tmps[11]?.getD undef = .int .i64 (1) := by simpa [Act.eval] using f11_
                  exact stepOk_value rfl (v := .int .i64 (1)) (by go_simp) rfl
                · have f12_ : a1.eval (.tmp 12) = .slice (some ⟨G, 64, none⟩) 64 (d - 64) := hk1.ev_old 12 (by kernel_rfl)
                  have g12_ : a1.tmps[12]?.getD undef = .slice (some ⟨G, 64, none⟩) 64 (d - 64) := by simpa [Act.eval] using f12_
                  exact stepOk_value rfl (v := .slice (some ⟨G, 64, none⟩) 64 (d - 64)) (by go_simp) rfl
                · obtain ⟨y1, e1, q1, rfl⟩ := hk1.ev_new hd1 1 65 (by kernel_rfl) rfl
                  exact stepOk_value rfl (v := .pointer (some ⟨G, 64, none⟩)) (by go_simp) rfl
                · obtain ⟨y2, e2, q2, rfl⟩ := hk1.ev_new hd1 2 66 (by kernel_rfl) rfl
                  have kc : w'.cell? ⟨G, 64, none⟩ = some (.int .u32 (ty.toNat : Int)) := sees_first ((hs1.step hb0).step hk1.below) rfl
                  exact stepOk_value rfl (v := .int .u32 (ty.toNat : Int)) (by go_simp) rfl
                · obtain ⟨y3, e3, q3, rfl⟩ := hk1.ev_new hd1 3 67 (by kernel_rfl) rfl
                  have ew : IntKind.i64.wrap (ty.toNat : Int) = (ty.toNat : Int) := by rw [IntKind.wrap_i64]; have := ty.toNat_lt; omega
                  exact stepOk_value rfl (v := .int .i64 (ty.toNat : Int)) (by go_simp) rfl
                · have f13_ : a1.eval (.tmp 13) = .slice A8 L.length c8 := hk1.ev_old 13 (by kernel_rfl)
                  have g13_ : a1.tmps[13]?.getD undef = .slice A8 L.length c8 := by simpa [Act.eval] using f13_
                  exact stepOk_value rfl (v := .slice A8 L.length c8) (by go_simp) rfl
                · obtain ⟨y0, e0, q0, rfl⟩ := hk1.ev_new hd1 0 64 (by kernel_rfl) rfl
                  exact stepOk_value rfl (v := .int .i64 (1)) (by go_simp) rfl
                · obtain ⟨y4, e4, q4, rfl⟩ := hk1.ev_new hd1 4 68 (by kernel_rfl) rfl
                  exact stepOk_value rfl (v := .int .i64 (ty.toNat : Int)) (by go_simp) rfl
                · obtain ⟨y5, e5, q5, rfl⟩ := hk1.ev_new hd1 5 69 (by kernel_rfl) rfl
                  exact stepOk_value rfl (v := .slice A8 L.length c8) (by go_simp) rfl
              · intro a1 wB hb7 hp
                obtain ⟨x0, p0, x1, p1, x2, p2, x3, p3, x4, p4, x5, p5, x6, p6, x7, p7, x8, p8, rfl⟩ := hp
                simp only [clU64] at p0 p1 p2 p3 p4 p5 p6 p7 p8
                subst p0 p1 p2 p3 p4 p5 p6 p7 p8
                simp only [Act.put, List.setIfInBounds_toArray, List.set_cons_succ, List.set_cons_zero]
                have hBz := Below.then_ hB7b hb7
                have hF9 := hF8.below hb7
                go_wp2_with fail
                (try simp only [Exit.inBlock, Exit.then])
                refine bodyPost_ret (results_three rfl _ _ _) rfl ?_
                exact ⟨A8, L.length, c8, rfl, hF9, rfl, hBz⟩
    | some x =>
      have HA : Hid ((secC (tx :: nx :: ra)).isSome = true) := Lib.hid (by rw [ha]; rfl)
      cases hb : secC (ty :: ny :: rb2) with
      | none =>
        have HB : Hid ((secC (ty :: ny :: rb2)).isSome = false) := Lib.hid (by rw [hb]; rfl)
        rw [ha, hb] at hlk
        obtain rfl : (⟨0, x.1, x.2⟩ : Co) = X := hlk
        obtain ⟨L, hgb, hy⟩ := secC_bytes ha hl0
        subst hy
        have HGB := Lib.hid hgb
        have HM : Hid ((ra.take 61).length = 61) := Lib.hid (by rw [List.length_take]; omega)
        clear ha hb hR hgb
        go_enter Try.func64, Try.ntmps64
        go_wp2_with (first
          | (with_reducible refine wpList_box (o := ⟨some 2, _, _, _, _, _⟩) rfl (.tmp 0) 109 rfl (rdL (f : Int) 2) rfl 2 rfl (by decide) ?_; intro g w1 hg hF hB; have z1 := hB.size)
          | (with_reducible refine wpList_box (o := ⟨some 3, _, _, _, _, _⟩) rfl (.tmp 1) 105 rfl (S.rL A c) rfl 5 rfl (by decide) ?_; intro gn w2 hgn hFn hBn; have z2 := hBn.size; have hF2 := hF.below hBn; have hB2 := Below.then_ hB hBn)
          | (with_reducible refine wpList_load (o := ⟨some 16, _, _, _, _, _⟩) rfl (.tmp 2) 109 rfl g 0 _ rfl (rdL (f : Int) 2) 2 rfl (by kernel_rfl) hF2.sees ?_)
          | (with_reducible refine wpList_load (o := ⟨some 17, _, _, _, _, _⟩) rfl (.tmp 3) 105 rfl gn 0 _ rfl (S.rL A c) 5 rfl (by kernel_rfl) hFn.sees ?_)
          | (go_at_call 144; refine (HR.out _ hB2).mono ?_; rintro e w3 ⟨Bq, d, rfl, hFr, hB3⟩; have hB3w := Below.then_ hB2 hB3; obtain ⟨G, rfl, hG1, hG2⟩ := hFr.spot_ (by omega); have hdc : 128 ≤ d := hFr.cap.1; obtain ⟨hs0, hs1⟩ := sees_parts HL0.out HL1.out hFr.sees))
        clear hFr hF hFn hF2 hB hBn hB2 hB3 z1 z2 hG1 hG2 hg hgn
        refine region_all_tail 5 (clF G d) (by kernel_rfl) (by kernel_rfl) (by kernel_rfl) (clF_stab _ _) ?_ ?_
        · intro w0 hb0
          simp only [List.take_succ_cons, List.take_zero]
          refine ⟨?_, ?_, ?_, ?_, ?_, trivial⟩
          all_goals intro listed a1 w' hk1 hd1
          · have f7_ : a1.eval (.tmp 7) = .slice (some ⟨G, 0, none⟩) 128 d := hk1.ev_old 7 (by kernel_rfl)
            have g7_ : a1.tmps[7]?.getD undef = .slice (some ⟨G, 0, none⟩) 128 d := by simpa [Act.eval] using f7_
            exact stepOk_value rfl (v := .slice (some ⟨G, 0, none⟩) 128 d) (by go_simp) rfl
          · obtain ⟨y0, e0, q0, rfl⟩ := hk1.ev_new hd1 0 23 (by kernel_rfl) rfl
            exact stepOk_value rfl (run_hiU (.tmp 23) rfl e0 (by omega)) rfl
          · have f7_ : a1.eval (.tmp 7) = .slice (some ⟨G, 0, none⟩) 128 d := hk1.ev_old 7 (by kernel_rfl)
            have g7_ : a1.tmps[7]?.getD undef = .slice (some ⟨G, 0, none⟩) 128 d := by simpa [Act.eval] using f7_
            exact stepOk_value rfl (v := .slice (some ⟨G, 0, none⟩) 128 d) (by go_simp) rfl
          · obtain ⟨y2, e2, q2, rfl⟩ := hk1.ev_new hd1 2 25 (by kernel_rfl) rfl
            exact stepOk_value rfl (run_loU (.tmp 25) rfl e2 (by omega)) rfl
          · obtain ⟨y1, e1, q1, rfl⟩ := hk1.ev_new hd1 1 24 (by kernel_rfl) rfl
            exact stepOk_value rfl (v := .slice (some ⟨G, 0, none⟩) 64 d) (by go_simp) rfl
        · intro a1 w7 hb7 hp
          obtain ⟨x0, p0, x1, p1, x2, p2, x3, p3, x4, p4, rfl⟩ := hp
          simp only [clF] at p0 p1 p2 p3 p4
          subst p0 p1 p2 p3 p4
          simp only [List.drop_succ_cons, List.drop_zero, Act.put, List.setIfInBounds_toArray, List.set_cons_succ, List.set_cons_zero]
          have hB4b := Below.then_ hB3w hb7
          have hs0 := hs0.step hb7
          have hs1 := hs1.step hb7
          have hbs := hB4b.size
          go_wp2_with (go_at_call 145; refine (rWhole_any (c := d) hs0 HL0.out true HA.out).mono ?_; rintro e w5 ⟨rfl, hB5⟩; have hB4c := Below.then_ hB4b hB5; have hs0 := hs0.step hB5; have hs1 := hs1.step hB5)
          have hbs := hB4c.size
          refine region_all_tail 15 (c8A G d t1 0 tx ty) (by kernel_rfl) (by kernel_rfl) (by kernel_rfl) (c8A_stab _ _ _ _ _ _) ?_ ?_
          · intro w0 hb0
            simp only [List.take_succ_cons, List.take_zero]
            refine ⟨?_, ?_, ?_, ?_, ?_, ?_, ?_, ?_, ?_, ?_, ?_, ?_, ?_, ?_, ?_, trivial⟩
            all_goals intro listed a1 w' hk1 hd1
            · have f10_ : a1.eval (.tmp 10) = .slice (some ⟨G, 64, none⟩) 64 (d - 64) := hk1.ev_old 10 (by kernel_rfl)
              have g10_ : a1.tmps[10]?.getD undef = .slice (some ⟨G, 64, none⟩) 64 (d - 64) := by simpa [Act.eval] using f10_
              exact stepOk_value rfl (v := .slice (some ⟨G, 64, none⟩) 64 (d - 64)) (by go_simp) rfl
            · obtain ⟨y0, e0, q0, rfl⟩ := hk1.ev_new hd1 0 29 (by kernel_rfl) rfl
              refine stepOk_enter rfl (f := 145) (args := #[.slice (some ⟨G, 64, none⟩) 64 (d - 64)]) (by go_simp) ?_
              have ho := rWhole_any (c := d - 64) ((hs1.step hb0).step hk1.below) HL1.out false HB.out
              refine ho.mono ?_
              rintro e w5 ⟨rfl, hB5⟩
              exact ⟨_, rfl, rfl, hB5⟩
            · obtain ⟨y1, e1, q1, rfl⟩ := hk1.ev_new hd1 1 30 (by kernel_rfl) rfl
              exact stepOk_value rfl (v := .bool false) (by go_simp) rfl
            · obtain ⟨y2, e2, q2, rfl⟩ := hk1.ev_new hd1 2 31 (by kernel_rfl) rfl
              have f11_ : a1.eval (.tmp 11) = .int .i64 0 := hk1.ev_old 11 (by kernel_rfl)
              have g11_ : a1.tmps[11]?.getD undef = .int .i64 0 := by simpa [Act.eval] using f11_
              exact stepOk_offT (wanted_offT (t := 31) rfl rfl q2 rfl) rfl
            · obtain ⟨y2, e2, q2, rfl⟩ := hk1.ev_new hd1 2 31 (by kernel_rfl) rfl
              obtain ⟨y3, e3, q3, rfl⟩ := hk1.ev_new hd1 3 32 (by kernel_rfl) rfl
              exact stepOk_offT (wanted_offT (t := 31) rfl rfl q2 rfl) rfl
            · obtain ⟨y2, e2, q2, rfl⟩ := hk1.ev_new hd1 2 31 (by kernel_rfl) rfl
              obtain ⟨y4, e4, q4, rfl⟩ := hk1.ev_new hd1 4 33 (by kernel_rfl) rfl
              exact stepOk_offT (wanted_offT (t := 31) rfl rfl q2 rfl) rfl
            · obtain ⟨y5, e5, q5, rfl⟩ := hk1.ev_new hd1 5 34 (by kernel_rfl) rfl
              have f10_ : a1.eval (.tmp 10) = .slice (some ⟨G, 64, none⟩) 64 (d - 64) := hk1.ev_old 10 (by kernel_rfl)
              have g10_ : a1.tmps[10]?.getD undef = .slice (some ⟨G, 64, none⟩) 64 (d - 64) := by simpa [Act.eval] using f10_
              exact stepOk_offT (wanted_unT (t := 34) rfl rfl q5) rfl
            · obtain ⟨y5, e5, q5, rfl⟩ := hk1.ev_new hd1 5 34 (by kernel_rfl) rfl
              obtain ⟨y6, e6, q6, rfl⟩ := hk1.ev_new hd1 6 35 (by kernel_rfl) rfl
              exact stepOk_offT (wanted_unT (t := 34) rfl rfl q5) rfl
            · obtain ⟨y5, e5, q5, rfl⟩ := hk1.ev_new hd1 5 34 (by kernel_rfl) rfl
              obtain ⟨y7, e7, q7, rfl⟩ := hk1.ev_new hd1 7 36 (by kernel_rfl) rfl
              exact stepOk_offT (wanted_unT (t := 34) rfl rfl q5) rfl
            · obtain ⟨y5, e5, q5, rfl⟩ := hk1.ev_new hd1 5 34 (by kernel_rfl) rfl
              have f9_ : a1.eval (.tmp 9) = .slice (some ⟨G, 0, none⟩) 64 d := hk1.ev_old 9 (by kernel_rfl)
              have g9_ : a1.tmps[9]?.getD undef = .slice (some ⟨G, 0, none⟩) 64 d := by simpa [Act.eval] using f9_
              exact stepOk_offT (wanted_unT (t := 34) rfl rfl q5) rfl
            · obtain ⟨y5, e5, q5, rfl⟩ := hk1.ev_new hd1 5 34 (by kernel_rfl) rfl
              obtain ⟨y9, e9, q9, rfl⟩ := hk1.ev_new hd1 9 38 (by kernel_rfl) rfl
              exact stepOk_offT (wanted_unT (t := 34) rfl rfl q5) rfl
            · obtain ⟨y5, e5, q5, rfl⟩ := hk1.ev_new hd1 5 34 (by kernel_rfl) rfl
              obtain ⟨y10, e10, q10, rfl⟩ := hk1.ev_new hd1 10 39 (by kernel_rfl) rfl
              exact stepOk_offT (wanted_unT (t := 34) rfl rfl q5) rfl
            · obtain ⟨y5, e5, q5, rfl⟩ := hk1.ev_new hd1 5 34 (by kernel_rfl) rfl
              obtain ⟨y11, e11, q11, rfl⟩ := hk1.ev_new hd1 11 40 (by kernel_rfl) rfl
              exact stepOk_offT (wanted_unT (t := 34) rfl rfl q5) rfl
            · obtain ⟨y5, e5, q5, rfl⟩ := hk1.ev_new hd1 5 34 (by kernel_rfl) rfl
              obtain ⟨y8, e8, q8, rfl⟩ := hk1.ev_new hd1 8 37 (by kernel_rfl) rfl
              obtain ⟨y12, e12, q12, rfl⟩ := hk1.ev_new hd1 12 41 (by kernel_rfl) rfl
              exact stepOk_offT (wanted_unT (t := 34) rfl rfl q5) rfl
            · obtain ⟨y2, e2, q2, rfl⟩ := hk1.ev_new hd1 2 31 (by kernel_rfl) rfl
              obtain ⟨y5, e5, q5, rfl⟩ := hk1.ev_new hd1 5 34 (by kernel_rfl) rfl
              obtain ⟨y13, e13, q13, rfl⟩ := hk1.ev_new hd1 13 42 (by kernel_rfl) rfl
              exact stepOk_offT (wanted_offT (t := 31) rfl rfl q2 rfl) rfl
          · intro a1 w7 hb7 hp
            obtain ⟨x0, p0, x1, p1, x2, p2, x3, p3, x4, p4, x5, p5, x6, p6, x7, p7, x8, p8, x9, p9, x10, p10, x11, p11, x12, p12, x13, p13, x14, p14, rfl⟩ := hp
            simp only [c8A] at p0 p1 p2 p3 p4 p5 p6 p7 p8 p9 p10 p11 p12 p13 p14
            subst p0 p1 p2 p3 p4 p5 p6 p7 p8 p9 p10 p11 p12 p13 p14
            simp only [List.drop_succ_cons, List.drop_zero, Act.put, List.setIfInBounds_toArray, List.set_cons_succ, List.set_cons_zero]
            have hB7 := Below.then_ hB4c hb7
            have hs0 := hs0.step hb7
            have hs1 := hs1.step hb7
            have hbs := hB7.size
            clear hb7 hB4c
            have hcx := cut_x G 0 d (by omega)
            go_wp2_with fail
            refine region_all_end (clT0 w.heap.size G d nx L) (by kernel_rfl) (by kernel_rfl) (clT0_stab _ _ _ _ _) ?_ ?_
            · intro w0 hb0
              refine ⟨?_, ?_, ?_, ?_, ?_, ?_, ?_, ?_, ?_, ?_, ?_, ?_, trivial⟩
              all_goals intro listed a1 w' hk1 hd1
              · have f12_ : a1.eval (.tmp 12) = .slice (some ⟨G, 0, none⟩) 64 d := hk1.ev_old 12 (by kernel_rfl)
                have g12_ : a1.tmps[12]?.getD undef = .slice (some ⟨G, 0, none⟩) 64 d := by simpa [Act.eval] using f12_
                exact stepOk_value rfl (v := .slice (some ⟨G, 0, none⟩) 64 d) (by go_simp) rfl
              · obtain ⟨y0, e0, q0, rfl⟩ := hk1.ev_new hd1 0 55 (by kernel_rfl) rfl
                have hcu := cut_u G 0 (d) w' (by omega)
                exact stepOk_value rfl (v := .slice (some ⟨G, 2, none⟩) 61 (d - 2)) (by go_simp) rfl
              · have f12_ : a1.eval (.tmp 12) = .slice (some ⟨G, 0, none⟩) 64 d := hk1.ev_old 12 (by kernel_rfl)
                have g12_ : a1.tmps[12]?.getD undef = .slice (some ⟨G, 0, none⟩) 64 d := by simpa [Act.eval] using f12_
                exact stepOk_value rfl (v := .slice (some ⟨G, 0, none⟩) 64 d) (by go_simp) rfl
              · obtain ⟨y2, e2, q2, rfl⟩ := hk1.ev_new hd1 2 57 (by kernel_rfl) rfl
                exact stepOk_value rfl (v := .pointer (some ⟨G, 1, none⟩)) (by go_simp) rfl
              · obtain ⟨y3, e3, q3, rfl⟩ := hk1.ev_new hd1 3 58 (by kernel_rfl) rfl
                have kc : w'.cell? ⟨G, 1, none⟩ = some (.int .u32 (nx.toNat : Int)) := sees_at (k := 1) ((hs0.step hb0).step hk1.below) rfl
                exact stepOk_value rfl (v := .int .u32 (nx.toNat : Int)) (by go_simp) rfl
              · obtain ⟨y4, e4, q4, rfl⟩ := hk1.ev_new hd1 4 59 (by kernel_rfl) rfl
                have ew : IntKind.i64.wrap (nx.toNat : Int) = (nx.toNat : Int) := by rw [IntKind.wrap_i64]; have := nx.toNat_lt; omega
                exact stepOk_value rfl (v := .int .i64 (nx.toNat : Int)) (by go_simp) rfl
              · obtain ⟨y1, e1, q1, rfl⟩ := hk1.ev_new hd1 1 56 (by kernel_rfl) rfl
                obtain ⟨y5, e5, q5, rfl⟩ := hk1.ev_new hd1 5 60 (by kernel_rfl) rfl
                refine stepOk_enter rfl (f := 146) (args := #[.slice (some ⟨G, 2, none⟩) 61 (d - 2), .int .i64 (nx.toNat : Int)]) (by go_simp) ?_
                have hsz := Nat.le_trans hbs (Nat.le_trans hb0.size hk1.below.size)
                refine (rBytes_any (some ⟨G, 2, none⟩) (d - 2) 61 (nx.toNat : Int) _ w' (sees_mid ((hs0.step hb0).step hk1.below)) HM.out (by omega) L L.length 0 HGB.out rfl).mono ?_
                rintro e w5 ⟨A5, c5, rfl, hF5, hB5⟩
                exact ⟨_, rfl, ⟨A5, c5, rfl, hF5.lower hsz⟩, hB5⟩
              · obtain ⟨y6, e6, r6, q6_⟩ := hk1.ev_new hd1 6 61 (by kernel_rfl) rfl
                obtain ⟨A5, c5, rfl, hF5⟩ := q6_
                exact stepOk_value rfl (v := .tuple #[.slice A5 L.length c5, .int .i64 0]) (by go_simp) ⟨A5, c5, rfl, hF5⟩
              · obtain ⟨y7, e7, r7, q7_⟩ := hk1.ev_new hd1 7 54 (by kernel_rfl) rfl
                obtain ⟨A5, c5, rfl, hF5⟩ := q7_
                exact stepOk_value rfl (v := .slice A5 L.length c5) (by go_simp) ⟨A5, c5, rfl, hF5⟩
              · obtain ⟨y7, e7, r7, q7_⟩ := hk1.ev_new hd1 7 54 (by kernel_rfl) rfl
                obtain ⟨A5, c5, rfl, hF5⟩ := q7_
                exact stepOk_value rfl (v := .int .i64 0) (by go_simp) rfl
              · obtain ⟨y8, e8, r8, q8_⟩ := hk1.ev_new hd1 8 62 (by kernel_rfl) rfl
                obtain ⟨A5, c5, rfl, hF5⟩ := q8_
                exact stepOk_value rfl (v := .slice A5 L.length c5) (by go_simp) ⟨A5, c5, rfl, hF5⟩
              · obtain ⟨y9, e9, q9, rfl⟩ := hk1.ev_new hd1 9 63 (by kernel_rfl) rfl
                exact stepOk_value rfl (v := .int .i64 0) (by go_simp) rfl
            · intro a1 w7 hb7 hp
              obtain ⟨x0, p0, x1, p1, x2, p2, x3, p3, x4, p4, x5, p5, x6, p6, x7, p7, x8, p8, x9, p9, x10, p10, x11, p11, rfl⟩ := hp
              simp only [clT0] at p0 p1 p2 p3 p4 p5 p6 p7 p8 p9 p10 p11
              obtain ⟨A6, c6, rfl, -⟩ := p6
              obtain ⟨A7, c7, rfl, -⟩ := p7
              obtain ⟨A9, c9, rfl, -⟩ := p8
              obtain ⟨A8, c8, rfl, hF8⟩ := p10
              subst p0 p1 p2 p3 p4 p5 p9 p11
              simp only [Act.put, List.setIfInBounds_toArray, List.set_cons_succ, List.set_cons_zero]
              have hs0 := hs0.step hb7
              have hs1 := hs1.step hb7
              have hB7b := Below.then_ hB7 hb7
              have hbs2 := hB7b.size
              clear hb7 hB7
              go_wp2_with fail
              refine region_all_end (clU0 G d L.length c8 (0) A8 tx) (by kernel_rfl) (by kernel_rfl) (clU0_stab _ _ _ _ _ _ _) ?_ ?_
              · intro w0 hb0
                refine ⟨?_, ?_, ?_, ?_, ?_, ?_, ?_, ?_, ?_, trivial⟩
                all_goals intro listed a1 w' hk1 hd1
                · have f11_ : a1.eval (.tmp 11) = .int .i64 (0) := hk1.ev_old 11 (by kernel_rfl)
                  have g11_ : a1.tmps[11]?.getD undef = .int .i64 (0) := by simpa [Act.eval] using f11_
                  exact stepOk_value rfl (v := .int .i64 (0)) (by go_simp) rfl
                · have f12_ : a1.eval (.tmp 12) = .slice (some ⟨G, 0, none⟩) 64 d := hk1.ev_old 12 (by kernel_rfl)
                  have g12_ : a1.tmps[12]?.getD undef = .slice (some ⟨G, 0, none⟩) 64 d := by simpa [Act.eval] using f12_
                  exact stepOk_value rfl (v := .slice (some ⟨G, 0, none⟩) 64 d) (by go_simp) rfl
                · obtain ⟨y1, e1, q1, rfl⟩ := hk1.ev_new hd1 1 65 (by kernel_rfl) rfl
                  exact stepOk_value rfl (v := .pointer (some ⟨G, 0, none⟩)) (by go_simp) rfl
                · obtain ⟨y2, e2, q2, rfl⟩ := hk1.ev_new hd1 2 66 (by kernel_rfl) rfl
                  have kc : w'.cell? ⟨G, 0, none⟩ = some (.int .u32 (tx.toNat : Int)) := sees_first ((hs0.step hb0).step hk1.below) rfl
                  exact stepOk_value rfl (v := .int .u32 (tx.toNat : Int)) (by go_simp) rfl
                · obtain ⟨y3, e3, q3, rfl⟩ := hk1.ev_new hd1 3 67 (by kernel_rfl) rfl
                  have ew : IntKind.i64.wrap (tx.toNat : Int) = (tx.toNat : Int) := by rw [IntKind.wrap_i64]; have := tx.toNat_lt; omega
                  exact stepOk_value rfl (v := .int .i64 (tx.toNat : Int)) (by go_simp) rfl
                · have f13_ : a1.eval (.tmp 13) = .slice A8 L.length c8 := hk1.ev_old 13 (by kernel_rfl)
                  have g13_ : a1.tmps[13]?.getD undef = .slice A8 L.length c8 := by simpa [Act.eval] using f13_
                  exact stepOk_value rfl (v := .slice A8 L.length c8) (by go_simp) rfl
                · obtain ⟨y0, e0, q0, rfl⟩ := hk1.ev_new hd1 0 64 (by kernel_rfl) rfl
                  exact stepOk_value rfl (v := .int .i64 (0)) (by go_simp) rfl
                · obtain ⟨y4, e4, q4, rfl⟩ := hk1.ev_new hd1 4 68 (by kernel_rfl) rfl
                  exact stepOk_value rfl (v := .int .i64 (tx.toNat : Int)) (by go_simp) rfl
                · obtain ⟨y5, e5, q5, rfl⟩ := hk1.ev_new hd1 5 69 (by kernel_rfl) rfl
                  exact stepOk_value rfl (v := .slice A8 L.length c8) (by go_simp) rfl
              · intro a1 wB hb7 hp
                obtain ⟨x0, p0, x1, p1, x2, p2, x3, p3, x4, p4, x5, p5, x6, p6, x7, p7, x8, p8, rfl⟩ := hp
                simp only [clU0] at p0 p1 p2 p3 p4 p5 p6 p7 p8
                subst p0 p1 p2 p3 p4 p5 p6 p7 p8
                simp only [Act.put, List.setIfInBounds_toArray, List.set_cons_succ, List.set_cons_zero]
                have hBz := Below.then_ hB7b hb7
                have hF9 := hF8.below hb7
                go_wp2_with fail
                (try simp only [Exit.inBlock, Exit.then])
                refine bodyPost_ret (results_three rfl _ _ _) rfl ?_
                exact ⟨A8, L.length, c8, rfl, hF9, rfl, hBz⟩
      | some y =>
        have HB : Hid ((secC (ty :: ny :: rb2)).isSome = true) := Lib.hid (by rw [hb]; rfl)
        rw [ha, hb] at hlk
        have hx1 := (secC_ok ha).1
        obtain ⟨L, hgb, hx⟩ := secC_bytes ha hl0
        obtain ⟨L2, hgb2, hy⟩ := secC_bytes hb hl1
        subst hx
        subst hy
        have et2 : (tx.toNat : Int) + 1 = (t1 : Int) := by simp only at hx1; omega
        have wt1 : IntKind.u32.wrap (t1 : Int) = (t1 : Int) := by rw [IntKind.wrap_u32]; omega
        by_cases hq : ty.toNat = tx.toNat + 1
        · obtain rfl : (⟨1, ty.toNat, L2⟩ : Co) = X := by rw [← hlk]; simp [newC, coOf, hq]
          have eq1 : ((ty.toNat : Int) == (t1 : Int)) = true := by simp; simp only at hx1; omega
          have HGB := Lib.hid hgb2
          have HM : Hid ((rb2.take 61).length = 61) := Lib.hid (by rw [List.length_take]; omega)
          clear ha hb hlk hR hgb hgb2 hq
          obtain ⟨L, rfl⟩ : ∃ L, L = L2 := ⟨_, rfl⟩
          go_enter Try.func64, Try.ntmps64
          go_wp2_with (first
            | (with_reducible refine wpList_box (o := ⟨some 2, _, _, _, _, _⟩) rfl (.tmp 0) 109 rfl (rdL (f : Int) 2) rfl 2 rfl (by decide) ?_; intro g w1 hg hF hB; have z1 := hB.size)
            | (with_reducible refine wpList_box (o := ⟨some 3, _, _, _, _, _⟩) rfl (.tmp 1) 105 rfl (S.rL A c) rfl 5 rfl (by decide) ?_; intro gn w2 hgn hFn hBn; have z2 := hBn.size; have hF2 := hF.below hBn; have hB2 := Below.then_ hB hBn)
            | (with_reducible refine wpList_load (o := ⟨some 16, _, _, _, _, _⟩) rfl (.tmp 2) 109 rfl g 0 _ rfl (rdL (f : Int) 2) 2 rfl (by kernel_rfl) hF2.sees ?_)
            | (with_reducible refine wpList_load (o := ⟨some 17, _, _, _, _, _⟩) rfl (.tmp 3) 105 rfl gn 0 _ rfl (S.rL A c) 5 rfl (by kernel_rfl) hFn.sees ?_)
            | (go_at_call 144; refine (HR.out _ hB2).mono ?_; rintro e w3 ⟨Bq, d, rfl, hFr, hB3⟩; have hB3w := Below.then_ hB2 hB3; obtain ⟨G, rfl, hG1, hG2⟩ := hFr.spot_ (by omega); have hdc : 128 ≤ d := hFr.cap.1; obtain ⟨hs0, hs1⟩ := sees_parts HL0.out HL1.out hFr.sees))
          clear hFr hF hFn hF2 hB hBn hB2 hB3 z1 z2 hG1 hG2 hg hgn
          refine region_all_tail 5 (clF G d) (by kernel_rfl) (by kernel_rfl) (by kernel_rfl) (clF_stab _ _) ?_ ?_
          · intro w0 hb0
            simp only [List.take_succ_cons, List.take_zero]
            refine ⟨?_, ?_, ?_, ?_, ?_, trivial⟩
            all_goals intro listed a1 w' hk1 hd1
            · have f7_ : a1.eval (.tmp 7) = .slice (some ⟨G, 0, none⟩) 128 d := hk1.ev_old 7 (by kernel_rfl)
              have g7_ : a1.tmps[7]?.getD undef = .slice (some ⟨G, 0, none⟩) 128 d := by simpa [Act.eval] using f7_
              exact stepOk_value rfl (v := .slice (some ⟨G, 0, none⟩) 128 d) (by go_simp) rfl
            · obtain ⟨y0, e0, q0, rfl⟩ := hk1.ev_new hd1 0 23 (by kernel_rfl) rfl
              exact stepOk_value rfl (run_hiU (.tmp 23) rfl e0 (by omega)) rfl
            · have f7_ : a1.eval (.tmp 7) = .slice (some ⟨G, 0, none⟩) 128 d := hk1.ev_old 7 (by kernel_rfl)
              have g7_ : a1.tmps[7]?.getD undef = .slice (some ⟨G, 0, none⟩) 128 d := by simpa [Act.eval] using f7_
              exact stepOk_value rfl (v := .slice (some ⟨G, 0, none⟩) 128 d) (by go_simp) rfl
            · obtain ⟨y2, e2, q2, rfl⟩ := hk1.ev_new hd1 2 25 (by kernel_rfl) rfl
              exact stepOk_value rfl (run_loU (.tmp 25) rfl e2 (by omega)) rfl
            · obtain ⟨y1, e1, q1, rfl⟩ := hk1.ev_new hd1 1 24 (by kernel_rfl) rfl
              exact stepOk_value rfl (v := .slice (some ⟨G, 0, none⟩) 64 d) (by go_simp) rfl
          · intro a1 w7 hb7 hp
            obtain ⟨x0, p0, x1, p1, x2, p2, x3, p3, x4, p4, rfl⟩ := hp
            simp only [clF] at p0 p1 p2 p3 p4
            subst p0 p1 p2 p3 p4
            simp only [List.drop_succ_cons, List.drop_zero, Act.put, List.setIfInBounds_toArray, List.set_cons_succ, List.set_cons_zero]
            have hB4b := Below.then_ hB3w hb7
            have hs0 := hs0.step hb7
            have hs1 := hs1.step hb7
            have hbs := hB4b.size
            go_wp2_with (go_at_call 145; refine (rWhole_any (c := d) hs0 HL0.out true HA.out).mono ?_; rintro e w5 ⟨rfl, hB5⟩; have hB4c := Below.then_ hB4b hB5; have hs0 := hs0.step hB5; have hs1 := hs1.step hB5)
            have hbs := hB4c.size
            refine region_all_tail 15 (c8C G d t1 0 tx ty) (by kernel_rfl) (by kernel_rfl) (by kernel_rfl) (c8C_stab _ _ _ _ _ _) ?_ ?_
            · intro w0 hb0
              simp only [List.take_succ_cons, List.take_zero]
              refine ⟨?_, ?_, ?_, ?_, ?_, ?_, ?_, ?_, ?_, ?_, ?_, ?_, ?_, ?_, ?_, trivial⟩
              all_goals intro listed a1 w' hk1 hd1
              · have f10_ : a1.eval (.tmp 10) = .slice (some ⟨G, 64, none⟩) 64 (d - 64) := hk1.ev_old 10 (by kernel_rfl)
                have g10_ : a1.tmps[10]?.getD undef = .slice (some ⟨G, 64, none⟩) 64 (d - 64) := by simpa [Act.eval] using f10_
                exact stepOk_value rfl (v := .slice (some ⟨G, 64, none⟩) 64 (d - 64)) (by go_simp) rfl
              · obtain ⟨y0, e0, q0, rfl⟩ := hk1.ev_new hd1 0 29 (by kernel_rfl) rfl
                refine stepOk_enter rfl (f := 145) (args := #[.slice (some ⟨G, 64, none⟩) 64 (d - 64)]) (by go_simp) ?_
                have ho := rWhole_any (c := d - 64) ((hs1.step hb0).step hk1.below) HL1.out true HB.out
                refine ho.mono ?_
                rintro e w5 ⟨rfl, hB5⟩
                exact ⟨_, rfl, rfl, hB5⟩
              · obtain ⟨y1, e1, q1, rfl⟩ := hk1.ev_new hd1 1 30 (by kernel_rfl) rfl
                exact stepOk_value rfl (v := .bool true) (by go_simp) rfl
              · obtain ⟨y2, e2, q2, rfl⟩ := hk1.ev_new hd1 2 31 (by kernel_rfl) rfl
                have f11_ : a1.eval (.tmp 11) = .int .i64 0 := hk1.ev_old 11 (by kernel_rfl)
                have g11_ : a1.tmps[11]?.getD undef = .int .i64 0 := by simpa [Act.eval] using f11_
                exact stepOk_valT (wanted_at (t := 31) rfl rfl q2) (v := .int .i64 0) (by go_simp) rfl
              · obtain ⟨y2, e2, q2, rfl⟩ := hk1.ev_new hd1 2 31 (by kernel_rfl) rfl
                obtain ⟨y3, e3, q3, rfl⟩ := hk1.ev_new hd1 3 32 (by kernel_rfl) rfl
                exact stepOk_valT (wanted_at (t := 31) rfl rfl q2) (v := .bool false) (by go_simp) rfl
              · obtain ⟨y2, e2, q2, rfl⟩ := hk1.ev_new hd1 2 31 (by kernel_rfl) rfl
                obtain ⟨y4, e4, q4, rfl⟩ := hk1.ev_new hd1 4 33 (by kernel_rfl) rfl
                exact stepOk_valT (wanted_at (t := 31) rfl rfl q2) (v := .bool false) (by go_simp) rfl
              · obtain ⟨y5, e5, q5, rfl⟩ := hk1.ev_new hd1 5 34 (by kernel_rfl) rfl
                have f10_ : a1.eval (.tmp 10) = .slice (some ⟨G, 64, none⟩) 64 (d - 64) := hk1.ev_old 10 (by kernel_rfl)
                have g10_ : a1.tmps[10]?.getD undef = .slice (some ⟨G, 64, none⟩) 64 (d - 64) := by simpa [Act.eval] using f10_
                exact stepOk_valT (wanted_at (t := 34) rfl rfl q5) (v := .slice (some ⟨G, 64, none⟩) 64 (d - 64)) (by go_simp) rfl
              · obtain ⟨y5, e5, q5, rfl⟩ := hk1.ev_new hd1 5 34 (by kernel_rfl) rfl
                obtain ⟨y6, e6, q6, rfl⟩ := hk1.ev_new hd1 6 35 (by kernel_rfl) rfl
                exact stepOk_valT (wanted_at (t := 34) rfl rfl q5) (v := .pointer (some ⟨G, 64, none⟩)) (by go_simp) rfl
              · obtain ⟨y5, e5, q5, rfl⟩ := hk1.ev_new hd1 5 34 (by kernel_rfl) rfl
                obtain ⟨y7, e7, q7, rfl⟩ := hk1.ev_new hd1 7 36 (by kernel_rfl) rfl
                have kc : w'.cell? ⟨G, 64, none⟩ = some (.int .u32 (ty.toNat : Int)) := sees_first ((hs1.step hb0).step hk1.below) rfl
                exact stepOk_valT (wanted_at (t := 34) rfl rfl q5) (v := .int .u32 (ty.toNat : Int)) (by go_simp) rfl
              · obtain ⟨y5, e5, q5, rfl⟩ := hk1.ev_new hd1 5 34 (by kernel_rfl) rfl
                have f9_ : a1.eval (.tmp 9) = .slice (some ⟨G, 0, none⟩) 64 d := hk1.ev_old 9 (by kernel_rfl)
                have g9_ : a1.tmps[9]?.getD undef = .slice (some ⟨G, 0, none⟩) 64 d := by simpa [Act.eval] using f9_
                exact stepOk_valT (wanted_at (t := 34) rfl rfl q5) (v := .slice (some ⟨G, 0, none⟩) 64 d) (by go_simp) rfl
              · obtain ⟨y5, e5, q5, rfl⟩ := hk1.ev_new hd1 5 34 (by kernel_rfl) rfl
                obtain ⟨y9, e9, q9, rfl⟩ := hk1.ev_new hd1 9 38 (by kernel_rfl) rfl
                exact stepOk_valT (wanted_at (t := 34) rfl rfl q5) (v := .pointer (some ⟨G, 0, none⟩)) (by go_simp) rfl
              · obtain ⟨y5, e5, q5, rfl⟩ := hk1.ev_new hd1 5 34 (by kernel_rfl) rfl
                obtain ⟨y10, e10, q10, rfl⟩ := hk1.ev_new hd1 10 39 (by kernel_rfl) rfl
                have kc : w'.cell? ⟨G, 0, none⟩ = some (.int .u32 (tx.toNat : Int)) := sees_first ((hs0.step hb0).step hk1.below) rfl
                exact stepOk_valT (wanted_at (t := 34) rfl rfl q5) (v := .int .u32 (tx.toNat : Int)) (by go_simp) rfl
              · obtain ⟨y5, e5, q5, rfl⟩ := hk1.ev_new hd1 5 34 (by kernel_rfl) rfl
                obtain ⟨y11, e11, q11, rfl⟩ := hk1.ev_new hd1 11 40 (by kernel_rfl) rfl
                exact stepOk_valT (wanted_at (t := 34) rfl rfl q5) (v := .int .u32 (t1 : Int)) (by go_simp) rfl
              · obtain ⟨y5, e5, q5, rfl⟩ := hk1.ev_new hd1 5 34 (by kernel_rfl) rfl
                obtain ⟨y8, e8, q8, rfl⟩ := hk1.ev_new hd1 8 37 (by kernel_rfl) rfl
                obtain ⟨y12, e12, q12, rfl⟩ := hk1.ev_new hd1 12 41 (by kernel_rfl) rfl
                exact stepOk_valT (wanted_at (t := 34) rfl rfl q5) (v := .bool true) (by go_simp) rfl
              · obtain ⟨y2, e2, q2, rfl⟩ := hk1.ev_new hd1 2 31 (by kernel_rfl) rfl
                obtain ⟨y5, e5, q5, rfl⟩ := hk1.ev_new hd1 5 34 (by kernel_rfl) rfl
                obtain ⟨y13, e13, q13, rfl⟩ := hk1.ev_new hd1 13 42 (by kernel_rfl) rfl
                exact stepOk_valT (wanted_at (t := 31) rfl rfl q2) (v := .bool true) (by go_simp) rfl
            · intro a1 w7 hb7 hp
              obtain ⟨x0, p0, x1, p1, x2, p2, x3, p3, x4, p4, x5, p5, x6, p6, x7, p7, x8, p8, x9, p9, x10, p10, x11, p11, x12, p12, x13, p13, x14, p14, rfl⟩ := hp
              simp only [c8C] at p0 p1 p2 p3 p4 p5 p6 p7 p8 p9 p10 p11 p12 p13 p14
              subst p0 p1 p2 p3 p4 p5 p6 p7 p8 p9 p10 p11 p12 p13 p14
              simp only [List.drop_succ_cons, List.drop_zero, Act.put, List.setIfInBounds_toArray, List.set_cons_succ, List.set_cons_zero]
              have hB7 := Below.then_ hB4c hb7
              have hs0 := hs0.step hb7
              have hs1 := hs1.step hb7
              have hbs := hB7.size
              clear hb7 hB4c
              have hcx := cut_x G 64 d (by omega)
              go_wp2_with fail
              refine region_all_end (clT64 w.heap.size G d ny L) (by kernel_rfl) (by kernel_rfl) (clT64_stab _ _ _ _ _) ?_ ?_
              · intro w0 hb0
                refine ⟨?_, ?_, ?_, ?_, ?_, ?_, ?_, ?_, ?_, ?_, ?_, ?_, trivial⟩
                all_goals intro listed a1 w' hk1 hd1
                · have f12_ : a1.eval (.tmp 12) = .slice (some ⟨G, 64, none⟩) 64 (d - 64) := hk1.ev_old 12 (by kernel_rfl)
                  have g12_ : a1.tmps[12]?.getD undef = .slice (some ⟨G, 64, none⟩) 64 (d - 64) := by simpa [Act.eval] using f12_
                  exact stepOk_value rfl (v := .slice (some ⟨G, 64, none⟩) 64 (d - 64)) (by go_simp) rfl
                · obtain ⟨y0, e0, q0, rfl⟩ := hk1.ev_new hd1 0 55 (by kernel_rfl) rfl
                  have hcu := cut_u G 64 (d - 64) w' (by omega)
                  exact stepOk_value rfl (v := .slice (some ⟨G, 66, none⟩) 61 (d - 64 - 2)) (by go_simp) rfl
                · have f12_ : a1.eval (.tmp 12) = .slice (some ⟨G, 64, none⟩) 64 (d - 64) := hk1.ev_old 12 (by kernel_rfl)
                  have g12_ : a1.tmps[12]?.getD undef = .slice (some ⟨G, 64, none⟩) 64 (d - 64) := by simpa [Act.eval] using f12_
                  exact stepOk_value rfl (v := .slice (some ⟨G, 64, none⟩) 64 (d - 64)) (by go_simp) rfl
                · obtain ⟨y2, e2, q2, rfl⟩ := hk1.ev_new hd1 2 57 (by kernel_rfl) rfl
                  exact stepOk_value rfl (v := .pointer (some ⟨G, 65, none⟩)) (by go_simp) rfl
                · obtain ⟨y3, e3, q3, rfl⟩ := hk1.ev_new hd1 3 58 (by kernel_rfl) rfl
                  have kc : w'.cell? ⟨G, 65, none⟩ = some (.int .u32 (ny.toNat : Int)) := sees_at (k := 1) ((hs1.step hb0).step hk1.below) rfl
                  exact stepOk_value rfl (v := .int .u32 (ny.toNat : Int)) (by go_simp) rfl
                · obtain ⟨y4, e4, q4, rfl⟩ := hk1.ev_new hd1 4 59 (by kernel_rfl) rfl
                  have ew : IntKind.i64.wrap (ny.toNat : Int) = (ny.toNat : Int) := by rw [IntKind.wrap_i64]; have := ny.toNat_lt; omega
                  exact stepOk_value rfl (v := .int .i64 (ny.toNat : Int)) (by go_simp) rfl
                · obtain ⟨y1, e1, q1, rfl⟩ := hk1.ev_new hd1 1 56 (by kernel_rfl) rfl
                  obtain ⟨y5, e5, q5, rfl⟩ := hk1.ev_new hd1 5 60 (by kernel_rfl) rfl
                  refine stepOk_enter rfl (f := 146) (args := #[.slice (some ⟨G, 66, none⟩) 61 (d - 64 - 2), .int .i64 (ny.toNat : Int)]) (by go_simp) ?_
                  have hsz := Nat.le_trans hbs (Nat.le_trans hb0.size hk1.below.size)
                  refine (rBytes_any (some ⟨G, 66, none⟩) (d - 64 - 2) 61 (ny.toNat : Int) _ w' (sees_mid ((hs1.step hb0).step hk1.below)) HM.out (by omega) L L.length 0 HGB.out rfl).mono ?_
                  rintro e w5 ⟨A5, c5, rfl, hF5, hB5⟩
                  exact ⟨_, rfl, ⟨A5, c5, rfl, hF5.lower hsz⟩, hB5⟩
                · obtain ⟨y6, e6, r6, q6_⟩ := hk1.ev_new hd1 6 61 (by kernel_rfl) rfl
                  obtain ⟨A5, c5, rfl, hF5⟩ := q6_
                  exact stepOk_value rfl (v := .tuple #[.slice A5 L.length c5, .int .i64 0]) (by go_simp) ⟨A5, c5, rfl, hF5⟩
                · obtain ⟨y7, e7, r7, q7_⟩ := hk1.ev_new hd1 7 54 (by kernel_rfl) rfl
                  obtain ⟨A5, c5, rfl, hF5⟩ := q7_
                  exact stepOk_value rfl (v := .slice A5 L.length c5) (by go_simp) ⟨A5, c5, rfl, hF5⟩
                · obtain ⟨y7, e7, r7, q7_⟩ := hk1.ev_new hd1 7 54 (by kernel_rfl) rfl
                  obtain ⟨A5, c5, rfl, hF5⟩ := q7_
                  exact stepOk_value rfl (v := .int .i64 0) (by go_simp) rfl
                · obtain ⟨y8, e8, r8, q8_⟩ := hk1.ev_new hd1 8 62 (by kernel_rfl) rfl
                  obtain ⟨A5, c5, rfl, hF5⟩ := q8_
                  exact stepOk_value rfl (v := .slice A5 L.length c5) (by go_simp) ⟨A5, c5, rfl, hF5⟩
                · obtain ⟨y9, e9, q9, rfl⟩ := hk1.ev_new hd1 9 63 (by kernel_rfl) rfl
                  exact stepOk_value rfl (v := .int .i64 0) (by go_simp) rfl
              · intro a1 w7 hb7 hp
                obtain ⟨x0, p0, x1, p1, x2, p2, x3, p3, x4, p4, x5, p5, x6, p6, x7, p7, x8, p8, x9, p9, x10, p10, x11, p11, rfl⟩ := hp
                simp only [clT64] at p0 p1 p2 p3 p4 p5 p6 p7 p8 p9 p10 p11
                obtain ⟨A6, c6, rfl, -⟩ := p6
                obtain ⟨A7, c7, rfl, -⟩ := p7
                obtain ⟨A9, c9, rfl, -⟩ := p8
                obtain ⟨A8, c8, rfl, hF8⟩ := p10
                subst p0 p1 p2 p3 p4 p5 p9 p11
                simp only [Act.put, List.setIfInBounds_toArray, List.set_cons_succ, List.set_cons_zero]
                have hs0 := hs0.step hb7
                have hs1 := hs1.step hb7
                have hB7b := Below.then_ hB7 hb7
                have hbs2 := hB7b.size
                clear hb7 hB7
                go_wp2_with fail
                refine region_all_end (clU64 G d L.length c8 (1) A8 ty) (by kernel_rfl) (by kernel_rfl) (clU64_stab _ _ _ _ _ _ _) ?_ ?_
                · intro w0 hb0
                  refine ⟨?_, ?_, ?_, ?_, ?_, ?_, ?_, ?_, ?_, trivial⟩
                  all_goals intro listed a1 w' hk1 hd1
                  · have f11_ : a1.eval (.tmp 11) = .int .i64 (1) := hk1.ev_old 11 (by kernel_rfl)
                    have g11_ : a1.tmps[11]?.getD undef = .int .i64 (1) := by simpa [Act.eval] using f11_
                    exact stepOk_value rfl (v := .int .i64 (1)) (by go_simp) rfl
                  · have f12_ : a1.eval (.tmp 12) = .slice (some ⟨G, 64, none⟩) 64 (d - 64) := hk1.ev_old 12 (by kernel_rfl)
                    have g12_ : a1.tmps[12]?.getD undef = .slice (some ⟨G, 64, none⟩) 64 (d - 64) := by simpa [Act.eval] using f12_
                    exact stepOk_value rfl (v := .slice (some ⟨G, 64, none⟩) 64 (d - 64)) (by go_simp) rfl
                  · obtain ⟨y1, e1, q1, rfl⟩ := hk1.ev_new hd1 1 65 (by kernel_rfl) rfl
                    exact stepOk_value rfl (v := .pointer (some ⟨G, 64, none⟩)) (by go_simp) rfl
                  · obtain ⟨y2, e2, q2, rfl⟩ := hk1.ev_new hd1 2 66 (by kernel_rfl) rfl
                    have kc : w'.cell? ⟨G, 64, none⟩ = some (.int .u32 (ty.toNat : Int)) := sees_first ((hs1.step hb0).step hk1.below) rfl
                    exact stepOk_value rfl (v := .int .u32 (ty.toNat : Int)) (by go_simp) rfl
                  · obtain ⟨y3, e3, q3, rfl⟩ := hk1.ev_new hd1 3 67 (by kernel_rfl) rfl
                    have ew : IntKind.i64.wrap (ty.toNat : Int) = (ty.toNat : Int) := by rw [IntKind.wrap_i64]; have := ty.toNat_lt; omega
                    exact stepOk_value rfl (v := .int .i64 (ty.toNat : Int)) (by go_simp) rfl
                  · have f13_ : a1.eval (.tmp 13) = .slice A8 L.length c8 := hk1.ev_old 13 (by kernel_rfl)
                    have g13_ : a1.tmps[13]?.getD undef = .slice A8 L.length c8 := by simpa [Act.eval] using f13_
                    exact stepOk_value rfl (v := .slice A8 L.length c8) (by go_simp) rfl
                  · obtain ⟨y0, e0, q0, rfl⟩ := hk1.ev_new hd1 0 64 (by kernel_rfl) rfl
                    exact stepOk_value rfl (v := .int .i64 (1)) (by go_simp) rfl
                  · obtain ⟨y4, e4, q4, rfl⟩ := hk1.ev_new hd1 4 68 (by kernel_rfl) rfl
                    exact stepOk_value rfl (v := .int .i64 (ty.toNat : Int)) (by go_simp) rfl
                  · obtain ⟨y5, e5, q5, rfl⟩ := hk1.ev_new hd1 5 69 (by kernel_rfl) rfl
                    exact stepOk_value rfl (v := .slice A8 L.length c8) (by go_simp) rfl
                · intro a1 wB hb7 hp
                  obtain ⟨x0, p0, x1, p1, x2, p2, x3, p3, x4, p4, x5, p5, x6, p6, x7, p7, x8, p8, rfl⟩ := hp
                  simp only [clU64] at p0 p1 p2 p3 p4 p5 p6 p7 p8
                  subst p0 p1 p2 p3 p4 p5 p6 p7 p8
                  simp only [Act.put, List.setIfInBounds_toArray, List.set_cons_succ, List.set_cons_zero]
                  have hBz := Below.then_ hB7b hb7
                  have hF9 := hF8.below hb7
                  go_wp2_with fail
                  (try simp only [Exit.inBlock, Exit.then])
                  refine bodyPost_ret (results_three rfl _ _ _) rfl ?_
                  exact ⟨A8, L.length, c8, rfl, hF9, rfl, hBz⟩
        · obtain rfl : (⟨0, tx.toNat, L⟩ : Co) = X := by rw [← hlk]; simp [newC, coOf, hq]
          have eq1 : ((ty.toNat : Int) == (t1 : Int)) = false := by simp; simp only at hx1; omega
          have HGB := Lib.hid hgb
          have HM : Hid ((ra.take 61).length = 61) := Lib.hid (by rw [List.length_take]; omega)
          clear ha hb hlk hR hgb hgb2 hq
          go_enter Try.func64, Try.ntmps64
          go_wp2_with (first
            | (with_reducible refine wpList_box (o := ⟨some 2, _, _, _, _, _⟩) rfl (.tmp 0) 109 rfl (rdL (f : Int) 2) rfl 2 rfl (by decide) ?_; intro g w1 hg hF hB; have z1 := hB.size)
            | (with_reducible refine wpList_box (o := ⟨some 3, _, _, _, _, _⟩) rfl (.tmp 1) 105 rfl (S.rL A c) rfl 5 rfl (by decide) ?_; intro gn w2 hgn hFn hBn; have z2 := hBn.size; have hF2 := hF.below hBn; have hB2 := Below.then_ hB hBn)
            | (with_reducible refine wpList_load (o := ⟨some 16, _, _, _, _, _⟩) rfl (.tmp 2) 109 rfl g 0 _ rfl (rdL (f : Int) 2) 2 rfl (by kernel_rfl) hF2.sees ?_)
            | (with_reducible refine wpList_load (o := ⟨some 17, _, _, _, _, _⟩) rfl (.tmp 3) 105 rfl gn 0 _ rfl (S.rL A c) 5 rfl (by kernel_rfl) hFn.sees ?_)
            | (go_at_call 144; refine (HR.out _ hB2).mono ?_; rintro e w3 ⟨Bq, d, rfl, hFr, hB3⟩; have hB3w := Below.then_ hB2 hB3; obtain ⟨G, rfl, hG1, hG2⟩ := hFr.spot_ (by omega); have hdc : 128 ≤ d := hFr.cap.1; obtain ⟨hs0, hs1⟩ := sees_parts HL0.out HL1.out hFr.sees))
          clear hFr hF hFn hF2 hB hBn hB2 hB3 z1 z2 hG1 hG2 hg hgn
          refine region_all_tail 5 (clF G d) (by kernel_rfl) (by kernel_rfl) (by kernel_rfl) (clF_stab _ _) ?_ ?_
          · intro w0 hb0
            simp only [List.take_succ_cons, List.take_zero]
            refine ⟨?_, ?_, ?_, ?_, ?_, trivial⟩
            all_goals intro listed a1 w' hk1 hd1
            · have f7_ : a1.eval (.tmp 7) = .slice (some ⟨G, 0, none⟩) 128 d := hk1.ev_old 7 (by kernel_rfl)
              have g7_ : a1.tmps[7]?.getD undef = .slice (some ⟨G, 0, none⟩) 128 d := by simpa [Act.eval] using f7_
              exact stepOk_value rfl (v := .slice (some ⟨G, 0, none⟩) 128 d) (by go_simp) rfl
            · obtain ⟨y0, e0, q0, rfl⟩ := hk1.ev_new hd1 0 23 (by kernel_rfl) rfl
              exact stepOk_value rfl (run_hiU (.tmp 23) rfl e0 (by omega)) rfl
            · have f7_ : a1.eval (.tmp 7) = .slice (some ⟨G, 0, none⟩) 128 d := hk1.ev_old 7 (by kernel_rfl)
              have g7_ : a1.tmps[7]?.getD undef = .slice (some ⟨G, 0, none⟩) 128 d := by simpa [Act.eval] using f7_
              exact stepOk_value rfl (v := .slice (some ⟨G, 0, none⟩) 128 d) (by go_simp) rfl
            · obtain ⟨y2, e2, q2, rfl⟩ := hk1.ev_new hd1 2 25 (by kernel_rfl) rfl
              exact stepOk_value rfl (run_loU (.tmp 25) rfl e2 (by omega)) rfl
            · obtain ⟨y1, e1, q1, rfl⟩ := hk1.ev_new hd1 1 24 (by kernel_rfl) rfl
              exact stepOk_value rfl (v := .slice (some ⟨G, 0, none⟩) 64 d) (by go_simp) rfl
          · intro a1 w7 hb7 hp
            obtain ⟨x0, p0, x1, p1, x2, p2, x3, p3, x4, p4, rfl⟩ := hp
            simp only [clF] at p0 p1 p2 p3 p4
            subst p0 p1 p2 p3 p4
            simp only [List.drop_succ_cons, List.drop_zero, Act.put, List.setIfInBounds_toArray, List.set_cons_succ, List.set_cons_zero]
            have hB4b := Below.then_ hB3w hb7
            have hs0 := hs0.step hb7
            have hs1 := hs1.step hb7
            have hbs := hB4b.size
            go_wp2_with (go_at_call 145; refine (rWhole_any (c := d) hs0 HL0.out true HA.out).mono ?_; rintro e w5 ⟨rfl, hB5⟩; have hB4c := Below.then_ hB4b hB5; have hs0 := hs0.step hB5; have hs1 := hs1.step hB5)
            have hbs := hB4c.size
            refine region_all_tail 15 (c8D G d t1 0 tx ty) (by kernel_rfl) (by kernel_rfl) (by kernel_rfl) (c8D_stab _ _ _ _ _ _) ?_ ?_
            · intro w0 hb0
              simp only [List.take_succ_cons, List.take_zero]
              refine ⟨?_, ?_, ?_, ?_, ?_, ?_, ?_, ?_, ?_, ?_, ?_, ?_, ?_, ?_, ?_, trivial⟩
              all_goals intro listed a1 w' hk1 hd1
              · have f10_ : a1.eval (.tmp 10) = .slice (some ⟨G, 64, none⟩) 64 (d - 64) := hk1.ev_old 10 (by kernel_rfl)
                have g10_ : a1.tmps[10]?.getD undef = .slice (some ⟨G, 64, none⟩) 64 (d - 64) := by simpa [Act.eval] using f10_
                exact stepOk_value rfl (v := .slice (some ⟨G, 64, none⟩) 64 (d - 64)) (by go_simp) rfl
              · obtain ⟨y0, e0, q0, rfl⟩ := hk1.ev_new hd1 0 29 (by kernel_rfl) rfl
                refine stepOk_enter rfl (f := 145) (args := #[.slice (some ⟨G, 64, none⟩) 64 (d - 64)]) (by go_simp) ?_
                have ho := rWhole_any (c := d - 64) ((hs1.step hb0).step hk1.below) HL1.out true HB.out
                refine ho.mono ?_
                rintro e w5 ⟨rfl, hB5⟩
                exact ⟨_, rfl, rfl, hB5⟩
              · obtain ⟨y1, e1, q1, rfl⟩ := hk1.ev_new hd1 1 30 (by kernel_rfl) rfl
                exact stepOk_value rfl (v := .bool true) (by go_simp) rfl
              · obtain ⟨y2, e2, q2, rfl⟩ := hk1.ev_new hd1 2 31 (by kernel_rfl) rfl
                have f11_ : a1.eval (.tmp 11) = .int .i64 0 := hk1.ev_old 11 (by kernel_rfl)
                have g11_ : a1.tmps[11]?.getD undef = .int .i64 0 := by simpa [Act.eval] using f11_
                exact stepOk_valT (wanted_at (t := 31) rfl rfl q2) (v := .int .i64 0) (by go_simp) rfl
              · obtain ⟨y2, e2, q2, rfl⟩ := hk1.ev_new hd1 2 31 (by kernel_rfl) rfl
                obtain ⟨y3, e3, q3, rfl⟩ := hk1.ev_new hd1 3 32 (by kernel_rfl) rfl
                exact stepOk_valT (wanted_at (t := 31) rfl rfl q2) (v := .bool false) (by go_simp) rfl
              · obtain ⟨y2, e2, q2, rfl⟩ := hk1.ev_new hd1 2 31 (by kernel_rfl) rfl
                obtain ⟨y4, e4, q4, rfl⟩ := hk1.ev_new hd1 4 33 (by kernel_rfl) rfl
                exact stepOk_valT (wanted_at (t := 31) rfl rfl q2) (v := .bool false) (by go_simp) rfl
              · obtain ⟨y5, e5, q5, rfl⟩ := hk1.ev_new hd1 5 34 (by kernel_rfl) rfl
                have f10_ : a1.eval (.tmp 10) = .slice (some ⟨G, 64, none⟩) 64 (d - 64) := hk1.ev_old 10 (by kernel_rfl)
                have g10_ : a1.tmps[10]?.getD undef = .slice (some ⟨G, 64, none⟩) 64 (d - 64) := by simpa [Act.eval] using f10_
                exact stepOk_valT (wanted_at (t := 34) rfl rfl q5) (v := .slice (some ⟨G, 64, none⟩) 64 (d - 64)) (by go_simp) rfl
              · obtain ⟨y5, e5, q5, rfl⟩ := hk1.ev_new hd1 5 34 (by kernel_rfl) rfl
                obtain ⟨y6, e6, q6, rfl⟩ := hk1.ev_new hd1 6 35 (by kernel_rfl) rfl
                exact stepOk_valT (wanted_at (t := 34) rfl rfl q5) (v := .pointer (some ⟨G, 64, none⟩)) (by go_simp) rfl
              · obtain ⟨y5, e5, q5, rfl⟩ := hk1.ev_new hd1 5 34 (by kernel_rfl) rfl
                obtain ⟨y7, e7, q7, rfl⟩ := hk1.ev_new hd1 7 36 (by kernel_rfl) rfl
                have kc : w'.cell? ⟨G, 64, none⟩ = some (.int .u32 (ty.toNat : Int)) := sees_first ((hs1.step hb0).step hk1.below) rfl
                exact stepOk_valT (wanted_at (t := 34) rfl rfl q5) (v := .int .u32 (ty.toNat : Int)) (by go_simp) rfl
              · obtain ⟨y5, e5, q5, rfl⟩ := hk1.ev_new hd1 5 34 (by kernel_rfl) rfl
                have f9_ : a1.eval (.tmp 9) = .slice (some ⟨G, 0, none⟩) 64 d := hk1.ev_old 9 (by kernel_rfl)
                have g9_ : a1.tmps[9]?.getD undef = .slice (some ⟨G, 0, none⟩) 64 d := by simpa [Act.eval] using f9_
                exact stepOk_valT (wanted_at (t := 34) rfl rfl q5) (v := .slice (some ⟨G, 0, none⟩) 64 d) (by go_simp) rfl
              · obtain ⟨y5, e5, q5, rfl⟩ := hk1.ev_new hd1 5 34 (by kernel_rfl) rfl
                obtain ⟨y9, e9, q9, rfl⟩ := hk1.ev_new hd1 9 38 (by kernel_rfl) rfl
                exact stepOk_valT (wanted_at (t := 34) rfl rfl q5) (v := .pointer (some ⟨G, 0, none⟩)) (by go_simp) rfl
              · obtain ⟨y5, e5, q5, rfl⟩ := hk1.ev_new hd1 5 34 (by kernel_rfl) rfl
                obtain ⟨y10, e10, q10, rfl⟩ := hk1.ev_new hd1 10 39 (by kernel_rfl) rfl
                have kc : w'.cell? ⟨G, 0, none⟩ = some (.int .u32 (tx.toNat : Int)) := sees_first ((hs0.step hb0).step hk1.below) rfl
                exact stepOk_valT (wanted_at (t := 34) rfl rfl q5) (v := .int .u32 (tx.toNat : Int)) (by go_simp) rfl
              · obtain ⟨y5, e5, q5, rfl⟩ := hk1.ev_new hd1 5 34 (by kernel_rfl) rfl
                obtain ⟨y11, e11, q11, rfl⟩ := hk1.ev_new hd1 11 40 (by kernel_rfl) rfl
                exact stepOk_valT (wanted_at (t := 34) rfl rfl q5) (v := .int .u32 (t1 : Int)) (by go_simp) rfl
              · obtain ⟨y5, e5, q5, rfl⟩ := hk1.ev_new hd1 5 34 (by kernel_rfl) rfl
                obtain ⟨y8, e8, q8, rfl⟩ := hk1.ev_new hd1 8 37 (by kernel_rfl) rfl
                obtain ⟨y12, e12, q12, rfl⟩ := hk1.ev_new hd1 12 41 (by kernel_rfl) rfl
                exact stepOk_valT (wanted_at (t := 34) rfl rfl q5) (v := .bool false) (by go_simp) rfl
              · obtain ⟨y2, e2, q2, rfl⟩ := hk1.ev_new hd1 2 31 (by kernel_rfl) rfl
                obtain ⟨y5, e5, q5, rfl⟩ := hk1.ev_new hd1 5 34 (by kernel_rfl) rfl
                obtain ⟨y13, e13, q13, rfl⟩ := hk1.ev_new hd1 13 42 (by kernel_rfl) rfl
                exact stepOk_valT (wanted_at (t := 31) rfl rfl q2) (v := .bool false) (by go_simp) rfl
            · intro a1 w7 hb7 hp
              obtain ⟨x0, p0, x1, p1, x2, p2, x3, p3, x4, p4, x5, p5, x6, p6, x7, p7, x8, p8, x9, p9, x10, p10, x11, p11, x12, p12, x13, p13, x14, p14, rfl⟩ := hp
              simp only [c8D] at p0 p1 p2 p3 p4 p5 p6 p7 p8 p9 p10 p11 p12 p13 p14
              subst p0 p1 p2 p3 p4 p5 p6 p7 p8 p9 p10 p11 p12 p13 p14
              simp only [List.drop_succ_cons, List.drop_zero, Act.put, List.setIfInBounds_toArray, List.set_cons_succ, List.set_cons_zero]
              have hB7 := Below.then_ hB4c hb7
              have hs0 := hs0.step hb7
              have hs1 := hs1.step hb7
              have hbs := hB7.size
              clear hb7 hB4c
              have hcx := cut_x G 0 d (by omega)
              go_wp2_with fail
              refine region_all_end (clT0 w.heap.size G d nx L) (by kernel_rfl) (by kernel_rfl) (clT0_stab _ _ _ _ _) ?_ ?_
              · intro w0 hb0
                refine ⟨?_, ?_, ?_, ?_, ?_, ?_, ?_, ?_, ?_, ?_, ?_, ?_, trivial⟩
                all_goals intro listed a1 w' hk1 hd1
                · have f12_ : a1.eval (.tmp 12) = .slice (some ⟨G, 0, none⟩) 64 d := hk1.ev_old 12 (by kernel_rfl)
                  have g12_ : a1.tmps[12]?.getD undef = .slice (some ⟨G, 0, none⟩) 64 d := by simpa [Act.eval] using f12_
                  exact stepOk_value rfl (v := .slice (some ⟨G, 0, none⟩) 64 d) (by go_simp) rfl
                · obtain ⟨y0, e0, q0, rfl⟩ := hk1.ev_new hd1 0 55 (by kernel_rfl) rfl
                  have hcu := cut_u G 0 (d) w' (by omega)
                  exact stepOk_value rfl (v := .slice (some ⟨G, 2, none⟩) 61 (d - 2)) (by go_simp) rfl
                · have f12_ : a1.eval (.tmp 12) = .slice (some ⟨G, 0, none⟩) 64 d := hk1.ev_old 12 (by kernel_rfl)
                  have g12_ : a1.tmps[12]?.getD undef = .slice (some ⟨G, 0, none⟩) 64 d := by simpa [Act.eval] using f12_
                  exact stepOk_value rfl (v := .slice (some ⟨G, 0, none⟩) 64 d) (by go_simp) rfl
                · obtain ⟨y2, e2, q2, rfl⟩ := hk1.ev_new hd1 2 57 (by kernel_rfl) rfl
                  exact stepOk_value rfl (v := .pointer (some ⟨G, 1, none⟩)) (by go_simp) rfl
                · obtain ⟨y3, e3, q3, rfl⟩ := hk1.ev_new hd1 3 58 (by kernel_rfl) rfl
                  have kc : w'.cell? ⟨G, 1, none⟩ = some (.int .u32 (nx.toNat : Int)) := sees_at (k := 1) ((hs0.step hb0).step hk1.below) rfl
                  exact stepOk_value rfl (v := .int .u32 (nx.toNat : Int)) (by go_simp) rfl
                · obtain ⟨y4, e4, q4, rfl⟩ := hk1.ev_new hd1 4 59 (by kernel_rfl) rfl
                  have ew : IntKind.i64.wrap (nx.toNat : Int) = (nx.toNat : Int) := by rw [IntKind.wrap_i64]; have := nx.toNat_lt; omega
                  exact stepOk_value rfl (v := .int .i64 (nx.toNat : Int)) (by go_simp) rfl
                · obtain ⟨y1, e1, q1, rfl⟩ := hk1.ev_new hd1 1 56 (by kernel_rfl) rfl
                  obtain ⟨y5, e5, q5, rfl⟩ := hk1.ev_new hd1 5 60 (by kernel_rfl) rfl
                  refine stepOk_enter rfl (f := 146) (args := #[.slice (some ⟨G, 2, none⟩) 61 (d - 2), .int .i64 (nx.toNat : Int)]) (by go_simp) ?_
                  have hsz := Nat.le_trans hbs (Nat.le_trans hb0.size hk1.below.size)
                  refine (rBytes_any (some ⟨G, 2, none⟩) (d - 2) 61 (nx.toNat : Int) _ w' (sees_mid ((hs0.step hb0).step hk1.below)) HM.out (by omega) L L.length 0 HGB.out rfl).mono ?_
                  rintro e w5 ⟨A5, c5, rfl, hF5, hB5⟩
                  exact ⟨_, rfl, ⟨A5, c5, rfl, hF5.lower hsz⟩, hB5⟩
                · obtain ⟨y6, e6, r6, q6_⟩ := hk1.ev_new hd1 6 61 (by kernel_rfl) rfl
                  obtain ⟨A5, c5, rfl, hF5⟩ := q6_
                  exact stepOk_value rfl (v := .tuple #[.slice A5 L.length c5, .int .i64 0]) (by go_simp) ⟨A5, c5, rfl, hF5⟩
                · obtain ⟨y7, e7, r7, q7_⟩ := hk1.ev_new hd1 7 54 (by kernel_rfl) rfl
                  obtain ⟨A5, c5, rfl, hF5⟩ := q7_
                  exact stepOk_value rfl (v := .slice A5 L.length c5) (by go_simp) ⟨A5, c5, rfl, hF5⟩
                · obtain ⟨y7, e7, r7, q7_⟩ := hk1.ev_new hd1 7 54 (by kernel_rfl) rfl
                  obtain ⟨A5, c5, rfl, hF5⟩ := q7_
                  exact stepOk_value rfl (v := .int .i64 0) (by go_simp) rfl
                · obtain ⟨y8, e8, r8, q8_⟩ := hk1.ev_new hd1 8 62 (by kernel_rfl) rfl
                  obtain ⟨A5, c5, rfl, hF5⟩ := q8_
                  exact stepOk_value rfl (v := .slice A5 L.length c5) (by go_simp) ⟨A5, c5, rfl, hF5⟩
                · obtain ⟨y9, e9, q9, rfl⟩ := hk1.ev_new hd1 9 63 (by kernel_rfl) rfl
                  exact stepOk_value rfl (v := .int .i64 0) (by go_simp) rfl
              · intro a1 w7 hb7 hp
                obtain ⟨x0, p0, x1, p1, x2, p2, x3, p3, x4, p4, x5, p5, x6, p6, x7, p7, x8, p8, x9, p9, x10, p10, x11, p11, rfl⟩ := hp
                simp only [clT0] at p0 p1 p2 p3 p4 p5 p6 p7 p8 p9 p10 p11
                obtain ⟨A6, c6, rfl, -⟩ := p6
                obtain ⟨A7, c7, rfl, -⟩ := p7
                obtain ⟨A9, c9, rfl, -⟩ := p8
                obtain ⟨A8, c8, rfl, hF8⟩ := p10
                subst p0 p1 p2 p3 p4 p5 p9 p11
                simp only [Act.put, List.setIfInBounds_toArray, List.set_cons_succ, List.set_cons_zero]
                have hs0 := hs0.step hb7
                have hs1 := hs1.step hb7
                have hB7b := Below.then_ hB7 hb7
                have hbs2 := hB7b.size
                clear hb7 hB7
                go_wp2_with fail
                refine region_all_end (clU0 G d L.length c8 (0) A8 tx) (by kernel_rfl) (by kernel_rfl) (clU0_stab _ _ _ _ _ _ _) ?_ ?_
                · intro w0 hb0
                  refine ⟨?_, ?_, ?_, ?_, ?_, ?_, ?_, ?_, ?_, trivial⟩
                  all_goals intro listed a1 w' hk1 hd1
                  · have f11_ : a1.eval (.tmp 11) = .int .i64 (0) := hk1.ev_old 11 (by kernel_rfl)
                    have g11_ : a1.tmps[11]?.getD undef = .int .i64 (0) := by simpa [Act.eval] using f11_
                    exact stepOk_value rfl (v := .int .i64 (0)) (by go_simp) rfl
                  · have f12_ : a1.eval (.tmp 12) = .slice (some ⟨G, 0, none⟩) 64 d := hk1.ev_old 12 (by kernel_rfl)
                    have g12_ : a1.tmps[12]?.getD undef = .slice (some ⟨G, 0, none⟩) 64 d := by simpa [Act.eval] using f12_
                    exact stepOk_value rfl (v := .slice (some ⟨G, 0, none⟩) 64 d) (by go_simp) rfl
                  · obtain ⟨y1, e1, q1, rfl⟩ := hk1.ev_new hd1 1 65 (by kernel_rfl) rfl
                    exact stepOk_value rfl (v := .pointer (some ⟨G, 0, none⟩)) (by go_simp) rfl
                  · obtain ⟨y2, e2, q2, rfl⟩ := hk1.ev_new hd1 2 66 (by kernel_rfl) rfl
                    have kc : w'.cell? ⟨G, 0, none⟩ = some (.int .u32 (tx.toNat : Int)) := sees_first ((hs0.step hb0).step hk1.below) rfl
                    exact stepOk_value rfl (v := .int .u32 (tx.toNat : Int)) (by go_simp) rfl
                  · obtain ⟨y3, e3, q3, rfl⟩ := hk1.ev_new hd1 3 67 (by kernel_rfl) rfl
                    have ew : IntKind.i64.wrap (tx.toNat : Int) = (tx.toNat : Int) := by rw [IntKind.wrap_i64]; have := tx.toNat_lt; omega
                    exact stepOk_value rfl (v := .int .i64 (tx.toNat : Int)) (by go_simp) rfl
                  · have f13_ : a1.eval (.tmp 13) = .slice A8 L.length c8 := hk1.ev_old 13 (by kernel_rfl)
                    have g13_ : a1.tmps[13]?.getD undef = .slice A8 L.length c8 := by simpa [Act.eval] using f13_
                    exact stepOk_value rfl (v := .slice A8 L.length c8) (by go_simp) rfl
                  · obtain ⟨y0, e0, q0, rfl⟩ := hk1.ev_new hd1 0 64 (by kernel_rfl) rfl
                    exact stepOk_value rfl (v := .int .i64 (0)) (by go_simp) rfl
                  · obtain ⟨y4, e4, q4, rfl⟩ := hk1.ev_new hd1 4 68 (by kernel_rfl) rfl
                    exact stepOk_value rfl (v := .int .i64 (tx.toNat : Int)) (by go_simp) rfl
                  · obtain ⟨y5, e5, q5, rfl⟩ := hk1.ev_new hd1 5 69 (by kernel_rfl) rfl
                    exact stepOk_value rfl (v := .slice A8 L.length c8) (by go_simp) rfl
                · intro a1 wB hb7 hp
                  obtain ⟨x0, p0, x1, p1, x2, p2, x3, p3, x4, p4, x5, p5, x6, p6, x7, p7, x8, p8, rfl⟩ := hp
                  simp only [clU0] at p0 p1 p2 p3 p4 p5 p6 p7 p8
                  subst p0 p1 p2 p3 p4 p5 p6 p7 p8
                  simp only [Act.put, List.setIfInBounds_toArray, List.set_cons_succ, List.set_cons_zero]
                  have hBz := Below.then_ hB7b hb7
                  have hF9 := hF8.below hb7
                  go_wp2_with fail
                  (try simp only [Exit.inBlock, Exit.then])
                  refine bodyPost_ret (results_three rfl _ _ _) rfl ?_
                  exact ⟨A8, L.length, c8, rfl, hF9, rfl, hBz⟩
end
end Go.Proofs.Ytpdfalgjmeagjaa
