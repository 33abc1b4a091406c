/-
  What a cell tells: told, Get, Turn; and a copy of bytes (slices.Clone).
-/
import Derived.Test.YtdilpalggoapnaaCellAt
import Derived.Test.YtdilpalggoapnaaRegionE
namespace Go.Proofs.Ytdilpalggoapnaa
open Go.RowKit
set_option linter.unusedVariables false

theorem isnil8 (A : Option Addr) (n c : Nat) (w : World) : (binOp .eql 27 (.slice A n c) (.slice none 0 0)).run Try.prog w = .ok (.bool A.isNone) w := by
  have he : Try.prog.underlying 27 = some (.slice (Try.prog.elem 27)) := by kernel_rfl
  simp only [binOp]
  simp [Op.equal, Op.maxDepth, Lib.run_equalIn_slice_nil w 9999 27 _ A n c 0 0 he]
set_option maxRecDepth 100000 in
theorem Clone_any (A : Option Addr) (c n : Nat) (l : List UInt8) (w : World) (hs : Sees w w.heap.size A (cb l)) (hl : l.length = n) (hn : n ≤ 1099511627776) :
    Calls Try.prog 93 #[.slice A n c] w (Made8 w n l) := by
  have HL := Lib.hid hl
  cases A with
  | none =>
    obtain rfl : l = [] := by
      cases l with
      | nil => rfl
      | cons a l =>
        obtain ⟨b, o, h, _⟩ := hs (by simp)
        cases h
    obtain rfl : n = 0 := hl.symm
    clear hl
    have hq := isnil8 none 0 c w
    go_enter Try.func93, Try.ntmps93
    go_wp2_with fail
    go_ret
    exact ⟨none, 0, rfl, fresh_nil _ _ _, Below.refl _ _⟩
  | some ad =>
    clear hl
    have hq := isnil8 (some ad) n c w
    go_enter Try.func93, Try.ntmps93
    go_wp2_with (at_builtin; refine wpList_app8 rfl (.tmp 5) (.tmp 6) rfl (some ⟨w.heap.size, 0, none⟩) (some ad) 0 0 n c [] l w rfl rfl (Fresh.new w 5 [] 0 rfl (by decide)) (hs.step (below_alloc _ _)) HL.out (by omega) (below_alloc _ _) ?_; intro A' c' w1 hF1 hB1)
    go_ret
    exact ⟨A', c', rfl, by simpa using hF1, hB1⟩

/-- What a cell tells of. -/
def Fl.ctold (S : Fl) (f : Nat) (x : Co) (over : Bool) : Co := match over, S.down with
  | false, false => S.clook f
  | _, _ => x
def getFacts (g base : Nat) (A : Option Addr) (cp : Nat) (z : Co) (k : Nat) (v : Value) (w : World) : Prop :=
  match k with
  | 0 => v = .pointer (some ⟨g, 2, none⟩)
  | 1 => v = .slice A z.b.length cp
  | 2 => ∃ q c, v = .slice q z.b.length c ∧ Fresh base 5 w q z.b.length c (cb z.b)
  | 3 => v = .pointer (some ⟨g, 0, none⟩)
  | 4 => v = .int .i64 z.s
  | 5 => v = .bool (z.s != -1)
  | 6 => ∃ q c, v = .slice q z.b.length c ∧ Fresh base 5 w q z.b.length c (cb z.b)
  | 7 => v = .bool (z.s != -1)
  | _ => True
theorem getFacts_stab (g base : Nat) (A : Option Addr) (cp : Nat) (z : Co) : ∀ k v w w', Below w.heap.size w w' → getFacts g base A cp z k v w → getFacts g base A cp z k v w' := by
  intro k v w w' hb h
  unfold getFacts at *
  split at h <;> first | exact h | (obtain ⟨q, c, h1, h2⟩ := h; exact ⟨q, c, h1, h2.below hb⟩) | trivial
section
variable {w w' w'' : World} {base c d p b f : Nat} {over : Bool} {S S' : Fl} {x x' z : Co}
/-- Blocks of unlike types are not the same. -/
theorem Fresh.ne {B1 B2 T1 T2 g1 g2 n m : Nat} {xs ys : List Value} (h1 : Fresh B1 T1 w (some ⟨g1, 0, none⟩) n n xs) (h2 : Fresh B2 T2 w (some ⟨g2, 0, none⟩) m m ys) (hT : T1 ≠ T2) : g1 ≠ g2 := fun e => by
  have q1 := h1.block.1
  have q2 := h2.block.1
  rw [e, q2] at q1
  simp at q1
  exact hT q1.2.symm
/-- A block of another type is written; the cell stays. -/
theorem CeAt.aside {g B T k : Nat} {xs : List Value} (h : CeAt base w c d p b f S x over) (hg : Fresh B T w (some ⟨g, 0, none⟩) k k xs) (t1 : 146 ≠ T) (t2 : 148 ≠ T) (t3 : 166 ≠ T) (t4 : 97 ≠ T) (t5 : 5 ≠ T) (y : But g g w w') : CeAt base w' c d p b f S x over := by
  obtain ⟨A, cp, r1, r2⟩ := h.row
  exact h.other y (h.dr.nor.obj.ne hg t1) (h.dr.nor.row.ne hg t2) (h.dr.obj.ne hg t3) (r1.ne hg t4) hg t5
theorem But.fresh {q g : Nat} (x : But q q w w') (hg : w.heap.size ≤ g) (k1 : w''.os = w'.os) (k2 : w''.tape = w'.tape) (k3 : w''.output = w'.output) (k4 : w'.heap.size ≤ w''.heap.size) (k5 : ∀ k, k ≠ g → w''.heap[k]? = w'.heap[k]?) : But q q w w'' :=
  ⟨k1.trans x.os, k2.trans x.tape, k3.trans x.output, Nat.le_trans x.size k4, fun k h1 h2 h3 => (k5 k (by omega)).trans (x.keep k h1 h2 h3)⟩
set_option maxHeartbeats 1000000 in
set_option maxRecDepth 100000 in
theorem told_any (h : CeAt base w c d p b f S x over) (hbase : base ≤ w.heap.size) (z : Co) (hz : S.ctold f x over = z) :
    Calls Try.prog 98 #[.pointer (some ⟨c, 0, none⟩)] w fun e w' => ∃ A cp, e = .returned (.agg (coL z A cp).toArray) ∧ Sees w' w'.heap.size A (cb z.b) ∧ CeAt base w' c d p b f S z over ∧ But c c w w' := by
  have hI := fun (w' : World) (y : CeAt base w' c d p b f S x over) => isCell_any y
  have lc := h.lt
  cases over with
  | true =>
    obtain rfl : x = z := hz
    go_enter Try.func98, Try.ntmps98
    go_wp2_with (with_reducible refine wpList_alloc (o := ⟨some 2, _, _, _, _, _⟩) rfl 95 rfl zero3 (by kernel_rfl) 3 rfl (by decide) ?_; intro gl w1 hgl hFl hBl)
    refine (hI w1 (h.below hBl)).mono ?_
    rintro e w2 ⟨rfl, rfl⟩
    have hg := hFl.block.2
    have hT := h.below hBl
    have hC : But c c w w2 := But.of_below hBl
    obtain ⟨K0, ck0, hrow0, hk0⟩ := hT.row
    have c5 : w2.cell? ⟨c, 5, none⟩ = some (.bool true) := hrow0.cell rfl
    obtain ⟨K, ck, hrow, hk⟩ := hT.row
    have sx : Sees w2 w2.heap.size (some ⟨c, 2, none⟩) (coL x K ck) := Sees.of_fresh hrow 2 3
    go_wp2_with (first
      | (with_reducible refine wpList_load (o := ⟨some 17, _, _, _, _, _⟩) rfl (.tmp 16) 95 rfl c 2 _ rfl (coL x K ck) 3 rfl (by kernel_rfl) sx ?_)
      | (with_reducible refine wpList_storeN rfl rfl (.tmp 2) (.tmp 17) 95 rfl gl 0 w.heap.size 95 3 zero3 (coL x K ck) rfl rfl 3 rfl (by kernel_rfl) hFl (by omega) (coL_one _ _ _) ?_; intro w4 hF4 k1 k2 k3 k4 k5))
    refine bodyPost_cell rfl rfl (coL x K ck) 3 rfl (by kernel_rfl) hF4.sees rfl ⟨K, ck, rfl, (hk.unlike hFl (by decide) k5).sees, hT.aside hFl (by decide) (by decide) (by decide) (by decide) (by decide) ⟨k1, k2, k3, k4, fun k _ hk _ => k5 k hk⟩, hC.fresh hg k1 k2 k3 k4 k5⟩
  | false =>
    cases hd : S.down with
    | true =>
      obtain rfl : x = z := by rw [← hz]; unfold Fl.ctold; rw [hd]
      have hLk := fun (w' : World) (y : CeAt base w' c d p b f S x false) => look_no y hd
      clear hz
      go_enter Try.func98, Try.ntmps98
      go_wp2_with (with_reducible refine wpList_alloc (o := ⟨some 2, _, _, _, _, _⟩) rfl 95 rfl zero3 (by kernel_rfl) 3 rfl (by decide) ?_; intro gl w1 hgl hFl hBl)
      refine (hI w1 (h.below hBl)).mono ?_
      rintro e w2 ⟨rfl, rfl⟩
      have hg := hFl.block.2
      have hT0 := h.below hBl
      obtain ⟨K0, ck0, hrow0, hk0⟩ := hT0.row
      have c5 : w2.cell? ⟨c, 5, none⟩ = some (.bool false) := hrow0.cell rfl
      go_wp2_with fail
      refine (hLk w2 hT0).mono ?_
      rintro e w3 ⟨rfl, hB3⟩
      have hT := hT0.below hB3
      replace hFl := hFl.below hB3
      have hC : But c c w w3 := But.of_below (Below.then_ hBl hB3)
      clear hT0 hrow0 hk0 c5 hBl hB3
      obtain ⟨K, ck, hrow, hk⟩ := hT.row
      have sx : Sees w3 w3.heap.size (some ⟨c, 2, none⟩) (coL x K ck) := Sees.of_fresh hrow 2 3
      go_wp2_with (first
        | (with_reducible refine wpList_load (o := ⟨some 17, _, _, _, _, _⟩) rfl (.tmp 16) 95 rfl c 2 _ rfl (coL x K ck) 3 rfl (by kernel_rfl) sx ?_)
        | (with_reducible refine wpList_storeN rfl rfl (.tmp 2) (.tmp 17) 95 rfl gl 0 w.heap.size 95 3 zero3 (coL x K ck) rfl rfl 3 rfl (by kernel_rfl) hFl (by omega) (coL_one _ _ _) ?_; intro w4 hF4 k1 k2 k3 k4 k5))
      refine bodyPost_cell rfl rfl (coL x K ck) 3 rfl (by kernel_rfl) hF4.sees rfl ⟨K, ck, rfl, (hk.unlike hFl (by decide) k5).sees, hT.aside hFl (by decide) (by decide) (by decide) (by decide) (by decide) ⟨k1, k2, k3, k4, fun k _ hk _ => k5 k hk⟩, hC.fresh hg k1 k2 k3 k4 k5⟩
    | false =>
      have hz2 : S.clook f = z := by rw [← hz]; unfold Fl.ctold; rw [hd]
      have hLk := fun (w' : World) (y : CeAt base w' c d p b f S x false) (hb : base ≤ w'.heap.size) => look_yes y hd hb z hz2
      clear hz hz2
      go_enter Try.func98, Try.ntmps98
      go_wp2_with (with_reducible refine wpList_alloc (o := ⟨some 2, _, _, _, _, _⟩) rfl 95 rfl zero3 (by kernel_rfl) 3 rfl (by decide) ?_; intro gl w1 hgl hFl hBl)
      refine (hI w1 (h.below hBl)).mono ?_
      rintro e w2 ⟨rfl, rfl⟩
      have hg := hFl.block.2
      have hT0 := h.below hBl
      obtain ⟨K0, ck0, hrow0, hk0⟩ := hT0.row
      have c5 : w2.cell? ⟨c, 5, none⟩ = some (.bool false) := hrow0.cell rfl
      go_wp2_with fail
      refine (hLk w2 hT0 (Nat.le_trans hbase hBl.size)).mono ?_
      rintro e w3 ⟨rfl, hT, hC3⟩
      replace hFl := hFl.but hC3 (by omega) (by omega)
      have hC : But c c w w3 := (But.of_below hBl).then_ hC3
      clear hT0 hrow0 hk0 c5 hBl hC3
      obtain ⟨K, ck, hrow, hk⟩ := hT.row
      have sx : Sees w3 w3.heap.size (some ⟨c, 2, none⟩) (coL z K ck) := Sees.of_fresh hrow 2 3
      go_wp2_with (first
        | (with_reducible refine wpList_load (o := ⟨some 17, _, _, _, _, _⟩) rfl (.tmp 16) 95 rfl c 2 _ rfl (coL z K ck) 3 rfl (by kernel_rfl) sx ?_)
        | (with_reducible refine wpList_storeN rfl rfl (.tmp 2) (.tmp 17) 95 rfl gl 0 w.heap.size 95 3 zero3 (coL z K ck) rfl rfl 3 rfl (by kernel_rfl) hFl (by omega) (coL_one _ _ _) ?_; intro w4 hF4 k1 k2 k3 k4 k5))
      refine bodyPost_cell rfl rfl (coL z K ck) 3 rfl (by kernel_rfl) hF4.sees rfl ⟨K, ck, rfl, (hk.unlike hFl (by decide) k5).sees, hT.aside hFl (by decide) (by decide) (by decide) (by decide) (by decide) ⟨k1, k2, k3, k4, fun k _ hk _ => k5 k hk⟩, hC.fresh hg k1 k2 k3 k4 k5⟩
theorem CTurn_any (h : CeAt base w c d p b f S x over) (hbase : base ≤ w.heap.size) (z : Co) (hz : S.ctold f x over = z) :
    Calls Try.prog 48 #[.pointer (some ⟨c, 0, none⟩)] w fun e w' => e = .returned (.int .i64 (z.t : Int)) ∧ CeAt base w' c d p b f S z over ∧ But c c w w' := by
  go_enter Try.func48, Try.ntmps48
  go_wp2_with fail
  refine (told_any h hbase z hz).mono ?_
  rintro e w1 ⟨A, cp, rfl, hs, hT, hC⟩
  have hf : (Instr.field 95 (.agg (coL z A cp).toArray) 1).run Try.prog w1 = .ok (.int .i64 (z.t : Int)) w1 := by kernel_rfl
  go_wp2_with fail
  go_ret
  exact ⟨rfl, hT, hC⟩
set_option maxHeartbeats 2000000 in
set_option maxRecDepth 100000 in
theorem Get_any (h : CeAt base w c d p b f S x over) (hbase : base ≤ w.heap.size) (z : Co) (hz : S.ctold f x over = z) :
    Calls Try.prog 46 #[.pointer (some ⟨c, 0, none⟩)] w fun e w' => ∃ A cp, e = .returned (.tuple #[.slice A z.b.length cp, .bool (z.s != -1)]) ∧ Fresh w.heap.size 5 w' A z.b.length cp (cb z.b) ∧ CeAt base w' c d p b f S z over ∧ But c c w w' := by
  go_enter Try.func46, Try.ntmps46
  go_wp2_with fail
  refine (told_any h hbase z hz).mono ?_
  rintro e w1 ⟨A, cp, rfl, hs, hT, hC⟩
  have hzb := hT.ok.b
  go_wp2_with (first
    | (with_reducible refine wpList_alloc (o := ⟨some 4, _, _, _, _, _⟩) rfl 95 rfl zero3 (by kernel_rfl) 3 rfl (by decide) ?_; intro g w2 hg hF2 hB2)
    | (with_reducible refine wpList_store rfl rfl (.tmp 4) (.tmp 6) 95 rfl g 0 w1.heap.size 95 3 zero3 (coL z A cp) rfl rfl 3 rfl (by kernel_rfl) hF2 (by omega) (coL_one _ _ _) w1 hB2 hg ?_; intro w3 hF hB3 hoth3 hz3))
  have hS := hs.step hB3
  have hC3 := hC.then_ (But.of_below hB3)
  have hT3 := hT.below hB3
  (try simp only [Act.put, List.setIfInBounds_toArray, List.set_cons_succ, List.set_cons_zero])
  refine region_all_end (getFacts g w.heap.size A cp z) (by kernel_rfl) (by kernel_rfl) (getFacts_stab _ _ _ _ _) ?_ ?_
  · intro w0 hb0
    have hsz0 : w.heap.size ≤ w0.heap.size := Nat.le_trans hC3.size hb0.size
    refine ⟨?_, ?_, ?_, ?_, ?_, ?_, ?_, ?_, trivial⟩
    all_goals intro listed a1 w' hk hd
    · have f4_ : a1.eval (.tmp 4) = .pointer (some ⟨g, 0, none⟩) := hk.ev_old 4 (by kernel_rfl)
      have g4_ : a1.tmps[4]?.getD undef = .pointer (some ⟨g, 0, none⟩) := by simpa [Act.eval] using f4_
      exact stepOk_value rfl (v := .pointer (some ⟨g, 2, none⟩)) (by go_simp) rfl
    · obtain ⟨v0, e0, q0, rfl⟩ := hk.ev_new hd 0 7 (by kernel_rfl) rfl
      have c1 : w'.cell? ⟨g, 2, none⟩ = some (.slice A z.b.length cp) := ((hF.below hb0).below hk.below).cell rfl
      exact stepOk_value rfl (v := .slice A z.b.length cp) (by go_simp) rfl
    · obtain ⟨v1, e1, q1, rfl⟩ := hk.ev_new hd 1 8 (by kernel_rfl) rfl
      refine stepOk_enter rfl (f := 93) (args := #[.slice A z.b.length cp]) (by go_simp) ?_
      refine (Clone_any A cp z.b.length z.b w' ((hS.step hb0).step hk.below) rfl (by omega)).mono ?_
      rintro e w5 ⟨q, c, rfl, hq, hB5⟩
      exact ⟨_, rfl, ⟨q, c, rfl, hq.lower (Nat.le_trans hsz0 hk.below.size)⟩, hB5⟩
    · have f4_ : a1.eval (.tmp 4) = .pointer (some ⟨g, 0, none⟩) := hk.ev_old 4 (by kernel_rfl)
      have g4_ : a1.tmps[4]?.getD undef = .pointer (some ⟨g, 0, none⟩) := by simpa [Act.eval] using f4_
      exact stepOk_value rfl (v := .pointer (some ⟨g, 0, none⟩)) (by go_simp) rfl
    · obtain ⟨v3, e3, q3, rfl⟩ := hk.ev_new hd 3 10 (by kernel_rfl) rfl
      have c1 : w'.cell? ⟨g, 0, none⟩ = some (.int .i64 z.s) := ((hF.below hb0).below hk.below).cell rfl
      exact stepOk_value rfl (v := .int .i64 z.s) (by go_simp) rfl
    · obtain ⟨v4, e4, q4, rfl⟩ := hk.ev_new hd 4 11 (by kernel_rfl) rfl
      exact stepOk_value rfl (v := .bool (z.s != -1)) (by go_simp) rfl
    · obtain ⟨v2, e2, q2, hv2⟩ := hk.ev_new hd 2 9 (by kernel_rfl) rfl
      exact stepOk_value rfl (v := v2) (by go_simp) hv2
    · obtain ⟨v5, e5, q5, rfl⟩ := hk.ev_new hd 5 12 (by kernel_rfl) rfl
      exact stepOk_value rfl (v := .bool (z.s != -1)) (by go_simp) rfl
  · intro a1 w' hbw hp
    obtain ⟨v0, p0, v1, p1, v2, p2, v3, p3, v4, p4, v5, p5, v6, p6, v7, p7, rfl⟩ := hp
    simp only [getFacts] at p0 p1 p2 p3 p4 p5 p6 p7
    subst p0 p1 p3 p4 p5 p7
    obtain ⟨q1, c1, rfl, hF1⟩ := p2
    obtain ⟨q2, c2, rfl, hF6⟩ := p6
    simp only [Act.put, List.setIfInBounds_toArray, List.set_cons_succ, List.set_cons_zero]
    go_wp2_with fail
    go_ret2
    exact ⟨q2, c2, rfl, hF6, hT3.below hbw, hC3.then_ (But.of_below hbw)⟩
end
end Go.Proofs.Ytdilpalggoapnaa
