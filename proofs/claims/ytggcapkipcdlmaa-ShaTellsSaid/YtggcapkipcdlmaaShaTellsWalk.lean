/-
  ShaTells returns true for every input, and writes nothing that was there: the walk.
-/
import Derived.Test.YtggcapkipcdlmaaShaCases
import Derived.Test.YtggcapkipcdlmaaRoundsSame
import Derived.Test.YtggcapkipcdlmaaCopyHasher
import Derived.Test.YtggcapkipcdlmaaShaAwake
import Derived.Test.YtggcapkipcdlmaaShaDig
namespace Go.Proofs.Ytggcapkipcdlmaa
open Go.RowKit
set_option linter.unusedVariables false

def zero72 : List Value := cw (List.replicate 72 0)
/-- What stays through the calls. -/
structure ST (w0 : World) (g5 g6 g8 gu gw ga gb : Nat) (first keys s xS : List UInt32) (R A A2 A3 A4 A5 : Option Addr) (m cr c3 c4 c5 : Nat) (L xL : Int) (rest b blk xR : List UInt8) (w : World) : Prop where
  tab : Sees w w.heap.size (some ⟨g5, 0, none⟩) (cw (first ++ keys))
  has : Sees w w.heap.size (some ⟨g6, 0, none⟩) (hz s (.slice R m cr) L)
  blk_ : Sees w w.heap.size (some ⟨g8, 0, none⟩) (cb blk)
  utab : Tab w gu 0 first keys
  was : Sees w w.heap.size (some ⟨gw, 0, none⟩) (hz s (.slice A3 m c3) L)
  xa : Sees w w.heap.size (some ⟨ga, 0, none⟩) (hz xS (.slice A4 xR.length c4) xL)
  xb : Sees w w.heap.size (some ⟨gb, 0, none⟩) (hz xS (.slice A5 xR.length c5) xL)
  a : Sees w w.heap.size A (cb b)
  a2 : Sees w w.heap.size A2 (cb b)
  r : Sees w w.heap.size R (cb rest)
  r3 : Sees w w.heap.size A3 (cb rest)
  r4 : Sees w w.heap.size A4 (cb xR)
  r5 : Sees w w.heap.size A5 (cb xR)
  be : Below w0.heap.size w0 w
theorem ST.step {w0 : World} {g5 g6 g8 gu gw ga gb : Nat} {first keys s xS : List UInt32} {R A A2 A3 A4 A5 : Option Addr} {m cr c3 c4 c5 : Nat} {L xL : Int} {rest b blk xR : List UInt8} {w w' : World} (h : ST w0 g5 g6 g8 gu gw ga gb first keys s xS R A A2 A3 A4 A5 m cr c3 c4 c5 L xL rest b blk xR w) (x : Below w.heap.size w w') : ST w0 g5 g6 g8 gu gw ga gb first keys s xS R A A2 A3 A4 A5 m cr c3 c4 c5 L xL rest b blk xR w' :=
  ⟨h.tab.step x, h.has.step x, h.blk_.step x, h.utab.step x, h.was.step x, h.xa.step x, h.xb.step x, h.a.step x, h.a2.step x, h.r.step x, h.r3.step x, h.r4.step x, h.r5.step x, Below.then_ h.be x⟩
theorem Fresh.apart {w w' : World} {B B2 g n c k : Nat} {T1 T2 : TypeId} {A : Option Addr} {xs ys : List Value} (h1 : Fresh B T1 w A n c xs) (h2 : Fresh B2 T2 w (some ⟨g, 0, none⟩) k k ys) (hne : T1 ≠ T2) (hk : ∀ j, j ≠ g → w'.heap[j]? = w.heap[j]?) : Fresh B T1 w' A n c xs := by
  refine ⟨h1.1, ?_⟩
  rcases h1.2 with h3 | ⟨g', cap, cur, hv, hg, hh, hr⟩
  · exact .inl h3
  · have hgg : g' ≠ g := fun e => by
      have hb := h2.block.1
      rw [← e, hh] at hb
      simp at hb
      exact hne hb.2
    exact .inr ⟨g', cap, cur, hv, hg, by rw [hk g' hgg]; exact hh, hr⟩
theorem splice_same {α : Type} {A B : List α} (h : A.length = B.length) : splice A 0 B = B := by
  simp [splice, h]
def st3 (B n m c cr : Nat) (R A : Option Addr) (first keys s : List UInt32) (L : Int) (rest b : List UInt8) (k : Nat) (v : Value) (w : World) : Prop :=
  match k with
  | 0 => v = .agg (cw (first ++ keys)).toArray
  | 1 => v = .slice A n c
  | 2 => ∃ A2 c2, v = .slice A2 n c2 ∧ n ≤ c2 ∧ Fresh B 5 w A2 n c2 (cb b)
  | 3 => v = .agg (hz s (.slice R m cr) L).toArray
  | 4 => ∃ A3 c3, v = .agg (hz s (.slice A3 m c3) L).toArray ∧ Fresh B 5 w A3 m c3 (cb rest)
  | 5 => ∃ g, v = .pointer (some ⟨g, 0, none⟩) ∧ Fresh B 26 w (some ⟨g, 0, none⟩) 72 72 zero72
  | 6 => ∃ g, v = .pointer (some ⟨g, 0, none⟩) ∧ Fresh B 29 w (some ⟨g, 0, none⟩) 10 10 (hz (List.replicate 8 0) (.slice none 0 0) 0)
  | _ => True
theorem st3_stab (B n m c cr : Nat) (R A : Option Addr) (first keys s : List UInt32) (L : Int) (rest b : List UInt8) : ∀ k v w w', Below w.heap.size w w' → st3 B n m c cr R A first keys s L rest b k v w → st3 B n m c cr R A first keys s L rest b k v w' := fun k v w w' hb h =>
  match k, h with
  | 0, h => h
  | 1, h => h
  | 2, ⟨A2, c2, e, h1, h2⟩ => ⟨A2, c2, e, h1, h2.below hb⟩
  | 3, h => h
  | 4, ⟨A3, c3, e, h⟩ => ⟨A3, c3, e, h.below hb⟩
  | 5, ⟨g, e, h⟩ => ⟨g, e, h.below hb⟩
  | 6, ⟨g, e, h⟩ => ⟨g, e, h.below hb⟩
  | _ + 7, _ => trivial
def st4 (B n m c cr c2 c3 : Nat) (R A A2 A3 : Option Addr) (first keys s xS : List UInt32) (L xL : Int) (xR rest : List UInt8) (k : Nat) (v : Value) (w : World) : Prop :=
  match k with
  | 0 => v = .agg (hz s (.slice A3 m c3) L).toArray
  | 1 => v = .slice A2 n c2
  | 2 => ∃ A4 c4, v = .agg (hz xS (.slice A4 xR.length c4) xL).toArray ∧ Fresh B 5 w A4 xR.length c4 (cb xR)
  | 3 => v = .agg (cw (first ++ keys)).toArray
  | 4 => v = .agg (hz s (.slice R m cr) L).toArray
  | 5 => v = .slice A n c
  | 6 => ∃ A5 c5, v = .agg (hz xS (.slice A5 xR.length c5) xL).toArray ∧ (Fresh B 5 w A5 xR.length c5 (cb xR) ∨ (A5 = R ∧ xR = rest))
  | 7 => ∃ g, v = .pointer (some ⟨g, 0, none⟩) ∧ Fresh B 29 w (some ⟨g, 0, none⟩) 10 10 (hz (List.replicate 8 0) (.slice none 0 0) 0)
  | 8 => ∃ g, v = .pointer (some ⟨g, 0, none⟩) ∧ Fresh B 29 w (some ⟨g, 0, none⟩) 10 10 (hz (List.replicate 8 0) (.slice none 0 0) 0)
  | _ => True
theorem st4_stab (B n m c cr c2 c3 : Nat) (R A A2 A3 : Option Addr) (first keys s xS : List UInt32) (L xL : Int) (xR rest : List UInt8) : ∀ k v w w', Below w.heap.size w w' → st4 B n m c cr c2 c3 R A A2 A3 first keys s xS L xL xR rest k v w → st4 B n m c cr c2 c3 R A A2 A3 first keys s xS L xL xR rest k v w' := fun k v w w' hb h =>
  match k, h with
  | 0, h => h
  | 1, h => h
  | 2, ⟨A4, c4, e, h⟩ => ⟨A4, c4, e, h.below hb⟩
  | 3, h => h
  | 4, h => h
  | 5, h => h
  | 6, ⟨A5, c5, e, .inl h⟩ => ⟨A5, c5, e, .inl (h.below hb)⟩
  | 6, ⟨A5, c5, e, .inr h⟩ => ⟨A5, c5, e, .inr h⟩
  | 7, ⟨g, e, h⟩ => ⟨g, e, h.below hb⟩
  | 8, ⟨g, e, h⟩ => ⟨g, e, h.below hb⟩
  | _ + 9, _ => trivial

def st5 (g6 g8 n c c2 c3 c4 c5 m cr : Nat) (R A A2 A3 A4 A5 : Option Addr) (first keys s xS nx : List UInt32) (L xL : Int) (blk xR dg og : List UInt8) (k : Nat) (v : Value) (w : World) : Prop :=
  match k with
  | 0 => v = .agg (cw (first ++ keys)).toArray
  | 1 => v = .agg (cw (first ++ keys)).toArray
  | 2 => v = .bool false
  | 3 => v = .bool false
  | 4 => v = .slice A2 n c2
  | 5 => v = .slice A n c
  | 6 => v = .bool true
  | 7 => v = .bool false
  | 8 => v = .bool false
  | 9 => v = .bool false
  | 10 => v = .agg (hz s (.slice A3 m c3) L).toArray
  | 11 => v = .agg (hz s (.slice R m cr) L).toArray
  | 12 => v = .bool true
  | 13 => v = .bool false
  | 14 => v = .bool false
  | 15 => v = .bool false
  | 16 => v = .agg (hz xS (.slice A4 xR.length c4) xL).toArray
  | 17 => v = .agg (hz xS (.slice A5 xR.length c5) xL).toArray
  | 18 => v = .bool true
  | 19 => v = .bool false
  | 20 => v = .bool false
  | 21 => v = .bool false
  | 22 => v = .agg (hz xS (.slice A4 xR.length c4) xL).toArray
  | 23 => v = .agg (cb dg).toArray
  | 24 => v = .agg (cw (first ++ keys)).toArray
  | 25 => v = .agg (hz xS (.slice A5 xR.length c5) xL).toArray
  | 26 => v = .agg (cb dg).toArray
  | 27 => v = .bool false
  | 28 => v = .bool false
  | 29 => v = .bool false
  | 30 => v = .slice A n c
  | 31 => v = .agg (cb og).toArray
  | 32 => v = .agg (cw (first ++ keys)).toArray
  | 33 => v = .slice A n c
  | 34 => v = .agg (cb og).toArray
  | 35 => v = .bool false
  | 36 => v = .bool false
  | 37 => v = .bool false
  | 38 => v = .pointer (some ⟨g6, 0, none⟩)
  | 39 => v = .agg (cw s).toArray
  | 40 => v = .agg (cb blk).toArray
  | 41 => v = .agg (cw nx).toArray
  | 42 => v = .agg (cw (first ++ keys)).toArray
  | 43 => v = .pointer (some ⟨g6, 0, none⟩)
  | 44 => v = .agg (cw s).toArray
  | 45 => v = .slice (some ⟨g8, 0, none⟩) 64 64
  | 46 => v = .agg (cw nx).toArray
  | 47 => v = .bool false
  | _ => True
theorem st5_stab (g6 g8 n c c2 c3 c4 c5 m cr : Nat) (R A A2 A3 A4 A5 : Option Addr) (first keys s xS nx : List UInt32) (L xL : Int) (blk xR dg og : List UInt8) : ∀ k v w w', Below w.heap.size w w' → st5 g6 g8 n c c2 c3 c4 c5 m cr R A A2 A3 A4 A5 first keys s xS nx L xL blk xR dg og k v w → st5 g6 g8 n c c2 c3 c4 c5 m cr R A A2 A3 A4 A5 first keys s xS nx L xL blk xR dg og k v w' := fun k v w w' _ h => h
set_option maxHeartbeats 8000000 in
set_option maxRecDepth 100000 in
theorem shatells_walk (first keys s : List UInt32) (R A : Option Addr) (m cr n c : Nat) (L N : Int) (rest b blk : List UInt8) (w : World) (h1 : first.length = 8) (h2 : keys.length = 64) (hs : s.length = 8) (hR : Sees w w.heap.size R (cb rest)) (hm : rest.length = m) (hA : Sees w w.heap.size A (cb b)) (hn : b.length = n) (hnc : n ≤ c) (hbk : blk.length = 64) (hN : -9223372036854775808 ≤ N ∧ N < 9223372036854775808) (hm9 : m ≤ maxLen) (hn9 : n ≤ maxLen) :
    Calls Try.prog 3 #[.agg (cw (first ++ keys)).toArray, .agg (hz s (.slice R m cr) L).toArray, .slice A n c, .agg (cb blk).toArray, .int .i64 N] w fun e w' => e = .returned (.bool true) ∧ Below w.heap.size w w' := by
  have HS := Lib.hid hs
  have HM := Lib.hid hm
  have HN := Lib.hid hn
  have H1 := Lib.hid h1
  have H2 := Lib.hid h2
  have HBK := Lib.hid hbk
  have HK : Hid ((cw (first ++ keys)).length = 72) := Lib.hid (by simp [h1, h2])
  clear hs hm hn h1 h2 hbk
  have hx : ∀ (P : Prop), P → P := fun _ h => h
  go_enter Try.func3, Try.ntmps3
  go_upto_region 1 with (first
    | (with_reducible refine wpList_box (o := ⟨some 5, _, _, _, _, _⟩) rfl (.tmp 0) 26 rfl (cw (first ++ keys)) rfl 72 HK.out (by decide) ?_; intro g5 w1 hg5 hT hB1; have z1 := hB1.size)
    | (with_reducible refine wpList_box (o := ⟨some 6, _, _, _, _, _⟩) rfl (.tmp 1) 29 rfl (hz s (.slice R m cr) L) rfl 10 (hz_len _ _ _ HS.out) (by decide) ?_; intro g6 w2 hg6 hH hB2; have z2 := hB2.size)
    | (with_reducible refine wpList_box (o := ⟨some 8, _, _, _, _, _⟩) rfl (.tmp 3) 30 rfl (cb blk) rfl 64 (by simp [HBK.out]) (by decide) ?_; intro g8 w3 hg8 hK8 hB3; have z3 := hB3.size))
  have hB03 := Below.then_ (Below.then_ hB1 hB2) hB3
  replace hT := (hT.below hB2).below hB3
  replace hH := hH.below hB3
  replace hA := hA.step hB03
  replace hR := hR.step hB03
  have c8 := hH.cell_ (hz_rest s (.slice R m cr) L HS.out)
  clear hB1 hB2 hB3
  by_cases hbig : 500 < n ∨ 100 < m
  · by_cases hb5 : 500 < n
    · go_wp2_with fail
      refine (awake2_any _).mono ?_
      rintro e w5 ⟨rfl, hB5⟩
      go_wp2_with fail
      go_ret
      exact ⟨rfl, Below.then_ hB03 hB5⟩
    · have hb1 : 100 < m := by omega
      go_wp2_with fail
      refine (awake2_any _).mono ?_
      rintro e w5 ⟨rfl, hB5⟩
      go_wp2_with fail
      go_ret
      exact ⟨rfl, Below.then_ hB03 hB5⟩
  have hn5 : n ≤ 500 := by omega
  have hm1 : m ≤ 100 := by omega
  obtain ⟨xS, xR, xL, dg, hC⟩ := sha_cases first keys s L rest b m n H1.out H2.out HS.out HM.out HN.out hm1 hn5
  have HC := Lib.hid hC
  clear hC hbig
  go_upto_region 3 with fail

  refine region_all_tail 7 (st3 w3.heap.size n m c cr R A first keys s L rest b) (by kernel_rfl) (by kernel_rfl) (by kernel_rfl) (st3_stab _ _ _ _ _ _ _ _ _ _ _ _ _) ?_ ?_
  · intro w0 hb0
    simp only [List.take_succ_cons, List.take_zero]
    refine ⟨?_, ?_, ?_, ?_, ?_, ?_, ?_, trivial⟩
    all_goals intro listed a1 w' hk hd
    · have f2 : a1.eval (.tmp 5) = .pointer (some ⟨g5, 0, none⟩) := hk.ev_old 5 (by kernel_rfl)
      exact stepOk_value rfl (run_load_agg (.tmp 5) 26 rfl f2 (cw (first ++ keys)) 72 HK.out (by kernel_rfl) ((hT.below hb0).below hk.below).sees) rfl
    · have f2_ : a1.eval (.tmp 2) = .slice A n c := hk.ev_old 2 (by kernel_rfl)
      have g2_ : a1.tmps[2]?.getD undef = .slice A n c := by simpa [Act.eval] using f2_
      exact stepOk_value rfl (v := .slice A n c) (by go_simp) rfl
    · obtain ⟨v1, e1, q1, rfl⟩ := hk.ev_new hd 1 27 (by kernel_rfl) rfl
      refine stepOk_enter rfl (f := 9) (args := #[.slice A n c]) (by go_simp) ?_
      refine (CopyBytes_any A c n b _ ((hA.step hb0).step hk.below) HN.out (by omega)).mono ?_
      rintro e w5 ⟨A2, c2, rfl, hF5, hB5⟩
      have hbb := Below.then_ hb0 hk.below
      exact ⟨_, rfl, ⟨A2, c2, rfl, hF5.cap.1, hF5.lower hbb.size⟩, hB5⟩
    · have f2 : a1.eval (.tmp 6) = .pointer (some ⟨g6, 0, none⟩) := hk.ev_old 6 (by kernel_rfl)
      exact stepOk_value rfl (run_load_agg (.tmp 6) 29 rfl f2 (hz s (.slice R m cr) L) 10 (hz_len _ _ _ HS.out) (by kernel_rfl) ((hH.below hb0).below hk.below).sees) rfl
    · obtain ⟨v3, e3, q3, rfl⟩ := hk.ev_new hd 3 29 (by kernel_rfl) rfl
      refine stepOk_enter rfl (f := 10) (args := #[.agg (hz s (.slice R m cr) L).toArray]) (by go_simp) ?_
      refine (CopyHasher_any s R m cr L rest _ HS.out ((hR.step hb0).step hk.below) HM.out (by omega)).mono ?_
      rintro e w5 ⟨A3, c3, rfl, hF5, hB5⟩
      have hbb := Below.then_ hb0 hk.below
      rw [HM.out] at hF5
      exact ⟨_, rfl, ⟨A3, c3, by rw [HM.out], hF5.lower hbb.size⟩, hB5⟩
    · refine stepOk_run rfl (v := .pointer (some ⟨w'.heap.size, 0, none⟩)) (w' := w'.alloc (.cells (zero72).toArray 26 (0, 0))) ?_ ⟨_, rfl, (Fresh.new w' 26 (zero72) 72 (by simp [zero72]) (by decide)).lower ?_⟩ (below_alloc w' _)
      · simp only [execOp]
        rw [Sem.run_bind, run_alloc_zero 26 (zero72) (by kernel_rfl)]
        rfl
      · have h2 := hb0.size
        have h3 := hk.below.size
        omega
    · refine stepOk_run rfl (v := .pointer (some ⟨w'.heap.size, 0, none⟩)) (w' := w'.alloc (.cells (hz (List.replicate 8 0) (.slice none 0 0) 0).toArray 29 (0, 0))) ?_ ⟨_, rfl, (Fresh.new w' 29 (hz (List.replicate 8 0) (.slice none 0 0) 0) 10 (by simp) (by decide)).lower ?_⟩ (below_alloc w' _)
      · simp only [execOp]
        rw [Sem.run_bind, run_alloc_zero 29 (hz (List.replicate 8 0) (.slice none 0 0) 0) (by kernel_rfl)]
        rfl
      · have h2 := hb0.size
        have h3 := hk.below.size
        omega
  intro a1 w4 hbw hp
  obtain ⟨v0, p0, v1, p1, v2, p2, v3, p3, v4, p4, v5, p5, v6, p6, rfl⟩ := hp
  simp only [st3] at p0 p1 p2 p3 p4 p5 p6
  obtain ⟨A2, c2, rfl, hn2, hA2⟩ := p2
  obtain ⟨A3, c3, rfl, hA3⟩ := p4
  obtain ⟨gu, rfl, hFu⟩ := p5
  obtain ⟨gw, rfl, hFw⟩ := p6
  subst p0 p1 p3
  simp only [List.drop_succ_cons, List.drop_zero, Act.put, List.setIfInBounds_toArray, List.set_cons_succ, List.set_cons_zero]
  have nuw : gu ≠ gw := fun e => by
    have h1 := hFu.block.1
    have h2 := hFw.block.1
    rw [e, h2] at h1
    simp [zero72] at h1
  have lu := hFu.lt_size
  have lw := hFw.lt_size
  have bu := hFu.block.2
  have bw := hFw.block.2
  have z4 := hbw.size
  have hB04 := Below.then_ hB03 hbw
  clear c8
  go_wp2_with (first
    | (with_reducible refine wpList_store rfl rfl (.tmp 11) (.tmp 26) 26 rfl gu 0 _ 26 72 zero72 (cw (first ++ keys)) rfl rfl 72 HK.out (by kernel_rfl) hFu (by omega) (cw_one _) w hB04 (by omega) ?_; intro w5 hF5 hB5 ho5 hz5; have hFw5 := hFw.other (Ne.symm nuw) ho5)
    | (with_reducible refine wpList_store rfl rfl (.tmp 13) (.tmp 30) 29 rfl gw 0 _ 29 10 (hz (List.replicate 8 0) (.slice none 0 0) 0) (hz s (.slice A3 m c3) L) rfl rfl 10 (hz_len _ _ _ HS.out) (by kernel_rfl) hFw5 (by omega) (hz_one _ _ _ rfl) w hB5 (by omega) ?_; intro w6 hF6 hB6 ho6 hz6))
  rw [hz_over (by simp) HS.out] at hF6
  rw [splice_same (by simp [zero72, H1.out, H2.out])] at hF5
  have hA26 := (hA2.apart hFu (by decide) ho5).apart hFw5 (by decide) ho6
  have hA36 := (hA3.apart hFu (by decide) ho5).apart hFw5 (by decide) ho6
  have hB36 : Below w3.heap.size w3 w6 := below_from hB03 hB6 (by omega) fun k hk => (ho6 k (by omega)).trans ((ho5 k (by omega)).trans (hbw.block k hk))
  replace hT := hT.below hB36
  replace hH := hH.below hB36
  replace hK8 := hK8.below hB36
  replace hA := hA.step hB36
  replace hR := hR.step hB36
  have hU6 := Fresh.other hF5 nuw ho6
  have hU : Tab w6 gu 0 first keys := ⟨H1.out, H2.out, hU6.sees⟩
  have hA2s := hA26.sees
  have hA3s := hA36.sees
  have hW : Fresh w3.heap.size 29 w6 (some ⟨gw, 0, none⟩) 10 10 (hz s (.slice A3 m c3) L) := hF6
  have zz6 := hB36.size
  clear hF5 hFw5 hA2 hA3 hFu hFw ho5 ho6 hbw hB04 hB5 hB03 hB36 hA26 hA36
  refine region_all_tail 9 (st4 w6.heap.size n m c cr c2 c3 R A A2 A3 first keys s xS L xL xR rest) (by kernel_rfl) (by kernel_rfl) (by kernel_rfl) (st4_stab _ _ _ _ _ _ _ _ _ _ _ _ _ _ _ _ _ _ _) ?_ ?_
  · intro w0 hb0
    simp only [List.take_succ_cons, List.take_zero]
    refine ⟨?_, ?_, ?_, ?_, ?_, ?_, ?_, ?_, ?_, trivial⟩
    all_goals intro listed a1 w' hk hd
    · have f2 : a1.eval (.tmp 13) = .pointer (some ⟨gw, 0, none⟩) := hk.ev_old 13 (by kernel_rfl)
      exact stepOk_value rfl (run_load_agg (.tmp 13) 29 rfl f2 (hz s (.slice A3 m c3) L) 10 (hz_len _ _ _ HS.out) (by kernel_rfl) ((hW.below hb0).below hk.below).sees) rfl
    · have f12_ : a1.eval (.tmp 12) = .slice A2 n c2 := hk.ev_old 12 (by kernel_rfl)
      have g12_ : a1.tmps[12]?.getD undef = .slice A2 n c2 := by simpa [Act.eval] using f12_
      exact stepOk_value rfl (v := .slice A2 n c2) (by go_simp) rfl
    · have f11_ : a1.eval (.tmp 11) = .pointer (some ⟨gu, 0, none⟩) := hk.ev_old 11 (by kernel_rfl)
      have g11_ : a1.tmps[11]?.getD undef = .pointer (some ⟨gu, 0, none⟩) := by simpa [Act.eval] using f11_
      obtain ⟨v0, e0, q0, rfl⟩ := hk.ev_new hd 0 31 (by kernel_rfl) rfl
      obtain ⟨v1, e1, q1, rfl⟩ := hk.ev_new hd 1 32 (by kernel_rfl) rfl
      refine stepOk_enter rfl (f := 11) (args := #[.pointer (some ⟨gu, 0, none⟩), .agg (hz s (.slice A3 m c3) L).toArray, .slice A2 n c2]) (by go_simp) ?_
      refine (HC.out.write gu 0 A3 A2 c3 c2 w' ((hU.step hb0).step hk.below) ((hA3s.step hb0).step hk.below) ((hA2s.step hb0).step hk.below) hn2).mono ?_
      rintro e w5 ⟨A4, c4, rfl, hS5, hB5⟩
      have hbb := Below.then_ hb0 hk.below
      exact ⟨_, rfl, ⟨A4, c4, rfl, hS5.lower hbb.size⟩, hB5⟩
    · have f2 : a1.eval (.tmp 5) = .pointer (some ⟨g5, 0, none⟩) := hk.ev_old 5 (by kernel_rfl)
      exact stepOk_value rfl (run_load_agg (.tmp 5) 26 rfl f2 (cw (first ++ keys)) 72 HK.out (by kernel_rfl) ((hT.below hb0).below hk.below).sees) rfl
    · have f2 : a1.eval (.tmp 6) = .pointer (some ⟨g6, 0, none⟩) := hk.ev_old 6 (by kernel_rfl)
      exact stepOk_value rfl (run_load_agg (.tmp 6) 29 rfl f2 (hz s (.slice R m cr) L) 10 (hz_len _ _ _ HS.out) (by kernel_rfl) ((hH.below hb0).below hk.below).sees) rfl
    · have f2_ : a1.eval (.tmp 2) = .slice A n c := hk.ev_old 2 (by kernel_rfl)
      have g2_ : a1.tmps[2]?.getD undef = .slice A n c := by simpa [Act.eval] using f2_
      exact stepOk_value rfl (v := .slice A n c) (by go_simp) rfl
    · obtain ⟨v3, e3, q3, rfl⟩ := hk.ev_new hd 3 34 (by kernel_rfl) rfl
      obtain ⟨v4, e4, q4, rfl⟩ := hk.ev_new hd 4 35 (by kernel_rfl) rfl
      obtain ⟨v5, e5, q5, rfl⟩ := hk.ev_new hd 5 36 (by kernel_rfl) rfl
      refine stepOk_enter rfl (f := 12) (args := #[.agg (cw (first ++ keys)).toArray, .agg (hz s (.slice R m cr) L).toArray, .slice A n c]) (by go_simp) ?_
      refine (HC.out.rwrite R A cr c w' ((hR.step hb0).step hk.below) ((hA.step hb0).step hk.below)).mono ?_
      rintro e w5 ⟨A5, c5, rfl, hS5, hB5⟩
      have hbb := Below.then_ hb0 hk.below
      exact ⟨_, rfl, ⟨A5, c5, rfl, hS5.imp (fun h => h.lower hbb.size) id⟩, hB5⟩
    · refine stepOk_run rfl (v := .pointer (some ⟨w'.heap.size, 0, none⟩)) (w' := w'.alloc (.cells (hz (List.replicate 8 0) (.slice none 0 0) 0).toArray 29 (0, 0))) ?_ ⟨_, rfl, (Fresh.new w' 29 (hz (List.replicate 8 0) (.slice none 0 0) 0) 10 (by simp) (by decide)).lower ?_⟩ (below_alloc w' _)
      · simp only [execOp]
        rw [Sem.run_bind, run_alloc_zero 29 (hz (List.replicate 8 0) (.slice none 0 0) 0) (by kernel_rfl)]
        rfl
      · have h2 := hb0.size
        have h3 := hk.below.size
        omega
    · refine stepOk_run rfl (v := .pointer (some ⟨w'.heap.size, 0, none⟩)) (w' := w'.alloc (.cells (hz (List.replicate 8 0) (.slice none 0 0) 0).toArray 29 (0, 0))) ?_ ⟨_, rfl, (Fresh.new w' 29 (hz (List.replicate 8 0) (.slice none 0 0) 0) 10 (by simp) (by decide)).lower ?_⟩ (below_alloc w' _)
      · simp only [execOp]
        rw [Sem.run_bind, run_alloc_zero 29 (hz (List.replicate 8 0) (.slice none 0 0) 0) (by kernel_rfl)]
        rfl
      · have h2 := hb0.size
        have h3 := hk.below.size
        omega
  intro a1 w7 hbw hp
  obtain ⟨v0, p0, v1, p1, v2, p2, v3, p3, v4, p4, v5, p5, v6, p6, v7, p7, v8, p8, rfl⟩ := hp
  simp only [st4] at p0 p1 p2 p3 p4 p5 p6 p7 p8
  obtain ⟨A4, c4, rfl, hA4⟩ := p2
  obtain ⟨A5, c5, rfl, hA5⟩ := p6
  obtain ⟨ga, rfl, hFa⟩ := p7
  obtain ⟨gb, rfl, hFb⟩ := p8
  subst p0 p1 p3 p4 p5
  simp only [List.drop_succ_cons, List.drop_zero, Act.put, List.setIfInBounds_toArray, List.set_cons_succ, List.set_cons_zero]
  have zz7 := hbw.size
  have hB07 := Below.then_ hB6 hbw
  have ba := hFa.block.2
  have bb := hFb.block.2
  have la := hFa.lt_size
  have lb := hFb.lt_size
  have HXA : Hid ((hz xS (.slice A4 xR.length c4) xL).length = 10) := Lib.hid (hz_len _ _ _ HC.out.l8)
  have HXB : Hid ((hz xS (.slice A5 xR.length c5) xL).length = 10) := Lib.hid (hz_len _ _ _ HC.out.l8)
  go_upto_region 5 with (first
    | (with_reducible refine wpList_store rfl rfl (.tmp 14) (.tmp 33) 29 rfl ga 0 _ 29 10 (hz (List.replicate 8 0) (.slice none 0 0) 0) (hz xS (.slice A4 xR.length c4) xL) rfl rfl 10 HXA.out (by kernel_rfl) hFa (by omega) (hz_one _ _ _ rfl) w hB07 (by omega) ?_; intro w8 hF8 hB8 ho8 hz8; rw [hz_over (by simp) HC.out.l8] at hF8)
    | (obtain ⟨ys, ly, hFy⟩ : ∃ ys : List Value, ys.length = 10 ∧ Fresh w6.heap.size 29 w8 (some ⟨gb, 0, none⟩) 10 10 ys := by (by_cases e : gb = ga; (subst e; exact ⟨_, HXA.out, hF8⟩); exact ⟨_, by simp, hFb.other e ho8⟩)
       have hay : gb = ga ∨ gb ≠ ga := by omega
       with_reducible refine wpList_store rfl rfl (.tmp 15) (.tmp 37) 29 rfl gb 0 _ 29 10 ys (hz xS (.slice A5 xR.length c5) xL) rfl rfl 10 HXB.out (by kernel_rfl) hFy (by omega) (hz_one _ _ _ rfl) w hB8 (by omega) ?_; intro w9 hF9 hB9 ho9 hz9; rw [splice_same (by rw [ly, HXB.out])] at hF9))
  have hBm : ∀ k, k < w6.heap.size → w9.heap[k]? = w6.heap[k]? := fun k hk => (ho9 k (by omega)).trans ((ho8 k (by omega)).trans (hbw.block k hk))
  have hB69 : Below w6.heap.size w6 w9 := below_from hB6 hB9 (by omega) hBm
  have hA49 : Sees w9 w9.heap.size A4 (cb xR) := ((hA4.apart hFa (by decide) ho8).apart hFy (by decide) ho9).sees
  have hA59 : Sees w9 w9.heap.size A5 (cb xR) := by
    rcases hA5 with h | ⟨rfl, rfl⟩
    · exact ((h.apart hFa (by decide) ho8).apart hFy (by decide) ho9).sees
    · exact hR.step hB69
  have hboxb : Sees w9 w9.heap.size (some ⟨gb, 0, none⟩) (hz xS (.slice A5 xR.length c5) xL) := Fresh.sees hF9
  obtain ⟨A6, c6, hboxa, hA69⟩ : ∃ A6 c6, Sees w9 w9.heap.size (some ⟨ga, 0, none⟩) (hz xS (.slice A6 xR.length c6) xL) ∧ Sees w9 w9.heap.size A6 (cb xR) := by
    rcases hay with e | e
    · exact ⟨A5, c5, by rw [← e]; exact hboxb, hA59⟩
    · exact ⟨A4, c4, (Fresh.other hF8 (Ne.symm e) ho9).sees, hA49⟩
  have hST : ST w g5 g6 g8 gu gw ga gb first keys s xS R A A2 A3 A6 A5 m cr c3 c6 c5 L xL rest b blk xR w9 :=
    ⟨(hT.below hB69).sees, (hH.below hB69).sees, (hK8.below hB69).sees, hU.step hB69, (hW.below hB69).sees, hboxa, hboxb, hA.step hB69, hA2s.step hB69, hR.step hB69, hA3s.step hB69, hA69, hA59, hB9⟩
  obtain ⟨og, hog⟩ : ∃ og, ofF first keys b = og := ⟨_, rfl⟩
  obtain ⟨nx, hnx⟩ : ∃ nx, blockF keys s blk = nx := ⟨_, rfl⟩
  have HOG := Lib.hid hog
  have HNX := Lib.hid hnx
  have HOL : Hid (og.length = 32) := Lib.hid (by rw [← hog]; exact len_ofF _ _ _ H1.out)
  have HN8 : Hid (nx.length = 8) := Lib.hid (by rw [← hnx]; exact len_blockF _ _ _ HS.out)
  clear hog hnx hboxa hboxb hA69 hA59 hA49 hB69 hBm hF9 hB9 ho9 hF8 hB8 ho8 hFy hFa hFb hA4 hA5 hT hH hK8 hU hW hA hA2s hR hA3s hB07 hB6 hbw hF6 hay
  refine region_all_tail 48 (st5 g6 g8 n c c2 c3 c6 c5 m cr R A A2 A3 A6 A5 first keys s xS nx L xL blk xR dg og) (by kernel_rfl) (by kernel_rfl) (by kernel_rfl) (st5_stab g6 g8 n c c2 c3 c6 c5 m cr R A A2 A3 A6 A5 first keys s xS nx L xL blk xR dg og) ?_ ?_
  · intro w0 hb0
    simp only [List.take_succ_cons, List.take_zero]
    refine ⟨?_, ?_, ?_, ?_, ?_, ?_, ?_, ?_, ?_, ?_, ?_, ?_, ?_, ?_, ?_, ?_, ?_, ?_, ?_, ?_, ?_, ?_, ?_, ?_, ?_, ?_, ?_, ?_, ?_, ?_, ?_, ?_, ?_, ?_, ?_, ?_, ?_, ?_, ?_, ?_, ?_, ?_, ?_, ?_, ?_, ?_, ?_, ?_, trivial⟩
    all_goals intro listed a1 w' hk hd
    · have f11_ : a1.eval (.tmp 11) = .pointer (some ⟨gu, 0, none⟩) := hk.ev_old 11 (by kernel_rfl)
      have g11_ : a1.tmps[11]?.getD undef = .pointer (some ⟨gu, 0, none⟩) := by simpa [Act.eval] using f11_
      have hw := (hST.step hb0).step hk.below
      have f2 : a1.eval (.tmp 11) = .pointer (some ⟨gu, 0, none⟩) := hk.ev_old 11 (by kernel_rfl)
      exact stepOk_value rfl (run_load_agg (.tmp 11) 26 rfl f2 (cw (first ++ keys)) 72 HK.out (by kernel_rfl) hw.utab.sees) rfl
    · have f5_ : a1.eval (.tmp 5) = .pointer (some ⟨g5, 0, none⟩) := hk.ev_old 5 (by kernel_rfl)
      have g5_ : a1.tmps[5]?.getD undef = .pointer (some ⟨g5, 0, none⟩) := by simpa [Act.eval] using f5_
      have hw := (hST.step hb0).step hk.below
      have f2 : a1.eval (.tmp 5) = .pointer (some ⟨g5, 0, none⟩) := hk.ev_old 5 (by kernel_rfl)
      exact stepOk_value rfl (run_load_agg (.tmp 5) 26 rfl f2 (cw (first ++ keys)) 72 HK.out (by kernel_rfl) hw.tab) rfl
    · obtain ⟨v0, e0, q0, rfl⟩ := hk.ev_new hd 0 38 (by kernel_rfl) rfl
      obtain ⟨v1, e1, q1, rfl⟩ := hk.ev_new hd 1 39 (by kernel_rfl) rfl
      exact stepOk_value rfl (run_neq_of (.tmp 38) (.tmp 39) 26 _ rfl (by kernel_rfl) _ _ e0 e1 (neq_rounds first keys H1.out H2.out w')) rfl
    · obtain ⟨v2, e2, q2, rfl⟩ := hk.ev_new hd 2 40 (by kernel_rfl) rfl
      exact stepOk_value rfl (v := .bool false) (by go_simp) rfl
    · obtain ⟨v3, e3, q3, rfl⟩ := hk.ev_new hd 3 41 (by kernel_rfl) rfl
      have f12_ : a1.eval (.tmp 12) = .slice A2 n c2 := hk.ev_old 12 (by kernel_rfl)
      have g12_ : a1.tmps[12]?.getD undef = .slice A2 n c2 := by simpa [Act.eval] using f12_
      exact stepOk_val_q (wanted_at (t := 41) rfl rfl q3) (v := .slice A2 n c2) (by go_simp) rfl
    · obtain ⟨v3, e3, q3, rfl⟩ := hk.ev_new hd 3 41 (by kernel_rfl) rfl
      have f2_ : a1.eval (.tmp 2) = .slice A n c := hk.ev_old 2 (by kernel_rfl)
      have g2_ : a1.tmps[2]?.getD undef = .slice A n c := by simpa [Act.eval] using f2_
      exact stepOk_val_q (wanted_at (t := 41) rfl rfl q3) (v := .slice A n c) (by go_simp) rfl
    · obtain ⟨v3, e3, q3, rfl⟩ := hk.ev_new hd 3 41 (by kernel_rfl) rfl
      obtain ⟨v4, e4, q4, rfl⟩ := hk.ev_new hd 4 42 (by kernel_rfl) rfl
      obtain ⟨v5, e5, q5, rfl⟩ := hk.ev_new hd 5 43 (by kernel_rfl) rfl
      have hw := (hST.step hb0).step hk.below
      refine stepOk_enter (wanted_at (t := 41) rfl rfl q3) (f := 13) (args := #[.slice A2 n c2, .slice A n c]) (by go_simp) ?_
      refine (SameBytes_any A2 A c2 c n n b b w' hw.a2 hw.a HN.out HN.out).mono ?_
      rintro e w5 ⟨rfl, rfl⟩
      exact ⟨_, rfl, (by simp; rfl), Below.refl _ _⟩
    · obtain ⟨v3, e3, q3, rfl⟩ := hk.ev_new hd 3 41 (by kernel_rfl) rfl
      obtain ⟨v6, e6, q6, rfl⟩ := hk.ev_new hd 6 44 (by kernel_rfl) rfl
      exact stepOk_val_q (wanted_at (t := 41) rfl rfl q3) (v := .bool false) (by go_simp) rfl
    · obtain ⟨v3, e3, q3, rfl⟩ := hk.ev_new hd 3 41 (by kernel_rfl) rfl
      obtain ⟨v7, e7, q7, rfl⟩ := hk.ev_new hd 7 45 (by kernel_rfl) rfl
      exact stepOk_value rfl (v := .bool false) (by go_simp) rfl
    · obtain ⟨v8, e8, q8, rfl⟩ := hk.ev_new hd 8 46 (by kernel_rfl) rfl
      exact stepOk_value rfl (v := .bool false) (by go_simp) rfl
    · obtain ⟨v9, e9, q9, rfl⟩ := hk.ev_new hd 9 47 (by kernel_rfl) rfl
      have f13_ : a1.eval (.tmp 13) = .pointer (some ⟨gw, 0, none⟩) := hk.ev_old 13 (by kernel_rfl)
      have g13_ : a1.tmps[13]?.getD undef = .pointer (some ⟨gw, 0, none⟩) := by simpa [Act.eval] using f13_
      have hw := (hST.step hb0).step hk.below
      have f2 : a1.eval (.tmp 13) = .pointer (some ⟨gw, 0, none⟩) := hk.ev_old 13 (by kernel_rfl)
      exact stepOk_val_q (wanted_at (t := 47) rfl rfl q9) (run_load_agg (.tmp 13) 29 rfl f2 (hz s (.slice A3 m c3) L) 10 (hz_len _ _ _ HS.out) (by kernel_rfl) hw.was) rfl
    · obtain ⟨v9, e9, q9, rfl⟩ := hk.ev_new hd 9 47 (by kernel_rfl) rfl
      have f6_ : a1.eval (.tmp 6) = .pointer (some ⟨g6, 0, none⟩) := hk.ev_old 6 (by kernel_rfl)
      have g6_ : a1.tmps[6]?.getD undef = .pointer (some ⟨g6, 0, none⟩) := by simpa [Act.eval] using f6_
      have hw := (hST.step hb0).step hk.below
      have f2 : a1.eval (.tmp 6) = .pointer (some ⟨g6, 0, none⟩) := hk.ev_old 6 (by kernel_rfl)
      exact stepOk_val_q (wanted_at (t := 47) rfl rfl q9) (run_load_agg (.tmp 6) 29 rfl f2 (hz s (.slice R m cr) L) 10 (hz_len _ _ _ HS.out) (by kernel_rfl) hw.has) rfl
    · obtain ⟨v9, e9, q9, rfl⟩ := hk.ev_new hd 9 47 (by kernel_rfl) rfl
      obtain ⟨v10, e10, q10, rfl⟩ := hk.ev_new hd 10 48 (by kernel_rfl) rfl
      obtain ⟨v11, e11, q11, rfl⟩ := hk.ev_new hd 11 49 (by kernel_rfl) rfl
      have hw := (hST.step hb0).step hk.below
      refine stepOk_enter (wanted_at (t := 47) rfl rfl q9) (f := 14) (args := #[.agg (hz s (.slice A3 m c3) L).toArray, .agg (hz s (.slice R m cr) L).toArray]) (by go_simp) ?_
      refine (SameHasher_true s A3 R m c3 cr L rest w' HS.out hw.r3 hw.r HM.out).mono ?_
      rintro e w5 ⟨rfl, hB5⟩
      exact ⟨_, rfl, rfl, hB5⟩
    · obtain ⟨v9, e9, q9, rfl⟩ := hk.ev_new hd 9 47 (by kernel_rfl) rfl
      obtain ⟨v12, e12, q12, rfl⟩ := hk.ev_new hd 12 50 (by kernel_rfl) rfl
      exact stepOk_val_q (wanted_at (t := 47) rfl rfl q9) (v := .bool false) (by go_simp) rfl
    · obtain ⟨v9, e9, q9, rfl⟩ := hk.ev_new hd 9 47 (by kernel_rfl) rfl
      obtain ⟨v13, e13, q13, rfl⟩ := hk.ev_new hd 13 51 (by kernel_rfl) rfl
      exact stepOk_value rfl (v := .bool false) (by go_simp) rfl
    · obtain ⟨v14, e14, q14, rfl⟩ := hk.ev_new hd 14 52 (by kernel_rfl) rfl
      exact stepOk_value rfl (v := .bool false) (by go_simp) rfl
    · obtain ⟨v15, e15, q15, rfl⟩ := hk.ev_new hd 15 53 (by kernel_rfl) rfl
      have f14_ : a1.eval (.tmp 14) = .pointer (some ⟨ga, 0, none⟩) := hk.ev_old 14 (by kernel_rfl)
      have g14_ : a1.tmps[14]?.getD undef = .pointer (some ⟨ga, 0, none⟩) := by simpa [Act.eval] using f14_
      have hw := (hST.step hb0).step hk.below
      have f2 : a1.eval (.tmp 14) = .pointer (some ⟨ga, 0, none⟩) := hk.ev_old 14 (by kernel_rfl)
      exact stepOk_val_q (wanted_at (t := 53) rfl rfl q15) (run_load_agg (.tmp 14) 29 rfl f2 (hz xS (.slice A6 xR.length c6) xL) 10 (hz_len _ _ _ HC.out.l8) (by kernel_rfl) hw.xa) rfl
    · obtain ⟨v15, e15, q15, rfl⟩ := hk.ev_new hd 15 53 (by kernel_rfl) rfl
      have f15_ : a1.eval (.tmp 15) = .pointer (some ⟨gb, 0, none⟩) := hk.ev_old 15 (by kernel_rfl)
      have g15_ : a1.tmps[15]?.getD undef = .pointer (some ⟨gb, 0, none⟩) := by simpa [Act.eval] using f15_
      have hw := (hST.step hb0).step hk.below
      have f2 : a1.eval (.tmp 15) = .pointer (some ⟨gb, 0, none⟩) := hk.ev_old 15 (by kernel_rfl)
      exact stepOk_val_q (wanted_at (t := 53) rfl rfl q15) (run_load_agg (.tmp 15) 29 rfl f2 (hz xS (.slice A5 xR.length c5) xL) 10 (hz_len _ _ _ HC.out.l8) (by kernel_rfl) hw.xb) rfl
    · obtain ⟨v15, e15, q15, rfl⟩ := hk.ev_new hd 15 53 (by kernel_rfl) rfl
      obtain ⟨v16, e16, q16, rfl⟩ := hk.ev_new hd 16 54 (by kernel_rfl) rfl
      obtain ⟨v17, e17, q17, rfl⟩ := hk.ev_new hd 17 55 (by kernel_rfl) rfl
      have hw := (hST.step hb0).step hk.below
      refine stepOk_enter (wanted_at (t := 53) rfl rfl q15) (f := 14) (args := #[.agg (hz xS (.slice A6 xR.length c6) xL).toArray, .agg (hz xS (.slice A5 xR.length c5) xL).toArray]) (by go_simp) ?_
      refine (SameHasher_true xS A6 A5 xR.length c6 c5 xL xR w' HC.out.l8 hw.r4 hw.r5 rfl).mono ?_
      rintro e w5 ⟨rfl, hB5⟩
      exact ⟨_, rfl, rfl, hB5⟩
    · obtain ⟨v15, e15, q15, rfl⟩ := hk.ev_new hd 15 53 (by kernel_rfl) rfl
      obtain ⟨v18, e18, q18, rfl⟩ := hk.ev_new hd 18 56 (by kernel_rfl) rfl
      exact stepOk_val_q (wanted_at (t := 53) rfl rfl q15) (v := .bool false) (by go_simp) rfl
    · obtain ⟨v15, e15, q15, rfl⟩ := hk.ev_new hd 15 53 (by kernel_rfl) rfl
      obtain ⟨v19, e19, q19, rfl⟩ := hk.ev_new hd 19 57 (by kernel_rfl) rfl
      exact stepOk_value rfl (v := .bool false) (by go_simp) rfl
    · obtain ⟨v20, e20, q20, rfl⟩ := hk.ev_new hd 20 58 (by kernel_rfl) rfl
      exact stepOk_value rfl (v := .bool false) (by go_simp) rfl
    · obtain ⟨v21, e21, q21, rfl⟩ := hk.ev_new hd 21 59 (by kernel_rfl) rfl
      have f14_ : a1.eval (.tmp 14) = .pointer (some ⟨ga, 0, none⟩) := hk.ev_old 14 (by kernel_rfl)
      have g14_ : a1.tmps[14]?.getD undef = .pointer (some ⟨ga, 0, none⟩) := by simpa [Act.eval] using f14_
      have hw := (hST.step hb0).step hk.below
      have f2 : a1.eval (.tmp 14) = .pointer (some ⟨ga, 0, none⟩) := hk.ev_old 14 (by kernel_rfl)
      exact stepOk_val_q (wanted_at (t := 59) rfl rfl q21) (run_load_agg (.tmp 14) 29 rfl f2 (hz xS (.slice A6 xR.length c6) xL) 10 (hz_len _ _ _ HC.out.l8) (by kernel_rfl) hw.xa) rfl
    · obtain ⟨v21, e21, q21, rfl⟩ := hk.ev_new hd 21 59 (by kernel_rfl) rfl
      have f11_ : a1.eval (.tmp 11) = .pointer (some ⟨gu, 0, none⟩) := hk.ev_old 11 (by kernel_rfl)
      have g11_ : a1.tmps[11]?.getD undef = .pointer (some ⟨gu, 0, none⟩) := by simpa [Act.eval] using f11_
      obtain ⟨v22, e22, q22, rfl⟩ := hk.ev_new hd 22 60 (by kernel_rfl) rfl
      have hw := (hST.step hb0).step hk.below
      refine stepOk_enter (wanted_at (t := 59) rfl rfl q21) (f := 15) (args := #[.pointer (some ⟨gu, 0, none⟩), .agg (hz xS (.slice A6 xR.length c6) xL).toArray]) (by go_simp) ?_
      refine (HC.out.sum gu 0 A6 c6 w' hw.utab hw.r4).mono ?_
      rintro e w5 ⟨rfl, hB5⟩
      exact ⟨_, rfl, rfl, hB5⟩
    · obtain ⟨v21, e21, q21, rfl⟩ := hk.ev_new hd 21 59 (by kernel_rfl) rfl
      have f5_ : a1.eval (.tmp 5) = .pointer (some ⟨g5, 0, none⟩) := hk.ev_old 5 (by kernel_rfl)
      have g5_ : a1.tmps[5]?.getD undef = .pointer (some ⟨g5, 0, none⟩) := by simpa [Act.eval] using f5_
      have hw := (hST.step hb0).step hk.below
      have f2 : a1.eval (.tmp 5) = .pointer (some ⟨g5, 0, none⟩) := hk.ev_old 5 (by kernel_rfl)
      exact stepOk_val_q (wanted_at (t := 59) rfl rfl q21) (run_load_agg (.tmp 5) 26 rfl f2 (cw (first ++ keys)) 72 HK.out (by kernel_rfl) hw.tab) rfl
    · obtain ⟨v21, e21, q21, rfl⟩ := hk.ev_new hd 21 59 (by kernel_rfl) rfl
      have f15_ : a1.eval (.tmp 15) = .pointer (some ⟨gb, 0, none⟩) := hk.ev_old 15 (by kernel_rfl)
      have g15_ : a1.tmps[15]?.getD undef = .pointer (some ⟨gb, 0, none⟩) := by simpa [Act.eval] using f15_
      have hw := (hST.step hb0).step hk.below
      have f2 : a1.eval (.tmp 15) = .pointer (some ⟨gb, 0, none⟩) := hk.ev_old 15 (by kernel_rfl)
      exact stepOk_val_q (wanted_at (t := 59) rfl rfl q21) (run_load_agg (.tmp 15) 29 rfl f2 (hz xS (.slice A5 xR.length c5) xL) 10 (hz_len _ _ _ HC.out.l8) (by kernel_rfl) hw.xb) rfl
    · obtain ⟨v21, e21, q21, rfl⟩ := hk.ev_new hd 21 59 (by kernel_rfl) rfl
      obtain ⟨v24, e24, q24, rfl⟩ := hk.ev_new hd 24 62 (by kernel_rfl) rfl
      obtain ⟨v25, e25, q25, rfl⟩ := hk.ev_new hd 25 63 (by kernel_rfl) rfl
      have hw := (hST.step hb0).step hk.below
      refine stepOk_enter (wanted_at (t := 59) rfl rfl q21) (f := 16) (args := #[.agg (cw (first ++ keys)).toArray, .agg (hz xS (.slice A5 xR.length c5) xL).toArray]) (by go_simp) ?_
      refine (HC.out.rsum A5 c5 w' hw.r5).mono ?_
      rintro e w5 ⟨rfl, hB5⟩
      exact ⟨_, rfl, rfl, hB5⟩
    · obtain ⟨v21, e21, q21, rfl⟩ := hk.ev_new hd 21 59 (by kernel_rfl) rfl
      obtain ⟨v23, e23, q23, rfl⟩ := hk.ev_new hd 23 61 (by kernel_rfl) rfl
      obtain ⟨v26, e26, q26, rfl⟩ := hk.ev_new hd 26 64 (by kernel_rfl) rfl
      exact stepOk_val_q (wanted_at (t := 59) rfl rfl q21) (run_neq_of (.tmp 61) (.tmp 64) 40 _ rfl (by kernel_rfl) _ _ e23 e26 (neq_digest dg HC.out.l32 w')) rfl
    · obtain ⟨v21, e21, q21, rfl⟩ := hk.ev_new hd 21 59 (by kernel_rfl) rfl
      obtain ⟨v27, e27, q27, rfl⟩ := hk.ev_new hd 27 65 (by kernel_rfl) rfl
      exact stepOk_value rfl (v := .bool false) (by go_simp) rfl
    · obtain ⟨v28, e28, q28, rfl⟩ := hk.ev_new hd 28 66 (by kernel_rfl) rfl
      exact stepOk_value rfl (v := .bool false) (by go_simp) rfl
    · obtain ⟨v29, e29, q29, rfl⟩ := hk.ev_new hd 29 67 (by kernel_rfl) rfl
      have f2_ : a1.eval (.tmp 2) = .slice A n c := hk.ev_old 2 (by kernel_rfl)
      have g2_ : a1.tmps[2]?.getD undef = .slice A n c := by simpa [Act.eval] using f2_
      exact stepOk_val_q (wanted_at (t := 67) rfl rfl q29) (v := .slice A n c) (by go_simp) rfl
    · obtain ⟨v29, e29, q29, rfl⟩ := hk.ev_new hd 29 67 (by kernel_rfl) rfl
      have f11_ : a1.eval (.tmp 11) = .pointer (some ⟨gu, 0, none⟩) := hk.ev_old 11 (by kernel_rfl)
      have g11_ : a1.tmps[11]?.getD undef = .pointer (some ⟨gu, 0, none⟩) := by simpa [Act.eval] using f11_
      obtain ⟨v30, e30, q30, rfl⟩ := hk.ev_new hd 30 68 (by kernel_rfl) rfl
      have hw := (hST.step hb0).step hk.below
      refine stepOk_enter (wanted_at (t := 67) rfl rfl q29) (f := 17) (args := #[.pointer (some ⟨gu, 0, none⟩), .slice A n c]) (by go_simp) ?_
      refine (Of_any gu 0 first keys A n c b w' hw.utab hw.a HN.out hnc (by omega)).mono ?_
      rintro e w5 ⟨rfl, hB5⟩
      exact ⟨_, rfl, (by rw [HOG.out]; rfl), hB5⟩
    · obtain ⟨v29, e29, q29, rfl⟩ := hk.ev_new hd 29 67 (by kernel_rfl) rfl
      have f5_ : a1.eval (.tmp 5) = .pointer (some ⟨g5, 0, none⟩) := hk.ev_old 5 (by kernel_rfl)
      have g5_ : a1.tmps[5]?.getD undef = .pointer (some ⟨g5, 0, none⟩) := by simpa [Act.eval] using f5_
      have hw := (hST.step hb0).step hk.below
      have f2 : a1.eval (.tmp 5) = .pointer (some ⟨g5, 0, none⟩) := hk.ev_old 5 (by kernel_rfl)
      exact stepOk_val_q (wanted_at (t := 67) rfl rfl q29) (run_load_agg (.tmp 5) 26 rfl f2 (cw (first ++ keys)) 72 HK.out (by kernel_rfl) hw.tab) rfl
    · obtain ⟨v29, e29, q29, rfl⟩ := hk.ev_new hd 29 67 (by kernel_rfl) rfl
      have f2_ : a1.eval (.tmp 2) = .slice A n c := hk.ev_old 2 (by kernel_rfl)
      have g2_ : a1.tmps[2]?.getD undef = .slice A n c := by simpa [Act.eval] using f2_
      exact stepOk_val_q (wanted_at (t := 67) rfl rfl q29) (v := .slice A n c) (by go_simp) rfl
    · obtain ⟨v29, e29, q29, rfl⟩ := hk.ev_new hd 29 67 (by kernel_rfl) rfl
      obtain ⟨v32, e32, q32, rfl⟩ := hk.ev_new hd 32 70 (by kernel_rfl) rfl
      obtain ⟨v33, e33, q33, rfl⟩ := hk.ev_new hd 33 71 (by kernel_rfl) rfl
      have hw := (hST.step hb0).step hk.below
      refine stepOk_enter (wanted_at (t := 67) rfl rfl q29) (f := 18) (args := #[.agg (cw (first ++ keys)).toArray, .slice A n c]) (by go_simp) ?_
      refine (rOf_any first keys A n c b w' H1.out H2.out hw.a HN.out (by omega)).mono ?_
      rintro e w5 ⟨rfl, hB5⟩
      exact ⟨_, rfl, (by rw [HOG.out]; rfl), hB5⟩
    · obtain ⟨v29, e29, q29, rfl⟩ := hk.ev_new hd 29 67 (by kernel_rfl) rfl
      obtain ⟨v31, e31, q31, rfl⟩ := hk.ev_new hd 31 69 (by kernel_rfl) rfl
      obtain ⟨v34, e34, q34, rfl⟩ := hk.ev_new hd 34 72 (by kernel_rfl) rfl
      exact stepOk_val_q (wanted_at (t := 67) rfl rfl q29) (run_neq_of (.tmp 69) (.tmp 72) 40 _ rfl (by kernel_rfl) _ _ e31 e34 (neq_digest og HOL.out w')) rfl
    · obtain ⟨v29, e29, q29, rfl⟩ := hk.ev_new hd 29 67 (by kernel_rfl) rfl
      obtain ⟨v35, e35, q35, rfl⟩ := hk.ev_new hd 35 73 (by kernel_rfl) rfl
      exact stepOk_value rfl (v := .bool false) (by go_simp) rfl
    · obtain ⟨v36, e36, q36, rfl⟩ := hk.ev_new hd 36 74 (by kernel_rfl) rfl
      exact stepOk_value rfl (v := .bool false) (by go_simp) rfl
    · obtain ⟨v37, e37, q37, rfl⟩ := hk.ev_new hd 37 75 (by kernel_rfl) rfl
      have f6_ : a1.eval (.tmp 6) = .pointer (some ⟨g6, 0, none⟩) := hk.ev_old 6 (by kernel_rfl)
      have g6_ : a1.tmps[6]?.getD undef = .pointer (some ⟨g6, 0, none⟩) := by simpa [Act.eval] using f6_
      exact stepOk_val_q (wanted_at (t := 75) rfl rfl q37) (v := .pointer (some ⟨g6, 0, none⟩)) (by go_simp) rfl
    · obtain ⟨v37, e37, q37, rfl⟩ := hk.ev_new hd 37 75 (by kernel_rfl) rfl
      obtain ⟨v38, e38, q38, rfl⟩ := hk.ev_new hd 38 76 (by kernel_rfl) rfl
      have hw := (hST.step hb0).step hk.below
      have hs8 : Sees w' w'.heap.size (some ⟨g6, 0, none⟩) (cw s) := by
        have := hw.has.take_ 8
        rwa [show (hz s (.slice R m cr) L).take 8 = cw s from by simp [hz, HS.out]] at this
      exact stepOk_val_q (wanted_at (t := 75) rfl rfl q37) (run_load_agg (.tmp 76) 23 rfl e38 (cw s) 8 (by simp [HS.out]) (by kernel_rfl) hs8) rfl
    · obtain ⟨v37, e37, q37, rfl⟩ := hk.ev_new hd 37 75 (by kernel_rfl) rfl
      have f8_ : a1.eval (.tmp 8) = .pointer (some ⟨g8, 0, none⟩) := hk.ev_old 8 (by kernel_rfl)
      have g8_ : a1.tmps[8]?.getD undef = .pointer (some ⟨g8, 0, none⟩) := by simpa [Act.eval] using f8_
      have hw := (hST.step hb0).step hk.below
      have f2 : a1.eval (.tmp 8) = .pointer (some ⟨g8, 0, none⟩) := hk.ev_old 8 (by kernel_rfl)
      exact stepOk_val_q (wanted_at (t := 75) rfl rfl q37) (run_load_agg (.tmp 8) 30 rfl f2 (cb blk) 64 (by simp [HBK.out]) (by kernel_rfl) hw.blk_) rfl
    · obtain ⟨v37, e37, q37, rfl⟩ := hk.ev_new hd 37 75 (by kernel_rfl) rfl
      have f11_ : a1.eval (.tmp 11) = .pointer (some ⟨gu, 0, none⟩) := hk.ev_old 11 (by kernel_rfl)
      have g11_ : a1.tmps[11]?.getD undef = .pointer (some ⟨gu, 0, none⟩) := by simpa [Act.eval] using f11_
      obtain ⟨v39, e39, q39, rfl⟩ := hk.ev_new hd 39 77 (by kernel_rfl) rfl
      obtain ⟨v40, e40, q40, rfl⟩ := hk.ev_new hd 40 78 (by kernel_rfl) rfl
      have hw := (hST.step hb0).step hk.below
      refine stepOk_enter (wanted_at (t := 75) rfl rfl q37) (f := 19) (args := #[.pointer (some ⟨gu, 0, none⟩), .agg (cw s).toArray, .agg (cb blk).toArray]) (by go_simp) ?_
      refine (Block_any gu 0 first keys s blk w' hw.utab HS.out HBK.out).mono ?_
      rintro e w5 ⟨rfl, hB5⟩
      exact ⟨_, rfl, (by rw [HNX.out]; rfl), hB5⟩
    · obtain ⟨v37, e37, q37, rfl⟩ := hk.ev_new hd 37 75 (by kernel_rfl) rfl
      have f5_ : a1.eval (.tmp 5) = .pointer (some ⟨g5, 0, none⟩) := hk.ev_old 5 (by kernel_rfl)
      have g5_ : a1.tmps[5]?.getD undef = .pointer (some ⟨g5, 0, none⟩) := by simpa [Act.eval] using f5_
      have hw := (hST.step hb0).step hk.below
      have f2 : a1.eval (.tmp 5) = .pointer (some ⟨g5, 0, none⟩) := hk.ev_old 5 (by kernel_rfl)
      exact stepOk_val_q (wanted_at (t := 75) rfl rfl q37) (run_load_agg (.tmp 5) 26 rfl f2 (cw (first ++ keys)) 72 HK.out (by kernel_rfl) hw.tab) rfl
    · obtain ⟨v37, e37, q37, rfl⟩ := hk.ev_new hd 37 75 (by kernel_rfl) rfl
      have f6_ : a1.eval (.tmp 6) = .pointer (some ⟨g6, 0, none⟩) := hk.ev_old 6 (by kernel_rfl)
      have g6_ : a1.tmps[6]?.getD undef = .pointer (some ⟨g6, 0, none⟩) := by simpa [Act.eval] using f6_
      exact stepOk_val_q (wanted_at (t := 75) rfl rfl q37) (v := .pointer (some ⟨g6, 0, none⟩)) (by go_simp) rfl
    · obtain ⟨v37, e37, q37, rfl⟩ := hk.ev_new hd 37 75 (by kernel_rfl) rfl
      obtain ⟨v43, e43, q43, rfl⟩ := hk.ev_new hd 43 81 (by kernel_rfl) rfl
      have hw := (hST.step hb0).step hk.below
      have hs8 : Sees w' w'.heap.size (some ⟨g6, 0, none⟩) (cw s) := by
        have := hw.has.take_ 8
        rwa [show (hz s (.slice R m cr) L).take 8 = cw s from by simp [hz, HS.out]] at this
      exact stepOk_val_q (wanted_at (t := 75) rfl rfl q37) (run_load_agg (.tmp 81) 23 rfl e43 (cw s) 8 (by simp [HS.out]) (by kernel_rfl) hs8) rfl
    · obtain ⟨v37, e37, q37, rfl⟩ := hk.ev_new hd 37 75 (by kernel_rfl) rfl
      have f8_ : a1.eval (.tmp 8) = .pointer (some ⟨g8, 0, none⟩) := hk.ev_old 8 (by kernel_rfl)
      have g8_ : a1.tmps[8]?.getD undef = .pointer (some ⟨g8, 0, none⟩) := by simpa [Act.eval] using f8_
      have f2 : a1.eval (.tmp 8) = .pointer (some ⟨g8, 0, none⟩) := hk.ev_old 8 (by kernel_rfl)
      have f3 : a1.tmps[8]?.getD undef = .pointer (some ⟨g8, 0, none⟩) := by simpa [Act.eval] using f2
      have hq := sl64_all g8 w'
      exact stepOk_val_q (wanted_at (t := 75) rfl rfl q37) (v := .slice (some ⟨g8, 0, none⟩) 64 64) (by go_simp) rfl
    · obtain ⟨v37, e37, q37, rfl⟩ := hk.ev_new hd 37 75 (by kernel_rfl) rfl
      obtain ⟨v42, e42, q42, rfl⟩ := hk.ev_new hd 42 80 (by kernel_rfl) rfl
      obtain ⟨v44, e44, q44, rfl⟩ := hk.ev_new hd 44 82 (by kernel_rfl) rfl
      obtain ⟨v45, e45, q45, rfl⟩ := hk.ev_new hd 45 83 (by kernel_rfl) rfl
      have hw := (hST.step hb0).step hk.below
      refine stepOk_enter (wanted_at (t := 75) rfl rfl q37) (f := 20) (args := #[.agg (cw (first ++ keys)).toArray, .agg (cw s).toArray, .slice (some ⟨g8, 0, none⟩) 64 64]) (by go_simp) ?_
      refine (rBlock_any first keys s (some ⟨g8, 0, none⟩) 64 blk w' H1.out H2.out HS.out HBK.out hw.blk_).mono ?_
      rintro e w5 ⟨rfl, hB5⟩
      exact ⟨_, rfl, (by rw [HNX.out]; rfl), hB5⟩
    · obtain ⟨v37, e37, q37, rfl⟩ := hk.ev_new hd 37 75 (by kernel_rfl) rfl
      obtain ⟨v41, e41, q41, rfl⟩ := hk.ev_new hd 41 79 (by kernel_rfl) rfl
      obtain ⟨v46, e46, q46, rfl⟩ := hk.ev_new hd 46 84 (by kernel_rfl) rfl
      exact stepOk_val_q (wanted_at (t := 75) rfl rfl q37) (run_neq_of (.tmp 79) (.tmp 84) 23 _ rfl (by kernel_rfl) _ _ e41 e46 (neq_state nx HN8.out w')) rfl
  intro a1 w10 hbw hp
  obtain ⟨v0, p0, v1, p1, v2, p2, v3, p3, v4, p4, v5, p5, v6, p6, v7, p7, v8, p8, v9, p9, v10, p10, v11, p11, v12, p12, v13, p13, v14, p14, v15, p15, v16, p16, v17, p17, v18, p18, v19, p19, v20, p20, v21, p21, v22, p22, v23, p23, v24, p24, v25, p25, v26, p26, v27, p27, v28, p28, v29, p29, v30, p30, v31, p31, v32, p32, v33, p33, v34, p34, v35, p35, v36, p36, v37, p37, v38, p38, v39, p39, v40, p40, v41, p41, v42, p42, v43, p43, v44, p44, v45, p45, v46, p46, v47, p47, rfl⟩ := hp
  simp only [st5] at p0 p1 p2 p3 p4 p5 p6 p7 p8 p9 p10 p11 p12 p13 p14 p15 p16 p17 p18 p19 p20 p21 p22 p23 p24 p25 p26 p27 p28 p29 p30 p31 p32 p33 p34 p35 p36 p37 p38 p39 p40 p41 p42 p43 p44 p45 p46 p47
  subst p0 p1 p2 p3 p4 p5 p6 p7 p8 p9 p10 p11 p12 p13 p14 p15 p16 p17 p18 p19 p20 p21 p22 p23 p24 p25 p26 p27 p28 p29 p30 p31 p32 p33 p34 p35 p36 p37 p38 p39 p40 p41 p42 p43 p44 p45 p46 p47
  simp only [List.drop_succ_cons, List.drop_zero, Act.put, List.setIfInBounds_toArray, List.set_cons_succ, List.set_cons_zero]
  have hST2 := hST.step hbw
  have hB010 := hST2.be
  by_cases hneg : N < 0
  · go_wp2_with fail
    refine (Pad_neg N _ hneg).mono ?_
    rintro e w11 ⟨rfl, rfl⟩
    go_wp2_with fail
    refine (rPad_neg N _ hneg).mono ?_
    rintro e w12 ⟨rfl, rfl⟩
    go_wp2_with fail
    refine (SameBytes_any none none 0 0 0 0 [] [] _ Sees.nil Sees.nil rfl rfl).mono ?_
    rintro e w13 ⟨rfl, rfl⟩
    go_wp2_with fail
    refine (awake2_any _).mono ?_
    rintro e w14 ⟨rfl, hB14⟩
    go_wp2_with fail
    go_ret
    exact ⟨rfl, Below.then_ hB010 hB14⟩
  · obtain ⟨N0, rfl⟩ := Int.eq_ofNat_of_zero_le (show 0 ≤ N by omega)
    have hN63 : N0 ≤ 9223372036854775807 := by omega
    go_wp2_with fail
    refine (Pad_any N0 (noughts N0) _ hN63 rfl).mono ?_
    rintro e w11 ⟨A11, c11, rfl, hF11, hB11⟩
    go_wp2_with fail
    refine (rPad_any N0 (noughts N0) _ hN63 rfl).mono ?_
    rintro e w12 ⟨A12, c12, rfl, hF12, hB12⟩
    go_wp2_with fail
    refine (SameBytes_any A11 A12 c11 c12 (9 + noughts N0) (9 + noughts N0) (padL N0) (padL N0) _ (hF11.below hB12).sees hF12.sees (len_padL N0) (len_padL N0)).mono ?_
    rintro e w13 ⟨rfl, rfl⟩
    rw [beq_self_eq_true]
    go_wp2_with fail
    refine (awake2_any _).mono ?_
    rintro e w14 ⟨rfl, hB14⟩
    go_wp2_with fail
    go_ret
    exact ⟨rfl, Below.then_ (Below.then_ (Below.then_ hB010 hB11) hB12) hB14⟩
end Go.Proofs.Ytggcapkipcdlmaa
