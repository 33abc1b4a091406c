/-
  The steps of a Put, one behind the other up to the first error; and the call write.
-/
import Derived.Test.YtdilpalggoapnaaCellWrite
namespace Go.Proofs.Ytdilpalggoapnaa
open Go.RowKit
set_option linter.unusedVariables false

theorem cwrite_cases {S T1 T2 T3 S' : Fl} {f σ t q1 q2 q3 r : Nat} {b : List UInt8} (h1 : S.derase f 2 (σ : Int) = (T1, q1)) (h2 : T1.dwrite f 2 (64 * (σ : Int)) (wordsC t b) = (T2, q2)) (h3 : T2.dwrite f 2 (64 * (σ : Int) + 63) [0] = (T3, q3)) (hr : S.cwrite f σ t b = (S', r)) :
    (¬ q1 = 0 → T1 = S' ∧ q1 = r) ∧ (q1 = 0 → ¬ q2 = 0 → T2 = S' ∧ q2 = r) ∧ (q1 = 0 → q2 = 0 → T3 = S' ∧ q3 = r) := by
  unfold Fl.cwrite at hr
  rw [h1] at hr
  cases q1 with
  | succ z =>
    simp only [Prod.mk.injEq] at hr
    exact ⟨fun _ => hr, fun h => absurd h (by omega), fun h => absurd h (by omega)⟩
  | zero =>
    simp only at hr
    rw [h2] at hr
    cases q2 with
    | succ z =>
      simp only [Prod.mk.injEq] at hr
      exact ⟨fun h => absurd rfl h, fun _ _ => hr, fun _ h => absurd h (by omega)⟩
    | zero =>
      simp only at hr
      rw [h3] at hr
      simp only [Prod.mk.injEq] at hr
      exact ⟨fun h => absurd rfl h, fun _ h => absurd rfl h, fun _ _ => hr⟩
section
variable {w w' : World} {B base c d p b f gc gx gf σ : Nat} {S S' : Fl} {x : Co} {A : Option Addr} {cp : Nat} {k : Co} {K : Option Addr} {ck : Nat} {over : Bool}
set_option maxHeartbeats 2000000 in
set_option maxRecDepth 100000 in
theorem upTo_any (h : WrAt B base w c d p b f gc gx gf σ S x A cp k K ck over) (hbase : base ≤ w.heap.size) (G : Nat) (hG : Fresh B 63 w (some ⟨G, 0, none⟩) 3 3 [.func (.func 130) #[] #[.pointer (some ⟨gc, 0, none⟩), .pointer (some ⟨gx, 0, none⟩)], .func (.func 132) #[] #[.pointer (some ⟨gc, 0, none⟩), .pointer (some ⟨gf, 0, none⟩), .pointer (some ⟨gx, 0, none⟩)], .func (.func 134) #[] #[.pointer (some ⟨gc, 0, none⟩), .pointer (some ⟨gf, 0, none⟩)]]) (r : Nat) (hr : S.cwrite f σ x.t x.b = (S', r)) :
    Calls Try.prog 129 #[.slice (some ⟨G, 0, none⟩) 3 3] w fun e w' => e = .returned (.int .i64 (r : Int)) ∧ DrAt base w' d p b f 2 S' ∧ But p b w w' := by
  obtain ⟨T1, q1, h1⟩ : ∃ T q, S.derase f 2 (σ : Int) = (T, q) := ⟨_, _, rfl⟩
  obtain ⟨T2, q2, h2⟩ : ∃ T q, T1.dwrite f 2 (64 * (σ : Int)) (wordsC x.t x.b) = (T, q) := ⟨_, _, rfl⟩
  obtain ⟨T3, q3, h3⟩ : ∃ T q, T2.dwrite f 2 (64 * (σ : Int) + 63) [0] = (T, q) := ⟨_, _, rfl⟩
  have HC := Lib.hid (cwrite_cases h1 h2 h3 hr)
  have H1 := Lib.hid h1
  have H2 := Lib.hid h2
  have H3 := Lib.hid h3
  have HGG := Lib.hid (fun (w' : World) (y : But p b w w') => hG.unlike2 h.dr.nor.obj h.dr.nor.row (by decide) (by decide) y)
  clear h1 h2 h3 hr
  go_enter Try.func129, Try.ntmps129
  go_wp2_with fail
  go_loopw [8] (fun i wr => ∃ j : Nat, j ≤ 3 ∧ i = .int .i64 (j : Int) ∧ Hid (But p b w wr ∧ ((j = 0 ∧ WrAt B base wr c d p b f gc gx gf σ S x A cp k K ck over) ∨ (j = 1 ∧ q1 = 0 ∧ WrAt B base wr c d p b f gc gx gf σ T1 x A cp k K ck over) ∨ (j = 2 ∧ q1 = 0 ∧ q2 = 0 ∧ WrAt B base wr c d p b f gc gx gf σ T2 x A cp k K ck over) ∨ (j = 3 ∧ q1 = 0 ∧ q2 = 0 ∧ q3 = 0 ∧ WrAt B base wr c d p b f gc gx gf σ T3 x A cp k K ck over)))) (fun i _ => 3 - (intOf i).toNat)
  case atStart => exact ⟨0, by omega, rfl, Lib.hid ⟨But.refl _ _ _, .inl ⟨rfl, h⟩⟩⟩
  case round =>
    obtain ⟨j, hj3, rfl, HX⟩ := hrel
    obtain ⟨hBw, hor⟩ := HX.out
    have hGr := HGG.out wr hBw
    have hbr := Nat.le_trans hbase hBw.size
    clear HX
    rcases hor with ⟨rfl, hW⟩ | ⟨rfl, hq1, hW⟩ | ⟨rfl, hq1, hq2, hW⟩ | ⟨rfl, hq1, hq2, hq3, hW⟩
    · have cg : wr.cell? ⟨G, 0, none⟩ = some (.func (.func 130) #[] #[.pointer (some ⟨gc, 0, none⟩), .pointer (some ⟨gx, 0, none⟩)]) := hGr.cell rfl
      clear hGr
      go_wp2_with fail
      refine (write1_any hW T1 q1 H1.out).mono ?_
      rintro e w3 ⟨rfl, hD3, hB3⟩
      have hW3 := hW.turn hB3 hD3
      have hB03 := hBw.then_ hB3
      by_cases hq : q1 = 0
      · have hqi : (q1 : Int) = 0 := by omega
        go_wp2_with fail
        go_roundw
        case rel => exact ⟨1, by omega, rfl, Lib.hid ⟨hB03, .inr (.inl ⟨rfl, hq, hW3⟩)⟩⟩
        case measure => simp [intOf]
      · have hqi : ¬ ((q1 : Int) = 0) := by omega
        go_wp2_with fail
        go_ret
        obtain ⟨rfl, rfl⟩ := HC.out.1 hq
        exact ⟨rfl, hD3, hB03⟩
    · have cg : wr.cell? ⟨G, 1, none⟩ = some (.func (.func 132) #[] #[.pointer (some ⟨gc, 0, none⟩), .pointer (some ⟨gf, 0, none⟩), .pointer (some ⟨gx, 0, none⟩)]) := hGr.cell rfl
      clear hGr
      go_wp2_with fail
      refine (write2_any hW hbr T2 q2 H2.out).mono ?_
      rintro e w3 ⟨rfl, hD3, hB3⟩
      have hW3 := hW.turn hB3 hD3
      have hB03 := hBw.then_ hB3
      by_cases hq : q2 = 0
      · have hqi : (q2 : Int) = 0 := by omega
        go_wp2_with fail
        go_roundw
        case rel => exact ⟨2, by omega, rfl, Lib.hid ⟨hB03, .inr (.inr (.inl ⟨rfl, hq1, hq, hW3⟩))⟩⟩
        case measure => simp [intOf]
      · have hqi : ¬ ((q2 : Int) = 0) := by omega
        go_wp2_with fail
        go_ret
        obtain ⟨rfl, rfl⟩ := HC.out.2.1 hq1 hq
        exact ⟨rfl, hD3, hB03⟩
    · have cg : wr.cell? ⟨G, 2, none⟩ = some (.func (.func 134) #[] #[.pointer (some ⟨gc, 0, none⟩), .pointer (some ⟨gf, 0, none⟩)]) := hGr.cell rfl
      clear hGr
      go_wp2_with fail
      refine (write3_any hW hbr T3 q3 H3.out).mono ?_
      rintro e w3 ⟨rfl, hD3, hB3⟩
      have hW3 := hW.turn hB3 hD3
      have hB03 := hBw.then_ hB3
      by_cases hq : q3 = 0
      · have hqi : (q3 : Int) = 0 := by omega
        go_wp2_with fail
        go_roundw
        case rel => exact ⟨3, by omega, rfl, Lib.hid ⟨hB03, .inr (.inr (.inr ⟨rfl, hq1, hq2, hq, hW3⟩))⟩⟩
        case measure => simp [intOf]
      · have hqi : ¬ ((q3 : Int) = 0) := by omega
        go_wp2_with fail
        go_ret
        obtain ⟨rfl, rfl⟩ := HC.out.2.2 hq1 hq2
        exact ⟨rfl, hD3, hB03⟩
    · obtain ⟨rfl, rfl⟩ := HC.out.2.2 hq1 hq2
      have hqi : (q3 : Int) = 0 := by omega
      clear hGr
      go_wp2_with fail
      go_ret
      exact ⟨rfl, hW.dr, hBw⟩
set_option maxHeartbeats 1000000 in
set_option maxRecDepth 100000 in
theorem cwrite_any (h : CeAt base w c d p b f S k over) (hbase : base ≤ w.heap.size) (hxs : x.s = (σ : Int)) (hsl : σ < 2) (hxt : x.t ≤ 2147483648) (hxb : x.b.length ≤ 244) (hA : Fresh base 5 w A x.b.length cp (cb x.b)) (r : Nat) (hr : S.cwrite f σ x.t x.b = (S', r)) :
    Calls Try.prog 94 #[.pointer (some ⟨c, 0, none⟩), .agg (coL x A cp).toArray] w fun e w' => e = .returned (.int .i64 (r : Int)) ∧ DrAt base w' d p b f 2 S' ∧ But p b w w' := by
  obtain ⟨K, ck, hrow, hk⟩ := h.row
  have ew : IntKind.i64.wrap (64 * (σ : Int)) = 64 * (σ : Int) := wrapI _ (by omega) (by omega)
  go_enter Try.func94, Try.ntmps94
  go_wp2_with (first
    | (with_reducible refine wpList_box (o := ⟨some 3, _, _, _, _, _⟩) rfl (.tmp 1) 95 rfl (coL x A cp) rfl 3 rfl (by decide) ?_; intro gx w2 hgx hFx hBx; have cx : w2.cell? ⟨gx, 0, none⟩ = some (.int .i64 (σ : Int)) := by have := hFx.cell (j := 0) rfl; rwa [hxs] at this))
  have a1 := below_alloc w (.cells #[.pointer (some ⟨c, 0, none⟩)] 80 (0, 0))
  have z1 := a1.size
  have b02 : Below w.heap.size w w2 := a1.trans (hBx.mono z1)
  have z2 := b02.size
  have a3 := below_alloc w2 (.cells #[.int .i64 (64 * (σ : Int))] 3 (0, 0))
  obtain ⟨w3, hw3⟩ : ∃ w3, w2.alloc (.cells #[.int .i64 (64 * (σ : Int))] 3 (0, 0)) = w3 := ⟨_, rfl⟩
  have hff : Fresh w2.heap.size 3 w3 (some ⟨w2.heap.size, 0, none⟩) 1 1 [.int .i64 (64 * (σ : Int))] := by rw [← hw3]; exact Fresh.new w2 _ _ 1 rfl (by decide)
  have z3 : w3.heap.size = w2.heap.size + 1 := by rw [← hw3]; simp
  rw [hw3] at a3
  have hfc : Fresh w.heap.size 80 w3 (some ⟨w.heap.size, 0, none⟩) 1 1 [.pointer (some ⟨c, 0, none⟩)] := ((Fresh.new w _ [.pointer (some ⟨c, 0, none⟩)] 1 rfl (by decide)).below hBx).below a3
  have a4 := fun (l : List Value) => below_alloc w3 (.cells l.toArray 63 (0, 0))
  have b03 := Below.then_ b02 a3
  have hWr : WrAt w.heap.size base w3 c d p b f w.heap.size gx w2.heap.size σ S x A cp k K ck over :=
    ⟨h.dr.below b03, hrow.below b03, hfc, (hFx.below a3).lower z1, hff.lower z2, hA.below b03, hxs, hsl, hxt, hxb⟩
  have hG := Fresh.new w3 63 [.func (.func 130) #[] #[.pointer (some ⟨w.heap.size, 0, none⟩), .pointer (some ⟨gx, 0, none⟩)], .func (.func 132) #[] #[.pointer (some ⟨w.heap.size, 0, none⟩), .pointer (some ⟨w2.heap.size, 0, none⟩), .pointer (some ⟨gx, 0, none⟩)], .func (.func 134) #[] #[.pointer (some ⟨w.heap.size, 0, none⟩), .pointer (some ⟨w2.heap.size, 0, none⟩)]] 3 rfl (by decide)
  have hU := upTo_any (hWr.below (a4 _)) (Nat.le_trans hbase (Below.then_ b03 (a4 _)).size) w3.heap.size (hG.lower b03.size) r hr
  rw [z3] at hU
  simp only [hw3]
  refine hU.mono ?_
  rintro e w5 ⟨rfl, hD5, hB5⟩
  go_wp2_with fail
  go_ret
  exact ⟨rfl, hD5, (But.of_below (Below.then_ b03 (a4 _))).then_ hB5⟩
end
end Go.Proofs.Ytdilpalggoapnaa
