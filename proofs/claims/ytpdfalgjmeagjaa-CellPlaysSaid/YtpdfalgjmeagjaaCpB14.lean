/-
  What a cell's sector has, read off its words: the calls whole, newer and other.
  Which of two counts, which sector is the next one, and the words of a sector: the calls newer, other and words of package cell.
  The words of a cell's sector, and which sector is the next one: content.words and content.other.
  A cell in memory: its object beside its drive; and what looking at the words makes known.
  What a cell tells: told, Get, Turn; and a copy of bytes (slices.Clone).
-/
import Derived.Test.YtpdfalgjmeagjaaCpB10
import Derived.Test.YtpdfalgjmeagjaaCpB12
import Derived.Test.YtpdfalgjmeagjaaCpB13
import Derived.Test.YtpdfalgjmeagjaaCpB01
namespace Go.Proofs.Ytpdfalgjmeagjaa
open Go.RowKit
set_option linter.unusedVariables false

/-- The cells of what is there. -/
def coL (x : Co) (A : Option Addr) (cp : Nat) : List Value := [.int .i64 x.s, .int .i64 (x.t : Int), .slice A x.b.length cp]
theorem coL_one (x : Co) (A : Option Addr) (cp : Nat) : ∀ u ∈ coL x A cp, u.oneCell' = true := by
  intro u hu
  simp only [coL, List.mem_cons, List.not_mem_nil, or_false] at hu
  rcases hu with rfl | rfl | rfl <;> rfl
theorem cut_words (g : Nat) (w : World) : (Instr.slice 54 (.slice (some ⟨g, 0, none⟩) 64 64) (some (.int .i64 2)) (some (.int .i64 63)) none).run Try.prog w = .ok (.slice (some ⟨g, 2, none⟩) 61 62) w := by
  have hz : (sizeOf (Try.prog.elem 54)).run Try.prog w = .ok 1 w := by kernel_rfl
  have he : Try.prog.underlying 54 = some (.slice (Try.prog.elem 54)) := by kernel_rfl
  rw [run_slice_lh w 54 _ 64 64 he .i64 .i64 2 63 (by omega) (by omega) (by omega), hz]
  simp [Result.andThen, sliced, Addr.add]
/-- What lies in a block of another type stays. -/
theorem Fresh.unlike {w w' : World} {B B2 g n c k : Nat} {T1 T2 : TypeId} {A : Option Addr} {xs ys : List Value} (h1 : Fresh B T1 w A n c xs) (h2 : Fresh B2 T2 w (some ⟨g, 0, none⟩) k k ys) (hne : T1 ≠ T2) (hk : ∀ j, j ≠ g → w'.heap[j]? = w.heap[j]?) : Fresh B T1 w' A n c xs := by
  refine ⟨h1.1, ?_⟩
  rcases h1.2 with hn | ⟨g', cap, cur, hv, hb, hg, rest⟩
  · exact .inl hn
  · refine .inr ⟨g', cap, cur, hv, hb, ?_, rest⟩
    have hne' : g' ≠ g := fun e => by
      subst e
      have h3 := h2.block.1
      rw [hg] at h3
      simp at h3
      exact hne h3.2
    rw [hk g' hne', hg]
section
variable {w : World}
set_option maxHeartbeats 1000000 in
set_option maxRecDepth 100000 in
theorem whole_any (i : Nat) (hi : i < 2) (G : Nat) (L : List UInt32) (hs : Sees w w.heap.size (some ⟨G, 0, none⟩) (cw L)) (hl : L.length = 64) (x : Co) (hx : coOf i (secC L) = x) :
    Calls Try.prog 182 #[.int .i64 (i : Int), .slice (some ⟨G, 0, none⟩) 64 64] w fun e w' => ∃ A cp, e = .returned (.agg (coL x A cp).toArray) ∧ Fresh w.heap.size 5 w' A x.b.length cp (cb x.b) ∧ Below w.heap.size w w' := by
  have HS := Lib.hid hs
  obtain ⟨g0, o0, e0, hg, t, HT, ht, hct⟩ := hs.word hl (show 0 < 64 by omega)
  obtain ⟨g1, o1, e1, -, n, HN, hn, hcn⟩ := hs.word hl (show 1 < 64 by omega)
  obtain ⟨g2, o2, e2, -, z, HZ, hz, hcz⟩ := hs.word hl (show 63 < 64 by omega)
  obtain ⟨rfl, rfl⟩ : G = g0 ∧ 0 = o0 := by simpa using e0
  obtain ⟨rfl, rfl⟩ : G = g1 ∧ 0 = o1 := by simpa using e1
  obtain ⟨rfl, rfl⟩ : G = g2 ∧ 0 = o2 := by simpa using e2
  clear e0 e1 e2 hs
  rw [Nat.zero_add] at hct hcn hcz
  obtain ⟨r, hr⟩ : ∃ r, L = t :: n :: r := by
    match L, hl, HT.out, HN.out with
    | a :: b :: r, _, h1, h2 =>
      simp at h1 h2
      exact ⟨r, by rw [h1, h2]⟩
  have hz' : r[61]? = some z := by have := HZ.out; rw [hr] at this; simpa using this
  have hsec : secC L = if z = 0 ∧ t.toNat ≤ 2147483648 ∧ n.toNat ≤ 244 then some (t.toNat, (bytesOf (r.take 61)).take n.toNat) else none := by
    rw [hr]
    simp only [secC, hz', Option.some.injEq]
  have none_ : secC L = none → x = ⟨-1, 0, []⟩ := fun h => by rw [← hx, h]; rfl
  have hz0 : z = 0 ↔ (z.toNat : Int) = 0 := by
    constructor
    · intro h; rw [h]; rfl
    · intro h; exact UInt32.toNat_inj.1 (by rw [show (0 : UInt32).toNat = 0 from rfl]; omega)
  by_cases h1 : (z.toNat : Int) = 0
  · have q1 : ((z.toNat : Int) == 0) = true := by simp; omega
    by_cases h2 : t.toNat ≤ 2147483648
    · have q2 : decide ((2147483648 : Int) < (t.toNat : Int)) = false := by simp; omega
      by_cases h3 : n.toNat ≤ 244
      · have q3 : decide ((244 : Int) < (n.toNat : Int)) = false := by simp; omega
        rw [if_pos ⟨hz0.2 h1, h2, h3⟩] at hsec
        rw [hsec] at hx
        subst hx
        have hrl : r.length = 62 := by rw [hr] at hl; simpa using hl
        have hgb : getBytes (r.take 61) (n.toNat : Int) = ((bytesOf (r.take 61)).take n.toNat, 0) := getBytes_some _ _ (by rw [List.length_take, hrl]; omega)
        have hbl : ((bytesOf (r.take 61)).take n.toNat).length = n.toNat := by rw [List.length_take, len_bytesOf, List.length_take, hrl]; omega
        have hcut := fun w => cut_words G w
        have hsr : Sees w w.heap.size (some ⟨G, 2, none⟩) (cw (r.take 61)) := by
          have h := (HS.out.drop_ 2).take_ 61
          rw [Nat.zero_add, hr] at h
          simpa [cw] using h
        have hB := fun (w' : World) (x : Below w.heap.size w w') => Bytes_told (c := 62) hgb (hsr.step x) (by rw [List.length_take, hrl]) hbl (by omega)
        generalize hbs : (bytesOf (r.take 61)).take n.toNat = bs at hB hbl
        have HB := Lib.hid hB
        have HBL := Lib.hid hbl
        clear hB hbl hsr hgb hrl hsec none_ hz0 HT HN HZ hz' hr HS
        go_enter Try.func182, Try.ntmps182
        go_wp2_with (with_reducible refine wpList_alloc (o := ⟨some 4, _, _, _, _, _⟩) rfl 206 rfl [.int .i64 0, .int .i64 0, .slice none 0 0] (by kernel_rfl) 3 rfl (by decide) ?_; intro gx w1 hgx hFx hBx; have cz1 := (hBx.cell (p := ⟨G, 63, none⟩) hg).trans hcz; have ct1 := (hBx.cell (p := ⟨G, 0, none⟩) hg).trans hct; have cn1 := (hBx.cell (p := ⟨G, 1, none⟩) hg).trans hcn)
        refine region_qcall 6 (by kernel_rfl) (by kernel_rfl) ?_
        simp only [List.take_succ_cons, List.take_zero, List.drop_succ_cons, List.drop_zero]
        repeat (go_big_quiet_step (fail))
        refine wpQuiet_nil ?_
        rintro _ ⟨nq, rfl⟩
        have hBq := below_drewN' hBx nq
        go_wp2_with fail
        refine (HB.out _ hBq).mono ?_
        rintro e w2 ⟨A, cp, rfl, hF2, hB2⟩
        have hFx2 := (hFx.below (below_drewN' (Below.refl _ _) nq)).below hB2
        go_wp2_with fail
        simp only [onEnd]
        repeat (go_big_quiet_step (fail))
        refine wpQuiet_nil ?_
        rintro _ ⟨nr, rfl⟩
        have hdr := below_drewN' (Below.refl w2.heap.size w2) nr
        have hFx3 := hFx2.below hdr
        have hF3 := hF2.below hdr
        have hB3 := Below.then_ (Below.then_ hBq hB2) hdr
        have hB3a : w.heap.size ≤ (w1.drewN nq).heap.size := hBq.size
        have ct3 := (hB3.cell (p := ⟨G, 0, none⟩) hg).trans hct
        revert hFx3 hF3 hB3 ct3
        generalize w2.drewN nr = w3
        intro hFx3 hF3 hB3 ct3
        clear hB2 hBq hdr hF2 hFx2 HB hcut
        go_wp2_with (with_reducible refine wpList_store rfl rfl (.tmp 4) (.tmp 40) 206 rfl gx 0 w.heap.size 206 3 [.int .i64 0, .int .i64 0, .slice none 0 0] [.int .i64 (i : Int), .int .i64 (t.toNat : Int), .slice A n.toNat cp] rfl rfl 3 rfl (by kernel_rfl) hFx3 (by omega) (allOne_out rfl) w hB3 hgx ?_; intro w4 hF4 hB4 hoth4 hz4)
        refine bodyPost_cell rfl rfl [.int .i64 (i : Int), .int .i64 (t.toNat : Int), .slice A n.toNat cp] 3 rfl (by kernel_rfl) hF4.sees rfl ⟨A, cp, by simp only [coL, coOf, HBL.out], ?_, hB4⟩
        simp only [coOf, HBL.out]
        exact (hF3.lower hB3a).unlike hFx3 (by decide) hoth4
      · have q3 : decide ((244 : Int) < (n.toNat : Int)) = true := by simp; omega
        obtain rfl := none_ (by rw [hsec, if_neg (fun h => h3 h.2.2)])
        clear hx hsec none_ hz0 HT HN HZ hz' hr HS
        go_enter Try.func182, Try.ntmps182
        go_wp2_with (first
          | (with_reducible refine wpList_alloc (o := ⟨some 4, _, _, _, _, _⟩) rfl 206 rfl [.int .i64 0, .int .i64 0, .slice none 0 0] (by kernel_rfl) 3 rfl (by decide) ?_; intro gx w1 hgx hFx hBx; have cz1 := (hBx.cell (p := ⟨G, 63, none⟩) hg).trans hcz; have ct1 := (hBx.cell (p := ⟨G, 0, none⟩) hg).trans hct; have cn1 := (hBx.cell (p := ⟨G, 1, none⟩) hg).trans hcn)
          | (with_reducible refine wpList_store rfl rfl (.tmp 4) (.tmp 23) 206 rfl gx 0 w.heap.size 206 3 [.int .i64 0, .int .i64 0, .slice none 0 0] [.int .i64 (-1), .int .i64 0, .slice none 0 0] rfl rfl 3 rfl (by kernel_rfl) hFx (by omega) (allOne_out rfl) w hBx hgx ?_; intro w2 hF2 hB2 hoth2 hz2))
        refine bodyPost_cell rfl rfl [.int .i64 (-1), .int .i64 0, .slice none 0 0] 3 rfl (by kernel_rfl) hF2.sees rfl ⟨none, 0, rfl, fresh_nil _ _ _, hB2⟩
    · have q2 : decide ((2147483648 : Int) < (t.toNat : Int)) = true := by simp; omega
      obtain rfl := none_ (by rw [hsec, if_neg (fun h => h2 h.2.1)])
      clear hx hsec none_ hz0 HT HN HZ hz' hr HS
      go_enter Try.func182, Try.ntmps182
      go_wp2_with (first
        | (with_reducible refine wpList_alloc (o := ⟨some 4, _, _, _, _, _⟩) rfl 206 rfl [.int .i64 0, .int .i64 0, .slice none 0 0] (by kernel_rfl) 3 rfl (by decide) ?_; intro gx w1 hgx hFx hBx; have cz1 := (hBx.cell (p := ⟨G, 63, none⟩) hg).trans hcz; have ct1 := (hBx.cell (p := ⟨G, 0, none⟩) hg).trans hct; have cn1 := (hBx.cell (p := ⟨G, 1, none⟩) hg).trans hcn)
        | (with_reducible refine wpList_store rfl rfl (.tmp 4) (.tmp 23) 206 rfl gx 0 w.heap.size 206 3 [.int .i64 0, .int .i64 0, .slice none 0 0] [.int .i64 (-1), .int .i64 0, .slice none 0 0] rfl rfl 3 rfl (by kernel_rfl) hFx (by omega) (allOne_out rfl) w hBx hgx ?_; intro w2 hF2 hB2 hoth2 hz2))
      refine bodyPost_cell rfl rfl [.int .i64 (-1), .int .i64 0, .slice none 0 0] 3 rfl (by kernel_rfl) hF2.sees rfl ⟨none, 0, rfl, fresh_nil _ _ _, hB2⟩
  · have q1 : ((z.toNat : Int) == 0) = false := by simp; omega
    obtain rfl := none_ (by rw [hsec, if_neg (fun h => h1 (hz0.1 h.1))])
    clear hx hsec none_ hz0 HT HN HZ hz' hr HS
    go_enter Try.func182, Try.ntmps182
    go_wp2_with (first
      | (with_reducible refine wpList_alloc (o := ⟨some 4, _, _, _, _, _⟩) rfl 206 rfl [.int .i64 0, .int .i64 0, .slice none 0 0] (by kernel_rfl) 3 rfl (by decide) ?_; intro gx w1 hgx hFx hBx; have cz1 := (hBx.cell (p := ⟨G, 63, none⟩) hg).trans hcz; have ct1 := (hBx.cell (p := ⟨G, 0, none⟩) hg).trans hct; have cn1 := (hBx.cell (p := ⟨G, 1, none⟩) hg).trans hcn)
      | (with_reducible refine wpList_store rfl rfl (.tmp 4) (.tmp 23) 206 rfl gx 0 w.heap.size 206 3 [.int .i64 0, .int .i64 0, .slice none 0 0] [.int .i64 (-1), .int .i64 0, .slice none 0 0] rfl rfl 3 rfl (by kernel_rfl) hFx (by omega) (allOne_out rfl) w hBx hgx ?_; intro w2 hF2 hB2 hoth2 hz2))
    refine bodyPost_cell rfl rfl [.int .i64 (-1), .int .i64 0, .slice none 0 0] 3 rfl (by kernel_rfl) hF2.sees rfl ⟨none, 0, rfl, fresh_nil _ _ _, hB2⟩
end
end Go.Proofs.Ytpdfalgjmeagjaa
namespace Go.Proofs.Ytpdfalgjmeagjaa
open Go.RowKit
set_option linter.unusedVariables false

section
variable {w : World}
set_option maxHeartbeats 1000000 in
set_option maxRecDepth 100000 in
theorem newer_any (x y : Co) (hx : x.Ok) (hy : y.Ok) (A B : Option Addr) (cp cq : Nat) : Calls Try.prog 183 #[.agg (coL x A cp).toArray, .agg (coL y B cq).toArray] w fun e w' =>
    ((newC x y = x ∧ e = .returned (.agg (coL x A cp).toArray)) ∨ (newC x y = y ∧ e = .returned (.agg (coL y B cq).toArray))) ∧ Below w.heap.size w w' := by
  have hxt := hx.t
  have hyt := hy.t
  have ew : IntKind.i64.wrap ((x.t : Int) + 1) = (x.t : Int) + 1 := wrapI _ (by omega) (by omega)
  clear hx hy
  obtain ⟨z, hz⟩ : ∃ z, newC x y = z := ⟨_, rfl⟩
  rw [hz]
  unfold newC at hz
  by_cases h1 : x.s = -1
  · have q1 : (x.s == -1) = true := by simp; exact h1
    rw [if_pos (.inl h1)] at hz
    subst hz
    go_enter Try.func183, Try.ntmps183
    go_wp2_with (first
      | (with_reducible refine wpList_box (o := ⟨some 2, _, _, _, _, _⟩) rfl (.tmp 0) 206 rfl (coL x A cp) rfl 3 rfl (by decide) ?_; intro g1 w1 hg1 hF1 hB1; have l1 := hF1.lt_size)
      | (with_reducible refine wpList_box (o := ⟨some 3, _, _, _, _, _⟩) rfl (.tmp 1) 206 rfl (coL y B cq) rfl 3 rfl (by decide) ?_; intro g2 w2 hg2 hF2 hB2; have l2 := hF2.lt_size; have hF12 := hF1.below hB2; have hB02 := Below.then_ hB1 hB2)
      | (with_reducible refine wpList_alloc (o := ⟨some 4, _, _, _, _, _⟩) rfl 206 rfl [.int .i64 0, .int .i64 0, .slice none 0 0] (by kernel_rfl) 3 rfl (by decide) ?_; intro g3 w3 hg3 hF3 hB3; have hF13 := hF12.below hB3; have hF23 := hF2.below hB3; have hB03 := Below.then_ hB02 hB3; have x0 : w3.cell? ⟨g1, 0, none⟩ = some (.int .i64 x.s) := hF13.cell rfl; have x1 : w3.cell? ⟨g1, 1, none⟩ = some (.int .i64 (x.t : Int)) := hF13.cell rfl; have y0 : w3.cell? ⟨g2, 0, none⟩ = some (.int .i64 y.s) := hF23.cell rfl; have y1 : w3.cell? ⟨g2, 1, none⟩ = some (.int .i64 (y.t : Int)) := hF23.cell rfl; have hw0 := hB02.size)
      | (with_reducible refine wpList_load (o := ⟨some 21, _, _, _, _, _⟩) rfl (.tmp 3) 206 rfl g2 0 _ rfl (coL y B cq) 3 rfl (by kernel_rfl) hF23.sees ?_)
      | (with_reducible refine wpList_load (o := ⟨some 22, _, _, _, _, _⟩) rfl (.tmp 2) 206 rfl g1 0 _ rfl (coL x A cp) 3 rfl (by kernel_rfl) hF13.sees ?_)
      | (with_reducible refine wpList_store rfl rfl (.tmp 4) (.tmp 21) 206 rfl g3 0 w2.heap.size 206 3 [.int .i64 0, .int .i64 0, .slice none 0 0] (coL y B cq) rfl rfl 3 rfl (by kernel_rfl) hF3 (by omega) (coL_one _ _ _) w hB03 (by omega) ?_; intro w4 hF4 hB4 hoth4 hz4))
    refine bodyPost_cell rfl rfl (coL y B cq) 3 rfl (by kernel_rfl) hF4.sees rfl ⟨.inr ⟨trivial, rfl⟩, hB4⟩
  · have q1 : (x.s == -1) = false := by simp; exact h1
    by_cases h2 : y.s = -1
    · have q2 : (y.s == -1) = true := by simp; exact h2
      rw [if_neg (fun h => h.elim h1 (fun h => h.1 h2))] at hz
      subst hz
      go_enter Try.func183, Try.ntmps183
      go_wp2_with (first
        | (with_reducible refine wpList_box (o := ⟨some 2, _, _, _, _, _⟩) rfl (.tmp 0) 206 rfl (coL x A cp) rfl 3 rfl (by decide) ?_; intro g1 w1 hg1 hF1 hB1; have l1 := hF1.lt_size)
        | (with_reducible refine wpList_box (o := ⟨some 3, _, _, _, _, _⟩) rfl (.tmp 1) 206 rfl (coL y B cq) rfl 3 rfl (by decide) ?_; intro g2 w2 hg2 hF2 hB2; have l2 := hF2.lt_size; have hF12 := hF1.below hB2; have hB02 := Below.then_ hB1 hB2)
        | (with_reducible refine wpList_alloc (o := ⟨some 4, _, _, _, _, _⟩) rfl 206 rfl [.int .i64 0, .int .i64 0, .slice none 0 0] (by kernel_rfl) 3 rfl (by decide) ?_; intro g3 w3 hg3 hF3 hB3; have hF13 := hF12.below hB3; have hF23 := hF2.below hB3; have hB03 := Below.then_ hB02 hB3; have x0 : w3.cell? ⟨g1, 0, none⟩ = some (.int .i64 x.s) := hF13.cell rfl; have x1 : w3.cell? ⟨g1, 1, none⟩ = some (.int .i64 (x.t : Int)) := hF13.cell rfl; have y0 : w3.cell? ⟨g2, 0, none⟩ = some (.int .i64 y.s) := hF23.cell rfl; have y1 : w3.cell? ⟨g2, 1, none⟩ = some (.int .i64 (y.t : Int)) := hF23.cell rfl; have hw0 := hB02.size)
        | (with_reducible refine wpList_load (o := ⟨some 21, _, _, _, _, _⟩) rfl (.tmp 3) 206 rfl g2 0 _ rfl (coL y B cq) 3 rfl (by kernel_rfl) hF23.sees ?_)
        | (with_reducible refine wpList_load (o := ⟨some 22, _, _, _, _, _⟩) rfl (.tmp 2) 206 rfl g1 0 _ rfl (coL x A cp) 3 rfl (by kernel_rfl) hF13.sees ?_)
        | (with_reducible refine wpList_store rfl rfl (.tmp 4) (.tmp 22) 206 rfl g3 0 w2.heap.size 206 3 [.int .i64 0, .int .i64 0, .slice none 0 0] (coL x A cp) rfl rfl 3 rfl (by kernel_rfl) hF3 (by omega) (coL_one _ _ _) w hB03 (by omega) ?_; intro w4 hF4 hB4 hoth4 hz4))
      refine bodyPost_cell rfl rfl (coL x A cp) 3 rfl (by kernel_rfl) hF4.sees rfl ⟨.inl ⟨trivial, rfl⟩, hB4⟩
    · have q2 : (y.s == -1) = false := by simp; exact h2
      by_cases h3 : y.t = x.t + 1
      · have q3 : ((y.t : Int) == (x.t : Int) + 1) = true := by simp; omega
        rw [if_pos (.inr ⟨h2, h3⟩)] at hz
        subst hz
        go_enter Try.func183, Try.ntmps183
        go_wp2_with (first
          | (with_reducible refine wpList_box (o := ⟨some 2, _, _, _, _, _⟩) rfl (.tmp 0) 206 rfl (coL x A cp) rfl 3 rfl (by decide) ?_; intro g1 w1 hg1 hF1 hB1; have l1 := hF1.lt_size)
          | (with_reducible refine wpList_box (o := ⟨some 3, _, _, _, _, _⟩) rfl (.tmp 1) 206 rfl (coL y B cq) rfl 3 rfl (by decide) ?_; intro g2 w2 hg2 hF2 hB2; have l2 := hF2.lt_size; have hF12 := hF1.below hB2; have hB02 := Below.then_ hB1 hB2)
          | (with_reducible refine wpList_alloc (o := ⟨some 4, _, _, _, _, _⟩) rfl 206 rfl [.int .i64 0, .int .i64 0, .slice none 0 0] (by kernel_rfl) 3 rfl (by decide) ?_; intro g3 w3 hg3 hF3 hB3; have hF13 := hF12.below hB3; have hF23 := hF2.below hB3; have hB03 := Below.then_ hB02 hB3; have x0 : w3.cell? ⟨g1, 0, none⟩ = some (.int .i64 x.s) := hF13.cell rfl; have x1 : w3.cell? ⟨g1, 1, none⟩ = some (.int .i64 (x.t : Int)) := hF13.cell rfl; have y0 : w3.cell? ⟨g2, 0, none⟩ = some (.int .i64 y.s) := hF23.cell rfl; have y1 : w3.cell? ⟨g2, 1, none⟩ = some (.int .i64 (y.t : Int)) := hF23.cell rfl; have hw0 := hB02.size)
          | (with_reducible refine wpList_load (o := ⟨some 21, _, _, _, _, _⟩) rfl (.tmp 3) 206 rfl g2 0 _ rfl (coL y B cq) 3 rfl (by kernel_rfl) hF23.sees ?_)
          | (with_reducible refine wpList_load (o := ⟨some 22, _, _, _, _, _⟩) rfl (.tmp 2) 206 rfl g1 0 _ rfl (coL x A cp) 3 rfl (by kernel_rfl) hF13.sees ?_)
          | (with_reducible refine wpList_store rfl rfl (.tmp 4) (.tmp 21) 206 rfl g3 0 w2.heap.size 206 3 [.int .i64 0, .int .i64 0, .slice none 0 0] (coL y B cq) rfl rfl 3 rfl (by kernel_rfl) hF3 (by omega) (coL_one _ _ _) w hB03 (by omega) ?_; intro w4 hF4 hB4 hoth4 hz4))
        refine bodyPost_cell rfl rfl (coL y B cq) 3 rfl (by kernel_rfl) hF4.sees rfl ⟨.inr ⟨trivial, rfl⟩, hB4⟩
      · have q3 : ((y.t : Int) == (x.t : Int) + 1) = false := by simp; omega
        rw [if_neg (fun h => h.elim h1 (fun h => h3 h.2))] at hz
        subst hz
        go_enter Try.func183, Try.ntmps183
        go_wp2_with (first
          | (with_reducible refine wpList_box (o := ⟨some 2, _, _, _, _, _⟩) rfl (.tmp 0) 206 rfl (coL x A cp) rfl 3 rfl (by decide) ?_; intro g1 w1 hg1 hF1 hB1; have l1 := hF1.lt_size)
          | (with_reducible refine wpList_box (o := ⟨some 3, _, _, _, _, _⟩) rfl (.tmp 1) 206 rfl (coL y B cq) rfl 3 rfl (by decide) ?_; intro g2 w2 hg2 hF2 hB2; have l2 := hF2.lt_size; have hF12 := hF1.below hB2; have hB02 := Below.then_ hB1 hB2)
          | (with_reducible refine wpList_alloc (o := ⟨some 4, _, _, _, _, _⟩) rfl 206 rfl [.int .i64 0, .int .i64 0, .slice none 0 0] (by kernel_rfl) 3 rfl (by decide) ?_; intro g3 w3 hg3 hF3 hB3; have hF13 := hF12.below hB3; have hF23 := hF2.below hB3; have hB03 := Below.then_ hB02 hB3; have x0 : w3.cell? ⟨g1, 0, none⟩ = some (.int .i64 x.s) := hF13.cell rfl; have x1 : w3.cell? ⟨g1, 1, none⟩ = some (.int .i64 (x.t : Int)) := hF13.cell rfl; have y0 : w3.cell? ⟨g2, 0, none⟩ = some (.int .i64 y.s) := hF23.cell rfl; have y1 : w3.cell? ⟨g2, 1, none⟩ = some (.int .i64 (y.t : Int)) := hF23.cell rfl; have hw0 := hB02.size)
          | (with_reducible refine wpList_load (o := ⟨some 21, _, _, _, _, _⟩) rfl (.tmp 3) 206 rfl g2 0 _ rfl (coL y B cq) 3 rfl (by kernel_rfl) hF23.sees ?_)
          | (with_reducible refine wpList_load (o := ⟨some 22, _, _, _, _, _⟩) rfl (.tmp 2) 206 rfl g1 0 _ rfl (coL x A cp) 3 rfl (by kernel_rfl) hF13.sees ?_)
          | (with_reducible refine wpList_store rfl rfl (.tmp 4) (.tmp 22) 206 rfl g3 0 w2.heap.size 206 3 [.int .i64 0, .int .i64 0, .slice none 0 0] (coL x A cp) rfl rfl 3 rfl (by kernel_rfl) hF3 (by omega) (coL_one _ _ _) w hB03 (by omega) ?_; intro w4 hF4 hB4 hoth4 hz4))
        refine bodyPost_cell rfl rfl (coL x A cp) 3 rfl (by kernel_rfl) hF4.sees rfl ⟨.inl ⟨trivial, rfl⟩, hB4⟩
end
end Go.Proofs.Ytpdfalgjmeagjaa
namespace Go.Proofs.Ytpdfalgjmeagjaa
open Go.RowKit
set_option linter.unusedVariables false

def wordsFacts (g base : Nat) (A : Option Addr) (cp : Nat) (x : Co) (k : Nat) (v : Value) (w : World) : Prop :=
  match k with
  | 0 => v = .pointer (some ⟨g, 1, none⟩)
  | 1 => v = .int .i64 (x.t : Int)
  | 2 => v = .int .u32 (x.t : Int)
  | 3 => v = .pointer (some ⟨g, 2, none⟩)
  | 4 => v = .slice A x.b.length cp
  | 5 => v = .int .i64 (x.b.length : Int)
  | 6 => v = .int .u32 (x.b.length : Int)
  | 7 => ∃ q, v = .slice (some ⟨q, 0, none⟩) 2 2 ∧ Fresh base 22 w (some ⟨q, 0, none⟩) 2 2 (cw (headC x.t x.b.length))
  | 8 => v = .pointer (some ⟨g, 2, none⟩)
  | 9 => v = .slice A x.b.length cp
  | 10 => ∃ q c, v = .slice q ((x.b.length + 3) / 4) c ∧ Fresh base 22 w q ((x.b.length + 3) / 4) c (cw (words x.b))
  | _ => True
theorem wordsFacts_stab (g base : Nat) (A : Option Addr) (cp : Nat) (x : Co) : ∀ k v w w', Below w.heap.size w w' → wordsFacts g base A cp x k v w → wordsFacts g base A cp x k v w' := by
  intro k v w w' hb h
  unfold wordsFacts at *
  split at h <;> first | exact h | (obtain ⟨q, h1, h2⟩ := h; exact ⟨q, h1, h2.below hb⟩) | (obtain ⟨q, c, h1, h2⟩ := h; exact ⟨q, c, h1, h2.below hb⟩) | trivial
section
variable {w : World}
set_option maxHeartbeats 2000000 in
set_option maxRecDepth 100000 in
theorem cwords_any (x : Co) (A : Option Addr) (cp : Nat) (ht : x.t ≤ 2147483648) (hb : x.b.length ≤ 244) (hS : Sees w w.heap.size A (cb x.b)) :
    Calls Try.prog 187 #[.agg (coL x A cp).toArray] w fun e w' => ∃ B c, e = .returned (.slice B (2 + (x.b.length + 3) / 4) c) ∧ Fresh w.heap.size 22 w' B (2 + (x.b.length + 3) / 4) c (cw (wordsC x.t x.b)) ∧ Below w.heap.size w w' := by
  have ewt : IntKind.u32.wrap (x.t : Int) = (x.t : Int) := by rw [IntKind.wrap_u32]; omega
  have ewl : IntKind.u32.wrap (x.b.length : Int) = (x.b.length : Int) := by rw [IntKind.wrap_u32]; omega
  have hcw : cw (headC x.t x.b.length) = [.int .u32 (x.t : Int), .int .u32 (x.b.length : Int)] := by
    simp only [headC, cw, List.map_cons, List.map_nil]
    rw [ofNat_toNat32 _ (by omega), ofNat_toNat32 _ (by omega)]
  have HBL := Lib.hid hb
  have hS0 := hS
  clear hb ht
  go_enter Try.func187, Try.ntmps187
  go_wp2_with (with_reducible refine wpList_box (o := ⟨some 1, _, _, _, _, _⟩) rfl (.tmp 0) 206 rfl (coL x A cp) rfl 3 rfl (by decide) ?_; intro g w1 hg1 hF hB1)
  have hS := hS0.step hB1
  have hbl := HBL.out
  (try simp only [Act.put, List.setIfInBounds_toArray, List.set_cons_succ, List.set_cons_zero])
  refine region_all_tail 11 (wordsFacts g w.heap.size A cp x) (by kernel_rfl) (by kernel_rfl) (by kernel_rfl) (wordsFacts_stab _ _ _ _ _) ?_ ?_
  · intro w0 hb0
    have hsz0 : w.heap.size ≤ w0.heap.size := Nat.le_trans hB1.size hb0.size
    simp only [List.take_succ_cons, List.take_zero]
    refine ⟨?_, ?_, ?_, ?_, ?_, ?_, ?_, ?_, ?_, ?_, ?_, trivial⟩
    all_goals intro listed a1 w' hk hd
    · have f1_ : a1.eval (.tmp 1) = .pointer (some ⟨g, 0, none⟩) := hk.ev_old 1 (by kernel_rfl)
      have g1_ : a1.tmps[1]?.getD undef = .pointer (some ⟨g, 0, none⟩) := by simpa [Act.eval] using f1_
      exact stepOk_value rfl (v := .pointer (some ⟨g, 1, none⟩)) (by go_simp) rfl
    · obtain ⟨v0, e0, q0, rfl⟩ := hk.ev_new hd 0 3 (by kernel_rfl) rfl
      have c1 : w'.cell? ⟨g, 1, none⟩ = some (.int .i64 (x.t : Int)) := ((hF.below hb0).below hk.below).cell rfl
      exact stepOk_value rfl (v := .int .i64 (x.t : Int)) (by go_simp) rfl
    · obtain ⟨v1, e1, q1, rfl⟩ := hk.ev_new hd 1 4 (by kernel_rfl) rfl
      exact stepOk_value rfl (v := .int .u32 (x.t : Int)) (by go_simp; try exact ewt) rfl
    · have f1_ : a1.eval (.tmp 1) = .pointer (some ⟨g, 0, none⟩) := hk.ev_old 1 (by kernel_rfl)
      have g1_ : a1.tmps[1]?.getD undef = .pointer (some ⟨g, 0, none⟩) := by simpa [Act.eval] using f1_
      exact stepOk_value rfl (v := .pointer (some ⟨g, 2, none⟩)) (by go_simp) rfl
    · obtain ⟨v3, e3, q3, rfl⟩ := hk.ev_new hd 3 6 (by kernel_rfl) rfl
      have c1 : w'.cell? ⟨g, 2, none⟩ = some (.slice A x.b.length cp) := ((hF.below hb0).below hk.below).cell rfl
      exact stepOk_value rfl (v := .slice A x.b.length cp) (by go_simp) rfl
    · obtain ⟨v4, e4, q4, rfl⟩ := hk.ev_new hd 4 7 (by kernel_rfl) rfl
      exact stepOk_value rfl (v := .int .i64 (x.b.length : Int)) (by go_simp) rfl
    · obtain ⟨v5, e5, q5, rfl⟩ := hk.ev_new hd 5 8 (by kernel_rfl) rfl
      exact stepOk_value rfl (v := .int .u32 (x.b.length : Int)) (by go_simp; try exact ewl) rfl
    · obtain ⟨v2, e2, q2, rfl⟩ := hk.ev_new hd 2 5 (by kernel_rfl) rfl
      obtain ⟨v6, e6, q6, rfl⟩ := hk.ev_new hd 6 9 (by kernel_rfl) rfl
      refine stepOk_run rfl (v := .slice (some ⟨w'.heap.size, 0, none⟩) 2 2) (w' := w'.alloc (.cells (cw (headC x.t x.b.length)).toArray 22)) ?_ ⟨_, rfl, (Fresh.new w' 22 (cw (headC x.t x.b.length)) 2 rfl (by decide)).lower (Nat.le_trans hsz0 hk.below.size)⟩ (below_alloc _ _)
      rw [hcw]
      go_simp
    · have f1_ : a1.eval (.tmp 1) = .pointer (some ⟨g, 0, none⟩) := hk.ev_old 1 (by kernel_rfl)
      have g1_ : a1.tmps[1]?.getD undef = .pointer (some ⟨g, 0, none⟩) := by simpa [Act.eval] using f1_
      exact stepOk_value rfl (v := .pointer (some ⟨g, 2, none⟩)) (by go_simp) rfl
    · obtain ⟨v8, e8, q8, rfl⟩ := hk.ev_new hd 8 11 (by kernel_rfl) rfl
      have c1 : w'.cell? ⟨g, 2, none⟩ = some (.slice A x.b.length cp) := ((hF.below hb0).below hk.below).cell rfl
      exact stepOk_value rfl (v := .slice A x.b.length cp) (by go_simp) rfl
    · obtain ⟨v9, e9, q9, rfl⟩ := hk.ev_new hd 9 12 (by kernel_rfl) rfl
      refine stepOk_enter rfl (f := 195) (args := #[.slice A x.b.length cp]) (by go_simp) ?_
      refine (Words_made (w := w') ((hS.step hb0).step hk.below) rfl rfl rfl (by omega)).mono ?_
      rintro e w5 ⟨q, c, rfl, hq, hB5⟩
      exact ⟨_, rfl, ⟨q, c, rfl, hq.lower (Nat.le_trans hsz0 hk.below.size)⟩, hB5⟩
  · intro a1 w' hbw hp
    obtain ⟨v0, p0, v1, p1, v2, p2, v3, p3, v4, p4, v5, p5, v6, p6, v7, p7, v8, p8, v9, p9, v10, p10, rfl⟩ := hp
    simp only [wordsFacts] at p0 p1 p2 p3 p4 p5 p6 p7 p8 p9 p10
    subst p0 p1 p2 p3 p4 p5 p6 p8 p9
    obtain ⟨q1, rfl, hF1⟩ := p7
    obtain ⟨q2, c2, rfl, hF2⟩ := p10
    have hB0 := Below.then_ hB1 hbw
    simp only [List.drop_succ_cons, List.drop_zero, Act.put, List.setIfInBounds_toArray, List.set_cons_succ, List.set_cons_zero]
    go_wp2_with (at_builtin; refine wpList_app32 rfl (.tmp 10) (.tmp 13) rfl (some ⟨q1, 0, none⟩) q2 2 2 ((x.b.length + 3) / 4) c2 (headC x.t x.b.length) (words x.b) w rfl rfl hF1 hF2.sees (by rw [len_words]) (by omega) hB0 ?_; intro B c w2 hF3 hB3)
    go_ret
    exact ⟨B, c, rfl, hF3, hB3⟩
set_option maxRecDepth 100000 in
theorem other_any (x : Co) (hx : x.Ok) (A : Option Addr) (cp : Nat) : Calls Try.prog 132 #[.agg (coL x A cp).toArray] w fun e w' => e = .returned (.int .i64 (x.other : Int)) ∧ Below w.heap.size w w' := by
  by_cases h1 : x.s = -1
  · have q1 : (x.s == -1) = true := by simp; exact h1
    have e0 : (x.other : Int) = 0 := by simp [Co.other, h1]
    rw [e0]
    clear hx
    go_enter Try.func132, Try.ntmps132
    go_wp2_with (with_reducible refine wpList_box (o := ⟨some 1, _, _, _, _, _⟩) rfl (.tmp 0) 206 rfl (coL x A cp) rfl 3 rfl (by decide) ?_; intro g w1 hg1 hF hB1; have x0 : w1.cell? ⟨g, 0, none⟩ = some (.int .i64 x.s) := hF.cell rfl)
    go_ret
    exact ⟨rfl, hB1⟩
  · have q1 : (x.s == -1) = false := by simp; exact h1
    have e0 := (Co.other_of hx h1).1
    have ew : IntKind.i64.wrap (1 - x.s) = 1 - x.s := wrapI _ (by rcases hx.s with e | e | e <;> omega) (by rcases hx.s with e | e | e <;> omega)
    rw [e0]
    clear hx e0
    go_enter Try.func132, Try.ntmps132
    go_wp2_with (with_reducible refine wpList_box (o := ⟨some 1, _, _, _, _, _⟩) rfl (.tmp 0) 206 rfl (coL x A cp) rfl 3 rfl (by decide) ?_; intro g w1 hg1 hF hB1; have x0 : w1.cell? ⟨g, 0, none⟩ = some (.int .i64 x.s) := hF.cell rfl)
    go_ret
    exact ⟨rfl, hB1⟩
end
end Go.Proofs.Ytpdfalgjmeagjaa
namespace Go.Proofs.Ytpdfalgjmeagjaa
open Go.RowKit
set_option linter.unusedVariables false

def ceObj (c d : Nat) (x : Co) (A : Option Addr) (cp : Nat) (over : Bool) : List Value := [.pointer (some ⟨c, 0, none⟩), .pointer (some ⟨d, 0, none⟩), .int .i64 x.s, .int .i64 (x.t : Int), .slice A x.b.length cp, .bool over]
/-- A cell of a drive of two sectors, from the sector f of its flash on; x is what is known. -/
structure CeAt (base : Nat) (w : World) (c d p b f : Nat) (S : Fl) (x : Co) (over : Bool) : Prop where
  dr : DrAt base w d p b f 2 S
  row : ∃ A cp, Fresh base 208 w (some ⟨c, 0, none⟩) 6 6 (ceObj c d x A cp over) ∧ Fresh base 5 w A x.b.length cp (cb x.b)
  ok : x.Ok
section
variable {w w' : World} {base c d p b f : Nat} {over : Bool} {S S' : Fl} {x x' : Co}
theorem CeAt.below (h : CeAt base w c d p b f S x over) (y : Below w.heap.size w w') : CeAt base w' c d p b f S x over := by
  obtain ⟨A, cp, h1, h2⟩ := h.row
  exact ⟨h.dr.below y, ⟨A, cp, h1.below y, h2.below y⟩, h.ok⟩
theorem CeAt.lt (h : CeAt base w c d p b f S x over) : c < w.heap.size ∧ base ≤ c := by
  obtain ⟨A, cp, h1, -⟩ := h.row
  exact ⟨h1.lt_size, h1.block.2⟩
theorem CeAt.cd (h : CeAt base w c d p b f S x over) : c ≠ d := fun e => by
  obtain ⟨A, cp, h1, -⟩ := h.row
  have h1 := h1.block.1
  have h2 := h.dr.obj.block.1
  rw [e, h2] at h1
  simp at h1
theorem CeAt.cp_ (h : CeAt base w c d p b f S x over) : c ≠ p := fun e => by
  obtain ⟨A, cp, h1, -⟩ := h.row
  have h1 := h1.block.1
  have h2 := h.dr.nor.obj.block.1
  rw [e, h2] at h1
  simp at h1
theorem CeAt.cb_ (h : CeAt base w c d p b f S x over) : c ≠ b := fun e => by
  obtain ⟨A, cp, h1, -⟩ := h.row
  have h1 := h1.block.1
  have h2 := h.dr.nor.row.block.1
  rw [e, h2] at h1
  simp at h1
/-- Where what was made lies. -/
theorem Fresh.at_lt {w : World} {m n c g : Nat} {e : TypeId} {A : Option Addr} {xs : List Value} (h : Fresh m e w A n c xs) (hA : A = some ⟨g, 0, none⟩) : m ≤ g ∧ g < w.heap.size := by
  subst hA
  rcases h.2 with ⟨h1, _⟩ | ⟨g', cap, cur, h1, h2, h3, _⟩
  · cases h1
  · simp at h1
    obtain ⟨rfl, -⟩ := h1
    exact ⟨h2, (Array.getElem?_eq_some_iff.1 h3).1⟩
/-- Bytes lie in no block of another type. -/
theorem Fresh.unlike2 {w w' : World} {B B2 B3 p b n c k k2 : Nat} {T1 T2 T3 : TypeId} {A : Option Addr} {xs ys zs : List Value} (h1 : Fresh B T1 w A n c xs) (h2 : Fresh B2 T2 w (some ⟨p, 0, none⟩) k k ys) (h3 : Fresh B3 T3 w (some ⟨b, 0, none⟩) k2 k2 zs) (hne : T1 ≠ T2) (hne3 : T1 ≠ T3) (y : But p b w w') : Fresh B T1 w' A n c xs := by
  refine ⟨h1.1, ?_⟩
  rcases h1.2 with hn | ⟨g', cap, cur, hv, hb, hg, rest⟩
  · exact .inl hn
  · have e1 : g' ≠ p := fun e => by
      subst e
      have h4 := h2.block.1
      rw [hg] at h4
      simp at h4
      exact hne h4.2
    have e2 : g' ≠ b := fun e => by
      subst e
      have h4 := h3.block.1
      rw [hg] at h4
      simp at h4
      exact hne3 h4.2
    exact .inr ⟨g', cap, cur, hv, hb, (y.keep g' (Array.getElem?_eq_some_iff.1 hg).1 e1 e2).trans hg, rest⟩
/-- The flash is another one; the cell stays. -/
theorem CeAt.turn (h : CeAt base w c d p b f S x over) (y : But p b w w') (hD : DrAt base w' d p b f 2 S') : CeAt base w' c d p b f S' x over := by
  have hcp := h.cp_
  have hcb := h.cb_
  obtain ⟨A, cp, h1, h2⟩ := h.row
  exact ⟨hD, ⟨A, cp, h1.but y hcp hcb, h2.unlike2 h.dr.nor.obj h.dr.nor.row (by decide) (by decide) y⟩, h.ok⟩
/-- Another block is written; the cell stays. -/
theorem CeAt.other {g : Nat} (h : CeAt base w c d p b f S x over) (y : But g g w w') (h1 : p ≠ g) (h2 : b ≠ g) (h3 : d ≠ g) (h4 : c ≠ g) {B T k : Nat} {xs : List Value} (hg : Fresh B T w (some ⟨g, 0, none⟩) k k xs) (hT : 5 ≠ T) : CeAt base w' c d p b f S x over := by
  obtain ⟨A, cp, r1, r2⟩ := h.row
  exact ⟨h.dr.other6 y h1 h2 h3, ⟨A, cp, r1.but y h4 h4, r2.unlike2 hg hg hT hT y⟩, h.ok⟩
theorem CeAt.setOver (h : CeAt base w c d p b f S x over) (over' : Bool) : CeAt base (w.setCell ⟨c, 5, none⟩ (.bool over')) c d p b f S x over' ∧ But c c w (w.setCell ⟨c, 5, none⟩ (.bool over')) := by
  have hb : But c c w (w.setCell ⟨c, 5, none⟩ (.bool over')) := But.set c c c 5 _ (.inl rfl)
  have q1 := h.cp_
  have q2 := h.cb_
  have q3 := h.cd
  obtain ⟨A, cp, r1, r2⟩ := h.row
  exact ⟨⟨h.dr.other6 hb (Ne.symm q1) (Ne.symm q2) (Ne.symm q3), ⟨A, cp, r1.store 5 (.bool over'), r2.unlike2 r1 r1 (by decide) (by decide) hb⟩, h.ok⟩, hb⟩
/-- Something else is known. -/
theorem CeAt.setKnown (h : CeAt base w c d p b f S x over) {A : Option Addr} {cp : Nat} (hx : x'.Ok) (hA : Fresh base 5 w A x'.b.length cp (cb x'.b)) (hF : Fresh base 208 w' (some ⟨c, 0, none⟩) 6 6 (ceObj c d x' A cp over)) (h1 : w'.os = w.os) (h2 : w'.tape = w.tape) (h3 : w'.output = w.output) (h4 : w.heap.size ≤ w'.heap.size) (h5 : ∀ k, k ≠ c → w'.heap[k]? = w.heap[k]?) : CeAt base w' c d p b f S x' over ∧ But c c w w' := by
  have hb : But c c w w' := ⟨h1, h2, h3, h4, fun k _ hk _ => h5 k hk⟩
  have q1 := h.cp_
  have q2 := h.cb_
  have q3 := h.cd
  obtain ⟨B, cq, r1, r2⟩ := h.row
  exact ⟨⟨h.dr.other6 hb (Ne.symm q1) (Ne.symm q2) (Ne.symm q3), ⟨A, cp, hF, hA.unlike2 r1 r1 (by decide) (by decide) hb⟩, hx⟩, hb⟩
theorem run_cell_ (c : Nat) (w : World) : (binOp .eql 92 (.pointer (some ⟨c, 0, none⟩)) (.pointer (some ⟨c, 0, none⟩))).run Try.prog w = .ok (.bool true) w := by
  obtain ⟨j, hj⟩ : ∃ j, Try.prog.info? 208 = some j := Option.isSome_iff_exists.1 (by kernel_rfl)
  exact run_eql_ptr_same w (te := 208) ⟨c, 0, none⟩ (by kernel_rfl) hj
theorem isCell_any (h : CeAt base w c d p b f S x over) : Calls Try.prog 131 #[.pointer (some ⟨c, 0, none⟩)] w fun e w' => e = .returned (.bool true) ∧ w' = w := by
  obtain ⟨A, cp, h1, -⟩ := h.row
  have c0 : w.cell? ⟨c, 0, none⟩ = some (.pointer (some ⟨c, 0, none⟩)) := h1.cell rfl
  have hq := run_cell_ c w
  go_enter Try.func131, Try.ntmps131
  go_wp2_with fail
  go_ret
  exact ⟨rfl, rfl⟩
theorem COver_any (h : CeAt base w c d p b f S x over) : Calls Try.prog 65 #[.pointer (some ⟨c, 0, none⟩)] w fun e w' => e = .returned (.bool over) ∧ w' = w := by
  obtain ⟨A, cp, h1, -⟩ := h.row
  have c5 : w.cell? ⟨c, 5, none⟩ = some (.bool over) := h1.cell rfl
  go_enter Try.func65, Try.ntmps65
  go_wp2_with fail
  refine (isCell_any h).mono ?_
  rintro e w1 ⟨rfl, rfl⟩
  go_wp2_with fail
  go_ret
  exact ⟨rfl, rfl⟩

def zero3 : List Value := [.int .i64 0, .int .i64 0, .slice none 0 0]
/-- The two of look, of which so many are there. -/
def arrC (x y : Co) (A B : Option Addr) (cp cq : Nat) : Nat → List Value
  | 0 => zero3 ++ zero3
  | 1 => coL x A cp ++ zero3
  | _ => coL x A cp ++ coL y B cq
set_option maxHeartbeats 2000000 in
set_option maxRecDepth 100000 in
theorem look_yes (h : CeAt base w c d p b f S x over) (hd : S.down = false) (hbase : base ≤ w.heap.size) (z : Co) (hz : S.clook f = z) :
    Calls Try.prog 130 #[.pointer (some ⟨c, 0, none⟩)] w fun e w' => e = .returned (.int .i64 0) ∧ CeAt base w' c d p b f S z over ∧ But c c w w' := by
  obtain ⟨X, hX⟩ : ∃ X, coOf 0 (secC (S.sec f 0)) = X := ⟨_, rfl⟩
  obtain ⟨Y, hY⟩ : ∃ Y, coOf 1 (secC (S.sec f 1)) = Y := ⟨_, rfl⟩
  have hz2 : newC X Y = z := by rw [← hX, ← hY]; exact hz
  have hXo : X.Ok := by rw [← hX]; exact coOf_ok 0 (by omega) _
  have hYo : Y.Ok := by rw [← hY]; exact coOf_ok 1 (by omega) _
  have HZ := Lib.hid (And.intro hz2 (And.intro hXo hYo))
  have HD := Lib.hid hd
  have HX := Lib.hid hX
  have HY := Lib.hid hY
  clear hz hz2 hXo hYo hd hX hY
  go_enter Try.func130, Try.ntmps130
  go_wp2_with (with_reducible refine wpList_alloc (o := ⟨some 3, _, _, _, _, _⟩) rfl 252 rfl (zero3 ++ zero3) (by kernel_rfl) 6 rfl (by decide) ?_; intro gl w1 hgl hFl hBl)
  go_loopw [7] (fun i wr => ∃ (j : Nat) (A B : Option Addr) (cp cq : Nat), j ≤ 2 ∧ i = .int .i64 (j : Int) ∧ Fresh w.heap.size 252 wr (some ⟨gl, 0, none⟩) 6 6 (arrC X Y A B cp cq j) ∧ (1 ≤ j → Fresh w.heap.size 5 wr A X.b.length cp (cb X.b)) ∧ (2 ≤ j → Fresh w.heap.size 5 wr B Y.b.length cq (cb Y.b)) ∧ Below w.heap.size w wr) (fun i _ => 2 - (intOf i).toNat)
  case atStart => exact ⟨0, none, none, 0, 0, by omega, rfl, hFl, fun h => absurd h (by omega), fun h => absurd h (by omega), hBl⟩
  case round =>
    obtain ⟨j, A, B, cp, cq, hj, rfl, hL, hA, hB, hW⟩ := hrel
    have hT := h.below hW
    obtain ⟨K, ck, hrow, hk⟩ := hT.row
    have ct1 : wr.cell? ⟨c, 1, none⟩ = some (.pointer (some ⟨d, 0, none⟩)) := hrow.cell rfl
    clear hFl hBl
    rcases (show j = 0 ∨ j = 1 ∨ j = 2 by omega) with rfl | rfl | rfl
    · have hRd := dRead_at hT.dr HD.out 0 64 (by omega)
      obtain ⟨L, hL0⟩ : ∃ L, S.at_ f 0 64 = L := ⟨_, rfl⟩
      have hLl : L.length = 64 := by rw [← hL0]; exact hT.dr.at_len (by omega)
      rw [hL0] at hRd
      have HW := Lib.hid (fun (w' : World) (G : Nat) (hs : Sees w' w'.heap.size (some ⟨G, 0, none⟩) (cw L)) => whole_any 0 (by omega) G L hs hLl X (by rw [← hL0]; exact HX.out))
      clear hL0 hLl
      go_wp2_with fail
      refine hRd.mono ?_
      rintro e w2 ⟨G, rfl, hG, hB2⟩
      clear hRd
      go_wp2_with fail
      refine (HW.out w2 G hG.sees).mono ?_
      rintro e w3 ⟨A', cp', rfl, hA', hB3⟩
      have hB23 := Below.then_ hB2 hB3
      have hW3 := Below.then_ hW hB23
      have hL3 := hL.below hB23
      have hWs := Nat.le_trans hW.size hB2.size
      clear hG hB2 hB3
      go_wp2_with (with_reducible refine wpList_store rfl rfl (.tmp 27) (.tmp 26) 206 rfl gl 0 w.heap.size 252 6 (arrC X Y A B cp cq 0) (coL X A' cp') rfl rfl 3 rfl (by kernel_rfl) hL3 (by omega) (coL_one _ _ _) w hW3 hgl ?_; intro w4 hF4 hB4 hoth4 hz4)
      have hA4 := (hA'.lower hWs).unlike hL3 (by decide) hoth4
      go_roundw
      case rel => exact ⟨1, A', none, cp', 0, by omega, rfl, hF4, fun _ => hA4, fun h => absurd h (by omega), hB4⟩
      case measure => simp [intOf]
    · have hRd := dRead_at hT.dr HD.out 64 64 (by omega)
      obtain ⟨L, hL0⟩ : ∃ L, S.at_ f 64 64 = L := ⟨_, rfl⟩
      have hLl : L.length = 64 := by rw [← hL0]; exact hT.dr.at_len (by omega)
      rw [hL0] at hRd
      have HW := Lib.hid (fun (w' : World) (G : Nat) (hs : Sees w' w'.heap.size (some ⟨G, 0, none⟩) (cw L)) => whole_any 1 (by omega) G L hs hLl Y (by rw [← hL0]; exact HY.out))
      clear hL0 hLl
      go_wp2_with fail
      refine hRd.mono ?_
      rintro e w2 ⟨G, rfl, hG, hB2⟩
      clear hRd
      go_wp2_with fail
      refine (HW.out w2 G hG.sees).mono ?_
      rintro e w3 ⟨A', cp', rfl, hA', hB3⟩
      have hB23 := Below.then_ hB2 hB3
      have hW3 := Below.then_ hW hB23
      have hL3 := hL.below hB23
      have hA3 := (hA (by omega)).below hB23
      have hWs := Nat.le_trans hW.size hB2.size
      clear hG hB2 hB3
      go_wp2_with (with_reducible refine wpList_store rfl rfl (.tmp 27) (.tmp 26) 206 rfl gl 3 w.heap.size 252 6 (arrC X Y A B cp cq 1) (coL Y A' cp') rfl rfl 3 rfl (by kernel_rfl) hL3 (by omega) (coL_one _ _ _) w hW3 hgl ?_; intro w4 hF4 hB4 hoth4 hz4)
      have hA4 := (hA'.lower hWs).unlike hL3 (by decide) hoth4
      have hA5 := hA3.unlike hL3 (by decide) hoth4
      go_roundw
      case rel => exact ⟨2, A, A', cp, cp', by omega, rfl, hF4, fun _ => hA5, fun _ => hA4, hB4⟩
      case measure => simp [intOf]
    · have hX2 := hA (by omega)
      have hY2 := hB (by omega)
      have s0 : Sees wr wr.heap.size (some ⟨gl, 0, none⟩) (coL X A cp) := by
        have := Sees.of_fresh hL 0 3
        exact this
      have s1 : Sees wr wr.heap.size (some ⟨gl, 3, none⟩) (coL Y B cq) := by
        have := Sees.of_fresh hL 3 3
        exact this
      obtain ⟨hz, hXo, hYo⟩ := HZ.out
      have HN := Lib.hid (newer_any (w := wr) X Y hXo hYo A B cp cq)
      have hzo : z.Ok := by rw [← hz]; exact newC_ok hXo hYo
      have HZO := Lib.hid hzo
      rw [hz] at HN
      clear hz hXo hYo hzo hA hB
      go_wp2_with (first
        | (with_reducible refine wpList_load (o := ⟨some 31, _, _, _, _, _⟩) rfl (.tmp 30) 206 rfl gl 0 _ rfl (coL X A cp) 3 rfl (by kernel_rfl) s0 ?_)
        | (with_reducible refine wpList_load (o := ⟨some 33, _, _, _, _, _⟩) rfl (.tmp 32) 206 rfl gl 3 _ rfl (coL Y B cq) 3 rfl (by kernel_rfl) s1 ?_))
      refine HN.out.mono ?_
      rintro e w2 ⟨hor, hB2⟩
      have hres : ∃ D cd, e = .returned (.agg (coL z D cd).toArray) ∧ Fresh w.heap.size 5 w2 D z.b.length cd (cb z.b) := by
        rcases hor with ⟨rfl, rfl⟩ | ⟨rfl, rfl⟩
        · exact ⟨A, cp, rfl, hX2.below hB2⟩
        · exact ⟨B, cq, rfl, hY2.below hB2⟩
      obtain ⟨D, cd, rfl, hD⟩ := hres
      have hT2 := hT.below hB2
      have hrow2 := hrow.below hB2
      have hW2 := Below.then_ hW hB2
      clear hor HN s0 s1 hX2 hY2 hL hT hrow hk hB2
      go_wp2_with (with_reducible refine wpList_storeN rfl rfl (.tmp 36) (.tmp 34) 206 rfl c 2 base 208 6 (ceObj c d x K ck over) (coL z D cd) rfl rfl 3 rfl (by kernel_rfl) hrow2 (by omega) (coL_one _ _ _) ?_; intro w4 hF4 k1 k2 k3 k4 k5)
      obtain ⟨r1, r2⟩ := hT2.setKnown HZO.out (hD.lower hbase) hF4 k1 k2 k3 k4 k5
      go_ret
      exact ⟨rfl, r1, (But.of_below hW2).then_ r2⟩
set_option maxRecDepth 100000 in
theorem look_no (h : CeAt base w c d p b f S x over) (hd : S.down = true) :
    Calls Try.prog 130 #[.pointer (some ⟨c, 0, none⟩)] w fun e w' => e = .returned (.int .i64 40) ∧ Below w.heap.size w w' := by
  have HD := Lib.hid hd
  clear hd
  go_enter Try.func130, Try.ntmps130
  go_wp2_with (with_reducible refine wpList_alloc (o := ⟨some 3, _, _, _, _, _⟩) rfl 252 rfl (zero3 ++ zero3) (by kernel_rfl) 6 rfl (by decide) ?_; intro gl w1 hgl hFl hBl)
  go_loopw [7] (fun i wr => i = .int .i64 0 ∧ wr = w1) (fun i _ => 0)
  case atStart => exact ⟨rfl, rfl⟩
  case round =>
    obtain ⟨rfl, rfl⟩ := hrel
    have hT := h.below hBl
    obtain ⟨K, ck, hrow, hk⟩ := hT.row
    have ct1 : wr.cell? ⟨c, 1, none⟩ = some (.pointer (some ⟨d, 0, none⟩)) := hrow.cell rfl
    have hRd := dRead_no hT.dr 0 64 (by omega) (.inr HD.out)
    rw [show readErr S 2 0 64 = 40 from rfl] at hRd
    go_wp2_with fail
    refine hRd.mono ?_
    rintro e w2 ⟨rfl, rfl⟩
    go_wp2_with fail
    go_ret
    exact ⟨rfl, hBl⟩
end
end Go.Proofs.Ytpdfalgjmeagjaa
namespace Go.Proofs.Ytpdfalgjmeagjaa
open Go.RowKit
set_option linter.unusedVariables false

theorem isnil8 (A : Option Addr) (n c : Nat) (w : World) : (binOp .eql 27 (.slice A n c) (.slice none 0 0)).run Try.prog w = .ok (.bool A.isNone) w := by
  have he : Try.prog.underlying 27 = some (.slice (Try.prog.elem 27)) := by kernel_rfl
  simp only [binOp]
  simp [Op.equal, Op.maxDepth, Lib.run_equalIn_slice_nil w 9999 27 _ A n c 0 0 he]
set_option maxRecDepth 100000 in
theorem Clone_any (A : Option Addr) (c n : Nat) (l : List UInt8) (w : World) (hs : Sees w w.heap.size A (cb l)) (hl : l.length = n) (hn : n ≤ 1099511627776) :
    Calls Try.prog 133 #[.slice A n c] w (Made8 w n l) := by
  have HL := Lib.hid hl
  cases A with
  | none =>
    obtain rfl : l = [] := by
      cases l with
      | nil => rfl
      | cons a l =>
        obtain ⟨b, o, h, _⟩ := hs (by simp)
        cases h
    obtain rfl : n = 0 := hl.symm
    clear hl
    have hq := isnil8 none 0 c w
    go_enter Try.func133, Try.ntmps133
    go_wp2_with fail
    go_ret
    exact ⟨none, 0, rfl, fresh_nil _ _ _, Below.refl _ _⟩
  | some ad =>
    clear hl
    have hq := isnil8 (some ad) n c w
    go_enter Try.func133, Try.ntmps133
    go_wp2_with (at_builtin; refine wpList_app8 rfl (.tmp 5) (.tmp 6) rfl (some ⟨w.heap.size, 0, none⟩) (some ad) 0 0 n c [] l w rfl rfl (Fresh.new w 5 [] 0 rfl (by decide)) (hs.step (below_alloc _ _)) HL.out (by omega) (below_alloc _ _) ?_; intro A' c' w1 hF1 hB1)
    go_ret
    exact ⟨A', c', rfl, by simpa using hF1, hB1⟩

/-- What a cell tells of. -/
def Fl.ctold (S : Fl) (f : Nat) (x : Co) (over : Bool) : Co := match over, S.down with
  | false, false => S.clook f
  | _, _ => x
def getFacts (g base : Nat) (A : Option Addr) (cp : Nat) (z : Co) (k : Nat) (v : Value) (w : World) : Prop :=
  match k with
  | 0 => v = .pointer (some ⟨g, 2, none⟩)
  | 1 => v = .slice A z.b.length cp
  | 2 => ∃ q c, v = .slice q z.b.length c ∧ Fresh base 5 w q z.b.length c (cb z.b)
  | 3 => v = .pointer (some ⟨g, 0, none⟩)
  | 4 => v = .int .i64 z.s
  | 5 => v = .bool (z.s != -1)
  | 6 => ∃ q c, v = .slice q z.b.length c ∧ Fresh base 5 w q z.b.length c (cb z.b)
  | 7 => v = .bool (z.s != -1)
  | _ => True
theorem getFacts_stab (g base : Nat) (A : Option Addr) (cp : Nat) (z : Co) : ∀ k v w w', Below w.heap.size w w' → getFacts g base A cp z k v w → getFacts g base A cp z k v w' := by
  intro k v w w' hb h
  unfold getFacts at *
  split at h <;> first | exact h | (obtain ⟨q, c, h1, h2⟩ := h; exact ⟨q, c, h1, h2.below hb⟩) | trivial
section
variable {w w' w'' : World} {base c d p b f : Nat} {over : Bool} {S S' : Fl} {x x' z : Co}
/-- Blocks of unlike types are not the same. -/
theorem Fresh.ne {B1 B2 T1 T2 g1 g2 n m : Nat} {xs ys : List Value} (h1 : Fresh B1 T1 w (some ⟨g1, 0, none⟩) n n xs) (h2 : Fresh B2 T2 w (some ⟨g2, 0, none⟩) m m ys) (hT : T1 ≠ T2) : g1 ≠ g2 := fun e => by
  have q1 := h1.block.1
  have q2 := h2.block.1
  rw [e, q2] at q1
  simp at q1
  exact hT q1.2.symm
/-- A block of another type is written; the cell stays. -/
theorem CeAt.aside {g B T k : Nat} {xs : List Value} (h : CeAt base w c d p b f S x over) (hg : Fresh B T w (some ⟨g, 0, none⟩) k k xs) (t1 : 173 ≠ T) (t2 : 175 ≠ T) (t3 : 184 ≠ T) (t4 : 208 ≠ T) (t5 : 5 ≠ T) (y : But g g w w') : CeAt base w' c d p b f S x over := by
  obtain ⟨A, cp, r1, r2⟩ := h.row
  exact h.other y (h.dr.nor.obj.ne hg t1) (h.dr.nor.row.ne hg t2) (h.dr.obj.ne hg t3) (r1.ne hg t4) hg t5
theorem But.fresh {q g : Nat} (x : But q q w w') (hg : w.heap.size ≤ g) (k1 : w''.os = w'.os) (k2 : w''.tape = w'.tape) (k3 : w''.output = w'.output) (k4 : w'.heap.size ≤ w''.heap.size) (k5 : ∀ k, k ≠ g → w''.heap[k]? = w'.heap[k]?) : But q q w w'' :=
  ⟨k1.trans x.os, k2.trans x.tape, k3.trans x.output, Nat.le_trans x.size k4, fun k h1 h2 h3 => (k5 k (by omega)).trans (x.keep k h1 h2 h3)⟩
set_option maxHeartbeats 1000000 in
set_option maxRecDepth 100000 in
theorem told_any (h : CeAt base w c d p b f S x over) (hbase : base ≤ w.heap.size) (z : Co) (hz : S.ctold f x over = z) :
    Calls Try.prog 135 #[.pointer (some ⟨c, 0, none⟩)] w fun e w' => ∃ A cp, e = .returned (.agg (coL z A cp).toArray) ∧ Sees w' w'.heap.size A (cb z.b) ∧ CeAt base w' c d p b f S z over ∧ But c c w w' := by
  have hI := fun (w' : World) (y : CeAt base w' c d p b f S x over) => isCell_any y
  have lc := h.lt
  cases over with
  | true =>
    obtain rfl : x = z := hz
    go_enter Try.func135, Try.ntmps135
    go_wp2_with (with_reducible refine wpList_alloc (o := ⟨some 2, _, _, _, _, _⟩) rfl 206 rfl zero3 (by kernel_rfl) 3 rfl (by decide) ?_; intro gl w1 hgl hFl hBl)
    refine (hI w1 (h.below hBl)).mono ?_
    rintro e w2 ⟨rfl, rfl⟩
    have hg := hFl.block.2
    have hT := h.below hBl
    have hC : But c c w w2 := But.of_below hBl
    obtain ⟨K0, ck0, hrow0, hk0⟩ := hT.row
    have c5 : w2.cell? ⟨c, 5, none⟩ = some (.bool true) := hrow0.cell rfl
    obtain ⟨K, ck, hrow, hk⟩ := hT.row
    have sx : Sees w2 w2.heap.size (some ⟨c, 2, none⟩) (coL x K ck) := Sees.of_fresh hrow 2 3
    go_wp2_with (first
      | (with_reducible refine wpList_load (o := ⟨some 17, _, _, _, _, _⟩) rfl (.tmp 16) 206 rfl c 2 _ rfl (coL x K ck) 3 rfl (by kernel_rfl) sx ?_)
      | (with_reducible refine wpList_storeN rfl rfl (.tmp 2) (.tmp 17) 206 rfl gl 0 w.heap.size 206 3 zero3 (coL x K ck) rfl rfl 3 rfl (by kernel_rfl) hFl (by omega) (coL_one _ _ _) ?_; intro w4 hF4 k1 k2 k3 k4 k5))
    refine bodyPost_cell rfl rfl (coL x K ck) 3 rfl (by kernel_rfl) hF4.sees rfl ⟨K, ck, rfl, (hk.unlike hFl (by decide) k5).sees, hT.aside hFl (by decide) (by decide) (by decide) (by decide) (by decide) ⟨k1, k2, k3, k4, fun k _ hk _ => k5 k hk⟩, hC.fresh hg k1 k2 k3 k4 k5⟩
  | false =>
    cases hd : S.down with
    | true =>
      obtain rfl : x = z := by rw [← hz]; unfold Fl.ctold; rw [hd]
      have hLk := fun (w' : World) (y : CeAt base w' c d p b f S x false) => look_no y hd
      clear hz
      go_enter Try.func135, Try.ntmps135
      go_wp2_with (with_reducible refine wpList_alloc (o := ⟨some 2, _, _, _, _, _⟩) rfl 206 rfl zero3 (by kernel_rfl) 3 rfl (by decide) ?_; intro gl w1 hgl hFl hBl)
      refine (hI w1 (h.below hBl)).mono ?_
      rintro e w2 ⟨rfl, rfl⟩
      have hg := hFl.block.2
      have hT0 := h.below hBl
      obtain ⟨K0, ck0, hrow0, hk0⟩ := hT0.row
      have c5 : w2.cell? ⟨c, 5, none⟩ = some (.bool false) := hrow0.cell rfl
      go_wp2_with fail
      refine (hLk w2 hT0).mono ?_
      rintro e w3 ⟨rfl, hB3⟩
      have hT := hT0.below hB3
      replace hFl := hFl.below hB3
      have hC : But c c w w3 := But.of_below (Below.then_ hBl hB3)
      clear hT0 hrow0 hk0 c5 hBl hB3
      obtain ⟨K, ck, hrow, hk⟩ := hT.row
      have sx : Sees w3 w3.heap.size (some ⟨c, 2, none⟩) (coL x K ck) := Sees.of_fresh hrow 2 3
      go_wp2_with (first
        | (with_reducible refine wpList_load (o := ⟨some 17, _, _, _, _, _⟩) rfl (.tmp 16) 206 rfl c 2 _ rfl (coL x K ck) 3 rfl (by kernel_rfl) sx ?_)
        | (with_reducible refine wpList_storeN rfl rfl (.tmp 2) (.tmp 17) 206 rfl gl 0 w.heap.size 206 3 zero3 (coL x K ck) rfl rfl 3 rfl (by kernel_rfl) hFl (by omega) (coL_one _ _ _) ?_; intro w4 hF4 k1 k2 k3 k4 k5))
      refine bodyPost_cell rfl rfl (coL x K ck) 3 rfl (by kernel_rfl) hF4.sees rfl ⟨K, ck, rfl, (hk.unlike hFl (by decide) k5).sees, hT.aside hFl (by decide) (by decide) (by decide) (by decide) (by decide) ⟨k1, k2, k3, k4, fun k _ hk _ => k5 k hk⟩, hC.fresh hg k1 k2 k3 k4 k5⟩
    | false =>
      have hz2 : S.clook f = z := by rw [← hz]; unfold Fl.ctold; rw [hd]
      have hLk := fun (w' : World) (y : CeAt base w' c d p b f S x false) (hb : base ≤ w'.heap.size) => look_yes y hd hb z hz2
      clear hz hz2
      go_enter Try.func135, Try.ntmps135
      go_wp2_with (with_reducible refine wpList_alloc (o := ⟨some 2, _, _, _, _, _⟩) rfl 206 rfl zero3 (by kernel_rfl) 3 rfl (by decide) ?_; intro gl w1 hgl hFl hBl)
      refine (hI w1 (h.below hBl)).mono ?_
      rintro e w2 ⟨rfl, rfl⟩
      have hg := hFl.block.2
      have hT0 := h.below hBl
      obtain ⟨K0, ck0, hrow0, hk0⟩ := hT0.row
      have c5 : w2.cell? ⟨c, 5, none⟩ = some (.bool false) := hrow0.cell rfl
      go_wp2_with fail
      refine (hLk w2 hT0 (Nat.le_trans hbase hBl.size)).mono ?_
      rintro e w3 ⟨rfl, hT, hC3⟩
      replace hFl := hFl.but hC3 (by omega) (by omega)
      have hC : But c c w w3 := (But.of_below hBl).then_ hC3
      clear hT0 hrow0 hk0 c5 hBl hC3
      obtain ⟨K, ck, hrow, hk⟩ := hT.row
      have sx : Sees w3 w3.heap.size (some ⟨c, 2, none⟩) (coL z K ck) := Sees.of_fresh hrow 2 3
      go_wp2_with (first
        | (with_reducible refine wpList_load (o := ⟨some 17, _, _, _, _, _⟩) rfl (.tmp 16) 206 rfl c 2 _ rfl (coL z K ck) 3 rfl (by kernel_rfl) sx ?_)
        | (with_reducible refine wpList_storeN rfl rfl (.tmp 2) (.tmp 17) 206 rfl gl 0 w.heap.size 206 3 zero3 (coL z K ck) rfl rfl 3 rfl (by kernel_rfl) hFl (by omega) (coL_one _ _ _) ?_; intro w4 hF4 k1 k2 k3 k4 k5))
      refine bodyPost_cell rfl rfl (coL z K ck) 3 rfl (by kernel_rfl) hF4.sees rfl ⟨K, ck, rfl, (hk.unlike hFl (by decide) k5).sees, hT.aside hFl (by decide) (by decide) (by decide) (by decide) (by decide) ⟨k1, k2, k3, k4, fun k _ hk _ => k5 k hk⟩, hC.fresh hg k1 k2 k3 k4 k5⟩
theorem CTurn_any (h : CeAt base w c d p b f S x over) (hbase : base ≤ w.heap.size) (z : Co) (hz : S.ctold f x over = z) :
    Calls Try.prog 53 #[.pointer (some ⟨c, 0, none⟩)] w fun e w' => e = .returned (.int .i64 (z.t : Int)) ∧ CeAt base w' c d p b f S z over ∧ But c c w w' := by
  go_enter Try.func53, Try.ntmps53
  go_wp2_with fail
  refine (told_any h hbase z hz).mono ?_
  rintro e w1 ⟨A, cp, rfl, hs, hT, hC⟩
  have hf : (Instr.field 206 (.agg (coL z A cp).toArray) 1).run Try.prog w1 = .ok (.int .i64 (z.t : Int)) w1 := by kernel_rfl
  go_wp2_with fail
  go_ret
  exact ⟨rfl, hT, hC⟩
set_option maxHeartbeats 2000000 in
set_option maxRecDepth 100000 in
theorem Get_new (h : CeAt base w c d p b f S x over) (hbase : base ≤ w.heap.size) (z : Co) (hz : S.ctold f x over = z) :
    Calls Try.prog 52 #[.pointer (some ⟨c, 0, none⟩)] w fun e w' => ∃ A cp m, e = .returned (.tuple #[.slice A z.b.length cp, .bool (z.s != -1)]) ∧ w.heap.size ≤ m ∧ Fresh m 5 w' A z.b.length cp (cb z.b) ∧ (∃ K ck, Fresh base 208 w' (some ⟨c, 0, none⟩) 6 6 (ceObj c d z K ck over) ∧ Fresh base 5 w' K z.b.length ck (cb z.b) ∧ ∀ g, K = some ⟨g, 0, none⟩ → g < m) ∧ CeAt base w' c d p b f S z over ∧ But c c w w' := by
  go_enter Try.func52, Try.ntmps52
  go_wp2_with fail
  refine (told_any h hbase z hz).mono ?_
  rintro e w1 ⟨A, cp, rfl, hs, hT, hC⟩
  have hzb := hT.ok.b
  go_wp2_with (first
    | (with_reducible refine wpList_alloc (o := ⟨some 4, _, _, _, _, _⟩) rfl 206 rfl zero3 (by kernel_rfl) 3 rfl (by decide) ?_; intro g w2 hg hF2 hB2)
    | (with_reducible refine wpList_store rfl rfl (.tmp 4) (.tmp 6) 206 rfl g 0 w1.heap.size 206 3 zero3 (coL z A cp) rfl rfl 3 rfl (by kernel_rfl) hF2 (by omega) (coL_one _ _ _) w1 hB2 hg ?_; intro w3 hF hB3 hoth3 hz3))
  have hS := hs.step hB3
  have hC3 := hC.then_ (But.of_below hB3)
  have hT3 := hT.below hB3
  obtain ⟨K, ck, kr, kb⟩ := hT3.row
  (try simp only [Act.put, List.setIfInBounds_toArray, List.set_cons_succ, List.set_cons_zero])
  refine region_all_end (getFacts g w3.heap.size A cp z) (by kernel_rfl) (by kernel_rfl) (getFacts_stab _ _ _ _ _) ?_ ?_
  · intro w0 hb0
    have hsz0 : w3.heap.size ≤ w0.heap.size := hb0.size
    refine ⟨?_, ?_, ?_, ?_, ?_, ?_, ?_, ?_, trivial⟩
    all_goals intro listed a1 w' hk hd
    · have f4_ : a1.eval (.tmp 4) = .pointer (some ⟨g, 0, none⟩) := hk.ev_old 4 (by kernel_rfl)
      have g4_ : a1.tmps[4]?.getD undef = .pointer (some ⟨g, 0, none⟩) := by simpa [Act.eval] using f4_
      exact stepOk_value rfl (v := .pointer (some ⟨g, 2, none⟩)) (by go_simp) rfl
    · obtain ⟨v0, e0, q0, rfl⟩ := hk.ev_new hd 0 7 (by kernel_rfl) rfl
      have c1 : w'.cell? ⟨g, 2, none⟩ = some (.slice A z.b.length cp) := ((hF.below hb0).below hk.below).cell rfl
      exact stepOk_value rfl (v := .slice A z.b.length cp) (by go_simp) rfl
    · obtain ⟨v1, e1, q1, rfl⟩ := hk.ev_new hd 1 8 (by kernel_rfl) rfl
      refine stepOk_enter rfl (f := 133) (args := #[.slice A z.b.length cp]) (by go_simp) ?_
      refine (Clone_any A cp z.b.length z.b w' ((hS.step hb0).step hk.below) rfl (by omega)).mono ?_
      rintro e w5 ⟨q, c, rfl, hq, hB5⟩
      exact ⟨_, rfl, ⟨q, c, rfl, hq.lower (Nat.le_trans hsz0 hk.below.size)⟩, hB5⟩
    · have f4_ : a1.eval (.tmp 4) = .pointer (some ⟨g, 0, none⟩) := hk.ev_old 4 (by kernel_rfl)
      have g4_ : a1.tmps[4]?.getD undef = .pointer (some ⟨g, 0, none⟩) := by simpa [Act.eval] using f4_
      exact stepOk_value rfl (v := .pointer (some ⟨g, 0, none⟩)) (by go_simp) rfl
    · obtain ⟨v3, e3, q3, rfl⟩ := hk.ev_new hd 3 10 (by kernel_rfl) rfl
      have c1 : w'.cell? ⟨g, 0, none⟩ = some (.int .i64 z.s) := ((hF.below hb0).below hk.below).cell rfl
      exact stepOk_value rfl (v := .int .i64 z.s) (by go_simp) rfl
    · obtain ⟨v4, e4, q4, rfl⟩ := hk.ev_new hd 4 11 (by kernel_rfl) rfl
      exact stepOk_value rfl (v := .bool (z.s != -1)) (by go_simp) rfl
    · obtain ⟨v2, e2, q2, hv2⟩ := hk.ev_new hd 2 9 (by kernel_rfl) rfl
      exact stepOk_value rfl (v := v2) (by go_simp) hv2
    · obtain ⟨v5, e5, q5, rfl⟩ := hk.ev_new hd 5 12 (by kernel_rfl) rfl
      exact stepOk_value rfl (v := .bool (z.s != -1)) (by go_simp) rfl
  · intro a1 w' hbw hp
    obtain ⟨v0, p0, v1, p1, v2, p2, v3, p3, v4, p4, v5, p5, v6, p6, v7, p7, rfl⟩ := hp
    simp only [getFacts] at p0 p1 p2 p3 p4 p5 p6 p7
    subst p0 p1 p3 p4 p5 p7
    obtain ⟨q1, c1, rfl, hF1⟩ := p2
    obtain ⟨q2, c2, rfl, hF6⟩ := p6
    simp only [Act.put, List.setIfInBounds_toArray, List.set_cons_succ, List.set_cons_zero]
    go_wp2_with fail
    go_ret2
    exact ⟨q2, c2, w3.heap.size, rfl, hC3.size, hF6, ⟨K, ck, kr.below hbw, kb.below hbw, fun g e => (kb.at_lt e).2⟩, hT3.below hbw, hC3.then_ (But.of_below hbw)⟩
theorem Get_any (h : CeAt base w c d p b f S x over) (hbase : base ≤ w.heap.size) (z : Co) (hz : S.ctold f x over = z) :
    Calls Try.prog 52 #[.pointer (some ⟨c, 0, none⟩)] w fun e w' => ∃ A cp, e = .returned (.tuple #[.slice A z.b.length cp, .bool (z.s != -1)]) ∧ Fresh w.heap.size 5 w' A z.b.length cp (cb z.b) ∧ CeAt base w' c d p b f S z over ∧ But c c w w' :=
  (Get_new h hbase z hz).mono fun e w' ⟨A, cp, m, h1, h2, h3, _, h4, h5⟩ => ⟨A, cp, h1, h3.lower h2, h4, h5⟩
end
end Go.Proofs.Ytpdfalgjmeagjaa
