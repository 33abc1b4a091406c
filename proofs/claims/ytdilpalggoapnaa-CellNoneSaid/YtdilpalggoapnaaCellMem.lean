/-
  What a cell's sector has, read off its words: the calls whole, newer and other.
-/
import Derived.Test.YtdilpalggoapnaaBut3
import Derived.Test.YtdilpalggoapnaaCellPure
import Derived.Test.YtdilpalggoapnaaCalls
import Derived.Test.YtdilpalggoapnaaQCall
namespace Go.Proofs.Ytdilpalggoapnaa
open Go.RowKit
set_option linter.unusedVariables false

/-- The cells of what is there. -/
def coL (x : Co) (A : Option Addr) (cp : Nat) : List Value := [.int .i64 x.s, .int .i64 (x.t : Int), .slice A x.b.length cp]
theorem coL_one (x : Co) (A : Option Addr) (cp : Nat) : ∀ u ∈ coL x A cp, u.oneCell' = true := by
  intro u hu
  simp only [coL, List.mem_cons, List.not_mem_nil, or_false] at hu
  rcases hu with rfl | rfl | rfl <;> rfl
theorem cut_words (g : Nat) (w : World) : (Instr.slice 50 (.slice (some ⟨g, 0, none⟩) 64 64) (some (.int .i64 2)) (some (.int .i64 63)) none).run Try.prog w = .ok (.slice (some ⟨g, 2, none⟩) 61 62) w := by
  have hz : (sizeOf (Try.prog.elem 50)).run Try.prog w = .ok 1 w := by kernel_rfl
  have he : Try.prog.underlying 50 = some (.slice (Try.prog.elem 50)) := by kernel_rfl
  rw [run_slice_lh w 50 _ 64 64 he .i64 .i64 2 63 (by omega) (by omega) (by omega), hz]
  simp [Result.andThen, sliced, Addr.add]
/-- What lies in a block of another type stays. -/
theorem Fresh.unlike {w w' : World} {B B2 g n c k : Nat} {T1 T2 : TypeId} {A : Option Addr} {xs ys : List Value} (h1 : Fresh B T1 w A n c xs) (h2 : Fresh B2 T2 w (some ⟨g, 0, none⟩) k k ys) (hne : T1 ≠ T2) (hk : ∀ j, j ≠ g → w'.heap[j]? = w.heap[j]?) : Fresh B T1 w' A n c xs := by
  refine ⟨h1.1, ?_⟩
  rcases h1.2 with hn | ⟨g', cap, cur, hv, hb, hg, rest⟩
  · exact .inl hn
  · refine .inr ⟨g', cap, cur, hv, hb, ?_, rest⟩
    have hne' : g' ≠ g := fun e => by
      subst e
      have h3 := h2.block.1
      rw [hg] at h3
      simp at h3
      exact hne h3.2
    rw [hk g' hne', hg]
section
variable {w : World}
set_option maxHeartbeats 1000000 in
set_option maxRecDepth 100000 in
theorem whole_any (i : Nat) (hi : i < 2) (G : Nat) (L : List UInt32) (hs : Sees w w.heap.size (some ⟨G, 0, none⟩) (cw L)) (hl : L.length = 64) (x : Co) (hx : coOf i (secC L) = x) :
    Calls Try.prog 127 #[.int .i64 (i : Int), .slice (some ⟨G, 0, none⟩) 64 64] w fun e w' => ∃ A cp, e = .returned (.agg (coL x A cp).toArray) ∧ Fresh w.heap.size 5 w' A x.b.length cp (cb x.b) ∧ Below w.heap.size w w' := by
  have HS := Lib.hid hs
  obtain ⟨g0, o0, e0, hg, t, HT, ht, hct⟩ := hs.word hl (show 0 < 64 by omega)
  obtain ⟨g1, o1, e1, -, n, HN, hn, hcn⟩ := hs.word hl (show 1 < 64 by omega)
  obtain ⟨g2, o2, e2, -, z, HZ, hz, hcz⟩ := hs.word hl (show 63 < 64 by omega)
  obtain ⟨rfl, rfl⟩ : G = g0 ∧ 0 = o0 := by simpa using e0
  obtain ⟨rfl, rfl⟩ : G = g1 ∧ 0 = o1 := by simpa using e1
  obtain ⟨rfl, rfl⟩ : G = g2 ∧ 0 = o2 := by simpa using e2
  clear e0 e1 e2 hs
  rw [Nat.zero_add] at hct hcn hcz
  obtain ⟨r, hr⟩ : ∃ r, L = t :: n :: r := by
    match L, hl, HT.out, HN.out with
    | a :: b :: r, _, h1, h2 =>
      simp at h1 h2
      exact ⟨r, by rw [h1, h2]⟩
  have hz' : r[61]? = some z := by have := HZ.out; rw [hr] at this; simpa using this
  have hsec : secC L = if z = 0 ∧ t.toNat ≤ 2147483648 ∧ n.toNat ≤ 244 then some (t.toNat, (bytesOf (r.take 61)).take n.toNat) else none := by
    rw [hr]
    simp only [secC, hz', Option.some.injEq]
  have none_ : secC L = none → x = ⟨-1, 0, []⟩ := fun h => by rw [← hx, h]; rfl
  have hz0 : z = 0 ↔ (z.toNat : Int) = 0 := by
    constructor
    · intro h; rw [h]; rfl
    · intro h; exact UInt32.toNat_inj.1 (by rw [show (0 : UInt32).toNat = 0 from rfl]; omega)
  by_cases h1 : (z.toNat : Int) = 0
  · have q1 : ((z.toNat : Int) == 0) = true := by simp; omega
    by_cases h2 : t.toNat ≤ 2147483648
    · have q2 : decide ((2147483648 : Int) < (t.toNat : Int)) = false := by simp; omega
      by_cases h3 : n.toNat ≤ 244
      · have q3 : decide ((244 : Int) < (n.toNat : Int)) = false := by simp; omega
        rw [if_pos ⟨hz0.2 h1, h2, h3⟩] at hsec
        rw [hsec] at hx
        subst hx
        have hrl : r.length = 62 := by rw [hr] at hl; simpa using hl
        have hgb : getBytes (r.take 61) (n.toNat : Int) = ((bytesOf (r.take 61)).take n.toNat, 0) := getBytes_some _ _ (by rw [List.length_take, hrl]; omega)
        have hbl : ((bytesOf (r.take 61)).take n.toNat).length = n.toNat := by rw [List.length_take, len_bytesOf, List.length_take, hrl]; omega
        have hcut := fun w => cut_words G w
        have hsr : Sees w w.heap.size (some ⟨G, 2, none⟩) (cw (r.take 61)) := by
          have h := (HS.out.drop_ 2).take_ 61
          rw [Nat.zero_add, hr] at h
          simpa [cw] using h
        have hB := fun (w' : World) (x : Below w.heap.size w w') => Bytes_told (c := 62) hgb (hsr.step x) (by rw [List.length_take, hrl]) hbl (by omega)
        generalize hbs : (bytesOf (r.take 61)).take n.toNat = bs at hB hbl
        have HB := Lib.hid hB
        have HBL := Lib.hid hbl
        clear hB hbl hsr hgb hrl hsec none_ hz0 HT HN HZ hz' hr HS
        go_enter Try.func127, Try.ntmps127
        go_wp2_with (with_reducible refine wpList_alloc (o := ⟨some 4, _, _, _, _, _⟩) rfl 95 rfl [.int .i64 0, .int .i64 0, .slice none 0 0] (by kernel_rfl) 3 rfl (by decide) ?_; intro gx w1 hgx hFx hBx; have cz1 := (hBx.cell (p := ⟨G, 63, none⟩) hg).trans hcz; have ct1 := (hBx.cell (p := ⟨G, 0, none⟩) hg).trans hct; have cn1 := (hBx.cell (p := ⟨G, 1, none⟩) hg).trans hcn)
        refine region_qcall 6 (by kernel_rfl) (by kernel_rfl) ?_
        simp only [List.take_succ_cons, List.take_zero, List.drop_succ_cons, List.drop_zero]
        repeat (go_big_quiet_step (fail))
        refine wpQuiet_nil ?_
        rintro _ ⟨nq, rfl⟩
        have hBq := below_drewN' hBx nq
        go_wp2_with fail
        refine (HB.out _ hBq).mono ?_
        rintro e w2 ⟨A, cp, rfl, hF2, hB2⟩
        have hFx2 := (hFx.below (below_drewN' (Below.refl _ _) nq)).below hB2
        go_wp2_with fail
        simp only [onEnd]
        repeat (go_big_quiet_step (fail))
        refine wpQuiet_nil ?_
        rintro _ ⟨nr, rfl⟩
        have hdr := below_drewN' (Below.refl w2.heap.size w2) nr
        have hFx3 := hFx2.below hdr
        have hF3 := hF2.below hdr
        have hB3 := Below.then_ (Below.then_ hBq hB2) hdr
        have hB3a : w.heap.size ≤ (w1.drewN nq).heap.size := hBq.size
        have ct3 := (hB3.cell (p := ⟨G, 0, none⟩) hg).trans hct
        revert hFx3 hF3 hB3 ct3
        generalize w2.drewN nr = w3
        intro hFx3 hF3 hB3 ct3
        clear hB2 hBq hdr hF2 hFx2 HB hcut
        go_wp2_with (with_reducible refine wpList_store rfl rfl (.tmp 4) (.tmp 40) 95 rfl gx 0 w.heap.size 95 3 [.int .i64 0, .int .i64 0, .slice none 0 0] [.int .i64 (i : Int), .int .i64 (t.toNat : Int), .slice A n.toNat cp] rfl rfl 3 rfl (by kernel_rfl) hFx3 (by omega) (allOne_out rfl) w hB3 hgx ?_; intro w4 hF4 hB4 hoth4 hz4)
        refine bodyPost_cell rfl rfl [.int .i64 (i : Int), .int .i64 (t.toNat : Int), .slice A n.toNat cp] 3 rfl (by kernel_rfl) hF4.sees rfl ⟨A, cp, by simp only [coL, coOf, HBL.out], ?_, hB4⟩
        simp only [coOf, HBL.out]
        exact (hF3.lower hB3a).unlike hFx3 (by decide) hoth4
      · have q3 : decide ((244 : Int) < (n.toNat : Int)) = true := by simp; omega
        obtain rfl := none_ (by rw [hsec, if_neg (fun h => h3 h.2.2)])
        clear hx hsec none_ hz0 HT HN HZ hz' hr HS
        go_enter Try.func127, Try.ntmps127
        go_wp2_with (first
          | (with_reducible refine wpList_alloc (o := ⟨some 4, _, _, _, _, _⟩) rfl 95 rfl [.int .i64 0, .int .i64 0, .slice none 0 0] (by kernel_rfl) 3 rfl (by decide) ?_; intro gx w1 hgx hFx hBx; have cz1 := (hBx.cell (p := ⟨G, 63, none⟩) hg).trans hcz; have ct1 := (hBx.cell (p := ⟨G, 0, none⟩) hg).trans hct; have cn1 := (hBx.cell (p := ⟨G, 1, none⟩) hg).trans hcn)
          | (with_reducible refine wpList_store rfl rfl (.tmp 4) (.tmp 23) 95 rfl gx 0 w.heap.size 95 3 [.int .i64 0, .int .i64 0, .slice none 0 0] [.int .i64 (-1), .int .i64 0, .slice none 0 0] rfl rfl 3 rfl (by kernel_rfl) hFx (by omega) (allOne_out rfl) w hBx hgx ?_; intro w2 hF2 hB2 hoth2 hz2))
        refine bodyPost_cell rfl rfl [.int .i64 (-1), .int .i64 0, .slice none 0 0] 3 rfl (by kernel_rfl) hF2.sees rfl ⟨none, 0, rfl, fresh_nil _ _ _, hB2⟩
    · have q2 : decide ((2147483648 : Int) < (t.toNat : Int)) = true := by simp; omega
      obtain rfl := none_ (by rw [hsec, if_neg (fun h => h2 h.2.1)])
      clear hx hsec none_ hz0 HT HN HZ hz' hr HS
      go_enter Try.func127, Try.ntmps127
      go_wp2_with (first
        | (with_reducible refine wpList_alloc (o := ⟨some 4, _, _, _, _, _⟩) rfl 95 rfl [.int .i64 0, .int .i64 0, .slice none 0 0] (by kernel_rfl) 3 rfl (by decide) ?_; intro gx w1 hgx hFx hBx; have cz1 := (hBx.cell (p := ⟨G, 63, none⟩) hg).trans hcz; have ct1 := (hBx.cell (p := ⟨G, 0, none⟩) hg).trans hct; have cn1 := (hBx.cell (p := ⟨G, 1, none⟩) hg).trans hcn)
        | (with_reducible refine wpList_store rfl rfl (.tmp 4) (.tmp 23) 95 rfl gx 0 w.heap.size 95 3 [.int .i64 0, .int .i64 0, .slice none 0 0] [.int .i64 (-1), .int .i64 0, .slice none 0 0] rfl rfl 3 rfl (by kernel_rfl) hFx (by omega) (allOne_out rfl) w hBx hgx ?_; intro w2 hF2 hB2 hoth2 hz2))
      refine bodyPost_cell rfl rfl [.int .i64 (-1), .int .i64 0, .slice none 0 0] 3 rfl (by kernel_rfl) hF2.sees rfl ⟨none, 0, rfl, fresh_nil _ _ _, hB2⟩
  · have q1 : ((z.toNat : Int) == 0) = false := by simp; omega
    obtain rfl := none_ (by rw [hsec, if_neg (fun h => h1 (hz0.1 h.1))])
    clear hx hsec none_ hz0 HT HN HZ hz' hr HS
    go_enter Try.func127, Try.ntmps127
    go_wp2_with (first
      | (with_reducible refine wpList_alloc (o := ⟨some 4, _, _, _, _, _⟩) rfl 95 rfl [.int .i64 0, .int .i64 0, .slice none 0 0] (by kernel_rfl) 3 rfl (by decide) ?_; intro gx w1 hgx hFx hBx; have cz1 := (hBx.cell (p := ⟨G, 63, none⟩) hg).trans hcz; have ct1 := (hBx.cell (p := ⟨G, 0, none⟩) hg).trans hct; have cn1 := (hBx.cell (p := ⟨G, 1, none⟩) hg).trans hcn)
      | (with_reducible refine wpList_store rfl rfl (.tmp 4) (.tmp 23) 95 rfl gx 0 w.heap.size 95 3 [.int .i64 0, .int .i64 0, .slice none 0 0] [.int .i64 (-1), .int .i64 0, .slice none 0 0] rfl rfl 3 rfl (by kernel_rfl) hFx (by omega) (allOne_out rfl) w hBx hgx ?_; intro w2 hF2 hB2 hoth2 hz2))
    refine bodyPost_cell rfl rfl [.int .i64 (-1), .int .i64 0, .slice none 0 0] 3 rfl (by kernel_rfl) hF2.sees rfl ⟨none, 0, rfl, fresh_nil _ _ _, hB2⟩
end
end Go.Proofs.Ytdilpalggoapnaa
