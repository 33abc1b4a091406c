/-
  An area over whatever words: it is opened, or emptied; what is appended stands behind all that was told: over a flash as plain data. And what is known of an argument that is a slice of slices of words.
-/
import Derived.Test.YthigepkcgijbbaaAreaLaw
import Derived.Test.YthigepkcgijbbaaOc
import Derived.Test.YthigepkcgijbbaaPartsOpen
namespace Go.Proofs.Ythigepkcgijbbaa
open Go.RowKit Go.ChangeShapes Go.WideShapes
set_option linter.unusedVariables false

/-- An area of a flash that is up, over whatever words, that is not being emptied. -/
structure Any8 (S : Fl) (m : Nat) (x : Ar) : Prop where
  live : Live S 1 m
  armed : S.armed = false
  head : S.ws[64]? ≠ some 0
  look : S.alook 1 m = x
theorem any_open {S : Fl} {m : Nat} (hl : Live S 1 m) (ha : S.armed = false) : ∃ T x, S.aopen 1 m = (T, 0, x) ∧ Any8 T m x ∧ T.n = S.n := by
  have hm := hl.many
  by_cases h0 : S.ws[64 * 1]? = some 0
  · obtain ⟨T, r, e1, e2, e3, e4⟩ := aerase_gen hl h0
    have hr : r = 0 := by
      by_cases h : r = 0
      · exact h
      · have := (e4 h).1
        rw [ha] at this
        cases this
    subst hr
    obtain ⟨a1, a2, a3⟩ := e3 rfl
    have hg := good_ones a1 a3
    refine ⟨T, emptyAr m, ?_, ⟨a1, a2.trans ha, by have := hg.head; rw [Nat.mul_one] at this; rw [this]; decide, hg.look⟩, e2⟩
    unfold Fl.aopen
    rw [hl.down]
    simp only
    rw [if_pos h0, e1]
  · refine ⟨S, S.alook 1 m, ?_, ⟨hl, ha, by simpa using h0, rfl⟩, rfl⟩
    unfold Fl.aopen
    rw [hl.down]
    simp only
    rw [if_neg h0]
theorem any_again {S : Fl} {m : Nat} {x : Ar} (h : Any8 S m x) : S.aopen 1 m = (S, 0, x) := by
  have h0 : ¬ S.ws[64 * 1]? = some 0 := by rw [Nat.mul_one]; exact h.head
  unfold Fl.aopen
  rw [h.live.down]
  simp only
  rw [if_neg h0, h.look]
theorem any_append {S : Fl} {m : Nat} {x : Ar} (h : Any8 S m x) (b : List UInt8) (hb : b.length ≤ 300) : ∃ T r x' over', S.aappend 1 m x false b = (T, r, x', over') ∧ T.n = S.n ∧
    ((r = 5 ∧ over' = false ∧ T = S ∧ x' = x) ∨ (r = 50 ∧ over' = true ∧ T = S ∧ x' = x) ∨ (r = 0 ∧ over' = false ∧ x'.L = x.L ++ [b] ∧ x'.torn = x.torn ∧ ∃ y, Any8 T m y ∧ (∃ M, y.L = x.L ++ [b] ++ M) ∧ x.torn ≤ y.torn)) := by
  have hm := h.live.many
  have hn := h.live.n
  have hlw := h.live.len
  have hok : x.Ok (64 * (m - 1)) := by rw [← h.look]; exact alook_ok hn hlw (by omega)
  have hle : x.left ≤ 64 * (m - 1) := by have := hok.many; omega
  have e0 : S.aappend 1 m x false b = if 4096 < b.length then (S, 3, x, false) else if x.left < nW b.length then (S, 5, x, false) else match S.dwrite 1 m ((64 * m - x.left : Nat) : Int) (recW b) with
    | (T, 0) => (T, 0, ⟨x.L ++ [b], x.torn, x.left - nW b.length⟩, false)
    | (T, e + 1) => (T, e + 1, x, true) := rfl
  by_cases hl : x.left < nW b.length
  · exact ⟨S, 5, x, false, by rw [e0, if_neg (by omega), if_pos hl], rfl, .inl ⟨rfl, rfl, rfl, rfl⟩⟩
  · have hlen := len_recW b
    have hw : wordsOk m ((64 * m - x.left : Nat) : Int) ((recW b).length : Int) = true := by simp [wordsOk, hlen]; omega
    cases hs : sets32 (S.at_ 1 (64 * m - x.left) (recW b).length) (recW b) with
    | true =>
      have hd : S.dwrite 1 m ((64 * m - x.left : Nat) : Int) (recW b) = (S, 50) := by
        unfold Fl.dwrite
        rw [hw, h.live.down, Int.toNat_natCast, hs]
      exact ⟨S, 50, x, true, by rw [e0, if_neg (by omega), if_neg hl, hd], rfl, .inr (.inl ⟨rfl, rfl, rfl, rfl⟩)⟩
    | false =>
      obtain ⟨T, hT, hTa⟩ := Fl.prog_up (recW b) S (64 * 1 + (64 * m - x.left)) h.armed
      have hd : S.dwrite 1 m ((64 * m - x.left : Nat) : Int) (recW b) = (T, 0) := by
        unfold Fl.dwrite
        rw [hw, h.live.down, Int.toNat_natCast, hs]
        simp only
        rw [hT]
      obtain ⟨k1, k2, k3⟩ := Fl.prog_keep _ _ _ _ hT
      have hhf := (Fl.prog_half (recW b) S (64 * 1 + (64 * m - x.left))).2
      rw [hT] at hhf
      have hws := Fl.prog_words _ _ _ _ hT (by rw [hlen]; omega) (by unfold Fl.at_ at hs; exact hs)
      have hws2 : T.ws = splice S.ws (64 * 1 + (64 + (64 * (m - 1) - x.left))) (recW b) := by rw [hws]; congr 1; omega
      have hTl : Live T 1 m := ⟨by rw [k2]; exact hn, by rw [k3, k2]; exact hlw, hm, k1.trans h.live.down, hhf.trans h.live.half⟩
      have hroom := room_splice (T := T) hn hlw (show 1 ≤ m by omega) (y := 64 * (m - 1) - x.left) (X := recW b) (by rw [hlen]; omega) hws2
      have hrl := room_len hn hlw (show 1 ≤ m by omega)
      obtain ⟨rest, hrest⟩ : ∃ rest, rest = (S.room 1 m).drop (64 * (m - 1) - x.left + (recW b).length) := ⟨_, rfl⟩
      have hrestl : rest.length = x.left - nW b.length := by rw [hrest, List.length_drop, hrl, hlen]; omega
      have hroom2 : T.room 1 m = (S.room 1 m).take (64 * (m - 1) - x.left) ++ (recW b ++ rest) := by
        rw [hroom, hrest]
        rfl
      have hlook : T.alook 1 m = scan rest (x.L ++ [b]) x.torn := by
        unfold Fl.alook
        rw [hroom2]
        have hx := h.look
        unfold Fl.alook at hx
        have := scan_put hx (recW b ++ rest) (by rw [List.length_append, hlen, hrestl]; omega)
        rw [hrl] at this
        rw [this, scan_words (by omega)]
      obtain ⟨f1, ⟨M, f2, f3⟩, f4⟩ := scan_fits rest.length rest (Nat.le_refl _) (x.L ++ [b]) x.torn
      have hhead : T.ws[64]? ≠ some 0 := by
        rw [hws2, splice_get2 _ _ _ _ (by rw [hlen, hlw]; omega), if_pos (by omega)]
        exact h.head
      exact ⟨T, 0, ⟨x.L ++ [b], x.torn, x.left - nW b.length⟩, false, by rw [e0, if_neg (by omega), if_neg hl, hd], k2, .inr (.inr ⟨rfl, rfl, rfl, rfl, T.alook 1 m, ⟨hTl, hTa, hhead, rfl⟩, ⟨M, by rw [hlook]; exact f2⟩, by rw [hlook]; exact f4⟩)⟩
theorem rewrite_any {S : Fl} {m i : Nat} (h : Live S 1 m) (hg : S.guard = 0) (ha : S.armed = false) (hi : i < m) (l : List UInt32) (hl : l.length ≤ 64) : ∃ T, S.rewrite (1 + (i : Int)) 0 l = (T, 0) ∧ Live T 1 m ∧ T.guard = 0 ∧ T.armed = false ∧ T.n = S.n := by
  have h1 := h.n
  have hpl : S.place (1 + (i : Int)) 0 l.length = true := by simp [Fl.place, Fl.sector]; omega
  have hgd : decide ((1 + (i : Int)) < S.guard) = false := by rw [hg]; simp; omega
  refine ⟨{ S with ws := splice S.ws ((1 + (i : Int)).toNat * 64 + (0 : Int).toNat) l }, ?_, ⟨h.n, ?_, h.many, h.down, h.half⟩, hg, ha, rfl⟩
  · unfold Fl.rewrite
    rw [hpl, hgd]
  · simp only
    rw [length_splice _ _ _ (by rw [h.len]; omega)]
    exact h.len
theorem usedW_take (L : List (List UInt8)) (j : Nat) : usedW (L.take j) ≤ usedW L := by
  have := usedW_append (L.take j) (L.drop j)
  rw [List.take_append_drop] at this
  omega
theorem usedW_step {L : List (List UInt8)} {j : Nat} {b : List UInt8} (h : L[j]? = some b) : usedW (L.take (j + 1)) = usedW (L.take j) + nW b.length := by
  rw [List.take_add_one, h, usedW_append]
  rfl
/-- Words: where they lie. -/
structure Pw where
  A : Option Addr
  m : Nat
  c : Nat
  l : List UInt32
def Pw.cell (p : Pw) : Value := .slice p.A p.m p.c
structure Pw.Ok (p : Pw) (w : World) : Prop where
  sees : Sees w w.heap.size p.A (cw p.l)
  len : p.l.length = p.m
  cap : p.m ≤ p.c
structure WParts (w : World) (A : Option Addr) (n : Nat) (ps : List Pw) : Prop where
  sees : Sees w w.heap.size A (ps.map Pw.cell)
  len : ps.length = n
  ok : ∀ p ∈ ps, p.Ok w
theorem WParts.at_ {w : World} {A : Option Addr} {n k : Nat} {ps : List Pw} (h : WParts w A n ps) (hk : k < n) : ∃ g o, A = some ⟨g, o, none⟩ ∧ ∃ p : Pw, p.Ok w ∧ w.cell? ⟨g, o + k, none⟩ = some (.slice p.A p.m p.c) := by
  have hl := h.len
  obtain ⟨g, o, e, _, hc⟩ := h.sees.at_ (k := k) (by simp; omega)
  refine ⟨g, o, e, ps[k]'(by omega), h.ok _ (List.getElem_mem _), ?_⟩
  rw [hc]
  simp [Pw.cell]
section
variable {H : Type} {enc : TypeId × Value → H} {w : World} {held : Bool}
theorem wparts_of {fuel : Nat} {A : Option Addr} {N c : Nat} {x : DataW H × List MemPlace} (h : DataW.trod enc Try.prog w 0 (fun _ => true) held fuel 118 [.slice A N c] = some x) :
    ∃ ps : List Pw, WParts w A N ps := by
  have hC : Try.prog.cellsOf 50 = 1 := by kernel_rfl
  rcases Deep.open_slice Try.underlying118 h with ⟨hcs, _⟩ | ⟨a, len, cap, m, n, D, Pl, hcs, _, hl, hm, hmm, _, hi⟩
  · simp at hcs
    obtain ⟨rfl, rfl, rfl⟩ := hcs
    exact ⟨[], Sees.nil, rfl, by simp⟩
  · simp at hcs
    obtain ⟨rfl, rfl, rfl⟩ := hcs
    have hlm : N ≤ m := by rw [hmm]; simp; exact hl
    have hp : ∀ i, i < N → ∃ p : Pw, p.Ok w ∧ w.cell? (a.add i) = some p.cell := by
      intro i hiN
      obtain ⟨cs', hc, ht⟩ := hi i (by omega)
      rw [hC] at hc
      obtain ⟨h1, _, hat⟩ := World.cells?_some hc
      match cs', h1 with
      | [v], _ =>
        obtain ⟨A', m', c', b, rfl, hb, hs, hcap, _⟩ := words_slice ht
        refine ⟨⟨A', m', c', b⟩, ⟨hs, hb, hcap⟩, ?_⟩
        have := hat 0 (by omega)
        simpa [Deep.add_add, Pw.cell] using this
    have : ∃ f : Nat → Pw, ∀ i, i < N → (f i).Ok w ∧ w.cell? (a.add i) = some (f i).cell := by
      classical
      exact ⟨fun i => if h : i < N then (hp i h).choose else ⟨none, 0, 0, []⟩, fun i hiN => by simp only [hiN, dif_pos]; exact (hp i hiN).choose_spec⟩
    obtain ⟨f, hf⟩ := this
    refine ⟨(List.range N).map f, fun hpos => ?_, by simp, fun p hpm => ?_⟩
    · have hN : 0 < N := by simpa using hpos
      obtain ⟨b, o, s⟩ := a
      have h0 := (hf 0 hN).2
      have hs : s = none := by simpa [Addr.add] using World.cell?_spot h0
      subst hs
      rw [Addr.add_lit] at h0
      refine ⟨b, o, rfl, World.block_lt_of_cell? _ _ h0, fun j u hu => ?_⟩
      have hjN : j < N := by have := (List.getElem?_eq_some_iff.1 hu).1; simpa using this
      have h2 := (hf j hjN).2
      rw [Addr.add_lit] at h2
      rw [h2]
      simpa [hjN] using hu
    · simp at hpm
      obtain ⟨i, hiN, rfl⟩ := hpm
      exact (hf i hiN).1
end
end Go.Proofs.Ythigepkcgijbbaa
