/-
  What the statements about areas share: an area that was made, whether an area has just those records, and lists that the area's own writing leaves.
-/
import Derived.Test.YtpdfalgjmeagjaaAreas
import Derived.Test.YtpdfalgjmeagjaaSameLists
import Derived.Test.YtpdfalgjmeagjaaDrOpen
namespace Go.Proofs.Ytpdfalgjmeagjaa
open Go.RowKit
set_option linter.unusedVariables false

theorem made_live (n : Nat) (hn : 2 ≤ n) : Live (Fl.made (n + 1) 0) 1 n := ⟨by show 1 + n ≤ n + 1; omega, by simp [Fl.made], hn, rfl, rfl⟩
theorem made_good (n : Nat) (hn : 2 ≤ n) : AGood (Fl.made (n + 1) 0) 1 n (emptyAr n) := good_ones (made_live n hn) fun j _ hj => by
  show (List.replicate (64 * (n + 1)) (4294967295 : UInt32))[64 * 1 + j]? = _
  rw [List.getElem?_replicate, if_pos (by omega)]
section
variable {w w' : World}
set_option maxHeartbeats 1000000 in
set_option maxRecDepth 100000 in
theorem made8_any (n : Nat) (hn : 2 ≤ n) (hn5 : n ≤ 100) (w : World) : Calls Try.prog 67 #[.int .i64 (n : Int)] w fun e w' => ∃ p b d a A c ps, e = .returned (.tuple #[.pointer (some ⟨p, 0, none⟩), .pointer (some ⟨d, 0, none⟩), .pointer (some ⟨a, 0, none⟩), .bool true]) ∧ ArAt w.heap.size w' (some ⟨a, 0, none⟩) a d p b 1 n (Fl.made (n + 1) 0) (emptyAr n) false A c ps ∧ Below w.heap.size w w' := by
  have hop := aopen_good (made_good n hn)
  have HOP := Lib.hid hop
  have HN := Lib.hid hn
  obtain ⟨N, hN⟩ : ∃ N, n + 1 = N := ⟨_, rfl⟩
  have HNN := Lib.hid hN
  have e1 : (n : Int) + 1 = (N : Int) := by omega
  have HE := Lib.hid e1
  have hNb : N ≤ 1024 ∧ 1 ≤ N := by omega
  obtain ⟨hNb1, hNb2⟩ := hNb
  clear hop hn hN e1
  go_enter Try.func67, Try.ntmps67
  go_wp2_with fail
  rw [HE.out]
  refine (New_yes N 0 (by omega) (by omega) (by omega) (by omega)).mono ?_
  rintro e w1 ⟨p, b, rfl, hNr, hB1⟩
  have hbs := hB1.size
  go_wp2_with fail
  refine (Open_yes hNr 1 n (by show 1 + n ≤ N; have := HNN.out; omega) (by have := HN.out; omega) hbs).mono ?_
  rintro e w2 ⟨d, rfl, hD, hB2⟩
  have hB12 := Below.then_ hB1 hB2
  have hbs2 := hB12.size
  have hop2 : (Fl.made N 0).aopen 1 n = (Fl.made N 0, 0, emptyAr n) := by rw [← HNN.out]; exact HOP.out
  go_wp2_with fail
  refine (AOpen_any hD HN.out hbs2 _ _ _ hop2).mono ?_
  rintro e w3 ⟨hB3, ⟨-, a, A, c, ps, rfl, hA, -, -⟩ | ⟨h0, -⟩⟩
  · go_wp2_with fail
    (try simp only [Exit.inBlock, Exit.then])
    refine bodyPost_ret (results_four rfl _ _ _) rfl ?_
    obtain ⟨-, -, q1, q2⟩ := hD.nor.lt
    have hA' : ArAt w.heap.size w3 (some ⟨a, 0, none⟩) a d p b 1 n (Fl.made (n + 1) 0) (emptyAr n) false A c ps := by rw [HNN.out]; exact hA
    exact ⟨p, b, d, a, A, c, ps, rfl, hA', hB12.trans (hB3.below q1 q2 hbs2)⟩
  · exact absurd rfl h0
theorem same8_any {base a d p b f m c : Nat} {A : Option Addr} {over : Bool} {S : Fl} {x : Ar} {ps : List Pb} (h : ArAt base w (some ⟨a, 0, none⟩) a d p b f m S x over A c ps) (hm : m ≤ 10) (B : Option Addr) (n cc : Nat) (qs : List Pb) (hq : Parts w B n qs) (r : Bool) (hr : (x.L == qs.map Pb.l) = r) :
    Calls Try.prog 72 #[.pointer (some ⟨a, 0, none⟩), .slice B n cc] w fun e w' => e = .returned (.bool r) ∧ Below w.heap.size w w' := by
  have hL : x.L.length ≤ 1000 := by have := h.ok.many; omega
  have HR := Lib.hid hr
  have HL := Lib.hid hL
  clear hr hL hm
  go_enter Try.func72, Try.ntmps72
  go_wp2_with fail
  refine (All_any h).mono ?_
  rintro e w1 ⟨A', c', rs, rfl, hRs, hl, hB1⟩
  have hlen : rs.length ≤ 1000 := by rw [← List.length_map (f := Pb.l), hl]; exact HL.out
  have hS := SameLists_any A' B rs.length n c' cc rs qs (rs.map Pb.l) (qs.map Pb.l) hRs.parts (hq.step hB1) rfl rfl r (by rw [hl]; exact HR.out) hlen
  go_wp2_with fail
  refine hS.mono ?_
  rintro e w2 ⟨rfl, hB2⟩
  go_wp2_with fail
  go_ret
  exact ⟨rfl, Below.then_ hB1 hB2⟩

/-! ### Lists that the area's own writing leaves -/
/-- A block that the area does not write. -/
def Apart (a p b : Nat) (q : Option Nat) (k : Nat) : Prop := k ≠ a ∧ k ≠ p ∧ k ≠ b ∧ q ≠ some k
def Aside (a p b : Nat) (q : Option Nat) (w : World) (A : Option Addr) (xs : List Value) : Prop :=
  0 < xs.length → ∃ g o, A = some ⟨g, o, none⟩ ∧ g < w.heap.size ∧ Apart a p b q g ∧ ∀ j u, xs[j]? = some u → w.cell? ⟨g, o + j, none⟩ = some u
variable {base a d p b f m c n : Nat} {A B : Option Addr} {q q' : Option Nat} {over : Bool} {S : Fl} {x : Ar} {ps : List Pb} {e : TypeId} {xs : List Value}
theorem Aside.nil : Aside a p b q w A [] := fun h => absurd h (by simp)
theorem Aside.sees (h : Aside a p b q w A xs) : Sees w w.heap.size A xs := fun h0 => by
  obtain ⟨g, o, h1, h2, _, h4⟩ := h h0
  exact ⟨g, o, h1, h2, h4⟩
theorem Aside.but4 (h : Aside a p b q w A xs) (y : But4 a p b q w w') (hq : OwnOr w q q') : Aside a p b q' w' A xs := fun h0 => by
  obtain ⟨g, o, h1, h2, ⟨k1, k2, k3, k4⟩, h4⟩ := h h0
  refine ⟨g, o, h1, Nat.lt_of_lt_of_le h2 y.size, ⟨k1, k2, k3, fun e => ?_⟩, fun j u hj => ?_⟩
  · rcases hq with hq | hq
    · exact k4 (hq ▸ e)
    · have := hq g e
      omega
  · rw [World.cell?_of_block (y.keep g h2 k1 k2 k3 k4)]
    exact h4 j u hj
theorem Aside.below (h : Aside a p b q w A xs) (y : Below w.heap.size w w') : Aside a p b q w' A xs := h.but4 (.of_below y a p b q) (.inl rfl)
theorem Aside.but (h : Aside a p b q w A xs) (y : But p b w w') : Aside a p b q w' A xs := h.but4 (.of_but y a q) (.inl rfl)
theorem Aside.off (h : Aside a p b q w A xs) : Off p b w A xs := fun w' y => (h.but y).sees
/-- What lies below the area's blocks. -/
theorem Aside.of_low (hA : ArAt base w (some ⟨a, 0, none⟩) a d p b f m S x over A c ps) (hb : base ≤ w.heap.size) (hs : Sees w base B xs) : Aside a p b (Value.slice A ps.length c).ownBlock w B xs := fun h0 => by
  obtain ⟨g, o, h1, h2, h3⟩ := hs h0
  obtain ⟨-, -, k2, k3⟩ := hA.dr.nor.lt
  refine ⟨g, o, h1, by omega, ⟨by have := hA.lt.2; omega, by omega, by omega, fun e => ?_⟩, h3⟩
  have := hA.own g e
  omega
/-- What lies in a block of another type. -/
theorem Aside.of_type {B2 : Nat} {n2 c2 : Nat} (hA : ArAt base w (some ⟨a, 0, none⟩) a d p b f m S x over A c ps) (hF : Fresh B2 e w B n2 c2 xs) (e1 : e ≠ 225) (e2 : e ≠ 173) (e3 : e ≠ 175) (e4 : e ≠ 27) : Aside a p b (Value.slice A ps.length c).ownBlock w B xs := fun h0 => by
  rcases hF.2 with ⟨_, rfl⟩ | ⟨g, cap, cur, hv, hbg, hg, _, _, _, ht⟩
  · have := hF.len; omega
  · have hown : (Value.slice B n2 c2).ownBlock = some g := by rw [hv]; rfl
    simp at hv
    obtain ⟨rfl, rfl⟩ := hv
    refine ⟨g, 0, rfl, (Array.getElem?_eq_some_iff.1 hg).1, ⟨fun e => hF.far hA.obj e1 (e ▸ hown), fun e => hF.far hA.dr.nor.obj e2 (e ▸ hown), fun e => hF.far hA.dr.nor.row e3 (e ▸ hown), fun e => ?_⟩, fun j u hj => ?_⟩
    · rcases fresh_unlike hF hA.recs.row e4 with h5 | h5
      · rw [h5] at hown; cases hown
      · exact h5 (hown.trans e.symm)
    · obtain ⟨b', o', he, _, hc⟩ := hF.sees h0
      simp at he
      obtain ⟨rfl, rfl⟩ := he
      exact hc j u hj
/-- What lies in a block that was made since. -/
theorem Aside.of_new {B2 : Nat} {n2 c2 : Nat} (hA : ArAt base w (some ⟨a, 0, none⟩) a d p b f m S x over A c ps) (hF : Fresh B2 e w B n2 c2 xs) (hlt : a < B2 ∧ p < B2 ∧ b < B2) (hq : ∀ k, (Value.slice A ps.length c).ownBlock = some k → k < B2) : Aside a p b (Value.slice A ps.length c).ownBlock w B xs := fun h0 => by
  obtain ⟨b', o', he, hlb, hc⟩ := hF.sees h0
  have hb2 : B2 ≤ b' := by
    rcases hF.2 with ⟨_, rfl⟩ | ⟨g, cap, cur, hv, hbg, hg, _⟩
    · have := hF.len; omega
    · simp at hv
      rw [he] at hv
      simp at hv
      omega
  exact ⟨b', o', he, hlb, ⟨by omega, by omega, by omega, fun e => by have := hq b' e; omega⟩, hc⟩
/-- A list of byte strings that the area does not write. -/
structure Lists8 (a p b : Nat) (q : Option Nat) (w : World) (A : Option Addr) (n : Nat) (ps : List Pb) : Prop where
  row : Aside a p b q w A (ps.map Pb.cell)
  len : ps.length = n
  each : ∀ r ∈ ps, Aside a p b q w r.A (cb r.l) ∧ r.l.length = r.m ∧ r.m ≤ r.c
theorem Lists8.parts (h : Lists8 a p b q w A n ps) : Parts w A n ps := ⟨h.row.sees, h.len, fun r hr => ⟨(h.each r hr).1.sees, (h.each r hr).2.1, (h.each r hr).2.2⟩⟩
theorem Lists8.but4 (h : Lists8 a p b q w A n ps) (y : But4 a p b q w w') (hq : OwnOr w q q') : Lists8 a p b q' w' A n ps := ⟨h.row.but4 y hq, h.len, fun r hr => ⟨(h.each r hr).1.but4 y hq, (h.each r hr).2⟩⟩
theorem Lists8.below (h : Lists8 a p b q w A n ps) (y : Below w.heap.size w w') : Lists8 a p b q w' A n ps := h.but4 (.of_below y a p b q) (.inl rfl)
theorem Lists8.nil : Lists8 a p b q w A 0 [] := ⟨Aside.nil, rfl, by simp⟩
end
end Go.Proofs.Ytpdfalgjmeagjaa
