/-
  What the statements' own helpers answer of flashes: a sector's words, whether two read the same, a flash behind some calls.
-/
import Derived.Test.YtpdfalgjmeagjaaNorOp
namespace Go.Proofs.Ytpdfalgjmeagjaa
open Go.RowKit
set_option linter.unusedVariables false

theorem sees_word1 (w : World) (e : TypeId) (C : Array Value) (c : UInt32) (hC : C = (cw [c]).toArray) : Sees (w.alloc (.cells C e)) (w.alloc (.cells C e)).heap.size (some ⟨w.heap.size, 0, none⟩) (cw [c]) := fun _ => by
  subst hC
  exact ⟨w.heap.size, 0, rfl, by simp, fun j u hu => by rw [Nat.zero_add, World.cell?_alloc_mark]; simpa using hu⟩
theorem Fl.prog_n : ∀ (l : List UInt32) (S : Fl) (j : Nat), (S.prog j l).1.n = S.n ∧ (S.prog j l).1.half = S.half
  | [], S, j => ⟨rfl, rfl⟩
  | x :: l, S, j => by
    have h1 : S.step.1.n = S.n ∧ S.step.1.half = S.half := by
      obtain ⟨n, ws, g, ar, l, d, hf⟩ := S
      cases ar
      · exact ⟨rfl, rfl⟩
      · cases l <;> exact ⟨rfl, rfl⟩
    rw [Fl.prog]
    split
    · rename_i T hT
      rw [hT] at h1
      have h2 := Fl.prog_n l (T.put1 j x) (j + 1)
      exact ⟨h2.1.trans h1.1, h2.2.trans h1.2⟩
    · rename_i T hT
      rw [hT] at h1
      exact h1
theorem Fl.does_ok (S : Fl) (o : Oc) (h : S.Ok) : (S.does o).1.n = S.n ∧ (S.does o).1.Ok := by
  have same : ∀ T : Fl, T.n = S.n → T.half = S.half → T.n = S.n ∧ T.Ok := fun T h1 h2 => ⟨h1, by unfold Fl.Ok at *; rw [h1, h2]; exact h⟩
  unfold Fl.does
  split
  · unfold Fl.program
    split
    · exact same _ rfl rfl
    · exact same _ rfl rfl
    · have h1 := Fl.prog_n (o.l.take 70) S (o.s.toNat * 64 + o.a.toNat)
      split
      · rename_i T hT
        rw [hT] at h1
        exact same _ h1.1 h1.2
      · rename_i T hT
        rw [hT] at h1
        exact same _ h1.1 h1.2
  · unfold Fl.erase
    split
    · exact same _ rfl rfl
    · exact same _ rfl rfl
    · rename_i hd hs
      have h1 : S.step.1.n = S.n ∧ S.step.1.half = S.half := by
        obtain ⟨n, ws, g, ar, l, d, hf⟩ := S
        cases ar
        · exact ⟨rfl, rfl⟩
        · cases l <;> exact ⟨rfl, rfl⟩
      split
      · rename_i T hT
        rw [hT] at h1
        exact same _ h1.1 h1.2
      · rename_i T hT
        rw [hT] at h1
        refine ⟨h1.1, .inr ?_⟩
        simp [Fl.sector] at hs
        obtain ⟨σ, hσ⟩ := Int.eq_ofNat_of_zero_le hs.1
        exact ⟨σ, hσ, by show σ < T.n; rw [h1.1]; omega⟩
  · unfold Fl.rewrite
    split <;> exact same _ rfl rfl
  · unfold Fl.arm
    split <;> exact same _ rfl rfl
  · unfold Fl.crash
    split <;> exact ⟨rfl, .inl rfl⟩
  · exact ⟨rfl, h⟩
/-- The words of a sector that can be read. -/
def Fl.words (S : Fl) (s : Nat) : List UInt32 := match S.down, decide (s < S.n) with
  | false, true => (S.ws.drop (s * 64)).take 64
  | _, _ => []
section
variable {w : World} {base p b : Nat} {S : Fl}
set_option maxHeartbeats 1000000 in
set_option maxRecDepth 100000 in
theorem Sector_any (h : NorAt base w p b S) (s N : Nat) (hs : s < 100000) (hN : (S.words s).length = N) : Calls Try.prog 102 #[.pointer (some ⟨p, 0, none⟩), .int .i64 (s : Int)] w (Made32 w N (S.words s)) := by
  obtain ⟨L, hL⟩ : ∃ L, S.words s = L := ⟨_, rfl⟩
  rw [hL] at hN ⊢
  have hlen := Lib.hid h.len
  by_cases hu : S.down = false ∧ s < S.n
  · have hL2 : L = (S.ws.drop (s * 64)).take 64 := by rw [← hL]; simp [Fl.words, hu]
    have hN2 : N = 64 := by
      rw [← hN, hL2, List.length_take, List.length_drop, hlen.out]
      have := hu.2
      omega
    have hrd : ∀ k : Nat, k < 64 → ∃ y : UInt32, L[k]? = some y ∧ S.read (s : Int) (k : Int) = (y, 0) := by
      intro k hk
      have h1 : s * 64 + k < S.ws.length := by rw [hlen.out]; have := hu.2; omega
      refine ⟨S.ws[s * 64 + k], ?_, ?_⟩
      · rw [hL2, List.getElem?_take, if_pos hk, List.getElem?_drop, List.getElem?_eq_getElem h1]
      · have hpl : S.place (s : Int) (k : Int) 1 = true := by simp [Fl.place, Fl.sector]; omega
        simp only [Fl.read, hu.1, hpl, Int.toNat_natCast]
        rw [List.getD_eq_getElem?_getD, List.getElem?_eq_getElem h1]
        rfl
    have HR := Lib.hid hrd
    have HN := Lib.hid hN
    subst hN2
    clear hrd hu hL hL2 hN
    go_enter Try.func102, Try.ntmps102
    go_wp2_with fail
    go_loopw [5, 6] (fun v i wr => ∃ (k : Nat) (A : Option Addr) (c : Nat), k ≤ 64 ∧ i = .int .i64 k ∧ v = .slice A k c ∧ Fresh w.heap.size 22 wr A k c (cw (L.take k)) ∧ Below w.heap.size w wr) (fun _ i _ => 64 - (intOf i).toNat)
    case atStart => exact ⟨0, none, 0, by omega, rfl, rfl, by simpa using fresh_nil w.heap.size 22 w, Below.refl _ _⟩
    case round =>
      obtain ⟨k, A, c, hk, rfl, rfl, hF, hB⟩ := hrel
      by_cases hlt : k < 64
      · obtain ⟨y, hy, hry⟩ := HR.out k hlt
        have HY := Lib.hid hy
        clear hy
        go_wp2_with fail
        refine (Read_any (h.below hB) (s : Int) (k : Int) (by omega) y 0 hry).mono ?_
        rintro e w1 ⟨rfl, rfl⟩
        have hbs := hB.size
        go_wp2_with (at_builtin; refine wpList_app32 rfl (.tmp 22) (.tmp 24) rfl A (some ⟨w1.heap.size, 0, none⟩) k c 1 1 (L.take k) [y] w rfl rfl (hF.below ((Below.refl _ _).alloc (Nat.le_refl _) _)) (sees_word1 w1 22 _ _ rfl) rfl (by omega) (hB.alloc hbs _) ?_; intro A' c' w2 hF2 hB2)
        have e2 : L.take k ++ [y] = L.take (k + 1) := by rw [List.take_add_one, HY.out]; rfl
        rw [e2] at hF2
        go_roundw
        case rel => exact ⟨k + 1, A', c', by omega, by go_num, rfl, hF2, hB2⟩
        case measure => simp [intOf]; omega
      · obtain rfl : k = 64 := by omega
        rw [List.take_of_length_le (by rw [HN.out]; exact Nat.le_refl _)] at hF
        go_wp2_with fail
        go_ret
        exact ⟨A, c, rfl, hF, hB⟩
  · have hL2 : L = [] := by
      rw [← hL]
      unfold Fl.words
      cases hd : S.down
      · have h2 : ¬ s < S.n := fun q => hu ⟨hd, q⟩
        simp [h2]
      · rfl
    have hrd : ∃ r : Nat, r ≠ 0 ∧ r < 100 ∧ S.read (s : Int) 0 = (0, r) := by
      unfold Fl.read
      cases hd : S.down
      · have h2 : ¬ s < S.n := fun q => hu ⟨hd, q⟩
        have hpl : S.place (s : Int) 0 1 = false := by simp [Fl.place, Fl.sector]; omega
        rw [hpl]
        exact ⟨2, by omega, by omega, rfl⟩
      · exact ⟨40, by omega, by omega, rfl⟩
    obtain ⟨r, hr0, hr1, hr⟩ := hrd
    subst hL2
    subst hN
    have hne : (((r : Nat) : Int) == 0) = false := by simp; exact hr0
    have hne2 : (((r : Nat) : Int) != 0) = true := by simp; exact hr0
    clear hu hL
    go_enter Try.func102, Try.ntmps102
    go_wp2_with fail
    go_loopw [5, 6] (fun v i wr => i = .int .i64 0 ∧ v = .slice none 0 0 ∧ wr = w) (fun _ i _ => 0)
    case atStart => exact ⟨rfl, rfl, rfl⟩
    case round =>
      obtain ⟨rfl, rfl, rfl⟩ := hrel
      go_wp2_with fail
      refine (Read_any h (s : Int) 0 (by omega) 0 r hr).mono ?_
      rintro e w1 ⟨rfl, rfl⟩
      go_wp2_with fail
      go_ret
      exact ⟨none, 0, rfl, fresh_nil _ _ _, Below.refl _ _⟩
/-- A flash behind some calls. -/
def Fl.run (S : Fl) : List Oc → Fl
  | [] => S
  | o :: l => (S.does o).1.run l
theorem Fl.run_ok : ∀ (l : List Oc) (S : Fl), S.Ok → (S.run l).n = S.n ∧ (S.run l).Ok
  | [], S, h => ⟨rfl, h⟩
  | o :: l, S, h => by
    have h1 := Fl.does_ok S o h
    have h2 := Fl.run_ok l (S.does o).1 h1.2
    exact ⟨h2.1.trans h1.1, h2.2⟩
theorem Fl.run_take (S : Fl) (l : List Oc) (k : Nat) (o : Oc) (h : l[k]? = some o) : S.run (l.take (k + 1)) = ((S.run (l.take k)).does o).1 := by
  rw [List.take_add_one, h]
  generalize l.take k = m
  induction m generalizing S with
  | nil => rfl
  | cons a m ih => exact ih _
abbrev made4 (l : List Oc) : Fl := ((Fl.made 4 2).run (l.take 40)).crash []
set_option maxHeartbeats 1000000 in
set_option maxRecDepth 100000 in
theorem made_any (A : Option Addr) (N c : Nat) (l : List Oc) (hs : Sees w w.heap.size A (ocs l)) (hl : l.length = N) (hok : ∀ o ∈ l, o.Ok w.heap.size w) :
    Calls Try.prog 29 #[.slice A N c] w fun e w' => ∃ p b, e = .returned (.tuple #[.pointer (some ⟨p, 0, none⟩), .bool true]) ∧ NorAt w.heap.size w' p b (made4 l) ∧ Below w.heap.size w w' := by
  have HL := Lib.hid hl
  have HO := Lib.hid hok
  clear hl hok
  go_enter Try.func29, Try.ntmps29
  go_wp2_with fail
  refine (New_yes 4 2 (by omega) (by omega) (by omega) (by omega)).mono ?_
  rintro e w1 ⟨p, b, rfl, hN, hB1⟩
  have hbs := hB1.size
  obtain ⟨hp1, hb1, hp2, hb2⟩ := hN.lt
  go_wp2_with fail
  go_loopw [6] (fun i wr => ∃ k : Nat, k ≤ N ∧ k ≤ 40 ∧ i = .int .i64 k ∧ NorAt w.heap.size wr p b ((Fl.made 4 2).run (l.take k)) ∧ Below w.heap.size w wr) (fun i _ => 41 - (intOf i).toNat)
  case atStart => exact ⟨0, by omega, by omega, rfl, hN, hB1⟩
  case round =>
    obtain ⟨k, hk, hk2, rfl, hT, hB⟩ := hrel
    have hbw := hB.size
    have hRok := (Fl.run_ok (l.take k) (Fl.made 4 2) (.inl rfl)).2
    have fin : k = N ∨ k = 40 → l.take k = l.take 40 := by
      rintro (rfl | rfl)
      · rw [List.take_of_length_le (by rw [HL.out]; exact Nat.le_refl _), List.take_of_length_le (by rw [HL.out]; exact hk2)]
      · rfl
    by_cases hlt : k < N
    · by_cases hlt2 : k < 40
      · obtain ⟨g, o, rfl, hg, x, HX, hx⟩ := (hs.below hB).op HL.out hlt
        have hxo := (HO.out x (List.mem_of_getElem? HX.out)).below hB
        obtain ⟨S2, r, hr⟩ : ∃ S2 r, ((Fl.made 4 2).run (l.take k)).does x = (S2, r) := ⟨_, _, rfl⟩
        have hst := Fl.run_take (Fl.made 4 2) l k x HX.out
        rw [hr] at hst
        have HST := Lib.hid hst
        clear hst fin
        go_wp2_with (with_reducible refine wpList_load (o := ⟨some 25, _, _, _, _, _⟩) rfl (.tmp 24) 169 rfl g (o + k * 5) w.heap.size rfl x.cells 5 rfl (by kernel_rfl) hx ?_)
        refine (does_any hT hRok x hxo hbw S2 r hr).mono ?_
        rintro e w2 ⟨rfl, hT2, hB2⟩
        have hB3 := hB.trans (hB2.below hp2 hb2 hbw)
        go_wp2_with fail
        go_roundw
        case rel => exact ⟨k + 1, by omega, by omega, by go_num, by rw [HST.out]; exact hT2, hB3⟩
        case measure => simp [intOf]; omega
      · have e := fin (.inr (by omega))
        rw [e] at hT hRok
        clear fin e
        go_wp2_with fail
        refine (Crash_any hT hRok none 0 0 [] hbw Sees.nil rfl).mono ?_
        rintro e w2 ⟨rfl, hT2, hB2⟩
        have hB3 := hB.trans (hB2.below hp2 hb2 hbw)
        go_wp2_with fail
        go_ret2
        exact ⟨p, b, rfl, hT2, hB3⟩
    · have e := fin (.inl (by omega))
      rw [e] at hT hRok
      clear fin e
      go_wp2_with fail
      refine (Crash_any hT hRok none 0 0 [] hbw Sees.nil rfl).mono ?_
      rintro e w2 ⟨rfl, hT2, hB2⟩
      have hB3 := hB.trans (hB2.below hp2 hb2 hbw)
      go_wp2_with fail
      go_ret2
      exact ⟨p, b, rfl, hT2, hB3⟩
end
end Go.Proofs.Ytpdfalgjmeagjaa
