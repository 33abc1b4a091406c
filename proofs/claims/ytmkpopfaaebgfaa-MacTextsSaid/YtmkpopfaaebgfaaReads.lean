/-
  What reads of the statements' package answers: true, where each try reads as it says.
-/
import Derived.Test.YtmkpopfaaebgfaaCalls
namespace Go.Proofs.Ytmkpopfaaebgfaa
open Go.RowKit
set_option linter.unusedVariables false

structure Tr where
  A : Option Addr
  n : Nat
  c : Nat
  p : Int
  x : Nat
  q : Nat
  r : Nat
def Tr.cells (t : Tr) : List Value := [.slice t.A t.n t.c, .int .i64 t.p, .int .u64 (t.x : Int), .int .i64 (t.q : Int), .int .i64 (t.r : Int)]
/-- The try reads as the document says. -/
def Tr.Ok (w : World) (t : Tr) : Prop := ∃ l, Sees w w.heap.size t.A (cb l) ∧ l.length = t.n ∧ t.n ≤ 1099511627776 ∧ getU l t.p = (t.x, t.q, t.r)
def Tries (w : World) (g : Nat) (ts : List Tr) : Prop := g < w.heap.size ∧ ∀ k t, ts[k]? = some t → (∀ j u, t.cells[j]? = some u → w.cell? ⟨g, k * 5 + j, none⟩ = some u) ∧ t.Ok w

theorem Tr.Ok.step {w w' : World} {t : Tr} (h : t.Ok w) (hb : Below w.heap.size w w') : t.Ok w' := by
  obtain ⟨l, h1, h2⟩ := h
  exact ⟨l, h1.step hb, h2⟩
theorem Tries.step {w w' : World} {g : Nat} {ts : List Tr} (h : Tries w g ts) (hb : Below w.heap.size w w') : Tries w' g ts :=
  ⟨Nat.lt_of_lt_of_le h.1 hb.size, fun k t hk => ⟨fun j u hu => (hb.cell (p := ⟨g, k * 5 + j, none⟩) h.1).trans ((h.2 k t hk).1 j u hu), (h.2 k t hk).2.step hb⟩⟩

set_option maxHeartbeats 400000 in
theorem reads_any (g N c : Nat) (ts : List Tr) (w : World) (ht : Tries w g ts) (hl : ts.length = N) (hN : N ≤ 100) :
    Calls Try.prog 105 #[.slice (some ⟨g, 0, none⟩) N c] w fun e w' => e = .returned (.bool true) ∧ Below w.heap.size w w' := by
  have HL := Lib.hid hl
  clear hl
  go_enter Try.func105, Try.ntmps105
  go_wp2
  go_loopw [10] (fun i wr => ∃ k : Nat, k ≤ N ∧ i = .int .i64 k ∧ Below w.heap.size w wr) (fun i _ => N - (intOf i).toNat)
  case atStart => exact ⟨0, by omega, rfl, Below.refl _ _⟩
  case round =>
    obtain ⟨k, hk, rfl, hbr⟩ := hrel
    by_cases hlt : k < N
    · have htr := ht.step hbr
      obtain ⟨⟨A, n, c, p, x, q, r⟩, hx⟩ : ∃ t, ts[k]? = some t := ⟨_, List.getElem?_eq_getElem (by rw [HL.out]; exact hlt)⟩
      obtain ⟨hc, l, h1, h2, h3, h4⟩ := htr.2 k _ hx
      have c0 : wr.cell? ⟨g, k * 5, none⟩ = some _ := hc 0 _ rfl
      have c1 := hc 1 _ rfl
      have c2 := hc 2 _ rfl
      have c3 := hc 3 _ rfl
      have c4 := hc 4 _ rfl
      have H2 := Lib.hid h2
      have H4 := Lib.hid h4
      clear hc h2 h4 hx
      go_wp2_with fail
      have hba := fun o => (Below.refl wr.heap.size wr).alloc (Nat.le_refl _) o
      refine (GetUint_eq H4.out A c n _ (h1.step (hba _)) H2.out h3).mono ?_
      rintro e w1 ⟨rfl, rfl⟩
      have HB := Lib.hid hba
      clear hba
      go_wp2
      go_roundw
      case rel => exact ⟨k + 1, by omega, by go_num, Below.then_ hbr (HB.out _)⟩
      case measure => simp [intOf]; omega
    · go_wp2
      go_ret
      exact ⟨rfl, hbr⟩
end Go.Proofs.Ytmkpopfaaebgfaa
