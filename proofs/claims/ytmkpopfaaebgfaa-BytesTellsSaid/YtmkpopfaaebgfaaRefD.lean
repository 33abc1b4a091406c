/-
  What the document's own Bytes and Words answer (layer 1).
-/
import Derived.Test.YtmkpopfaaebgfaaRefC
import Derived.Test.YtmkpopfaaebgfaaFlashPure
namespace Go.Proofs.Ytmkpopfaaebgfaa
open Go.RowKit
set_option linter.unusedVariables false

theorem told2_nil {w w' : World} {r : Nat} (hB : Below w.heap.size w w') : Told2 w 0 [] r (.returned (.tuple #[.slice none 0 0, .int .i64 (r : Int)])) w' := ⟨none, 0, rfl, fresh_nil _ _ _, hB⟩
theorem bytesOf_take (l : List UInt32) (k : Nat) (x : UInt32) (h : l[k]? = some x) : bytesOf (l.take (k + 1)) = bytesOf (l.take k) ++ wd x.toNat := by
  simp [bytesOf, List.take_add_one, h]

set_option maxRecDepth 100000 in
set_option maxHeartbeats 1000000 in
theorem rBytes_any (A : Option Addr) (c n : Nat) (P : Int) (l : List UInt32) (w : World) (hs : Sees w w.heap.size A (cw l)) (hl : l.length = n) (hn : n ≤ 300) (L : List UInt8) (N r0 : Nat) (hR : getBytes l P = (L, r0)) (hN : L.length = N) :
    Calls Try.prog 29 #[.slice A n c, .int .i64 P] w (Told2 w N L r0) := by
  have HL := Lib.hid hl
  clear hl
  by_cases h0 : P < 0
  · have e : getBytes l P = ([], 2) := by simp [getBytes, h0]
    rw [e] at hR
    simp only [Prod.mk.injEq] at hR
    obtain ⟨rfl, rfl⟩ := hR
    subst hN
    clear e
    go_enter Try.func29, Try.ntmps29
    go_wp2
    go_ret2
    exact told2_nil (Below.refl _ _)
  · obtain ⟨m, rfl⟩ := Int.eq_ofNat_of_zero_le (show 0 ≤ P by omega)
    have hd0 : decide ((m : Int) < 0) = false := by simp
    have HR := Lib.hid hR
    have HN := Lib.hid hN
    clear hR hN
    go_enter Try.func29, Try.ntmps29
    go_wp2_with fail
    go_loopw [6, 7] (fun v i wr => ∃ (k c' : Nat) (A' : Option Addr), k ≤ n ∧ i = .int .i64 k ∧ v = .slice A' (4 * k) c' ∧ Fresh w.heap.size 5 wr A' (4 * k) c' (cb (bytesOf (l.take k))) ∧ Below w.heap.size w wr) (fun _ i _ => n - (intOf i).toNat)
    case atStart => exact ⟨0, 0, none, by omega, rfl, rfl, fresh_nil _ _ _, Below.refl _ _⟩
    case round =>
      obtain ⟨k, c', A', hk, rfl, rfl, hF, hB⟩ := hrel
      have hlk : (bytesOf (l.take k)).length = 4 * k := by rw [len_bytesOf, List.length_take, HL.out]; omega
      have HLK := Lib.hid hlk
      clear hlk
      have hbs := hB.size
      by_cases hlt : k < n
      · obtain ⟨b, o, rfl, hb, x, HX, hx, hc⟩ := (hs.step hB).word HL.out hlt
        go_wp2_with fail
        refine (rWord_any A' c' (4 * k) x.toNat (bytesOf (l.take k)) wr hF.sees HLK.out (by omega) hx).mono ?_
        rintro e w1 ⟨A1, c1, rfl, hF1, hB1⟩
        have hF2 : Fresh w.heap.size 5 w1 A1 (4 * (k + 1)) c1 (cb (bytesOf (l.take (k + 1)))) := by
          rw [bytesOf_take l k x HX.out]
          exact hF1.lower hbs
        have hB2 := Below.then_ hB hB1
        clear hF1 hB1 hc
        go_wp2_with fail
        go_roundw
        case rel => exact ⟨k + 1, c1, A1, by omega, by go_num, rfl, hF2, hB2⟩
        case measure => simp [intOf]; omega
      · have hk' : k = n := by omega
        have hall : l.take k = l := List.take_of_length_le (by rw [HL.out]; omega)
        rw [hall] at hF HLK
        have hcap := hF.cap.1
        by_cases hm : 4 * k < m
        · have e : getBytes l (m : Int) = ([], 10) := getBytes_past l _ (by rw [HL.out]; omega)
          have h := HR.out
          rw [e] at h
          simp only [Prod.mk.injEq] at h
          obtain ⟨rfl, rfl⟩ := h
          have h2 := HN.out
          simp at h2
          subst h2
          clear e hall hk'
          go_wp2_with fail
          go_ret2
          exact told2_nil hB
        · have e : getBytes l (m : Int) = ((bytesOf l).take m, 0) := getBytes_some l m (by rw [HL.out]; omega)
          have h := HR.out
          rw [e] at h
          simp only [Prod.mk.injEq] at h
          obtain ⟨rfl, rfl⟩ := h
          have hlm : ((bytesOf l).take m).length = m := by rw [List.length_take, HLK.out]; omega
          have hmN : m = N := hlm.symm.trans HN.out
          subst hmN
          have HLM := Lib.hid hlm
          have hS := hF.sees.take_ m
          rw [show (cb (bytesOf l)).take m = cb ((bytesOf l).take m) from by simp only [cb, List.map_take]] at hS
          have hcut := fun W => run_cut (w := W) A' (4 * k) c' m (by omega)
          clear e hlm hk' hall
          go_wp2_with fail
          refine (behind_any none A' 0 c' 0 m [] ((bytesOf l).take m) wr Sees.nil hS rfl HLM.out (by omega) (by omega)).mono ?_
          rintro e w2 ⟨A2, c2, rfl, hF2, hB2⟩
          go_wp2_with fail
          go_ret2
          refine ⟨A2, c2, rfl, ?_, Below.then_ hB hB2⟩
          have h := hF2.lower hbs
          simpa using h

end Go.Proofs.Ytmkpopfaaebgfaa
