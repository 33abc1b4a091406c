/-
  BytesTells returns true for every input, and writes nothing that was there: the walk.
-/
import Derived.Test.YtmkpopfaaebgfaaRefE
import Derived.Test.YtmkpopfaaebgfaaAwake
import Derived.Test.YtmkpopfaaebgfaaRow
namespace Go.Proofs.Ytmkpopfaaebgfaa
open Go.RowKit
set_option linter.unusedVariables false

/-- What is kept through the calls: the bytes and the words, and their copies. -/
structure BT (w0 w : World) (A I B W : Option Addr) (l : List UInt8) (k : List UInt32) : Prop where
  a : Sees w w.heap.size A (cb l)
  i : Sees w w.heap.size I (cb l)
  b : Sees w w.heap.size B (cw k)
  c : Sees w w.heap.size W (cw k)
  be : Below w0.heap.size w0 w
theorem BT.step {w0 w w' : World} {A I B W : Option Addr} {l : List UInt8} {k : List UInt32} (h : BT w0 w A I B W l k) (x : Below w.heap.size w w') : BT w0 w' A I B W l k :=
  ⟨h.a.step x, h.i.step x, h.b.step x, h.c.step x, Below.then_ h.be x⟩
theorem alike8 {w : World} {A B : Option Addr} {n c d : Nat} {l : List UInt8} (hs : Sees w w.heap.size A (cb l)) (ht : Sees w w.heap.size B (cb l)) (hl : l.length = n) :
    Calls Try.prog 27 #[.slice A n c, .slice B n d] w fun e w' => e = .returned (.bool true) ∧ w = w' := by
  refine (SameBytes_any A B c d n n l l w hs ht hl hl).mono ?_
  rintro e w' ⟨rfl, rfl⟩
  exact ⟨by rw [beq_self_eq_true], rfl⟩
theorem alike32 {w : World} {A B : Option Addr} {n c d : Nat} {l : List UInt32} (hs : Sees w w.heap.size A (cw l)) (ht : Sees w w.heap.size B (cw l)) (hl : l.length = n) (hn : n ≤ 1000) :
    Calls Try.prog 30 #[.slice A n c, .slice B n d] w fun e w' => e = .returned (.bool true) ∧ Below w.heap.size w w' := by
  refine (SameWords_any A B c d n n l l w hs ht hl hl (by omega)).mono ?_
  rintro e w' ⟨rfl, q, rfl⟩
  exact ⟨by rw [beq_self_eq_true], below_drewN' (Below.refl _ _) q⟩
theorem tri_is (K : IntKind) {r : Nat × Nat × Nat} {y q s : Nat} (h : r = (y, q, s)) : tri K r = .tuple #[.int K (y : Int), .int .i64 (q : Int), .int .i64 (s : Int)] := by
  subst h
  rfl
set_option maxHeartbeats 8000000 in
set_option maxRecDepth 100000 in
theorem tells_main (x : Nat) (hx : x < 18446744073709551616) (A B : Option Addr) (n c m d : Nat) (P M : Int) (l : List UInt8) (k : List UInt32) (w : World) (hs : Sees w w.heap.size A (cb l)) (ht : Sees w w.heap.size B (cw k)) (hl : l.length = n) (hk : k.length = m) (hc : n ≤ c)
    (hP : P ≤ 9223372036854775807) (hM : M ≤ 9223372036854775807) (hn : n ≤ 1000) (hm : m ≤ 300) :
    Calls Try.prog 3 #[.int .u64 (x : Int), .slice A n c, .int .i64 P, .int .i64 M, .slice B m d] w fun e w' => e = .returned (.bool true) ∧ Below w.heap.size w w' := by
  obtain ⟨⟨y1, q1, r1⟩, hg1⟩ : ∃ t, getU l P = t := ⟨_, rfl⟩
  obtain ⟨⟨y2, q2, r2⟩, hg2⟩ : ∃ t, getW l P = t := ⟨_, rfl⟩
  obtain ⟨⟨L3, q3, r3⟩, hg3⟩ : ∃ t, getB l P M = t := ⟨_, rfl⟩
  obtain ⟨⟨L4, r4⟩, hg4⟩ : ∃ t, getBytes k M = t := ⟨_, rfl⟩
  obtain ⟨N3, hN3⟩ : ∃ N, L3.length = N := ⟨_, rfl⟩
  obtain ⟨N4, hN4⟩ : ∃ N, L4.length = N := ⟨_, rfl⟩
  obtain ⟨N5, hN5⟩ : ∃ N, (n + 3) / 4 = N := ⟨_, rfl⟩
  have hN5' : N5 ≤ 1000 := by omega
  have hlw : (words l).length = N5 := by rw [len_words, hl, hN5]
  obtain ⟨N6, hN6⟩ : ∃ N, n + nd x = N := ⟨_, rfl⟩
  obtain ⟨N7, hN7⟩ : ∃ N, n + 4 = N := ⟨_, rfl⟩
  obtain ⟨N8, hN8⟩ : ∃ N, n + (nd n + n) = N := ⟨_, rfl⟩
  have w32 : IntKind.u32.wrap (x : Int) = ((x % 4294967296 : Nat) : Int) := by rw [IntKind.wrap_u32]; omega
  have hx32 : x % 4294967296 < 4294967296 := Nat.mod_lt _ (by decide)
  obtain ⟨z, hz⟩ : ∃ z, x % 4294967296 = z := ⟨_, rfl⟩
  rw [hz] at w32 hx32
  have HG1 := Lib.hid hg1
  have HG2 := Lib.hid hg2
  have HG3 := Lib.hid hg3
  have HG4 := Lib.hid hg4
  have HN3 := Lib.hid hN3
  have HN4 := Lib.hid hN4
  have HN5 := Lib.hid hN5
  have HN6 := Lib.hid hN6
  have HN7 := Lib.hid hN7
  have HN8 := Lib.hid hN8
  have HLW := Lib.hid hlw
  have HL := Lib.hid hl
  have HK := Lib.hid hk
  have HX := Lib.hid hx
  have HX32 := Lib.hid hx32
  have HP := Lib.hid hP
  have HM := Lib.hid hM
  clear hg1 hg2 hg3 hg4 hN3 hN4 hN5 hN6 hN7 hN8 hlw hl hk hz hx hx32 hP hM
  go_enter Try.func3, Try.ntmps3
  go_wp2_with fail
  refine (CopyBytes_any A c n l w hs HL.out (by omega)).mono ?_
  rintro e w1 ⟨I, cI, rfl, hF1, hB1⟩
  go_wp2_with fail
  refine (CopyWords_any B d m k w1 (ht.step hB1) HK.out (by omega)).mono ?_
  rintro e w2 ⟨V, cV, rfl, hF2, hB2⟩
  have hcI := hF1.cap.1
  have H : BT w w2 A I B V l k := ⟨(hs.step hB1).step hB2, hF1.sees.step hB2, (ht.step hB1).step hB2, hF2.sees, Below.then_ hB1 hB2⟩
  clear hF1 hF2 hB1 hB2 hs ht
  go_wp2_with fail
  refine (GetUint_any I cI n P l w2 H.i HL.out (by omega)).mono ?_
  rintro e w3 ⟨rfl, rfl⟩
  rw [tri_is _ HG1.out]
  go_wp2_with fail
  refine (rGetUint_any A c n P l w2 H.a HL.out hc hn y1 q1 r1 HG1.out).mono ?_
  rintro e w3 ⟨rfl, hB3⟩
  replace H := H.step hB3
  clear hB3
  go_wp2_with fail
  refine (GetWord_any I cI n P l w3 H.i HL.out (by omega)).mono ?_
  rintro e w4 ⟨rfl, rfl⟩
  rw [tri_is _ HG2.out]
  go_wp2_with fail
  refine (rGetWord_any A c n P l w3 H.a HL.out hn HP.out y2 q2 r2 HG2.out).mono ?_
  rintro e w4 ⟨rfl, rfl⟩
  go_wp2_with fail
  refine (GetBlob_told (A := I) (c := cI) (n := n) (N := N3) (q := q3) (r := r3) (p := P) (most := M) (l := l) (L := L3) HG3.out H.i HL.out hcI HN3.out (by omega) HM.out).mono ?_
  rintro e w4 ⟨A4, c4, rfl, hF4, hB4⟩
  replace H := H.step hB4
  clear hB4
  go_wp2_with fail
  refine (rGetBlob_any A c n P M l w4 H.a HL.out hc hn HM.out L3 N3 q3 r3 HG3.out HN3.out).mono ?_
  rintro e w5 ⟨A5, c5, rfl, hF5, hB5⟩
  replace H := H.step hB5
  have S4 := hF4.sees.step hB5
  clear hB5 hF4
  go_wp2_with fail
  refine (alike8 S4 hF5.sees HN3.out).mono ?_
  rintro e w6 ⟨rfl, rfl⟩
  clear S4 hF5
  go_wp2_with fail
  refine (Bytes_told (A := V) (c := cV) (n := m) (N := N4) (r := r4) (p := M) (l := k) (L := L4) HG4.out H.c HK.out HN4.out (by omega)).mono ?_
  rintro e w6 ⟨A6, c6, rfl, hF6, hB6⟩
  replace H := H.step hB6
  clear hB6
  go_wp2_with fail
  refine (rBytes_any B d m M k w6 H.b HK.out hm L4 N4 r4 HG4.out HN4.out).mono ?_
  rintro e w7 ⟨A7, c7, rfl, hF7, hB7⟩
  replace H := H.step hB7
  have S6 := hF6.sees.step hB7
  clear hB7 hF6
  go_wp2_with fail
  refine (alike8 S6 hF7.sees HN4.out).mono ?_
  rintro e w8 ⟨rfl, rfl⟩
  clear S6 hF7
  go_wp2_with fail
  refine (Words_made (A := I) (c := cI) (n := n) (m := N5) (l := l) (L := words l) H.i HL.out HN5.out rfl (by omega)).mono ?_
  rintro e w8 ⟨A8, c8, rfl, hF8, hB8⟩
  replace H := H.step hB8
  clear hB8
  go_wp2_with fail
  refine (rWords_any A c n N5 l w8 H.a HL.out hn HN5.out).mono ?_
  rintro e w9 ⟨A9, c9, rfl, hF9, hB9⟩
  replace H := H.step hB9
  have S8 := hF8.sees.step hB9
  clear hB9 hF8
  go_wp2_with fail
  refine (alike32 S8 hF9.sees HLW.out hN5').mono ?_
  rintro e w10 ⟨rfl, hB10⟩
  replace H := H.step hB10
  clear hB10 S8 hF9
  go_wp2_with fail
  refine (alike8 H.i H.a HL.out).mono ?_
  rintro e w11 ⟨rfl, rfl⟩
  go_wp2_with fail
  refine (alike32 H.c H.b HK.out (by omega)).mono ?_
  rintro e w11 ⟨rfl, hB11⟩
  replace H := H.step hB11
  clear hB11
  go_wp2_with fail
  refine (Uint_made (A := I) (c := cI) (n := n) (x := x) (N := N6) (L := l ++ digs x) (l := l) H.i HL.out HN6.out rfl (by omega) HX.out).mono ?_
  rintro e w12 ⟨A12, c12, rfl, hF12, hB12⟩
  replace H := H.step hB12
  clear hB12
  go_wp2_with fail
  have hru := rUint_any A c n x l w12 H.a HL.out (by omega) HX.out
  rw [HN6.out] at hru
  refine hru.mono ?_
  clear hru
  rintro e w13 ⟨A13, c13, rfl, hF13, hB13⟩
  replace H := H.step hB13
  have S12 := hF12.sees.step hB13
  have hl6 := hF13.len
  clear hB13 hF12
  go_wp2_with fail
  refine (alike8 S12 hF13.sees (by simpa using hl6)).mono ?_
  rintro e w14 ⟨rfl, rfl⟩
  clear S12 hF13 hl6
  go_wp2_with fail
  refine (Word_made (A := I) (c := cI) (n := n) (x := z) (N := N7) (L := l ++ wd z) (l := l) H.i HL.out HN7.out rfl (by omega) HX32.out).mono ?_
  rintro e w14 ⟨D1, cD1, rfl, hF, hB⟩
  replace H := H.step hB
  have SX := hF.sees
  clear hB
  go_wp2_with fail
  have hru := rWord_any A c n z l w14 H.a HL.out (by omega) HX32.out
  rw [HN7.out] at hru
  refine hru.mono ?_
  clear hru
  rintro e w15 ⟨D2, cD2, rfl, hG, hB⟩
  replace H := H.step hB
  replace SX := SX.step hB
  have hlx := hG.len
  clear hB hF
  go_wp2_with fail
  refine (alike8 SX hG.sees (by simpa using hlx)).mono ?_
  rintro e wz ⟨rfl, rfl⟩
  clear SX hG hlx
  go_wp2_with fail
  refine (Blob_made (A := I) (B := A) (c := cI) (d := c) (n := n) (m := n) (N := N8) (L := l ++ blob l) (l := l) (b := l) H.i H.a HL.out HL.out HN8.out rfl (by omega) (by omega)).mono ?_
  rintro e w16 ⟨D3, cD3, rfl, hF, hB⟩
  replace H := H.step hB
  have SX := hF.sees
  clear hB
  go_wp2_with fail
  have hru := rBlob_any A A c c n n l l w16 H.a H.a HL.out HL.out (by omega) (by omega)
  rw [HN8.out] at hru
  refine hru.mono ?_
  clear hru
  rintro e w17 ⟨D4, cD4, rfl, hG, hB⟩
  replace H := H.step hB
  replace SX := SX.step hB
  have hlx := hG.len
  clear hB hF
  go_wp2_with fail
  refine (alike8 SX hG.sees (by simpa using hlx)).mono ?_
  rintro e wz ⟨rfl, rfl⟩
  clear SX hG hlx
  go_wp2_with fail
  refine (awake_any _).mono ?_
  rintro e w18 ⟨rfl, hB⟩
  replace H := H.step hB
  go_wp2_with fail
  go_ret
  exact ⟨rfl, H.be⟩
set_option maxHeartbeats 1000000 in
set_option maxRecDepth 100000 in
theorem tells_walk (x : Nat) (hx : x < 18446744073709551616) (A B : Option Addr) (n c m d : Nat) (P M : Int) (l : List UInt8) (k : List UInt32) (w : World) (hs : Sees w w.heap.size A (cb l)) (ht : Sees w w.heap.size B (cw k)) (hl : l.length = n) (hk : k.length = m) (hc : n ≤ c)
    (hP : P ≤ 9223372036854775807) (hM : M ≤ 9223372036854775807) :
    Calls Try.prog 3 #[.int .u64 (x : Int), .slice A n c, .int .i64 P, .int .i64 M, .slice B m d] w fun e w' => e = .returned (.bool true) ∧ Below w.heap.size w w' := by
  by_cases hn : n ≤ 1000
  · by_cases hm : m ≤ 300
    · exact tells_main x hx A B n c m d P M l k w hs ht hl hk hc hP hM hn hm
    · have b1 : decide ((300 : Int) < (m : Int)) = true := by simp; omega
      have b0 : decide ((1000 : Int) < (n : Int)) = false := by simp; omega
      have HN := Lib.hid hn
      clear hl hk hs ht hP hM hx hm hn
      go_enter Try.func3, Try.ntmps3
      go_wp2_with fail
      refine (awake_any _).mono ?_
      rintro e w18 ⟨rfl, hB⟩
      go_wp2_with fail
      go_ret
      exact ⟨rfl, hB⟩
  · have b0 : decide ((1000 : Int) < (n : Int)) = true := by simp; omega
    clear hl hk hs ht hP hM hx hn
    go_enter Try.func3, Try.ntmps3
    go_wp2_with fail
    refine (awake_any _).mono ?_
    rintro e w18 ⟨rfl, hB⟩
    go_wp2_with fail
    go_ret
    exact ⟨rfl, hB⟩
theorem bytestells_law (W : World) (a0 : Int) (w0 : (Lit.int .u64 a0).wf = true) (a1 : Option Addr) (len1 cap1 : Nat) (z1 : List Int) (w1 : IsRow .u8 W a1 len1 cap1 z1) (a2 : Int) (w2 : (Lit.int .i64 a2).wf = true) (a3 : Int) (w3 : (Lit.int .i64 a3).wf = true) (a4 : Option Addr) (len4 cap4 : Nat) (z4 : List Int) (w4 : IsRow .u32 W a4 len4 cap4 z4) :
    Calls Try.prog 3 #[.int .u64 a0, .slice a1 len1 cap1, .int .i64 a2, .int .i64 a3, .slice a4 len4 cap4] W fun e w' => e = .returned (.bool true) ∧ Below W.heap.size W w' := by
  obtain ⟨l, hl, hs, hc, _⟩ := row_bytes w1
  obtain ⟨k, hk, ht, hd, _⟩ := row_words w4
  obtain ⟨x, hx, rfl⟩ : ∃ x : Nat, x < 18446744073709551616 ∧ a0 = (x : Int) := by
    have := bounds_u64 w0
    exact ⟨a0.toNat, by omega, by omega⟩
  have b2 := bounds_i64 w2
  have b3 := bounds_i64 w3
  exact tells_walk x hx a1 a4 len1 cap1 len4 cap4 a2 a3 l k W hs ht hl hk hc (by omega) (by omega)
end Go.Proofs.Ytmkpopfaaebgfaa
