/-
  AreaKeeps returns true for every input, and writes nothing that was there: the walk.
-/
import Derived.Test.YtpdfalgjmeagjaaAreaOpened
import Derived.Test.YtpdfalgjmeagjaaAreaAwake
import Derived.Test.YtpdfalgjmeagjaaCopy8
import Derived.Deep.CutBlock
namespace Go.Proofs.Ytpdfalgjmeagjaa
open Go.RowKit
set_option linter.unusedVariables false

/-- The flash between the calls of a life: its area has these records; or behind a failure: of two lists one will be there. -/
def KSt (S : Fl) (m : Nat) (x : Ar) (L M : List (List UInt8)) (failed : Bool) : Prop := match failed with
  | false => AGood S 1 m x ∧ x.L = L
  | true => ∀ ks, (Rest (S.crash ks) 1 m L ∨ Rest (S.crash ks) 1 m M) ∧ (S.crash ks).n = m + 1
section
variable {w w' w0 : World} {base a d p b f m c n : Nat} {mk A : Option Addr} {over : Bool} {S : Fl} {x : Ar} {ps qs : List Pb} {B : Option Addr}
theorem Aside.switch {q q2 : Option Nat} {a2 : Nat} {xs : List Value} (h : Aside a p b q w B xs) (y : But p b w w') (ha : w.heap.size ≤ a2) (hq : ∀ k, q2 = some k → w.heap.size ≤ k) : Aside a2 p b q2 w' B xs := fun h0 => by
  obtain ⟨g, o, h1, h2, ⟨k1, k2, k3, k4⟩, h4⟩ := h h0
  refine ⟨g, o, h1, Nat.lt_of_lt_of_le h2 y.size, ⟨by omega, k2, k3, fun e => by have := hq g e; omega⟩, fun j u hj => ?_⟩
  rw [World.cell?_of_block (y.keep g h2 k2 k3)]
  exact h4 j u hj
theorem Lists8.switch {q q2 : Option Nat} {a2 : Nat} (h : Lists8 a p b q w B n qs) (y : But p b w w') (ha : w.heap.size ≤ a2) (hq : ∀ k, q2 = some k → w.heap.size ≤ k) : Lists8 a2 p b q2 w' B n qs :=
  ⟨h.row.switch y ha hq, h.len, fun r hr => ⟨(h.each r hr).1.switch y ha hq, (h.each r hr).2⟩⟩
/-- Records that were copied since. -/
theorem Lists8.of_recs {B2 : Nat} {cc : Nat} (hA : ArAt base w (some ⟨a, 0, none⟩) a d p b f m S x over A c ps) (hR : Recs B2 w B cc qs) (hlt : a < B2 ∧ p < B2 ∧ b < B2) (hq : ∀ k, (Value.slice A ps.length c).ownBlock = some k → k < B2) : Lists8 a p b (Value.slice A ps.length c).ownBlock w B qs.length qs :=
  ⟨Aside.of_new hA hR.row hlt hq, rfl, fun r hr => ⟨Aside.of_type hA (hR.each r hr) (by decide) (by decide) (by decide) (by decide), by simpa using (hR.each r hr).len, (hR.each r hr).cap.1⟩⟩
theorem ArAt.own_lt (hA : ArAt base w (some ⟨a, 0, none⟩) a d p b f m S x over A c ps) : ∀ k, (Value.slice A ps.length c).ownBlock = some k → k < w.heap.size := fun k hk => (hA.recs.row.own hk).2
theorem KSt.crash {L M : List (List UInt8)} {failed : Bool} (h : KSt S m x L M failed) (hn : S.n = m + 1) (ks : List Bool) : ((Rest (S.crash ks) 1 m L) ∨ (failed = true ∧ Rest (S.crash ks) 1 m M)) ∧ (S.crash ks).n = m + 1 := by
  cases failed with
  | false =>
    obtain ⟨h1, h2⟩ := h
    obtain ⟨k1, k2⟩ := h1.rests ks
    rw [h2] at k1
    exact ⟨.inl k1, k2.trans hn⟩
  | true =>
    obtain ⟨h1, h2⟩ := h ks
    exact ⟨h1.imp id fun h => ⟨rfl, h⟩, h2⟩
set_option maxHeartbeats 16000000 in
set_option maxRecDepth 100000 in
theorem akeeps_walk (s : UInt8) (A0 : Option Addr) (N C : Nat) (W : World) (hf : Lives8At W A0 N) :
    Calls Try.prog 12 #[.int .u8 (s.toNat : Int), .slice A0 N C] W fun e w' => e = .returned (.bool true) ∧ Below W.heap.size W w' := by
  have HF := Lib.hid hf
  obtain ⟨r, hr⟩ : ∃ r, s.toNat % 3 = r := ⟨_, rfl⟩
  have hr3 : r < 3 := by omega
  have hs := s.toNat_lt
  clear hf
  obtain ⟨m, hm⟩ : ∃ m, 2 + r = m := ⟨_, rfl⟩
  have HMI : Hid (2 + (s.toNat : Int) % 3 = (m : Int)) := Lib.hid (by omega)
  have hm2 : 2 ≤ m := by omega
  have hm4 : m ≤ 4 := by omega
  have HG0 := Lib.hid (made_good m hm2)
  clear hr hr3 hs hm
  go_enter Try.func12, Try.ntmps12
  go_wp2_with fail
  rw [HMI.out]
  refine (made8_any m hm2 (by omega) W).mono ?_
  rintro e w1 ⟨p, b, d, a1, A1, c1, ps1, rfl, hA1, hB1⟩
  have hz1 := hB1.size
  go_wp2_with fail
  go_loopw [8, 10, 11] (fun av wv iv wr => ∃ (i a n cB c : Nat) (B A : Option Addr) (qs ps : List Pb) (S : Fl) (x : Ar), i ≤ 6 ∧ iv = .int .i64 (i : Int) ∧ av = .pointer (some ⟨a, 0, none⟩) ∧ wv = .slice B n cB ∧ ArAt W.heap.size wr (some ⟨a, 0, none⟩) a d p b 1 m S x false A c ps ∧ Lists8 a p b (Value.slice A ps.length c).ownBlock wr B n qs ∧ Hid (AGood S 1 m x ∧ x.L = qs.map Pb.l ∧ S.n = m + 1) ∧ Below W.heap.size W wr ∧ W.heap.size ≤ wr.heap.size) (fun _ _ iv _ => 7 - (intOf iv).toNat)
  case atStart => exact ⟨0, a1, 0, 0, c1, none, A1, [], ps1, Fl.made (m + 1) 0, emptyAr m, by omega, rfl, rfl, rfl, hA1, Lists8.nil, Lib.hid ⟨HG0.out, rfl, rfl⟩, hB1, hz1⟩
  case round =>
    obtain ⟨i, a, n, cB, c, B, A, qs, ps, S, x, hi, rfl, rfl, rfl, hA, hL, HX, hB, hz⟩ := hrel
    obtain ⟨wo, rfl⟩ : ∃ wo, wo = wr := ⟨wr, rfl⟩
    clear hA1 hB1 hz1 HG0 ps1
    by_cases hlt : i < N
    · by_cases hlt2 : i < 6
      · obtain ⟨g, o, rfl, hgW, B0, q0, dd, lp, em, ar, ag, K, kq, kd, ks, hem, har, hag, hcs, hps, hkq, hks⟩ := HF.out i hlt
        have hd1 : decide ((i : Int) < 6) = true := by simp; omega
        have HC := Lib.hid (fun (w' : World) (y : Below W.heap.size W w') (j : Nat) (u : Value) (hj : (life8 B0 q0 dd em ar ag K kq kd)[j]? = some u) => (y.cell (p := ⟨g, o + i * 5 + j, none⟩) hgW).trans (hcs j u hj))
        have HPS := Lib.hid hps
        have HKS := Lib.hid (And.intro hkq hks)
        have c0 : wo.cell? ⟨g, o + i * 5, none⟩ = some (.slice B0 q0 dd) := HC.out _ hB 0 _ rfl
        have c2 : wo.cell? ⟨g, o + i * 5 + 2, none⟩ = some (.int .u8 (ar : Int)) := HC.out _ hB 2 _ rfl
        clear hcs hps hkq hks
        go_upto_if 47 with fail
        go_cut [] from 32 to 163 (fun wx => ∃ S4, ArAt W.heap.size wx (some ⟨a, 0, none⟩) a d p b 1 m S4 x false A c ps ∧ Lists8 a p b (Value.slice A ps.length c).ownBlock wx B n qs ∧ Hid (AGood S4 1 m x ∧ x.L = qs.map Pb.l ∧ S4.n = m + 1) ∧ Below W.heap.size W wx ∧ W.heap.size ≤ wx.heap.size)
        case first =>
          as_aux_lemma =>
            by_cases har2 : ar ≤ 250
            · have q1 : decide ((ar : Int) ≤ 250) = true := by simp; omega
              go_wp2_with fail
              refine (Arm_any hA.dr.nor (ar : Int) (by omega)).mono ?_
              rintro e w4 ⟨rfl, hN4, hx4⟩
              obtain ⟨hg, hxl, hSn⟩ := HX.out
              obtain ⟨k1, k2, k3⟩ := arm_live hg.live (ar : Int)
              have hD4 := hA.dr.turn hx4 hN4 k3
              have hA4 := hA.turn hx4 hD4
              have hb4 := But4.of_but hx4 a (Value.slice A ps.length c).ownBlock
              have hlow := But4.low hA hz hb4
              have hL4 := hL.but4 hb4 (.inl rfl)
              have hB4 : Below W.heap.size W w4 := hB.trans hlow
              have hz4 := Nat.le_trans hz hx4.size
              have HX4 := Lib.hid (And.intro (hg.of_ws k1 k2) (And.intro hxl (k3.trans hSn)))
              clear hA hL HX hB hN4 hx4 hg k1 k2 k3 hD4 hb4 hlow
              go_wp2_with fail
              go_meet
              case rel => exact ⟨S.arm (ar : Int), hA4, hL4, HX4, hB4, hz4⟩
            · have q1 : decide ((ar : Int) ≤ 250) = false := by simp; omega
              go_wp2_with fail
              go_meet
              case rel => exact ⟨S, hA, hL, HX, hB, hz⟩
        case rest =>
          obtain ⟨S4, hA4, hL4, HX4, hB4, hz4⟩ := hcut
          clear hA hL HX hB hz c0 c2
          have c0 : wc.cell? ⟨g, o + i * 5, none⟩ = some (.slice B0 q0 dd) := HC.out _ hB4 0 _ rfl
          go_wp2_with fail
          go_loopw [10, 12, 13, 14] (fun wv mv fv kv wr => ∃ (k n n2 cB cB2 c : Nat) (B B2 A : Option Addr) (qs qs2 ps : List Pb) (S : Fl) (x : Ar) (failed : Bool), k ≤ 10 ∧ kv = .int .i64 (k : Int) ∧ fv = .bool failed ∧ wv = .slice B n cB ∧ mv = .slice B2 n2 cB2 ∧ ArAt W.heap.size wr (some ⟨a, 0, none⟩) a d p b 1 m S x failed A c ps ∧ Lists8 a p b (Value.slice A ps.length c).ownBlock wr B n qs ∧ Lists8 a p b (Value.slice A ps.length c).ownBlock wr B2 n2 qs2 ∧ Hid (S.Ok ∧ S.n = m + 1 ∧ KSt S m x (qs.map Pb.l) (qs2.map Pb.l) failed) ∧ Below W.heap.size W wr ∧ W.heap.size ≤ wr.heap.size) (fun _ _ _ kv _ => 11 - (intOf kv).toNat)
          case atStart => exact ⟨0, n, 0, cB, 0, c, B, none, A, qs, [], ps, S4, x, false, by omega, rfl, rfl, rfl, rfl, hA4, hL4, Lists8.nil, Lib.hid ⟨.inl HX4.out.1.live.half, HX4.out.2.2, HX4.out.1, HX4.out.2.1⟩, hB4, hz4⟩
          case round =>
            obtain ⟨k, n, n2, cB, cB2, c, B, B2, A, qs, qs2, ps, S, x, failed, hk10, rfl, rfl, rfl, rfl, hA, hL, hL2, HX, hB, hz⟩ := hrel
            clear hA4 hL4 HX4 hB4 hz4 c0
            have c0 : wr.cell? ⟨g, o + i * 5, none⟩ = some (.slice B0 q0 dd) := HC.out _ hB 0 _ rfl
            by_cases hkq1 : k < q0
            · by_cases hk : k < 10
              · have hd2 : decide ((k : Int) < 10) = true := by simp; omega
                cases failed with
                | false =>
                  as_aux_lemma =>
                    obtain ⟨hok, hSn, hg, hxl⟩ := HX.out
                    obtain ⟨gk, okk, hBk, pk, HPK, hpk, hck⟩ := (HPS.out.step hB).at_ hkq1
                    have hpkA : Aside a p b (Value.slice A ps.length c).ownBlock wr pk.A (cb pk.l) := Aside.of_low hA hz ((HPS.out.ok pk (List.mem_of_getElem? HPK.out)).sees.keep fun q hq => hB.cell hq)
                    have hpl := hpk.len
                    have c1 : wr.cell? ⟨g, o + i * 5 + 1, none⟩ = some (.int .u8 (em : Int)) := HC.out _ hB 1 _ rfl
                    rw [hBk] at c0
                    have hxlen : x.L.length ≤ 100 := by have := hA.ok.many; omega
                    have hnl : n ≤ 100 := by
                      have h1 := hL.len
                      have h2 := congrArg List.length hxl
                      rw [List.length_map] at h2
                      omega
                    by_cases hlen : pk.m ≤ 300
                    · have hcmp : decide ((300 : Int) < (pk.m : Int)) = false := by simp; omega
                      by_cases hem2 : em = k
                      · have q3 : ((em : Int) == (k : Int)) = true := by simp; omega
                        obtain ⟨T, r, x', over', e1, e2, hTok, e4⟩ := empty_law hg
                        have hE := AEmpty_any hA T r x' over' e1
                        have hTn := e2.trans hSn
                        clear e1 e2 hem2
                        rcases e4 with ⟨rfl, rfl, hx', f1, -, -⟩ | ⟨f1, f2, rfl, -, f5⟩
                        · go_wp2_with fail
                          refine hE.mono ?_
                          rintro e w7 ⟨rfl, A7, c7, ps7, hA7, hb7, ho7⟩
                          have hlow7 := But4.low hA hz hb7
                          have hB7 : Below W.heap.size W w7 := hB.trans hlow7
                          have hz7 := Nat.le_trans hz hb7.size
                          have hx'L : x'.L = [] := by rw [hx']; rfl
                          clear hE hA hL hL2 HX hB hz hb7 hlow7 ho7 hpkA hck c0 c1 hpk hg hxl hx'
                          go_wp2_with fail
                          refine (same8_any hA7 (by omega) none 0 0 [] ⟨Sees.nil, rfl, by simp⟩ true (by rw [hx'L]; rfl)).mono ?_
                          rintro e w8 ⟨rfl, hB8⟩
                          have hA8 := hA7.below hB8
                          have hB8' := hB7.trans (hB8.mono hz7)
                          have hz8 := Nat.le_trans hz7 hB8.size
                          clear hA7 hB7 hz7 hB8
                          go_wp2_with fail
                          go_roundw
                          case rel => exact ⟨k + 1, 0, 0, 0, 0, c7, none, none, A7, [], [], ps7, T, x', false, by omega, by go_num, rfl, rfl, rfl, hA8, Lists8.nil, Lists8.nil, Lib.hid ⟨hTok, hTn, f1, hx'L⟩, hB8', hz8⟩
                          case measure => simp [intOf]; omega
                        · have hri : ¬ ((r : Int) = 0) := by omega
                          have hri5 : ¬ ((r : Int) = 5) := by omega
                          have hK9 : KSt T m x' (qs.map Pb.l) (([] : List Pb).map Pb.l) true := fun ks => by
                            obtain ⟨k1, k2⟩ := f5 ks
                            rw [hxl] at k1
                            exact ⟨k1, k2.trans hSn⟩
                          go_wp2_with fail
                          refine hE.mono ?_
                          rintro e w7 ⟨rfl, A7, c7, ps7, hA7, hb7, ho7⟩
                          have hlow7 := But4.low hA hz hb7
                          have hB7 : Below W.heap.size W w7 := hB.trans hlow7
                          have hz7 := Nat.le_trans hz hb7.size
                          have hL7 := hL.but4 hb7 ho7
                          have hM7 : Lists8 a p b (Value.slice A7 ps7.length c7).ownBlock w7 none 0 [] := Lists8.nil
                          clear hE hA hL hL2 HX hB hz hb7 hlow7 ho7 hpkA hck c0 c1 hpk hg hxl f5
                          go_wp2_with fail
                          refine (AOver_any hA7).mono ?_
                          rintro e w8 ⟨rfl, rfl⟩
                          go_wp2_with fail
                          refine (AAppend_any hA7 hz7 none 0 0 [] (fun _ _ => Sees.nil) rfl (by omega) T 60 x' true rfl).mono ?_
                          rintro e w9 ⟨rfl, A9, c9, ps9, hA9, hb9, ho9⟩
                          have hlow9 := But4.low hA7 hz7 hb9
                          have hB9 : Below W.heap.size W w9 := hB7.trans hlow9
                          have hz9 := Nat.le_trans hz7 hb9.size
                          have hL9 := hL7.but4 hb9 ho9
                          have hM9 := hM7.but4 hb9 ho9
                          clear hA7 hL7 hM7 hB7 hz7 hb9 hlow9 ho9
                          go_wp2_with fail
                          go_roundw
                          case rel => exact ⟨k + 1, n, 0, cB, 0, c9, B, none, A9, qs, [], ps9, T, x', true, by omega, by go_num, rfl, rfl, rfl, hA9, hL9, hM9, Lib.hid ⟨hTok, hTn, hK9⟩, hB9, hz9⟩
                          case measure => simp [intOf]; omega
                      · have q3 : ((em : Int) == (k : Int)) = false := by simp; omega
                        obtain ⟨T, r, x', over', e1, e2, hTok, e4⟩ := append_law hg pk.l (by omega)
                        have hTn := e2.trans hSn
                        have hmm : ∀ q ∈ qs, q.m ≤ 4096 := fun q hq => by
                          have h1 := (hL.each q hq).2.1
                          have h2 := hA.ok.small q.l (by rw [hxl]; exact List.mem_map_of_mem hq)
                          omega
                        have HE1 := Lib.hid e1
                        have HE4 := Lib.hid e4
                        have hCL := CopyLists8_any B n cB qs hL.parts (by omega) hmm
                        have HXL := Lib.hid hxl
                        have hgS := hg
                        clear e1 e2 hem2 hmm e4 hxl
                        go_wp2_with fail
                        refine hCL.mono ?_
                        rintro e w5 ⟨A5, c5, cs, rfl, hcl, hR5, hcs, hB5⟩
                        have hba := below_alloc w5 (.cells #[.slice pk.A pk.m pk.c] 27)
                        have hrow5 := hR5.row.below hba
                        rw [hcl] at hrow5
                        have hcell : (w5.alloc (.cells #[.slice pk.A pk.m pk.c] 27)).cell? ⟨w5.heap.size, 0, none⟩ = some (.slice pk.A pk.m pk.c) := by
                          rw [World.cell?_alloc_mark]; rfl
                        have HCL := Lib.hid hcl
                        have HCS := Lib.hid hcs
                        clear hCL c0 c1 hck hcl hcs
                        go_wp2_with (at_builtin; refine wpList_one rfl (.tmp 96) (.tmp 98) 48 27 (.slice none 0 0) 24 rfl Try.underlying48 (by kernel_rfl) rfl (by omega) A5 n c5 w5.heap.size (cs.map Pb.cell) (.slice pk.A pk.m pk.c) wr rfl rfl hrow5 hcell rfl (by omega) (Below.then_ hB5 hba) ?_; intro A6 c6 w6 hF6 hB6 hgr)
                        have hA6 := hA.below hB6
                        have hL6 := hL.below hB6
                        have hpk6 := hpkA.below hB6
                        have hz6 := Nat.le_trans hz hB6.size
                        have hM6 : Lists8 a p b (Value.slice A ps.length c).ownBlock w6 A6 (n + 1) (cs ++ [pk]) := by
                          obtain ⟨l1, l2, -, -⟩ := hA.dr.nor.lt
                          refine ⟨?_, by rw [List.length_append, HCL.out]; rfl, fun r hr => ?_⟩
                          · rw [List.map_append]
                            exact Aside.of_new hA6 hF6 ⟨hA.lt.1, l1, l2⟩ hA.own_lt
                          · rcases List.mem_append.1 hr with h1 | h1
                            · have hfr := (hR5.each r h1).below hba
                              have hfr6 : Fresh wr.heap.size 5 w6 r.A r.m r.c (cb r.l) := World.ownsRow.kept hfr hgr (fresh_unlike hfr hrow5 (by decide))
                              exact ⟨Aside.of_type hA6 hfr6 (by decide) (by decide) (by decide) (by decide), by simpa using hfr6.len, hfr6.cap.1⟩
                            · simp at h1
                              subst h1
                              exact ⟨hpk6, hpl, hpk.cap⟩
                        have hB06 := hB.trans (hB6.mono hz)
                        have HM := Lib.hid (show (cs ++ [pk]).map Pb.l = qs.map Pb.l ++ [pk.l] from by rw [List.map_append, HCS.out]; rfl)
                        clear hA hL hL2 HX hB hz hpkA hR5 hrow5 hcell hba hB5 hF6 hgr hB6 HCS HCL hg
                        refine (AAppend_any hA6 hz6 pk.A pk.m pk.c pk.l hpk6.off hpl (by omega) T r x' over' HE1.out).mono ?_
                        rintro e w7 ⟨rfl, A7, c7, ps7, hA7, hb7, ho7⟩
                        have hlow7 := But4.low hA6 hz6 hb7
                        have hB7 : Below W.heap.size W w7 := hB06.trans hlow7
                        have hz7 := Nat.le_trans hz6 hb7.size
                        have hL7 := hL6.but4 hb7 ho7
                        have hM7 := hM6.but4 hb7 ho7
                        clear hA6 hL6 hM6 hpk6 hz6 hB06 hb7 hlow7 ho7 hpk HE1
                        rcases HE4.out with ⟨rfl, rfl, rfl, rfl, -⟩ | ⟨rfl, rfl, hxL, -, f1, -, -⟩ | ⟨f1, f2, rfl, -, f5⟩
                        · have heq : (x'.L == qs.map Pb.l) = true := by rw [HXL.out]; simp
                          have hK : KSt T m x' (qs.map Pb.l) (qs.map Pb.l) false := ⟨hgS, HXL.out⟩
                          clear HE4
                          go_wp2_with fail
                          refine (same8_any hA7 (by omega) B n cB qs hL7.parts true heq).mono ?_
                          rintro e w8 ⟨rfl, hB8⟩
                          have hA8 := hA7.below hB8
                          have hL8 := hL7.below hB8
                          have hB8' := hB7.trans (hB8.mono hz7)
                          have hz8 := Nat.le_trans hz7 hB8.size
                          clear hA7 hB7 hz7 hB8 hL7 hM7
                          go_wp2_with fail
                          go_roundw
                          case rel => exact ⟨k + 1, n, n, cB, cB, c7, B, B, A7, qs, qs, ps7, T, x', false, by omega, by go_num, rfl, rfl, rfl, hA8, hL8, hL8, Lib.hid ⟨hTok, hTn, hK⟩, hB8', hz8⟩
                          case measure => simp [intOf]; omega
                        · have hxm : x'.L = (cs ++ [pk]).map Pb.l := by rw [hxL, HXL.out, HM.out]
                          have heq : (x'.L == (cs ++ [pk]).map Pb.l) = true := by rw [hxm]; simp
                          have hK : KSt T m x' ((cs ++ [pk]).map Pb.l) ((cs ++ [pk]).map Pb.l) false := ⟨f1, hxm⟩
                          clear HE4 hxm hxL
                          go_wp2_with fail
                          refine (same8_any hA7 (by omega) A6 (n + 1) c6 (cs ++ [pk]) hM7.parts true heq).mono ?_
                          rintro e w8 ⟨rfl, hB8⟩
                          have hA8 := hA7.below hB8
                          have hM8 := hM7.below hB8
                          have hB8' := hB7.trans (hB8.mono hz7)
                          have hz8 := Nat.le_trans hz7 hB8.size
                          clear hA7 hB7 hz7 hB8 hL7 hM7
                          go_wp2_with fail
                          go_roundw
                          case rel => exact ⟨k + 1, n + 1, n + 1, c6, c6, c7, A6, A6, A7, cs ++ [pk], cs ++ [pk], ps7, T, x', false, by omega, by go_num, rfl, rfl, rfl, hA8, hM8, hM8, Lib.hid ⟨hTok, hTn, hK⟩, hB8', hz8⟩
                          case measure => simp [intOf]; omega
                        · have hri : ¬ ((r : Int) = 0) := by omega
                          have hri5 : ¬ ((r : Int) = 5) := by omega
                          have hK9 : KSt T m x' (qs.map Pb.l) ((cs ++ [pk]).map Pb.l) true := fun ks => by
                            obtain ⟨k1, k2⟩ := f5 ks
                            rw [HXL.out] at k1
                            exact ⟨.inl k1, k2.trans hSn⟩
                          clear HE4 f5
                          go_wp2_with fail
                          refine (AOver_any hA7).mono ?_
                          rintro e w8 ⟨rfl, rfl⟩
                          go_wp2_with fail
                          refine (AAppend_any hA7 hz7 none 0 0 [] (fun _ _ => Sees.nil) rfl (by omega) T 60 x' true rfl).mono ?_
                          rintro e w9 ⟨rfl, A9, c9, ps9, hA9, hb9, ho9⟩
                          have hlow9 := But4.low hA7 hz7 hb9
                          have hB9 : Below W.heap.size W w9 := hB7.trans hlow9
                          have hz9 := Nat.le_trans hz7 hb9.size
                          have hL9 := hL7.but4 hb9 ho9
                          have hM9 := hM7.but4 hb9 ho9
                          clear hA7 hL7 hM7 hB7 hz7 hb9 hlow9 ho9
                          go_wp2_with fail
                          go_roundw
                          case rel => exact ⟨k + 1, n, (n + 1), cB, c6, c9, B, A6, A9, qs, (cs ++ [pk]), ps9, T, x', true, by omega, by go_num, rfl, rfl, rfl, hA9, hL9, hM9, Lib.hid ⟨hTok, hTn, hK9⟩, hB9, hz9⟩
                          case measure => simp [intOf]; omega
                    · have hcmp : decide ((300 : Int) < (pk.m : Int)) = true := by simp; omega
                      go_wp2_with fail
                      go_roundw
                      case rel => exact ⟨k + 1, n, n2, cB, cB2, c, B, B2, A, qs, qs2, ps, S, x, false, by omega, by go_num, rfl, rfl, rfl, hA, hL, hL2, HX, hB, hz⟩
                      case measure => simp [intOf]; omega
                | true =>
                  as_aux_lemma =>
                    obtain ⟨hok, hSn, hK⟩ := HX.out
                    have c4 : wr.cell? ⟨g, o + i * 5 + 4, none⟩ = some (.slice K kq kd) := HC.out _ hB 4 _ rfl
                    have hks : Sees wr W.heap.size K (cl ks) := HKS.out.2.keep fun q hq => hB.cell hq
                    go_wp2_with fail
                    refine (Crash_any hA.dr.nor hok K kq kd ks hz hks HKS.out.1).mono ?_
                    rintro e w5 ⟨rfl, hN5, hx5⟩
                    obtain ⟨hrest, hcn⟩ := hK.crash hSn ks
                    have hD5 := hA.dr.turn hx5 hN5 (hcn.trans hSn.symm)
                    have hb5 := But4.of_but hx5 a (Value.slice A ps.length c).ownBlock
                    have hlow5 := But4.low hA hz hb5
                    have hB5 : Below W.heap.size W w5 := hB.trans hlow5
                    have hz5 := Nat.le_trans hz hx5.size
                    have hL5 := hL.but4 hb5 (.inl rfl)
                    have hM5 := hL2.but4 hb5 (.inl rfl)
                    have hks5 : Sees w5 W.heap.size K (cl ks) := HKS.out.2.keep fun q hq => hB5.cell hq
                    have hls5 : Sees w5 W.heap.size (some ⟨g, o + i * 5, none⟩) (life8 B0 q0 dd em ar ag K kq kd) := fun _ => ⟨g, o + i * 5, rfl, hgW, fun j u hj => HC.out _ hB5 j u hj⟩
                    have HHKS := Lib.hid HKS.out.1
                    have hD0 := hA.dr.nor.lt
                    clear hA hL hL2 HX hB hz hN5 hx5 hb5 hlow5 c4 hks hK c0 hok
                    go_wp2_with (with_reducible refine wpList_load (o := ⟨some 140, _, _, _, _, _⟩) rfl (.tmp 139) 128 rfl g (o + i * 5) W.heap.size rfl (life8 B0 q0 dd em ar ag K kq kd) 5 rfl (by kernel_rfl) hls5 ?_)
                    rcases hrest with hrest | ⟨hfl, hrest⟩
                    · refine (opened8_any hD5 hcn hm2 hz5 _ hrest B0 q0 dd em ar ag hag K kq kd ks HHKS.out hks5).mono ?_
                      rintro e w6 ⟨a6, A6, c6, ps6, T, y, rfl, hA6, hg6, hyL, hTn, hTa, hx6, ha6, hq6⟩
                      have hL6 := hL5.switch hx6 ha6 hq6
                      have hM6 := hM5.switch hx6 ha6 hq6
                      obtain ⟨-, -, l3, l4⟩ := hD5.nor.lt
                      have hB06 : Below W.heap.size W w6 := hB5.trans (hx6.below l3 l4 hz5)
                      have hz6 := Nat.le_trans hz5 hx6.size
                      clear hD5 hL5 hM5 hB5 hz5 hx6 ha6 hq6 l3 l4 hrest hks5 hls5 hcn
                      have heq0 : (y.L == qs.map Pb.l) = true := by rw [hyL]; simp
                      go_wp2_with fail
                      refine (same8_any hA6 (by omega) B n cB qs hL6.parts true heq0).mono ?_
                      rintro e w7 ⟨rfl, hB7⟩
                      have hA7 := hA6.below hB7
                      have hB67 := hB06.trans (hB7.mono hz6)
                      have hz7 := Nat.le_trans hz6 hB7.size
                      clear hA6 hL6 hM6 hB06 hz6 hB7
                      go_wp2_with fail
                      refine (All_any hA7).mono ?_
                      rintro e w8 ⟨A8, c8, rs, rfl, hR8, hrl, hB8⟩
                      obtain ⟨l1, l2, -, -⟩ := hA7.dr.nor.lt
                      have hA8 := hA7.below hB8
                      have hL8 := Lists8.of_recs hA8 hR8 ⟨hA7.lt.1, l1, l2⟩ hA7.own_lt
                      have hB78 := hB67.trans (hB8.mono hz7)
                      have hz8 := Nat.le_trans hz7 hB8.size
                      clear hA7 hR8 hB67 hz7 hB8 l1 l2
                      go_wp2_with fail
                      go_roundw
                      case rel => exact ⟨i + 1, a6, rs.length, c8, c6, A8, A6, rs, ps6, T, y, by omega, by go_num, rfl, rfl, hA8, hL8, Lib.hid ⟨hg6, hrl.symm, hTn⟩, hB78, hz8⟩
                      case measure => simp [intOf]; omega
                    · (try subst hfl)
                      refine (opened8_any hD5 hcn hm2 hz5 _ hrest B0 q0 dd em ar ag hag K kq kd ks HHKS.out hks5).mono ?_
                      rintro e w6 ⟨a6, A6, c6, ps6, T, y, rfl, hA6, hg6, hyL, hTn, hTa, hx6, ha6, hq6⟩
                      have hL6 := hL5.switch hx6 ha6 hq6
                      have hM6 := hM5.switch hx6 ha6 hq6
                      obtain ⟨-, -, l3, l4⟩ := hD5.nor.lt
                      have hB06 : Below W.heap.size W w6 := hB5.trans (hx6.below l3 l4 hz5)
                      have hz6 := Nat.le_trans hz5 hx6.size
                      clear hD5 hL5 hM5 hB5 hz5 hx6 ha6 hq6 l3 l4 hrest hks5 hls5 hcn
                      cases heq0 : (y.L == qs.map Pb.l) with
                      | true =>
                        have HEQ := Lib.hid heq0
                        clear heq0
                        go_wp2_with fail
                        refine (same8_any hA6 (by omega) B n cB qs hL6.parts true HEQ.out).mono ?_
                        rintro e w7 ⟨rfl, hB7⟩
                        have hA7 := hA6.below hB7
                        have hB67 := hB06.trans (hB7.mono hz6)
                        have hz7 := Nat.le_trans hz6 hB7.size
                        clear hA6 hL6 hM6 hB06 hz6 hB7
                        go_wp2_with fail
                        refine (All_any hA7).mono ?_
                        rintro e w8 ⟨A8, c8, rs, rfl, hR8, hrl, hB8⟩
                        obtain ⟨l1, l2, -, -⟩ := hA7.dr.nor.lt
                        have hA8 := hA7.below hB8
                        have hL8 := Lists8.of_recs hA8 hR8 ⟨hA7.lt.1, l1, l2⟩ hA7.own_lt
                        have hB78 := hB67.trans (hB8.mono hz7)
                        have hz8 := Nat.le_trans hz7 hB8.size
                        clear hA7 hR8 hB67 hz7 hB8 l1 l2
                        go_wp2_with fail
                        go_roundw
                        case rel => exact ⟨i + 1, a6, rs.length, c8, c6, A8, A6, rs, ps6, T, y, by omega, by go_num, rfl, rfl, hA8, hL8, Lib.hid ⟨hg6, hrl.symm, hTn⟩, hB78, hz8⟩
                        case measure => simp [intOf]; omega
                      | false =>
                        have HEQ := Lib.hid heq0
                        clear heq0
                        go_wp2_with fail
                        refine (same8_any hA6 (by omega) B n cB qs hL6.parts false HEQ.out).mono ?_
                        rintro e w7 ⟨rfl, hB7⟩
                        have hA6 := hA6.below hB7
                        have hM6 := hM6.below hB7
                        have hB06 := hB06.trans (hB7.mono hz6)
                        have hz6 := Nat.le_trans hz6 hB7.size
                        clear hL6 hB7
                        have heq1 : (y.L == qs2.map Pb.l) = true := by rw [hyL]; simp
                        go_wp2_with fail
                        refine (same8_any hA6 (by omega) B2 n2 cB2 qs2 hM6.parts true heq1).mono ?_
                        rintro e w8 ⟨rfl, hB7⟩
                        have hA7 := hA6.below hB7
                        have hB67 := hB06.trans (hB7.mono hz6)
                        have hz7 := Nat.le_trans hz6 hB7.size
                        clear hA6 hM6 hB06 hz6 hB7
                        go_wp2_with fail
                        refine (All_any hA7).mono ?_
                        rintro e w9 ⟨A8, c8, rs, rfl, hR8, hrl, hB8⟩
                        obtain ⟨l1, l2, -, -⟩ := hA7.dr.nor.lt
                        have hA8 := hA7.below hB8
                        have hL8 := Lists8.of_recs hA8 hR8 ⟨hA7.lt.1, l1, l2⟩ hA7.own_lt
                        have hB78 := hB67.trans (hB8.mono hz7)
                        have hz8 := Nat.le_trans hz7 hB8.size
                        clear hA7 hR8 hB67 hz7 hB8 l1 l2
                        go_wp2_with fail
                        go_roundw
                        case rel => exact ⟨i + 1, a6, rs.length, c8, c6, A8, A6, rs, ps6, T, y, by omega, by go_num, rfl, rfl, hA8, hL8, Lib.hid ⟨hg6, hrl.symm, hTn⟩, hB78, hz8⟩
                        case measure => simp [intOf]; omega
              · have hd2 : decide ((k : Int) < 10) = false := by simp; omega
                as_aux_lemma =>
                  obtain ⟨hok, hSn, hK⟩ := HX.out
                  have c4 : wr.cell? ⟨g, o + i * 5 + 4, none⟩ = some (.slice K kq kd) := HC.out _ hB 4 _ rfl
                  have hks : Sees wr W.heap.size K (cl ks) := HKS.out.2.keep fun q hq => hB.cell hq
                  go_wp2_with fail
                  refine (Crash_any hA.dr.nor hok K kq kd ks hz hks HKS.out.1).mono ?_
                  rintro e w5 ⟨rfl, hN5, hx5⟩
                  obtain ⟨hrest, hcn⟩ := hK.crash hSn ks
                  have hD5 := hA.dr.turn hx5 hN5 (hcn.trans hSn.symm)
                  have hb5 := But4.of_but hx5 a (Value.slice A ps.length c).ownBlock
                  have hlow5 := But4.low hA hz hb5
                  have hB5 : Below W.heap.size W w5 := hB.trans hlow5
                  have hz5 := Nat.le_trans hz hx5.size
                  have hL5 := hL.but4 hb5 (.inl rfl)
                  have hM5 := hL2.but4 hb5 (.inl rfl)
                  have hks5 : Sees w5 W.heap.size K (cl ks) := HKS.out.2.keep fun q hq => hB5.cell hq
                  have hls5 : Sees w5 W.heap.size (some ⟨g, o + i * 5, none⟩) (life8 B0 q0 dd em ar ag K kq kd) := fun _ => ⟨g, o + i * 5, rfl, hgW, fun j u hj => HC.out _ hB5 j u hj⟩
                  have HHKS := Lib.hid HKS.out.1
                  have hD0 := hA.dr.nor.lt
                  clear hA hL hL2 HX hB hz hN5 hx5 hb5 hlow5 c4 hks hK c0 hok
                  go_wp2_with (with_reducible refine wpList_load (o := ⟨some 140, _, _, _, _, _⟩) rfl (.tmp 139) 128 rfl g (o + i * 5) W.heap.size rfl (life8 B0 q0 dd em ar ag K kq kd) 5 rfl (by kernel_rfl) hls5 ?_)
                  rcases hrest with hrest | ⟨hfl, hrest⟩
                  · refine (opened8_any hD5 hcn hm2 hz5 _ hrest B0 q0 dd em ar ag hag K kq kd ks HHKS.out hks5).mono ?_
                    rintro e w6 ⟨a6, A6, c6, ps6, T, y, rfl, hA6, hg6, hyL, hTn, hTa, hx6, ha6, hq6⟩
                    have hL6 := hL5.switch hx6 ha6 hq6
                    have hM6 := hM5.switch hx6 ha6 hq6
                    obtain ⟨-, -, l3, l4⟩ := hD5.nor.lt
                    have hB06 : Below W.heap.size W w6 := hB5.trans (hx6.below l3 l4 hz5)
                    have hz6 := Nat.le_trans hz5 hx6.size
                    clear hD5 hL5 hM5 hB5 hz5 hx6 ha6 hq6 l3 l4 hrest hks5 hls5 hcn
                    have heq0 : (y.L == qs.map Pb.l) = true := by rw [hyL]; simp
                    go_wp2_with fail
                    refine (same8_any hA6 (by omega) B n cB qs hL6.parts true heq0).mono ?_
                    rintro e w7 ⟨rfl, hB7⟩
                    have hA7 := hA6.below hB7
                    have hB67 := hB06.trans (hB7.mono hz6)
                    have hz7 := Nat.le_trans hz6 hB7.size
                    clear hA6 hL6 hM6 hB06 hz6 hB7
                    go_wp2_with fail
                    refine (All_any hA7).mono ?_
                    rintro e w8 ⟨A8, c8, rs, rfl, hR8, hrl, hB8⟩
                    obtain ⟨l1, l2, -, -⟩ := hA7.dr.nor.lt
                    have hA8 := hA7.below hB8
                    have hL8 := Lists8.of_recs hA8 hR8 ⟨hA7.lt.1, l1, l2⟩ hA7.own_lt
                    have hB78 := hB67.trans (hB8.mono hz7)
                    have hz8 := Nat.le_trans hz7 hB8.size
                    clear hA7 hR8 hB67 hz7 hB8 l1 l2
                    go_wp2_with fail
                    go_roundw
                    case rel => exact ⟨i + 1, a6, rs.length, c8, c6, A8, A6, rs, ps6, T, y, by omega, by go_num, rfl, rfl, hA8, hL8, Lib.hid ⟨hg6, hrl.symm, hTn⟩, hB78, hz8⟩
                    case measure => simp [intOf]; omega
                  · (try subst hfl)
                    refine (opened8_any hD5 hcn hm2 hz5 _ hrest B0 q0 dd em ar ag hag K kq kd ks HHKS.out hks5).mono ?_
                    rintro e w6 ⟨a6, A6, c6, ps6, T, y, rfl, hA6, hg6, hyL, hTn, hTa, hx6, ha6, hq6⟩
                    have hL6 := hL5.switch hx6 ha6 hq6
                    have hM6 := hM5.switch hx6 ha6 hq6
                    obtain ⟨-, -, l3, l4⟩ := hD5.nor.lt
                    have hB06 : Below W.heap.size W w6 := hB5.trans (hx6.below l3 l4 hz5)
                    have hz6 := Nat.le_trans hz5 hx6.size
                    clear hD5 hL5 hM5 hB5 hz5 hx6 ha6 hq6 l3 l4 hrest hks5 hls5 hcn
                    cases heq0 : (y.L == qs.map Pb.l) with
                    | true =>
                      have HEQ := Lib.hid heq0
                      clear heq0
                      go_wp2_with fail
                      refine (same8_any hA6 (by omega) B n cB qs hL6.parts true HEQ.out).mono ?_
                      rintro e w7 ⟨rfl, hB7⟩
                      have hA7 := hA6.below hB7
                      have hB67 := hB06.trans (hB7.mono hz6)
                      have hz7 := Nat.le_trans hz6 hB7.size
                      clear hA6 hL6 hM6 hB06 hz6 hB7
                      go_wp2_with fail
                      refine (All_any hA7).mono ?_
                      rintro e w8 ⟨A8, c8, rs, rfl, hR8, hrl, hB8⟩
                      obtain ⟨l1, l2, -, -⟩ := hA7.dr.nor.lt
                      have hA8 := hA7.below hB8
                      have hL8 := Lists8.of_recs hA8 hR8 ⟨hA7.lt.1, l1, l2⟩ hA7.own_lt
                      have hB78 := hB67.trans (hB8.mono hz7)
                      have hz8 := Nat.le_trans hz7 hB8.size
                      clear hA7 hR8 hB67 hz7 hB8 l1 l2
                      go_wp2_with fail
                      go_roundw
                      case rel => exact ⟨i + 1, a6, rs.length, c8, c6, A8, A6, rs, ps6, T, y, by omega, by go_num, rfl, rfl, hA8, hL8, Lib.hid ⟨hg6, hrl.symm, hTn⟩, hB78, hz8⟩
                      case measure => simp [intOf]; omega
                    | false =>
                      have HEQ := Lib.hid heq0
                      clear heq0
                      go_wp2_with fail
                      refine (same8_any hA6 (by omega) B n cB qs hL6.parts false HEQ.out).mono ?_
                      rintro e w7 ⟨rfl, hB7⟩
                      have hA6 := hA6.below hB7
                      have hM6 := hM6.below hB7
                      have hB06 := hB06.trans (hB7.mono hz6)
                      have hz6 := Nat.le_trans hz6 hB7.size
                      clear hL6 hB7
                      have heq1 : (y.L == qs2.map Pb.l) = true := by rw [hyL]; simp
                      go_wp2_with fail
                      refine (same8_any hA6 (by omega) B2 n2 cB2 qs2 hM6.parts true heq1).mono ?_
                      rintro e w8 ⟨rfl, hB7⟩
                      have hA7 := hA6.below hB7
                      have hB67 := hB06.trans (hB7.mono hz6)
                      have hz7 := Nat.le_trans hz6 hB7.size
                      clear hA6 hM6 hB06 hz6 hB7
                      go_wp2_with fail
                      refine (All_any hA7).mono ?_
                      rintro e w9 ⟨A8, c8, rs, rfl, hR8, hrl, hB8⟩
                      obtain ⟨l1, l2, -, -⟩ := hA7.dr.nor.lt
                      have hA8 := hA7.below hB8
                      have hL8 := Lists8.of_recs hA8 hR8 ⟨hA7.lt.1, l1, l2⟩ hA7.own_lt
                      have hB78 := hB67.trans (hB8.mono hz7)
                      have hz8 := Nat.le_trans hz7 hB8.size
                      clear hA7 hR8 hB67 hz7 hB8 l1 l2
                      go_wp2_with fail
                      go_roundw
                      case rel => exact ⟨i + 1, a6, rs.length, c8, c6, A8, A6, rs, ps6, T, y, by omega, by go_num, rfl, rfl, hA8, hL8, Lib.hid ⟨hg6, hrl.symm, hTn⟩, hB78, hz8⟩
                      case measure => simp [intOf]; omega
            · as_aux_lemma =>
                obtain ⟨hok, hSn, hK⟩ := HX.out
                have c4 : wr.cell? ⟨g, o + i * 5 + 4, none⟩ = some (.slice K kq kd) := HC.out _ hB 4 _ rfl
                have hks : Sees wr W.heap.size K (cl ks) := HKS.out.2.keep fun q hq => hB.cell hq
                go_wp2_with fail
                refine (Crash_any hA.dr.nor hok K kq kd ks hz hks HKS.out.1).mono ?_
                rintro e w5 ⟨rfl, hN5, hx5⟩
                obtain ⟨hrest, hcn⟩ := hK.crash hSn ks
                have hD5 := hA.dr.turn hx5 hN5 (hcn.trans hSn.symm)
                have hb5 := But4.of_but hx5 a (Value.slice A ps.length c).ownBlock
                have hlow5 := But4.low hA hz hb5
                have hB5 : Below W.heap.size W w5 := hB.trans hlow5
                have hz5 := Nat.le_trans hz hx5.size
                have hL5 := hL.but4 hb5 (.inl rfl)
                have hM5 := hL2.but4 hb5 (.inl rfl)
                have hks5 : Sees w5 W.heap.size K (cl ks) := HKS.out.2.keep fun q hq => hB5.cell hq
                have hls5 : Sees w5 W.heap.size (some ⟨g, o + i * 5, none⟩) (life8 B0 q0 dd em ar ag K kq kd) := fun _ => ⟨g, o + i * 5, rfl, hgW, fun j u hj => HC.out _ hB5 j u hj⟩
                have HHKS := Lib.hid HKS.out.1
                have hD0 := hA.dr.nor.lt
                clear hA hL hL2 HX hB hz hN5 hx5 hb5 hlow5 c4 hks hK c0 hok
                go_wp2_with (with_reducible refine wpList_load (o := ⟨some 140, _, _, _, _, _⟩) rfl (.tmp 139) 128 rfl g (o + i * 5) W.heap.size rfl (life8 B0 q0 dd em ar ag K kq kd) 5 rfl (by kernel_rfl) hls5 ?_)
                rcases hrest with hrest | ⟨hfl, hrest⟩
                · refine (opened8_any hD5 hcn hm2 hz5 _ hrest B0 q0 dd em ar ag hag K kq kd ks HHKS.out hks5).mono ?_
                  rintro e w6 ⟨a6, A6, c6, ps6, T, y, rfl, hA6, hg6, hyL, hTn, hTa, hx6, ha6, hq6⟩
                  have hL6 := hL5.switch hx6 ha6 hq6
                  have hM6 := hM5.switch hx6 ha6 hq6
                  obtain ⟨-, -, l3, l4⟩ := hD5.nor.lt
                  have hB06 : Below W.heap.size W w6 := hB5.trans (hx6.below l3 l4 hz5)
                  have hz6 := Nat.le_trans hz5 hx6.size
                  clear hD5 hL5 hM5 hB5 hz5 hx6 ha6 hq6 l3 l4 hrest hks5 hls5 hcn
                  have heq0 : (y.L == qs.map Pb.l) = true := by rw [hyL]; simp
                  go_wp2_with fail
                  refine (same8_any hA6 (by omega) B n cB qs hL6.parts true heq0).mono ?_
                  rintro e w7 ⟨rfl, hB7⟩
                  have hA7 := hA6.below hB7
                  have hB67 := hB06.trans (hB7.mono hz6)
                  have hz7 := Nat.le_trans hz6 hB7.size
                  clear hA6 hL6 hM6 hB06 hz6 hB7
                  go_wp2_with fail
                  refine (All_any hA7).mono ?_
                  rintro e w8 ⟨A8, c8, rs, rfl, hR8, hrl, hB8⟩
                  obtain ⟨l1, l2, -, -⟩ := hA7.dr.nor.lt
                  have hA8 := hA7.below hB8
                  have hL8 := Lists8.of_recs hA8 hR8 ⟨hA7.lt.1, l1, l2⟩ hA7.own_lt
                  have hB78 := hB67.trans (hB8.mono hz7)
                  have hz8 := Nat.le_trans hz7 hB8.size
                  clear hA7 hR8 hB67 hz7 hB8 l1 l2
                  go_wp2_with fail
                  go_roundw
                  case rel => exact ⟨i + 1, a6, rs.length, c8, c6, A8, A6, rs, ps6, T, y, by omega, by go_num, rfl, rfl, hA8, hL8, Lib.hid ⟨hg6, hrl.symm, hTn⟩, hB78, hz8⟩
                  case measure => simp [intOf]; omega
                · (try subst hfl)
                  refine (opened8_any hD5 hcn hm2 hz5 _ hrest B0 q0 dd em ar ag hag K kq kd ks HHKS.out hks5).mono ?_
                  rintro e w6 ⟨a6, A6, c6, ps6, T, y, rfl, hA6, hg6, hyL, hTn, hTa, hx6, ha6, hq6⟩
                  have hL6 := hL5.switch hx6 ha6 hq6
                  have hM6 := hM5.switch hx6 ha6 hq6
                  obtain ⟨-, -, l3, l4⟩ := hD5.nor.lt
                  have hB06 : Below W.heap.size W w6 := hB5.trans (hx6.below l3 l4 hz5)
                  have hz6 := Nat.le_trans hz5 hx6.size
                  clear hD5 hL5 hM5 hB5 hz5 hx6 ha6 hq6 l3 l4 hrest hks5 hls5 hcn
                  cases heq0 : (y.L == qs.map Pb.l) with
                  | true =>
                    have HEQ := Lib.hid heq0
                    clear heq0
                    go_wp2_with fail
                    refine (same8_any hA6 (by omega) B n cB qs hL6.parts true HEQ.out).mono ?_
                    rintro e w7 ⟨rfl, hB7⟩
                    have hA7 := hA6.below hB7
                    have hB67 := hB06.trans (hB7.mono hz6)
                    have hz7 := Nat.le_trans hz6 hB7.size
                    clear hA6 hL6 hM6 hB06 hz6 hB7
                    go_wp2_with fail
                    refine (All_any hA7).mono ?_
                    rintro e w8 ⟨A8, c8, rs, rfl, hR8, hrl, hB8⟩
                    obtain ⟨l1, l2, -, -⟩ := hA7.dr.nor.lt
                    have hA8 := hA7.below hB8
                    have hL8 := Lists8.of_recs hA8 hR8 ⟨hA7.lt.1, l1, l2⟩ hA7.own_lt
                    have hB78 := hB67.trans (hB8.mono hz7)
                    have hz8 := Nat.le_trans hz7 hB8.size
                    clear hA7 hR8 hB67 hz7 hB8 l1 l2
                    go_wp2_with fail
                    go_roundw
                    case rel => exact ⟨i + 1, a6, rs.length, c8, c6, A8, A6, rs, ps6, T, y, by omega, by go_num, rfl, rfl, hA8, hL8, Lib.hid ⟨hg6, hrl.symm, hTn⟩, hB78, hz8⟩
                    case measure => simp [intOf]; omega
                  | false =>
                    have HEQ := Lib.hid heq0
                    clear heq0
                    go_wp2_with fail
                    refine (same8_any hA6 (by omega) B n cB qs hL6.parts false HEQ.out).mono ?_
                    rintro e w7 ⟨rfl, hB7⟩
                    have hA6 := hA6.below hB7
                    have hM6 := hM6.below hB7
                    have hB06 := hB06.trans (hB7.mono hz6)
                    have hz6 := Nat.le_trans hz6 hB7.size
                    clear hL6 hB7
                    have heq1 : (y.L == qs2.map Pb.l) = true := by rw [hyL]; simp
                    go_wp2_with fail
                    refine (same8_any hA6 (by omega) B2 n2 cB2 qs2 hM6.parts true heq1).mono ?_
                    rintro e w8 ⟨rfl, hB7⟩
                    have hA7 := hA6.below hB7
                    have hB67 := hB06.trans (hB7.mono hz6)
                    have hz7 := Nat.le_trans hz6 hB7.size
                    clear hA6 hM6 hB06 hz6 hB7
                    go_wp2_with fail
                    refine (All_any hA7).mono ?_
                    rintro e w9 ⟨A8, c8, rs, rfl, hR8, hrl, hB8⟩
                    obtain ⟨l1, l2, -, -⟩ := hA7.dr.nor.lt
                    have hA8 := hA7.below hB8
                    have hL8 := Lists8.of_recs hA8 hR8 ⟨hA7.lt.1, l1, l2⟩ hA7.own_lt
                    have hB78 := hB67.trans (hB8.mono hz7)
                    have hz8 := Nat.le_trans hz7 hB8.size
                    clear hA7 hR8 hB67 hz7 hB8 l1 l2
                    go_wp2_with fail
                    go_roundw
                    case rel => exact ⟨i + 1, a6, rs.length, c8, c6, A8, A6, rs, ps6, T, y, by omega, by go_num, rfl, rfl, hA8, hL8, Lib.hid ⟨hg6, hrl.symm, hTn⟩, hB78, hz8⟩
                    case measure => simp [intOf]; omega
      · have hd1 : decide ((i : Int) < 6) = false := by simp; omega
        go_wp2_with fail
        refine (awake8_any wo).mono ?_
        rintro e w9 ⟨rfl, hB9⟩
        go_wp2_with fail
        go_ret
        exact ⟨rfl, hB.trans (hB9.mono hz)⟩
    · go_wp2_with fail
      refine (awake8_any wo).mono ?_
      rintro e w9 ⟨rfl, hB9⟩
      go_wp2_with fail
      go_ret
      exact ⟨rfl, hB.trans (hB9.mono hz)⟩
end
end Go.Proofs.Ytpdfalgjmeagjaa
