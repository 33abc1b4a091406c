/-
  What areIns and Right of package code answer, for every input.
-/
import Derived.Test.YtangblcfdboghaaCodeFields
namespace Go.Proofs.Ytangblcfdboghaa
open Go.RowKit Go.Maps
set_option linter.unusedVariables false

theorem cloV_48 (g : Nat) : cloV g 48 = .func (.func 85) #[] #[] := rfl
theorem cloV_116 (g : Nat) : cloV g 116 = .func (.func 86) #[] #[] := rfl
theorem cloV_119 (g : Nat) : cloV g 119 = .func (.func 87) #[] #[] := rfl
theorem cloV_114 (g : Nat) : cloV g 114 = .func (.func 89) #[] #[] := rfl
theorem cloV_118 (g : Nat) : cloV g 118 = .func (.func 90) #[] #[.pointer (some ⟨g, 0, none⟩)] := rfl
theorem cloV_115 (g : Nat) : cloV g 115 = .func (.func 92) #[] #[.pointer (some ⟨g, 0, none⟩)] := rfl
theorem cloV_106 (g : Nat) : cloV g 106 = .func (.func 93) #[] #[.pointer (some ⟨g, 0, none⟩)] := rfl
theorem cloV_98 (g : Nat) : cloV g 98 = .func (.func 94) #[] #[.pointer (some ⟨g, 0, none⟩)] := rfl
theorem cloV_111 (g : Nat) : cloV g 111 = .func (.func 95) #[] #[.pointer (some ⟨g, 0, none⟩)] := rfl
theorem look_48 {base : Nat} {w : World} {b g : Nat} {m : Pm} (h : FnsAt base w b g m) : (Instr.lookup 113 (.map (some b)) (.int .u8 48) false).run Try.prog w = .ok (.func (.func 85) #[] #[]) w := h.look 48 (by decide) (by decide)
theorem look_116 {base : Nat} {w : World} {b g : Nat} {m : Pm} (h : FnsAt base w b g m) : (Instr.lookup 113 (.map (some b)) (.int .u8 116) false).run Try.prog w = .ok (.func (.func 86) #[] #[]) w := h.look 116 (by decide) (by decide)
theorem look_119 {base : Nat} {w : World} {b g : Nat} {m : Pm} (h : FnsAt base w b g m) : (Instr.lookup 113 (.map (some b)) (.int .u8 119) false).run Try.prog w = .ok (.func (.func 87) #[] #[]) w := h.look 119 (by decide) (by decide)
theorem look_114 {base : Nat} {w : World} {b g : Nat} {m : Pm} (h : FnsAt base w b g m) : (Instr.lookup 113 (.map (some b)) (.int .u8 114) false).run Try.prog w = .ok (.func (.func 89) #[] #[]) w := h.look 114 (by decide) (by decide)
theorem look_118 {base : Nat} {w : World} {b g : Nat} {m : Pm} (h : FnsAt base w b g m) : (Instr.lookup 113 (.map (some b)) (.int .u8 118) false).run Try.prog w = .ok (.func (.func 90) #[] #[.pointer (some ⟨g, 0, none⟩)]) w := h.look 118 (by decide) (by decide)
theorem look_115 {base : Nat} {w : World} {b g : Nat} {m : Pm} (h : FnsAt base w b g m) : (Instr.lookup 113 (.map (some b)) (.int .u8 115) false).run Try.prog w = .ok (.func (.func 92) #[] #[.pointer (some ⟨g, 0, none⟩)]) w := h.look 115 (by decide) (by decide)
theorem look_106 {base : Nat} {w : World} {b g : Nat} {m : Pm} (h : FnsAt base w b g m) : (Instr.lookup 113 (.map (some b)) (.int .u8 106) false).run Try.prog w = .ok (.func (.func 93) #[] #[.pointer (some ⟨g, 0, none⟩)]) w := h.look 106 (by decide) (by decide)
theorem look_98 {base : Nat} {w : World} {b g : Nat} {m : Pm} (h : FnsAt base w b g m) : (Instr.lookup 113 (.map (some b)) (.int .u8 98) false).run Try.prog w = .ok (.func (.func 94) #[] #[.pointer (some ⟨g, 0, none⟩)]) w := h.look 98 (by decide) (by decide)
theorem look_111 {base : Nat} {w : World} {b g : Nat} {m : Pm} (h : FnsAt base w b g m) : (Instr.lookup 113 (.map (some b)) (.int .u8 111) false).run Try.prog w = .ok (.func (.func 95) #[] #[.pointer (some ⟨g, 0, none⟩)]) w := h.look 111 (by decide) (by decide)
theorem of98 {w : World} {B : Nat} {m : Pm} {j : Jn} (h : mayF m.p j 98 j.a = true) (hm : PmAt B w m) : isPl j.a m.nb = true := by
  rw [← hm.nb]
  exact h
theorem zeroIns : ((Try.prog.info? 53).map (·.zero)) = some (some (.agg (Jn.cells default).toArray)) := by kernel_rfl
theorem aggIns : aggB Try.prog 53 4 = true := by kernel_rfl
abbrev tri3 (a b c : Int) : List Value := [.int .u8 a, .int .u8 b, .int .u8 c]
theorem zeroTri : ((Try.prog.info? 116).map (·.zero)) = some (some (.agg (tri3 0 0 0).toArray)) := by kernel_rfl
theorem aggTri : aggB Try.prog 116 3 = true := by kernel_rfl
theorem jn_one (v : Jn) : ∀ u ∈ v.cells, u.oneCell' = true := by
  intro u hu
  simp [Jn.cells] at hu
  rcases hu with rfl | rfl | rfl | rfl <;> rfl
theorem not_of {b : Bool} (h : (!b) = true) : b = false := by simpa using h
theorem not_of' {b : Bool} (h : (!b) = false) : b = true := by simpa using h
theorem tri_one (a b c : Int) : ∀ u ∈ tri3 a b c, u.oneCell' = true := by
  intro u hu
  simp [tri3] at hu
  rcases hu with rfl | rfl | rfl <;> rfl
theorem letF_cases (o : Nat) : letF o = none ∨ letF o = some (116, 48, 114) ∨ letF o = some (48, 118, 48) ∨ letF o = some (48, 115, 48) ∨ letF o = some (119, 48, 48) ∨ letF o = some (116, 48, 48) ∨ letF o = some (116, 116, 48) ∨ letF o = some (48, 48, 48) ∨ letF o = some (48, 106, 48) ∨ letF o = some (48, 98, 48) ∨ letF o = some (48, 98, 111) := by
  unfold letF
  repeat' split
  all_goals simp
theorem jnOk_some {p : Pg} {j : Jn} {a b c : Nat} (h : letF j.op = some (a, b, c)) : jnOk p j = (mayF p j a j.t && (mayF p j b j.a && mayF p j c j.n)) := by simp [jnOk, h]
theorem jnOk_none {p : Pg} {j : Jn} (h : letF j.op = none) : jnOk p j = false := by simp [jnOk, h]
theorem insOk_no {p : Pg} {j : Jn} (h : j ∈ p.ins) (hr : jnOk p j = false) : insOk p = false := by
  have : p.ins.all (jnOk p) = false := by
    rw [Bool.eq_false_iff]
    intro ha
    rw [List.all_eq_true] at ha
    rw [ha j h] at hr
    cases hr
  simp [insOk, this]

set_option maxHeartbeats 16000000 in
set_option maxRecDepth 100000 in
theorem areIns_any (m : Pm) (w : World) (hm : PmAt w.heap.size w m) :
    Calls Try.prog 55 #[.agg m.cells.toArray] w fun e w' => e = .returned (.bool (insOk m.p)) ∧ Below w.heap.size w w' := by
  have hsm := hm.small
  have hni := Lib.hid hm.ni
  by_cases h1 : m.ni < 1
  · have g1 : decide ((m.ni : Int) < 1) = true := by simp; omega
    go_enter Try.func55, Try.ntmps55
    go_wp2_with (with_reducible refine wpList_box (o := ⟨some 1, _, _, _, _, _⟩) rfl (.tmp 0) 26 rfl m.cells rfl 4 rfl (by decide) ?_; intro g w1 hg hG hB; have f3 := hG.cell_ (k := 3) rfl)
    go_ret
    exact ⟨ret_bool (by rw [insOk, hni.out, show decide (1 ≤ m.ni) = false from by simp; omega]; rfl), hB⟩
  · have g1 : decide ((m.ni : Int) < 1) = false := by simp; omega
    by_cases h2 : 2000 < m.ni
    · have g2 : decide ((2000 : Int) < m.ni) = true := by simp; omega
      go_enter Try.func55, Try.ntmps55
      go_wp2_with (with_reducible refine wpList_box (o := ⟨some 1, _, _, _, _, _⟩) rfl (.tmp 0) 26 rfl m.cells rfl 4 rfl (by decide) ?_; intro g w1 hg hG hB; have f3 := hG.cell_ (k := 3) rfl)
      go_ret
      exact ⟨ret_bool (by rw [insOk, hni.out, show decide (m.ni ≤ 2000) = false from by simp; omega, Bool.and_false]; rfl), hB⟩
    · have g2 : decide ((2000 : Int) < m.ni) = false := by simp; omega
      go_enter Try.func55, Try.ntmps55
      go_wp2_with (first
        | (with_reducible refine wpList_box (o := ⟨some 1, _, _, _, _, _⟩) rfl (.tmp 0) 26 rfl m.cells rfl 4 rfl (by decide) ?_; intro g w1 hg hG hB; have f3 := hG.cell_ (k := 3) rfl)
        | (with_reducible refine wpList_load rfl (.tmp 1) 26 rfl g 0 _ rfl m.cells 4 rfl (by kernel_rfl) hG.sees ?_)
        | (go_at_call 73; refine (fields_any m _).mono ?_; rintro e w2 ⟨mb, rfl, ⟨gp, hfn⟩, hB2⟩; have f32 := (hG.below hB2).cell_ (k := 3) rfl))
      go_loopw [5, 6, 7, 23] (fun s5 s6 s7 i wr => ∃ k : Nat, k ≤ m.ni ∧ i = .int .i64 k ∧ (∀ j ∈ m.p.ins.take k, jnOk m.p j = true) ∧ FnsAt w1.heap.size wr mb gp m ∧ Below w.heap.size w wr) (fun _ _ _ i _ => m.ni - (intOf i).toNat)
      case atStart => exact ⟨0, by omega, rfl, by simp, hfn, hB.trans (hB2.mono hB.size)⟩
      case round =>
        obtain ⟨k, hk, rfl, hall, hfr, hBr⟩ := hrel
        have HA := Lib.hid hall
        clear hall
        have hmr : PmAt w.heap.size wr m := hm.below hBr
        by_cases hlt : k < m.ni
        · obtain ⟨b, o, hA, hb, j, HX, hx, hc⟩ := hmr.ins.quad jn4 hni.out hlt
          have hj := hm.oki j hx
          have hjt := hj.t
          have hja := hj.a
          have hjn := hj.n
          clear hj
          rw [hA]
          rcases letF_cases j.op with hL | hL | hL | hL | hL | hL | hL | hL | hL | hL | hL
          · as_aux_lemma =>
              have SL : ∀ wq, Calls Try.prog 74 #[.int .u8 (j.op : Int)] wq fun e w' => e = .returned (.tuple #[.agg (tri3 0 0 0).toArray, .bool false]) ∧ Below wq.heap.size wq w' := fun wq => by
                have := letters_any j.op wq
                rw [hL] at this
                exact this
              go_wp2_with (first
                  | (with_reducible refine wpList_load rfl (.tmp 25) 53 rfl b (o + k * 4) _ rfl j.cells 4 (jn4 j) aggIns hc ?_)
                  | (with_reducible refine wpList_alloc (o := ⟨some 5, _, _, _, _, _⟩) rfl 53 rfl (Jn.cells default) zeroIns 4 (jn4 _) (by decide) ?_; intro g5 w3 hg5 hF3 hB3)
                  | (with_reducible refine wpList_store rfl rfl (.tmp 5) (.tmp 26) 53 rfl g5 0 wr.heap.size 53 4 (Jn.cells default) j.cells rfl rfl 4 (jn4 j) aggIns hF3 (by omega) (jn_one j) wr hB3 hg5 ?_; intro w4 hF4 hB4 hoth4 hz4; rw [splice4 (jn4 default) (jn4 j)] at hF4; have f0 := hF4.cell_ (k := 0) rfl)
                  | (go_at_call 74; refine (SL _).mono ?_; rintro e w5 ⟨rfl, hB5⟩; have hF5 := hF4.below hB5; have hB5 := hB4.trans (hB5.mono hB4.size))
                  | (with_reducible refine wpList_alloc (o := ⟨some 6, _, _, _, _, _⟩) rfl 116 rfl (tri3 0 0 0) zeroTri 3 rfl (by decide) ?_; intro g6 w6 hg6 hF6 hB6; have hF56 := hF5.below hB6; have hne56 : g5 ≠ g6 := by (have := hF5.lt_size; omega))
                  | (with_reducible refine wpList_store rfl rfl (.tmp 6) (.tmp 31) 116 rfl g6 0 w5.heap.size 116 3 (tri3 0 0 0) (tri3 0 0 0) rfl rfl 3 rfl aggTri hF6 (by omega) (tri_one _ _ _) w5 hB6 hg6 ?_; intro w7 hF7 hB7 hoth7 hz7))
              go_ret
              exact ⟨ret_bool (by rw [insOk_no hx (jnOk_none hL)]), hBr.trans ((hB5.trans (hB7.mono hB5.size)).mono hBr.size)⟩
          · as_aux_lemma =>
              have SL : ∀ wq, Calls Try.prog 74 #[.int .u8 (j.op : Int)] wq fun e w' => e = .returned (.tuple #[.agg (tri3 116 48 114).toArray, .bool true]) ∧ Below wq.heap.size wq w' := fun wq => by
                have := letters_any j.op wq
                rw [hL] at this
                exact this
              go_wp2_with (first
                  | (with_reducible refine wpList_load rfl (.tmp 25) 53 rfl b (o + k * 4) _ rfl j.cells 4 (jn4 j) aggIns hc ?_)
                  | (with_reducible refine wpList_alloc (o := ⟨some 5, _, _, _, _, _⟩) rfl 53 rfl (Jn.cells default) zeroIns 4 (jn4 _) (by decide) ?_; intro g5 w3 hg5 hF3 hB3)
                  | (with_reducible refine wpList_store rfl rfl (.tmp 5) (.tmp 26) 53 rfl g5 0 wr.heap.size 53 4 (Jn.cells default) j.cells rfl rfl 4 (jn4 j) aggIns hF3 (by omega) (jn_one j) wr hB3 hg5 ?_; intro w4 hF4 hB4 hoth4 hz4; rw [splice4 (jn4 default) (jn4 j)] at hF4; have f0 := hF4.cell_ (k := 0) rfl)
                  | (go_at_call 74; refine (SL _).mono ?_; rintro e w5 ⟨rfl, hB5⟩; have hF5 := hF4.below hB5; have hB5 := hB4.trans (hB5.mono hB4.size))
                  | (with_reducible refine wpList_alloc (o := ⟨some 6, _, _, _, _, _⟩) rfl 116 rfl (tri3 0 0 0) zeroTri 3 rfl (by decide) ?_; intro g6 w6 hg6 hF6 hB6; have hF56 := hF5.below hB6; have hne56 : g5 ≠ g6 := by (have := hF5.lt_size; omega))
                  | (with_reducible refine wpList_store rfl rfl (.tmp 6) (.tmp 31) 116 rfl g6 0 w5.heap.size 116 3 (tri3 0 0 0) (tri3 116 48 114) rfl rfl 3 rfl aggTri hF6 (by omega) (tri_one _ _ _) w5 hB6 hg6 ?_; intro w7 hF7 hB7 hoth7 hz7; rw [splice4 (n := 3) rfl rfl] at hF7; have t0 := hF7.cell_ (k := 0) rfl; have t1 := hF7.cell_ (k := 1) rfl; have t2 := hF7.cell_ (k := 2) rfl; have hF57 := hF56.other hne56 hoth7; have e1 := hF57.cell_ (k := 1) rfl; have e2 := hF57.cell_ (k := 2) rfl; have e3 := hF57.cell_ (k := 3) rfl; have hB57 := hB5.trans (hB7.mono hB5.size); have hf7 := hfr.below hB57; have L0 := look_116 hf7; have L1 := look_48 hf7; have L2 := look_114 hf7; have hm7 := (hm.below hBr).below (hB57.mono hBr.size) |>.more (Nat.le_trans hBr.size hB57.size))
                  | (with_reducible refine wpList_load_g (.tmp 5) 53 rfl g5 0 _ rfl j.cells 4 (jn4 j) aggIns hF57.sees rfl ?_)
                  | (go_at_call 86; with_reducible refine (may116_any m j (j.t : Int) _).mono ?_; rintro e w8 ⟨rfl, hB8⟩; have hF57 := hF57.below hB8; have e2 := hF57.cell_ (k := 2) rfl; have e3 := hF57.cell_ (k := 3) rfl; have hF7 := hF7.below hB8; have t1 := hF7.cell_ (k := 1) rfl; have t2 := hF7.cell_ (k := 2) rfl; have hf7 := hf7.below hB8; have L1 := look_48 hf7; have L2 := look_114 hf7; have hm7 := hm7.step hB8; have hB57 := hB57.trans (hB8.mono hB57.size))
                  | (go_at_call 85; with_reducible refine (may48_any m j j.a _).mono ?_; rintro e w8 ⟨rfl, hB8⟩; have hF57 := hF57.below hB8; have e2 := hF57.cell_ (k := 2) rfl; have e3 := hF57.cell_ (k := 3) rfl; have hF7 := hF7.below hB8; have t1 := hF7.cell_ (k := 1) rfl; have t2 := hF7.cell_ (k := 2) rfl; have hf7 := hf7.below hB8; have L1 := look_48 hf7; have L2 := look_114 hf7; have hm7 := hm7.step hB8; have hB57 := hB57.trans (hB8.mono hB57.size))
                  | (go_at_call 89; with_reducible refine (may114_any m j j.n _).mono ?_; rintro e w8 ⟨rfl, hB8⟩; have hF57 := hF57.below hB8; have e2 := hF57.cell_ (k := 2) rfl; have e3 := hF57.cell_ (k := 3) rfl; have hF7 := hF7.below hB8; have t1 := hF7.cell_ (k := 1) rfl; have t2 := hF7.cell_ (k := 2) rfl; have hf7 := hf7.below hB8; have L1 := look_48 hf7; have L2 := look_114 hf7; have hm7 := hm7.step hB8; have hB57 := hB57.trans (hB8.mono hB57.size)))
              all_goals first
                | (go_ret
                   exact ⟨ret_bool (by rw [insOk_no hx (by rw [jnOk_some hL]; first | (have q := not_of (by assumption : (!mayF m.p j 114 j.n) = true); simp [*]; done) | (simp [*]; done))]), hBr.trans (hB57.mono hBr.size)⟩)
                | (go_roundw
                   case rel =>
                     refine ⟨k + 1, by omega, by go_num, fun d hd => ?_, hf7, hBr.trans (hB57.mono hBr.size)⟩
                     rw [List.take_add_one, HX.out] at hd
                     simp at hd
                     rcases hd with hd | rfl
                     · exact HA.out d hd
                     · have q := not_of' (by assumption : (!mayF m.p d 114 d.n) = false)
                       rw [jnOk_some hL]; simp [*]
                   case measure => simp [intOf]; omega)
          · as_aux_lemma =>
              have SL : ∀ wq, Calls Try.prog 74 #[.int .u8 (j.op : Int)] wq fun e w' => e = .returned (.tuple #[.agg (tri3 48 118 48).toArray, .bool true]) ∧ Below wq.heap.size wq w' := fun wq => by
                have := letters_any j.op wq
                rw [hL] at this
                exact this
              go_wp2_with (first
                  | (with_reducible refine wpList_load rfl (.tmp 25) 53 rfl b (o + k * 4) _ rfl j.cells 4 (jn4 j) aggIns hc ?_)
                  | (with_reducible refine wpList_alloc (o := ⟨some 5, _, _, _, _, _⟩) rfl 53 rfl (Jn.cells default) zeroIns 4 (jn4 _) (by decide) ?_; intro g5 w3 hg5 hF3 hB3)
                  | (with_reducible refine wpList_store rfl rfl (.tmp 5) (.tmp 26) 53 rfl g5 0 wr.heap.size 53 4 (Jn.cells default) j.cells rfl rfl 4 (jn4 j) aggIns hF3 (by omega) (jn_one j) wr hB3 hg5 ?_; intro w4 hF4 hB4 hoth4 hz4; rw [splice4 (jn4 default) (jn4 j)] at hF4; have f0 := hF4.cell_ (k := 0) rfl)
                  | (go_at_call 74; refine (SL _).mono ?_; rintro e w5 ⟨rfl, hB5⟩; have hF5 := hF4.below hB5; have hB5 := hB4.trans (hB5.mono hB4.size))
                  | (with_reducible refine wpList_alloc (o := ⟨some 6, _, _, _, _, _⟩) rfl 116 rfl (tri3 0 0 0) zeroTri 3 rfl (by decide) ?_; intro g6 w6 hg6 hF6 hB6; have hF56 := hF5.below hB6; have hne56 : g5 ≠ g6 := by (have := hF5.lt_size; omega))
                  | (with_reducible refine wpList_store rfl rfl (.tmp 6) (.tmp 31) 116 rfl g6 0 w5.heap.size 116 3 (tri3 0 0 0) (tri3 48 118 48) rfl rfl 3 rfl aggTri hF6 (by omega) (tri_one _ _ _) w5 hB6 hg6 ?_; intro w7 hF7 hB7 hoth7 hz7; rw [splice4 (n := 3) rfl rfl] at hF7; have t0 := hF7.cell_ (k := 0) rfl; have t1 := hF7.cell_ (k := 1) rfl; have t2 := hF7.cell_ (k := 2) rfl; have hF57 := hF56.other hne56 hoth7; have e1 := hF57.cell_ (k := 1) rfl; have e2 := hF57.cell_ (k := 2) rfl; have e3 := hF57.cell_ (k := 3) rfl; have hB57 := hB5.trans (hB7.mono hB5.size); have hf7 := hfr.below hB57; have L0 := look_48 hf7; have L1 := look_118 hf7; have L2 := look_48 hf7; have hm7 := (hm.below hBr).below (hB57.mono hBr.size) |>.more (Nat.le_trans hBr.size hB57.size))
                  | (with_reducible refine wpList_load_g (.tmp 5) 53 rfl g5 0 _ rfl j.cells 4 (jn4 j) aggIns hF57.sees rfl ?_)
                  | (go_at_call 85; with_reducible refine (may48_any m j (j.t : Int) _).mono ?_; rintro e w8 ⟨rfl, hB8⟩; have hF57 := hF57.below hB8; have e2 := hF57.cell_ (k := 2) rfl; have e3 := hF57.cell_ (k := 3) rfl; have hF7 := hF7.below hB8; have t1 := hF7.cell_ (k := 1) rfl; have t2 := hF7.cell_ (k := 2) rfl; have hf7 := hf7.below hB8; have L1 := look_118 hf7; have L2 := look_48 hf7; have hm7 := hm7.step hB8; have hB57 := hB57.trans (hB8.mono hB57.size))
                  | (go_at_call 90; with_reducible refine (may118_any m j j.a _ gp _ hf7.pg hm7).mono ?_; rintro e w8 ⟨rfl, hB8⟩; have hF57 := hF57.below hB8; have e2 := hF57.cell_ (k := 2) rfl; have e3 := hF57.cell_ (k := 3) rfl; have hF7 := hF7.below hB8; have t1 := hF7.cell_ (k := 1) rfl; have t2 := hF7.cell_ (k := 2) rfl; have hf7 := hf7.below hB8; have L1 := look_118 hf7; have L2 := look_48 hf7; have hm7 := hm7.step hB8; have hB57 := hB57.trans (hB8.mono hB57.size))
                  | (go_at_call 85; with_reducible refine (may48_any m j j.n _).mono ?_; rintro e w8 ⟨rfl, hB8⟩; have hF57 := hF57.below hB8; have e2 := hF57.cell_ (k := 2) rfl; have e3 := hF57.cell_ (k := 3) rfl; have hF7 := hF7.below hB8; have t1 := hF7.cell_ (k := 1) rfl; have t2 := hF7.cell_ (k := 2) rfl; have hf7 := hf7.below hB8; have L1 := look_118 hf7; have L2 := look_48 hf7; have hm7 := hm7.step hB8; have hB57 := hB57.trans (hB8.mono hB57.size)))
              all_goals first
                | (go_ret
                   exact ⟨ret_bool (by rw [insOk_no hx (by rw [jnOk_some hL]; first | (have q := not_of (by assumption : (!mayF m.p j 48 j.n) = true); simp [*]; done) | (simp [*]; done))]), hBr.trans (hB57.mono hBr.size)⟩)
                | (go_roundw
                   case rel =>
                     refine ⟨k + 1, by omega, by go_num, fun d hd => ?_, hf7, hBr.trans (hB57.mono hBr.size)⟩
                     rw [List.take_add_one, HX.out] at hd
                     simp at hd
                     rcases hd with hd | rfl
                     · exact HA.out d hd
                     · have q := not_of' (by assumption : (!mayF m.p d 48 d.n) = false)
                       rw [jnOk_some hL]; simp [*]
                   case measure => simp [intOf]; omega)
          · as_aux_lemma =>
              have SL : ∀ wq, Calls Try.prog 74 #[.int .u8 (j.op : Int)] wq fun e w' => e = .returned (.tuple #[.agg (tri3 48 115 48).toArray, .bool true]) ∧ Below wq.heap.size wq w' := fun wq => by
                have := letters_any j.op wq
                rw [hL] at this
                exact this
              go_wp2_with (first
                  | (with_reducible refine wpList_load rfl (.tmp 25) 53 rfl b (o + k * 4) _ rfl j.cells 4 (jn4 j) aggIns hc ?_)
                  | (with_reducible refine wpList_alloc (o := ⟨some 5, _, _, _, _, _⟩) rfl 53 rfl (Jn.cells default) zeroIns 4 (jn4 _) (by decide) ?_; intro g5 w3 hg5 hF3 hB3)
                  | (with_reducible refine wpList_store rfl rfl (.tmp 5) (.tmp 26) 53 rfl g5 0 wr.heap.size 53 4 (Jn.cells default) j.cells rfl rfl 4 (jn4 j) aggIns hF3 (by omega) (jn_one j) wr hB3 hg5 ?_; intro w4 hF4 hB4 hoth4 hz4; rw [splice4 (jn4 default) (jn4 j)] at hF4; have f0 := hF4.cell_ (k := 0) rfl)
                  | (go_at_call 74; refine (SL _).mono ?_; rintro e w5 ⟨rfl, hB5⟩; have hF5 := hF4.below hB5; have hB5 := hB4.trans (hB5.mono hB4.size))
                  | (with_reducible refine wpList_alloc (o := ⟨some 6, _, _, _, _, _⟩) rfl 116 rfl (tri3 0 0 0) zeroTri 3 rfl (by decide) ?_; intro g6 w6 hg6 hF6 hB6; have hF56 := hF5.below hB6; have hne56 : g5 ≠ g6 := by (have := hF5.lt_size; omega))
                  | (with_reducible refine wpList_store rfl rfl (.tmp 6) (.tmp 31) 116 rfl g6 0 w5.heap.size 116 3 (tri3 0 0 0) (tri3 48 115 48) rfl rfl 3 rfl aggTri hF6 (by omega) (tri_one _ _ _) w5 hB6 hg6 ?_; intro w7 hF7 hB7 hoth7 hz7; rw [splice4 (n := 3) rfl rfl] at hF7; have t0 := hF7.cell_ (k := 0) rfl; have t1 := hF7.cell_ (k := 1) rfl; have t2 := hF7.cell_ (k := 2) rfl; have hF57 := hF56.other hne56 hoth7; have e1 := hF57.cell_ (k := 1) rfl; have e2 := hF57.cell_ (k := 2) rfl; have e3 := hF57.cell_ (k := 3) rfl; have hB57 := hB5.trans (hB7.mono hB5.size); have hf7 := hfr.below hB57; have L0 := look_48 hf7; have L1 := look_115 hf7; have L2 := look_48 hf7; have hm7 := (hm.below hBr).below (hB57.mono hBr.size) |>.more (Nat.le_trans hBr.size hB57.size))
                  | (with_reducible refine wpList_load_g (.tmp 5) 53 rfl g5 0 _ rfl j.cells 4 (jn4 j) aggIns hF57.sees rfl ?_)
                  | (go_at_call 85; with_reducible refine (may48_any m j (j.t : Int) _).mono ?_; rintro e w8 ⟨rfl, hB8⟩; have hF57 := hF57.below hB8; have e2 := hF57.cell_ (k := 2) rfl; have e3 := hF57.cell_ (k := 3) rfl; have hF7 := hF7.below hB8; have t1 := hF7.cell_ (k := 1) rfl; have t2 := hF7.cell_ (k := 2) rfl; have hf7 := hf7.below hB8; have L1 := look_115 hf7; have L2 := look_48 hf7; have hm7 := hm7.step hB8; have hB57 := hB57.trans (hB8.mono hB57.size))
                  | (go_at_call 92; with_reducible refine (may115_any m j j.a _ gp _ hf7.pg hm7).mono ?_; rintro e w8 ⟨rfl, hB8⟩; have hF57 := hF57.below hB8; have e2 := hF57.cell_ (k := 2) rfl; have e3 := hF57.cell_ (k := 3) rfl; have hF7 := hF7.below hB8; have t1 := hF7.cell_ (k := 1) rfl; have t2 := hF7.cell_ (k := 2) rfl; have hf7 := hf7.below hB8; have L1 := look_115 hf7; have L2 := look_48 hf7; have hm7 := hm7.step hB8; have hB57 := hB57.trans (hB8.mono hB57.size))
                  | (go_at_call 85; with_reducible refine (may48_any m j j.n _).mono ?_; rintro e w8 ⟨rfl, hB8⟩; have hF57 := hF57.below hB8; have e2 := hF57.cell_ (k := 2) rfl; have e3 := hF57.cell_ (k := 3) rfl; have hF7 := hF7.below hB8; have t1 := hF7.cell_ (k := 1) rfl; have t2 := hF7.cell_ (k := 2) rfl; have hf7 := hf7.below hB8; have L1 := look_115 hf7; have L2 := look_48 hf7; have hm7 := hm7.step hB8; have hB57 := hB57.trans (hB8.mono hB57.size)))
              all_goals first
                | (go_ret
                   exact ⟨ret_bool (by rw [insOk_no hx (by rw [jnOk_some hL]; first | (have q := not_of (by assumption : (!mayF m.p j 48 j.n) = true); simp [*]; done) | (simp [*]; done))]), hBr.trans (hB57.mono hBr.size)⟩)
                | (go_roundw
                   case rel =>
                     refine ⟨k + 1, by omega, by go_num, fun d hd => ?_, hf7, hBr.trans (hB57.mono hBr.size)⟩
                     rw [List.take_add_one, HX.out] at hd
                     simp at hd
                     rcases hd with hd | rfl
                     · exact HA.out d hd
                     · have q := not_of' (by assumption : (!mayF m.p d 48 d.n) = false)
                       rw [jnOk_some hL]; simp [*]
                   case measure => simp [intOf]; omega)
          · as_aux_lemma =>
              have SL : ∀ wq, Calls Try.prog 74 #[.int .u8 (j.op : Int)] wq fun e w' => e = .returned (.tuple #[.agg (tri3 119 48 48).toArray, .bool true]) ∧ Below wq.heap.size wq w' := fun wq => by
                have := letters_any j.op wq
                rw [hL] at this
                exact this
              go_wp2_with (first
                  | (with_reducible refine wpList_load rfl (.tmp 25) 53 rfl b (o + k * 4) _ rfl j.cells 4 (jn4 j) aggIns hc ?_)
                  | (with_reducible refine wpList_alloc (o := ⟨some 5, _, _, _, _, _⟩) rfl 53 rfl (Jn.cells default) zeroIns 4 (jn4 _) (by decide) ?_; intro g5 w3 hg5 hF3 hB3)
                  | (with_reducible refine wpList_store rfl rfl (.tmp 5) (.tmp 26) 53 rfl g5 0 wr.heap.size 53 4 (Jn.cells default) j.cells rfl rfl 4 (jn4 j) aggIns hF3 (by omega) (jn_one j) wr hB3 hg5 ?_; intro w4 hF4 hB4 hoth4 hz4; rw [splice4 (jn4 default) (jn4 j)] at hF4; have f0 := hF4.cell_ (k := 0) rfl)
                  | (go_at_call 74; refine (SL _).mono ?_; rintro e w5 ⟨rfl, hB5⟩; have hF5 := hF4.below hB5; have hB5 := hB4.trans (hB5.mono hB4.size))
                  | (with_reducible refine wpList_alloc (o := ⟨some 6, _, _, _, _, _⟩) rfl 116 rfl (tri3 0 0 0) zeroTri 3 rfl (by decide) ?_; intro g6 w6 hg6 hF6 hB6; have hF56 := hF5.below hB6; have hne56 : g5 ≠ g6 := by (have := hF5.lt_size; omega))
                  | (with_reducible refine wpList_store rfl rfl (.tmp 6) (.tmp 31) 116 rfl g6 0 w5.heap.size 116 3 (tri3 0 0 0) (tri3 119 48 48) rfl rfl 3 rfl aggTri hF6 (by omega) (tri_one _ _ _) w5 hB6 hg6 ?_; intro w7 hF7 hB7 hoth7 hz7; rw [splice4 (n := 3) rfl rfl] at hF7; have t0 := hF7.cell_ (k := 0) rfl; have t1 := hF7.cell_ (k := 1) rfl; have t2 := hF7.cell_ (k := 2) rfl; have hF57 := hF56.other hne56 hoth7; have e1 := hF57.cell_ (k := 1) rfl; have e2 := hF57.cell_ (k := 2) rfl; have e3 := hF57.cell_ (k := 3) rfl; have hB57 := hB5.trans (hB7.mono hB5.size); have hf7 := hfr.below hB57; have L0 := look_119 hf7; have L1 := look_48 hf7; have L2 := look_48 hf7; have hm7 := (hm.below hBr).below (hB57.mono hBr.size) |>.more (Nat.le_trans hBr.size hB57.size))
                  | (with_reducible refine wpList_load_g (.tmp 5) 53 rfl g5 0 _ rfl j.cells 4 (jn4 j) aggIns hF57.sees rfl ?_)
                  | (go_at_call 87; with_reducible refine (may119_any m j (j.t : Int) _).mono ?_; rintro e w8 ⟨rfl, hB8⟩; have hF57 := hF57.below hB8; have e2 := hF57.cell_ (k := 2) rfl; have e3 := hF57.cell_ (k := 3) rfl; have hF7 := hF7.below hB8; have t1 := hF7.cell_ (k := 1) rfl; have t2 := hF7.cell_ (k := 2) rfl; have hf7 := hf7.below hB8; have L1 := look_48 hf7; have L2 := look_48 hf7; have hm7 := hm7.step hB8; have hB57 := hB57.trans (hB8.mono hB57.size))
                  | (go_at_call 85; with_reducible refine (may48_any m j j.a _).mono ?_; rintro e w8 ⟨rfl, hB8⟩; have hF57 := hF57.below hB8; have e2 := hF57.cell_ (k := 2) rfl; have e3 := hF57.cell_ (k := 3) rfl; have hF7 := hF7.below hB8; have t1 := hF7.cell_ (k := 1) rfl; have t2 := hF7.cell_ (k := 2) rfl; have hf7 := hf7.below hB8; have L1 := look_48 hf7; have L2 := look_48 hf7; have hm7 := hm7.step hB8; have hB57 := hB57.trans (hB8.mono hB57.size))
                  | (go_at_call 85; with_reducible refine (may48_any m j j.n _).mono ?_; rintro e w8 ⟨rfl, hB8⟩; have hF57 := hF57.below hB8; have e2 := hF57.cell_ (k := 2) rfl; have e3 := hF57.cell_ (k := 3) rfl; have hF7 := hF7.below hB8; have t1 := hF7.cell_ (k := 1) rfl; have t2 := hF7.cell_ (k := 2) rfl; have hf7 := hf7.below hB8; have L1 := look_48 hf7; have L2 := look_48 hf7; have hm7 := hm7.step hB8; have hB57 := hB57.trans (hB8.mono hB57.size)))
              all_goals first
                | (go_ret
                   exact ⟨ret_bool (by rw [insOk_no hx (by rw [jnOk_some hL]; first | (have q := not_of (by assumption : (!mayF m.p j 48 j.n) = true); simp [*]; done) | (simp [*]; done))]), hBr.trans (hB57.mono hBr.size)⟩)
                | (go_roundw
                   case rel =>
                     refine ⟨k + 1, by omega, by go_num, fun d hd => ?_, hf7, hBr.trans (hB57.mono hBr.size)⟩
                     rw [List.take_add_one, HX.out] at hd
                     simp at hd
                     rcases hd with hd | rfl
                     · exact HA.out d hd
                     · have q := not_of' (by assumption : (!mayF m.p d 48 d.n) = false)
                       rw [jnOk_some hL]; simp [*]
                   case measure => simp [intOf]; omega)
          · as_aux_lemma =>
              have SL : ∀ wq, Calls Try.prog 74 #[.int .u8 (j.op : Int)] wq fun e w' => e = .returned (.tuple #[.agg (tri3 116 48 48).toArray, .bool true]) ∧ Below wq.heap.size wq w' := fun wq => by
                have := letters_any j.op wq
                rw [hL] at this
                exact this
              go_wp2_with (first
                  | (with_reducible refine wpList_load rfl (.tmp 25) 53 rfl b (o + k * 4) _ rfl j.cells 4 (jn4 j) aggIns hc ?_)
                  | (with_reducible refine wpList_alloc (o := ⟨some 5, _, _, _, _, _⟩) rfl 53 rfl (Jn.cells default) zeroIns 4 (jn4 _) (by decide) ?_; intro g5 w3 hg5 hF3 hB3)
                  | (with_reducible refine wpList_store rfl rfl (.tmp 5) (.tmp 26) 53 rfl g5 0 wr.heap.size 53 4 (Jn.cells default) j.cells rfl rfl 4 (jn4 j) aggIns hF3 (by omega) (jn_one j) wr hB3 hg5 ?_; intro w4 hF4 hB4 hoth4 hz4; rw [splice4 (jn4 default) (jn4 j)] at hF4; have f0 := hF4.cell_ (k := 0) rfl)
                  | (go_at_call 74; refine (SL _).mono ?_; rintro e w5 ⟨rfl, hB5⟩; have hF5 := hF4.below hB5; have hB5 := hB4.trans (hB5.mono hB4.size))
                  | (with_reducible refine wpList_alloc (o := ⟨some 6, _, _, _, _, _⟩) rfl 116 rfl (tri3 0 0 0) zeroTri 3 rfl (by decide) ?_; intro g6 w6 hg6 hF6 hB6; have hF56 := hF5.below hB6; have hne56 : g5 ≠ g6 := by (have := hF5.lt_size; omega))
                  | (with_reducible refine wpList_store rfl rfl (.tmp 6) (.tmp 31) 116 rfl g6 0 w5.heap.size 116 3 (tri3 0 0 0) (tri3 116 48 48) rfl rfl 3 rfl aggTri hF6 (by omega) (tri_one _ _ _) w5 hB6 hg6 ?_; intro w7 hF7 hB7 hoth7 hz7; rw [splice4 (n := 3) rfl rfl] at hF7; have t0 := hF7.cell_ (k := 0) rfl; have t1 := hF7.cell_ (k := 1) rfl; have t2 := hF7.cell_ (k := 2) rfl; have hF57 := hF56.other hne56 hoth7; have e1 := hF57.cell_ (k := 1) rfl; have e2 := hF57.cell_ (k := 2) rfl; have e3 := hF57.cell_ (k := 3) rfl; have hB57 := hB5.trans (hB7.mono hB5.size); have hf7 := hfr.below hB57; have L0 := look_116 hf7; have L1 := look_48 hf7; have L2 := look_48 hf7; have hm7 := (hm.below hBr).below (hB57.mono hBr.size) |>.more (Nat.le_trans hBr.size hB57.size))
                  | (with_reducible refine wpList_load_g (.tmp 5) 53 rfl g5 0 _ rfl j.cells 4 (jn4 j) aggIns hF57.sees rfl ?_)
                  | (go_at_call 86; with_reducible refine (may116_any m j (j.t : Int) _).mono ?_; rintro e w8 ⟨rfl, hB8⟩; have hF57 := hF57.below hB8; have e2 := hF57.cell_ (k := 2) rfl; have e3 := hF57.cell_ (k := 3) rfl; have hF7 := hF7.below hB8; have t1 := hF7.cell_ (k := 1) rfl; have t2 := hF7.cell_ (k := 2) rfl; have hf7 := hf7.below hB8; have L1 := look_48 hf7; have L2 := look_48 hf7; have hm7 := hm7.step hB8; have hB57 := hB57.trans (hB8.mono hB57.size))
                  | (go_at_call 85; with_reducible refine (may48_any m j j.a _).mono ?_; rintro e w8 ⟨rfl, hB8⟩; have hF57 := hF57.below hB8; have e2 := hF57.cell_ (k := 2) rfl; have e3 := hF57.cell_ (k := 3) rfl; have hF7 := hF7.below hB8; have t1 := hF7.cell_ (k := 1) rfl; have t2 := hF7.cell_ (k := 2) rfl; have hf7 := hf7.below hB8; have L1 := look_48 hf7; have L2 := look_48 hf7; have hm7 := hm7.step hB8; have hB57 := hB57.trans (hB8.mono hB57.size))
                  | (go_at_call 85; with_reducible refine (may48_any m j j.n _).mono ?_; rintro e w8 ⟨rfl, hB8⟩; have hF57 := hF57.below hB8; have e2 := hF57.cell_ (k := 2) rfl; have e3 := hF57.cell_ (k := 3) rfl; have hF7 := hF7.below hB8; have t1 := hF7.cell_ (k := 1) rfl; have t2 := hF7.cell_ (k := 2) rfl; have hf7 := hf7.below hB8; have L1 := look_48 hf7; have L2 := look_48 hf7; have hm7 := hm7.step hB8; have hB57 := hB57.trans (hB8.mono hB57.size)))
              all_goals first
                | (go_ret
                   exact ⟨ret_bool (by rw [insOk_no hx (by rw [jnOk_some hL]; first | (have q := not_of (by assumption : (!mayF m.p j 48 j.n) = true); simp [*]; done) | (simp [*]; done))]), hBr.trans (hB57.mono hBr.size)⟩)
                | (go_roundw
                   case rel =>
                     refine ⟨k + 1, by omega, by go_num, fun d hd => ?_, hf7, hBr.trans (hB57.mono hBr.size)⟩
                     rw [List.take_add_one, HX.out] at hd
                     simp at hd
                     rcases hd with hd | rfl
                     · exact HA.out d hd
                     · have q := not_of' (by assumption : (!mayF m.p d 48 d.n) = false)
                       rw [jnOk_some hL]; simp [*]
                   case measure => simp [intOf]; omega)
          · as_aux_lemma =>
              have SL : ∀ wq, Calls Try.prog 74 #[.int .u8 (j.op : Int)] wq fun e w' => e = .returned (.tuple #[.agg (tri3 116 116 48).toArray, .bool true]) ∧ Below wq.heap.size wq w' := fun wq => by
                have := letters_any j.op wq
                rw [hL] at this
                exact this
              go_wp2_with (first
                  | (with_reducible refine wpList_load rfl (.tmp 25) 53 rfl b (o + k * 4) _ rfl j.cells 4 (jn4 j) aggIns hc ?_)
                  | (with_reducible refine wpList_alloc (o := ⟨some 5, _, _, _, _, _⟩) rfl 53 rfl (Jn.cells default) zeroIns 4 (jn4 _) (by decide) ?_; intro g5 w3 hg5 hF3 hB3)
                  | (with_reducible refine wpList_store rfl rfl (.tmp 5) (.tmp 26) 53 rfl g5 0 wr.heap.size 53 4 (Jn.cells default) j.cells rfl rfl 4 (jn4 j) aggIns hF3 (by omega) (jn_one j) wr hB3 hg5 ?_; intro w4 hF4 hB4 hoth4 hz4; rw [splice4 (jn4 default) (jn4 j)] at hF4; have f0 := hF4.cell_ (k := 0) rfl)
                  | (go_at_call 74; refine (SL _).mono ?_; rintro e w5 ⟨rfl, hB5⟩; have hF5 := hF4.below hB5; have hB5 := hB4.trans (hB5.mono hB4.size))
                  | (with_reducible refine wpList_alloc (o := ⟨some 6, _, _, _, _, _⟩) rfl 116 rfl (tri3 0 0 0) zeroTri 3 rfl (by decide) ?_; intro g6 w6 hg6 hF6 hB6; have hF56 := hF5.below hB6; have hne56 : g5 ≠ g6 := by (have := hF5.lt_size; omega))
                  | (with_reducible refine wpList_store rfl rfl (.tmp 6) (.tmp 31) 116 rfl g6 0 w5.heap.size 116 3 (tri3 0 0 0) (tri3 116 116 48) rfl rfl 3 rfl aggTri hF6 (by omega) (tri_one _ _ _) w5 hB6 hg6 ?_; intro w7 hF7 hB7 hoth7 hz7; rw [splice4 (n := 3) rfl rfl] at hF7; have t0 := hF7.cell_ (k := 0) rfl; have t1 := hF7.cell_ (k := 1) rfl; have t2 := hF7.cell_ (k := 2) rfl; have hF57 := hF56.other hne56 hoth7; have e1 := hF57.cell_ (k := 1) rfl; have e2 := hF57.cell_ (k := 2) rfl; have e3 := hF57.cell_ (k := 3) rfl; have hB57 := hB5.trans (hB7.mono hB5.size); have hf7 := hfr.below hB57; have L0 := look_116 hf7; have L1 := look_116 hf7; have L2 := look_48 hf7; have hm7 := (hm.below hBr).below (hB57.mono hBr.size) |>.more (Nat.le_trans hBr.size hB57.size))
                  | (with_reducible refine wpList_load_g (.tmp 5) 53 rfl g5 0 _ rfl j.cells 4 (jn4 j) aggIns hF57.sees rfl ?_)
                  | (go_at_call 86; with_reducible refine (may116_any m j (j.t : Int) _).mono ?_; rintro e w8 ⟨rfl, hB8⟩; have hF57 := hF57.below hB8; have e2 := hF57.cell_ (k := 2) rfl; have e3 := hF57.cell_ (k := 3) rfl; have hF7 := hF7.below hB8; have t1 := hF7.cell_ (k := 1) rfl; have t2 := hF7.cell_ (k := 2) rfl; have hf7 := hf7.below hB8; have L1 := look_116 hf7; have L2 := look_48 hf7; have hm7 := hm7.step hB8; have hB57 := hB57.trans (hB8.mono hB57.size))
                  | (go_at_call 86; with_reducible refine (may116_any m j j.a _).mono ?_; rintro e w8 ⟨rfl, hB8⟩; have hF57 := hF57.below hB8; have e2 := hF57.cell_ (k := 2) rfl; have e3 := hF57.cell_ (k := 3) rfl; have hF7 := hF7.below hB8; have t1 := hF7.cell_ (k := 1) rfl; have t2 := hF7.cell_ (k := 2) rfl; have hf7 := hf7.below hB8; have L1 := look_116 hf7; have L2 := look_48 hf7; have hm7 := hm7.step hB8; have hB57 := hB57.trans (hB8.mono hB57.size))
                  | (go_at_call 85; with_reducible refine (may48_any m j j.n _).mono ?_; rintro e w8 ⟨rfl, hB8⟩; have hF57 := hF57.below hB8; have e2 := hF57.cell_ (k := 2) rfl; have e3 := hF57.cell_ (k := 3) rfl; have hF7 := hF7.below hB8; have t1 := hF7.cell_ (k := 1) rfl; have t2 := hF7.cell_ (k := 2) rfl; have hf7 := hf7.below hB8; have L1 := look_116 hf7; have L2 := look_48 hf7; have hm7 := hm7.step hB8; have hB57 := hB57.trans (hB8.mono hB57.size)))
              all_goals first
                | (go_ret
                   exact ⟨ret_bool (by rw [insOk_no hx (by rw [jnOk_some hL]; first | (have q := not_of (by assumption : (!mayF m.p j 48 j.n) = true); simp [*]; done) | (simp [*]; done))]), hBr.trans (hB57.mono hBr.size)⟩)
                | (go_roundw
                   case rel =>
                     refine ⟨k + 1, by omega, by go_num, fun d hd => ?_, hf7, hBr.trans (hB57.mono hBr.size)⟩
                     rw [List.take_add_one, HX.out] at hd
                     simp at hd
                     rcases hd with hd | rfl
                     · exact HA.out d hd
                     · have q := not_of' (by assumption : (!mayF m.p d 48 d.n) = false)
                       rw [jnOk_some hL]; simp [*]
                   case measure => simp [intOf]; omega)
          · as_aux_lemma =>
              have SL : ∀ wq, Calls Try.prog 74 #[.int .u8 (j.op : Int)] wq fun e w' => e = .returned (.tuple #[.agg (tri3 48 48 48).toArray, .bool true]) ∧ Below wq.heap.size wq w' := fun wq => by
                have := letters_any j.op wq
                rw [hL] at this
                exact this
              go_wp2_with (first
                  | (with_reducible refine wpList_load rfl (.tmp 25) 53 rfl b (o + k * 4) _ rfl j.cells 4 (jn4 j) aggIns hc ?_)
                  | (with_reducible refine wpList_alloc (o := ⟨some 5, _, _, _, _, _⟩) rfl 53 rfl (Jn.cells default) zeroIns 4 (jn4 _) (by decide) ?_; intro g5 w3 hg5 hF3 hB3)
                  | (with_reducible refine wpList_store rfl rfl (.tmp 5) (.tmp 26) 53 rfl g5 0 wr.heap.size 53 4 (Jn.cells default) j.cells rfl rfl 4 (jn4 j) aggIns hF3 (by omega) (jn_one j) wr hB3 hg5 ?_; intro w4 hF4 hB4 hoth4 hz4; rw [splice4 (jn4 default) (jn4 j)] at hF4; have f0 := hF4.cell_ (k := 0) rfl)
                  | (go_at_call 74; refine (SL _).mono ?_; rintro e w5 ⟨rfl, hB5⟩; have hF5 := hF4.below hB5; have hB5 := hB4.trans (hB5.mono hB4.size))
                  | (with_reducible refine wpList_alloc (o := ⟨some 6, _, _, _, _, _⟩) rfl 116 rfl (tri3 0 0 0) zeroTri 3 rfl (by decide) ?_; intro g6 w6 hg6 hF6 hB6; have hF56 := hF5.below hB6; have hne56 : g5 ≠ g6 := by (have := hF5.lt_size; omega))
                  | (with_reducible refine wpList_store rfl rfl (.tmp 6) (.tmp 31) 116 rfl g6 0 w5.heap.size 116 3 (tri3 0 0 0) (tri3 48 48 48) rfl rfl 3 rfl aggTri hF6 (by omega) (tri_one _ _ _) w5 hB6 hg6 ?_; intro w7 hF7 hB7 hoth7 hz7; rw [splice4 (n := 3) rfl rfl] at hF7; have t0 := hF7.cell_ (k := 0) rfl; have t1 := hF7.cell_ (k := 1) rfl; have t2 := hF7.cell_ (k := 2) rfl; have hF57 := hF56.other hne56 hoth7; have e1 := hF57.cell_ (k := 1) rfl; have e2 := hF57.cell_ (k := 2) rfl; have e3 := hF57.cell_ (k := 3) rfl; have hB57 := hB5.trans (hB7.mono hB5.size); have hf7 := hfr.below hB57; have L0 := look_48 hf7; have L1 := look_48 hf7; have L2 := look_48 hf7; have hm7 := (hm.below hBr).below (hB57.mono hBr.size) |>.more (Nat.le_trans hBr.size hB57.size))
                  | (with_reducible refine wpList_load_g (.tmp 5) 53 rfl g5 0 _ rfl j.cells 4 (jn4 j) aggIns hF57.sees rfl ?_)
                  | (go_at_call 85; with_reducible refine (may48_any m j (j.t : Int) _).mono ?_; rintro e w8 ⟨rfl, hB8⟩; have hF57 := hF57.below hB8; have e2 := hF57.cell_ (k := 2) rfl; have e3 := hF57.cell_ (k := 3) rfl; have hF7 := hF7.below hB8; have t1 := hF7.cell_ (k := 1) rfl; have t2 := hF7.cell_ (k := 2) rfl; have hf7 := hf7.below hB8; have L1 := look_48 hf7; have L2 := look_48 hf7; have hm7 := hm7.step hB8; have hB57 := hB57.trans (hB8.mono hB57.size))
                  | (go_at_call 85; with_reducible refine (may48_any m j j.a _).mono ?_; rintro e w8 ⟨rfl, hB8⟩; have hF57 := hF57.below hB8; have e2 := hF57.cell_ (k := 2) rfl; have e3 := hF57.cell_ (k := 3) rfl; have hF7 := hF7.below hB8; have t1 := hF7.cell_ (k := 1) rfl; have t2 := hF7.cell_ (k := 2) rfl; have hf7 := hf7.below hB8; have L1 := look_48 hf7; have L2 := look_48 hf7; have hm7 := hm7.step hB8; have hB57 := hB57.trans (hB8.mono hB57.size))
                  | (go_at_call 85; with_reducible refine (may48_any m j j.n _).mono ?_; rintro e w8 ⟨rfl, hB8⟩; have hF57 := hF57.below hB8; have e2 := hF57.cell_ (k := 2) rfl; have e3 := hF57.cell_ (k := 3) rfl; have hF7 := hF7.below hB8; have t1 := hF7.cell_ (k := 1) rfl; have t2 := hF7.cell_ (k := 2) rfl; have hf7 := hf7.below hB8; have L1 := look_48 hf7; have L2 := look_48 hf7; have hm7 := hm7.step hB8; have hB57 := hB57.trans (hB8.mono hB57.size)))
              all_goals first
                | (go_ret
                   exact ⟨ret_bool (by rw [insOk_no hx (by rw [jnOk_some hL]; first | (have q := not_of (by assumption : (!mayF m.p j 48 j.n) = true); simp [*]; done) | (simp [*]; done))]), hBr.trans (hB57.mono hBr.size)⟩)
                | (go_roundw
                   case rel =>
                     refine ⟨k + 1, by omega, by go_num, fun d hd => ?_, hf7, hBr.trans (hB57.mono hBr.size)⟩
                     rw [List.take_add_one, HX.out] at hd
                     simp at hd
                     rcases hd with hd | rfl
                     · exact HA.out d hd
                     · have q := not_of' (by assumption : (!mayF m.p d 48 d.n) = false)
                       rw [jnOk_some hL]; simp [*]
                   case measure => simp [intOf]; omega)
          · as_aux_lemma =>
              have SL : ∀ wq, Calls Try.prog 74 #[.int .u8 (j.op : Int)] wq fun e w' => e = .returned (.tuple #[.agg (tri3 48 106 48).toArray, .bool true]) ∧ Below wq.heap.size wq w' := fun wq => by
                have := letters_any j.op wq
                rw [hL] at this
                exact this
              go_wp2_with (first
                  | (with_reducible refine wpList_load rfl (.tmp 25) 53 rfl b (o + k * 4) _ rfl j.cells 4 (jn4 j) aggIns hc ?_)
                  | (with_reducible refine wpList_alloc (o := ⟨some 5, _, _, _, _, _⟩) rfl 53 rfl (Jn.cells default) zeroIns 4 (jn4 _) (by decide) ?_; intro g5 w3 hg5 hF3 hB3)
                  | (with_reducible refine wpList_store rfl rfl (.tmp 5) (.tmp 26) 53 rfl g5 0 wr.heap.size 53 4 (Jn.cells default) j.cells rfl rfl 4 (jn4 j) aggIns hF3 (by omega) (jn_one j) wr hB3 hg5 ?_; intro w4 hF4 hB4 hoth4 hz4; rw [splice4 (jn4 default) (jn4 j)] at hF4; have f0 := hF4.cell_ (k := 0) rfl)
                  | (go_at_call 74; refine (SL _).mono ?_; rintro e w5 ⟨rfl, hB5⟩; have hF5 := hF4.below hB5; have hB5 := hB4.trans (hB5.mono hB4.size))
                  | (with_reducible refine wpList_alloc (o := ⟨some 6, _, _, _, _, _⟩) rfl 116 rfl (tri3 0 0 0) zeroTri 3 rfl (by decide) ?_; intro g6 w6 hg6 hF6 hB6; have hF56 := hF5.below hB6; have hne56 : g5 ≠ g6 := by (have := hF5.lt_size; omega))
                  | (with_reducible refine wpList_store rfl rfl (.tmp 6) (.tmp 31) 116 rfl g6 0 w5.heap.size 116 3 (tri3 0 0 0) (tri3 48 106 48) rfl rfl 3 rfl aggTri hF6 (by omega) (tri_one _ _ _) w5 hB6 hg6 ?_; intro w7 hF7 hB7 hoth7 hz7; rw [splice4 (n := 3) rfl rfl] at hF7; have t0 := hF7.cell_ (k := 0) rfl; have t1 := hF7.cell_ (k := 1) rfl; have t2 := hF7.cell_ (k := 2) rfl; have hF57 := hF56.other hne56 hoth7; have e1 := hF57.cell_ (k := 1) rfl; have e2 := hF57.cell_ (k := 2) rfl; have e3 := hF57.cell_ (k := 3) rfl; have hB57 := hB5.trans (hB7.mono hB5.size); have hf7 := hfr.below hB57; have L0 := look_48 hf7; have L1 := look_106 hf7; have L2 := look_48 hf7; have hm7 := (hm.below hBr).below (hB57.mono hBr.size) |>.more (Nat.le_trans hBr.size hB57.size))
                  | (with_reducible refine wpList_load_g (.tmp 5) 53 rfl g5 0 _ rfl j.cells 4 (jn4 j) aggIns hF57.sees rfl ?_)
                  | (go_at_call 85; with_reducible refine (may48_any m j (j.t : Int) _).mono ?_; rintro e w8 ⟨rfl, hB8⟩; have hF57 := hF57.below hB8; have e2 := hF57.cell_ (k := 2) rfl; have e3 := hF57.cell_ (k := 3) rfl; have hF7 := hF7.below hB8; have t1 := hF7.cell_ (k := 1) rfl; have t2 := hF7.cell_ (k := 2) rfl; have hf7 := hf7.below hB8; have L1 := look_106 hf7; have L2 := look_48 hf7; have hm7 := hm7.step hB8; have hB57 := hB57.trans (hB8.mono hB57.size))
                  | (go_at_call 93; with_reducible refine (may106_any m j j.a _ gp _ hf7.pg hm7 (by omega)).mono ?_; rintro e w8 ⟨rfl, hB8⟩; have hF57 := hF57.below hB8; have e2 := hF57.cell_ (k := 2) rfl; have e3 := hF57.cell_ (k := 3) rfl; have hF7 := hF7.below hB8; have t1 := hF7.cell_ (k := 1) rfl; have t2 := hF7.cell_ (k := 2) rfl; have hf7 := hf7.below hB8; have L1 := look_106 hf7; have L2 := look_48 hf7; have hm7 := hm7.step hB8; have hB57 := hB57.trans (hB8.mono hB57.size))
                  | (go_at_call 85; with_reducible refine (may48_any m j j.n _).mono ?_; rintro e w8 ⟨rfl, hB8⟩; have hF57 := hF57.below hB8; have e2 := hF57.cell_ (k := 2) rfl; have e3 := hF57.cell_ (k := 3) rfl; have hF7 := hF7.below hB8; have t1 := hF7.cell_ (k := 1) rfl; have t2 := hF7.cell_ (k := 2) rfl; have hf7 := hf7.below hB8; have L1 := look_106 hf7; have L2 := look_48 hf7; have hm7 := hm7.step hB8; have hB57 := hB57.trans (hB8.mono hB57.size)))
              all_goals first
                | (go_ret
                   exact ⟨ret_bool (by rw [insOk_no hx (by rw [jnOk_some hL]; first | (have q := not_of (by assumption : (!mayF m.p j 48 j.n) = true); simp [*]; done) | (simp [*]; done))]), hBr.trans (hB57.mono hBr.size)⟩)
                | (go_roundw
                   case rel =>
                     refine ⟨k + 1, by omega, by go_num, fun d hd => ?_, hf7, hBr.trans (hB57.mono hBr.size)⟩
                     rw [List.take_add_one, HX.out] at hd
                     simp at hd
                     rcases hd with hd | rfl
                     · exact HA.out d hd
                     · have q := not_of' (by assumption : (!mayF m.p d 48 d.n) = false)
                       rw [jnOk_some hL]; simp [*]
                   case measure => simp [intOf]; omega)
          · as_aux_lemma =>
              have SL : ∀ wq, Calls Try.prog 74 #[.int .u8 (j.op : Int)] wq fun e w' => e = .returned (.tuple #[.agg (tri3 48 98 48).toArray, .bool true]) ∧ Below wq.heap.size wq w' := fun wq => by
                have := letters_any j.op wq
                rw [hL] at this
                exact this
              go_wp2_with (first
                  | (with_reducible refine wpList_load rfl (.tmp 25) 53 rfl b (o + k * 4) _ rfl j.cells 4 (jn4 j) aggIns hc ?_)
                  | (with_reducible refine wpList_alloc (o := ⟨some 5, _, _, _, _, _⟩) rfl 53 rfl (Jn.cells default) zeroIns 4 (jn4 _) (by decide) ?_; intro g5 w3 hg5 hF3 hB3)
                  | (with_reducible refine wpList_store rfl rfl (.tmp 5) (.tmp 26) 53 rfl g5 0 wr.heap.size 53 4 (Jn.cells default) j.cells rfl rfl 4 (jn4 j) aggIns hF3 (by omega) (jn_one j) wr hB3 hg5 ?_; intro w4 hF4 hB4 hoth4 hz4; rw [splice4 (jn4 default) (jn4 j)] at hF4; have f0 := hF4.cell_ (k := 0) rfl)
                  | (go_at_call 74; refine (SL _).mono ?_; rintro e w5 ⟨rfl, hB5⟩; have hF5 := hF4.below hB5; have hB5 := hB4.trans (hB5.mono hB4.size))
                  | (with_reducible refine wpList_alloc (o := ⟨some 6, _, _, _, _, _⟩) rfl 116 rfl (tri3 0 0 0) zeroTri 3 rfl (by decide) ?_; intro g6 w6 hg6 hF6 hB6; have hF56 := hF5.below hB6; have hne56 : g5 ≠ g6 := by (have := hF5.lt_size; omega))
                  | (with_reducible refine wpList_store rfl rfl (.tmp 6) (.tmp 31) 116 rfl g6 0 w5.heap.size 116 3 (tri3 0 0 0) (tri3 48 98 48) rfl rfl 3 rfl aggTri hF6 (by omega) (tri_one _ _ _) w5 hB6 hg6 ?_; intro w7 hF7 hB7 hoth7 hz7; rw [splice4 (n := 3) rfl rfl] at hF7; have t0 := hF7.cell_ (k := 0) rfl; have t1 := hF7.cell_ (k := 1) rfl; have t2 := hF7.cell_ (k := 2) rfl; have hF57 := hF56.other hne56 hoth7; have e1 := hF57.cell_ (k := 1) rfl; have e2 := hF57.cell_ (k := 2) rfl; have e3 := hF57.cell_ (k := 3) rfl; have hB57 := hB5.trans (hB7.mono hB5.size); have hf7 := hfr.below hB57; have L0 := look_48 hf7; have L1 := look_98 hf7; have L2 := look_48 hf7; have hm7 := (hm.below hBr).below (hB57.mono hBr.size) |>.more (Nat.le_trans hBr.size hB57.size))
                  | (with_reducible refine wpList_load_g (.tmp 5) 53 rfl g5 0 _ rfl j.cells 4 (jn4 j) aggIns hF57.sees rfl ?_)
                  | (go_at_call 85; with_reducible refine (may48_any m j (j.t : Int) _).mono ?_; rintro e w8 ⟨rfl, hB8⟩; have hF57 := hF57.below hB8; have e2 := hF57.cell_ (k := 2) rfl; have e3 := hF57.cell_ (k := 3) rfl; have hF7 := hF7.below hB8; have t1 := hF7.cell_ (k := 1) rfl; have t2 := hF7.cell_ (k := 2) rfl; have hf7 := hf7.below hB8; have L1 := look_98 hf7; have L2 := look_48 hf7; have hm7 := hm7.step hB8; have hB57 := hB57.trans (hB8.mono hB57.size))
                  | (go_at_call 94; with_reducible refine (may98_any m j j.a _ gp _ hf7.pg hm7).mono ?_; rintro e w8 ⟨rfl, hB8⟩; have hF57 := hF57.below hB8; have e2 := hF57.cell_ (k := 2) rfl; have e3 := hF57.cell_ (k := 3) rfl; have hF7 := hF7.below hB8; have t1 := hF7.cell_ (k := 1) rfl; have t2 := hF7.cell_ (k := 2) rfl; have hf7 := hf7.below hB8; have L1 := look_98 hf7; have L2 := look_48 hf7; have hm7 := hm7.step hB8; have hB57 := hB57.trans (hB8.mono hB57.size))
                  | (go_at_call 85; with_reducible refine (may48_any m j j.n _).mono ?_; rintro e w8 ⟨rfl, hB8⟩; have hF57 := hF57.below hB8; have e2 := hF57.cell_ (k := 2) rfl; have e3 := hF57.cell_ (k := 3) rfl; have hF7 := hF7.below hB8; have t1 := hF7.cell_ (k := 1) rfl; have t2 := hF7.cell_ (k := 2) rfl; have hf7 := hf7.below hB8; have L1 := look_98 hf7; have L2 := look_48 hf7; have hm7 := hm7.step hB8; have hB57 := hB57.trans (hB8.mono hB57.size)))
              all_goals first
                | (go_ret
                   exact ⟨ret_bool (by rw [insOk_no hx (by rw [jnOk_some hL]; first | (have q := not_of (by assumption : (!mayF m.p j 48 j.n) = true); simp [*]; done) | (simp [*]; done))]), hBr.trans (hB57.mono hBr.size)⟩)
                | (go_roundw
                   case rel =>
                     refine ⟨k + 1, by omega, by go_num, fun d hd => ?_, hf7, hBr.trans (hB57.mono hBr.size)⟩
                     rw [List.take_add_one, HX.out] at hd
                     simp at hd
                     rcases hd with hd | rfl
                     · exact HA.out d hd
                     · have q := not_of' (by assumption : (!mayF m.p d 48 d.n) = false)
                       rw [jnOk_some hL]; simp [*]
                   case measure => simp [intOf]; omega)
          · as_aux_lemma =>
              have SL : ∀ wq, Calls Try.prog 74 #[.int .u8 (j.op : Int)] wq fun e w' => e = .returned (.tuple #[.agg (tri3 48 98 111).toArray, .bool true]) ∧ Below wq.heap.size wq w' := fun wq => by
                have := letters_any j.op wq
                rw [hL] at this
                exact this
              go_wp2_with (first
                  | (with_reducible refine wpList_load rfl (.tmp 25) 53 rfl b (o + k * 4) _ rfl j.cells 4 (jn4 j) aggIns hc ?_)
                  | (with_reducible refine wpList_alloc (o := ⟨some 5, _, _, _, _, _⟩) rfl 53 rfl (Jn.cells default) zeroIns 4 (jn4 _) (by decide) ?_; intro g5 w3 hg5 hF3 hB3)
                  | (with_reducible refine wpList_store rfl rfl (.tmp 5) (.tmp 26) 53 rfl g5 0 wr.heap.size 53 4 (Jn.cells default) j.cells rfl rfl 4 (jn4 j) aggIns hF3 (by omega) (jn_one j) wr hB3 hg5 ?_; intro w4 hF4 hB4 hoth4 hz4; rw [splice4 (jn4 default) (jn4 j)] at hF4; have f0 := hF4.cell_ (k := 0) rfl)
                  | (go_at_call 74; refine (SL _).mono ?_; rintro e w5 ⟨rfl, hB5⟩; have hF5 := hF4.below hB5; have hB5 := hB4.trans (hB5.mono hB4.size))
                  | (with_reducible refine wpList_alloc (o := ⟨some 6, _, _, _, _, _⟩) rfl 116 rfl (tri3 0 0 0) zeroTri 3 rfl (by decide) ?_; intro g6 w6 hg6 hF6 hB6; have hF56 := hF5.below hB6; have hne56 : g5 ≠ g6 := by (have := hF5.lt_size; omega))
                  | (with_reducible refine wpList_store rfl rfl (.tmp 6) (.tmp 31) 116 rfl g6 0 w5.heap.size 116 3 (tri3 0 0 0) (tri3 48 98 111) rfl rfl 3 rfl aggTri hF6 (by omega) (tri_one _ _ _) w5 hB6 hg6 ?_; intro w7 hF7 hB7 hoth7 hz7; rw [splice4 (n := 3) rfl rfl] at hF7; have t0 := hF7.cell_ (k := 0) rfl; have t1 := hF7.cell_ (k := 1) rfl; have t2 := hF7.cell_ (k := 2) rfl; have hF57 := hF56.other hne56 hoth7; have e1 := hF57.cell_ (k := 1) rfl; have e2 := hF57.cell_ (k := 2) rfl; have e3 := hF57.cell_ (k := 3) rfl; have hB57 := hB5.trans (hB7.mono hB5.size); have hf7 := hfr.below hB57; have L0 := look_48 hf7; have L1 := look_98 hf7; have L2 := look_111 hf7; have hm7 := (hm.below hBr).below (hB57.mono hBr.size) |>.more (Nat.le_trans hBr.size hB57.size))
                  | (with_reducible refine wpList_load_g (.tmp 5) 53 rfl g5 0 _ rfl j.cells 4 (jn4 j) aggIns hF57.sees rfl ?_)
                  | (go_at_call 85; with_reducible refine (may48_any m j (j.t : Int) _).mono ?_; rintro e w8 ⟨rfl, hB8⟩; have hF57 := hF57.below hB8; have e2 := hF57.cell_ (k := 2) rfl; have e3 := hF57.cell_ (k := 3) rfl; have hF7 := hF7.below hB8; have t1 := hF7.cell_ (k := 1) rfl; have t2 := hF7.cell_ (k := 2) rfl; have hf7 := hf7.below hB8; have L1 := look_98 hf7; have L2 := look_111 hf7; have hm7 := hm7.step hB8; have hB57 := hB57.trans (hB8.mono hB57.size))
                  | (go_at_call 94; with_reducible refine (may98_any m j j.a _ gp _ hf7.pg hm7).mono ?_; rintro e w8 ⟨rfl, hB8⟩; have hF57 := hF57.below hB8; have e2 := hF57.cell_ (k := 2) rfl; have e3 := hF57.cell_ (k := 3) rfl; have hF7 := hF7.below hB8; have t1 := hF7.cell_ (k := 1) rfl; have t2 := hF7.cell_ (k := 2) rfl; have hf7 := hf7.below hB8; have L1 := look_98 hf7; have L2 := look_111 hf7; have hm7 := hm7.step hB8; have hB57 := hB57.trans (hB8.mono hB57.size))
                  | (go_at_call 95; with_reducible refine (may111_any m j j.n _ gp _ hf7.pg hm7 (of98 (by assumption) hm7)).mono ?_; rintro e w8 ⟨rfl, hB8⟩; have hF57 := hF57.below hB8; have e2 := hF57.cell_ (k := 2) rfl; have e3 := hF57.cell_ (k := 3) rfl; have hF7 := hF7.below hB8; have t1 := hF7.cell_ (k := 1) rfl; have t2 := hF7.cell_ (k := 2) rfl; have hf7 := hf7.below hB8; have L1 := look_98 hf7; have L2 := look_111 hf7; have hm7 := hm7.step hB8; have hB57 := hB57.trans (hB8.mono hB57.size)))
              all_goals first
                | (go_ret
                   exact ⟨ret_bool (by rw [insOk_no hx (by rw [jnOk_some hL]; first | (have q := not_of (by assumption : (!mayF m.p j 111 j.n) = true); simp [*]; done) | (simp [*]; done))]), hBr.trans (hB57.mono hBr.size)⟩)
                | (go_roundw
                   case rel =>
                     refine ⟨k + 1, by omega, by go_num, fun d hd => ?_, hf7, hBr.trans (hB57.mono hBr.size)⟩
                     rw [List.take_add_one, HX.out] at hd
                     simp at hd
                     rcases hd with hd | rfl
                     · exact HA.out d hd
                     · have q := not_of' (by assumption : (!mayF m.p d 111 d.n) = false)
                       rw [jnOk_some hL]; simp [*]
                   case measure => simp [intOf]; omega)
        · go_wp2_with fail
          go_ret
          refine ⟨ret_bool ?_, hBr⟩
          have hall := HA.out
          rw [List.take_of_length_le (by rw [hni.out]; omega)] at hall
          have h3 : m.p.ins.all (jnOk m.p) = true := by
            rw [List.all_eq_true]
            exact hall
          rw [insOk, h3, hni.out, show decide (1 ≤ m.ni) = true from by simp; omega, show decide (m.ni ≤ 2000) = true from by simp; omega]
          rfl
end Go.Proofs.Ytangblcfdboghaa
