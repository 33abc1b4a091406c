/-
  The document's own Sum and Of of layer 2.
-/
import Derived.Test.YtggcapkipcdlmaaRefWrite
namespace Go.Proofs.Ytggcapkipcdlmaa
open Go.RowKit
set_option linter.unusedVariables false

def digQ (st : List UInt32) (i q : Nat) (x : UInt32) : List UInt8 := (digF st).take (4 * i) ++ ((List.replicate (4 - q) 0 ++ (wd x.toNat).drop (4 - q)) ++ List.replicate (28 - 4 * i) 0)
theorem digQ_zero (st : List UInt32) (i : Nat) (x : UInt32) (hi : i < 8) : digQ st i 0 x = digK st (4 * i) := by
  unfold digQ digK
  congr 1
  have : (wd x.toNat).drop 4 = [] := by simp [wd]
  rw [show 4 - 0 = 4 from rfl, this, List.append_nil, List.replicate_append_replicate]
  congr 1
  omega
theorem digF_split (st : List UInt32) (i : Nat) (x : UInt32) (hx : st[i]? = some x) : (digF st).take (4 * (i + 1)) = (digF st).take (4 * i) ++ wd x.toNat := by
  induction st generalizing i with
  | nil => simp at hx
  | cons y st ih =>
    have e : digF (y :: st) = wd y.toNat ++ digF st := rfl
    have l : (wd y.toNat).length = 4 := by simp [wd]
    rw [e]
    cases i with
    | zero =>
      obtain rfl : y = x := by simpa using hx
      simp [List.take_append, l]
    | succ i =>
      rw [List.take_append, List.take_append, l, List.take_of_length_le (l := wd y.toNat) (by rw [l]; omega), List.take_of_length_le (l := wd y.toNat) (by rw [l]; omega), show 4 * (i + 1 + 1) - 4 = 4 * (i + 1) from by omega, show 4 * (i + 1) - 4 = 4 * i from by omega, ih i (by simpa using hx), List.append_assoc]
theorem digQ_four (st : List UInt32) (i : Nat) (x : UInt32) (hi : i < 8) (hx : st[i]? = some x) : digQ st i 4 x = digK st (4 * (i + 1)) := by
  unfold digQ digK
  rw [digF_split st i x hx]
  simp
  omega
theorem digQ_set (st : List UInt32) (i q p : Nat) (x : UInt32) (hi : i < 8) (hs : st.length = 8) (hq : p + q = 3) : (digQ st i q x).set (4 * i + p) (UInt8.ofNat (x.toNat / 256 ^ q % 256)) = digQ st i (q + 1) x := by
  have hl : ((digF st).take (4 * i)).length = 4 * i := by rw [List.length_take, len_digF, hs]; omega
  unfold digQ
  rw [List.set_append_right _ _ (by rw [hl]; omega), hl, show 4 * i + p - 4 * i = p from by omega]
  congr 1
  rw [List.set_append_left _ _ (by simp [wd]; omega)]
  congr 1
  match q, hq with
  | 0, hq => obtain rfl : p = 3 := by omega
             simp [wd, List.replicate, byteAt]
  | 1, hq => obtain rfl : p = 2 := by omega
             simp [wd, List.replicate, byteAt]
  | 2, hq => obtain rfl : p = 1 := by omega
             simp [wd, List.replicate, byteAt]
  | 3, hq => obtain rfl : p = 0 := by omega
             simp [wd, byteAt]
def rsmFacts (B gh : Nat) (tab : List Value) (s keys : List UInt32) (rv : Value) (rest : List UInt8) (n : Nat) (j : Nat) (v : Value) (w : World) : Prop :=
  match j with
  | 0 => v = .agg tab.toArray
  | 1 => v = .agg (hz s rv (n : Int)).toArray
  | 2 => v = .pointer (some ⟨gh, 9, none⟩)
  | 3 => v = .int .i64 (n : Int)
  | 4 => ∃ A c, v = .slice A (9 + noughts n) c ∧ 9 + noughts n ≤ c ∧ Sees w w.heap.size A (cb (padL n))
  | 5 => ∃ v' L', v = .agg (hz (stAll keys s (rest ++ padL n)) v' L').toArray ∧ v'.oneCell' = true
  | 6 => ∃ g, v = .pointer (some ⟨g, 0, none⟩) ∧ Fresh B 29 w (some ⟨g, 0, none⟩) 10 10 (hz (List.replicate 8 0) (.slice none 0 0) 0)
  | _ => True
theorem rsmFacts_stab (B gh : Nat) (tab : List Value) (s keys : List UInt32) (rv : Value) (rest : List UInt8) (n : Nat) : ∀ j v w w', Below w.heap.size w w' → rsmFacts B gh tab s keys rv rest n j v w → rsmFacts B gh tab s keys rv rest n j v w' := fun j v w w' hb h =>
  match j, h with
  | 0, h => h
  | 1, h => h
  | 2, h => h
  | 3, h => h
  | 4, ⟨A, c, e, h1, h2⟩ => ⟨A, c, e, h1, h2.step hb⟩
  | 5, h => h
  | 6, ⟨g, e, h⟩ => ⟨g, e, h.below hb⟩
  | _ + 7, _ => trivial
set_option maxHeartbeats 2000000 in
set_option maxRecDepth 100000 in
theorem rSum_any (first keys s : List UInt32) (R : Option Addr) (m cr n : Nat) (rest : List UInt8) (w : World) (h1 : first.length = 8) (h2 : keys.length = 64) (hs : s.length = 8) (hr : Right m (n : Int)) (hR : Sees w w.heap.size R (cb rest)) (hm : rest.length = m) :
    Calls Try.prog 16 #[.agg (cw (first ++ keys)).toArray, .agg (hz s (.slice R m cr) (n : Int)).toArray] w fun e w' => e = .returned (.agg (cb (sumF keys s rest n)).toArray) ∧ Below w.heap.size w w' := by
  have HS := Lib.hid hs
  have HM := Lib.hid hm
  have H1 := Lib.hid h1
  have H2 := Lib.hid h2
  have HK : Hid ((cw (first ++ keys)).length = 72) := Lib.hid (by simp [h1, h2])
  have hn56 : n ≤ 72057594037927936 := by have := hr.2.1; omega
  have HR := Lib.hid hr
  clear hr hs hm h1 h2
  go_enter Try.func16, Try.ntmps16
  go_wp2_with (first
    | (with_reducible refine wpList_box (o := ⟨some 2, _, _, _, _, _⟩) rfl (.tmp 0) 26 rfl (cw (first ++ keys)) rfl 72 HK.out (by decide) ?_; intro gt w1 hgt hFt hBt; have z1 := hBt.size)
    | (with_reducible refine wpList_box (o := ⟨some 3, _, _, _, _, _⟩) rfl (.tmp 1) 29 rfl (hz s (.slice R m cr) (n : Int)) rfl 10 (hz_len _ _ _ HS.out) (by decide) ?_; intro gh w2 hgh hFh hBh; have z2 := hBh.size)
    | (with_reducible refine wpList_alloc (o := ⟨some 4, _, _, _, _, _⟩) rfl 40 rfl (cb (List.replicate 32 0)) (by kernel_rfl) 32 (by simp) (by decide) ?_; intro gr w3 hgr hFr hBr; have z3 := hBr.size)
    | (with_reducible refine wpList_alloc (o := ⟨some 5, _, _, _, _, _⟩) rfl 40 rfl (cb (List.replicate 32 0)) (by kernel_rfl) 32 (by simp) (by decide) ?_; intro gd w4 hgd hFd hBd; have z4 := hBd.size; have hFh4 := (hFh.below hBr).below hBd)
    | (with_reducible refine wpList_load (o := ⟨some 10, _, _, _, _, _⟩) rfl (.tmp 3) 29 rfl gh 0 _ rfl (hz s (.slice R m cr) (n : Int)) 10 (hz_len _ _ _ HS.out) (by kernel_rfl) hFh4.sees ?_)
    | (go_at_call 69; refine (rright_true s R m cr (n : Int) _ HS.out HR.out).mono ?_; rintro e w5 ⟨rfl, hB5⟩; have z5 := hB5.size))
  have lt := hFt.lt_size
  have lh := hFh.lt_size
  have lr := hFr.lt_size
  have ld := hFd.lt_size
  have hB05 := Below.then_ (Below.then_ (Below.then_ (Below.then_ hBt hBh) hBr) hBd) hB5
  have hT3 := (((hFt.below hBh).below hBr).below hBd).below hB5
  have hH3 := hFh4.below hB5
  have hR3 := ((hFr.below hBd).below hB5).lower (base' := w.heap.size) (by omega)
  have hD3 := (hFd.below hB5).lower (base' := w.heap.size) (by omega)
  have hRs3 := hR.step hB05
  have z05 := hB05.size
  clear hFt hFh hFr hFd hBt hBh hBr hBd hB5 hFh4 hR
  refine region_all_tail 7 (rsmFacts w5.heap.size gh (cw (first ++ keys)) s keys (.slice R m cr) rest n) (by kernel_rfl) (by kernel_rfl) (by kernel_rfl) (rsmFacts_stab _ _ _ _ _ _ _ _) ?_ ?_
  · intro w0 hb0
    simp only [List.take_succ_cons, List.take_zero]
    refine ⟨?_, ?_, ?_, ?_, ?_, ?_, ?_, trivial⟩
    all_goals intro listed a1 w' hk hd
    · have f2 : a1.eval (.tmp 2) = .pointer (some ⟨gt, 0, none⟩) := hk.ev_old 2 (by kernel_rfl)
      exact stepOk_value rfl (run_load_agg (.tmp 2) 26 rfl f2 (cw (first ++ keys)) 72 HK.out (by kernel_rfl) ((hT3.below hb0).below hk.below).sees) rfl
    · have f2 : a1.eval (.tmp 3) = .pointer (some ⟨gh, 0, none⟩) := hk.ev_old 3 (by kernel_rfl)
      exact stepOk_value rfl (run_load_agg (.tmp 3) 29 rfl f2 (hz s (.slice R m cr) (n : Int)) 10 (hz_len _ _ _ HS.out) (by kernel_rfl) ((hH3.below hb0).below hk.below).sees) rfl
    · have f3_ : a1.eval (.tmp 3) = .pointer (some ⟨gh, 0, none⟩) := hk.ev_old 3 (by kernel_rfl)
      have g3_ : a1.tmps[3]?.getD undef = .pointer (some ⟨gh, 0, none⟩) := by simpa [Act.eval] using f3_
      exact stepOk_value rfl (v := .pointer (some ⟨gh, 9, none⟩)) (by go_simp) rfl
    · obtain ⟨v2, e2, q2, rfl⟩ := hk.ev_new hd 2 16 (by kernel_rfl) rfl
      have c9 := ((hH3.below hb0).below hk.below).cell_ (hz_n s (.slice R m cr) (n : Int) HS.out)
      exact stepOk_value rfl (v := .int .i64 (n : Int)) (by go_simp) rfl
    · obtain ⟨v3, e3, q3, rfl⟩ := hk.ev_new hd 3 17 (by kernel_rfl) rfl
      refine stepOk_enter rfl (f := 22) (args := #[.int .i64 (n : Int)]) (by go_simp) ?_
      refine (rPad_any n (noughts n) _ (by omega) rfl).mono ?_
      rintro e w5 ⟨A5, c5, rfl, hF5, hB5⟩
      exact ⟨_, rfl, ⟨A5, c5, rfl, hF5.cap.1, hF5.sees⟩, hB5⟩
    · obtain ⟨v0, e0, q0, rfl⟩ := hk.ev_new hd 0 14 (by kernel_rfl) rfl
      obtain ⟨v1, e1, q1, rfl⟩ := hk.ev_new hd 1 15 (by kernel_rfl) rfl
      obtain ⟨v4, e4, q4, A5, c5, rfl, hcap, hS5⟩ := hk.ev_new hd 4 18 (by kernel_rfl) rfl
      refine stepOk_enter rfl (f := 12) (args := #[.agg (cw (first ++ keys)).toArray, .agg (hz s (.slice R m cr) (n : Int)).toArray, .slice A5 (9 + noughts n) c5]) (by go_simp) ?_
      have hnt : noughts n < 64 := Nat.mod_lt _ (by omega)
      refine (rWrite_any first keys s R A5 m cr (9 + noughts n) c5 (n : Int) rest (padL n) _ H1.out H2.out HS.out HR.out ((hRs3.step hb0).step hk.below) HM.out hS5 (len_padL n) (by omega)).mono ?_
      rintro e w5 ⟨A6, c6, rfl, hF6, hB6⟩
      exact ⟨_, rfl, ⟨_, _, rfl, rfl⟩, hB6⟩
    · refine stepOk_run rfl (v := .pointer (some ⟨w'.heap.size, 0, none⟩)) (w' := w'.alloc (.cells (hz (List.replicate 8 0) (.slice none 0 0) 0).toArray 29 (0, 0))) ?_ ⟨_, rfl, (Fresh.new w' 29 (hz (List.replicate 8 0) (.slice none 0 0) 0) 10 (by simp) (by decide)).lower ?_⟩ (below_alloc w' _)
      · simp only [execOp]
        rw [Sem.run_bind, run_alloc_zero 29 (hz (List.replicate 8 0) (.slice none 0 0) 0) (by kernel_rfl)]
        rfl
      · have h2 := hb0.size
        have h3 := hk.below.size
        omega
  · intro a1 w6 hbw hp
    obtain ⟨v0, p0, v1, p1, v2, p2, v3, p3, v4, p4, v5, p5, v6, p6, rfl⟩ := hp
    simp only [rsmFacts] at p0 p1 p2 p3 p4 p5 p6
    subst p0 p1 p2 p3
    obtain ⟨A5, c5, rfl, _, _⟩ := p4
    obtain ⟨rv, L', rfl, hrv⟩ := p5
    obtain ⟨gx, rfl, hFx⟩ := p6
    simp only [List.drop_succ_cons, List.drop_zero, Act.put, List.setIfInBounds_toArray, List.set_cons_succ, List.set_cons_zero]
    have HLS : Hid ((stAll keys s (rest ++ padL n)).length = 8) := Lib.hid (len_stN keys s (rest ++ padL n) HS.out ((rest ++ padL n).length / 64))
    have HSUM : Hid (sumF keys s rest n = digF (stAll keys s (rest ++ padL n))) := Lib.hid rfl
    generalize stAll keys s (rest ++ padL n) = st at HLS HSUM
    have hB6 := Below.then_ hB05 hbw
    have hR6 := hR3.below hbw
    have hD6 := hD3.below hbw
    have hgx := hFx.block.2
    have z6 := hbw.size
    have lx := hFx.lt_size
    have hFx' := hFx.lower (base' := w.heap.size) (by omega)
    have HRV := Lib.hid hrv
    clear hR3 hD3 hH3 hT3 hRs3 hB05 hbw hrv hFx
    go_wp2_with (with_reducible refine wpList_store rfl rfl (.tmp 6) (.tmp 19) 29 rfl gx 0 w.heap.size 29 10 (hz (List.replicate 8 0) (.slice none 0 0) 0) (hz st rv L') rfl rfl 10 (hz_len _ _ _ HLS.out) (by kernel_rfl) hFx' (by omega) (hz_one _ _ _ HRV.out) w hB6 (by omega) ?_; intro w7 hF7 hB7 ho7 hz7)
    rw [hz_over (by simp) HLS.out] at hF7
    have hR7 := hR6.other (g' := gx) (by omega) ho7
    have hD7 := hD6.other (g' := gx) (by omega) ho7
    clear hR6 hD6 hB6 ho7 hFx'
    go_loopw [7] (fun iv wr => ∃ i : Nat, i ≤ 8 ∧ iv = .int .i64 (i : Int) ∧ Fresh w.heap.size 40 wr (some ⟨gd, 0, none⟩) 32 32 (cb (digK st (4 * i))) ∧ Fresh w.heap.size 29 wr (some ⟨gx, 0, none⟩) 10 10 (hz st rv L') ∧ Fresh w.heap.size 40 wr (some ⟨gr, 0, none⟩) 32 32 (cb (List.replicate 32 0)) ∧ Below w.heap.size w wr) (fun iv _ => 8 - (intOf iv).toNat)
    case atStart => exact ⟨0, by omega, rfl, (by simpa [digK] using hD7), hF7, hR7, hB7⟩
    case round =>
      obtain ⟨i, hi, rfl, hDi, hXi, hRi, hBi⟩ := hrel
      clear hD7 hF7 hR7 hB7
      by_cases hlt : i < 8
      · obtain ⟨x, hx⟩ : ∃ x, st[i]? = some x := ⟨st[i]'(by rw [HLS.out]; omega), List.getElem?_eq_getElem _⟩
        have HX := Lib.hid hx
        have hcx : wr.cell? ⟨gx, i, none⟩ = some (.int .u32 (x.toNat : Int)) := hXi.cell_ (by
          rw [List.getElem?_append_left (by rw [List.length_map, HLS.out]; omega), List.getElem?_map, HX.out]
          rfl)
        have hxl : x.toNat < 4294967296 := x.toNat_lt
        rw [← digQ_zero st i x hlt] at hDi
        have HLT := Lib.hid hlt
        clear hx
        go_wp2_with fail
        rename World => wa
        clear hcx
        go_loopw [8, 9] (fun nv kv wq => ∃ (q y : Nat) (z : Int), nv = .int .u32 (y : Int) ∧ kv = .int .i64 z ∧ Hid (y = x.toNat / 256 ^ q) ∧ ((∃ p : Nat, z = (p : Int) ∧ p + q = 3) ∨ (z = -1 ∧ q = 4)) ∧ Fresh w.heap.size 40 wq (some ⟨gd, 0, none⟩) 32 32 (cb (digQ st i q x)) ∧ Fresh w.heap.size 29 wq (some ⟨gx, 0, none⟩) 10 10 (hz st rv L') ∧ Fresh w.heap.size 40 wq (some ⟨gr, 0, none⟩) 32 32 (cb (List.replicate 32 0)) ∧ Below w.heap.size w wq) (fun _ kv _ => (intOf kv + 1).toNat)
        case atStart => exact ⟨0, x.toNat, 3, rfl, rfl, Lib.hid (by simp), .inl ⟨3, rfl, rfl⟩, hDi, hXi, hRi, hBi⟩
        case round =>
          obtain ⟨q, y, z, rfl, rfl, hy, hz, hDq, hXq, hRq, hBq⟩ := hrel
          clear hDi hXi hRi hBi
          have hyl : y < 4294967296 := by rw [hy.out]; exact Nat.lt_of_le_of_lt (Nat.div_le_self _ _) hxl
          have hy2 : y / 256 = x.toNat / 256 ^ (q + 1) := by rw [hy.out, Nat.div_div_eq_div_mul, Nat.pow_succ]
          have HY2 := Lib.hid hy2
          have hby : UInt8.ofNat (x.toNat / 256 ^ q % 256) = UInt8.ofNat (y % 256) := by rw [hy.out]
          have HBY := Lib.hid hby
          clear hy2 hby
          rcases hz with ⟨p, rfl, hpq⟩ | ⟨rfl, rfl⟩
          · have HPQ := Lib.hid hpq
            have hp3 : p ≤ 3 := by omega
            have hset := hDq.store8 (4 * i + p) (UInt8.ofNat (y % 256))
            rw [← HBY.out, digQ_set st i q p x HLT.out HLS.out HPQ.out, HBY.out] at hset
            obtain ⟨u, hcu⟩ := hDq.cellAt (j := 4 * i + p) (by omega)
            have hfu := hDq.frozenAt (j := 4 * i + p)
            have hyb : (UInt8.ofNat (y % 256)).toNat = y % 256 := by simp
            have HSET := Lib.hid hset
            have ei : IntKind.i64.wrap (4 * (i : Int) + (p : Int)) = ((4 * i + p : Nat) : Int) := by rw [IntKind.wrap_i64]; omega
            clear hpq hset
            go_wp2_with fail
            go_roundw
            case rel =>
              have hS := HSET.out
              rw [hyb, show ((y % 256 : Nat) : Int) = (y : Int) % 256 from by omega] at hS
              have hoth : ∀ j, j ≠ gd → (wr.setCell ⟨gd, 4 * i + p, none⟩ (.int .u8 ((y : Int) % 256))).heap[j]? = wr.heap[j]? := fun j hj => Below.heap_setCell _ _ _ _ hj
              exact ⟨q + 1, y / 256, (p : Int) - 1, rfl, rfl, Lib.hid HY2.out, (by
                have := HPQ.out
                rcases p with _ | p
                · exact .inr ⟨rfl, by omega⟩
                · exact .inl ⟨p, by omega, by omega⟩), hS, hXq.other (by omega) hoth, hRq.other (by omega) hoth, hBq.setCell (by simp; omega) _⟩
            case measure => simp [intOf]
          · have h4 : digQ st i 4 x = digK st (4 * (i + 1)) := digQ_four st i x HLT.out HX.out
            rw [h4] at hDq
            have HDQ := Lib.hid hDq
            clear h4 hDq
            go_wp2_with fail
            go_roundw
            case rel => exact ⟨i + 1, by have := HLT.out; omega, by go_num, HDQ.out, hXq, hRq, hBq⟩
            case measure => (have := HLT.out); simp [intOf]; omega
      · obtain rfl : i = 8 := by omega
        have h1 := len_digF st
        rw [HLS.out] at h1
        have hp : digK st (4 * 8) = sumF keys s rest n := by
          rw [HSUM.out]
          simp [digK, List.take_of_length_le (Nat.le_of_eq h1)]
        have hlen : (sumF keys s rest n).length = 32 := by rw [HSUM.out]; exact h1
        rw [hp] at hDi
        have HL := Lib.hid hlen
        clear hp hlen HSUM h1
        generalize hdg : sumF keys s rest n = dg at hDi HL
        have HDG := Lib.hid hdg
        clear hdg
        go_wp2_with (first
          | (with_reducible refine wpList_load (o := ⟨some 42, _, _, _, _, _⟩) rfl (.tmp 5) 40 rfl gd 0 _ rfl (cb dg) 32 (by rw [List.length_map]; exact HL.out) (by kernel_rfl) hDi.sees ?_)
          | (with_reducible refine wpList_store rfl rfl (.tmp 4) (.tmp 42) 40 rfl gr 0 w.heap.size 40 32 (cb (List.replicate 32 0)) (cb dg) rfl rfl 32 (by rw [List.length_map]; exact HL.out) (by kernel_rfl) hRi (by omega) (cb_one _) w hBi (by omega) ?_; intro w9 hF9 hB9 _ _))
        have e : splice (cb (List.replicate 32 0)) 0 (cb dg) = cb dg := by
          have := HL.out
          simp [splice, this]
        rw [e] at hF9
        exact bodyPost_cell rfl rfl (cb dg) 32 (by rw [List.length_map]; exact HL.out) (by kernel_rfl) hF9.sees rfl ⟨by rw [HDG.out], hB9⟩
set_option maxHeartbeats 1000000 in
set_option maxRecDepth 100000 in
theorem rSum_no (first keys s : List UInt32) (R : Option Addr) (m cr : Nat) (L : Int) (w : World) (h1 : first.length = 8) (h2 : keys.length = 64) (hs : s.length = 8) (hr : ¬ Right m L) :
    Calls Try.prog 16 #[.agg (cw (first ++ keys)).toArray, .agg (hz s (.slice R m cr) L).toArray] w fun e w' => e = .returned (.agg (cb (List.replicate 32 0)).toArray) ∧ Below w.heap.size w w' := by
  have HS := Lib.hid hs
  have HK : Hid ((cw (first ++ keys)).length = 72) := Lib.hid (by simp [h1, h2])
  have HR := Lib.hid hr
  clear hr hs h1 h2
  go_enter Try.func16, Try.ntmps16
  go_wp2_with (first
    | (with_reducible refine wpList_box (o := ⟨some 2, _, _, _, _, _⟩) rfl (.tmp 0) 26 rfl (cw (first ++ keys)) rfl 72 HK.out (by decide) ?_; intro gt w1 hgt hFt hBt; have z1 := hBt.size)
    | (with_reducible refine wpList_box (o := ⟨some 3, _, _, _, _, _⟩) rfl (.tmp 1) 29 rfl (hz s (.slice R m cr) L) rfl 10 (hz_len _ _ _ HS.out) (by decide) ?_; intro gh w2 hgh hFh hBh; have z2 := hBh.size)
    | (with_reducible refine wpList_alloc (o := ⟨some 4, _, _, _, _, _⟩) rfl 40 rfl (cb (List.replicate 32 0)) (by kernel_rfl) 32 (by simp) (by decide) ?_; intro gr w3 hgr hFr hBr; have z3 := hBr.size)
    | (with_reducible refine wpList_alloc (o := ⟨some 5, _, _, _, _, _⟩) rfl 40 rfl (cb (List.replicate 32 0)) (by kernel_rfl) 32 (by simp) (by decide) ?_; intro gd w4 hgd hFd hBd; have z4 := hBd.size; have hFh4 := (hFh.below hBr).below hBd; have hB04 := Below.then_ (Below.then_ (Below.then_ hBt hBh) hBr) hBd)
    | (with_reducible refine wpList_load (o := ⟨some 10, _, _, _, _, _⟩) rfl (.tmp 3) 29 rfl gh 0 _ rfl (hz s (.slice R m cr) L) 10 (hz_len _ _ _ HS.out) (by kernel_rfl) hFh4.sees ?_)
    | (go_at_call 69; refine (rright_false s R m cr L _ HS.out HR.out).mono ?_; rintro e w5 ⟨rfl, hB5⟩; have z5 := hB5.size; have hFd5 := hFd.below hB5; have hFr5 := (hFr.below hBd).below hB5; have hB05 := Below.then_ hB04 hB5)
    | (with_reducible refine wpList_load (o := ⟨some 13, _, _, _, _, _⟩) rfl (.tmp 5) 40 rfl gd 0 _ rfl (cb (List.replicate 32 0)) 32 (by simp) (by kernel_rfl) hFd5.sees ?_)
    | (with_reducible refine wpList_store rfl rfl (.tmp 4) (.tmp 13) 40 rfl gr 0 _ 40 32 (cb (List.replicate 32 0)) (cb (List.replicate 32 0)) rfl rfl 32 (by simp) (by kernel_rfl) hFr5 (by omega) (cb_one _) w hB05 (by omega) ?_; intro w9 hF9 hB9 _ _))
  have e : splice (cb (List.replicate 32 0)) 0 (cb (List.replicate 32 0)) = cb (List.replicate 32 0) := by simp [splice]
  rw [e] at hF9
  exact bodyPost_cell rfl rfl (cb (List.replicate 32 0)) 32 (by simp) (by kernel_rfl) hF9.sees rfl ⟨rfl, hB9⟩
theorem build_hz1 (s : List UInt32) (hs : s.length = 8) (w : World) : (Instr.build 29 #[(0, .agg (cw s).toArray)]).run Try.prog w = .ok (.agg (hz s (.slice none 0 0) 0).toArray) w := by
  obtain ⟨a, b, c, d, e, f, g, i, rfl⟩ := eight s hs
  exact run_build w _ _ _ (by kernel_rfl)
def rofFacts (gt : Nat) (tab : List Value) (first keys : List UInt32) (A : Option Addr) (n c : Nat) (b dg : List UInt8) (k : Nat) (v : Value) (w : World) : Prop :=
  match k with
  | 0 => v = .agg tab.toArray
  | 1 => v = .agg tab.toArray
  | 2 => v = .pointer (some ⟨gt, 0, none⟩)
  | 3 => v = .agg (cw first).toArray
  | 4 => v = .agg (hz first (.slice none 0 0) 0).toArray
  | 5 => v = .slice A n c
  | 6 => ∃ R cr, v = .agg (hz (stAll keys first b) (.slice R (left b).length cr) (n : Int)).toArray ∧ Sees w w.heap.size R (cb (left b))
  | 7 => v = .agg (cb dg).toArray
  | _ => True
theorem rofFacts_stab (gt : Nat) (tab : List Value) (first keys : List UInt32) (A : Option Addr) (n c : Nat) (b dg : List UInt8) : ∀ k v w w', Below w.heap.size w w' → rofFacts gt tab first keys A n c b dg k v w → rofFacts gt tab first keys A n c b dg k v w' := fun k v w w' hb h =>
  match k, h with
  | 0, h => h
  | 1, h => h
  | 2, h => h
  | 3, h => h
  | 4, h => h
  | 5, h => h
  | 6, ⟨R, cr, e, h⟩ => ⟨R, cr, e, h.step hb⟩
  | 7, h => h
  | _ + 8, _ => trivial
set_option maxHeartbeats 1000000 in
set_option maxRecDepth 100000 in
theorem rOf_any (first keys : List UInt32) (A : Option Addr) (n c : Nat) (b : List UInt8) (w : World) (h1 : first.length = 8) (h2 : keys.length = 64) (hA : Sees w w.heap.size A (cb b)) (hn : b.length = n) (hc : n ≤ 1000000000000) :
    Calls Try.prog 18 #[.agg (cw (first ++ keys)).toArray, .slice A n c] w fun e w' => e = .returned (.agg (cb (ofF first keys b)).toArray) ∧ Below w.heap.size w w' := by
  have HN := Lib.hid hn
  have H1 := Lib.hid h1
  have H2 := Lib.hid h2
  have HK : Hid ((cw (first ++ keys)).length = 72) := Lib.hid (by simp [h1, h2])
  have hlo : (ofF first keys b).length = 32 := by
    unfold ofF sumF
    rw [len_digF, show (stAll keys (stAll keys first b) (left b ++ padL b.length)).length = 8 from len_stN _ _ _ (len_stN _ _ _ h1 _) _]
  have HLO := Lib.hid hlo
  have hof : ofF first keys b = sumF keys (stAll keys first b) (left b) n := by unfold ofF; rw [hn]
  have HOF := Lib.hid hof
  clear hn h1 h2 hlo hof
  go_enter Try.func18, Try.ntmps18
  go_wp2_with (first
    | (with_reducible refine wpList_box (o := ⟨some 2, _, _, _, _, _⟩) rfl (.tmp 0) 26 rfl (cw (first ++ keys)) rfl 72 HK.out (by decide) ?_; intro gt w1 hgt hFt hBt; have z1 := hBt.size; have lt := hFt.lt_size)
    | (with_reducible refine wpList_alloc (o := ⟨some 4, _, _, _, _, _⟩) rfl 40 rfl (cb (List.replicate 32 0)) (by kernel_rfl) 32 (by simp) (by decide) ?_; intro gr w2 hgr hFr hBr; have z2 := hBr.size))
  have hT2 := hFt.below hBr
  have hR2 := hFr.lower (base' := w.heap.size) (by omega)
  have hB02 := Below.then_ hBt hBr
  have hA2 := hA.step hB02
  clear hFt hFr hBt hBr hA
  refine region_all_tail 8 (rofFacts gt (cw (first ++ keys)) first keys A n c b (ofF first keys b)) (by kernel_rfl) (by kernel_rfl) (by kernel_rfl) (rofFacts_stab _ _ _ _ _ _ _ _ _) ?_ ?_
  · intro w0 hb0
    simp only [List.take_succ_cons, List.take_zero]
    refine ⟨?_, ?_, ?_, ?_, ?_, ?_, ?_, ?_, trivial⟩
    all_goals intro listed a1 w' hk hd
    · have f2 : a1.eval (.tmp 2) = .pointer (some ⟨gt, 0, none⟩) := hk.ev_old 2 (by kernel_rfl)
      exact stepOk_value rfl (run_load_agg (.tmp 2) 26 rfl f2 (cw (first ++ keys)) 72 HK.out (by kernel_rfl) ((hT2.below hb0).below hk.below).sees) rfl
    · have f2 : a1.eval (.tmp 2) = .pointer (some ⟨gt, 0, none⟩) := hk.ev_old 2 (by kernel_rfl)
      exact stepOk_value rfl (run_load_agg (.tmp 2) 26 rfl f2 (cw (first ++ keys)) 72 HK.out (by kernel_rfl) ((hT2.below hb0).below hk.below).sees) rfl
    · have f2_ : a1.eval (.tmp 2) = .pointer (some ⟨gt, 0, none⟩) := hk.ev_old 2 (by kernel_rfl)
      have g2_ : a1.tmps[2]?.getD undef = .pointer (some ⟨gt, 0, none⟩) := by simpa [Act.eval] using f2_
      exact stepOk_value rfl (v := .pointer (some ⟨gt, 0, none⟩)) (by go_simp) rfl
    · obtain ⟨v2, e2, q2, rfl⟩ := hk.ev_new hd 2 7 (by kernel_rfl) rfl
      have hs8 : Sees w' w'.heap.size (some ⟨gt, 0, none⟩) (cw first) := by
        have := ((hT2.below hb0).below hk.below).sees.take_ 8
        rwa [show (cw (first ++ keys)).take 8 = cw first from by simp [cw, H1.out]] at this
      exact stepOk_value rfl (run_load_agg (.tmp 7) 23 rfl e2 (cw first) 8 (by simp [H1.out]) (by kernel_rfl) hs8) rfl
    · obtain ⟨v3, e3, q3, rfl⟩ := hk.ev_new hd 3 8 (by kernel_rfl) rfl
      have hb4 := build_hz1 first H1.out w'
      exact stepOk_value rfl (v := .agg (hz first (.slice none 0 0) 0).toArray) (by simp only [execOp, List.map_toArray, List.map_cons, List.map_nil, e3, Sem.run_bind, hb4]; rfl) rfl
    · have f1_ : a1.eval (.tmp 1) = .slice A n c := hk.ev_old 1 (by kernel_rfl)
      have g1_ : a1.tmps[1]?.getD undef = .slice A n c := by simpa [Act.eval] using f1_
      exact stepOk_value rfl (v := .slice A n c) (by go_simp) rfl
    · obtain ⟨v1, e1, q1, rfl⟩ := hk.ev_new hd 1 6 (by kernel_rfl) rfl
      obtain ⟨v4, e4, q4, rfl⟩ := hk.ev_new hd 4 9 (by kernel_rfl) rfl
      obtain ⟨v5, e5, q5, rfl⟩ := hk.ev_new hd 5 10 (by kernel_rfl) rfl
      refine stepOk_enter rfl (f := 12) (args := #[.agg (cw (first ++ keys)).toArray, .agg (hz first (.slice none 0 0) 0).toArray, .slice A n c]) (by go_simp) ?_
      refine (rWrite_any first keys first none A 0 0 n c 0 [] b _ H1.out H2.out H1.out ⟨by omega, by omega, by omega⟩ Sees.nil rfl ((hA2.step hb0).step hk.below) HN.out hc).mono ?_
      rintro e w5 ⟨A6, c6, rfl, hF6, hB6⟩
      rw [List.nil_append] at hF6 ⊢
      exact ⟨_, rfl, ⟨A6, c6, by rw [Int.zero_add], hF6.sees⟩, hB6⟩
    · obtain ⟨v0, e0, q0, rfl⟩ := hk.ev_new hd 0 5 (by kernel_rfl) rfl
      obtain ⟨v6, e6, q6, R6, c6, rfl, hS6⟩ := hk.ev_new hd 6 11 (by kernel_rfl) rfl
      refine stepOk_enter rfl (f := 16) (args := #[.agg (cw (first ++ keys)).toArray, .agg (hz (stAll keys first b) (.slice R6 (left b).length c6) (n : Int)).toArray]) (by go_simp) ?_
      refine (rSum_any first keys (stAll keys first b) R6 (left b).length c6 n (left b) _ H1.out H2.out (len_stN _ _ _ H1.out _) ⟨by omega, by omega, by rw [len_left, HN.out]; omega⟩ hS6 rfl).mono ?_
      rintro e w5 ⟨rfl, hB6⟩
      exact ⟨_, rfl, (by rw [HOF.out]; rfl), hB6⟩
  · intro a1 w3 hbw hp
    obtain ⟨v0, p0, v1, p1, v2, p2, v3, p3, v4, p4, v5, p5, v6, p6, v7, p7, rfl⟩ := hp
    simp only [rofFacts] at p0 p1 p2 p3 p4 p5 p6 p7
    obtain ⟨R, cr, rfl, -⟩ := p6
    subst p0 p1 p2 p3 p4 p5 p7
    simp only [List.drop_succ_cons, List.drop_zero, Act.put, List.setIfInBounds_toArray, List.set_cons_succ, List.set_cons_zero]
    have hR3 := hR2.below hbw
    have hB03 := Below.then_ hB02 hbw
    go_wp2_with (with_reducible refine wpList_store rfl rfl (.tmp 4) (.tmp 12) 40 rfl gr 0 w.heap.size 40 32 (cb (List.replicate 32 0)) (cb (ofF first keys b)) rfl rfl 32 (by rw [List.length_map]; exact HLO.out) (by kernel_rfl) hR3 (by omega) (cb_one _) w hB03 (by omega) ?_; intro w9 hF9 hB9 _ _)
    have e : splice (cb (List.replicate 32 0)) 0 (cb (ofF first keys b)) = cb (ofF first keys b) := by
      have := HLO.out
      simp [splice, this]
    rw [e] at hF9
    exact bodyPost_cell rfl rfl (cb (ofF first keys b)) 32 (by rw [List.length_map]; exact HLO.out) (by kernel_rfl) hF9.sees rfl ⟨rfl, hB9⟩
end Go.Proofs.Ytggcapkipcdlmaa
