/-
  What an area's room has, read off its words; and what a record that is written behind all others does to that: plain facts on lists. What an area does to the words of its drive: over a flash as plain data.
  An area behind a crash: it is opened as it was, or as if it had been emptied; which errors there are: over a flash as plain data.
-/
import Derived.Test.YtpdfalgjmeagjaaFlashPure
import Derived.Test.YtpdfalgjmeagjaaNorCrash
import Derived.Test.YtpdfalgjmeagjaaDrPure
namespace Go.Proofs.Ytpdfalgjmeagjaa
set_option linter.unusedVariables false

/-- How many words a record of so many bytes has. -/
def nW (k : Nat) : Nat := 2 + (k + 3) / 4
/-- The words of a record. -/
def recW (b : List UInt8) : List UInt32 := UInt32.ofNat b.length :: (words b ++ [0])
/-- What a room has: the records that are whole, how many are torn, how many words are left. -/
structure Ar where
  L : List (List UInt8)
  torn : Nat
  left : Nat
/-- What a room has, of which some was read. -/
def scanF : Nat → List UInt32 → List (List UInt8) → Nat → Ar
  | 0, l, L, t => ⟨L, t, l.length⟩
  | f + 1, [], L, t => ⟨L, t, 0⟩
  | f + 1, x :: l, L, t =>
    if x = 4294967295 then ⟨L, t, l.length + 1⟩
    else if 4096 < x.toNat ∨ l.length + 1 < nW x.toNat then ⟨L, t, 0⟩
    else if l[nW x.toNat - 2]? = some 0 then scanF f (l.drop (nW x.toNat - 1)) (L ++ [(bytesOf l).take x.toNat]) t
    else scanF f (l.drop (nW x.toNat - 1)) L (t + 1)
def scan (l : List UInt32) (L : List (List UInt8)) (t : Nat) : Ar := scanF l.length l L t

theorem nW_pos (k : Nat) : 2 ≤ nW k := by unfold nW; omega
theorem len_recW (b : List UInt8) : (recW b).length = nW b.length := by
  simp only [recW, List.length_cons, List.length_append, len_words, List.length_nil, nW]
  omega
theorem scanF_more : ∀ (f : Nat) (l : List UInt32) (L : List (List UInt8)) (t g : Nat), l.length ≤ f → l.length ≤ g → scanF f l L t = scanF g l L t
  | 0, l, L, t, g, hf, hg => by
    have : l = [] := List.eq_nil_of_length_eq_zero (by omega)
    subst this
    cases g <;> rfl
  | f + 1, [], L, t, g, hf, hg => by cases g <;> rfl
  | f + 1, x :: l, L, t, g, hf, hg => by
    rcases g with _ | g
    · simp at hg
    · have hp := nW_pos x.toNat
      have ih := fun L t => scanF_more f (l.drop (nW x.toNat - 1)) L t g (by simp at hf ⊢; omega) (by simp at hg ⊢; omega)
      simp only [scanF]
      rw [ih, ih]
theorem scan_nil (L : List (List UInt8)) (t : Nat) : scan [] L t = ⟨L, t, 0⟩ := rfl
theorem scan_ones (l : List UInt32) (L : List (List UInt8)) (t : Nat) : scan (4294967295 :: l) L t = ⟨L, t, l.length + 1⟩ := by
  unfold scan
  rw [List.length_cons]
  simp only [scanF]
  exact if_pos trivial
theorem scan_bad {x : UInt32} {l : List UInt32} (L : List (List UInt8)) (t : Nat) (h1 : x ≠ 4294967295) (h2 : 4096 < x.toNat ∨ l.length + 1 < nW x.toNat) : scan (x :: l) L t = ⟨L, t, 0⟩ := by
  unfold scan
  rw [List.length_cons]
  simp only [scanF]
  rw [if_neg h1, if_pos h2]
theorem scan_rec {x : UInt32} {l : List UInt32} (L : List (List UInt8)) (t : Nat) (h1 : x ≠ 4294967295) (h2 : x.toNat ≤ 4096) (h3 : nW x.toNat ≤ l.length + 1) :
    scan (x :: l) L t = if l[nW x.toNat - 2]? = some 0 then scan (l.drop (nW x.toNat - 1)) (L ++ [(bytesOf l).take x.toNat]) t else scan (l.drop (nW x.toNat - 1)) L (t + 1) := by
  have e : ∀ L t, scanF l.length (l.drop (nW x.toNat - 1)) L t = scan (l.drop (nW x.toNat - 1)) L t := fun L t =>
    scanF_more _ _ L t _ (by simp) (Nat.le_refl _)
  conv => lhs; unfold scan
  rw [List.length_cons]
  simp only [scanF]
  rw [if_neg h1, if_neg (by omega), e, e]
theorem scan_replicate (n : Nat) (L : List (List UInt8)) (t : Nat) : scan (List.replicate n 4294967295) L t = ⟨L, t, n⟩ := by
  cases n with
  | zero => rfl
  | succ n => rw [List.replicate_succ, scan_ones, List.length_replicate]
theorem bytesOf_take (l : List UInt32) (j : Nat) : bytesOf (l.take j) = (bytesOf l).take (4 * j) := by
  induction l generalizing j with
  | nil => simp [bytesOf]
  | cons x l ih =>
    cases j with
    | zero => simp [bytesOf]
    | succ j =>
      have h := ih j
      simp only [bytesOf, List.take_succ_cons, List.flatMap_cons] at h ⊢
      rw [h, show 4 * (j + 1) = (wd x.toNat).length + 4 * j from by rw [len_wd]; omega, List.take_length_add_append]
theorem bytesOf_same {l l' : List UInt32} {j n : Nat} (h : l.take j = l'.take j) (hn : n ≤ 4 * j) : (bytesOf l).take n = (bytesOf l').take n := by
  have e : ∀ l : List UInt32, (bytesOf l).take n = (bytesOf (l.take j)).take n := fun l => by
    rw [bytesOf_take, List.take_take, Nat.min_eq_left hn]
  rw [e, h, ← e]
/-- What is behind all records may be other words. -/
theorem scan_tail : ∀ (n : Nat) (l : List UInt32), l.length ≤ n → ∀ (L : List (List UInt8)) (t : Nat), (scan l L t).left ≤ l.length ∧ ∀ X : List UInt32, X.length = (scan l L t).left → scan (l.take (l.length - (scan l L t).left) ++ X) L t = scan X (scan l L t).L (scan l L t).torn
  | n, [], _, L, t => ⟨Nat.le_refl _, fun X hX => by
    rw [scan_nil] at hX ⊢
    rw [List.eq_nil_of_length_eq_zero hX]
    rfl⟩
  | 0, x :: l, h, L, t => by simp at h
  | n + 1, x :: l, h, L, t => by
    by_cases h1 : x = 4294967295
    · subst h1
      rw [scan_ones]
      refine ⟨Nat.le_refl _, fun X hX => ?_⟩
      rw [List.length_cons, Nat.sub_self, List.take_zero, List.nil_append]
    · by_cases h2 : 4096 < x.toNat ∨ l.length + 1 < nW x.toNat
      · rw [scan_bad L t h1 h2]
        refine ⟨Nat.zero_le _, fun X hX => ?_⟩
        rw [List.eq_nil_of_length_eq_zero hX, List.append_nil, Nat.sub_zero, List.take_length, scan_bad L t h1 h2]
        rfl
      · have h3 : x.toNat ≤ 4096 := by omega
        have h4 : nW x.toNat ≤ l.length + 1 := by omega
        have hp := nW_pos x.toNat
        have ih := scan_tail n (l.drop (nW x.toNat - 1)) (by simp at h ⊢; omega)
        have key : ∀ (L' : List (List UInt8)) (t' : Nat) (L2 : List (List UInt8)) (t2 : Nat) (c : Bool),
            scan (x :: l) L t = (if c then scan (l.drop (nW x.toNat - 1)) L' t else scan (l.drop (nW x.toNat - 1)) L t') → True := fun _ _ _ _ _ _ => trivial
        obtain ⟨M, hM⟩ : ∃ M, M = scan (x :: l) L t := ⟨_, rfl⟩
        rw [← hM]
        rw [scan_rec L t h1 h3 h4] at hM
        have hxb : x.toNat ≤ 4 * (nW x.toNat - 2) := by unfold nW; omega
        -- the words of this record stand as they stood
        have rec_ : ∀ X : List UInt32, X.length = M.left → M.left ≤ l.length - (nW x.toNat - 1) →
            scan ((x :: l).take ((x :: l).length - M.left) ++ X) L t = if l[nW x.toNat - 2]? = some 0 then scan ((l.drop (nW x.toNat - 1)).take ((l.drop (nW x.toNat - 1)).length - M.left) ++ X) (L ++ [(bytesOf l).take x.toNat]) t else scan ((l.drop (nW x.toNat - 1)).take ((l.drop (nW x.toNat - 1)).length - M.left) ++ X) L (t + 1) := by
          intro X hX hle
          obtain ⟨l', hl'⟩ : ∃ l', l' = l.take (l.length - M.left) ++ X := ⟨_, rfl⟩
          have e0 : (x :: l).take ((x :: l).length - M.left) ++ X = x :: l' := by
            rw [List.length_cons, show l.length + 1 - M.left = (l.length - M.left) + 1 from by omega, List.take_succ_cons, List.cons_append, hl']
          have el : l'.length = l.length := by rw [hl', List.length_append, List.length_take, hX]; omega
          have e1 : l'.take (nW x.toNat - 2) = l.take (nW x.toNat - 2) := by
            rw [hl', List.take_append_of_le_length (by rw [List.length_take]; omega), List.take_take, Nat.min_eq_left (by omega)]
          have e2 : l'[nW x.toNat - 2]? = l[nW x.toNat - 2]? := by
            rw [hl', List.getElem?_append_left (by rw [List.length_take]; omega), List.getElem?_take, if_pos (by omega)]
          have e3 : l'.drop (nW x.toNat - 1) = (l.drop (nW x.toNat - 1)).take ((l.drop (nW x.toNat - 1)).length - M.left) ++ X := by
            rw [hl', List.drop_append_of_le_length (by rw [List.length_take]; omega), List.drop_take, List.length_drop]
            congr 2
            omega
          rw [e0, scan_rec L t h1 h3 (by rw [el]; exact h4), e2, e3, bytesOf_same e1 hxb]
        by_cases h0 : l[nW x.toNat - 2]? = some 0
        · rw [if_pos h0] at hM
          obtain ⟨k1, k2⟩ := ih (L ++ [(bytesOf l).take x.toNat]) t
          rw [← hM] at k1 k2
          rw [List.length_drop] at k1
          refine ⟨by rw [List.length_cons]; omega, fun X hX => ?_⟩
          rw [rec_ X hX k1, if_pos h0]
          exact k2 X hX
        · rw [if_neg h0] at hM
          obtain ⟨k1, k2⟩ := ih L (t + 1)
          rw [← hM] at k1 k2
          rw [List.length_drop] at k1
          refine ⟨by rw [List.length_cons]; omega, fun X hX => ?_⟩
          rw [rec_ X hX k1, if_neg h0]
          exact k2 X hX
theorem scan_left (l : List UInt32) (L : List (List UInt8)) (t : Nat) : (scan l L t).left ≤ l.length := (scan_tail l.length l (Nat.le_refl _) L t).1
/-- Words behind all records. -/
theorem scan_put {l : List UInt32} {a : Ar} (h : scan l [] 0 = a) (X : List UInt32) (hX : X.length = a.left) : scan (l.take (l.length - a.left) ++ X) [] 0 = scan X a.L a.torn := by
  subst h
  exact (scan_tail l.length l (Nat.le_refl _) [] 0).2 X hX
theorem recW_head {b : List UInt8} (hb : b.length ≤ 4096) : (UInt32.ofNat b.length).toNat = b.length ∧ UInt32.ofNat b.length ≠ 4294967295 := by
  have e1 : (UInt32.ofNat b.length).toNat = b.length := ofNat_toNat32 _ (by omega)
  refine ⟨e1, fun e => ?_⟩
  have h := congrArg UInt32.toNat e
  rw [e1] at h
  have : (4294967295 : UInt32).toNat = 4294967295 := rfl
  omega
/-- A record is read as it was written. -/
theorem scan_words {b : List UInt8} (hb : b.length ≤ 4096) (r : List UInt32) (L : List (List UInt8)) (t : Nat) : scan (recW b ++ r) L t = scan r (L ++ [b]) t := by
  obtain ⟨e1, e2⟩ := recW_head hb
  have hw := len_words b
  have hn : nW b.length = 2 + (b.length + 3) / 4 := rfl
  unfold recW
  rw [List.cons_append, scan_rec L t e2 (by omega) (by rw [e1]; simp only [List.length_append, List.length_cons, List.length_nil, hw]; omega), e1]
  have g0 : (words b ++ [0] ++ r)[nW b.length - 2]? = some 0 := by
    rw [List.append_assoc, List.getElem?_append_right (by rw [hw]; omega), hw, show nW b.length - 2 - (b.length + 3) / 4 = 0 from by omega]
    rfl
  rw [if_pos g0]
  have g1 : (words b ++ [0] ++ r).drop (nW b.length - 1) = r := by
    rw [List.drop_append, List.drop_of_length_le (by simp; omega), List.length_append, hw]
    rw [show nW b.length - 1 - ((b.length + 3) / 4 + [(0 : UInt32)].length) = 0 from by simp; omega]
    rfl
  have g2 : (bytesOf (words b ++ [0] ++ r)).take b.length = b := by
    have : (bytesOf (words b ++ [0] ++ r)).take b.length = (bytesOf (words b)).take b.length := by
      refine bytesOf_same (j := (b.length + 3) / 4) ?_ (by omega)
      rw [List.append_assoc, List.take_append_of_le_length (by rw [hw]; exact Nat.le_refl _)]
    rw [this]
    exact bytesOf_words b
  rw [g1, g2]
/-- A record of which the last word is not written is torn. -/
theorem scan_torn {b : List UInt8} (hb : b.length ≤ 4096) (j n : Nat) (h1 : 1 ≤ j) (h2 : j < nW b.length) (h3 : nW b.length ≤ n) (L : List (List UInt8)) (t : Nat) :
    scan ((recW b).take j ++ List.replicate (n - j) 4294967295) L t = ⟨L, t + 1, n - nW b.length⟩ := by
  obtain ⟨e1, e2⟩ := recW_head hb
  have hw := len_words b
  have hn : nW b.length = 2 + (b.length + 3) / 4 := rfl
  obtain ⟨j, rfl⟩ : ∃ i, j = i + 1 := ⟨j - 1, by omega⟩
  unfold recW
  rw [List.take_succ_cons, List.cons_append]
  have hl : ((words b ++ [(0 : UInt32)]).take j).length = j := by rw [List.length_take, List.length_append, hw, List.length_singleton]; omega
  rw [scan_rec L t e2 (by omega) (by rw [e1, List.length_append, hl, List.length_replicate]; omega), e1]
  have g0 : ((words b ++ [(0 : UInt32)]).take j ++ List.replicate (n - (j + 1)) 4294967295)[nW b.length - 2]? = some 4294967295 := by
    rw [List.getElem?_append_right (by rw [hl]; omega), hl, List.getElem?_replicate, if_pos (by omega)]
  rw [g0, if_neg (by decide)]
  have g1 : ((words b ++ [(0 : UInt32)]).take j ++ List.replicate (n - (j + 1)) 4294967295).drop (nW b.length - 1) = List.replicate (n - nW b.length) 4294967295 := by
    rw [List.drop_append, List.drop_of_length_le (by rw [hl]; omega), hl, List.nil_append, List.drop_replicate]
    congr 1
    omega
  rw [g1, scan_replicate]
/-- How many words records have. -/
def usedW : List (List UInt8) → Nat
  | [] => 0
  | b :: L => nW b.length + usedW L
theorem usedW_append : ∀ (L M : List (List UInt8)), usedW (L ++ M) = usedW L + usedW M
  | [], M => by simp [usedW]
  | b :: L, M => by
    rw [List.cons_append]
    simp only [usedW]
    rw [usedW_append L M]
    omega
/-- What is told fits into the room; no record is longer than it may be; what was read ahead stands. -/
theorem scan_fits : ∀ (n : Nat) (l : List UInt32), l.length ≤ n → ∀ (L : List (List UInt8)) (t : Nat), usedW (scan l L t).L + 2 * (scan l L t).torn + (scan l L t).left ≤ usedW L + 2 * t + l.length ∧ (∃ M, (scan l L t).L = L ++ M ∧ ∀ b ∈ M, b.length ≤ 4096) ∧ t ≤ (scan l L t).torn
  | n, [], _, L, t => ⟨Nat.le_refl _, ⟨[], by simp [scan_nil], by simp⟩, Nat.le_refl _⟩
  | 0, x :: l, h, L, t => by simp at h
  | n + 1, x :: l, h, L, t => by
    by_cases h1 : x = 4294967295
    · subst h1
      rw [scan_ones]
      exact ⟨Nat.le_refl _, ⟨[], by simp, by simp⟩, Nat.le_refl _⟩
    · by_cases h2 : 4096 < x.toNat ∨ l.length + 1 < nW x.toNat
      · rw [scan_bad L t h1 h2]
        exact ⟨by simp only []; omega, ⟨[], by simp, by simp⟩, Nat.le_refl _⟩
      · have h3 : x.toNat ≤ 4096 := by omega
        have h4 : nW x.toNat ≤ l.length + 1 := by omega
        have hp := nW_pos x.toNat
        have ih := scan_fits n (l.drop (nW x.toNat - 1)) (by simp at h ⊢; omega)
        rw [scan_rec L t h1 h3 h4]
        have hbl : ((bytesOf l).take x.toNat).length = x.toNat := by
          rw [List.length_take, len_bytesOf]
          unfold nW at h4
          omega
        by_cases h0 : l[nW x.toNat - 2]? = some 0
        · rw [if_pos h0]
          obtain ⟨k1, ⟨M, k2, k3⟩, k4⟩ := ih (L ++ [(bytesOf l).take x.toNat]) t
          refine ⟨?_, ⟨(bytesOf l).take x.toNat :: M, by rw [k2]; simp, fun b hb => ?_⟩, k4⟩
          · refine Nat.le_trans k1 ?_
            rw [usedW_append, List.length_drop, List.length_cons]
            simp only [usedW]
            rw [hbl]
            omega
          · rcases List.mem_cons.1 hb with e | e
            · rw [e, hbl]; exact h3
            · exact k3 b e
        · rw [if_neg h0]
          obtain ⟨k1, k2, k4⟩ := ih L (t + 1)
          refine ⟨?_, k2, by omega⟩
          refine Nat.le_trans k1 ?_
          rw [List.length_drop, List.length_cons]
          omega
theorem usedW_len : ∀ (L : List (List UInt8)), 2 * L.length ≤ usedW L
  | [] => Nat.le_refl _
  | b :: L => by
    have := usedW_len L
    have := nW_pos b.length
    simp only [usedW, List.length_cons]
    omega
/-- Of what is known of an area. -/
structure Ar.Ok (x : Ar) (N : Nat) : Prop where
  fits : usedW x.L + 2 * x.torn + x.left ≤ N
  small : ∀ b ∈ x.L, b.length ≤ 4096
theorem Ar.Ok.many {x : Ar} {N : Nat} (h : x.Ok N) : 2 * x.L.length + 2 * x.torn + x.left ≤ N := by
  have := usedW_len x.L
  have := h.fits
  omega
theorem scan_ok (l : List UInt32) : (scan l [] 0).Ok l.length := by
  obtain ⟨h1, ⟨M, h2, h3⟩, _⟩ := scan_fits l.length l (Nat.le_refl _) [] 0
  refine ⟨by simpa [usedW] using h1, fun b hb => h3 b ?_⟩
  rw [h2, List.nil_append] at hb
  exact hb
theorem Ar.Ok.put {x : Ar} {N : Nat} (h : x.Ok N) (b : List UInt8) (hb : b.length ≤ 4096) (hl : nW b.length ≤ x.left) : Ar.Ok ⟨x.L ++ [b], x.torn, x.left - nW b.length⟩ N := by
  refine ⟨?_, fun c hc => ?_⟩
  · have := h.fits
    simp only [usedW_append, usedW]
    omega
  · rcases List.mem_append.1 hc with e | e
    · exact h.small c e
    · simp at e
      rw [e]
      exact hb
end Go.Proofs.Ytpdfalgjmeagjaa
namespace Go.Proofs.Ytpdfalgjmeagjaa
open Go.RowKit
set_option linter.unusedVariables false

theorem mask_get8 : ∀ (l : List Bool) (ws : List UInt32) (j i : Nat), (mask ws j l)[i]? = ws[i]? ∨ ((mask ws j l)[i]? = some 4294967295 ∧ j ≤ i ∧ i < j + l.length)
  | [], ws, j, i => .inl rfl
  | c :: l, ws, j, i => by
    cases c
    · rw [mask]
      rcases mask_get8 l ws (j + 1) i with h | ⟨h, h1, h2⟩
      · exact .inl h
      · exact .inr ⟨h, by omega, by rw [List.length_cons]; omega⟩
    · rw [mask]
      rcases mask_get8 l (ws.set j 4294967295) (j + 1) i with h | ⟨h, h1, h2⟩
      · rw [h, List.getElem?_set]
        by_cases e : j = i
        · subst e
          by_cases hl : j < ws.length
          · exact .inr ⟨by simp [hl], Nat.le_refl _, by rw [List.length_cons]; omega⟩
          · refine .inl ?_
            rw [if_pos rfl, if_neg hl, List.getElem?_eq_none (by omega)]
        · exact .inl (by rw [if_neg e])
      · exact .inr ⟨h, by omega, by rw [List.length_cons]; omega⟩
theorem mask_len8 : ∀ (l : List Bool) (ws : List UInt32) (j : Nat), (mask ws j l).length = ws.length
  | [], ws, j => rfl
  | true :: l, ws, j => by rw [mask, mask_len8 l, List.length_set]
  | false :: l, ws, j => by rw [mask, mask_len8 l]

theorem crash_same8 {T : Fl} (f : Nat) (h : T.half = -1) (ks : List Bool) : (T.crash ks).ws = T.ws ∧ (T.crash ks).n = T.n ∧ (T.crash ks).down = false ∧ (T.crash ks).armed = false ∧ (T.crash ks).half = -1 := by
  unfold Fl.crash
  rw [h]
  exact ⟨rfl, rfl, rfl, rfl, rfl⟩
theorem ones_and8 (x : UInt32) : (4294967295 : UInt32) &&& x = x := by
  apply UInt32.toNat_inj.1
  rw [UInt32.toNat_and, show (4294967295 : UInt32).toNat = 2 ^ 32 - 1 from rfl, Nat.and_comm, Nat.and_two_pow_sub_one_eq_mod]
  exact Nat.mod_eq_of_lt x.toNat_lt
theorem take_one8 {α : Type} {l : List α} {k : Nat} {x : α} (h : l[k]? = some x) : (l.drop k).take 1 = [x] := by
  rw [drop_at32 h, List.take_succ_cons, List.take_zero]

theorem set_is_splice8 {α : Type} (l : List α) (k : Nat) (x : α) (h : k < l.length) : splice l k [x] = l.set k x := by
  unfold splice
  rw [List.set_eq_take_append_cons_drop, if_pos h]
  rfl
def Fl.blanked8 (S : Fl) (f σ : Nat) : Fl := { S with ws := splice S.ws (64 * f + (64 * σ + 0)) ones64 }
/-- Words that are programmed over ones, as far as the power goes. -/
theorem Fl.prog_part8 : ∀ (l : List UInt32) (R : Fl) (j : Nat), (∀ i, i < l.length → R.ws[j + i]? = some 4294967295) → ∃ T m, m ≤ l.length ∧ R.prog j l = (T, decide (m = l.length)) ∧ T.ws = splice R.ws j (l.take m) ∧ T.n = R.n ∧ T.half = R.half ∧ (m = l.length → T.down = R.down) ∧ (m < l.length → T.down = true)
  | [], R, j, _ => ⟨R, 0, Nat.le_refl _, rfl, by simp [splice], rfl, rfl, fun _ => rfl, fun h => absurd h (by simp)⟩
  | x :: l, R, j, h => by
    have hst := Fl.step_half R
    have hsw := Fl.step_ws R
    rcases hs : R.step with ⟨T, _ | _⟩
    · rw [hs] at hst hsw
      have hdn : T.down = true := by
        obtain ⟨n, ws, g, ar, left, dn, hf⟩ := R
        unfold Fl.step at hs
        cases ar
        · simp at hs
        · cases left
          · simp only [Prod.mk.injEq] at hs
            rw [← hs.1]
          · simp at hs
      refine ⟨T, 0, Nat.zero_le _, ?_, ?_, hst.1, hst.2, fun e => by simp at e, fun _ => hdn⟩
      · simp only [Fl.prog]
        rw [hs]
        simp
      · rw [List.take_zero]
        simpa [splice] using hsw
    · obtain ⟨d1, d2, d3⟩ := Fl.step_down hs
      rw [hs] at hst hsw
      have h0 : T.ws[j]? = some 4294967295 := by rw [d3]; exact h 0 (by simp)
      have hj : j < T.ws.length := (List.getElem?_eq_some_iff.1 h0).1
      have hput : (T.put1 j x).ws = splice T.ws j [x] := by
        show T.ws.set j (T.ws.getD j 0 &&& x) = _
        rw [List.getD_eq_getElem?_getD, h0, Option.getD_some, ones_and8, set_is_splice8 _ _ _ hj]
      obtain ⟨U, m, hm, e1, e2, e3, e4, e5, e6⟩ := Fl.prog_part8 l (T.put1 j x) (j + 1) (fun i hi => by
        rw [hput, set_is_splice8 _ _ _ hj, List.getElem?_set_ne (by omega), d3, show j + 1 + i = j + (i + 1) from by omega]
        exact h (i + 1) (by simpa using hi))
      refine ⟨U, m + 1, by simpa using hm, ?_, ?_, e3.trans d2, e4.trans hst.2, fun e => (e5 (by simpa using e)).trans d1, fun e => e6 (by simpa using e)⟩
      · simp only [Fl.prog]
        rw [hs]
        simp only
        rw [e1]
        simp
      · rw [e2, hput, d3, List.take_succ_cons]
        have hj' : j < R.ws.length := by rw [← d3]; exact hj
        rw [set_is_splice8 _ _ _ hj']
        unfold splice
        have hlm : (l.take m).length = m := by rw [List.length_take]; omega
        have hd2 : (R.ws.set j x).take (j + 1) = R.ws.take j ++ [x] := by
          rw [List.take_set, List.take_add_one, List.set_append_right _ _ (by rw [List.length_take]; omega), List.length_take, Nat.min_eq_left (by omega), Nat.sub_self, List.getElem?_eq_getElem hj']
          rfl
        rw [hd2, List.drop_set_of_lt (by omega), List.length_cons, hlm, show j + 1 + m = j + (m + 1) from by omega]
        simp
theorem step_plain8 {R : Fl} (h : R.armed = false) : R.step = (R, true) := by unfold Fl.step; rw [h]
theorem step_dead8 {R T : Fl} (h : R.step = (T, false)) : T.down = true ∧ T.ws = R.ws ∧ T.n = R.n ∧ T.half = R.half ∧ R.armed = true := by
  obtain ⟨n, ws, g, ar, left, dn, hf⟩ := R
  unfold Fl.step at h
  cases ar
  · simp at h
  · cases left
    · simp only [Prod.mk.injEq] at h
      rw [← h.1]
      exact ⟨rfl, rfl, rfl, rfl, rfl⟩
    · simp at h
theorem step_yes8 {R T : Fl} (h : R.step = (T, true)) : T.down = R.down ∧ T.ws = R.ws ∧ T.n = R.n ∧ T.half = R.half ∧ T.armed = R.armed := by
  obtain ⟨n, ws, g, ar, left, dn, hf⟩ := R
  unfold Fl.step at h
  cases ar
  · simp only [Prod.mk.injEq] at h
    rw [← h.1]
    exact ⟨rfl, rfl, rfl, rfl, rfl⟩
  · cases left
    · simp at h
    · simp only [Prod.mk.injEq] at h
      rw [← h.1]
      exact ⟨rfl, rfl, rfl, rfl, rfl⟩
/-- So many sectors are erased, one behind the other, up to the first error. -/
def Fl.erases (f m : Nat) : Nat → Nat → Fl → Fl × Nat
  | 0, i, S => (S, 0)
  | k + 1, i, S => match S.derase f m (i : Int) with
    | (T, e + 1) => (T, e + 1)
    | (T, 0) => Fl.erases f m k (i + 1) T
def Fl.aerase (S : Fl) (f m : Nat) : Fl × Nat := match Fl.erases f m (m - 1) 1 S with
  | (T, e + 1) => (T, e + 1)
  | (T, 0) => T.derase f m 0
def Fl.room (S : Fl) (f m : Nat) : List UInt32 := S.at_ f 64 (64 * (m - 1))
def Fl.alook (S : Fl) (f m : Nat) : Ar := scan (S.room f m) [] 0
def emptyAr (m : Nat) : Ar := ⟨[], 0, 64 * (m - 1)⟩
def Fl.aopen (S : Fl) (f m : Nat) : Fl × Nat × Ar := match S.down with
  | true => (S, 40, emptyAr m)
  | false => if S.ws[64 * f]? = some 0 then ((S.aerase f m).1, (S.aerase f m).2, emptyAr m) else (S, 0, S.alook f m)
def Fl.aappend (S : Fl) (f m : Nat) (x : Ar) (over : Bool) (b : List UInt8) : Fl × Nat × Ar × Bool := match over with
  | true => (S, 60, x, true)
  | false => if 4096 < b.length then (S, 3, x, false) else if x.left < nW b.length then (S, 5, x, false) else match S.dwrite f m ((64 * m - x.left : Nat) : Int) (recW b) with
    | (T, 0) => (T, 0, ⟨x.L ++ [b], x.torn, x.left - nW b.length⟩, false)
    | (T, e + 1) => (T, e + 1, x, true)
def Fl.aempty (S : Fl) (f m : Nat) (x : Ar) (over : Bool) : Fl × Nat × Ar × Bool := match over with
  | true => (S, 60, x, true)
  | false => match S.dwrite f m 0 [0] with
    | (T, e + 1) => (T, e + 1, x, true)
    | (T, 0) => match T.aerase f m with
      | (U, 0) => (U, 0, emptyAr m, false)
      | (U, e + 1) => (U, e + 1, x, true)

/-- A flash that is up, of which a drive of m sectors lies from f on. -/
structure Live (S : Fl) (f m : Nat) : Prop where
  n : f + m ≤ S.n
  len : S.ws.length = 64 * S.n
  many : 2 ≤ m
  down : S.down = false
  half : S.half = -1
theorem derase_live {S : Fl} {f m σ : Nat} (h : Live S f m) (hσ : σ < m) : S.derase f m (σ : Int) = match S.step with
    | (T, true) => (T.blanked8 f σ, 0)
    | (T, false) => ({ T with half := ((f + σ : Nat) : Int) }, 40) := by
  have h1 := h.n
  have ho : secsOk m (σ : Int) 1 = true := by simp [secsOk]; omega
  have hse : S.sector ((f : Int) + (σ : Int)) = true := by simp [Fl.sector]; omega
  unfold Fl.derase Fl.erase
  rw [ho]
  simp only [h.down, hse]
  rw [show ((f : Int) + (σ : Int)) = ((f + σ : Nat) : Int) from by omega]
  cases S.step with
  | mk T r =>
    cases r
    · rfl
    · simp only [Int.toNat_natCast, Fl.blanked8]
      rw [show (f + σ) * 64 = 64 * f + (64 * σ + 0) from by omega]
theorem ones64_get (i : Nat) (h : i < 64) : ones64[i]? = some 4294967295 := by
  show (List.replicate 64 (4294967295 : UInt32))[i]? = _
  rw [List.getElem?_replicate, if_pos h]
/-- The words behind an erasing. -/
theorem blanked_get {S : Fl} {f m σ : Nat} (h : Live S f m) (hσ : σ < m) (i : Nat) : (S.blanked8 f σ).ws[i]? = if 64 * (f + σ) ≤ i ∧ i < 64 * (f + σ) + 64 then some 4294967295 else S.ws[i]? := by
  have h1 := h.n
  have h2 := h.len
  have hl : ones64.length = 64 := rfl
  show (splice S.ws (64 * f + (64 * σ + 0)) ones64)[i]? = _
  rw [splice_get2 _ _ _ _ (by rw [hl, h2]; omega), hl]
  by_cases c1 : i < 64 * f + (64 * σ + 0)
  · rw [if_pos c1, if_neg (by omega)]
  · rw [if_neg c1]
    by_cases c2 : i < 64 * f + (64 * σ + 0) + 64
    · rw [if_pos c2, if_pos (by omega), ones64_get _ (by omega)]
    · rw [if_neg c2, if_neg (by omega)]
theorem blanked_live {S : Fl} {f m σ : Nat} (h : Live S f m) (hσ : σ < m) : Live (S.blanked8 f σ) f m := by
  have h1 := h.n
  have h2 := h.len
  have hl : ones64.length = 64 := rfl
  refine ⟨h.n, ?_, h.many, h.down, h.half⟩
  show (splice S.ws (64 * f + (64 * σ + 0)) ones64).length = _
  rw [length_splice _ _ _ (by rw [hl, h2]; omega)]
  exact h2
theorem Live.step {S T : Fl} {f m : Nat} (h : Live S f m) (hs : S.step = (T, true)) : Live T f m := by
  obtain ⟨k1, k2, k3, k4, k5⟩ := step_yes8 hs
  exact ⟨by rw [k3]; exact h.n, by rw [k2, k3]; exact h.len, h.many, by rw [k1]; exact h.down, by rw [k4]; exact h.half⟩
/-- Where a failure of the power has left an erasing: within the sector σ. -/
structure Broken (T : Fl) (f m σ : Nat) : Prop where
  n : f + m ≤ T.n
  len : T.ws.length = 64 * T.n
  down : T.down = true
  half : T.half = ((f + σ : Nat) : Int)
theorem erases_gen (f m : Nat) : ∀ (k i : Nat) (S : Fl), Live S f m → i + k ≤ m → ∃ T r, Fl.erases f m k i S = (T, r) ∧ T.n = S.n ∧
    (r = 0 → Live T f m ∧ T.armed = S.armed ∧ ∀ j, T.ws[j]? = if 64 * (f + i) ≤ j ∧ j < 64 * (f + i + k) then some 4294967295 else S.ws[j]?) ∧
    (r ≠ 0 → S.armed = true ∧ ∃ σ, i ≤ σ ∧ σ < i + k ∧ Broken T f m σ ∧ ∀ j, T.ws[j]? = if 64 * (f + i) ≤ j ∧ j < 64 * (f + σ) then some 4294967295 else S.ws[j]?)
  | 0, i, S, h, hi => ⟨S, 0, rfl, rfl, fun _ => ⟨h, rfl, fun j => by rw [if_neg (by omega)]⟩, fun e => absurd rfl e⟩
  | k + 1, i, S, h, hi => by
    have hd := derase_live (σ := i) h (by omega)
    rcases hs : S.step with ⟨U, _ | _⟩
    · rw [hs] at hd
      obtain ⟨k1, k2, k3, k4, k5⟩ := step_dead8 hs
      simp only at hd
      refine ⟨({ U with half := ((f + i : Nat) : Int) } : Fl), 40, by simp only [Fl.erases]; rw [hd], k3, fun e => (by cases e), fun _ => ⟨k5, i, Nat.le_refl _, by omega, ⟨by simp only [k3]; exact h.n, by simp only [k2, k3]; exact h.len, k1, rfl⟩, fun j => ?_⟩⟩
      rw [if_neg (by omega)]
      simp only [k2]
    · rw [hs] at hd
      have hU := h.step hs
      obtain ⟨k1, k2, k3, k4, k5⟩ := step_yes8 hs
      have hB := blanked_live hU (show i < m by omega)
      obtain ⟨T, r, e1, e2, e3, e4⟩ := erases_gen f m k (i + 1) (U.blanked8 f i) hB (by omega)
      have hg := blanked_get hU (show i < m by omega)
      refine ⟨T, r, by simp only [Fl.erases]; rw [hd]; exact e1, e2.trans k3, fun e => ?_, fun e => ?_⟩
      · obtain ⟨a1, a2, a3⟩ := e3 e
        refine ⟨a1, a2.trans k5, fun j => ?_⟩
        rw [a3, hg, k2]
        by_cases c1 : 64 * (f + (i + 1)) ≤ j ∧ j < 64 * (f + (i + 1) + k)
        · rw [if_pos c1, if_pos (by omega)]
        · rw [if_neg c1]
          by_cases c2 : 64 * (f + i) ≤ j ∧ j < 64 * (f + i) + 64
          · rw [if_pos c2, if_pos (by omega)]
          · rw [if_neg c2, if_neg (by omega)]
      · obtain ⟨a0, σ, a1, a2, a3, a4⟩ := e4 e
        have ha : S.armed = true := by rw [← k5]; exact a0
        refine ⟨ha, σ, by omega, by omega, a3, fun j => ?_⟩
        rw [a4, hg, k2]
        by_cases c1 : 64 * (f + (i + 1)) ≤ j ∧ j < 64 * (f + σ)
        · rw [if_pos c1, if_pos (by omega)]
        · rw [if_neg c1]
          by_cases c2 : 64 * (f + i) ≤ j ∧ j < 64 * (f + i) + 64
          · rw [if_pos c2, if_pos (by omega)]
          · rw [if_neg c2, if_neg (by omega)]
/-- Of ones: all words of the drive from this one on. -/
def OnesFrom (S : Fl) (f m k : Nat) : Prop := ∀ j, k ≤ j → j < 64 * m → S.ws[64 * f + j]? = some 4294967295
/-- An area that is being emptied, behind a crash. -/
structure Emp (S : Fl) (f m : Nat) : Prop where
  live : Live S f m
  armed : S.armed = false
  what : S.ws[64 * f]? = some 0 ∨ (S.ws[64 * f]? = some 4294967295 ∧ OnesFrom S f m 64)
theorem crash_broken {T : Fl} {f m σ : Nat} (h : Broken T f m σ) (hm : 2 ≤ m) (hσ : σ < m) (ks : List Bool) : Live (T.crash ks) f m ∧ (T.crash ks).armed = false ∧ (T.crash ks).n = T.n ∧
    ∀ j, (T.crash ks).ws[j]? = T.ws[j]? ∨ ((T.crash ks).ws[j]? = some 4294967295 ∧ 64 * (f + σ) ≤ j ∧ j < 64 * (f + σ) + 64) := by
  have e : T.crash ks = { T with ws := mask T.ws (64 * (f + σ)) (ks.take 64), half := -1, down := false, armed := false } := by
    unfold Fl.crash
    rw [h.half, decide_eq_false (by omega)]
    simp only [Int.toNat_natCast]
    rw [show (f + σ) * 64 = 64 * (f + σ) from by omega]
  have hk : (ks.take 64).length ≤ 64 := by simp; omega
  refine ⟨⟨by rw [e]; exact h.n, by rw [e]; simp only [mask_len8]; exact h.len, hm, by rw [e], by rw [e]⟩, by rw [e], by rw [e], fun j => ?_⟩
  rw [e]
  rcases mask_get8 (ks.take 64) T.ws (64 * (f + σ)) j with h1 | ⟨h1, h2, h3⟩
  · exact .inl h1
  · exact .inr ⟨h1, h2, by omega⟩
/-- An emptying that goes on, of an area that is being emptied. -/
theorem aerase_gen {S : Fl} {f m : Nat} (h : Live S f m) (h0 : S.ws[64 * f]? = some 0) : ∃ T r, S.aerase f m = (T, r) ∧ T.n = S.n ∧
    (r = 0 → Live T f m ∧ T.armed = S.armed ∧ OnesFrom T f m 0) ∧ (r ≠ 0 → S.armed = true ∧ T.Ok ∧ T.down = true ∧ ∀ ks, Emp (T.crash ks) f m ∧ (T.crash ks).n = S.n) := by
  have hm := h.many
  obtain ⟨T, r, e1, e2, e3, e4⟩ := erases_gen f m (m - 1) 1 S h (by omega)
  unfold Fl.aerase
  rw [e1]
  rcases r with _ | r
  · obtain ⟨a1, a2, a3⟩ := e3 rfl
    have hd := derase_live (σ := 0) a1 (by omega)
    have hz : ((0 : Nat) : Int) = 0 := rfl
    rw [hz] at hd
    simp only
    rcases hs : T.step with ⟨U, _ | _⟩
    · rw [hs] at hd
      obtain ⟨k1, k2, k3, k4, k5⟩ := step_dead8 hs
      have hb : Broken ({ U with half := ((f + 0 : Nat) : Int) } : Fl) f m 0 := ⟨by simp only [k3]; exact a1.n, by simp only [k2, k3]; exact a1.len, k1, rfl⟩
      refine ⟨_, 40, hd, k3.trans e2, fun e => (by cases e), fun _ => ⟨by rw [← a2]; exact k5, .inr ⟨f + 0, rfl, ?_⟩, k1, fun ks => ?_⟩⟩
      · have := a1.n
        simp only [k3]
        omega
      · obtain ⟨b1, b2, b3, b4⟩ := crash_broken hb hm (by omega) ks
        refine ⟨⟨b1, b2, ?_⟩, b3.trans (k3.trans e2)⟩
        have hw0 : T.ws[64 * f]? = some 0 := by rw [a3, if_neg (by omega)]; exact h0
        rcases b4 (64 * f) with c | ⟨c, _, _⟩
        · left
          rw [c]
          simp only [k2]
          exact hw0
        · right
          refine ⟨c, fun j hj hj2 => ?_⟩
          have hT : T.ws[64 * f + j]? = some 4294967295 := by rw [a3, if_pos (by omega)]
          rcases b4 (64 * f + j) with q | ⟨q, _, _⟩
          · rw [q]
            simp only [k2]
            exact hT
          · exact q
    · rw [hs] at hd
      have hU := a1.step hs
      obtain ⟨k1, k2, k3, k4, k5⟩ := step_yes8 hs
      have hB := blanked_live hU (show 0 < m by omega)
      have hg := blanked_get hU (show 0 < m by omega)
      refine ⟨_, 0, hd, k3.trans e2, fun _ => ⟨hB, k5.trans a2, fun j _ hj => ?_⟩, fun e => absurd rfl e⟩
      rw [hg, k2, a3]
      by_cases c1 : 64 * (f + 0) ≤ 64 * f + j ∧ 64 * f + j < 64 * (f + 0) + 64
      · rw [if_pos c1]
      · rw [if_neg c1, if_pos (by omega)]
  · obtain ⟨a0, σ, a1, a2, a3, a4⟩ := e4 (by omega)
    refine ⟨T, r + 1, rfl, e2, fun e => (by cases e), fun _ => ⟨a0, .inr ⟨f + σ, a3.half, ?_⟩, a3.down, fun ks => ?_⟩⟩
    · have := a3.n
      omega
    · obtain ⟨b1, b2, b3, b4⟩ := crash_broken a3 hm (by omega) ks
      refine ⟨⟨b1, b2, .inl ?_⟩, b3.trans e2⟩
      rcases b4 (64 * f) with c | ⟨c, c1, c2⟩
      · rw [c, a4, if_neg (by omega)]
        exact h0
      · omega

/-! ### Records -/
theorem room_len {S : Fl} {f m : Nat} (h1 : f + m ≤ S.n) (h2 : S.ws.length = 64 * S.n) (hm : 1 ≤ m) : (S.room f m).length = 64 * (m - 1) := by
  simp [Fl.room, Fl.at_]
  omega
theorem room_get (S : Fl) (f m i : Nat) (hi : i < 64 * (m - 1)) : (S.room f m)[i]? = S.ws[64 * f + (64 + i)]? := by
  unfold Fl.room Fl.at_
  rw [List.getElem?_take, if_pos hi, List.getElem?_drop, Nat.add_assoc]
theorem room_same {S T : Fl} {f m : Nat} (h : ∀ i, i < 64 * (m - 1) → T.ws[64 * f + (64 + i)]? = S.ws[64 * f + (64 + i)]?) : T.room f m = S.room f m := by
  apply List.ext_getElem?
  intro i
  by_cases hi : i < 64 * (m - 1)
  · rw [room_get T f m i hi, room_get S f m i hi, h i hi]
  · have l1 : (T.room f m).length ≤ 64 * (m - 1) := by simp [Fl.room, Fl.at_]; omega
    have l2 : (S.room f m).length ≤ 64 * (m - 1) := by simp [Fl.room, Fl.at_]; omega
    rw [List.getElem?_eq_none (by omega), List.getElem?_eq_none (by omega)]
theorem room_splice {S T : Fl} {f m y : Nat} {X : List UInt32} (h1 : f + m ≤ S.n) (h2 : S.ws.length = 64 * S.n) (hm : 1 ≤ m) (hy : y + X.length ≤ 64 * (m - 1)) (hT : T.ws = splice S.ws (64 * f + (64 + y)) X) : T.room f m = splice (S.room f m) y X := by
  have hl := room_len h1 h2 hm
  apply List.ext_getElem?
  intro i
  by_cases hi : i < 64 * (m - 1)
  · rw [room_get T f m i hi, hT, splice_get2 _ _ _ _ (by rw [h2]; omega), splice_get2 _ _ _ _ (by rw [hl]; omega), room_get S f m i hi]
    by_cases c1 : i < y
    · rw [if_pos c1, if_pos (by omega)]
    · rw [if_neg c1, if_neg (by omega)]
      by_cases c2 : i < y + X.length
      · rw [if_pos c2, if_pos (by omega)]
        congr 1
        omega
      · rw [if_neg c2, if_neg (by omega)]
  · have l1 : (T.room f m).length ≤ 64 * (m - 1) := by simp [Fl.room, Fl.at_]; omega
    rw [List.getElem?_eq_none (by omega), List.getElem?_eq_none (by rw [length_splice _ _ _ (by rw [hl]; omega), hl]; omega)]
theorem room_ones {S : Fl} {f m : Nat} (h1 : f + m ≤ S.n) (h2 : S.ws.length = 64 * S.n) (hm : 1 ≤ m) (h : OnesFrom S f m 64) : S.room f m = List.replicate (64 * (m - 1)) 4294967295 := by
  have hl := room_len h1 h2 hm
  apply List.ext_getElem?
  intro i
  rw [List.getElem?_replicate]
  by_cases hi : i < 64 * (m - 1)
  · rw [room_get S f m i hi, if_pos hi]
    exact h (64 + i) (by omega) (by omega)
  · rw [if_neg hi, List.getElem?_eq_none (by omega)]
theorem alook_ones {S : Fl} {f m : Nat} (h1 : f + m ≤ S.n) (h2 : S.ws.length = 64 * S.n) (hm : 1 ≤ m) (h : OnesFrom S f m 64) : S.alook f m = emptyAr m := by
  unfold Fl.alook
  rw [room_ones h1 h2 hm h, scan_replicate]
  rfl
theorem alook_ok {S : Fl} {f m : Nat} (h1 : f + m ≤ S.n) (h2 : S.ws.length = 64 * S.n) (hm : 1 ≤ m) : (S.alook f m).Ok (64 * (m - 1)) := by
  have := scan_ok (S.room f m)
  rw [room_len h1 h2 hm] at this
  exact this
theorem emptyAr_ok (m : Nat) : (emptyAr m).Ok (64 * (m - 1)) := ⟨by simp [emptyAr, usedW], by simp [emptyAr]⟩
/-- An area whose records are x, and behind these there is nothing. -/
structure AGood (S : Fl) (f m : Nat) (x : Ar) : Prop where
  live : Live S f m
  head : S.ws[64 * f]? = some 4294967295
  look : S.alook f m = x
  rest : (S.room f m).drop (64 * (m - 1) - x.left) = List.replicate x.left 4294967295
theorem AGood.ok {S : Fl} {f m : Nat} {x : Ar} (h : AGood S f m x) : x.Ok (64 * (m - 1)) := by
  rw [← h.look]
  exact alook_ok h.live.n h.live.len (by have := h.live.many; omega)
theorem AGood.of_ws {S T : Fl} {f m : Nat} {x : Ar} (h : AGood S f m x) (hl : Live T f m) (hw : T.ws = S.ws) : AGood T f m x := by
  have e : T.room f m = S.room f m := room_same fun i _ => by rw [hw]
  exact ⟨hl, by rw [hw]; exact h.head, by unfold Fl.alook; rw [e]; exact h.look, by rw [e]; exact h.rest⟩
theorem good_ones {S : Fl} {f m : Nat} (h : Live S f m) (h0 : OnesFrom S f m 0) : AGood S f m (emptyAr m) := by
  have hm := h.many
  have h64 : OnesFrom S f m 64 := fun j a b => h0 j (by omega) b
  refine ⟨h, by simpa using h0 0 (Nat.le_refl _) (by omega), alook_ones h.n h.len (by omega) h64, ?_⟩
  rw [room_ones h.n h.len (by omega) h64]
  simp [emptyAr]
theorem good_head {S : Fl} {f m : Nat} (h : Live S f m) (h0 : S.ws[64 * f]? = some 4294967295) (h64 : OnesFrom S f m 64) : AGood S f m (emptyAr m) := by
  have hm := h.many
  refine ⟨h, h0, alook_ones h.n h.len (by omega) h64, ?_⟩
  rw [room_ones h.n h.len (by omega) h64]
  simp [emptyAr]
theorem crash_live {T : Fl} {f m : Nat} (h1 : f + m ≤ T.n) (h2 : T.ws.length = 64 * T.n) (hm : 2 ≤ m) (hh : T.half = -1) (ks : List Bool) : Live (T.crash ks) f m ∧ (T.crash ks).armed = false ∧ (T.crash ks).ws = T.ws ∧ (T.crash ks).n = T.n := by
  obtain ⟨w1, w2, w3, w4, w5⟩ := crash_same8 f hh ks
  exact ⟨⟨by rw [w2]; exact h1, by rw [w1, w2]; exact h2, hm, w3, w5⟩, w4, w1, w2⟩
/-- What a beginning of a record's words, behind all records, makes. -/
theorem AGood.part {S T : Fl} {f m j : Nat} {x : Ar} {b : List UInt8} (h : AGood S f m x) (hT : Live T f m) (hb : b.length ≤ 4096) (hl : nW b.length ≤ x.left) (hj : j ≤ nW b.length) (hw : T.ws = splice S.ws (64 * f + (64 * m - x.left)) ((recW b).take j)) :
    AGood T f m (if j = nW b.length then ⟨x.L ++ [b], x.torn, x.left - nW b.length⟩ else if j = 0 then x else ⟨x.L, x.torn + 1, x.left - nW b.length⟩) := by
  have hm := h.live.many
  have hok := h.ok
  have hle : x.left ≤ 64 * (m - 1) := by have := hok.many; omega
  have hrl := room_len h.live.n h.live.len (show 1 ≤ m by omega)
  have hlen := len_recW b
  have htl : ((recW b).take j).length = j := by rw [List.length_take, hlen]; omega
  have hwr : T.ws = splice S.ws (64 * f + (64 + (64 * (m - 1) - x.left))) ((recW b).take j) := by
    rw [hw]; congr 1; omega
  have hroom := room_splice (T := T) h.live.n h.live.len (show 1 ≤ m by omega) (y := 64 * (m - 1) - x.left) (X := (recW b).take j) (by rw [htl]; omega) hwr
  have hrest : (S.room f m).drop (64 * (m - 1) - x.left + j) = List.replicate (x.left - j) 4294967295 := by
    rw [← List.drop_drop, h.rest, List.drop_replicate]
  have hroom2 : T.room f m = (S.room f m).take (64 * (m - 1) - x.left) ++ ((recW b).take j ++ List.replicate (x.left - j) 4294967295) := by
    rw [hroom]
    unfold splice
    rw [htl, hrest]
  have hhead : T.ws[64 * f]? = some 4294967295 := by
    rw [hwr, splice_get2 _ _ _ _ (by rw [htl, h.live.len]; have := h.live.n; omega), if_pos (by omega)]
    exact h.head
  have hlook : T.alook f m = scan ((recW b).take j ++ List.replicate (x.left - j) 4294967295) x.L x.torn := by
    unfold Fl.alook
    rw [hroom2]
    have hx := h.look
    unfold Fl.alook at hx
    have := scan_put hx ((recW b).take j ++ List.replicate (x.left - j) 4294967295) (by rw [List.length_append, htl, List.length_replicate]; omega)
    rw [hrl] at this
    exact this
  have hdrop : ∀ k, j ≤ k → k ≤ x.left → (T.room f m).drop (64 * (m - 1) - (x.left - k)) = List.replicate (x.left - k) 4294967295 := by
    intro k hk hk2
    have e1 : ((S.room f m).take (64 * (m - 1) - x.left)).length = 64 * (m - 1) - x.left := by rw [List.length_take, hrl]; omega
    rw [hroom2, List.drop_append, List.drop_of_length_le (by rw [e1]; omega), List.nil_append, e1, List.drop_append, List.drop_of_length_le (by rw [htl]; omega), List.nil_append, htl, List.drop_replicate]
    congr 1
    omega
  by_cases c1 : j = nW b.length
  · rw [if_pos c1]
    refine ⟨hT, hhead, ?_, hdrop (nW b.length) (by omega) hl⟩
    rw [hlook, c1, List.take_of_length_le (by rw [hlen]; exact Nat.le_refl _), scan_words hb, scan_replicate]
  · rw [if_neg c1]
    by_cases c0 : j = 0
    · rw [if_pos c0]
      refine ⟨hT, hhead, ?_, ?_⟩
      · rw [hlook, c0, List.take_zero, List.nil_append, Nat.sub_zero, scan_replicate]
      · have := hdrop 0 (by omega) (Nat.zero_le _)
        simpa using this
    · rw [if_neg c0]
      refine ⟨hT, hhead, ?_, hdrop (nW b.length) (by omega) hl⟩
      rw [hlook, scan_torn hb j x.left (by omega) (by omega) hl]
/-- An Append that has its place. -/
theorem aappend_gen {S : Fl} {f m : Nat} {x : Ar} (h : AGood S f m x) (b : List UInt8) (hb : b.length ≤ 4096) (hl : nW b.length ≤ x.left) : ∃ T r, S.dwrite f m ((64 * m - x.left : Nat) : Int) (recW b) = (T, r) ∧ T.n = S.n ∧ T.half = -1 ∧
    (r = 0 → AGood T f m ⟨x.L ++ [b], x.torn, x.left - nW b.length⟩) ∧ (r ≠ 0 → S.armed = true ∧ T.down = true ∧ ∀ ks, ∃ y, y.L = x.L ∧ AGood (T.crash ks) f m y ∧ (T.crash ks).armed = false) ∧ (S.armed = false → T.armed = false) := by
  have hm := h.live.many
  have hn := h.live.n
  have hlw := h.live.len
  have hok := h.ok
  have hle : x.left ≤ 64 * (m - 1) := by have := hok.many; omega
  have hlen := len_recW b
  have hw : wordsOk m ((64 * m - x.left : Nat) : Int) ((recW b).length : Int) = true := by simp [wordsOk, hlen]; omega
  have hones : ∀ i, i < nW b.length → S.ws[64 * f + (64 * m - x.left) + i]? = some 4294967295 := by
    intro i hi
    have h1 := room_get S f m (64 * (m - 1) - x.left + i) (by omega)
    have h2 : ((S.room f m).drop (64 * (m - 1) - x.left))[i]? = some 4294967295 := by
      rw [h.rest, List.getElem?_replicate, if_pos (by omega)]
    rw [List.getElem?_drop, h1] at h2
    rw [← h2]
    congr 1
    omega
  have hat : S.at_ f (64 * m - x.left) (recW b).length = List.replicate (recW b).length 4294967295 := by
    apply List.ext_getElem?
    intro i
    unfold Fl.at_
    rw [List.getElem?_take, List.getElem?_replicate, List.getElem?_drop, hlen]
    by_cases hi : i < nW b.length
    · rw [if_pos hi, if_pos hi]
      exact hones i hi
    · rw [if_neg hi, if_neg hi]
  have hset : sets32 (S.at_ f (64 * m - x.left) (recW b).length) (recW b) = false := by rw [hat]; exact sets32_ones _
  obtain ⟨T, j, hj, p1, p2, p3, p4, p5, p6⟩ := Fl.prog_part8 (recW b) S (64 * f + (64 * m - x.left)) (fun i hi => hones i (by rw [← hlen]; exact hi))
  rw [hlen] at hj p1 p5 p6
  have htw : T.ws.length = 64 * T.n := by
    rw [p2, p3, length_splice _ _ _ (by rw [List.length_take, hlen, hlw]; omega)]
    exact hlw
  have hdw : S.dwrite f m ((64 * m - x.left : Nat) : Int) (recW b) = (T, if j = nW b.length then 0 else 40) := by
    unfold Fl.dwrite
    rw [hw, h.live.down, Int.toNat_natCast, hset]
    simp only
    rw [p1]
    by_cases c : j = nW b.length
    · rw [decide_eq_true c, if_pos c]
    · rw [decide_eq_false c, if_neg c]
  have harm : S.armed = false → j = nW b.length ∧ T.armed = false := fun e => by
    obtain ⟨T', q1, q2⟩ := Fl.prog_up (recW b) S (64 * f + (64 * m - x.left)) e
    rw [p1] at q1
    simp only [Prod.mk.injEq, decide_eq_true_eq] at q1
    exact ⟨q1.2, by rw [q1.1]; exact q2⟩
  refine ⟨T, _, hdw, p3, p4.trans h.live.half, fun e => ?_, fun e => ?_, fun e => (harm e).2⟩
  · have c : j = nW b.length := by
      by_cases c : j = nW b.length
      · exact c
      · rw [if_neg c] at e; cases e
    have hT : Live T f m := ⟨by rw [p3]; exact hn, htw, hm, (p5 c).trans h.live.down, p4.trans h.live.half⟩
    have := h.part hT hb hl hj p2
    rwa [if_pos c] at this
  · have c : ¬ j = nW b.length := by
      intro c
      rw [if_pos c] at e
      exact e rfl
    refine ⟨?_, p6 (by omega), fun ks => ?_⟩
    · cases ha : S.armed
      · exact absurd (harm ha).1 c
      · rfl
    · obtain ⟨w1, w2, w3, w4⟩ := crash_live (T := T) (f := f) (m := m) (by rw [p3]; exact hn) htw hm (p4.trans h.live.half) ks
      have := h.part w1 hb hl hj (w3.trans p2)
      rw [if_neg c] at this
      by_cases c0 : j = 0
      · rw [if_pos c0] at this
        exact ⟨x, rfl, this, w2⟩
      · rw [if_neg c0] at this
        exact ⟨⟨x.L, x.torn + 1, x.left - nW b.length⟩, rfl, this, w2⟩
/-- An Empty. -/
theorem aempty_gen {S : Fl} {f m : Nat} {x : Ar} (h : AGood S f m x) : ∃ T r, S.aempty f m x false = (T, r, (if r = 0 then emptyAr m else x), !(r == 0)) ∧ T.n = S.n ∧ T.Ok ∧
    (r = 0 → Live T f m ∧ OnesFrom T f m 0 ∧ T.armed = S.armed) ∧ (r ≠ 0 → S.armed = true ∧ T.down = true ∧ ∀ ks, (T.crash ks).n = S.n ∧ ((AGood (T.crash ks) f m x ∧ (T.crash ks).armed = false) ∨ Emp (T.crash ks) f m)) := by
  have hm := h.live.many
  have hn := h.live.n
  have hlw := h.live.len
  have hw : wordsOk m 0 (([0] : List UInt32).length : Int) = true := by simp [wordsOk]; omega
  have hhead := h.head
  have hset : sets32 (S.at_ f 0 ([0] : List UInt32).length) [0] = false := by
    have : S.at_ f 0 ([0] : List UInt32).length = [4294967295] := by
      unfold Fl.at_
      rw [Nat.add_zero]
      exact take_one8 hhead
    rw [this]
    rfl
  rcases hs : S.step with ⟨U, _ | _⟩
  · obtain ⟨k1, k2, k3, k4, k5⟩ := step_dead8 hs
    have hd : S.dwrite f m 0 [0] = (U, 40) := by
      unfold Fl.dwrite
      rw [hw, h.live.down]
      simp only [Int.toNat_zero]
      rw [hset]
      simp only [Fl.prog]
      rw [hs]
    refine ⟨U, 40, ?_, k3, .inl (k4.trans h.live.half), fun e => (by cases e), fun _ => ⟨k5, k1, fun ks => ?_⟩⟩
    · unfold Fl.aempty
      simp only
      rw [hd]
      rfl
    · obtain ⟨w1, w2, w3, w4⟩ := crash_live (T := U) (f := f) (m := m) (by rw [k3]; exact hn) (by rw [k2, k3]; exact hlw) hm (k4.trans h.live.half) ks
      exact ⟨w4.trans k3, .inl ⟨h.of_ws w1 (w3.trans k2), w2⟩⟩
  · obtain ⟨k1, k2, k3, k4, k5⟩ := step_yes8 hs
    have hU := h.live.step hs
    obtain ⟨V, hV⟩ : ∃ V, V = U.put1 (64 * f) 0 := ⟨_, rfl⟩
    have hVw : V.ws = U.ws.set (64 * f) 0 := by
      rw [hV]
      show U.ws.set (64 * f) (U.ws.getD (64 * f) 0 &&& 0) = _
      simp
    have hd : S.dwrite f m 0 [0] = (V, 0) := by
      unfold Fl.dwrite
      rw [hw, h.live.down]
      simp only [Int.toNat_zero]
      rw [hset]
      simp only [Fl.prog]
      rw [hs]
      simp only [Nat.add_zero]
      rw [hV]
    have hVl : Live V f m := ⟨by rw [hV]; exact hU.n, by rw [hVw, List.length_set, hV]; exact hU.len, hm, by rw [hV]; exact hU.down, by rw [hV]; exact hU.half⟩
    have hV0 : V.ws[64 * f]? = some 0 := by
      rw [hVw, List.getElem?_set, if_pos rfl, if_pos (by rw [hU.len]; have := hU.n; omega)]
    have hVn : V.n = S.n := by rw [hV]; exact k3
    have hVa : V.armed = S.armed := by rw [hV]; exact k5
    obtain ⟨T, r, e1, e2, e3, e4⟩ := aerase_gen hVl hV0
    refine ⟨T, r, ?_, e2.trans hVn, ?_, fun e => ?_, fun e => ?_⟩
    · unfold Fl.aempty
      simp only
      rw [hd]
      simp only
      rw [e1]
      cases r <;> simp
    · cases r with
      | zero => exact .inl (e3 rfl).1.half
      | succ r => exact (e4 (by omega)).2.1
    · obtain ⟨a1, a2, a3⟩ := e3 e
      exact ⟨a1, a3, a2.trans hVa⟩
    · obtain ⟨a1, a2, a3, a4⟩ := e4 e
      exact ⟨by rw [← hVa]; exact a1, a3, fun ks => ⟨(a4 ks).2.trans hVn, .inr (a4 ks).1⟩⟩
/-- Open of an area that was being emptied, armed or not. -/
theorem aopen_emp {S R : Fl} {f m : Nat} (h : Emp S f m) (hR : R.ws = S.ws) (hl : Live R f m) : ∃ T r, R.aopen f m = (T, r, emptyAr m) ∧ T.n = R.n ∧ T.Ok ∧
    (r = 0 → Live T f m ∧ T.armed = R.armed ∧ AGood T f m (emptyAr m)) ∧ (r ≠ 0 → R.armed = true ∧ T.down = true ∧ ∀ ks, Emp (T.crash ks) f m ∧ (T.crash ks).n = R.n) := by
  have hm := h.live.many
  rcases h.what with h0 | ⟨h0, h1⟩
  · obtain ⟨T, r, e1, e2, e3, e4⟩ := aerase_gen hl (by rw [hR]; exact h0)
    refine ⟨T, r, ?_, e2, ?_, fun e => ?_, fun e => ?_⟩
    · unfold Fl.aopen
      rw [hl.down]
      simp only
      rw [hR, if_pos h0, e1]
    · cases r with
      | zero => exact .inl (e3 rfl).1.half
      | succ r => exact (e4 (by omega)).2.1
    · obtain ⟨a1, a2, a3⟩ := e3 e
      exact ⟨a1, a2, good_ones a1 a3⟩
    · obtain ⟨a1, a2, a3, a4⟩ := e4 e
      exact ⟨a1, a3, a4⟩
  · have hg : AGood R f m (emptyAr m) := good_head hl (by rw [hR]; exact h0) (fun j a b => by rw [hR]; exact h1 j a b)
    refine ⟨R, 0, ?_, rfl, .inl hl.half, fun _ => ⟨hl, rfl, hg⟩, fun e => absurd rfl e⟩
    unfold Fl.aopen
    rw [hl.down]
    simp only
    rw [hR, if_neg (by rw [h0]; decide), hg.look]
theorem aopen_good {S : Fl} {f m : Nat} {x : Ar} (h : AGood S f m x) : S.aopen f m = (S, 0, x) := by
  unfold Fl.aopen
  rw [h.live.down]
  simp only
  rw [if_neg (by rw [h.head]; decide), h.look]
end Go.Proofs.Ytpdfalgjmeagjaa
namespace Go.Proofs.Ytpdfalgjmeagjaa
open Go.RowKit
set_option linter.unusedVariables false

theorem derase_code {S : Fl} {f m σ : Nat} (hn : f + m ≤ S.n) (hσ : σ < m) : (S.derase f m (σ : Int)).2 = 0 ∨ (S.derase f m (σ : Int)).2 = 40 := by
  have ho : secsOk m (σ : Int) 1 = true := by simp [secsOk]; omega
  have hse : S.sector ((f : Int) + (σ : Int)) = true := by simp [Fl.sector]; omega
  unfold Fl.derase Fl.erase
  rw [ho, hse]
  cases S.down
  · cases S.step with
    | mk T r => cases r <;> simp
  · exact .inr rfl
theorem derase_nn {S : Fl} {f m : Nat} {s : Int} : (S.derase f m s).1.n = S.n := by
  have := Fl.step_n S
  unfold Fl.derase Fl.erase
  split
  · rfl
  · split
    · rfl
    · rfl
    · revert this
      cases S.step with
      | mk T r => cases r <;> exact fun h => h
theorem erases_code (f m : Nat) : ∀ (k i : Nat) (S : Fl), f + m ≤ S.n → i + k ≤ m → ((Fl.erases f m k i S).2 = 0 ∨ (Fl.erases f m k i S).2 = 40) ∧ (Fl.erases f m k i S).1.n = S.n
  | 0, i, S, _, _ => ⟨.inl rfl, rfl⟩
  | k + 1, i, S, hn, hi => by
    have h1 := derase_code (σ := i) hn (by omega)
    have h2 := derase_nn (S := S) (f := f) (m := m) (s := (i : Int))
    simp only [Fl.erases]
    rcases hd : S.derase f m (i : Int) with ⟨T, e⟩
    rw [hd] at h1 h2
    cases e with
    | zero =>
      simp only at h2 ⊢
      have := erases_code f m k (i + 1) T (by rw [h2]; exact hn) (by omega)
      rw [h2] at this
      exact this
    | succ e => exact ⟨h1, h2⟩
theorem aerase_code {S : Fl} {f m : Nat} (hn : f + m ≤ S.n) (hm : 1 ≤ m) : (S.aerase f m).2 = 0 ∨ (S.aerase f m).2 = 40 := by
  obtain ⟨h1, h2⟩ := erases_code f m (m - 1) 1 S hn (by omega)
  unfold Fl.aerase
  rcases hd : Fl.erases f m (m - 1) 1 S with ⟨T, e⟩
  rw [hd] at h1 h2
  cases e with
  | zero =>
    simp only at h2 ⊢
    exact derase_code (σ := 0) (by rw [h2]; exact hn) (by omega)
  | succ e => exact h1
theorem dwrite_code (S : Fl) (f m : Nat) (a : Int) (l : List UInt32) : (S.dwrite f m a l).2 = 0 ∨ (S.dwrite f m a l).2 = 2 ∨ (S.dwrite f m a l).2 = 40 ∨ (S.dwrite f m a l).2 = 50 := by
  unfold Fl.dwrite
  split
  · simp
  · simp
  · split
    · simp
    · split <;> simp
theorem aopen_code {S : Fl} {f m : Nat} (hn : f + m ≤ S.n) (hm : 1 ≤ m) : (S.aopen f m).2.1 = 0 ∨ (S.aopen f m).2.1 = 40 := by
  unfold Fl.aopen
  split
  · exact .inr rfl
  · split
    · exact aerase_code hn hm
    · exact .inl rfl

/-- A flash that rests: its area has these records, or is being emptied, and then there are none. -/
structure Rest (S : Fl) (f m : Nat) (L : List (List UInt8)) : Prop where
  live : Live S f m
  armed : S.armed = false
  what : (∃ x, AGood S f m x ∧ x.L = L) ∨ (Emp S f m ∧ L = [])
theorem arm_live {S : Fl} {f m : Nat} (h : Live S f m) (k : Int) : Live (S.arm k) f m ∧ (S.arm k).ws = S.ws ∧ (S.arm k).n = S.n := by
  unfold Fl.arm
  rw [h.down]
  exact ⟨⟨h.n, h.len, h.many, rfl, h.half⟩, rfl, rfl⟩
theorem AGood.rests {S : Fl} {f m : Nat} {x : Ar} (h : AGood S f m x) (ks : List Bool) : Rest (S.crash ks) f m x.L ∧ (S.crash ks).n = S.n := by
  obtain ⟨w1, w2, w3, w4⟩ := crash_live h.live.n h.live.len h.live.many h.live.half ks
  exact ⟨⟨w1, w2, .inl ⟨x, h.of_ws w1 w3, rfl⟩⟩, w4⟩
/-- Open of what rests, the flash armed or not. -/
theorem rest_open {S R : Fl} {f m : Nat} {L : List (List UInt8)} (h : Rest S f m L) (hR : R.ws = S.ws) (hl : Live R f m) : ∃ T r y, R.aopen f m = (T, r, y) ∧ T.n = R.n ∧ T.Ok ∧
    (r = 0 → AGood T f m y ∧ y.L = L ∧ T.armed = R.armed) ∧ (r ≠ 0 → r = 40 ∧ R.armed = true) ∧ ∀ ks, Rest (T.crash ks) f m L ∧ (T.crash ks).n = R.n := by
  rcases h.what with ⟨x, hg, rfl⟩ | ⟨he, rfl⟩
  · have hg2 := hg.of_ws hl hR
    exact ⟨R, 0, x, aopen_good hg2, rfl, .inl hl.half, fun _ => ⟨hg2, rfl, rfl⟩, fun e => absurd rfl e, fun ks => hg2.rests ks⟩
  · obtain ⟨T, r, e1, e2, e3, e4, e5⟩ := aopen_emp he hR hl
    have hc := aopen_code hl.n (by have := hl.many; omega)
    rw [e1] at hc
    refine ⟨T, r, emptyAr m, e1, e2, e3, fun e => ⟨(e4 e).2.2, rfl, (e4 e).2.1⟩, fun e => ⟨by rcases hc with c | c; exact absurd c e; exact c, (e5 e).1⟩, fun ks => ?_⟩
    by_cases hr : r = 0
    · have := (e4 hr).2.2.rests ks
      rw [e2] at this
      exact this
    · obtain ⟨k1, k2⟩ := (e5 hr).2.2 ks
      exact ⟨⟨k1.live, k1.armed, .inr ⟨k1, rfl⟩⟩, k2⟩
/-- What an Append comes to. -/
theorem append_law {S : Fl} {f m : Nat} {x : Ar} (h : AGood S f m x) (b : List UInt8) (hb : b.length ≤ 4096) : ∃ T r x' over', S.aappend f m x false b = (T, r, x', over') ∧ T.n = S.n ∧ T.Ok ∧
    ((r = 5 ∧ over' = false ∧ x' = x ∧ T = S ∧ x.left < nW b.length) ∨ (r = 0 ∧ over' = false ∧ x'.L = x.L ++ [b] ∧ x' = ⟨x.L ++ [b], x.torn, x.left - nW b.length⟩ ∧ AGood T f m x' ∧ (S.armed = false → T.armed = false) ∧ nW b.length ≤ x.left) ∨
     (r ≠ 0 ∧ r ≠ 5 ∧ over' = true ∧ S.armed = true ∧ ∀ ks, Rest (T.crash ks) f m x.L ∧ (T.crash ks).n = S.n)) := by
  have e0 : S.aappend f m x false b = if 4096 < b.length then (S, 3, x, false) else if x.left < nW b.length then (S, 5, x, false) else match S.dwrite f m ((64 * m - x.left : Nat) : Int) (recW b) with
    | (T, 0) => (T, 0, ⟨x.L ++ [b], x.torn, x.left - nW b.length⟩, false)
    | (T, e + 1) => (T, e + 1, x, true) := rfl
  by_cases hl : x.left < nW b.length
  · exact ⟨S, 5, x, false, by rw [e0, if_neg (by omega), if_pos hl], rfl, .inl h.live.half, .inl ⟨rfl, rfl, rfl, rfl, hl⟩⟩
  · obtain ⟨T, r, e1, e2, e3, e4, e5, e6⟩ := aappend_gen h b hb (by omega)
    have hc := dwrite_code S f m ((64 * m - x.left : Nat) : Int) (recW b)
    rw [e1] at hc
    simp only at hc
    cases r with
    | zero => exact ⟨T, 0, _, false, by rw [e0, if_neg (by omega), if_neg hl, e1], e2, .inl e3, .inr (.inl ⟨rfl, rfl, rfl, rfl, e4 rfl, e6, by omega⟩)⟩
    | succ r =>
      obtain ⟨a1, a2, a3⟩ := e5 (by omega)
      refine ⟨T, r + 1, x, true, by rw [e0, if_neg (by omega), if_neg hl, e1], e2, .inl e3, .inr (.inr ⟨by omega, by omega, rfl, a1, fun ks => ?_⟩)⟩
      obtain ⟨y, y1, y2, y3⟩ := a3 ks
      have hn : (T.crash ks).n = T.n := by
        unfold Fl.crash
        split <;> rfl
      exact ⟨⟨y2.live, y3, .inl ⟨y, y2, y1⟩⟩, hn.trans e2⟩
/-- What an Empty comes to. -/
theorem empty_law {S : Fl} {f m : Nat} {x : Ar} (h : AGood S f m x) : ∃ T r x' over', S.aempty f m x false = (T, r, x', over') ∧ T.n = S.n ∧ T.Ok ∧
    ((r = 0 ∧ over' = false ∧ x' = emptyAr m ∧ AGood T f m x' ∧ OnesFrom T f m 0 ∧ T.armed = S.armed) ∨
     (r ≠ 0 ∧ r ≠ 5 ∧ over' = true ∧ S.armed = true ∧ ∀ ks, (Rest (T.crash ks) f m x.L ∨ Rest (T.crash ks) f m []) ∧ (T.crash ks).n = S.n)) := by
  obtain ⟨T, r, e1, e2, e3, e4, e5⟩ := aempty_gen h
  have hc : r = 0 ∨ r = 2 ∨ r = 40 ∨ r = 50 := by
    have q : (S.aempty f m x false).2.1 = r := by rw [e1]
    have hw := dwrite_code S f m 0 [0]
    unfold Fl.aempty at q
    simp only at q
    rcases hd : S.dwrite f m 0 [0] with ⟨V, e⟩
    rw [hd] at q hw
    cases e with
    | succ e =>
      simp only at q hw
      omega
    | zero =>
      simp only at q
      have hVn : V.n = S.n := by
        have : (S.dwrite f m 0 [0]).1.n = S.n := by
          unfold Fl.dwrite
          split
          · rfl
          · rfl
          · split
            · rfl
            · have hp := Fl.prog_nn [0] S (64 * f + (0 : Int).toNat)
              split
              · rename_i hq; rw [hq] at hp; exact hp
              · rename_i hq; rw [hq] at hp; exact hp
        rw [hd] at this
        exact this
      have ha := aerase_code (S := V) (f := f) (m := m) (by rw [hVn]; exact h.live.n) (by have := h.live.many; omega)
      rcases hx : V.aerase f m with ⟨U, e⟩
      rw [hx] at q ha
      cases e with
      | zero => simp only at q; omega
      | succ e => simp only at q ha; omega
  by_cases hr : r = 0
  · subst hr
    obtain ⟨a1, a2, a3⟩ := e4 rfl
    exact ⟨T, 0, _, _, e1, e2, e3, .inl ⟨rfl, rfl, rfl, good_ones a1 a2, a2, a3⟩⟩
  · obtain ⟨a1, a2, a3⟩ := e5 hr
    refine ⟨T, r, _, _, e1, e2, e3, .inr ⟨hr, by omega, by simp [hr], a1, fun ks => ?_⟩⟩
    obtain ⟨k1, k2⟩ := a3 ks
    rcases k2 with ⟨k2, k3⟩ | k2
    · exact ⟨.inl ⟨k2.live, k3, .inl ⟨x, k2, rfl⟩⟩, k1⟩
    · exact ⟨.inr ⟨k2.live, k2.armed, .inr ⟨k2, rfl⟩⟩, k1⟩
end Go.Proofs.Ytpdfalgjmeagjaa
