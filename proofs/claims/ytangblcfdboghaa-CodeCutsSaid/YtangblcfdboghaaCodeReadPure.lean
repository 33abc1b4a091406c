/-
  Programs read back from bytes, as plain functions: what was written is read, what is read was written.
-/
import Derived.Test.YtangblcfdboghaaCodePure
import Derived.Test.YtangblcfdboghaaReadPure
import Derived.Test.YtangblcfdboghaaGetBlob
namespace Go.Proofs.Ytangblcfdboghaa
set_option linter.unusedVariables false

/-- Where one is, and whether all was there so far. -/
abbrev Rs := Nat × Bool
def rnum (l : List UInt8) (most : Nat) (s : Rs) : Nat × Rs :=
  if s.2 = true ∧ (getU l s.1).2.2 = 0 ∧ (getU l s.1).1 ≤ most then ((getU l s.1).1, (getU l s.1).2.1, true) else (0, s.1, false)
def rname (l : List UInt8) (s : Rs) : List UInt8 × Rs :=
  if s.2 = true ∧ (getB l s.1 40).2.2 = 0 then ((getB l s.1 40).1, (getB l s.1 40).2.1, true) else ([], s.1, false)
def rvar (l : List UInt8) (s : Rs) : Vr × Rs :=
  let a := rname l s
  let b := rnum l 255 a.2
  let c := rnum l 255 b.2
  let d := rnum l ((rng c.1).2 - (rng c.1).1).toNat c.2
  (⟨a.1, b.1, c.1, (rng c.1).1 + (d.1 : Int)⟩, d.2)
def rblk (l : List UInt8) (s : Rs) : UInt8 × Rs := (UInt8.ofNat (rnum l 255 s).1, (rnum l 255 s).2)
def rjn (l : List UInt8) (s : Rs) : Jn × Rs :=
  let a := rnum l 255 s
  let b := rnum l 255 a.2
  let c := rnum l 9223372036854775807 b.2
  let d := rnum l 18446744073709551615 c.2
  (⟨a.1, b.1, (c.1 : Int), unfF d.1⟩, d.2)
def rlist {α : Type} (f : Rs → α × Rs) : Nat → Rs → List α × Rs
  | 0, s => ([], s)
  | n + 1, s => ((f s).1 :: (rlist f n (f s).2).1, (rlist f n (f s).2).2)
theorem rlist_snoc {α : Type} (f : Rs → α × Rs) : ∀ (n : Nat) (s : Rs), rlist f (n + 1) s = ((rlist f n s).1 ++ [(f (rlist f n s).2).1], (f (rlist f n s).2).2)
  | 0, s => rfl
  | n + 1, s => by
    have := rlist_snoc f n (f s).2
    rw [rlist, this]
    simp [rlist]
theorem rlist_len {α : Type} (f : Rs → α × Rs) : ∀ (n : Nat) (s : Rs), (rlist f n s).1.length = n
  | 0, s => rfl
  | n + 1, s => by simp [rlist, rlist_len f n]
def readP (l : List UInt8) : Pg × Rs :=
  let a := rname l (0, true)
  let b := rnum l 200 a.2
  let vs := rlist (rvar l) b.1 b.2
  let c := rnum l 100 vs.2
  let bs := rlist (rblk l) c.1 c.2
  let d := rnum l 2000 bs.2
  let js := rlist (rjn l) d.1 d.2
  (⟨a.1, vs.1, bs.1, js.1⟩, js.2)
/-- Is this a right program's bytes? -/
def readOk (l : List UInt8) : Bool := (readP l).2.2 && (decide ((readP l).2.1 = l.length) && (readP l).1.right)

/-! ### what was written is read -/
/-- At a place of a list one reads x, and is behind what was written of it. -/
def Back {α : Type} (f : List UInt8 → Rs → α × Rs) (x : α) (w : List UInt8) : Prop := ∀ l a t, l = a ++ (w ++ t) → f l (a.length, true) = (x, (a ++ w).length, true)
theorem back_num {n most : Nat} (h : n ≤ most) (h64 : n < 18446744073709551616) : Back (fun l => rnum l most) n (digs n) := by
  intro l a t e
  subst e
  simp only [rnum]
  rw [getU_digs a t n _ rfl h64]
  simp [h, len_digs]
theorem back_name {b : List UInt8} (h : b.length ≤ 40) : Back rname b (blob b) := by
  intro l a t e
  subst e
  simp only [rname]
  rw [getB_blob a b t _ 40 rfl (by omega) (by omega)]
  simp [blob, len_digs]
theorem back_list {α : Type} {f : List UInt8 → Rs → α × Rs} {w : α → List UInt8} : ∀ xs : List α, (∀ x ∈ xs, Back f x (w x)) → Back (fun l => rlist (f l) xs.length) xs (xs.flatMap w)
  | [], _ => by intro l a t e; simp [rlist]
  | x :: xs, h => by
    intro l a t e
    have h1 := h x (by simp) l a (xs.flatMap w ++ t) (by rw [e]; simp)
    have h2 := back_list xs (fun y hy => h y (by simp [hy])) l (a ++ w x) t (by rw [e]; simp)
    simp only [List.length_cons, rlist]
    rw [h1]
    simp only [] at h2 ⊢
    rw [h2]
    simp
theorem rng_width (t : Nat) : (rng t).2 - (rng t).1 ≤ 4294967295 := by
  unfold rng
  repeat' split
  all_goals simp
theorem back_var {v : Vr} (h : v.right = true) : Back rvar v v.bytes := by
  obtain ⟨nm, c, ty, f⟩ := v
  simp only [Vr.right, nameOk, isTy, inR, Bool.and_eq_true, decide_eq_true_eq] at h
  obtain ⟨⟨⟨⟨⟨_, hn⟩, hc1⟩, hc2⟩, ht1, ht2⟩, hf1, hf2⟩ := h
  have hw := rng_width ty
  intro l a t e
  have e : l = a ++ (blob nm ++ (digs c ++ (digs ty ++ (digs (f - (rng ty).1).toNat ++ t)))) := by rw [e]; simp [Vr.bytes, Vr.nums, digl]
  have g1 := back_name hn l a _ e
  have g2 := back_num (n := c) (most := 255) (by omega) (by omega) l (a ++ blob nm) (digs ty ++ (digs (f - (rng ty).1).toNat ++ t)) (by rw [e]; simp)
  have g3 := back_num (n := ty) (most := 255) (by omega) (by omega) l (a ++ blob nm ++ digs c) (digs (f - (rng ty).1).toNat ++ t) (by rw [e]; simp)
  have g4 := back_num (n := (f - (rng ty).1).toNat) (most := ((rng ty).2 - (rng ty).1).toNat) (by omega) (by omega) l (a ++ blob nm ++ digs c ++ digs ty) t (by rw [e]; simp)
  simp only [rvar, g1]
  simp only [] at g2 g3 g4
  simp only [g2, g3, g4]
  rw [show (rng ty).1 + ((f - (rng ty).1).toNat : Int) = f from by omega]
  simp [Vr.bytes, Vr.nums, digl]
theorem back_blk {k : UInt8} : Back rblk k (digs k.toNat) := by
  intro l a t e
  have h := UInt8.toNat_lt k
  have g1 := back_num (n := k.toNat) (most := 255) (by omega) (by omega) l a t e
  simp only [] at g1
  simp only [rblk, g1]
  simp
theorem foldF_lt {n : Int} (h : -9223372036854775808 ≤ n ∧ n < 9223372036854775808) : foldF n < 18446744073709551616 := by
  unfold foldF
  split <;> omega
theorem unfF_foldF (n : Int) : unfF (foldF n) = n := by
  unfold unfF foldF
  split <;> split <;> omega
theorem foldF_unfF (n : Nat) : foldF (unfF n) = n := by
  unfold unfF foldF
  split <;> split <;> omega
theorem back_jn {j : Jn} (ho : j.op < 256) (ht : j.t < 256) (ha : 0 ≤ j.a) (ha2 : j.a < 9223372036854775808) (hn : -9223372036854775808 ≤ j.n ∧ j.n < 9223372036854775808) : Back rjn j j.bytes := by
  obtain ⟨o, ty, x, n⟩ := j
  simp only [] at ho ht ha ha2 hn
  intro l a t e
  have h64 := foldF_lt hn
  have e : l = a ++ (digs o ++ (digs ty ++ (digs x.toNat ++ (digs (foldF n) ++ t)))) := by rw [e]; simp [Jn.bytes, Jn.nums, digl]
  have g1 := back_num (n := o) (most := 255) (by omega) (by omega) l a _ e
  have g2 := back_num (n := ty) (most := 255) (by omega) (by omega) l (a ++ digs o) (digs x.toNat ++ (digs (foldF n) ++ t)) (by rw [e]; simp)
  have g3 := back_num (n := x.toNat) (most := 9223372036854775807) (by omega) (by omega) l (a ++ digs o ++ digs ty) (digs (foldF n) ++ t) (by rw [e]; simp)
  have g4 := back_num (n := foldF n) (most := 18446744073709551615) (by omega) (by omega) l (a ++ digs o ++ digs ty ++ digs x.toNat) t (by rw [e]; simp)
  simp only [] at g1 g2 g3 g4
  simp only [rjn, g1, g2, g3, g4, unfF_foldF]
  rw [show ((x.toNat : Nat) : Int) = x from by omega]
  simp [Jn.bytes, Jn.nums, digl]
/-- What a program's fields must be to be laid in memory. -/
structure Small (p : Pg) : Prop where
  op : ∀ j ∈ p.ins, j.op < 256 ∧ j.t < 256 ∧ 0 ≤ j.a ∧ j.a < 9223372036854775808 ∧ -9223372036854775808 ≤ j.n ∧ j.n < 9223372036854775808
theorem read_bytes {p : Pg} (h : p.right = true) (hs : Small p) (t : List UInt8) : readP (p.bytes ++ t) = (p, p.bytes.length, true) := by
  obtain ⟨nm, vs, bs, js⟩ := p
  have hr := h
  simp only [Pg.right, nameOk, varsOk, blocksOk, insOk, Bool.and_eq_true, decide_eq_true_eq, List.all_eq_true] at hr
  obtain ⟨⟨_, hn⟩, ⟨hv, hvr, _⟩, ⟨hb, _⟩, ⟨_, hj⟩, _⟩ := hr
  obtain ⟨l, hl⟩ : ∃ l, l = Pg.bytes ⟨nm, vs, bs, js⟩ ++ t := ⟨_, rfl⟩
  rw [← hl]
  have e : l = [] ++ (blob nm ++ (digs vs.length ++ (vs.flatMap Vr.bytes ++ (digs bs.length ++ (blB bs ++ (digs js.length ++ (js.flatMap Jn.bytes ++ t))))))) := by rw [hl]; simp [Pg.bytes]
  have g1 := back_name hn l [] _ e
  have g2 := back_num (n := vs.length) (most := 200) hv (by omega) l (blob nm) (vs.flatMap Vr.bytes ++ (digs bs.length ++ (blB bs ++ (digs js.length ++ (js.flatMap Jn.bytes ++ t))))) (by rw [e]; simp)
  have g3 := back_list vs (fun v hv => back_var (hvr v hv)) l (blob nm ++ digs vs.length) (digs bs.length ++ (blB bs ++ (digs js.length ++ (js.flatMap Jn.bytes ++ t)))) (by rw [e]; simp)
  have g4 := back_num (n := bs.length) (most := 100) hb (by omega) l (blob nm ++ digs vs.length ++ vs.flatMap Vr.bytes) (blB bs ++ (digs js.length ++ (js.flatMap Jn.bytes ++ t))) (by rw [e]; simp)
  have g5 := back_list bs (fun k _ => back_blk (k := k)) l (blob nm ++ digs vs.length ++ vs.flatMap Vr.bytes ++ digs bs.length) (digs js.length ++ (js.flatMap Jn.bytes ++ t)) (by rw [e]; simp [blB])
  have g6 := back_num (n := js.length) (most := 2000) hj (by omega) l (blob nm ++ digs vs.length ++ vs.flatMap Vr.bytes ++ digs bs.length ++ blB bs) (js.flatMap Jn.bytes ++ t) (by rw [e]; simp)
  have g7 := back_list js (fun j hj => let q := hs.op j hj; back_jn q.1 q.2.1 q.2.2.1 q.2.2.2.1 q.2.2.2.2) l (blob nm ++ digs vs.length ++ vs.flatMap Vr.bytes ++ digs bs.length ++ blB bs ++ digs js.length) t (by rw [e]; simp)
  simp only [List.nil_append, List.length_nil] at g1
  simp only [] at g2 g3 g4 g5 g6 g7
  have gb : bs.flatMap (fun (k : UInt8) => digs k.toNat) = blB bs := rfl
  rw [gb] at g5
  simp only [readP, g1, g2, g3, g4, g5, g6, g7]
  simp [Pg.bytes]

/-! ### what is read was written -/
/-- If all was there, what was read was written at the place ahead. -/
def Fore {α : Type} (l : List UInt8) (f : Rs → α × Rs) (w : α → List UInt8) : Prop := ∀ s, (f s).2.2 = true → s.2 = true ∧ l.drop s.1 = w (f s).1 ++ l.drop (f s).2.1
theorem getU_fore {l : List UInt8} {p x q : Nat} (h : getU l (p : Int) = (x, q, 0)) : l.drop p = digs x ++ l.drop q := by
  unfold getU at h
  cases ha : isAt l.length (p : Int)
  · simp [ha] at h
  · rw [ha, if_pos rfl] at h
    by_cases hz : (gu (l.drop (p : Int).toNat)).2.2 = 0
    · rw [if_pos hz] at h
      simp only [Prod.mk.injEq, and_true, Int.toNat_natCast] at h hz
      obtain ⟨h1, h2⟩ := h
      have h3 := gu_read (l.drop p) x (gu (l.drop p)).2.1 (by rw [← h1, ← hz])
      rw [← h3, ← h2, ← List.drop_drop, List.take_append_drop]
    · rw [if_neg hz] at h
      simp only [Prod.mk.injEq] at h
      omega
theorem fore_num (l : List UInt8) (most : Nat) : Fore l (rnum l most) digs := by
  intro s h
  unfold rnum at h ⊢
  by_cases hc : s.2 = true ∧ (getU l s.1).2.2 = 0 ∧ (getU l s.1).1 ≤ most
  · rw [if_pos hc] at h ⊢
    exact ⟨hc.1, getU_fore (by rw [← hc.2.1])⟩
  · rw [if_neg hc] at h
    cases h
theorem fore_name (l : List UInt8) : Fore l (rname l) blob := by
  intro s h
  unfold rname at h ⊢
  by_cases hc : s.2 = true ∧ (getB l s.1 40).2.2 = 0
  · rw [if_pos hc] at h ⊢
    refine ⟨hc.1, ?_⟩
    have hb := hc.2
    simp only []
    unfold getB at hb ⊢
    by_cases h1 : (getU l s.1).2.2 ≠ 0
    · rw [if_pos h1] at hb
      exact absurd hb h1
    · rw [if_neg h1] at hb ⊢
      by_cases h2 : (40 : Int) < (getU l s.1).1
      · rw [if_pos h2] at hb; simp at hb
      · rw [if_neg h2] at hb ⊢
        by_cases h3 : l.length < (getU l s.1).2.1 + (getU l s.1).1
        · rw [if_pos h3] at hb; simp at hb
        · rw [if_neg h3]
          have h0 : (getU l s.1).2.2 = 0 := by omega
          have h4 := getU_fore (l := l) (p := s.1) (x := (getU l s.1).1) (q := (getU l s.1).2.1) (by rw [← h0])
          rw [h4]
          simp only [blob]
          rw [List.length_take, List.length_drop, show min (getU l s.1).1 (l.length - (getU l s.1).2.1) = (getU l s.1).1 from by omega, List.append_assoc, ← List.drop_drop, List.take_append_drop]
  · rw [if_neg hc] at h
    cases h
theorem rnum_le (l : List UInt8) (most : Nat) (s : Rs) : (rnum l most s).1 ≤ most := by
  unfold rnum
  split
  · rename_i h; exact h.2.2
  · exact Nat.zero_le _
theorem rname_le (l : List UInt8) (s : Rs) : (rname l s).1.length ≤ 40 := by
  unfold rname
  split
  · rename_i h
    have hb := h.2
    simp only []
    unfold getB at hb ⊢
    by_cases h1 : (getU l s.1).2.2 ≠ 0
    · rw [if_pos h1]; simp
    · rw [if_neg h1]
      by_cases h2 : (40 : Int) < (getU l s.1).1
      · rw [if_pos h2]; simp
      · rw [if_neg h2]
        by_cases h3 : l.length < (getU l s.1).2.1 + (getU l s.1).1
        · rw [if_pos h3]; simp
        · rw [if_neg h3]
          simp only [List.length_take, List.length_drop]
          omega
  · simp
theorem fore_list {α : Type} (l : List UInt8) {f : Rs → α × Rs} {w : α → List UInt8} (h : Fore l f w) : ∀ n, Fore l (rlist f n) (fun xs => xs.flatMap w)
  | 0 => by intro s hs; exact ⟨hs, by simp [rlist]⟩
  | n + 1 => by
    intro s hs
    simp only [rlist] at hs ⊢
    obtain ⟨h1, h2⟩ := fore_list l h n _ hs
    obtain ⟨h3, h4⟩ := h s h1
    refine ⟨h3, ?_⟩
    simp only [List.flatMap_cons, List.append_assoc] at h2 ⊢
    rw [h4, h2]
theorem fore_var (l : List UInt8) : Fore l (rvar l) Vr.bytes := by
  intro s hs
  simp only [rvar] at hs ⊢
  obtain ⟨h1, h2⟩ := fore_num l _ _ hs
  obtain ⟨h3, h4⟩ := fore_num l _ _ h1
  obtain ⟨h5, h6⟩ := fore_num l _ _ h3
  obtain ⟨h7, h8⟩ := fore_name l _ h5
  refine ⟨h7, ?_⟩
  rw [h8, h6, h4, h2]
  have key : ∀ (lo : Int) (d : Nat), (lo + (d : Int) - lo).toNat = d := by intro lo d; omega
  simp [Vr.bytes, Vr.nums, digl, key]
theorem fore_blk (l : List UInt8) : Fore l (rblk l) (fun k => digs k.toNat) := by
  intro s hs
  simp only [rblk] at hs ⊢
  obtain ⟨h1, h2⟩ := fore_num l _ _ hs
  refine ⟨h1, ?_⟩
  rw [h2, ofNat_toNat _ (by have := rnum_le l 255 s; omega)]
theorem fore_jn (l : List UInt8) : Fore l (rjn l) Jn.bytes := by
  intro s hs
  simp only [rjn] at hs ⊢
  obtain ⟨h1, h2⟩ := fore_num l _ _ hs
  obtain ⟨h3, h4⟩ := fore_num l _ _ h1
  obtain ⟨h5, h6⟩ := fore_num l _ _ h3
  obtain ⟨h7, h8⟩ := fore_num l _ _ h5
  refine ⟨h7, ?_⟩
  rw [h8, h6, h4, h2]
  simp [Jn.bytes, Jn.nums, digl, foldF_unfF]
theorem read_write {l : List UInt8} (h : (readP l).2 = (l.length, true)) : (readP l).1.bytes = l := by
  have hs : (readP l).2.2 = true := by rw [h]
  have he : (readP l).2.1 = l.length := by rw [h]
  simp only [readP] at hs he ⊢
  obtain ⟨h1, h2⟩ := fore_list l (fore_jn l) _ _ hs
  obtain ⟨h3, h4⟩ := fore_num l _ _ h1
  obtain ⟨h5, h6⟩ := fore_list l (fore_blk l) _ _ h3
  obtain ⟨h7, h8⟩ := fore_num l _ _ h5
  obtain ⟨h9, h10⟩ := fore_list l (fore_var l) _ _ h7
  obtain ⟨h11, h12⟩ := fore_num l _ _ h9
  obtain ⟨_, h14⟩ := fore_name l _ h11
  simp only [List.drop_zero] at h14
  rw [he, List.drop_length, List.append_nil] at h2
  rw [h12, h10, h8, h6, h4, h2] at h14
  simp only [Pg.bytes, rlist_len, blB]
  exact h14.symm
theorem bytes_cut {p c : Pg} (hp : p.right = true) (hsp : Small p) (hc : c.right = true) (hsc : Small c) {t u : List UInt8} (h : p.bytes ++ t = c.bytes ++ u) : p = c ∧ t = u := by
  have h1 := read_bytes hp hsp t
  rw [h, read_bytes hc hsc u] at h1
  simp only [Prod.mk.injEq, and_true] at h1
  obtain ⟨rfl, _⟩ := h1
  exact ⟨rfl, List.append_cancel_left h⟩
theorem readOk_bytes {p : Pg} (h : p.right = true) (hs : Small p) : readOk p.bytes = true ∧ (readP p.bytes).1 = p := by
  have := read_bytes h hs []
  rw [List.append_nil] at this
  simp [readOk, this, h]
theorem readOk_is {l : List UInt8} (h : readOk l = true) : (readP l).1.right = true ∧ (readP l).1.bytes = l := by
  simp only [readOk, Bool.and_eq_true, decide_eq_true_eq] at h
  exact ⟨h.2.2, read_write (Prod.ext h.2.1 h.1)⟩
end Go.Proofs.Ytangblcfdboghaa
