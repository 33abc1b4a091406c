/-
  A drive's Write of words that were appended, and bytes.Words, as known ahead to the small machine.
-/
import Derived.Test.YtpdfalgjmeagjaaAbsDrives
import Derived.Test.YtpdfalgjmeagjaaCalls
import Derived.Test.YtpdfalgjmeagjaaDrPure
import Derived.Test.YtpdfalgjmeagjaaAreas
namespace Go.Proofs.Ytpdfalgjmeagjaa
open Go.RowKit
set_option linter.unusedVariables false

/-! ### Words of bytes, in natural numbers -/
def wordsN : List Nat → List Nat
  | a :: b :: c :: d :: l => (((a * 256 + b) * 256 + c) * 256 + d) :: wordsN l
  | [a, b, c] => [((a * 256 + b) * 256 + c) * 256 + 255]
  | [a, b] => [((a * 256 + b) * 256 + 255) * 256 + 255]
  | [a] => [((a * 256 + 255) * 256 + 255) * 256 + 255]
  | [] => []
theorem wAt_shift4 (a b c d : UInt8) (t : List UInt8) (i : Nat) : wAt (a :: b :: c :: d :: t) (4 * (i + 1)) = wAt t (4 * i) := by
  have e : ∀ j, oct (a :: b :: c :: d :: t) (4 * (i + 1) + j) = oct t (4 * i + j) := fun j => by
    unfold oct
    rw [show 4 * (i + 1) + j = 4 * i + j + 1 + 1 + 1 + 1 from by omega]
    simp only [List.getD_cons_succ]
  have e0 := e 0
  simp only [Nat.add_zero] at e0
  unfold wAt
  rw [e0, e 1, e 2, e 3]
theorem words_cons4 (a b c d : UInt8) (t : List UInt8) : words (a :: b :: c :: d :: t) = UInt32.ofNat (wAt (a :: b :: c :: d :: t) 0) :: words t := by
  unfold words
  rw [show ((a :: b :: c :: d :: t).length + 3) / 4 = (t.length + 3) / 4 + 1 from by simp; omega, List.range_succ_eq_map, List.map_cons, List.map_map]
  rw [List.cons.injEq]
  exact ⟨rfl, List.map_congr_left fun i _ => by simp only [Function.comp, Nat.succ_eq_add_one, wAt_shift4]⟩
theorem wordsN_eq : ∀ (n : Nat) (l : List UInt8), l.length ≤ n → wordsN (l.map UInt8.toNat) = (words l).map UInt32.toNat
  | _, [], _ => rfl
  | _, [a], _ => by
    rw [show words [a] = [UInt32.ofNat (wAt [a] 0)] from by unfold words; rw [show ([a] : List UInt8).length = 1 from rfl]; rfl]
    simp only [List.map_cons, List.map_nil, wordsN]
    rw [ofNat_toNat32 _ (wAt_lt _ _)]
    rfl
  | _, [a, b], _ => by
    rw [show words [a, b] = [UInt32.ofNat (wAt [a, b] 0)] from by unfold words; rw [show ([a, b] : List UInt8).length = 2 from rfl]; rfl]
    simp only [List.map_cons, List.map_nil, wordsN]
    rw [ofNat_toNat32 _ (wAt_lt _ _)]
    rfl
  | _, [a, b, c], _ => by
    rw [show words [a, b, c] = [UInt32.ofNat (wAt [a, b, c] 0)] from by unfold words; rw [show ([a, b, c] : List UInt8).length = 3 from rfl]; rfl]
    simp only [List.map_cons, List.map_nil, wordsN]
    rw [ofNat_toNat32 _ (wAt_lt _ _)]
    rfl
  | 0, a :: b :: c :: d :: t, h => by simp at h
  | n + 1, a :: b :: c :: d :: t, h => by
    rw [words_cons4]
    simp only [List.map_cons, wordsN]
    rw [ofNat_toNat32 _ (wAt_lt _ _), wordsN_eq n t (by simp at h; omega)]
    rfl
def pinAll {α : Type} : List Nat → (List Nat → α) → α
  | [], k => k []
  | 0 :: l, k => pinAll l fun r => k (0 :: r)
  | (n + 1) :: l, k => pinAll l fun r => k ((n + 1) :: r)
theorem pinAll_eq {α : Type} : ∀ (l : List Nat) (k : List Nat → α), pinAll l k = k l
  | [], k => rfl
  | 0 :: l, k => by unfold pinAll; rw [pinAll_eq l]
  | (n + 1) :: l, k => by unfold pinAll; rw [pinAll_eq l]
def bytesArg (h : H) : AV → Option (List Nat)
  | .slice none 0 (.is _) => some []
  | .slice (some (s, off)) n (.is _) => match h.get s with
    | some x => match x.cells.range off n with
      | some l => natsOf .u8 256 l
      | none => none
    | none => none
  | .slice (some (s, off)) n (.upTo _) => match h.get s with
    | some x => match x.cells.range off n with
      | some l => natsOf .u8 256 l
      | none => none
    | none => none
  | _ => none
section
variable {ρ : Pos} {h : H} {w w' : World}
theorem bytesArg_sees (r : Rel ρ h w) {v : AV} {u : Value} {ns : List Nat} (hu : con ρ v = some u) (e : bytesArg h v = some ns) :
    ∃ A n c us, u = .slice A n c ∧ us.length = n ∧ us.map UInt8.toNat = ns ∧ Sees w w.heap.size A (cb us) := by
  have key : ∀ (s off n : Nat) (c : Cap), (∀ C, c.off C off = off) → con ρ (.slice (some (s, off)) n c) = some u → (match h.get s with
      | some x => match x.cells.range off n with
        | some l => natsOf .u8 256 l
        | none => none
      | none => none) = some ns → ∃ A n c us, u = .slice A n c ∧ us.length = n ∧ us.map UInt8.toNat = ns ∧ Sees w w.heap.size A (cb us) := by
    intro s off n c hoff hu e
    split at e
    · rename_i x hx
      split at e
      · rename_i l hl
        obtain ⟨g, C, vs, ps, hv, hcell⟩ := r.cells hx hl
        obtain ⟨us, k1, k2⟩ := nats8 (ρ := ρ) e
        rw [k2] at hv
        simp only [Option.some.injEq] at hv
        subst hv
        simp [con, ps, hoff] at hu
        subst hu
        have hgl : g < w.heap.size := by
          obtain ⟨g', C', cur, fz, h1, h2, _⟩ := r.at_ s x hx
          rw [ps] at h1
          simp only [Option.some.injEq, Prod.mk.injEq] at h1
          rw [h1.1]
          exact (Array.getElem?_eq_some_iff.1 h2).1
        have hlen : us.length = n := by
          have h1 := conL_length k2
          have h2 := (Cel.range_get hl).1
          simp at h1
          omega
        exact ⟨_, n, _, us, rfl, hlen, k1, fun _ => ⟨g, off, rfl, hgl, fun j u hj => hcell j u hj⟩⟩
      · cases e
    · cases e
  unfold bytesArg at e
  split at e
  · simp only [Option.some.injEq] at e
    subst e
    simp [con] at hu
    subst hu
    exact ⟨none, 0, _, [], rfl, rfl, rfl, Sees.nil⟩
  · exact key _ _ _ _ (fun _ => rfl) hu e
  · exact key _ _ _ _ (fun _ => rfl) hu e
  · cases e
end
def knowWords (args : List AV) (h : H) : Option (AV × H) := match args with
  | [v] => match bytesArg h v with
    | some ns => match Nat.ble ns.length 100000 with
      | true => pinAll (wordsN ns) fun l => pinN l.length fun m => some (.slice (some (h.next, 0)) m (.is m), h.push ⟨22, .list (avsOf .u32 l), true, 0, true⟩)
      | false => none
    | none => none
  | _ => none
theorem knowWords_ok {args : List AV} {h h' : H} {r : AV} (e : knowWords args h = some (r, h')) : CallTo Try.prog 195 args h r h' := by
  unfold knowWords at e
  split at e
  · rename_i v
    split at e
    · rename_i ns hv
      split at e
      · rename_i hlen
        have hlen := Nat.le_of_ble_eq_true hlen
        rw [pinAll_eq, pinN_eq] at e
        simp only [Option.some.injEq, Prod.mk.injEq] at e
        obtain ⟨rfl, rfl⟩ := e
        intro ρ w vs hc hm hn
        obtain ⟨u1, us1, c1, k1, rfl⟩ := conL_cons hc
        simp [conL] at k1
        subst k1
        obtain ⟨A, n, c, us, rfl, hl, hus, hs⟩ := bytesArg_sees hm c1 hv
        have hw : wordsN ns = (words us).map UInt32.toNat := by rw [← hus]; exact wordsN_eq _ us (Nat.le_refl _)
        have hml : (wordsN ns).length = (n + 3) / 4 := by rw [hw, List.length_map, len_words, hl]
        rw [hml, hw]
        have hnb : n ≤ 100000 := by
          have : ns.length = n := by rw [← hus, List.length_map, hl]
          omega
        refine (Words_any A c n ((n + 3) / 4) us w hs hl (by omega) rfl).mono ?_
        rintro e w' ⟨rfl, hF, hB⟩
        have hm' := hm.below hB
        have hblk := hF.block
        have hx : BlkIs (ρ.put h.next (w.heap.size, 0)) 0 ⟨22, .list (avsOf .u32 ((words us).map UInt32.toNat)), true, 0, true⟩ (cw (words us)).toArray (0, 0) := BlkIs.list (avs32 _ _) _ 0 true
        have R1 := hm'.add hn ⟨22, .list (avsOf .u32 ((words us).map UInt32.toNat)), true, 0, true⟩ w.heap.size 0 _ (0, 0) hblk.1 (fun c y D hc e => by
          obtain ⟨q', D', cu, fz, a1, a2, _⟩ := hm.at_ c y hc
          rw [e] at a1
          simp at a1
          have := (Array.getElem?_eq_some_iff.1 a2).1
          omega) hx
        have X1 := Ext.add hm' hn ⟨22, .list (avsOf .u32 ((words us).map UInt32.toNat)), true, 0, true⟩ rfl w.heap.size 0 w (Ext.of_below hB) (Nat.le_refl _)
        refine ⟨_, _, ?_, rfl, R1, hn.add _ (w.heap.size, 0), X1⟩
        simp [con, Pos.put_self, Cap.off, Cap.at_]
      · cases e
    · cases e
  · cases e

/-! ### A drive's Write, of words whose room behind them is not known -/
theorem Fl.prog_free8 : ∀ (l : List UInt32) (S : Fl) (j : Nat), S.armed = false → ∃ ws, S.prog j l = ({ S with ws := ws }, true)
  | [], S, j, h => ⟨S.ws, rfl⟩
  | x :: l, S, j, h => by
    have hs : S.step = (S, true) := by unfold Fl.step; rw [h]
    obtain ⟨ws, hw⟩ := Fl.prog_free8 l (S.put1 j x) (j + 1) h
    exact ⟨ws, by simp only [Fl.prog]; rw [hs]; simp only; rw [hw]; rfl⟩
def fastOk (S : Fl) (f m : Nat) (a : Int) (ws : List UInt32) : Bool :=
  !S.armed && !S.down && wordsOk m a (ws.length : Int) && Nat.ble (64 * f + a.toNat + ws.length) S.ws.length && !sets32 (S.at_ f a.toNat ws.length) ws
theorem dwrite_fast {S : Fl} {f m : Nat} {a : Int} {ws : List UInt32} (h : fastOk S f m a ws = true) : S.dwrite f m a ws = ({ S with ws := splice S.ws (64 * f + a.toNat) ws }, 0) := by
  unfold fastOk at h
  simp only [Bool.and_eq_true, Bool.not_eq_true'] at h
  obtain ⟨⟨⟨⟨h1, h2⟩, h3⟩, h4⟩, h5⟩ := h
  have h4 := Nat.le_of_ble_eq_true h4
  obtain ⟨T, hT⟩ := Fl.prog_free8 ws S (64 * f + a.toNat) h1
  have hw := Fl.prog_words _ _ _ _ hT h4 h5
  simp only at hw
  have e : S.dwrite f m a ws = match S.prog (64 * f + a.toNat) ws with
    | (T, true) => (T, 0)
    | (T, false) => (T, 40) := by
    unfold Fl.dwrite
    rw [h3, h2, h5]
    rfl
  rw [e, hT, hw]
/-- Cells of a block; of a list that is wanted whole all at once. -/
def cellsAt (c : Cel) (o n : Nat) : Option (List AV) := match c with
  | .list l => match Nat.beq o 0 && Nat.beq l.length n with
    | true => some l
    | false => (Cel.list l).range o n
  | c => c.range o n
theorem range_list : ∀ (r l : List AV) (o : Nat), (∀ j, j < r.length → l[o + j]? = r[j]?) → (Cel.list l).range o r.length = some r
  | [], l, o, _ => rfl
  | v :: r, l, o, h => by
    have h0 := h 0 (by simp)
    have ih := range_list r l (o + 1) (fun j hj => by
      have := h (j + 1) (by simpa using hj)
      rw [show o + 1 + j = o + (j + 1) from by omega, this]
      rfl)
    simp only [Nat.add_zero, List.getElem?_cons_zero] at h0
    simp only [List.length_cons, Cel.range, Cel.get, h0, ih]
theorem cellsAt_eq {c : Cel} {o n : Nat} {l : List AV} (h : cellsAt c o n = some l) : c.range o n = some l := by
  unfold cellsAt at h
  split at h
  · rename_i l'
    split at h
    · rename_i hc
      simp only [Bool.and_eq_true] at hc
      have h1 := Nat.eq_of_beq_eq_true hc.1
      have h2 := Nat.eq_of_beq_eq_true hc.2
      simp only [Option.some.injEq] at h
      subst h1 h2 h
      exact range_list _ _ 0 (fun j _ => by rw [Nat.zero_add])
    · exact h
  · exact h
def wordsArg2 (h : H) : AV → Option (List UInt32)
  | .slice (some (s, off)) n (.upTo d) => match Nat.beq d off, h.get s with
    | true, some x => match Nat.beq x.elem 22 && !x.whole && Nat.beq x.esz 1, cellsAt x.cells off n with
      | true, some l => wordsOf l
      | _, _ => none
    | _, _ => none
  | v => wordsArg h v
section
variable {ρ : Pos} {h : H} {w w' : World}
theorem wordsArg2_sees (r : Rel ρ h w) {v : AV} {u : Value} {ws : List UInt32} (hu : con ρ v = some u) (e : wordsArg2 h v = some ws) {o q p b Cp Cb : Nat} {S : Fl} (F : FlashIn h ρ w o q p b Cp Cb S) :
    ∃ A n c, u = .slice A n c ∧ ws.length = n ∧ n ≤ c ∧ Off p b w A (cw ws) := by
  unfold wordsArg2 at e
  split at e
  · rename_i s off n d
    split at e
    · rename_i x hd hb
      have hd := Nat.eq_of_beq_eq_true hd
      subst hd
      split at e
      · rename_i l hx hl0
        have hl := cellsAt_eq hl0
        simp only [Bool.and_eq_true, Bool.not_eq_true'] at hx
        obtain ⟨⟨hx1, hx2⟩, hx3⟩ := hx
        have hx1 := Nat.eq_of_beq_eq_true hx1
        have hx3 := Nat.eq_of_beq_eq_true hx3
        obtain ⟨g, C, vs, ps, hv, hcell⟩ := r.cells hb hl
        obtain ⟨k1, k2⟩ := wordsOf_con (ρ := ρ) e
        rw [k1] at hv
        simp only [Option.some.injEq] at hv
        subst hv
        simp [con, ps, Cap.off, Cap.at_] at hu
        subst hu
        obtain ⟨g', C', cur, fz, h1, h2, h3⟩ := r.at_ s x hb
        rw [ps] at h1
        simp only [Option.some.injEq, Prod.mk.injEq] at h1
        obtain ⟨rfl, rfl⟩ := h1
        have hgl : g < w.heap.size := (Array.getElem?_eq_some_iff.1 h2).1
        obtain ⟨m1, m2⟩ := h3.more hx2
        rw [hx3, Nat.mul_one] at m1
        have hlen : ws.length = n := by
          have := (Cel.range_get hl).1
          omega
        have hcap : n ≤ C - d := by
          rcases Nat.eq_zero_or_pos n with h0 | h0
          · omega
          · have hk := (Cel.range_get hl).2 (n - 1) (l[n - 1]'(by have := (Cel.range_get hl).1; omega)) (List.getElem?_eq_getElem _)
            obtain ⟨uu, _, hu2⟩ := h3.cell _ _ hk
            have := (Array.getElem?_eq_some_iff.1 hu2).1
            omega
        obtain ⟨xo, ho, ro, eo⟩ := F.at_o
        obtain ⟨xq, hq, rq, eq⟩ := F.at_q
        have hso : s ≠ o := fun e => by
          subst e
          rw [hb] at ho
          cases ho
          rw [hx1] at eo
          exact absurd eo (by decide)
        have hsq : s ≠ q := fun e => by
          subst e
          rw [hb] at hq
          cases hq
          rw [hx1] at eq
          exact absurd eq (by decide)
        have hgp : g ≠ p := fun e => by
          subst e
          have := (r.inj s o x xo g C Cp hb ho ps F.po hso).2
          rw [ro] at this
          cases this
        have hgb : g ≠ b := fun e => by
          subst e
          have := (r.inj s q x xq g C Cb hb hq ps F.pq hsq).2
          rw [rq] at this
          cases this
        refine ⟨_, n, _, rfl, hlen, hcap, fun w' x' hn => ⟨g, d, rfl, Nat.lt_of_lt_of_le hgl x'.size, fun j u hju => ?_⟩⟩
        rw [World.cell?_of_block (x'.keep g hgl hgp hgb)]
        exact hcell j u hju
      · cases e
    · cases e
  · exact wordsArg_sees r hu e F
end
def knowDWrite2 (args : List AV) (h : H) : Option (AV × H) := match args with
  | [.pointer (some (d, 0)), .int .i64 a, v] => match smallI a, driveOf h d, wordsArg2 h v with
    | true, some (o, q, f, m, S), some ws => match fastOk S f m a ws with
      | true => putBack h o q ({ S with ws := splice S.ws (64 * f + a.toNat) ws }, 0)
      | false => putBack h o q (S.dwrite f m a ws)
    | _, _, _ => none
  | _ => none
theorem knowDWrite2_ok {args : List AV} {h h' : H} {r : AV} (e : knowDWrite2 args h = some (r, h')) : CallTo Try.prog 41 args h r h' := by
  unfold knowDWrite2 at e
  split at e
  · rename_i d a v
    split at e
    · rename_i o q f m S ws ha hd hv
      obtain ⟨S', x, hS⟩ : ∃ S' x, S.dwrite f m a ws = (S', x) := ⟨_, _, rfl⟩
      have e2 : putBack h o q (S', x) = some (r, h') := by
        split at e
        · rename_i hf
          rw [dwrite_fast hf] at hS
          rw [← hS]
          exact e
        · rw [← hS]
          exact e
      rw [putBack_eq] at e2
      simp only [Option.some.injEq, Prod.mk.injEq] at e2
      obtain ⟨rfl, rfl⟩ := e2
      intro ρ w vs hc hm hn
      obtain ⟨u1, us1, c1, k1, rfl⟩ := conL_cons hc
      obtain ⟨u2, us2, c2, k2, rfl⟩ := conL_cons k1
      obtain ⟨u3, us3, c3, k3, rfl⟩ := conL_cons k2
      simp [conL] at k3
      subst k3
      obtain ⟨dd, Cd, p, b, Cp, Cb, pd, F, hD⟩ := driveOf_in hm hd
      obtain ⟨A, n, c, rfl, hl, hnc, hOff⟩ := wordsArg2_sees hm c3 hv F
      simp [con, pd] at c1 c2
      subst c1 c2
      refine (dWrite_any hD a (smallI_out ha) n c A ws hOff hl hnc S' x hS).mono ?_
      rintro e w' ⟨rfl, hD', hB⟩
      obtain ⟨R, X⟩ := flashPut_rel hm F hB hD'.nor
      exact ⟨ρ, _, rfl, rfl, R, hn, X⟩
    · cases e
  · cases e
/-- The words of a record. -/
def recN (ns : List Nat) : List Nat := ns.length :: (wordsN ns ++ [0])
def knowRecord (args : List AV) (h : H) : Option (AV × H) := match args with
  | [v] => match bytesArg h v with
    | some ns => match Nat.ble ns.length 4096 with
      | true => pinAll (recN ns) fun l => pinN l.length fun m => some (.slice (some (h.next, 0)) m (.upTo 0), h.push ⟨22, .list (avsOf .u32 l), false, 1, true⟩)
      | false => none
    | none => none
  | _ => none
theorem knowRecord_ok {args : List AV} {h h' : H} {r : AV} (e : knowRecord args h = some (r, h')) : CallTo Try.prog 152 args h r h' := by
  unfold knowRecord at e
  split at e
  · rename_i v
    split at e
    · rename_i ns hv
      split at e
      · rename_i hlen
        have hlen := Nat.le_of_ble_eq_true hlen
        rw [pinAll_eq, pinN_eq] at e
        simp only [Option.some.injEq, Prod.mk.injEq] at e
        obtain ⟨rfl, rfl⟩ := e
        intro ρ w vs hc hm hn
        obtain ⟨u1, us1, c1, k1, rfl⟩ := conL_cons hc
        simp [conL] at k1
        subst k1
        obtain ⟨A, n, c, us, rfl, hl, hus, hs⟩ := bytesArg_sees hm c1 hv
        have hnn : ns.length = n := by rw [← hus, List.length_map, hl]
        have hw : recN ns = (recW us).map UInt32.toNat := by
          unfold recN recW
          rw [List.map_cons, List.map_append, ← hus, wordsN_eq _ us (Nat.le_refl _), List.length_map, ofNat_toNat32 _ (by omega)]
          rfl
        rw [hw]
        have hml : ((recW us).map UInt32.toNat).length = nW n := by rw [List.length_map, len_recW, hl]
        rw [hml]
        have hpos := nW_pos n
        refine (recordOf_any A n c us hs hl (by omega)).mono ?_
        rintro e w' ⟨A', c', rfl, hF, hB⟩
        have hm' := hm.below hB
        rcases hF.2 with ⟨hv0, _⟩ | ⟨g, cap, cur, hv0, hbg, hg, hnc, hcm, hcs, ht⟩
        · simp at hv0
          omega
        · simp at hv0
          obtain ⟨rfl, rfl⟩ := hv0
          have hx : BlkIs (ρ.put h.next (g, c')) c' ⟨22, .list (avsOf .u32 ((recW us).map UInt32.toNat)), false, 1, true⟩ cur (0, 0) := by
            have hla : (avsOf .u32 ((recW us).map UInt32.toNat)).length = nW n := by
              have := conL_length (avs32 (ρ.put h.next (g, c')) (recW us))
              simp [len_recW, hl] at this
              omega
            refine ⟨fun _ => .inl rfl, ?_, fun q => (by cases q), fun _ => ⟨hcs, hcm⟩, fun j v hj => ?_, fun q => (by cases q)⟩
            · show (avsOf .u32 ((recW us).map UInt32.toNat)).length ≤ cur.size
              rw [hla, hcs]
              omega
            · have hj' : (avsOf .u32 ((recW us).map UInt32.toNat))[j]? = some v := hj
              obtain ⟨u, h1, h2⟩ := conL_get (avs32 (ρ.put h.next (g, c')) (recW us)) j v hj'
              refine ⟨u, h1, ?_⟩
              rw [← ht] at h2
              rw [List.getElem?_take] at h2
              split at h2
              · simpa using h2
              · cases h2
          have R1 := hm'.add hn ⟨22, .list (avsOf .u32 ((recW us).map UInt32.toNat)), false, 1, true⟩ g c' cur (0, 0) hg (fun c y D hc e => by
            obtain ⟨q', D', cu, fz, a1, a2, _⟩ := hm.at_ c y hc
            rw [e] at a1
            simp at a1
            have := (Array.getElem?_eq_some_iff.1 a2).1
            omega) hx
          have X1 := Ext.add hm' hn ⟨22, .list (avsOf .u32 ((recW us).map UInt32.toNat)), false, 1, true⟩ rfl g c' w (Ext.of_below hB) hbg
          refine ⟨_, _, ?_, rfl, R1, hn.add _ (g, c'), X1⟩
          simp [con, Pos.put_self, Cap.off, Cap.at_]
      · cases e
    · cases e
  · cases e
/-- The calls of a drive, bytes.Words, and the words of a record. -/
def knowDr8 : Known := fun f args h => match Nat.beq f 41 with
  | true => knowDWrite2 args h
  | false => match Nat.beq f 195 with
    | true => knowWords args h
    | false => match Nat.beq f 152 with
      | true => knowRecord args h
      | false => knowDr f args h
theorem knowDr8_ok : Known.Ok Try.prog knowDr8 := by
  intro f args h r h' e
  unfold knowDr8 at e
  split at e
  · rename_i hf
    rw [Nat.eq_of_beq_eq_true hf]
    exact knowDWrite2_ok e
  · split at e
    · rename_i hf
      rw [Nat.eq_of_beq_eq_true hf]
      exact knowWords_ok e
    · split at e
      · rename_i hf
        rw [Nat.eq_of_beq_eq_true hf]
        exact knowRecord_ok e
      · exact knowDr_ok _ _ _ _ _ e
end Go.Proofs.Ytpdfalgjmeagjaa
