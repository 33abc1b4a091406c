/-
  The small machine's conversions, and what it holds against each other by == and !=.
-/
import Derived.Test.YtmeloffdaninmaaAbsAppend
import Derived.Laws.BytesString
import Derived.Laws.StructEq
namespace Go.Proofs.Ytmeloffdaninmaa
open Go.RowKit
set_option linter.unusedVariables false

section
variable {P : Program} {ρ : Pos} {h : H} {w : World}

/-! ### Conversions -/
def bytesOfA : List AV → Option (List Int)
  | [] => some []
  | .int .u8 n :: l => match bytesOfA l with
    | some ns => some (n :: ns)
    | none => none
  | _ => none
theorem bytesOf_con : ∀ {l : List AV} {ns : List Int} {vs : List Value}, bytesOfA l = some ns → conL ρ l = some vs → vs = ns.map (Value.int .u8)
  | [], ns, vs, e, c => by simp [bytesOfA] at e; simp [conL] at c; subst e c; rfl
  | v :: l, ns, vs, e, c => by
    obtain ⟨u, us, h1, h2, rfl⟩ := conL_cons c
    unfold bytesOfA at e
    split at e
    · simp at *
    · rename_i n l' heq
      simp at heq
      obtain ⟨rfl, rfl⟩ := heq
      split at e <;> simp at e
      rename_i ns' hns
      subst e
      simp [con] at h1
      subst h1
      rw [bytesOf_con hns h2]
      rfl
    · simp at e
/-- The bytes of whole numbers. -/
def pushed : List Int → List UInt8
  | [] => []
  | n :: l => UInt8.ofNat n.toNat :: pushed l
theorem fold_pushed : ∀ (ns : List Int) (s : ByteArray), (ns.foldl (fun r n => r.push (UInt8.ofNat n.toNat)) s).data.toList = s.data.toList ++ pushed ns
  | [], s => by simp [pushed]
  | n :: ns, s => by
    rw [List.foldl_cons, fold_pushed ns]
    simp [pushed]
def convA (P : Program) (h : H) (src dst : TypeId) (x : AV) : Option (AV × H) := match P.underlying src, P.underlying dst, x with
  | some _, some (.int k), .int _ n => some (.int k (wrapA k n), h)
  | some _, some .string, .string s => some (.string s, h)
  | some _, some (.slice e), .string s => match P.underlying e, Nat.blt s.data.toList.length 9223372036854775807 with
    | some (.int .u8), true => some (.slice (some (h.next, 0)) s.data.toList.length (.upTo 0), h.push ⟨e, .list (s.data.toList.map fun c => .int .u8 (Int.ofNat c.toNat)), false, 1, true⟩)
    | _, _ => none
  | some (.slice _), some (.slice e), .slice (some p) n c => match Nat.beq src dst, P.underlying e, h.get p.1, c with
    | true, some (.int .u8), some b, .is _ => match b.rw with
      | true => some (.slice (some p) n c, h)
      | false => none
    | _, _, _, _ => none
  | some (.slice e), some .string, .slice (some p) n (.is _) => match P.underlying e, n, h.get p.1 with
    | some (.int .u8), 0, _ => some (.string ⟨⟨[]⟩⟩, h)
    | some (.int .u8), n + 1, some b => match b.cells.range p.2 (n + 1) with
      | some l => match bytesOfA l with
        | some ns => some (.string ⟨⟨pushed ns⟩⟩, h)
        | none => none
      | none => none
    | _, _, _ => none
  | some (.slice e), some .string, .slice (some p) n (.upTo _) => match P.underlying e, n, h.get p.1 with
    | some (.int .u8), 0, _ => some (.string ⟨⟨[]⟩⟩, h)
    | some (.int .u8), n + 1, some b => match b.cells.range p.2 (n + 1) with
      | some l => match bytesOfA l with
        | some ns => some (.string ⟨⟨pushed ns⟩⟩, h)
        | none => none
      | none => none
    | _, _, _ => none
  | some (.slice e), some .string, .slice none _ _ => match P.underlying e with
    | some (.int .u8) => some (.string ⟨⟨[]⟩⟩, h)
    | _ => none
  | _, _, _ => none
theorem freeze_row {g n : Nat} {cur : Array Value} {e : TypeId} {fz : Nat × Nat} (hg : w.heap[g]? = some (.cells cur e fz)) (hn : n = cur.size) (hf : fz.1 = fz.2 ∨ cur.size ≤ fz.1) :
    ∃ fz', (w.freeze ⟨g, n, none⟩ 1).heap[g]? = some (.cells cur e fz') ∧ (fz'.1 = fz'.2 ∨ cur.size ≤ fz'.1) ∧ (∀ k, k ≠ g → (w.freeze ⟨g, n, none⟩ 1).heap[k]? = w.heap[k]?) := by
  obtain ⟨lo, hi⟩ := fz
  refine ⟨if lo == hi then (n, n + 1) else (min lo n, max hi (n + 1)), ?_, ?_, fun k hk => ?_⟩
  · simp only [World.freeze, Nat.one_ne_zero, if_false, Array.getElem?_modify, if_true, hg, Option.map_some]
  · simp only at hf
    split
    · right; simp [hn]
    · rename_i hne
      right
      have h1 : lo ≠ hi := by simpa using hne
      have h2 := hf.resolve_left h1
      simp
      omega
  · simp only [World.freeze, Nat.one_ne_zero, if_false, Array.getElem?_modify]
    rw [if_neg (Ne.symm hk)]
theorem run_back {src dst e : TypeId} (hs : P.underlying src = some (.slice e)) (he : P.underlying e = some (.int .u8)) (hd : P.underlying dst = some .string) (r : Rel ρ h w) {p : Nat × Nat} {n c : Nat} {b : Blk} {l : List AV} {ns : List Int} {g C : Nat} (hp : ρ p.1 = some (g, C)) (hb : h.get p.1 = some b)
    (hl : b.cells.range p.2 n = some l) (hns : bytesOfA l = some ns) : (convert src dst (.slice (some ⟨g, p.2, none⟩) n c)).run P w = .ok (.string ⟨⟨pushed ns⟩⟩) w := by
  obtain ⟨g', C', vs, h1, h2, h3⟩ := r.cells hb hl
  rw [hp] at h1
  simp at h1
  obtain ⟨rfl, rfl⟩ := h1
  have hvs := bytesOf_con hns h2
  subst hvs
  have hlen : (ns.map (Value.int .u8)).length = n := by rw [conL_length h2, (Cel.range_get hl).1]
  have hcs := run_loadCells_list (P := P) w ⟨g, p.2, none⟩ (ns.map (Value.int .u8)) (fun j u hj => by rw [Addr.add_lit]; exact h3 j u hj)
  rw [hlen] at hcs
  rw [run_convert_bytes_string w src dst e _ _ _ hs he hd, run_bytesToString w _ _ _ ns hcs]
  congr 2
  apply ByteArray.ext
  apply Array.ext'
  rw [fold_pushed]
  rfl
theorem run_back0 {src dst e : TypeId} (hs : P.underlying src = some (.slice e)) (he : P.underlying e = some (.int .u8)) (hd : P.underlying dst = some .string) (a : Option Addr) (c : Nat) : (convert src dst (.slice a 0 c)).run P w = .ok (.string ⟨⟨[]⟩⟩) w := by
  rw [run_convert_bytes_string w src dst e _ _ _ hs he hd]
  cases a with
  | none => rfl
  | some a => exact run_bytesToString w a 0 c [] rfl
theorem conv_sound (r : Rel ρ h w) (hn : ρ h.next = none) {src dst : TypeId} {x v : AV} {u : Value} {h' : H} (hu : con ρ x = some u) (e : convA P h src dst x = some (v, h')) : Yields P (convert src dst u) ρ h w v h' := by
  unfold convA at e
  split at e
  · rename_i d1 k k' n hs hd
    simp [con] at hu e
    obtain ⟨rfl, rfl⟩ := e
    subst hu
    refine Yields.same r (u := .int k (wrapA k n)) ?_ rfl
    cases d1 <;> simp [convert, run_underlying hs, run_underlying hd, Conv.intToInt, wrapA_eq]
  · rename_i d1 s hs hd
    simp [con] at hu e
    obtain ⟨rfl, rfl⟩ := e
    subst hu
    refine Yields.same r (u := .string s) ?_ rfl
    cases d1 <;> simp [convert, run_underlying hs, run_underlying hd]
  · rename_i d1 el s hs hd
    split at e <;> simp only [Option.some.injEq, reduceCtorEq, Prod.mk.injEq] at e
    rename_i he hlt
    obtain ⟨rfl, rfl⟩ := e
    simp [con] at hu
    subst hu
    have hsz := size_data s
    have hlt' : s.size < 9223372036854775807 := by rw [hsz]; exact blt_true hlt
    have hge := grownCap_ge w s.size 0 el
    have hcm : grownCap w s.size 0 el ≤ maxLen := grownCap_le_maxLen w s.size 0 el (by unfold maxLen; omega)
    have hconv : (convert src dst (.string s)).run P w = (Conv.stringToBytes el s).run P w := by
      cases d1 <;> simp [convert, run_underlying hs, run_underlying hd, run_underlying he]
    let C := grownCap w s.size 0 el
    have hC : C = grownCap w s.size 0 el := rfl
    rw [← hC] at hge hcm
    let cur : Array Value := (s.data.map fun b => .int .u8 b.toNat) ++ Array.replicate (C - s.size) (.int .u8 0)
    have hcur : cur.size = C := by
      simp only [cur, Array.size_append, Array.size_map, Array.size_replicate]
      have : s.data.size = s.size := rfl
      omega
    have hrow : (w.drew.alloc (.cells cur el)).heap[w.heap.size]? = some (.cells cur el (0, 0)) := heap_alloc_new w.drew _
    obtain ⟨fz, f1, f2, f3⟩ := freeze_row (n := C) hrow hcur.symm (.inl rfl)
    have hsh : (w.drew.alloc (.cells cur el)).shape? w.heap.size = some (el, C) := by
      unfold World.shape?
      rw [hrow]
      show some (el, cur.size) = _
      rw [hcur]
    have hrun : (Conv.stringToBytes el s).run P w = .ok (.slice (some ⟨w.heap.size, 0, none⟩) s.size C) ((w.drew.alloc (.cells cur el)).freeze ⟨w.heap.size, C, none⟩ 1) := by
      simp only [Conv.stringToBytes, Sem.run_bind, run_choose, Question.forced, Bool.false_eq_true, if_false, Result.andThen_ok, newRow, run_newObj, Sem.run_pure, markStringish, run_shape]
      have e2 : (Question.appendCap s.size 0 el).cut (w.tape w.drawn (.appendCap s.size 0 el)) = C := rfl
      simp only [e2]
      have key : ∀ (o : Option (TypeId × Nat)), o = some (el, C) → ((Sem.run P (match o with
          | some (_, n) => freeze { block := w.heap.size, off := n } 1
          | _ => pure ()) (w.drew.alloc (.cells cur el))).andThen fun (a : Unit) w' => Result.ok (Value.slice (some ⟨w.heap.size, 0, none⟩) s.size C) w') =
          .ok (.slice (some ⟨w.heap.size, 0, none⟩) s.size C) ((w.drew.alloc (.cells cur el)).freeze ⟨w.heap.size, C, none⟩ 1) := by
        rintro _ rfl
        rfl
      exact key _ hsh
    have hl : conL ρ (s.data.toList.map fun c => AV.int .u8 (Int.ofNat c.toNat)) = some (s.data.toList.map fun c => Value.int .u8 (c.toNat : Int)) := by
      generalize s.data.toList = q
      induction q with
      | nil => rfl
      | cons a q ih => exact conL_mk rfl ih
    have hB : BlkIs ρ C ⟨el, .list (s.data.toList.map fun c => .int .u8 (Int.ofNat c.toNat)), false, 1, true⟩ cur fz := by
      refine BlkIs.grown hl f2 (by rw [hcur, Nat.mul_one]) hcm (by rw [List.length_map, ← hsz, hcur]; exact hge) fun j u hj => ?_
      rw [List.getElem?_map] at hj
      obtain ⟨b, hb, rfl⟩ := Option.map_eq_some_iff.1 hj
      have hjl : j < s.data.size := by simpa using (List.getElem?_eq_some_iff.1 hb).1
      show ((s.data.map fun b => Value.int .u8 b.toNat) ++ _)[j]? = _
      rw [Array.getElem?_append_left (by simpa using hjl), Array.getElem?_map]
      rw [Array.getElem?_toList] at hb
      rw [hb]
      rfl
    have hR := r.push hn ⟨el, .list (s.data.toList.map fun c => .int .u8 (Int.ofNat c.toNat)), false, 1, true⟩ C w.drew rfl cur fz hB
    have hX := Ext.push r hn ⟨el, .list (s.data.toList.map fun c => .int .u8 (Int.ofNat c.toNat)), false, 1, true⟩ rfl C w.drew rfl rfl rfl rfl cur fz
    have hheap : ((w.drew.alloc (.cells cur el)).freeze ⟨w.heap.size, C, none⟩ 1).heap = (w.drew.alloc (.cells cur el fz)).heap := by
      apply Array.ext_getElem?
      intro k
      by_cases hk : k = w.heap.size
      · subst hk
        rw [f1]
        exact (heap_alloc_new w.drew _).symm
      · rw [f3 k hk]
        show (w.heap.push _)[k]? = (w.heap.push _)[k]?
        rw [Array.getElem?_push, Array.getElem?_push, if_neg hk, if_neg hk]
    refine ⟨_, _, _, hconv.trans hrun, ?_, hR.heap hheap, hX.trans (Ext.drawn hheap ?_ ?_ ?_), .inr ⟨_, rfl, rfl⟩⟩
    · rw [← hsz]
      simp [con, Pos.put_self, Cap.off, Cap.at_]
    all_goals (unfold World.freeze; rw [if_neg (by decide)]; rfl)
  · rename_i el0 el p n c hs hd
    split at e
    · rename_i b k heq he hb
      split at e <;> simp only [Option.some.injEq, reduceCtorEq, Prod.mk.injEq] at e
      rename_i hrw
      obtain ⟨rfl, rfl⟩ := e
      obtain ⟨g, C, hp, rfl⟩ := con_sl hu
      obtain ⟨g', C', cur, fz, hp', hg, hx⟩ := r.at_ _ b hb
      rw [hp] at hp'
      simp at hp'
      obtain ⟨rfl, rfl⟩ := hp'
      obtain ⟨fz', f1, f2, f3⟩ := freeze_row (n := cur.size) hg rfl (hx.free hrw)
      have hsd : src = dst := Nat.eq_of_beq_eq_true heq
      have hsh : w.shape? g = some (b.elem, cur.size) := by
        unfold World.shape?
        rw [hg]
      have hB : BlkIs ρ C b cur fz' := ⟨fun _ => f2, hx.fits, hx.whole, hx.more, hx.cell⟩
      have hR := r.write hb hrw hp cur fz' f1 f3 hrw hB
      have hX : Ext ρ h w ρ (h.set p.1 b) (w.freeze ⟨g, cur.size, none⟩ 1) := Ext.write r hb hrw hrw hp (by unfold World.freeze; rw [if_neg (by decide)]) (by unfold World.freeze; rw [if_neg (by decide)]) (by unfold World.freeze; rw [if_neg (by decide)]) (by simp [World.freeze]) f3
      have hh : h.set p.1 b = h.set p.1 b := rfl
      refine ⟨ρ, _, w.freeze ⟨g, cur.size, none⟩ 1, ?_, hu, ?_, ?_, .inl ⟨rfl, rfl⟩⟩
      · simp [convert, run_underlying hd, run_underlying he, hsd, markStringish, hsh]
      · refine ⟨fun c y hc => ?_, fun c d y z q D E hc hd hpc hpd hne => r.inj c d y z q D E hc hd hpc hpd hne⟩
        obtain ⟨q, D, cu, fy, k1, k2, k3⟩ := r.at_ c y hc
        by_cases hqg : q = g
        · subst hqg
          by_cases hcp : c = p.1
          · subst hcp
            rw [hb] at hc
            simp at hc
            subst hc
            rw [hp] at k1
            simp at k1
            subst k1
            exact ⟨q, C, cur, fz', hp, f1, hB⟩
          · have := (r.inj c p.1 y b q D C hc hb k1 hp hcp).2
            rw [hrw] at this
            cases this
        · exact ⟨q, D, cu, fy, k1, by rw [f3 q hqg]; exact k2, k3⟩
      · refine ⟨Pos.le_refl _, Nat.le_refl _, hX.os, hX.tape, hX.output, hX.size, fun k hk hkn => f3 k (fun e => hkn p.1 b C hb hrw (by rw [e]; exact hp)), fun b' x k C hb' hr hp' hk => ⟨b', x, C, hb', hr, hp'⟩, fun _ _ => rfl, fun _ _ hb' _ => hb'⟩
    · simp at e
  · rename_i el p n c hs hd
    obtain ⟨g, C, hp, rfl⟩ := con_sl hu
    split at e
    · rename_i he
      simp only [Option.some.injEq, Prod.mk.injEq] at e
      obtain ⟨rfl, rfl⟩ := e
      exact Yields.same r (run_back0 hs he hd _ _) rfl
    · rename_i n b he hb
      split at e
      · rename_i l hl
        split at e <;> simp only [Option.some.injEq, reduceCtorEq, Prod.mk.injEq] at e
        rename_i ns hns
        obtain ⟨rfl, rfl⟩ := e
        exact Yields.same r (run_back hs he hd r hp hb hl hns) rfl
      · simp at e
    · simp at e
  · rename_i el p n c hs hd
    obtain ⟨g, C, hp, rfl⟩ := con_sl hu
    split at e
    · rename_i he
      simp only [Option.some.injEq, Prod.mk.injEq] at e
      obtain ⟨rfl, rfl⟩ := e
      exact Yields.same r (run_back0 hs he hd _ _) rfl
    · rename_i n b he hb
      split at e
      · rename_i l hl
        split at e <;> simp only [Option.some.injEq, reduceCtorEq, Prod.mk.injEq] at e
        rename_i ns hns
        obtain ⟨rfl, rfl⟩ := e
        exact Yields.same r (run_back hs he hd r hp hb hl hns) rfl
      · simp at e
    · simp at e
  · rename_i el n c hs hd
    split at e <;> simp only [Option.some.injEq, reduceCtorEq, Prod.mk.injEq] at e
    rename_i he
    obtain ⟨rfl, rfl⟩ := e
    cases c <;> simp [con] at hu
    subst hu
    refine Yields.same r (u := .string ⟨⟨[]⟩⟩) ?_ rfl
    rw [run_convert_bytes_string w src dst el _ _ _ hs he hd]
    rfl
  · simp at e

/-! ### == and != -/
/-- Field by field, as long as they are the same. -/
def eqFields (P : Program) (f : TypeId → AV → AV → Option Bool) (xs ys : List AV) : List Field → Option Bool
  | [] => some true
  | fl :: l => match decide (fl.name = "_") with
    | true => eqFields P f xs ys l
    | false => match partA P fl.type xs fl.offset, partA P fl.type ys fl.offset with
      | some a, some b => match f fl.type a b with
        | some true => eqFields P f xs ys l
        | some false => some false
        | none => none
      | _, _ => none
def eqParts (P : Program) (f : TypeId → AV → AV → Option Bool) (e : TypeId) (s : Nat) (xs ys : List AV) : Nat → Nat → Option Bool
  | _, 0 => some true
  | i, m + 1 => match partA P e xs (i * s), partA P e ys (i * s) with
    | some a, some b => match f e a b with
      | some true => eqParts P f e s xs ys (i + 1) m
      | some false => some false
      | none => none
    | _, _ => none
def eqA (P : Program) : Nat → TypeId → AV → AV → Option Bool
  | 0, _, _, _ => none
  | d + 1, t, x, y => match P.underlying t, x, y with
    | some .bool, .bool a, .bool b => some (a == b)
    | some (.int _), .int k a, .int k' b => match decide (k = k') with
      | true => some (a == b)
      | false => none
    | some .string, .string a, .string b => some (a.data.toList == b.data.toList)
    | some (.pointer _), .pointer none, .pointer none => some true
    | some (.pointer _), .pointer none, .pointer (some _) => some false
    | some (.pointer _), .pointer (some _), .pointer none => some false
    | some (.pointer el), .pointer (some p), .pointer (some q) => match Nat.beq p.1 q.1 && Nat.beq p.2 q.2, sizeA P el with
      | true, some (_ + 1) => some true
      | _, _ => none
    | some (.slice _), .slice none _ _, .slice none _ _ => some true
    | some (.slice _), .slice none _ _, .slice (some _) _ _ => some false
    | some (.slice _), .slice (some _) _ _, .slice none _ _ => some false
    | some (.interface _), .nilIface, .nilIface => some true
    | some (.func _ _ _), .nilFunc, .nilFunc => some true
    | some (.struct ⟨fs⟩), .agg xs, .agg ys => match P.stoodInHeld t with
      | false => eqFields P (eqA P d) xs ys fs
      | true => none
    | some (.array n e), .agg xs, .agg ys => match sizeA P e with
      | some s => eqParts P (eqA P d) e s xs ys 0 n
      | none => none
    | _, _, _ => none
theorem run_partA {t : TypeId} {cs : List AV} {xs : List Value} {off : Nat} {v : AV} (hc : conL ρ cs = some xs) (e : partA P t cs off = some v) : ∃ u, con ρ v = some u ∧ ∀ w, (part t xs.toArray off).run P w = .ok u w := by
  unfold partA at e
  split at e
  · rename_i n d ha hs hd
    simp at e
    subst e
    exact ⟨.agg ((xs.drop off).take n).toArray, by simp [con, conL_take (conL_drop hc off) n], fun w => by simp [part, run_isAgg hd, ha, run_sizeOf hs]⟩
  · rename_i n d ha hs hd
    obtain ⟨u, h1, h2⟩ := conL_get hc _ _ e
    exact ⟨u, h1, fun w => by simp [part, run_isAgg hd, ha, h2]⟩
  · simp at e
theorem eq_sound : ∀ (d : Nat) (t : TypeId) (x y : AV) (u v : Value) (b : Bool), con ρ x = some u → con ρ y = some v → eqA P d t x y = some b → ∀ (D : Nat) (w : World), (Op.equalIn (d + D) t u v).run P w = .ok b w
  | 0, t, x, y, u, v, b, hu, hv, e, D, w => by simp [eqA] at e
  | d + 1, t, x, y, u, v, b, hu, hv, e, D, w => by
    have ih := eq_sound d
    have hD : d + 1 + D = (d + D) + 1 := by omega
    rw [hD]
    simp only [eqA] at e
    split at e
    · rename_i a c hd
      simp [con] at hu hv e
      subst hu hv e
      simp [Op.equalIn, run_underlying hd]
    · rename_i k0 k a k' c hd
      simp [con] at hu hv
      subst hu hv
      split at e <;> simp only [Option.some.injEq, reduceCtorEq] at e
      rename_i hk
      have hk : k = k' := by simpa using hk
      subst e hk
      simp [Op.equalIn, run_underlying hd]
    · rename_i a c hd
      simp [con] at hu hv
      simp only [Option.some.injEq] at e
      subst hu hv e
      have hb : (a == c) = (a.data.toList == c.data.toList) := by rw [beq_toListBytes, ByteArray.toList_eq, ByteArray.toList_eq]
      simp only [Op.equalIn, Sem.run_bind, run_underlying hd, Result.andThen_ok, Sem.run_pure, hb]
    · rename_i el hd
      simp [con] at hu hv e
      subst hu hv e
      simp [Op.equalIn, run_underlying hd]
    · rename_i el q hd
      obtain ⟨g, C, _, rfl⟩ := con_ptr hv
      simp [con] at hu e
      subst hu e
      simp [Op.equalIn, run_underlying hd]
    · rename_i el q hd
      obtain ⟨g, C, _, rfl⟩ := con_ptr hu
      simp [con] at hv e
      subst hv e
      simp [Op.equalIn, run_underlying hd]
    · rename_i el p q hd
      obtain ⟨g, C, hg, rfl⟩ := con_ptr hu
      obtain ⟨g', C', hg', rfl⟩ := con_ptr hv
      split at e <;> simp only [Option.some.injEq, reduceCtorEq] at e
      rename_i heq hs
      subst e
      simp only [Bool.and_eq_true] at heq
      have hp : p = q := Prod.ext (Nat.eq_of_beq_eq_true heq.1) (Nat.eq_of_beq_eq_true heq.2)
      subst hp
      rw [hg] at hg'
      simp at hg'
      obtain ⟨rfl, rfl⟩ := hg'
      simp [Op.equalIn, run_underlying hd, run_sizeOf hs, sameAddr]
    · rename_i el n c n' c' hd
      cases c <;> simp [con] at hu
      cases c' <;> simp [con] at hv
      simp at e
      subst hu hv e
      simp [Op.equalIn, run_underlying hd]
    · rename_i el n c q n' c' hd
      cases c <;> simp [con] at hu
      obtain ⟨g, C, _, rfl⟩ := con_sl hv
      simp at e
      subst hu e
      simp [Op.equalIn, run_underlying hd]
    · rename_i el q n c n' c' hd
      cases c' <;> simp [con] at hv
      obtain ⟨g, C, _, rfl⟩ := con_sl hu
      simp at e
      subst hv e
      simp [Op.equalIn, run_underlying hd]
    · rename_i ms hd
      simp [con] at hu hv e
      subst hu hv e
      simp [Op.equalIn, run_underlying hd]
    · rename_i _ _ _ hd
      simp [con] at hu hv e
      subst hu hv e
      simp [Op.equalIn, run_underlying hd]
    · rename_i fs xs ys hd
      obtain ⟨xv, hx, rfl⟩ := con_agg hu
      obtain ⟨yv, hy, rfl⟩ := con_agg hv
      cases hst : P.stoodInHeld t <;> rw [hst] at e <;> simp only [reduceCtorEq] at e
      simp only [Op.equalIn, Sem.run_bind, run_underlying hd, Result.andThen_ok, run_program, hst, Bool.false_eq_true, if_false, List.forIn_toArray]
      clear hd hu hv
      induction fs with
      | nil => simp [eqFields] at e; subst e; simp
      | cons fl fs ihf =>
        simp only [eqFields] at e
        split at e
        · rename_i hb
          have hb : fl.name = "_" := by simpa using hb
          have := ihf e
          simpa [List.forIn_cons, hb] using this
        · rename_i hb
          have hb : ¬ fl.name = "_" := by simpa using hb
          split at e
          · rename_i a c ha hc
            obtain ⟨pa, qa, ra⟩ := run_partA hx ha
            obtain ⟨pc, qc, rc⟩ := run_partA hy hc
            split at e
            · rename_i hf
              have hr := ih fl.type a c pa pc true qa qc hf D w
              have := ihf e
              simpa [List.forIn_cons, hb, ra, rc, hr] using this
            · rename_i hf
              have hr := ih fl.type a c pa pc false qa qc hf D w
              simp at e
              subst e
              simp [List.forIn_cons, hb, ra, rc, hr]
            · simp at e
          · simp at e
    · rename_i n el xs ys hd
      obtain ⟨xv, hx, rfl⟩ := con_agg hu
      obtain ⟨yv, hy, rfl⟩ := con_agg hv
      split at e
      · rename_i s hs
        simp only [Op.equalIn, Sem.run_bind, run_underlying hd, Result.andThen_ok, run_sizeOf hs]
        rw [Std.Legacy.Range.forIn_eq_forIn_range']
        simp only [Std.Legacy.Range.size, Nat.sub_zero, Nat.add_sub_cancel, Nat.div_one]
        have key : ∀ (m i : Nat), eqParts P (eqA P d) el s xs ys i m = some b → ∀ (init : MProd (Option Bool) PUnit), init.1 = none → True := fun _ _ _ _ _ => trivial
        clear key hd hu hv
        revert e
        generalize 0 = i
        induction n generalizing i with
        | zero =>
          intro e
          simp [eqParts] at e
          subst e
          simp
        | succ m ihm =>
          intro e
          simp only [eqParts] at e
          rw [List.range'_succ]
          split at e
          · rename_i a c ha hc
            obtain ⟨pa, qa, ra⟩ := run_partA hx ha
            obtain ⟨pc, qc, rc⟩ := run_partA hy hc
            split at e
            · rename_i hf
              have hr := ih el a c pa pc true qa qc hf D w
              have := ihm (i + 1) e
              simpa [List.forIn_cons, ra, rc, hr] using this
            · rename_i hf
              have hr := ih el a c pa pc false qa qc hf D w
              simp at e
              subst e
              simp [List.forIn_cons, ra, rc, hr]
            · simp at e
          · simp at e
      · simp at e
    · simp at e
end
end Go.Proofs.Ytmeloffdaninmaa
