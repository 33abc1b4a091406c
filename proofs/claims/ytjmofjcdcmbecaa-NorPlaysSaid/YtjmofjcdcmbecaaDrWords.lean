/-
  Many words of a drive, read sector by sector.
-/
import Derived.Test.YtjmofjcdcmbecaaDrPieces
import Derived.RangeFuncNested
import Derived.RangeFuncBound
import Derived.RangeFuncCalls
namespace Go.Proofs.Ytjmofjcdcmbecaa
open Go.RowKit Go.Shelf
set_option linter.unusedVariables false
attribute [local go_sem] Oper.semAt_some

/-- What is there, and one piece more. -/
theorem words_join {α : Type} (xs D L : List α) (c e : Nat) (h : c < e) (hx : e ≤ xs.length) (h0 : xs.take c = D.take c) (hl : L.length = e - c) (hL : L = (D.drop c).take (e - c)) : (splice xs c L).take e = D.take e := by
  have hd : c ≤ D.length := by
    have := congrArg List.length hL
    simp at this
    omega
  have e1 : splice xs c L = xs.take c ++ L ++ xs.drop e := by
    unfold splice
    rw [hl, show c + (e - c) = e from by omega, List.append_assoc]
  rw [e1, List.take_append_of_le_length (by simp; omega), List.take_of_length_le (by simp; omega), h0, hL, ← List.take_add]
  rw [show c + (e - c) = e from by omega]
theorem zip_one (T : Array Value) (v : Value) (p : Tmp) : ((#[p] : Array Tmp).zip #[v]).foldl (fun t (p, v) => t.setIfInBounds p v) T = T.setIfInBounds p v := by simp
/-- Two results, each of one cell. -/
def plainT (P : Program) (t : TypeId) : Bool := match P.underlying t with
  | some (.struct _) | some (.array _ _) | none => false
  | _ => true
theorem load_plain {P : Program} {t : TypeId} {w : World} {a : Addr} {u : Value} (h : plainT P t = true) (hc : w.cell? a = some u) : (loadVar t a).run P w = .ok u w := by
  unfold plainT at h
  have hi : (isAgg t).run P w = .ok false w := by
    unfold isAgg
    cases hd : P.underlying t with
    | none => rw [hd] at h; cases h
    | some d =>
      rw [Sem.run_bind, run_underlying hd w]
      simp only [Result.andThen_ok]
      rw [hd] at h
      cases d <;> first | rfl | cases h
  simp [loadVar, Sem.run_bind, hi, hc]
theorem results_cell2 {P : Program} {fn : Func} {tmps : Array Value} {w : World} {p q : Tmp} {T U : TypeId} {a b : Addr} {u v : Value} (hr : fn.results = #[.cell p T, .cell q U]) (hp : tmps.getD p undef = .pointer (some a)) (hq : tmps.getD q undef = .pointer (some b))
    (hT : plainT P T = true) (hU : plainT P U = true) (hu : w.cell? a = some u) (hv : w.cell? b = some v) : (results fn tmps).run P w = .ok (.tuple #[u, v]) w := by
  have hp' : tmps[p]?.getD undef = .pointer (some a) := by simpa using hp
  have hq' : tmps[q]?.getD undef = .pointer (some b) := by simpa using hq
  simp [results, hr, hp', hq', asAddr, load_plain hT hu, load_plain hU hv]
section
variable {w : World} {base d p b f m : Nat} {S : Fl}
theorem alloc3 (w : World) (A B C : Obj) : (((w.alloc A).alloc B).alloc C).heap[w.heap.size]? = some A ∧ (((w.alloc A).alloc B).alloc C).heap[w.heap.size + 1]? = some B ∧ (((w.alloc A).alloc B).alloc C).heap[w.heap.size + 1 + 1]? = some C ∧ (((w.alloc A).alloc B).alloc C).heap.size = w.heap.size + 1 + 1 + 1 ∧ Below w.heap.size w (((w.alloc A).alloc B).alloc C) := by
  have h1 := World.alloc_heap_new w A
  have h2 := World.alloc_heap_new (w.alloc A) B
  have h3 := World.alloc_heap_new ((w.alloc A).alloc B) C
  have b2 := (below_alloc (w.alloc A) B).block
  have b3 := (below_alloc ((w.alloc A).alloc B) C).block
  simp only [World.size_alloc] at h2 h3 b2 b3 ⊢
  exact ⟨(b3 _ (by omega)).trans ((b2 _ (by omega)).trans h1), (b3 _ (by omega)).trans h2, h3, trivial, (((Below.refl _ w).alloc (Nat.le_refl _) _).alloc (by simp) _).alloc (by simp; omega) _⟩
theorem cell_of {W : World} {g : Nat} {v : Value} {t : TypeId} {z : Nat × Nat} (h : W.heap[g]? = some (.cells #[v] t z)) : W.cell? ⟨g, 0, none⟩ = some v := by
  unfold World.cell?
  simp only [h]
  rfl
theorem frozen_of {W : World} {g : Nat} {v : Value} {t : TypeId} (h : W.heap[g]? = some (.cells #[v] t)) (j : Nat) : W.frozen? ⟨g, j, none⟩ = false := by
  unfold World.frozen?
  simp only [h]
  simp
theorem keeps_of_below {B : Nat} {W W' : World} (x : Below W.heap.size W W') : KeepsFrom B W W' := ⟨x.size, fun k o _ hk _ => (x.block k (Array.getElem?_eq_some_iff.1 hk).1).trans hk⟩
theorem cells_kept {W W' : World} {row : Option Nat} {B g : Nat} {c : Array Value} {t : TypeId} {z : Nat × Nat} (hg : W.grownBy W' row) (hr : ∀ r, row = some r → B ≤ r ∧ ∃ o : Obj, W.heap[r]? = some o ∧ o.isCells = false) (h : W.heap[g]? = some (.cells c t z)) : W'.heap[g]? = W.heap[g]? :=
  hg.block g (Array.getElem?_eq_some_iff.1 h).1 (fun e => by
    obtain ⟨_, o, ho, hc⟩ := hr g e.symm
    rw [h] at ho
    cases ho
    cases hc)
theorem fresh_grown {W W' : World} {row : Option Nat} {B base g n : Nat} {e : TypeId} {xs : List Value} (h : Fresh base e W (some ⟨g, 0, none⟩) n n xs) (hg : W.grownBy W' row) (hr : ∀ r, row = some r → B ≤ r ∧ ∃ o : Obj, W.heap[r]? = some o ∧ o.isCells = false) : Fresh base e W' (some ⟨g, 0, none⟩) n n xs :=
  h.kept (cells_kept hg hr h.block.1)
/-- Between two rounds of words: what the call's own memory holds. -/
def WordsI (w w3 : World) (d G t8 f at_ many : Nat) (ws : List UInt32) (pre : List (Pc many)) (W : World) : Prop :=
  ∃ xs : List UInt32, Fresh (w.heap.size + 1 + 1 + 1) 22 W (some ⟨G, 0, none⟩) many many (cw xs) ∧ W.heap[w.heap.size]? = some (.cells #[.pointer (some ⟨d, 0, none⟩)] 85) ∧ W.heap[w.heap.size + 1]? = some (.cells #[.slice none 0 0] 63) ∧ W.heap[w.heap.size + 1 + 1]? = some (.cells #[.int .i64 0] 60) ∧
    W.heap[t8]? = some (.cells #[.slice (some ⟨G, 0, none⟩) many many] 63) ∧ Below w.heap.size w W ∧ w3.heap.size ≤ W.heap.size ∧ (∀ t, upto at_ many pre = some t → t ≤ many ∧ xs.take t = (ws.drop (64 * f + at_)).take t)
theorem wordsI_own (w w3 : World) (d G t8 f at_ many : Nat) (ws : List UInt32) (hw : w.heap.size ≤ w3.heap.size) : OwnFrom w3.heap.size (WordsI w w3 d G t8 f at_ many ws) := by
  rintro pre W W' row ⟨xs, hF, h3, h6, h7, h8, hB, hz, hx⟩ hg hr
  exact ⟨xs, fresh_grown hF hg hr, (cells_kept hg hr h3).trans h3, (cells_kept hg hr h6).trans h6, (cells_kept hg hr h7).trans h7, (cells_kept hg hr h8).trans h8, hB.grown hg hB.size (fun k e => Nat.le_trans hw (hr k e).1), Nat.le_trans hz hg.size, hx⟩
theorem WordsI.below {w w3 W W' : World} {d G t8 f at_ many : Nat} {ws : List UInt32} {pre : List (Pc many)} (h : WordsI w w3 d G t8 f at_ many ws pre W) (x : Below W.heap.size W W') : WordsI w w3 d G t8 f at_ many ws pre W' := by
  obtain ⟨xs, hF, h3, h6, h7, h8, hB, hz, hx⟩ := h
  have hl := fun {k : Nat} {o : Obj} (q : W.heap[k]? = some o) => (x.block k (Array.getElem?_eq_some_iff.1 q).1).trans q
  exact ⟨xs, hF.below x, hl h3, hl h6, hl h7, hl h8, Below.then_ hB x, Nat.le_trans hz x.size, hx⟩
def pieceC (f at_ many c : Nat) : List Value := [.int .i64 ((f + (at_ + c) / 64 : Nat) : Int), .int .i64 (((at_ + c) % 64 : Nat) : Int), .int .i64 (c : Int), .int .i64 (pieceEnd at_ many c : Int)]
/-- The slots of a round of words. -/
def wordsA (w w1 : World) (d G g1 g2 g3 f at_ many c gx : Nat) : Act := { tmps := #[.pointer (some ⟨d, 0, none⟩), .int .i64 (at_ : Int), .int .i64 (many : Int), .pointer (some ⟨w.heap.size, 0, none⟩), undef, undef, .pointer (some ⟨w.heap.size + 1, 0, none⟩), .pointer (some ⟨w.heap.size + 1 + 1, 0, none⟩), .pointer (some ⟨w1.heap.size, 0, none⟩), .pointer (some ⟨gx, 0, none⟩), undef, undef, undef, .int .i64 (many : Int), .slice (some ⟨G, 0, none⟩) many many, .pointer (some ⟨d, 0, none⟩), .int .i64 (at_ : Int), .int .i64 (many : Int), .func (.func 133) #[] #[.pointer (some ⟨g1, 0, none⟩), .pointer (some ⟨g2, 0, none⟩), .pointer (some ⟨g3, 0, none⟩)], pieceV f at_ many c, undef, undef, undef, undef, undef, undef, undef, undef, undef, undef, undef, undef, undef, undef, undef, undef, undef, undef, undef, undef, undef, undef, undef, undef, undef, undef, undef, undef, undef, undef, undef, undef, undef, undef], defers := [] }
theorem pieces_any (h : DrAt base w d p b f m S) (at_ many : Nat) : Calls Try.prog 117 #[.pointer (some ⟨d, 0, none⟩), .int .i64 (at_ : Int), .int .i64 (many : Int)] w fun e w' =>
    ∃ g1 g2 g3, e = .returned (.func (.func 133) #[] #[.pointer (some ⟨g1, 0, none⟩), .pointer (some ⟨g2, 0, none⟩), .pointer (some ⟨g3, 0, none⟩)]) ∧ Below w.heap.size w w' ∧
      w.heap.size ≤ g1 ∧ g1 < w'.heap.size ∧ w.heap.size ≤ g2 ∧ g2 < w'.heap.size ∧ w.heap.size ≤ g3 ∧ g3 < w'.heap.size ∧
      w'.cell? ⟨g1, 0, none⟩ = some (.int .i64 (many : Int)) ∧ w'.cell? ⟨g2, 0, none⟩ = some (.int .i64 (at_ : Int)) ∧ w'.cell? ⟨g3, 0, none⟩ = some (.pointer (some ⟨d, 0, none⟩)) := by
  go_enter Try.func117, Try.ntmps117
  go_wp2_with fail
  go_ret
  obtain ⟨e1, e2, e3, e4, hB⟩ := alloc3 w (Obj.cells #[Value.pointer (some ⟨d, 0, none⟩)] 85) (Obj.cells #[Value.int .i64 (at_ : Int)] 3) (Obj.cells #[Value.int .i64 (many : Int)] 3)
  refine ⟨w.heap.size + 1 + 1, w.heap.size + 1, w.heap.size, rfl, hB, by omega, by omega, by omega, by omega, by omega, by omega, cell_of e3, cell_of e2, cell_of e1⟩
set_option maxHeartbeats 4000000 in
set_option maxRecDepth 100000 in
theorem words_at (h : DrAt base w d p b f m S) (hd : S.down = false) (at_ many : Nat) (hok : at_ + many ≤ 64 * m) :
    Calls Try.prog 118 #[.pointer (some ⟨d, 0, none⟩), .int .i64 (at_ : Int), .int .i64 (many : Int)] w fun e w' =>
      ∃ G, e = .returned (.tuple #[.slice (some ⟨G, 0, none⟩) many many, .int .i64 0]) ∧ Fresh w.heap.size 22 w' (some ⟨G, 0, none⟩) many many (cw ((S.ws.drop (64 * f + at_)).take many)) ∧ Below w.heap.size w w' := by
  have hm := h.small
  refine (callsIn_wide (n := 6)).1 ?_
  refine callsIn_of_wp_marks Try.func118 rfl trivial ?_ rfl
  simp only [Try.ntmps118, List.size_toArray, List.length_cons, List.length_nil, Nat.reduceAdd, Nat.reduceSub, Array.replicate_succ, Array.replicate_zero, List.push_toArray, List.append_toArray, List.nil_append, List.cons_append]
  refine wpIn_wide.2 ?_
  obtain ⟨e1, e2, e3, e4, hBa⟩ := alloc3 w (Obj.cells #[Value.pointer (some ⟨d, 0, none⟩)] 85) (Obj.cells #[Value.slice none 0 0] 63) (Obj.cells #[Value.int .i64 0] 60)
  go_wp2_with (with_reducible refine wpList_mk32 (o := ⟨some 14, _, _, _, _, _⟩) rfl (.tmp 13) rfl _ many rfl rfl (by omega) ?_; intro w1 hF1 hB1
               have k3 := (hB1.block w.heap.size (by omega)).trans e1
               have k6 := (hB1.block (w.heap.size + 1) (by omega)).trans e2
               have k7 := (hB1.block (w.heap.size + 1 + 1) (by omega)).trans e3
               have z1 := hB1.size
               rw [e4] at hF1 z1
               have dG := hF1.lt_size
               obtain ⟨w2, hw2⟩ : ∃ w2, w2 = w1.alloc (Obj.cells #[Value.slice (some ⟨w.heap.size + 1 + 1 + 1, 0, none⟩) many many] 63) := ⟨_, rfl⟩
               have hB2 : Below w1.heap.size w1 w2 := by rw [hw2]; exact (Below.refl _ w1).alloc (Nat.le_refl _) _
               have k8 : w2.heap[w1.heap.size]? = some (Obj.cells #[Value.slice (some ⟨w.heap.size + 1 + 1 + 1, 0, none⟩) many many] 63) := by rw [hw2]; exact World.alloc_heap_new w1 _
               have z2 : w2.heap.size = w1.heap.size + 1 := by rw [hw2]; simp
               have hF2 := hF1.below hB2
               replace k3 := (hB2.block _ (by omega)).trans k3
               replace k6 := (hB2.block _ (by omega)).trans k6
               replace k7 := (hB2.block _ (by omega)).trans k7
               have c3 := cell_of k3
               have hBw2 := Below.then_ (Below.then_ hBa hB1) hB2
               have hD2 := h.below hBw2
               clear hF1 hB1 hB2 e1 e2 e3 e4 hBa
               rw [hw2] at c3)
  rw [← hw2]
  clear hw2
  refine (pieces_any hD2 at_ many).mono ?_
  rintro e w3 ⟨g1, g2, g3, rfl, hB3, l1, l1', l2, l2', l3, l3', cg1, cg2, cg3⟩
  have hD3 := hD2.below hB3
  have hF3 := hF2.below hB3
  have hBw3 := Below.then_ hBw2 hB3
  replace k3 := (hB3.block _ (by omega)).trans k3
  replace k6 := (hB3.block _ (by omega)).trans k6
  replace k7 := (hB3.block _ (by omega)).trans k7
  replace k8 := (hB3.block _ (by omega)).trans k8
  have z3 := hB3.size
  clear hF2 hD2 hBw2 hB3 c3
  have hsm : f ≤ 1024 := by omega
  have hat : at_ + many ≤ 65536 := by omega
  have hdl : d < w.heap.size := h.obj.lt_size
  obtain ⟨-, -, cd2, -⟩ := hD3.c
  have hRd : Reads g1 g2 g3 d f at_ many w3 := ⟨cg1, cg2, cg3, cd2⟩
  have hFour : ∀ k, Four_ g1 g2 g3 d k → k < w3.heap.size := by
    rintro k (rfl | rfl | rfl | rfl) <;> omega
  have hGne : ∀ k, Four_ g1 g2 g3 d k → k ≠ w.heap.size + 1 + 1 + 1 := by
    rintro k (rfl | rfl | rfl | rfl) <;> omega
  go_wp2_with fail
  refine (wpIn_wide (n := 6)).1 ?_
  refine wpIn_rangeFunc_ownH (α := Pc many) rfl (by omega) (gf := 133) (lb := #[.pointer (some ⟨g1, 0, none⟩), .pointer (some ⟨g2, 0, none⟩), .pointer (some ⟨g3, 0, none⟩)]) rfl trivial (enters_of Try.func133 (by kernel_rfl) rfl)
    (pieces_stops 5 (by omega) g1 g2 g3 d f at_ many hsm hat w3 hRd hFour) (fun h k => h.trans k) (ButB.put hFour) (Below.refl _ _) (fun _ => rfl)
    (WordsI w w3 d (w.heap.size + 1 + 1 + 1) w1.heap.size f at_ many S.ws) (fun _ _ _ => False) (wordsI_own _ _ _ _ _ _ _ _ _ (by omega)) (fun _ _ _ _ _ hs _ _ => hs) ?start
    (fun x a' W => ∃ gx, w3.heap.size ≤ gx ∧ a' = wordsA w w1 d (w.heap.size + 1 + 1 + 1) g1 g2 g3 f at_ many x.1 gx ∧ Fresh w3.heap.size 173 W (some ⟨gx, 0, none⟩) 4 4 (pieceC f at_ many x.1)) ?own ?assign ?body ?done ?stop
  case start => exact ⟨List.replicate many 0, by simpa using hF3, k3, k6, k7, k8, hBw3, Nat.le_refl _, fun t ht => by simp [upto] at ht; subst ht; simp⟩
  case own =>
    rintro x a' _ W W' row ⟨gx, hgx, rfl, hF⟩ hg hr
    exact ⟨gx, hgx, rfl, fresh_grown hF hg hr⟩
  case stop =>
    rintro D c pre W _ _ hf _
    exact hf.elim
  case assign =>
    intro l pre x W K hI hK
    simp only [zip_one]
    refine plain_in (by kernel_rfl) (fun ⟨_, _, q⟩ => q) ?_
    refine wpList_alloc (o := ⟨some 9, _, _, _, _, _⟩) rfl 173 rfl [.int .i64 0, .int .i64 0, .int .i64 0, .int .i64 0] (by kernel_rfl) 4 rfl (by decide) ?_
    intro gx W1 hgx hFx hBx
    refine wpList_store rfl rfl (.tmp 9) (.tmp 19) 173 rfl gx 0 W.heap.size 173 4 _ (pieceC f at_ many x.1) rfl rfl 4 rfl (by kernel_rfl) hFx (by omega) (by intro u hu; simp [pieceC] at hu; rcases hu with rfl | rfl | rfl | rfl <;> rfl) W hBx hgx ?_
    intro W2 hFx2 hBx2 _ _
    have hzz : w3.heap.size ≤ W.heap.size := by obtain ⟨xs, _, _, _, _, _, _, hzz, _⟩ := hI; exact hzz
    refine hK _ W2 (keeps_of_below hBx2) (.of_below hBx2 (fun k hk => by have := hFour k hk; omega)) (WordsI.below hI hBx2) ⟨gx, by omega, rfl, hFx2.lower hzz⟩
  case body =>
    rintro l pre ⟨c, hc⟩ a' W hl ⟨r, hr⟩ ⟨xs, hF, q3, q6, q7, q8, hB, hz, hx⟩ ⟨gx, hgx, rfl, hFx⟩ hlt
    obtain ⟨e, he⟩ : ∃ e, pieceEnd at_ many c = e := ⟨_, rfl⟩
    have hgt := pieceEnd_gt at_ many c hc
    have hle := pieceEnd_le at_ many c
    obtain ⟨s, hs⟩ : ∃ s, f + (at_ + c) / 64 = s := ⟨_, rfl⟩
    obtain ⟨α, hα⟩ : ∃ α, (at_ + c) % 64 = α := ⟨_, rfl⟩
    have hea : e ≤ c + 64 - α := by rw [← he, ← hα]; exact Nat.min_le_left _ _
    have hα64 : α < 64 := by omega
    have hs64 : 64 * s + α = 64 * f + at_ + c := by omega
    have p0 : W.cell? ⟨gx, 0, none⟩ = some (.int .i64 (s : Int)) := by rw [← hs]; exact hFx.cell rfl
    have p1 : W.cell? ⟨gx, 1, none⟩ = some (.int .i64 (α : Int)) := by rw [← hα]; exact hFx.cell rfl
    have p2 : W.cell? ⟨gx, 2, none⟩ = some (.int .i64 (c : Int)) := hFx.cell rfl
    have p3 : W.cell? ⟨gx, 3, none⟩ = some (.int .i64 (e : Int)) := by rw [← he]; exact hFx.cell rfl
    rw [he] at hgt hle
    obtain ⟨k, hk⟩ : ∃ k, e - c = k := ⟨_, rfl⟩
    have hk2 : (e : Int) - (c : Int) = (k : Int) := by omega
    have hwk : IntKind.i64.wrap ((e : Int) - (c : Int)) = (k : Int) := by rw [wrapI _ (by omega) (by omega)]; exact hk2
    have hwk' : wrap64 ((e : Int) - (c : Int)) = (k : Int) := by rw [wrap64I _ (by omega) (by omega)]; exact hk2
    have hsn : s < S.n := by have := h.fits; omega
    have hnl := h.nor.len
    have hnn := h.nor.n_le
    obtain ⟨L, hL⟩ : ∃ L, ((S.ws.drop (64 * f + at_ + c)).take k) = L := ⟨_, rfl⟩
    have hLl : L.length = k := by rw [← hL]; simp; omega
    have hxl : xs.length = many := by simpa using hF.len
    have HE := Lib.hid he
    have HS := Lib.hid hs
    have HA := Lib.hid hα
    have HK := Lib.hid hk
    have HK2 := Lib.hid hk2
    have HL := Lib.hid hL
    have HLl := Lib.hid hLl
    have HX := Lib.hid hxl
    have HN := Lib.hid hnl
    clear he hs hα hk hk2 hL hLl hxl hnl
    unfold wordsA
    gi_wp2
    gi_loopw [25] (fun i wr => ∃ j : Nat, j ≤ k ∧ i = .int .i64 (j : Int) ∧ But (w.heap.size + 1 + 1 + 1) (w.heap.size + 1 + 1 + 1) W wr ∧ Fresh (w.heap.size + 1 + 1 + 1) 22 wr (some ⟨w.heap.size + 1 + 1 + 1, 0, none⟩) many many (cw (splice xs c (L.take j)))) (fun i _ => k - (intOf i).toNat)
    case atStart => exact ⟨0, Nat.zero_le _, rfl, But.refl _ _ _, by simpa [splice] using hF⟩
    case round =>
      obtain ⟨j, hj, rfl, hBt, hFr⟩ := hrel
      have hBr : Below w.heap.size w wr := hB.trans (hBt.below (by omega) (by omega) hB.size)
      have hDr := h.below hBr
      have hgxl : gx < W.heap.size := hFx.lt_size
      have h8l : w1.heap.size < W.heap.size := (Array.getElem?_eq_some_iff.1 q8).1
      have r8 := cell_of ((hBt.keep w1.heap.size h8l (by omega) (by omega)).trans q8)
      have hFx2 := hFx.but hBt (by omega) (by omega)
      have r0 : wr.cell? ⟨gx, 0, none⟩ = some (.int .i64 (s : Int)) := by rw [← HS.out]; exact hFx2.cell rfl
      have r1 : wr.cell? ⟨gx, 1, none⟩ = some (.int .i64 (α : Int)) := by rw [← HA.out]; exact hFx2.cell rfl
      have r2 : wr.cell? ⟨gx, 2, none⟩ = some (.int .i64 (c : Int)) := hFx2.cell rfl
      have hdl2 : d < W.heap.size := by have := hB.size; omega
      have h3l : w.heap.size < W.heap.size := (Array.getElem?_eq_some_iff.1 q3).1
      have r3 := cell_of ((hBt.keep w.heap.size h3l (by omega) (by omega)).trans q3)
      obtain ⟨-, rp, -, -⟩ := hDr.c
      by_cases hlt : j < k
      · obtain ⟨v, hv⟩ : ∃ v, L[j]? = some v := ⟨_, List.getElem?_eq_getElem (by have := HLl.out; omega)⟩
        have hkc := HK.out
        have hjα : α + j < 64 := by omega
        have hpl : S.place (s : Int) ((α : Int) + (j : Int)) 1 = true := by simp [Fl.place, Fl.sector]; omega
        have hrd : S.read (s : Int) ((α : Int) + (j : Int)) = (v, 0) := by
          have e1 : s * 64 + (α + j) = 64 * f + at_ + c + j := by omega
          rw [← HL.out, List.getElem?_take] at hv
          rw [if_pos hlt, List.getElem?_drop] at hv
          simp only [Fl.read, hd, hpl, Int.toNat_natCast]
          rw [show ((α : Int) + (j : Int)).toNat = α + j from by omega, e1, List.getD_eq_getElem?_getD, hv]
          rfl
        have hq : ∀ nq, Calls Try.prog 49 #[.pointer (some ⟨p, 0, none⟩), .int .i64 (s : Int), .int .i64 ((α : Int) + (j : Int))] (wr.drewN nq) fun e w' => e = .returned (.tuple #[.int .u32 (v.toNat : Int), .int .i64 (0 : Int)]) ∧ w' = wr.drewN nq :=
          fun nq => Read_any (hDr.nor.below (below_drewN' (Below.refl _ _) nq)) (s : Int) ((α : Int) + (j : Int)) (by omega) v 0 hrd
        have HQ := Lib.hid hq
        have HV := Lib.hid hv
        have hw1 := wrapI ((α : Int) + (j : Int)) (by omega) (by omega)
        clear hq hv hrd hpl hjα hkc
        gi_wp2
        refine region_qtail_in 15 (by kernel_rfl) (by kernel_rfl) (fun ⟨_, _, q⟩ => q) (by kernel_rfl) ?_
        simp only [List.take_succ_cons, List.take_zero, List.drop_succ_cons, List.drop_zero]
        repeat (go_big_quiet_step ((go_at_call 49; exact Calls.quiet_of_same (HQ.out _))))
        refine wpQuiet_nil ?_
        rintro _ ⟨nq, rfl⟩
        have hcj : c + j < many := by have := HK.out; omega
        have hw2 := wrapI ((c : Int) + (j : Int)) (by omega) (by omega)
        have hzf := hFr.frozenAt (j := c + j)
        obtain ⟨old, hold⟩ : ∃ old, wr.cell? ⟨w.heap.size + 1 + 1 + 1, c + j, none⟩ = some old := ⟨_, hFr.cell (List.getElem?_eq_getElem (by rw [hFr.len]; exact hcj))⟩
        go_wp2_with fail
        gi_wp2
        go_roundw
        case rel =>
          have hF3 := (hFr.below (below_drewN' (Below.refl _ _) nq)).store (c + j) (.int .u32 (v.toNat : Int))
          have e1 : (cw (splice xs c (L.take j))).set (c + j) (.int .u32 (v.toNat : Int)) = cw (splice xs c (L.take (j + 1))) := by
            have hj2 : j < L.length := by rw [HLl.out]; exact hlt
            have hv2 : L[j] = v := by
              have := HV.out
              rw [List.getElem?_eq_getElem hj2] at this
              simpa using this
            rw [← splice_step xs L c j hj2 (by have := HLl.out; have := HX.out; have := HK.out; omega), hv2]
            simp [cw, List.map_set]
          rw [e1] at hF3
          exact ⟨j + 1, by omega, by go_num, (hBt.then_ (But.of_below (below_drewN' (Below.refl _ _) nq))).then_ (But.set _ _ _ _ _ (.inl rfl)), hF3⟩
        case measure => simp [intOf]; omega
      · obtain rfl : j = k := by omega
        gi_wp2
        refine ⟨⟨hBt.size, fun q o hq ho _ => (hBt.keep q (Array.getElem?_eq_some_iff.1 ho).1 (by omega) (by omega)).trans ho⟩, ⟨hBt.size, fun q hq => hBt.keep q (by have := hFour q hq; omega) (hGne q hq) (hGne q hq)⟩, ?_⟩
        refine ⟨_, hFr, (hBt.keep _ h3l (by omega) (by omega)).trans q3, (hBt.keep _ (Array.getElem?_eq_some_iff.1 q6).1 (by omega) (by omega)).trans q6, (hBt.keep _ (Array.getElem?_eq_some_iff.1 q7).1 (by omega) (by omega)).trans q7, (hBt.keep _ h8l (by omega) (by omega)).trans q8, hBr, Nat.le_trans hz hBt.size, fun t ht => ?_⟩
        obtain ⟨hu, rfl⟩ := upto_back ht
        have hee := HE.out
        have hkk := HK.out
        obtain ⟨-, hxc⟩ := hx c hu
        rw [hee]
        refine ⟨hle, ?_⟩
        rw [show L.take j = L from List.take_of_length_le (by rw [HLl.out]; exact Nat.le_refl _)]
        exact words_join xs (S.ws.drop (64 * f + at_)) L c e hgt (by rw [HX.out]; exact hle) hxc (by rw [HLl.out]; exact hkk.symm) (by rw [← HL.out, List.drop_drop, hkk])
  case done =>
    rintro D ys W hD hys ⟨xs, hF, q3, q6, q7, q8, hB, hz, hx⟩ hK
    obtain ⟨-, hxe⟩ := hx many hys
    have hxl : xs.length = many := by simpa using hF.len
    rw [List.take_of_length_le (by omega)] at hxe
    subst hxe
    have c8 := cell_of q8
    have c6 := cell_of q6
    have c7 := cell_of q7
    have f6 := frozen_of q6 0
    have f7 := frozen_of q7 0
    go_wp2_with fail
    have hne : ∀ (X : World) (g j k : Nat) (u : Value), k ≠ g → (X.setCell ⟨g, j, none⟩ u).heap[k]? = X.heap[k]? := fun X g j k u h => by
      simp only [World.setCell, Array.getElem?_modify]
      rw [if_neg (Ne.symm h)]
    have b6 : Boxed W (w.heap.size + 1) 63 (.slice none 0 0) := q6
    have b7 : Boxed W (w.heap.size + 1 + 1) 60 (.int .i64 0) := q7
    have c6 := (((b6.set (.slice (some ⟨w.heap.size + 1 + 1 + 1, 0, none⟩) many many)).other (show w.heap.size + 1 ≠ w.heap.size + 1 + 1 by omega) (.int .i64 0)))
    have c7 := ((b7.other (show w.heap.size + 1 + 1 ≠ w.heap.size + 1 by omega) (.slice (some ⟨w.heap.size + 1 + 1 + 1, 0, none⟩) many many)).set (.int .i64 0))
    have hX := (((hB.setCell (p := ⟨w.heap.size + 1, 0, none⟩) (by simp) (.slice (some ⟨w.heap.size + 1 + 1 + 1, 0, none⟩) many many))).setCell (p := ⟨w.heap.size + 1 + 1, 0, none⟩) (by simp; omega) (.int .i64 0))
    have hK2 := (hne _ (w.heap.size + 1 + 1) 0 D (.int .i64 0) (by omega)).trans ((hne W (w.heap.size + 1) 0 D (.slice (some ⟨w.heap.size + 1 + 1 + 1, 0, none⟩) many many) (by omega)).trans hK)
    have hG := (hne _ (w.heap.size + 1 + 1) 0 (w.heap.size + 1 + 1 + 1) (.int .i64 0) (by omega)).trans (hne W (w.heap.size + 1) 0 (w.heap.size + 1 + 1 + 1) (.slice (some ⟨w.heap.size + 1 + 1 + 1, 0, none⟩) many many) (by omega))
    revert c6 c7 hX hK2 hG
    generalize ((W.setCell ⟨w.heap.size + 1, 0, none⟩ (.slice (some ⟨w.heap.size + 1 + 1 + 1, 0, none⟩) many many)).setCell ⟨w.heap.size + 1 + 1, 0, none⟩ (.int .i64 0)) = X
    intro c6 c7 hX hK2 hG
    refine ⟨by simp, .inl ⟨_, _, rfl, run_takeDeferred hK2, ?_⟩⟩
    have hp : ∀ k, k < w3.heap.size → (X.putObj D (.deferred none)).heap[k]? = X.heap[k]? := fun k hk => World.putObj_heap_other (by omega)
    refine ⟨_, results_cell2 rfl rfl rfl (by kernel_rfl) (by kernel_rfl) (cell_of ((hp _ (by omega)).trans c6)) (cell_of ((hp _ (by omega)).trans c7)), _, rfl, ?_, ?_⟩
    · exact (hF.kept ((hp _ (by omega)).trans hG)).lower (by omega)
    · exact hX.trans (belowK_b (w := w) (Nat.le_refl _) X D _ _ (by omega) hK2 rfl rfl)
theorem words_any (h : DrAt base w d p b f m S) (hd : S.down = false) (at_ many : Nat) (hok : at_ + many ≤ 64 * m) :
    Calls Try.prog 118 #[.pointer (some ⟨d, 0, none⟩), .int .i64 (at_ : Int), .int .i64 (many : Int)] w fun e w' =>
      ∃ A c, e = .returned (.tuple #[.slice A many c, .int .i64 0]) ∧ Fresh w.heap.size 22 w' A many c (cw ((S.ws.drop (64 * f + at_)).take many)) ∧ Below w.heap.size w w' :=
  (words_at h hd at_ many hok).mono fun e w' ⟨G, h1, h2, h3⟩ => ⟨_, _, h1, h2, h3⟩
end
end Go.Proofs.Ytjmofjcdcmbecaa
