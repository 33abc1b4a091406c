/-
  What areVars of package code answers, for every input: a map of the names that were seen.
-/
import Derived.Test.YtangblcfdboghaaCodeVars
namespace Go.Proofs.Ytangblcfdboghaa
open Go.RowKit Go.Maps
set_option linter.unusedVariables false

theorem law9 : Keyed Try.prog 9 := string_keyed Try.underlying9
theorem zero92 (w : World) : (zeroValue 110).run Try.prog w = .ok (.agg #[]) w := by kernel_rfl
theorem zeroVar : ((Try.prog.info? 56).map (·.zero)) = some (some (.agg (Vr.cells default).toArray)) := by kernel_rfl
theorem aggVar : aggB Try.prog 56 4 = true := by kernel_rfl
theorem splice4 {α : Type} {A B : List α} {n : Nat} (h : A.length = n) (h' : B.length = n) : splice A 0 B = B := by
  simp [splice, h, h']
theorem vr_one (v : Vr) : ∀ u ∈ v.cells, u.oneCell' = true := by
  intro u hu
  simp [Vr.cells] at hu
  rcases hu with rfl | rfl | rfl | rfl <;> rfl
/-- The names that were seen, as keys. -/
def keysOf (l : List (List UInt8)) : List Lit := l.map Lit.string
theorem keys_ok (l : List (List UInt8)) : ∀ x ∈ keysOf l, WideAt.IsKeyLit x := by
  intro x hx
  obtain ⟨_, _, rfl⟩ := List.mem_map.1 hx
  trivial
abbrev UD : Type := Unit
theorem has_names (u : DataW UD) (l : List (List UInt8)) (x : List UInt8) : Maps.has (setOf u (keysOf l)) (.string x) = decide (x ∈ l) := by
  rw [has_setOf u _ _ (keys_ok l), Bool.eq_iff_iff]
  simp [keysOf, Lit.sameKey]
theorem names_step {l : List Vr} {k : Nat} {v : Vr} (h : l[k]? = some v) : Vr.names (l.take (k + 1)) = Vr.names (l.take k) ++ [v.name] := by
  rw [List.take_add_one, h]
  simp [Vr.names]
theorem varsOk_no {l : List Vr} {v : Vr} (h : v ∈ l) (hr : v.right = false) : varsOk l = false := by
  have : l.all Vr.right = false := by
    rw [Bool.eq_false_iff]
    intro ha
    rw [List.all_eq_true] at ha
    rw [ha v h] at hr
    cases hr
  simp [varsOk, this]
theorem varsOk_twice {l : List Vr} {k : Nat} {v : Vr} (h : l[k]? = some v) (hr : v.name ∈ Vr.names (l.take k)) : varsOk l = false := by
  have h1 : ¬ (Vr.names l).Nodup := by
    intro hn
    have e : Vr.names l = Vr.names (l.take (k + 1)) ++ Vr.names (l.drop (k + 1)) := by
      rw [Vr.names, Vr.names, Vr.names, ← List.map_append, List.take_append_drop]
    rw [e, names_step h] at hn
    have h2 := (List.nodup_append.1 (List.nodup_append.1 hn).1).2.2
    exact h2 _ hr _ (by simp) rfl
  simp [varsOk, h1]
theorem own_below {H : Type} {P : Program} {k : TypeId} {R : Value → Option (DataW H × List MemPlace)} {w w' : World} {b n : Nat} {D : DataW H} (h : w.ownsMap P k R b n D) (hB : Below w.heap.size w w') : w'.ownsMap P k R b n D :=
  h.kept (row := none) ⟨hB.os, hB.tape, hB.output, hB.size, fun j hj _ => hB.block j hj⟩ (by simp)
theorem keyName {l : List UInt8} (h : l.length ≤ maxLen) : keyOf Try.prog 9 (sv l) = some (.string l) :=
  WideMaps.keyOf_string_mk Try.underlying9 (by simpa [ByteArray.size] using h)

set_option maxHeartbeats 4000000 in
set_option maxRecDepth 100000 in
theorem areVars_any (A : Option Addr) (n c : Nat) (l : List Vr) (w : World) (hs : Sees w w.heap.size A (vcs l)) (hl : l.length = n) (hn : n ≤ 9223372036854775807) (hok : ∀ v ∈ l, v.Ok) :
    Calls Try.prog 53 #[.slice A n c] w fun e w' => e = .returned (.bool (varsOk l)) ∧ Below w.heap.size w w' := by
  have HL := Lib.hid hl
  clear hl
  by_cases h : 200 < n
  · have g : decide ((200 : Int) < n) = true := by simp; omega
    go_enter Try.func53, Try.ntmps53
    go_wp2
    go_ret
    exact ⟨ret_bool (by rw [varsOk, HL.out, show decide (n ≤ 200) = false from by simp; omega, Bool.false_and]), Below.refl _ _⟩
  · have g : decide ((200 : Int) < n) = false := by simp; omega
    have hmm := @run_makeMap Try.prog
    go_enter Try.func53, Try.ntmps53
    go_wp2
    go_loopw [5, 6, 7, 14] (fun s5 s6 s7 i wr => ∃ k : Nat, k ≤ n ∧ i = .int .i64 k ∧ (∀ v ∈ l.take k, v.right = true) ∧ (Vr.names (l.take k)).Nodup ∧ wr.ownsMap Try.prog 9 (unitElem (H := UD)) w.heap.size k (setOf (.agg []) (keysOf (Vr.names (l.take k)))) ∧ Below w.heap.size w wr) (fun _ _ _ i _ => n - (intOf i).toNat)
    case atStart =>
      refine ⟨0, by omega, rfl, by simp, by simp [Vr.names], ?_, (Below.refl _ _).alloc (Nat.le_refl _) _⟩
      exact World.ownsMap_made _ _ _ _
    case round =>
      obtain ⟨k, hk, rfl, hall, hnd, hown, hB⟩ := hrel
      have HA := Lib.hid hall
      have HN := Lib.hid hnd
      clear hall hnd
      by_cases hlt : k < n
      · obtain ⟨b, o, rfl, hb, v, HX, hx, hc⟩ := (hs.below hB).quad vr4 HL.out hlt
        have hvk := hok v hx
        have hkey := keyName hvk.name
        by_cases hin : v.name ∈ Vr.names (l.take k)
        · have eh : Maps.has (setOf (DataW.agg [] : DataW UD) (keysOf (Vr.names (l.take k)))) (.string v.name) = true := by rw [has_names]; simpa using hin
          go_wp2_with (first
            | (with_reducible refine wpList_load rfl (.tmp 16) 56 rfl b (o + k * 4) _ rfl v.cells 4 (vr4 v) aggVar hc ?_)
            | (with_reducible refine wpList_alloc (o := ⟨some 5, _, _, _, _, _⟩) rfl 56 rfl (Vr.cells default) zeroVar 4 (vr4 _) (by decide) ?_; intro g5 w1 hg5 hF1 hB1)
            | (with_reducible refine wpList_store rfl rfl (.tmp 5) (.tmp 17) 56 rfl g5 0 wr.heap.size 56 4 (Vr.cells default) v.cells rfl rfl 4 (vr4 v) aggVar hF1 (by omega) (vr_one v) wr hB1 hg5 ?_; intro w2 hF2 hB2 hoth2 hz2; rw [splice4 (vr4 default) (vr4 v)] at hF2; have f0 := hF2.cell_ (k := 0) rfl; have f1 := hF2.cell_ (k := 1) rfl; have f2 := hF2.cell_ (k := 2) rfl; have f3 := hF2.cell_ (k := 3) rfl; have hown2 := own_below hown hB2)
            | (at_lookup; refine wpList_lookup_own_unit _ rfl _ _ 109 rfl 9 110 law9 Try.underlying109 (zero92 _) w.heap.size k _ rfl hown2 _ _ rfl hkey ?_))
          go_ret
          exact ⟨ret_bool (by rw [varsOk_twice HX.out hin]), (hB.trans (hB2.mono hB.size)).alloc (Nat.le_trans hB.size hB2.size) _⟩
        · have eh : Maps.has (setOf (DataW.agg [] : DataW UD) (keysOf (Vr.names (l.take k)))) (.string v.name) = false := by rw [has_names]; simpa using hin
          cases hr : v.right
          · go_wp2_with (first
              | (with_reducible refine wpList_load rfl (.tmp 16) 56 rfl b (o + k * 4) _ rfl v.cells 4 (vr4 v) aggVar hc ?_)
              | (with_reducible refine wpList_alloc (o := ⟨some 5, _, _, _, _, _⟩) rfl 56 rfl (Vr.cells default) zeroVar 4 (vr4 _) (by decide) ?_; intro g5 w1 hg5 hF1 hB1)
              | (with_reducible refine wpList_store rfl rfl (.tmp 5) (.tmp 17) 56 rfl g5 0 wr.heap.size 56 4 (Vr.cells default) v.cells rfl rfl 4 (vr4 v) aggVar hF1 (by omega) (vr_one v) wr hB1 hg5 ?_; intro w2 hF2 hB2 hoth2 hz2; rw [splice4 (vr4 default) (vr4 v)] at hF2; have f0 := hF2.cell_ (k := 0) rfl; have f1 := hF2.cell_ (k := 1) rfl; have f2 := hF2.cell_ (k := 2) rfl; have f3 := hF2.cell_ (k := 3) rfl; have hown2 := own_below hown hB2)
              | (at_lookup; refine wpList_lookup_own_unit _ rfl _ _ 109 rfl 9 110 law9 Try.underlying109 (zero92 _) w.heap.size k _ rfl hown2 _ _ rfl hkey ?_)
              | (with_reducible refine wpList_load_g (.tmp 5) 56 rfl g5 0 _ rfl v.cells 4 (vr4 v) aggVar (hF2.sees.step (below_alloc _ _)) rfl ?_)
              | (go_at_call 72; refine (isVar_any v _ hvk).mono ?_; rw [hr]; rintro e w3 ⟨rfl, hB3⟩; have f30 := ((hF2.below (below_alloc _ _)).below hB3).cell_ (k := 0) rfl)
              | (at_mapUpdate; refine wpList_mapUpdate_in _ rfl _ _ _ 109 rfl 9 110 law9 Try.underlying109 (unitElem (H := UD)) w.heap.size k _ rfl (own_below (own_below hown2 (below_alloc _ _)) hB3) (by unfold maxLen; omega) _ _ (.string v.name) rfl rfl hkey (.agg []) [] unitElem_mk ?_; intro w5 hown5 hturn5))
            go_ret
            exact ⟨ret_bool (by rw [varsOk_no hx hr]), ((hB.trans (hB2.mono hB.size)).alloc (Nat.le_trans hB.size hB2.size) _).trans (hB3.mono (by simp; exact Nat.le_trans (Nat.le_trans hB.size hB2.size) (Nat.le_succ _)))⟩
          · go_wp2_with (first
              | (with_reducible refine wpList_load rfl (.tmp 16) 56 rfl b (o + k * 4) _ rfl v.cells 4 (vr4 v) aggVar hc ?_)
              | (with_reducible refine wpList_alloc (o := ⟨some 5, _, _, _, _, _⟩) rfl 56 rfl (Vr.cells default) zeroVar 4 (vr4 _) (by decide) ?_; intro g5 w1 hg5 hF1 hB1)
              | (with_reducible refine wpList_store rfl rfl (.tmp 5) (.tmp 17) 56 rfl g5 0 wr.heap.size 56 4 (Vr.cells default) v.cells rfl rfl 4 (vr4 v) aggVar hF1 (by omega) (vr_one v) wr hB1 hg5 ?_; intro w2 hF2 hB2 hoth2 hz2; rw [splice4 (vr4 default) (vr4 v)] at hF2; have f0 := hF2.cell_ (k := 0) rfl; have f1 := hF2.cell_ (k := 1) rfl; have f2 := hF2.cell_ (k := 2) rfl; have f3 := hF2.cell_ (k := 3) rfl; have hown2 := own_below hown hB2)
              | (at_lookup; refine wpList_lookup_own_unit _ rfl _ _ 109 rfl 9 110 law9 Try.underlying109 (zero92 _) w.heap.size k _ rfl hown2 _ _ rfl hkey ?_)
              | (with_reducible refine wpList_load_g (.tmp 5) 56 rfl g5 0 _ rfl v.cells 4 (vr4 v) aggVar (hF2.sees.step (below_alloc _ _)) rfl ?_)
              | (go_at_call 72; refine (isVar_any v _ hvk).mono ?_; rw [hr]; rintro e w3 ⟨rfl, hB3⟩; have f30 := ((hF2.below (below_alloc _ _)).below hB3).cell_ (k := 0) rfl)
              | (at_mapUpdate; refine wpList_mapUpdate_in _ rfl _ _ _ 109 rfl 9 110 law9 Try.underlying109 (unitElem (H := UD)) w.heap.size k _ rfl (own_below (own_below hown2 (below_alloc _ _)) hB3) (by unfold maxLen; omega) _ _ (.string v.name) rfl rfl hkey (.agg []) [] unitElem_mk ?_; intro w5 hown5 hturn5))
            go_roundw
            case rel =>
              refine ⟨k + 1, by omega, by go_num, fun d hd => ?_, ?_, ?_, ?_⟩
              · rw [List.take_add_one, HX.out] at hd
                simp at hd
                rcases hd with hd | rfl
                · exact HA.out d hd
                · exact hr
              · rw [names_step HX.out, List.nodup_append]
                refine ⟨HN.out, by simp, ?_⟩
                intro a ha b hb
                simp at hb
                subst hb
                intro he
                subst he
                exact hin ha
              · rw [names_step HX.out, keysOf, List.map_append]
                have := setOf_snoc (DataW.agg [] : DataW UD) (keysOf (Vr.names (l.take k))) (.string v.name)
                rw [keysOf] at this
                simp only [List.map_cons, List.map_nil]
                rw [this]
                exact hown5
              · have hB4 := ((hB.trans (hB2.mono hB.size)).alloc (Nat.le_trans hB.size hB2.size) _).trans (hB3.mono (by simp; exact Nat.le_trans (Nat.le_trans hB.size hB2.size) (Nat.le_succ _)))
                exact hB4.grown hturn5.grown hB4.size (fun j hj => by cases hj; exact Nat.le_refl _)
            case measure => simp [intOf]; omega
      · go_wp2_with fail
        go_ret
        refine ⟨ret_bool ?_, hB⟩
        have hall := HA.out
        have hnd := HN.out
        rw [List.take_of_length_le (by rw [HL.out]; omega)] at hall hnd
        have h2 : l.all Vr.right = true := by
          rw [List.all_eq_true]
          exact hall
        rw [varsOk, h2, HL.out, show decide (n ≤ 200) = true from by simp; omega]
        simp [hnd]
end Go.Proofs.Ytangblcfdboghaa
