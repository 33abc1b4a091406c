/-
  mac's Mac: the digest under a key.
-/
import Derived.Test.YtpdfalgjmeagjaaShaSum
import Derived.Test.YtpdfalgjmeagjaaHzOver
import Derived.Test.YtpdfalgjmeagjaaPb
import Derived.Test.YtpdfalgjmeagjaaShaLeaf
import Derived.Test.YtpdfalgjmeagjaaMacKey
import Derived.Test.YtpdfalgjmeagjaaRegionJKL
import Derived.Deep.CutBlock
namespace Go.Proofs.Ytpdfalgjmeagjaa
open Go.RowKit
set_option linter.unusedVariables false

def flatP (ps : List Pb) : List UInt8 := ps.flatMap Pb.l
theorem flatP_take (ps : List Pb) (k : Nat) (p : Pb) (h : ps[k]? = some p) : flatP (ps.take (k + 1)) = flatP (ps.take k) ++ p.l := by
  unfold flatP
  rw [List.take_add_one, h]
  simp
theorem flatP_le (ps : List Pb) (k : Nat) : (flatP (ps.take k)).length ≤ (flatP ps).length := by
  have : flatP ps = flatP (ps.take k) ++ flatP (ps.drop k) := by
    unfold flatP
    rw [← List.flatMap_append, List.take_append_drop]
  rw [this]
  simp
theorem piece_le (ps : List Pb) (k : Nat) (p : Pb) (h : ps[k]? = some p) : p.l.length ≤ (flatP ps).length := by
  have h1 := flatP_le ps (k + 1)
  rw [flatP_take ps k p h] at h1
  simp at h1
  omega
set_option maxHeartbeats 1000000 in
set_option maxRecDepth 100000 in
theorem mdigest_any (tb tq : Nat) (first keys : List UInt32) (A : Option Addr) (n c : Nat) (ps : List Pb) (w : World) (ht : Tab w tb tq first keys) (hp : Parts w A n ps) (hn7 : n ≤ 7) (hc : (flatP ps).length ≤ 1099511627776) :
    Calls Try.prog 201 #[.pointer (some ⟨tb, tq, none⟩), .slice A n c] w fun e w' => e = .returned (.agg (cb (ofF first keys (flatP ps))).toArray) ∧ Below w.heap.size w w' := by
  have HP := Lib.hid hp
  have HC := Lib.hid hc
  have hl1 := ht.l1
  have hlo : (ofF first keys (flatP ps)).length = 32 := by
    unfold ofF sumF
    rw [len_digF, show (stAll keys (stAll keys first (flatP ps)) (left (flatP ps) ++ padL (flatP ps).length)).length = 8 from len_stN _ _ _ (len_stN _ _ _ ht.l1 _) _]
  have HLO := Lib.hid hlo
  clear hlo hp hc
  go_enter Try.func201, Try.ntmps201
  go_wp2_with (first
    | (with_reducible refine wpList_alloc (o := ⟨some 4, _, _, _, _, _⟩) rfl 38 rfl (cb (List.replicate 32 0)) (by kernel_rfl) 32 (by simp) (by decide) ?_; intro gr w1 hgr hFr hBr)
    | (go_at_call 16; refine (New_any tb tq first keys _ (ht.step hBr)).mono ?_; rintro e w2 ⟨rfl, hB2⟩; have hB02 := Below.then_ hBr hB2)
    | (with_reducible refine wpList_alloc (o := ⟨some 5, _, _, _, _, _⟩) rfl 31 rfl (hz (List.replicate 8 0) (.slice none 0 0) 0) (by kernel_rfl) 10 (by simp [hz]) (by decide) ?_; intro gh w3 hgh hFh hB3; have hB03 := Below.then_ hB02 hB3; have hFr3 := (hFr.below hB2).below hB3)
    | (with_reducible refine wpList_store rfl rfl (.tmp 5) (.tmp 9) 31 rfl gh 0 _ 31 10 (hz (List.replicate 8 0) (.slice none 0 0) 0) (hz first (.slice none 0 0) 0) rfl rfl 10 (by simp [hz, hl1]) (by kernel_rfl) hFh (by omega) (hz_one _ _ _ rfl) w hB03 (by have := hB02.size; omega) ?_; intro w4 hF4 hB4 ho4 hz4))
  have e0 : splice (hz (List.replicate 8 0) (.slice none 0 0) 0) 0 (hz first (.slice none 0 0) 0) = hz first (.slice none 0 0) 0 := hz_over (by simp) hl1
  rw [e0] at hF4
  have z3 := hB03.size
  have hF4' : Fresh w.heap.size 31 w4 (some ⟨gh, 0, none⟩) 10 10 (hz first (.slice none 0 0) 0) := hF4.lower (by have := hB02.size; omega)
  have lr := hFr3.lt_size
  have lr2 := hFr.lt_size
  have z2 := hB2.size
  have hFr4 : Fresh w.heap.size 38 w4 (some ⟨gr, 0, none⟩) 32 32 (cb (List.replicate 32 0)) := hFr3.other (by omega) ho4
  have nrh : gr ≠ gh := by omega
  have hwg : w.heap.size ≤ gh := by have := hB02.size; omega
  clear hBr hB2 hB02 hFr hFh hB3 hB03 hFr3 hF4 ho4 hz4 e0
  go_loopw [12] (fun i wr => ∃ (j : Nat) (R : Option Addr) (cr : Nat) (f : List UInt8), j ≤ n ∧ i = .int .i64 (j : Int) ∧ Hid (f = flatP (ps.take j)) ∧ Fresh w.heap.size 31 wr (some ⟨gh, 0, none⟩) 10 10 (hz (stAll keys first f) (.slice R (left f).length cr) (f.length : Int)) ∧ Sees wr wr.heap.size R (cb (left f)) ∧ Fresh w.heap.size 38 wr (some ⟨gr, 0, none⟩) 32 32 (cb (List.replicate 32 0)) ∧ Below w.heap.size w wr) (fun i _ => n - (intOf i).toNat)
  case atStart => exact ⟨0, none, 0, [], by omega, rfl, Lib.hid rfl, hF4', Sees.nil, hFr4, hB4⟩
  case round =>
    obtain ⟨j, R, cr, f, hj, rfl, hf, hFj, hRj, hrj, hBj⟩ := hrel
    clear hF4' hFr4 hB4
    have hfl : f.length ≤ 1099511627776 := by have h1 := flatP_le ps j; rw [← hf.out] at h1; have := HC.out; omega
    have hst : (stAll keys first f).length = 8 := len_stN _ _ _ hl1 _
    have hz10 : (hz (stAll keys first f) (.slice R (left f).length cr) (f.length : Int)).length = 10 := hz_len _ _ _ hst
    have hri : Right (left f).length (f.length : Int) := ⟨by omega, by omega, by rw [len_left]; omega⟩
    by_cases hlt : j < n
    · have HLT := Lib.hid hlt
      obtain ⟨g, o, rfl, p, HK, hpo, hcell⟩ := (HP.out.step hBj).at_ hlt
      have hpl := piece_le ps j p HK.out
      have hnx := flatP_take ps j p HK.out
      rw [← hf.out] at hnx
      have hp1 := hpo.sees
      have hp2 := hpo.len
      have hp3 := hpo.cap
      obtain ⟨Ap, mp, cp, lp⟩ := p
      simp only at hp1 hp2 hp3 hcell hnx hpl
      have hmp : mp ≤ 1099511627776 := by have := HC.out; omega
      have HNX := Lib.hid hnx
      have HP2 := Lib.hid hp2
      have HST := Lib.hid hst
      have HZ := Lib.hid hz10
      have HRI := Lib.hid hri
      have HMP := Lib.hid hmp
      have HP3 := Lib.hid hp3
      clear hnx hp2 hpo hpl hst hz10 hri hmp hp3
      have hW := fun (w' : World) (x : Below wr.heap.size wr w') => Write_any tb tq first keys (stAll keys first f) R Ap (left f).length cr mp cp (f.length : Int) (left f) lp w' ((ht.step hBj).step x) HST.out HRI.out (hRj.step x) rfl (hp1.step x) HP2.out HP3.out HMP.out
      rw [stAll_append, left_append] at hW
      go_wp2_with (with_reducible refine wpList_load (o := ⟨some 17, _, _, _, _, _⟩) rfl (.tmp 5) 31 rfl gh 0 _ rfl (hz (stAll keys first f) (.slice R (left f).length cr) (f.length : Int)) 10 HZ.out (by kernel_rfl) hFj.sees ?_)
      refine (hW _ (Below.refl _ _)).mono ?_
      rintro e w5 ⟨A3, c3, rfl, hF5, hB5⟩
      have hFj5 := hFj.below hB5
      have hrj5 := hrj.below hB5
      have hB05 := Below.then_ hBj hB5
      have HL9 : Hid ((hz (stAll keys first (f ++ lp)) (.slice A3 (left (f ++ lp)).length c3) ((f.length : Int) + (mp : Int))).length = 10) := Lib.hid (hz_len _ _ _ (len_stN _ _ _ hl1 _))
      clear hW
      go_wp2_with (with_reducible refine wpList_store rfl rfl (.tmp 5) (.tmp 19) 31 rfl gh 0 w.heap.size 31 10 (hz (stAll keys first f) (.slice R (left f).length cr) (f.length : Int)) (hz (stAll keys first (f ++ lp)) (.slice A3 (left (f ++ lp)).length c3) ((f.length : Int) + (mp : Int))) rfl rfl 10 HL9.out (by kernel_rfl) hFj5 (by omega) (hz_one _ _ _ rfl) w hB05 hwg ?_; intro w6 hF6 hB6 ho6 hz6)
      have hl9 : (stAll keys first (f ++ lp)).length = 8 := len_stN _ _ _ hl1 _
      rw [hz_over HST.out hl9] at hF6
      clear hl9
      have h65 : Sees w6 w6.heap.size A3 (cb (left (f ++ lp))) := by
        have h8 := hF5.others (w' := w6) fun k hk => ho6 k (by have := hFj.lt_size; omega)
        exact h8.sees
      go_roundw
      case rel => exact ⟨j + 1, A3, c3, f ++ lp, (by have := HLT.out; omega), by go_num, Lib.hid HNX.out.symm, (by have e : (((f ++ lp).length : Nat) : Int) = (f.length : Int) + (mp : Int) := (by rw [List.length_append, HP2.out]; omega); rw [e]; exact hF6), h65, hrj5.other nrh ho6, hB6⟩
      case measure => (have := HLT.out); simp [intOf]; omega
    · obtain rfl : j = n := by omega
      obtain rfl : f = flatP ps := by rw [hf.out, List.take_of_length_le (by rw [HP.out.len]; exact Nat.le_refl _)]
      have HST := Lib.hid hst
      have HZ := Lib.hid hz10
      have HRI := Lib.hid hri
      clear hst hz10 hri
      have hS := fun (w' : World) (x : Below wr.heap.size wr w') => Sum_any tb tq first keys (stAll keys first (flatP ps)) R (left (flatP ps)).length cr (flatP ps).length (left (flatP ps)) w' ((ht.step hBj).step x) HST.out HRI.out (hRj.step x) rfl
      rw [show sumF keys (stAll keys first (flatP ps)) (left (flatP ps)) (flatP ps).length = ofF first keys (flatP ps) from rfl] at hS
      go_wp2_with (with_reducible refine wpList_load (o := ⟨some 22, _, _, _, _, _⟩) rfl (.tmp 5) 31 rfl gh 0 _ rfl (hz (stAll keys first (flatP ps)) (.slice R (left (flatP ps)).length cr) ((flatP ps).length : Int)) 10 HZ.out (by kernel_rfl) hFj.sees ?_)
      refine (hS _ (Below.refl _ _)).mono ?_
      rintro e w5 ⟨rfl, hB5⟩
      have hrj5 := hrj.below hB5
      have hB05 := Below.then_ hBj hB5
      clear hS
      go_wp2_with (with_reducible refine wpList_store rfl rfl (.tmp 4) (.tmp 23) 38 rfl gr 0 w.heap.size 38 32 (cb (List.replicate 32 0)) (cb (ofF first keys (flatP ps))) rfl rfl 32 (by rw [List.length_map]; exact HLO.out) (by kernel_rfl) hrj5 (by omega) (cb_one _) w hB05 (by omega) ?_; intro w9 hF9 hB9 _ _)
      have e : splice (cb (List.replicate 32 0)) 0 (cb (ofF first keys (flatP ps))) = cb (ofF first keys (flatP ps)) := by
        have := HLO.out
        simp [splice, this]
      rw [e] at hF9
      exact bodyPost_cell rfl rfl (cb (ofF first keys (flatP ps))) 32 (by rw [List.length_map]; exact HLO.out) (by kernel_rfl) hF9.sees rfl ⟨rfl, hB9⟩
end Go.Proofs.Ytpdfalgjmeagjaa

namespace Go.Proofs.Ytpdfalgjmeagjaa
open Go.RowKit
set_option linter.unusedVariables false

def macF (first keys : List UInt32) (key b : List UInt8) : List UInt8 := ofF first keys (turnF (keyF first keys key) 92 ++ ofF first keys (turnF (keyF first keys key) 54 ++ b))
theorem sees_new (w : World) (e : TypeId) (C : Array Value) (xs : List Value) (hC : C = xs.toArray) : Sees (w.alloc (.cells C e)) (w.alloc (.cells C e)).heap.size (some ⟨w.heap.size, 0, none⟩) xs := fun _ => by
  subst hC
  exact ⟨w.heap.size, 0, rfl, by simp, fun j u hu => by rw [Nat.zero_add, World.cell?_alloc_mark]; simpa using hu⟩
theorem parts_two (w : World) (e : TypeId) (C : Array Value) (p q : Pb) (hC : C = [p.cell, q.cell].toArray) (hp : p.Ok w) (hq : q.Ok w) : Parts (w.alloc (.cells C e)) (some ⟨w.heap.size, 0, none⟩) 2 [p, q] :=
  ⟨sees_new w e C _ hC, rfl, fun r hr => by
    rcases List.mem_cons.1 hr with rfl | hr
    · exact hp.step (below_alloc _ _)
    · rcases List.mem_cons.1 hr with rfl | hr
      · exact hq.step (below_alloc _ _)
      · cases hr⟩
def zer64 : List UInt8 := List.replicate 64 0
def pick64 (b : Bool) (x : List UInt8) : List UInt8 := match b with
  | true => x
  | false => zer64
def mkFacts (kb x y : List UInt8) (k : Nat) (v : Value) (w : World) : Prop :=
  match k with
  | 0 => v = .agg (cb kb).toArray
  | 1 => v = .agg (cb x).toArray
  | 2 => v = .agg (cb kb).toArray
  | 3 => v = .agg (cb y).toArray
  | _ => True
def mkJ (w : World) (N gk gr : Nat) (kb x y : List UInt8) (listed : Array Bool) (a : Act) (W : World) : Prop :=
  Below w.heap.size w W ∧ N ≤ W.heap.size ∧ Fresh w.heap.size 43 W (some ⟨gk, 0, none⟩) 64 64 (cb kb) ∧ Fresh w.heap.size 38 W (some ⟨gr, 0, none⟩) 32 32 (cb (List.replicate 32 0)) ∧
  (listed.getD 4 false = true → ∃ g, a.tmps[8]? = some (.pointer (some ⟨g, 0, none⟩)) ∧ Fresh N 43 W (some ⟨g, 0, none⟩) 64 64 (cb (pick64 (listed.getD 6 false) x)) ∧ (listed.getD 5 false = true → a.tmps[9]? ≠ some (.pointer (some ⟨g, 0, none⟩)))) ∧
  (listed.getD 5 false = true → ∃ g, a.tmps[9]? = some (.pointer (some ⟨g, 0, none⟩)) ∧ Fresh N 43 W (some ⟨g, 0, none⟩) 64 64 (cb (pick64 (listed.getD 7 false) y))) ∧
  (listed.getD 6 false = true → listed.getD 4 false = true) ∧ (listed.getD 7 false = true → listed.getD 5 false = true)
theorem getD_set_ne (listed : Array Bool) (i j : Nat) (h : i ≠ j) : (listed.setIfInBounds i true).getD j false = listed.getD j false := by
  simp [Array.getD_eq_getD_getElem?, h]
theorem put_ne (a : Act) (t s : Nat) (v : Value) (h : t ≠ s) : (a.put (some t) v).tmps[s]? = a.tmps[s]? := by
  simp [Act.put, h]
theorem put_eq (a : Act) (t : Nat) (v : Value) (h : t < a.tmps.size) : (a.put (some t) v).tmps[t]? = some v := by
  simp [Act.put, h]
section
variable {w W W' : World} {N gk gr : Nat} {kb x y : List UInt8} {listed : Array Bool} {a : Act}
theorem mkJ.below (h : mkJ w N gk gr kb x y listed a W) (z : Below W.heap.size W W') : mkJ w N gk gr kb x y listed a W' := by
  obtain ⟨h1, h2, h3, h4, h5, h6, h7⟩ := h
  refine ⟨Below.then_ h1 z, Nat.le_trans h2 z.size, h3.below z, h4.below z, fun e => ?_, fun e => ?_, h7⟩
  · obtain ⟨g, e1, e2, e3⟩ := h5 e
    exact ⟨g, e1, e2.below z, e3⟩
  · obtain ⟨g, e1, e2⟩ := h6 e
    exact ⟨g, e1, e2.below z⟩
theorem mkJ.other (h : mkJ w N gk gr kb x y listed a W) (i t : Nat) (v : Value) (hi : i < 4) (ht : 10 ≤ t) : mkJ w N gk gr kb x y (listed.setIfInBounds i true) (a.put (some t) v) W := by
  obtain ⟨h1, h2, h3, h4, h5, h6, h7⟩ := h
  refine ⟨h1, h2, h3, h4, ?_, ?_, by rw [getD_set_ne _ _ _ (by omega), getD_set_ne _ _ _ (by omega), getD_set_ne _ _ _ (by omega), getD_set_ne _ _ _ (by omega)]; exact h7⟩
  · rw [getD_set_ne _ _ _ (by omega), getD_set_ne _ _ _ (by omega), getD_set_ne _ _ _ (by omega), put_ne _ _ _ _ (by omega), put_ne _ _ _ _ (by omega)]
    exact h5
  · rw [getD_set_ne _ _ _ (by omega), getD_set_ne _ _ _ (by omega), put_ne _ _ _ _ (by omega)]
    exact h6
theorem getD_set_eq (listed : Array Bool) (i : Nat) (h : i < listed.size) : (listed.setIfInBounds i true).getD i false = true := by
  simp [h]
theorem size_of_getD {listed : Array Bool} {i : Nat} (h : listed.getD i true = false) : i < listed.size ∧ listed.getD i false = false := by
  rcases Nat.lt_or_ge i listed.size with h1 | h1
  · refine ⟨h1, ?_⟩
    simp [h1] at h ⊢
    exact h
  · simp [Array.getElem?_eq_none h1] at h
theorem mkJ.made8 (h : mkJ w N gk gr kb x y listed a W) (hs : 9 < a.tmps.size) (h1 : listed.getD 4 true = false) (hn : Fresh N 43 W' (some ⟨W.heap.size, 0, none⟩) 64 64 (cb zer64)) (z : Below W.heap.size W W') : mkJ w N gk gr kb x y (listed.setIfInBounds 4 true) (a.put (some 8) (.pointer (some ⟨W.heap.size, 0, none⟩))) W' := by
  obtain ⟨l4, f4⟩ := size_of_getD h1
  obtain ⟨k1, k2, k3, k4, k5, k6, k7, k8⟩ := h.below z
  have k6' := h.2.2.2.2.2.1
  have h6f : listed.getD 6 false = false := by
    cases e : listed.getD 6 false
    · rfl
    · rw [k7 e] at f4; cases f4
  refine ⟨k1, k2, k3, k4, fun _ => ⟨_, put_eq _ _ _ (by omega), ?_, ?_⟩, ?_, fun _ => getD_set_eq _ _ l4, by rw [getD_set_ne _ _ _ (by omega), getD_set_ne _ _ _ (by omega)]; exact k8⟩
  · rw [getD_set_ne _ _ _ (by omega), h6f]
    exact hn
  · rw [getD_set_ne _ _ _ (by omega), put_ne _ _ _ _ (by omega)]
    intro e5 e9
    obtain ⟨g, q1, q2⟩ := k6' e5
    rw [q1] at e9
    have := q2.lt_size
    simp at e9
  · rw [getD_set_ne _ _ _ (by omega), getD_set_ne _ _ _ (by omega), put_ne _ _ _ _ (by omega)]
    exact k6
theorem mkJ.made9 (h : mkJ w N gk gr kb x y listed a W) (hs : 9 < a.tmps.size) (h1 : listed.getD 5 true = false) (hn : Fresh N 43 W' (some ⟨W.heap.size, 0, none⟩) 64 64 (cb zer64)) (z : Below W.heap.size W W') : mkJ w N gk gr kb x y (listed.setIfInBounds 5 true) (a.put (some 9) (.pointer (some ⟨W.heap.size, 0, none⟩))) W' := by
  obtain ⟨l4, f4⟩ := size_of_getD h1
  obtain ⟨k1, k2, k3, k4, k5, k6, k7, k8⟩ := h.below z
  have k5' := h.2.2.2.2.1
  have h7f : listed.getD 7 false = false := by
    cases e : listed.getD 7 false
    · rfl
    · rw [k8 e] at f4; cases f4
  refine ⟨k1, k2, k3, k4, ?_, fun _ => ⟨_, put_eq _ _ _ (by omega), ?_⟩, by rw [getD_set_ne _ _ _ (by omega), getD_set_ne _ _ _ (by omega)]; exact k7, fun _ => getD_set_eq _ _ l4⟩
  · rw [getD_set_ne _ _ _ (by omega), getD_set_ne _ _ _ (by omega), put_ne _ _ _ _ (by omega)]
    intro e4
    obtain ⟨g, q1, q2, q3⟩ := k5 e4
    obtain ⟨g', r1, r2, r3⟩ := k5' e4
    refine ⟨g, q1, q2, fun _ => ?_⟩
    rw [put_eq _ _ _ (by omega)]
    rw [q1] at r1
    have := r2.lt_size
    simp at r1 ⊢
    omega
  · rw [getD_set_ne _ _ _ (by omega), h7f]
    exact hn
theorem mkJ.set8 (h : mkJ w N gk gr kb x y listed a W) (h1 : listed.getD 6 true = false) (e4 : listed.getD 4 false = true) {g : Nat} (hg : a.tmps[8]? = some (.pointer (some ⟨g, 0, none⟩))) (hN : gk < N ∧ gr < N ∧ w.heap.size ≤ N) (hx : x.length = 64) :
    Fresh N 43 W (some ⟨g, 0, none⟩) 64 64 (cb zer64) ∧ mkJ w N gk gr kb x y (listed.setIfInBounds 6 true) a (W.setRow g (splice (cb zer64) 0 (cb x)).toArray) := by
  obtain ⟨l6, f6⟩ := size_of_getD h1
  obtain ⟨k1, k2, k3, k4, k5, k6, k7, k8⟩ := h
  obtain ⟨g', q1, q2, q3⟩ := k5 e4
  obtain rfl : g = g' := by rw [hg] at q1; simpa using q1
  rw [f6] at q2
  have q2' : Fresh N 43 W (some ⟨g, 0, none⟩) 64 64 (cb zer64) := q2
  have gN := q2'.block.2
  have ho : ∀ k, k ≠ g → (W.setRow g (splice (cb zer64) 0 (cb x)).toArray).heap[k]? = W.heap[k]? := fun k hk => setRow_other W g k _ hk
  have e0 : splice (cb zer64) 0 (cb x) = cb x := by simp [splice, zer64, hx]
  refine ⟨q2', Below.setRow' k1 (by omega) _, by simpa using k2, k3.other (by omega) ho, k4.other (by omega) ho, fun _ => ⟨g, hg, ?_, ?_⟩, ?_, ?_, ?_⟩
  · rw [getD_set_eq _ _ l6, e0]
    exact q2'.setRow (ys := cb x) (by simp [hx])
  · rw [getD_set_ne _ _ _ (by omega)]
    exact q3
  · rw [getD_set_ne _ _ _ (by omega), getD_set_ne _ _ _ (by omega)]
    intro e5
    obtain ⟨g9, r1, r2⟩ := k6 e5
    refine ⟨g9, r1, r2.other (fun e => q3 e5 ?_) ho⟩
    rw [r1, e]
  · intro _
    rw [getD_set_ne _ 6 4 (by omega)]
    exact e4
  · rw [getD_set_ne _ _ _ (by omega), getD_set_ne _ _ _ (by omega)]
    exact k8
theorem mkJ.set9 (h : mkJ w N gk gr kb x y listed a W) (h1 : listed.getD 7 true = false) (e5 : listed.getD 5 false = true) {g : Nat} (hg : a.tmps[9]? = some (.pointer (some ⟨g, 0, none⟩))) (hN : gk < N ∧ gr < N ∧ w.heap.size ≤ N) (hx : y.length = 64) :
    Fresh N 43 W (some ⟨g, 0, none⟩) 64 64 (cb zer64) ∧ mkJ w N gk gr kb x y (listed.setIfInBounds 7 true) a (W.setRow g (splice (cb zer64) 0 (cb y)).toArray) := by
  obtain ⟨l6, f6⟩ := size_of_getD h1
  obtain ⟨k1, k2, k3, k4, k5, k6, k7, k8⟩ := h
  obtain ⟨g', q1, q2⟩ := k6 e5
  obtain rfl : g = g' := by rw [hg] at q1; simpa using q1
  rw [f6] at q2
  have q2' : Fresh N 43 W (some ⟨g, 0, none⟩) 64 64 (cb zer64) := q2
  have gN := q2'.block.2
  have ho : ∀ k, k ≠ g → (W.setRow g (splice (cb zer64) 0 (cb y)).toArray).heap[k]? = W.heap[k]? := fun k hk => setRow_other W g k _ hk
  have e0 : splice (cb zer64) 0 (cb y) = cb y := by simp [splice, zer64, hx]
  refine ⟨q2', Below.setRow' k1 (by omega) _, by simpa using k2, k3.other (by omega) ho, k4.other (by omega) ho, ?_, fun _ => ⟨g, hg, ?_⟩, ?_, ?_⟩
  · rw [getD_set_ne _ _ _ (by omega), getD_set_ne _ _ _ (by omega), getD_set_ne _ _ _ (by omega)]
    intro e4
    obtain ⟨g8, r1, r2, r3⟩ := k5 e4
    refine ⟨g8, r1, r2.other (fun e => r3 e5 ?_) ho, r3⟩
    rw [hg, e]
  · rw [getD_set_eq _ _ l6, e0]
    exact q2'.setRow (ys := cb y) (by simp [hx])
  · rw [getD_set_ne _ _ _ (by omega), getD_set_ne _ _ _ (by omega)]
    exact k7
  · intro _
    rw [getD_set_ne _ 7 5 (by omega)]
    exact e5
end
def outFacts (tb tf g9 gi : Nat) (y z : List UInt8) (k : Nat) (v : Value) (w : World) : Prop :=
  match k with
  | 0 => v = .pointer (some ⟨tb, tf, none⟩)
  | 1 => v = .slice (some ⟨g9, 0, none⟩) 64 64
  | 2 => v = .slice (some ⟨gi, 0, none⟩) 32 32
  | 3 => ∃ A, v = .slice A 2 2 ∧ Parts w A 2 [⟨some ⟨g9, 0, none⟩, 64, 64, y⟩, ⟨some ⟨gi, 0, none⟩, 32, 32, z⟩]
  | _ => True
theorem outFacts_stab (tb tf g9 gi : Nat) (y z : List UInt8) : ∀ k v w w', Below w.heap.size w w' → outFacts tb tf g9 gi y z k v w → outFacts tb tf g9 gi y z k v w' := fun k v w w' hb h =>
  match k, h with
  | 0, h => h
  | 1, h => h
  | 2, h => h
  | 3, ⟨A, e, h⟩ => ⟨A, e, h.step hb⟩
  | _ + 4, _ => trivial
set_option maxHeartbeats 2000000 in
set_option maxRecDepth 100000 in
theorem Mac_any (tb tf : Nat) (first keys : List UInt32) (A B : Option Addr) (n c m d : Nat) (key b : List UInt8) (w : World) (ht : Tab w tb tf first keys) (hA : Sees w w.heap.size A (cb key)) (hn : key.length = n) (hnc : n ≤ c) (hc : n ≤ 1099511627776) (hB : Sees w w.heap.size B (cb b)) (hm : b.length = m) (hmd : m ≤ d) (hd : m ≤ 1000000000000) :
    Calls Try.prog 176 #[.pointer (some ⟨tb, tf, none⟩), .slice A n c, .slice B m d] w fun e w' => e = .returned (.agg (cb (macF first keys key b)).toArray) ∧ Below w.heap.size w w' := by
  have HM := Lib.hid hm
  have HN := Lib.hid hn
  have HK := Lib.hid (keyF_len first keys key ht.l1)
  clear hm hn
  go_enter Try.func176, Try.ntmps176
  go_upto_region 2 with (first
    | (with_reducible refine wpList_alloc (o := ⟨some 6, _, _, _, _, _⟩) rfl 38 rfl (cb (List.replicate 32 0)) (by kernel_rfl) 32 (by simp) (by decide) ?_; intro gr w1 hgr hFr hBr)
    | (go_at_call 199; refine (keyBlock_any tb tf first keys A n c key _ (ht.step hBr) (hA.step hBr) HN.out hnc hc).mono ?_; rintro e w2 ⟨rfl, hB2⟩; have hB02 := Below.then_ hBr hB2; have z1 := hBr.size; have z2 := hB2.size)
    | (with_reducible refine wpList_alloc (o := ⟨some 7, _, _, _, _, _⟩) rfl 43 rfl (cb (List.replicate 64 0)) (by kernel_rfl) 64 (by simp) (by decide) ?_; intro gk w3 hgk hFk hB3; have hB03 := Below.then_ hB02 hB3; have hFr3 := (hFr.below hB2).below hB3)
    | (with_reducible refine wpList_store rfl rfl (.tmp 7) (.tmp 13) 43 rfl gk 0 _ 43 64 (cb (List.replicate 64 0)) (cb (keyF first keys key)) rfl rfl 64 (by simp [HK.out]) (by kernel_rfl) hFk (by omega) (cb_one _) w hB03 (by omega) ?_; intro w4 hF4 hB4 ho4 hz4))
  have e0 : splice (cb (List.replicate 64 0)) 0 (cb (keyF first keys key)) = cb (keyF first keys key) := by
    have := HK.out
    simp [splice, this]
  rw [e0] at hF4
  obtain ⟨kb, hkb⟩ : ∃ kb, keyF first keys key = kb := ⟨_, rfl⟩
  have hmac : macF first keys key b = ofF first keys (turnF kb 92 ++ ofF first keys (turnF kb 54 ++ b)) := by rw [← hkb]; rfl
  rw [hkb] at HK
  have HX : Hid ((turnF kb 54).length = 64) := Lib.hid (by rw [turnF_len]; exact HK.out)
  have HY : Hid ((turnF kb 92).length = 64) := Lib.hid (by rw [turnF_len]; exact HK.out)
  have hGk : Fresh w.heap.size 43 w4 (some ⟨gk, 0, none⟩) 64 64 (cb kb) := by rw [← hkb]; exact Fresh.lower hF4 (by omega)
  have z3 := hB3.size
  have hGr : Fresh w.heap.size 38 w4 (some ⟨gr, 0, none⟩) 32 32 (cb (List.replicate 32 0)) := hFr3.other (by have := hFr.lt_size; omega) ho4
  have HMAC := Lib.hid hmac
  have z4 := hB4.size
  have lr := hGr.lt_size
  have lk := hGk.lt_size
  clear hmac hkb e0 hF4 hFr3 hFk hB3 hB03 hB2 hB02 hFr hBr ho4 hz4 hA hnc hc
  obtain ⟨x, hx⟩ : ∃ x, turnF kb 54 = x := ⟨_, rfl⟩
  obtain ⟨y, hy⟩ : ∃ y, turnF kb 92 = y := ⟨_, rfl⟩
  rw [hx] at HX HMAC
  rw [hy] at HY HMAC
  have HTX := Lib.hid hx
  have HTY := Lib.hid hy
  clear hx hy
  have mt : ∀ (z : List UInt8) (c : UInt8) (w' : World), turnF kb c = z → Calls Try.prog 200 #[.agg (cb kb).toArray, .int .u8 (c.toNat : Int)] w' fun e w2 => e = .returned (.agg (cb z).toArray) ∧ Below w'.heap.size w' w2 := fun z c w' h => by
    rw [← h]
    exact mturned_any kb c w' HK.out
  have hmx := fun w' h => mt x 54 w' h
  have hmy := fun w' h => mt y 92 w' h
  refine region_L (mkFacts kb x y) (mkJ w w4.heap.size gk gr kb x y) (by kernel_rfl) (by kernel_rfl) ⟨⟨hB4.os, hB4.tape, hB4.output, hB4.size, hB4.block⟩, Nat.le_refl _, hGk.below ⟨rfl, rfl, rfl, Nat.le_refl _, fun _ _ => rfl⟩, hGr.below ⟨rfl, rfl, rfl, Nat.le_refl _, fun _ _ => rfl⟩, (by intro h; rw [getD_replicate_false] at h; cases h), (by intro h; rw [getD_replicate_false] at h; cases h), (by intro h; rw [getD_replicate_false] at h; cases h), (by intro h; rw [getD_replicate_false] at h; cases h)⟩ ?_ ?_
  · refine ⟨?_, ?_, ?_, ?_, ?_, ?_, ?_, ?_, trivial⟩
    all_goals intro listed a1 w' hk h1 hd
    · have f2 : a1.eval (.tmp 7) = .pointer (some ⟨gk, 0, none⟩) := hk.ev_old 7 (by kernel_rfl)
      exact stepL_value rfl (run_load_agg (.tmp 7) 43 rfl f2 (cb kb) 64 (by simp [HK.out]) (by kernel_rfl) hk.inv.2.2.1.sees) rfl (hk.inv.other 0 14 _ (by omega) (by omega))
    · obtain ⟨v0, e0, q0, rfl, l0⟩ := hk.ev_new hd 0 14 (by kernel_rfl) rfl
      refine stepL_enter rfl (f := 200) (args := #[.agg (cb kb).toArray, .int .u8 54]) (by go_simp) ?_
      refine (hmx w' HTX.out).mono ?_
      rintro e w5 ⟨rfl, hB5⟩
      exact ⟨_, rfl, rfl, (hk.inv.below hB5).other 1 15 _ (by omega) (by omega), fun _ _ h => h⟩
    · have f2 : a1.eval (.tmp 7) = .pointer (some ⟨gk, 0, none⟩) := hk.ev_old 7 (by kernel_rfl)
      exact stepL_value rfl (run_load_agg (.tmp 7) 43 rfl f2 (cb kb) 64 (by simp [HK.out]) (by kernel_rfl) hk.inv.2.2.1.sees) rfl (hk.inv.other 2 16 _ (by omega) (by omega))
    · obtain ⟨v2, e2, q2, rfl, l2⟩ := hk.ev_new hd 2 16 (by kernel_rfl) rfl
      refine stepL_enter rfl (f := 200) (args := #[.agg (cb kb).toArray, .int .u8 92]) (by go_simp) ?_
      refine (hmy w' HTY.out).mono ?_
      rintro e w5 ⟨rfl, hB5⟩
      exact ⟨_, rfl, rfl, (hk.inv.below hB5).other 3 17 _ (by omega) (by omega), fun _ _ h => h⟩
    · refine stepL_run rfl (v := .pointer (some ⟨w'.heap.size, 0, none⟩)) (w' := w'.alloc (.cells (cb zer64).toArray 43 (0, 0))) ?_ trivial (hk.inv.made8 (by rw [hk.size]; exact (show (9 : Nat) < 28 by decide)) h1 ((Fresh.new w' 43 (cb zer64) 64 (by simp [zer64]) (by decide)).lower hk.inv.2.1) (below_alloc w' _)) (fun _ _ h => h)
      · simp only [execOp]
        rw [Sem.run_bind, run_alloc_zero 43 (cb zer64) (by kernel_rfl)]
        rfl
    · refine stepL_run rfl (v := .pointer (some ⟨w'.heap.size, 0, none⟩)) (w' := w'.alloc (.cells (cb zer64).toArray 43 (0, 0))) ?_ trivial (hk.inv.made9 (by rw [hk.size]; exact (show (9 : Nat) < 28 by decide)) h1 ((Fresh.new w' 43 (cb zer64) 64 (by simp [zer64]) (by decide)).lower hk.inv.2.1) (below_alloc w' _)) (fun _ _ h => h)
      · simp only [execOp]
        rw [Sem.run_bind, run_alloc_zero 43 (cb zer64) (by kernel_rfl)]
        rfl
    · obtain ⟨v1, e1, q1, rfl, l1⟩ := hk.ev_new hd 1 15 (by kernel_rfl) rfl
      obtain ⟨v4, e4, q4, _, l4⟩ := hk.ev_new hd 4 8 (by kernel_rfl) rfl
      obtain ⟨g, hg, _⟩ := hk.inv.2.2.2.2.1 l4
      obtain ⟨hz, hJ⟩ := hk.inv.set8 h1 l4 hg ⟨lk, lr, by omega⟩ HX.out
      have f2 : a1.eval (.tmp 8) = .pointer (some ⟨g, 0, none⟩) := by rw [e4]; rw [q4] at hg; simpa using hg
      exact stepL_skip rfl rfl (run_store_agg (.tmp 8) (.tmp 15) 43 rfl f2 (cb x) e1 (by rw [show (cb x).length = 64 from by simp [HX.out]]; kernel_rfl) hz (by simp [HX.out]) (cb_one _)) trivial hJ (fun _ _ h => h)
    · obtain ⟨v3, e3, q3, rfl, l3⟩ := hk.ev_new hd 3 17 (by kernel_rfl) rfl
      obtain ⟨v5, e5, q5, _, l5⟩ := hk.ev_new hd 5 9 (by kernel_rfl) rfl
      obtain ⟨g, hg, _⟩ := hk.inv.2.2.2.2.2.1 l5
      obtain ⟨hz, hJ⟩ := hk.inv.set9 h1 l5 hg ⟨lk, lr, by omega⟩ HY.out
      have f2 : a1.eval (.tmp 9) = .pointer (some ⟨g, 0, none⟩) := by rw [e5]; rw [q5] at hg; simpa using hg
      exact stepL_skip rfl rfl (run_store_agg (.tmp 9) (.tmp 17) 43 rfl f2 (cb y) e3 (by rw [show (cb y).length = 64 from by simp [HY.out]]; kernel_rfl) hz (by simp [HY.out]) (cb_one _)) trivial hJ (fun _ _ h => h)
  · intro listed a1 w6 hJ hall hp
    obtain ⟨v0, p0, v1, p1, v2, p2, v3, p3, v4, p4, v5, p5, rfl⟩ := hp
    simp only [mkFacts] at p0 p1 p2 p3 p4 p5
    subst p0 p1 p2 p3
    obtain ⟨k1, k2, k3, k4, k5, k6, -⟩ := hJ
    obtain ⟨g8, a8, hF8, hne⟩ := k5 (hall 4 (by decide))
    obtain ⟨g9, a9, q9⟩ := k6 (hall 5 (by decide))
    rw [hall 6 (by decide)] at hF8
    rw [hall 7 (by decide)] at q9
    have hne := hne (hall 5 (by decide))
    simp only [Act.put, List.setIfInBounds_toArray, List.set_cons_succ, List.set_cons_zero] at a8 a9 hne ⊢
    obtain rfl : v4 = .pointer (some ⟨g8, 0, none⟩) := by simpa using a8
    obtain rfl : v5 = .pointer (some ⟨g9, 0, none⟩) := by simpa using a9
    have n89 : g8 ≠ g9 := fun e => hne (by rw [e]; simp)
    have s8 := sl64_all g8
    have s9 := sl64_all g9
    clear hne p4 p5 a8 a9 hall k5 k6 hmx hmy mt
    have hb6 := hB.step k1
    go_wp2_with fail
    have hP1 : ∀ (e : TypeId) (C : Array Value) (hC : C = [Value.slice (some ⟨g8, 0, none⟩) 64 64, Value.slice B m d].toArray), Parts (w6.alloc (.cells C e)) (some ⟨w6.heap.size, 0, none⟩) 2 [⟨some ⟨g8, 0, none⟩, 64, 64, x⟩, ⟨B, m, d, b⟩] := fun e C hC => parts_two w6 e C ⟨some ⟨g8, 0, none⟩, 64, 64, x⟩ ⟨B, m, d, b⟩ hC ⟨hF8.sees, HX.out, Nat.le_refl _⟩ ⟨hb6, HM.out, hmd⟩
    refine (mdigest_any tb tf first keys _ 2 2 _ _ ((ht.step k1).step (below_alloc _ _)) (hP1 _ _ rfl) (by omega) (by simp [flatP, HX.out, HM.out]; omega)).mono ?_
    rintro e w7 ⟨rfl, hB7⟩
    rw [show flatP [⟨some ⟨g8, 0, none⟩, 64, 64, x⟩, ⟨B, m, d, b⟩] = x ++ b from by simp [flatP]]
    have hB67 := Below.then_ (below_alloc w6 _) hB7
    have HI : Hid ((ofF first keys (x ++ b)).length = 32) := Lib.hid (len_ofF first keys _ ht.l1)
    have hB07 := Below.then_ k1 hB67
    have z67 := hB67.size
    clear hP1
    go_upto_region 4 with (first
      | (with_reducible refine wpList_alloc (o := ⟨some 10, _, _, _, _, _⟩) rfl 38 rfl (cb (List.replicate 32 0)) (by kernel_rfl) 32 (by simp) (by decide) ?_; intro gi w8 hgi hFi hB8; have z8 := hB8.size)
      | (with_reducible refine wpList_store rfl rfl (.tmp 10) (.tmp 22) 38 rfl gi 0 _ 38 32 (cb (List.replicate 32 0)) (cb (ofF first keys (x ++ b))) rfl rfl 32 (by simp [HI.out]) (by kernel_rfl) hFi (by omega) (cb_one _) w (Below.then_ hB07 hB8) (by omega) ?_; intro w9 hF9 hB9 ho9 hz9))
    have e9 : splice (cb (List.replicate 32 0)) 0 (cb (ofF first keys (x ++ b))) = cb (ofF first keys (x ++ b)) := by
      have := HI.out
      simp [splice, this]
    rw [e9] at hF9
    have hB69 : Below w6.heap.size w6 w9 := ⟨hB9.os.trans k1.os.symm, hB9.tape.trans k1.tape.symm, hB9.output.trans k1.output.symm, by omega, fun k hk => (ho9 k (by omega)).trans ((Below.then_ hB67 hB8).block k hk)⟩
    have hF99 := Fresh.below q9 hB69
    have hGr9 := Fresh.below k4 hB69
    have hF9' : Fresh w7.heap.size 38 w9 (some ⟨gi, 0, none⟩) 32 32 (cb (ofF first keys (x ++ b))) := hF9
    have s10 := sl32_all gi
    simp only [Act.put, List.setIfInBounds_toArray, List.set_cons_succ, List.set_cons_zero]
    refine region_all_tail 4 (outFacts tb tf g9 gi y (ofF first keys (x ++ b))) (by kernel_rfl) (by kernel_rfl) (by kernel_rfl) (outFacts_stab _ _ _ _ _ _) ?_ ?_
    · intro w0 hb0
      simp only [List.take_succ_cons, List.take_zero]
      refine ⟨?_, ?_, ?_, ?_, trivial⟩
      all_goals intro listed a1 w' hk hd
      · have f2 := hk.ev_old 0 (by kernel_rfl)
        exact stepOk_value rfl (v := .pointer (some ⟨tb, tf, none⟩)) (by simp [execOp]; exact f2) rfl
      · have f2 : a1.eval (.tmp 9) = .pointer (some ⟨g9, 0, none⟩) := hk.ev_old 9 (by kernel_rfl)
        have f3 : a1.tmps[9]?.getD undef = .pointer (some ⟨g9, 0, none⟩) := by simpa [Act.eval] using f2
        exact stepOk_value rfl (v := .slice (some ⟨g9, 0, none⟩) 64 64) (by go_simp) rfl
      · have f2 : a1.eval (.tmp 10) = .pointer (some ⟨gi, 0, none⟩) := hk.ev_old 10 (by kernel_rfl)
        have f3 : a1.tmps[10]?.getD undef = .pointer (some ⟨gi, 0, none⟩) := by simpa [Act.eval] using f2
        exact stepOk_value rfl (v := .slice (some ⟨gi, 0, none⟩) 32 32) (by go_simp) rfl
      · obtain ⟨v1, e1, q1, rfl⟩ := hk.ev_new hd 1 24 (by kernel_rfl) rfl
        obtain ⟨v2, e2, q2, rfl⟩ := hk.ev_new hd 2 25 (by kernel_rfl) rfl
        have hbb := Below.then_ hb0 hk.below
        refine stepOk_run rfl (v := .slice (some ⟨w'.heap.size, 0, none⟩) 2 2) (w' := w'.alloc (.cells #[.slice (some ⟨g9, 0, none⟩) 64 64, .slice (some ⟨gi, 0, none⟩) 32 32] 27)) ?_ ⟨_, rfl, parts_two w' _ _ ⟨some ⟨g9, 0, none⟩, 64, 64, y⟩ ⟨some ⟨gi, 0, none⟩, 32, 32, ofF first keys (x ++ b)⟩ rfl ⟨(hF99.below hbb).sees, HY.out, Nat.le_refl _⟩ ⟨(hF9'.below hbb).sees, HI.out, Nat.le_refl _⟩⟩ (below_alloc w' _)
        go_simp
    intro a1 w10 hbw hp
    obtain ⟨v0, p0, v1, p1, v2, p2, v3, p3, rfl⟩ := hp
    simp only [outFacts] at p0 p1 p2 p3
    obtain ⟨A2, rfl, hP2⟩ := p3
    subst p0 p1 p2
    simp only [List.drop_succ_cons, List.drop_zero, Act.put, List.setIfInBounds_toArray, List.set_cons_succ, List.set_cons_zero]
    have hGrq := hGr9.below hbw
    have hB0q := Below.then_ hB9 hbw
    go_wp2_with fail
    refine (mdigest_any tb tf first keys _ 2 2 _ w10 (ht.step hB0q) hP2 (by omega) (by simp [flatP, HY.out, HI.out])).mono ?_
    rintro e w11 ⟨rfl, hB11⟩
    rw [show flatP [⟨some ⟨g9, 0, none⟩, 64, 64, y⟩, ⟨some ⟨gi, 0, none⟩, 32, 32, ofF first keys (x ++ b)⟩] = y ++ ofF first keys (x ++ b) from by simp [flatP]]
    have HO : Hid ((ofF first keys (y ++ ofF first keys (x ++ b))).length = 32) := Lib.hid (len_ofF first keys _ ht.l1)
    have hGr11 := hGrq.below hB11
    have hB011 := Below.then_ hB0q hB11
    go_wp2_with (with_reducible refine wpList_store rfl rfl (.tmp 6) (.tmp 27) 38 rfl gr 0 w.heap.size 38 32 (cb (List.replicate 32 0)) (cb (ofF first keys (y ++ ofF first keys (x ++ b)))) rfl rfl 32 (by simp [HO.out]) (by kernel_rfl) hGr11 (by omega) (cb_one _) w hB011 (by omega) ?_; intro w12 hF12 hB12 _ _)
    have e12 : splice (cb (List.replicate 32 0)) 0 (cb (ofF first keys (y ++ ofF first keys (x ++ b)))) = cb (ofF first keys (y ++ ofF first keys (x ++ b))) := by
      have := HO.out
      simp [splice, this]
    rw [e12] at hF12
    exact bodyPost_cell rfl rfl (cb (ofF first keys (y ++ ofF first keys (x ++ b)))) 32 (by simp [HO.out]) (by kernel_rfl) hF12.sees rfl ⟨by rw [HMAC.out], hB12⟩
end Go.Proofs.Ytpdfalgjmeagjaa
