/-
  LamportTold returns true for every input, and writes nothing that was there: the walk.
-/
import Derived.Test.YtehokoeajinboaaLamOpen
import Derived.Test.YtehokoeajinboaaRoundsSame
import Derived.ProofKit
import Derived.OpenShut
namespace Go.Proofs.Ytehokoeajinboaa
open Go.RowKit
set_option linter.unusedVariables false

def tl1 (leaf : Int) (seed d e Z Z2 : List UInt8) (j : Nat) (x : Value) (w : World) : Prop :=
  match j with
  | 0 => x = .agg (cb (seed)).toArray
  | 1 => x = .int .i64 leaf
  | 2 => x = .agg (cb (d)).toArray
  | 3 => x = .agg (cb (Z)).toArray
  | 4 => x = .agg (cb (seed)).toArray
  | 5 => x = .int .i64 leaf
  | 6 => x = .agg (cb (e)).toArray
  | 7 => x = .agg (cb (Z2)).toArray
  | _ => True
def tl6 (ga : Nat) (leaf : Int) (k v : Nat) (seed X1 X0 Y1 : List UInt8) (j : Nat) (x : Value) (w : World) : Prop :=
  match j with
  | 0 => x = .int .i64 (k : Int)
  | 1 => x = .pointer (some ⟨ga, 0, none⟩)
  | 2 => x = .pointer (some ⟨ga, 32 * k, none⟩)
  | 3 => x = .agg (cb (X1)).toArray
  | 4 => x = .agg (cb (seed)).toArray
  | 5 => x = .int .i64 leaf
  | 6 => x = .int .i64 (k : Int)
  | 7 => x = .int .i64 (v : Int)
  | 8 => x = .agg (cb (X1)).toArray
  | 9 => x = .bool false
  | 10 => x = .bool false
  | 11 => x = .int .i64 (k : Int)
  | 12 => x = .pointer (some ⟨ga, 8192, none⟩)
  | 13 => x = .pointer (some ⟨ga, 8192 + 32 * k, none⟩)
  | 14 => x = .agg (cb (Y1)).toArray
  | 15 => x = .agg (cb (seed)).toArray
  | 16 => x = .int .i64 leaf
  | 17 => x = .int .i64 (k : Int)
  | 18 => x = .int .i64 (v : Int)
  | 19 => x = .int .i64 (1 - (v : Int))
  | 20 => x = .agg (cb (X0)).toArray
  | 21 => x = .agg (cb (Y1)).toArray
  | 22 => x = .bool false
  | _ => True
theorem tl6_stab (ga : Nat) (leaf : Int) (k v : Nat) (seed X1 X0 Y1 : List UInt8) : ∀ j x w w', Below w.heap.size w w' → tl6 ga leaf k v seed X1 X0 Y1 j x w → tl6 ga leaf k v seed X1 X0 Y1 j x w' := fun _ _ _ _ _ h => h
def tl9s (ga gb k : Nat) (X1 X0 Y1 Y0 : List UInt8) (j : Nat) (x : Value) (w : World) : Prop :=
  match j with
  | 0 => x = .bool true
  | 1 => x = .bool true
  | 2 => x = .int .i64 (k : Int)
  | 3 => x = .pointer (some ⟨ga, 0, none⟩)
  | 4 => x = .pointer (some ⟨ga, 32 * k, none⟩)
  | 5 => x = .agg (cb (X1)).toArray
  | 6 => x = .int .i64 (k : Int)
  | 7 => x = .pointer (some ⟨gb, 0, none⟩)
  | 8 => x = .pointer (some ⟨gb, 32 * k, none⟩)
  | 9 => x = .agg (cb (X1)).toArray
  | 10 => x = .bool false
  | 11 => x = .bool false
  | 12 => x = .int .i64 (k : Int)
  | 13 => x = .pointer (some ⟨ga, 8192, none⟩)
  | 14 => x = .pointer (some ⟨ga, 8192 + 32 * k, none⟩)
  | 15 => x = .agg (cb (Y1)).toArray
  | 16 => x = .int .i64 (k : Int)
  | 17 => x = .pointer (some ⟨gb, 8192, none⟩)
  | 18 => x = .pointer (some ⟨gb, 8192 + 32 * k, none⟩)
  | 19 => x = .agg (cb (Y1)).toArray
  | 20 => x = .bool false
  | 21 => x = .bool false
  | 22 => x = .bool false
  | 23 => x = .bool false
  | 24 => x = .bool true
  | 25 => x = .bool false
  | 26 => x = .bool false
  | 27 => x = undef
  | 28 => x = undef
  | 29 => x = undef
  | 30 => x = undef
  | 31 => x = undef
  | 32 => x = undef
  | 33 => x = undef
  | 34 => x = undef
  | 35 => x = undef
  | 36 => x = undef
  | 37 => x = undef
  | 38 => x = undef
  | 39 => x = undef
  | 40 => x = undef
  | 41 => x = undef
  | 42 => x = undef
  | 43 => x = undef
  | 44 => x = undef
  | 45 => x = undef
  | 46 => x = undef
  | 47 => x = undef
  | 48 => x = undef
  | 49 => x = .bool false
  | _ => True
theorem tl9s_stab (ga gb k : Nat) (X1 X0 Y1 Y0 : List UInt8) : ∀ j x w w', Below w.heap.size w w' → tl9s ga gb k X1 X0 Y1 Y0 j x w → tl9s ga gb k X1 X0 Y1 Y0 j x w' := fun _ _ _ _ _ h => h
def tl9u (ga gb k : Nat) (X1 X0 Y1 Y0 : List UInt8) (j : Nat) (x : Value) (w : World) : Prop :=
  match j with
  | 0 => x = .bool false
  | 1 => x = .bool false
  | 2 => x = undef
  | 3 => x = undef
  | 4 => x = undef
  | 5 => x = undef
  | 6 => x = undef
  | 7 => x = undef
  | 8 => x = undef
  | 9 => x = undef
  | 10 => x = undef
  | 11 => x = undef
  | 12 => x = undef
  | 13 => x = undef
  | 14 => x = undef
  | 15 => x = undef
  | 16 => x = undef
  | 17 => x = undef
  | 18 => x = undef
  | 19 => x = undef
  | 20 => x = undef
  | 21 => x = undef
  | 22 => x = .bool false
  | 23 => x = .bool false
  | 24 => x = .bool false
  | 25 => x = .bool true
  | 26 => x = .bool true
  | 27 => x = .int .i64 (k : Int)
  | 28 => x = .pointer (some ⟨ga, 8192, none⟩)
  | 29 => x = .pointer (some ⟨ga, 8192 + 32 * k, none⟩)
  | 30 => x = .agg (cb (Y1)).toArray
  | 31 => x = .int .i64 (k : Int)
  | 32 => x = .pointer (some ⟨gb, 0, none⟩)
  | 33 => x = .pointer (some ⟨gb, 32 * k, none⟩)
  | 34 => x = .agg (cb (X0)).toArray
  | 35 => x = .agg (cb (Y1)).toArray
  | 36 => x = .bool false
  | 37 => x = .bool false
  | 38 => x = .int .i64 (k : Int)
  | 39 => x = .pointer (some ⟨gb, 8192, none⟩)
  | 40 => x = .pointer (some ⟨gb, 8192 + 32 * k, none⟩)
  | 41 => x = .agg (cb (Y0)).toArray
  | 42 => x = .int .i64 (k : Int)
  | 43 => x = .pointer (some ⟨ga, 0, none⟩)
  | 44 => x = .pointer (some ⟨ga, 32 * k, none⟩)
  | 45 => x = .agg (cb (X1)).toArray
  | 46 => x = .agg (cb (Y0)).toArray
  | 47 => x = .bool false
  | 48 => x = .bool false
  | 49 => x = .bool false
  | _ => True
theorem tl9u_stab (ga gb k : Nat) (X1 X0 Y1 Y0 : List UInt8) : ∀ j x w w', Below w.heap.size w w' → tl9u ga gb k X1 X0 Y1 Y0 j x w → tl9u ga gb k X1 X0 Y1 Y0 j x w' := fun _ _ _ _ _ h => h

def zer16 : List UInt8 := List.replicate 16384 0
theorem zer16_len : zer16.length = 16384 := List.length_replicate
def pickZ (b : Bool) (x : List UInt8) : List UInt8 := match b with
  | true => x
  | false => zer16
theorem neq_sec (l : List UInt8) (h : l.length = 32) (w : World) : (binOp .neq 31 (.agg (cb l).toArray) (.agg (cb l).toArray)).run Try.prog w = .ok (.bool false) w := by
  have h1 := run_equalIn_ints (P := Try.prog) 9998 31 5 .u8 32 Try.underlying31 Try.underlying5 (fun w => by kernel_rfl) (l.map fun c => (c.toNat : Int)) (l.map fun c => (c.toNat : Int)) (by simpa using h) (by simpa using h) w
  rw [show (l.map fun c => (c.toNat : Int)).map (Value.int .u8) = cb l from by simp [cb]] at h1
  rw [run_neq_struct, show (10000 : Nat) = 9998 + 1 + 1 from rfl, h1]
  simp
theorem sees_of {w : World} {B g off k : Nat} {L X : List UInt8} (h : Sees w B (some ⟨g, 0, none⟩) (cb L)) (ho : off = 32 * k) (hc : chunk L k = X) : Sees w B (some ⟨g, off, none⟩) (cb X) := by
  rw [← hc]
  exact sees_chunk h k ho
section
variable {P : Program} {ops : Array Oper} {Q : Exit → Act → World → Prop} {pr : Nat → Value → World → Prop} {i : Nat} {o : Oper} {a : Act} {w : World}
theorem stepOk_off (hw : Region.wanted o (yielded ops a.tmps) = false) (hp : pr i undef w) : StepOk P ops Q pr i o a w := by
  unfold StepOk
  rw [if_neg (by rw [hw]; decide)]
  exact hp
theorem wanted_off {j : Nat} {b c : Bool} {t : Tmp} (hg : o.guard = some (j, b)) (ht : ((ops[j]?).bind (·.dst)) = some t) (hv : a.tmps[t]? = some (.bool c)) (hc : (c == b) = false) : Region.wanted o (yielded ops a.tmps) = false := by
  cases b <;> cases c <;> simp_all [Region.wanted, yielded]
theorem wanted_un {j : Nat} {b : Bool} {t : Tmp} (hg : o.guard = some (j, b)) (ht : ((ops[j]?).bind (·.dst)) = some t) (hv : a.tmps[t]? = some undef) : Region.wanted o (yielded ops a.tmps) = false := by
  simp [Region.wanted, hg, yielded, ht, hv, undef]
end
def tlJ (w : World) (x y : List UInt8) (listed : Array Bool) (a : Act) (W : World) : Prop :=
  Below w.heap.size w W ∧
  (listed.getD 8 false = true → ∃ g, a.tmps[11]? = some (.pointer (some ⟨g, 0, none⟩)) ∧ Fresh w.heap.size 100 W (some ⟨g, 0, none⟩) 16384 16384 (cb (pickZ (listed.getD 10 false) x)) ∧ (listed.getD 9 false = true → a.tmps[12]? ≠ some (.pointer (some ⟨g, 0, none⟩)))) ∧
  (listed.getD 9 false = true → ∃ g, a.tmps[12]? = some (.pointer (some ⟨g, 0, none⟩)) ∧ Fresh w.heap.size 100 W (some ⟨g, 0, none⟩) 16384 16384 (cb (pickZ (listed.getD 11 false) y))) ∧
  (listed.getD 10 false = true → listed.getD 8 false = true) ∧ (listed.getD 11 false = true → listed.getD 9 false = true)
section
variable {w W W' : World} {x y : List UInt8} {listed : Array Bool} {a : Act}
theorem tlJ.below (h : tlJ w x y listed a W) (z : Below W.heap.size W W') : tlJ w x y listed a W' := by
  obtain ⟨h1, h5, h6, h7⟩ := h
  refine ⟨Below.then_ h1 z, fun e => ?_, fun e => ?_, h7⟩
  · obtain ⟨g, e1, e2, e3⟩ := h5 e
    exact ⟨g, e1, e2.below z, e3⟩
  · obtain ⟨g, e1, e2⟩ := h6 e
    exact ⟨g, e1, e2.below z⟩
theorem tlJ.other (h : tlJ w x y listed a W) (i t : Nat) (v : Value) (hi : i < 8) (ht : 13 ≤ t) : tlJ w x y (listed.setIfInBounds i true) (a.put (some t) v) W := by
  obtain ⟨h1, h5, h6, h7⟩ := h
  refine ⟨h1, ?_, ?_, by rw [getD_set_ne _ _ _ (by omega), getD_set_ne _ _ _ (by omega), getD_set_ne _ _ _ (by omega), getD_set_ne _ _ _ (by omega)]; exact h7⟩
  · rw [getD_set_ne _ _ _ (by omega), getD_set_ne _ _ _ (by omega), getD_set_ne _ _ _ (by omega), put_ne _ _ _ _ (by omega), put_ne _ _ _ _ (by omega)]
    exact h5
  · rw [getD_set_ne _ _ _ (by omega), getD_set_ne _ _ _ (by omega), put_ne _ _ _ _ (by omega)]
    exact h6
theorem tlJ.made11 (h : tlJ w x y listed a W) (hs : 12 < a.tmps.size) (h1 : listed.getD 8 true = false) (hn : Fresh w.heap.size 100 W' (some ⟨W.heap.size, 0, none⟩) 16384 16384 (cb zer16)) (z : Below W.heap.size W W') : tlJ w x y (listed.setIfInBounds 8 true) (a.put (some 11) (.pointer (some ⟨W.heap.size, 0, none⟩))) W' := by
  obtain ⟨l4, f4⟩ := size_of_getD h1
  obtain ⟨k1, k5, k6, k7, k8⟩ := h.below z
  have k6' := h.2.2.1
  have h6f : listed.getD 10 false = false := by
    cases e : listed.getD 10 false
    · rfl
    · rw [k7 e] at f4; cases f4
  refine ⟨k1, fun _ => ⟨_, put_eq _ _ _ (by omega), ?_, ?_⟩, ?_, fun _ => getD_set_eq _ _ l4, by rw [getD_set_ne _ _ _ (by omega), getD_set_ne _ _ _ (by omega)]; exact k8⟩
  · rw [getD_set_ne _ _ _ (by omega), h6f]
    exact hn
  · rw [getD_set_ne _ _ _ (by omega), put_ne _ _ _ _ (by omega)]
    intro e5 e9
    obtain ⟨g, q1, q2⟩ := k6' e5
    rw [q1] at e9
    have := q2.lt_size
    simp at e9
  · rw [getD_set_ne _ _ _ (by omega), getD_set_ne _ _ _ (by omega), put_ne _ _ _ _ (by omega)]
    exact k6
theorem tlJ.made12 (h : tlJ w x y listed a W) (hs : 12 < a.tmps.size) (h1 : listed.getD 9 true = false) (hn : Fresh w.heap.size 100 W' (some ⟨W.heap.size, 0, none⟩) 16384 16384 (cb zer16)) (z : Below W.heap.size W W') : tlJ w x y (listed.setIfInBounds 9 true) (a.put (some 12) (.pointer (some ⟨W.heap.size, 0, none⟩))) W' := by
  obtain ⟨l4, f4⟩ := size_of_getD h1
  obtain ⟨k1, k5, k6, k7, k8⟩ := h.below z
  have k5' := h.2.1
  have h7f : listed.getD 11 false = false := by
    cases e : listed.getD 11 false
    · rfl
    · rw [k8 e] at f4; cases f4
  refine ⟨k1, ?_, fun _ => ⟨_, put_eq _ _ _ (by omega), ?_⟩, by rw [getD_set_ne _ _ _ (by omega), getD_set_ne _ _ _ (by omega)]; exact k7, fun _ => getD_set_eq _ _ l4⟩
  · rw [getD_set_ne _ _ _ (by omega), getD_set_ne _ _ _ (by omega), put_ne _ _ _ _ (by omega)]
    intro e4
    obtain ⟨g, q1, q2, q3⟩ := k5 e4
    obtain ⟨g', r1, r2, r3⟩ := k5' e4
    refine ⟨g, q1, q2, fun _ => ?_⟩
    rw [put_eq _ _ _ (by omega)]
    rw [q1] at r1
    have := r2.lt_size
    simp at r1 ⊢
    omega
  · rw [getD_set_ne _ _ _ (by omega), h7f]
    exact hn
theorem tlJ.set11 (h : tlJ w x y listed a W) (h1 : listed.getD 10 true = false) (e4 : listed.getD 8 false = true) {g : Nat} (hg : a.tmps[11]? = some (.pointer (some ⟨g, 0, none⟩))) (hx : x.length = 16384) :
    Fresh w.heap.size 100 W (some ⟨g, 0, none⟩) 16384 16384 (cb zer16) ∧ tlJ w x y (listed.setIfInBounds 10 true) a (W.setRow g (splice (cb zer16) 0 (cb x)).toArray) := by
  obtain ⟨l6, f6⟩ := size_of_getD h1
  obtain ⟨k1, k5, k6, k7, k8⟩ := h
  obtain ⟨g', q1, q2, q3⟩ := k5 e4
  obtain rfl : g = g' := by rw [hg] at q1; simpa using q1
  rw [f6] at q2
  have q2' : Fresh w.heap.size 100 W (some ⟨g, 0, none⟩) 16384 16384 (cb zer16) := q2
  have gN := q2'.block.2
  have ho : ∀ k, k ≠ g → (W.setRow g (splice (cb zer16) 0 (cb x)).toArray).heap[k]? = W.heap[k]? := fun k hk => setRow_other W g k _ hk
  have e0 : splice (cb zer16) 0 (cb x) = cb x := splice_zb 16384 x hx
  refine ⟨q2', Below.setRow' k1 (by omega) _, fun _ => ⟨g, hg, ?_, ?_⟩, ?_, ?_, ?_⟩
  · rw [getD_set_eq _ _ l6, e0]
    exact q2'.setRow (ys := cb x) (by rw [List.length_map]; exact hx)
  · rw [getD_set_ne _ _ _ (by omega)]
    exact q3
  · rw [getD_set_ne _ _ _ (by omega), getD_set_ne _ _ _ (by omega)]
    intro e5
    obtain ⟨g9, r1, r2⟩ := k6 e5
    refine ⟨g9, r1, r2.other (fun e => q3 e5 ?_) ho⟩
    rw [r1, e]
  · intro _
    rw [getD_set_ne _ 10 8 (by omega)]
    exact e4
  · rw [getD_set_ne _ _ _ (by omega), getD_set_ne _ _ _ (by omega)]
    exact k8
theorem tlJ.set12 (h : tlJ w x y listed a W) (h1 : listed.getD 11 true = false) (e5 : listed.getD 9 false = true) {g : Nat} (hg : a.tmps[12]? = some (.pointer (some ⟨g, 0, none⟩))) (hx : y.length = 16384) :
    Fresh w.heap.size 100 W (some ⟨g, 0, none⟩) 16384 16384 (cb zer16) ∧ tlJ w x y (listed.setIfInBounds 11 true) a (W.setRow g (splice (cb zer16) 0 (cb y)).toArray) := by
  obtain ⟨l6, f6⟩ := size_of_getD h1
  obtain ⟨k1, k5, k6, k7, k8⟩ := h
  obtain ⟨g', q1, q2⟩ := k6 e5
  obtain rfl : g = g' := by rw [hg] at q1; simpa using q1
  rw [f6] at q2
  have q2' : Fresh w.heap.size 100 W (some ⟨g, 0, none⟩) 16384 16384 (cb zer16) := q2
  have gN := q2'.block.2
  have ho : ∀ k, k ≠ g → (W.setRow g (splice (cb zer16) 0 (cb y)).toArray).heap[k]? = W.heap[k]? := fun k hk => setRow_other W g k _ hk
  have e0 : splice (cb zer16) 0 (cb y) = cb y := splice_zb 16384 y hx
  refine ⟨q2', Below.setRow' k1 (by omega) _, ?_, fun _ => ⟨g, hg, ?_⟩, ?_, ?_⟩
  · rw [getD_set_ne _ _ _ (by omega), getD_set_ne _ _ _ (by omega), getD_set_ne _ _ _ (by omega)]
    intro e4
    obtain ⟨g8, r1, r2, r3⟩ := k5 e4
    refine ⟨g8, r1, r2.other (fun e => r3 e5 ?_) ho, r3⟩
    rw [hg, e]
  · rw [getD_set_eq _ _ l6, e0]
    exact q2'.setRow (ys := cb y) (by rw [List.length_map]; exact hx)
  · rw [getD_set_ne _ _ _ (by omega), getD_set_ne _ _ _ (by omega)]
    exact k7
  · intro _
    rw [getD_set_ne _ 11 9 (by omega)]
    exact e5
end
section
variable {w : World}
set_option maxHeartbeats 8000000 in
set_option maxRecDepth 100000 in
theorem told_walk (first keys : List UInt32) (h8 : first.length = 8) (h64 : keys.length = 64) (seed : List UInt8) (hs : seed.length = 32) (leaf : Int) (hl : leaf ≤ 9223372036854775807) (d : List UInt8) (hd : d.length = 32) (e : List UInt8) (he : e.length = 32) :
    Calls Try.prog 10 #[.agg (cw (first ++ keys)).toArray, .agg (cb seed).toArray, .int .i64 leaf, .agg (cb d).toArray, .agg (cb e).toArray] w fun e w' => e = .returned (.bool true) ∧ Below w.heap.size w w' := by
  have HC : Hid ((cw (first ++ keys)).length = 72) := Lib.hid (by simp [h8, h64])
  have HS := Lib.hid hs
  have HSL := show (cb seed).length = 32 by rw [List.length_map]; exact hs
  have HD := Lib.hid hd
  have HDL := show (cb d).length = 32 by rw [List.length_map]; exact hd
  have HE := Lib.hid he
  have HEL := show (cb e).length = 32 by rw [List.length_map]; exact he
  replace HSL := Lib.hid HSL
  replace HDL := Lib.hid HDL
  replace HEL := Lib.hid HEL
  have HZ0 : Hid (((Try.prog.info? 100).map (·.zero)) = some (some (.agg (cb zer16).toArray))) := Lib.hid (by kernel_rfl)
  obtain ⟨G, hGe⟩ : ∃ G, Dg.tab first keys h8 = G := ⟨_, rfl⟩
  have HG : Hid (∀ w' (g : Nat), Fresh w.heap.size 26 w' (some ⟨g, 0, none⟩) 72 72 (cw (first ++ keys)) → DgAt w' (some ⟨g, 0, none⟩) G) := Lib.hid (fun w' g hF => by rw [← hGe]; exact DgAt.of_tab ⟨h8, h64, hF.sees⟩)
  have hlS := len_signS G seed leaf.toNat d
  have hlO := len_signO G seed leaf.toNat d
  have hlS2 := len_signS G seed leaf.toNat e
  have hlO2 := len_signO G seed leaf.toNat e
  have HSG1 : Hid (∀ w' (T : Option Addr), DgAt w' T G → _) := Lib.hid (fun w' (T : Option Addr) (hG : DgAt w' T G) => Sign_any hG seed hs leaf hl d hd)
  have HSG2 : Hid (∀ w' (T : Option Addr), DgAt w' T G → _) := Lib.hid (fun w' (T : Option Addr) (hG : DgAt w' T G) => Sign_any hG seed hs leaf hl e he)
  have hca : ∀ k, k < 256 → chunk (signS G seed leaf.toNat d ++ signO G seed leaf.toNat d) k = secF G seed leaf.toNat k (bitF d k) ∧ chunk (signS G seed leaf.toNat d ++ signO G seed leaf.toNat d) (256 + k) = halfF G (secF G seed leaf.toNat k (1 - bitF d k)) := fun k hk => by
    rw [chunk_lft _ _ hlS k hk, chunk_rgt _ _ hlS k, signS, chunk_ofChunks (signSF G seed leaf.toNat d) 256 (fun j _ => len_secF _ _ _ _ _) k hk, signO, chunk_ofChunks (signOF G seed leaf.toNat d) 256 (fun j _ => len_halfF _ _) k hk]
    exact ⟨rfl, rfl⟩
  have hcb : ∀ k, k < 256 → chunk (signS G seed leaf.toNat e ++ signO G seed leaf.toNat e) k = secF G seed leaf.toNat k (bitF e k) ∧ chunk (signS G seed leaf.toNat e ++ signO G seed leaf.toNat e) (256 + k) = halfF G (secF G seed leaf.toNat k (1 - bitF e k)) := fun k hk => by
    rw [chunk_lft _ _ hlS2 k hk, chunk_rgt _ _ hlS2 k, signS, chunk_ofChunks (signSF G seed leaf.toNat e) 256 (fun j _ => len_secF _ _ _ _ _) k hk, signO, chunk_ofChunks (signOF G seed leaf.toNat e) 256 (fun j _ => len_halfF _ _) k hk]
    exact ⟨rfl, rfl⟩
  have HZ16 : Hid ((signS G seed leaf.toNat d ++ signO G seed leaf.toNat d).length = 16384) := Lib.hid (by rw [List.length_append, hlS, hlO])
  have HZ162 : Hid ((signS G seed leaf.toNat e ++ signO G seed leaf.toNat e).length = 16384) := Lib.hid (by rw [List.length_append, hlS2, hlO2])
  obtain ⟨Z, hZ⟩ : ∃ Z, signS G seed leaf.toNat d ++ signO G seed leaf.toNat d = Z := ⟨_, rfl⟩
  obtain ⟨Z2, hZ2⟩ : ∃ Z, signS G seed leaf.toNat e ++ signO G seed leaf.toNat e = Z := ⟨_, rfl⟩
  rw [hZ] at HSG1 hca HZ16
  rw [hZ2] at HSG2 hcb HZ162
  have HCA := Lib.hid hca
  have HCB := Lib.hid hcb
  clear h8 h64 hs hd he hGe hlS hlO hlS2 hlO2 hZ hZ2 hca hcb
  go_enter Try.func10, Try.ntmps10
  go_upto_region 1 with (first
    | (with_reducible refine wpList_box (o := ⟨some 5, _, _, _, _, _⟩) rfl (.tmp 0) 26 rfl (cw (first ++ keys)) rfl 72 HC.out (by decide) ?_; intro gt w1 hgt hFt hBt)
    | (with_reducible refine wpList_box (o := ⟨some 6, _, _, _, _, _⟩) rfl (.tmp 1) 31 rfl (cb seed) rfl 32 HSL.out (by decide) ?_; intro gs w2 hgs hFs hBs)
    | (with_reducible refine wpList_box (o := ⟨some 8, _, _, _, _, _⟩) rfl (.tmp 3) 32 rfl (cb d) rfl 32 HDL.out (by decide) ?_; intro gd w3 hgd hFd hBd)
    | (with_reducible refine wpList_box (o := ⟨some 9, _, _, _, _, _⟩) rfl (.tmp 4) 32 rfl (cb e) rfl 32 HEL.out (by decide) ?_; intro ge w4 hge hFe hBe))
  have z1 := hBt.size
  have z2 := hBs.size
  have z3 := hBd.size
  have z4 := hBe.size
  have hB := Below.then_ (Below.then_ (Below.then_ hBt hBs) hBd) hBe
  have ft := ((hFt.below hBs).below hBd).below hBe
  have fs := ((hFs.below hBd).below hBe).lower (base' := w.heap.size) (by omega)
  have fd := (hFd.below hBe).lower (base' := w.heap.size) (by omega)
  have fe := hFe.lower (base' := w.heap.size) (by omega)
  have zz : w.heap.size ≤ w4.heap.size := by omega
  clear hFt hFs hFd hFe hBt hBs hBd hBe z1 z2 z3 z4 hgt hgs hgd hge
  refine region_L (tl1 leaf seed d e Z Z2) (tlJ w4 Z Z2) (by kernel_rfl) (by kernel_rfl) ⟨⟨rfl, rfl, rfl, Nat.le_refl _, fun _ _ => rfl⟩, (by intro h; rw [getD_replicate_false] at h; cases h), (by intro h; rw [getD_replicate_false] at h; cases h), (by intro h; rw [getD_replicate_false] at h; cases h), (by intro h; rw [getD_replicate_false] at h; cases h)⟩ ?_ ?_
  · refine ⟨?_, ?_, ?_, ?_, ?_, ?_, ?_, ?_, ?_, ?_, ?_, ?_, trivial⟩
    all_goals intro listed a1 w' hk1 h1 hd1
    · exact stepL_value rfl (run_load_agg (.tmp 6) 31 rfl (hk1.ev_old 6 (by kernel_rfl)) (cb seed) 32 HSL.out (by kernel_rfl) (fs.below hk1.inv.1).sees) rfl (hk1.inv.other 0 16 _ (by omega) (by omega))
    · have f2 : a1.eval (.tmp 2) = .int .i64 leaf := hk1.ev_old 2 (by kernel_rfl)
      have g2 : a1.tmps[2]?.getD undef = .int .i64 leaf := by simpa [Act.eval] using f2
      exact stepL_value rfl (v := .int .i64 leaf) (by go_simp) rfl (hk1.inv.other 1 17 _ (by omega) (by omega))
    · exact stepL_value rfl (run_load_agg (.tmp 8) 32 rfl (hk1.ev_old 8 (by kernel_rfl)) (cb d) 32 HDL.out (by kernel_rfl) (fd.below hk1.inv.1).sees) rfl (hk1.inv.other 2 18 _ (by omega) (by omega))
    · obtain ⟨v0, e0, q0, rfl, l0⟩ := hk1.ev_new hd1 0 16 (by kernel_rfl) rfl
      obtain ⟨v1, e1, q1, rfl, l1⟩ := hk1.ev_new hd1 1 17 (by kernel_rfl) rfl
      obtain ⟨v2, e2, q2, rfl, l2⟩ := hk1.ev_new hd1 2 18 (by kernel_rfl) rfl
      have f5 : a1.eval (.tmp 5) = .pointer (some ⟨gt, 0, none⟩) := hk1.ev_old 5 (by kernel_rfl)
      have g5 : a1.tmps[5]?.getD undef = .pointer (some ⟨gt, 0, none⟩) := by simpa [Act.eval] using f5
      refine stepL_enter rfl (f := 57) (args := #[.pointer (some ⟨gt, 0, none⟩), .agg (cb (seed)).toArray, .int .i64 leaf, .agg (cb (d)).toArray]) (by go_simp) ?_
      refine (HSG1.out _ _ (HG.out _ _ (ft.below hk1.inv.1))).mono ?_
      rintro e w5 ⟨rfl, hB5⟩
      exact ⟨_, rfl, rfl, (hk1.inv.below hB5).other 3 19 _ (by omega) (by omega), fun _ _ h => h⟩
    · exact stepL_value rfl (run_load_agg (.tmp 6) 31 rfl (hk1.ev_old 6 (by kernel_rfl)) (cb seed) 32 HSL.out (by kernel_rfl) (fs.below hk1.inv.1).sees) rfl (hk1.inv.other 4 20 _ (by omega) (by omega))
    · have f2 : a1.eval (.tmp 2) = .int .i64 leaf := hk1.ev_old 2 (by kernel_rfl)
      have g2 : a1.tmps[2]?.getD undef = .int .i64 leaf := by simpa [Act.eval] using f2
      exact stepL_value rfl (v := .int .i64 leaf) (by go_simp) rfl (hk1.inv.other 5 21 _ (by omega) (by omega))
    · exact stepL_value rfl (run_load_agg (.tmp 9) 32 rfl (hk1.ev_old 9 (by kernel_rfl)) (cb e) 32 HEL.out (by kernel_rfl) (fe.below hk1.inv.1).sees) rfl (hk1.inv.other 6 22 _ (by omega) (by omega))
    · obtain ⟨v0, e0, q0, rfl, l0⟩ := hk1.ev_new hd1 4 20 (by kernel_rfl) rfl
      obtain ⟨v1, e1, q1, rfl, l1⟩ := hk1.ev_new hd1 5 21 (by kernel_rfl) rfl
      obtain ⟨v2, e2, q2, rfl, l2⟩ := hk1.ev_new hd1 6 22 (by kernel_rfl) rfl
      have f5 : a1.eval (.tmp 5) = .pointer (some ⟨gt, 0, none⟩) := hk1.ev_old 5 (by kernel_rfl)
      have g5 : a1.tmps[5]?.getD undef = .pointer (some ⟨gt, 0, none⟩) := by simpa [Act.eval] using f5
      refine stepL_enter rfl (f := 57) (args := #[.pointer (some ⟨gt, 0, none⟩), .agg (cb (seed)).toArray, .int .i64 leaf, .agg (cb (e)).toArray]) (by go_simp) ?_
      refine (HSG2.out _ _ (HG.out _ _ (ft.below hk1.inv.1))).mono ?_
      rintro e w5 ⟨rfl, hB5⟩
      exact ⟨_, rfl, rfl, (hk1.inv.below hB5).other 7 23 _ (by omega) (by omega), fun _ _ h => h⟩
    · refine stepL_run rfl (v := .pointer (some ⟨w'.heap.size, 0, none⟩)) (w' := w'.alloc (.cells (cb zer16).toArray 100 (0, 0))) ?_ trivial (hk1.inv.made11 (by rw [hk1.size]; exact (show (12 : Nat) < 112 by decide)) h1 ((Fresh.new w' 100 (cb zer16) 16384 (len_zb 16384) (by decide)).lower hk1.inv.1.size) (below_alloc w' _)) (fun _ _ h => h)
      · simp only [execOp]
        rw [Sem.run_bind, run_alloc_zero 100 (cb zer16) HZ0.out]
        rfl
    · refine stepL_run rfl (v := .pointer (some ⟨w'.heap.size, 0, none⟩)) (w' := w'.alloc (.cells (cb zer16).toArray 100 (0, 0))) ?_ trivial (hk1.inv.made12 (by rw [hk1.size]; exact (show (12 : Nat) < 112 by decide)) h1 ((Fresh.new w' 100 (cb zer16) 16384 (len_zb 16384) (by decide)).lower hk1.inv.1.size) (below_alloc w' _)) (fun _ _ h => h)
      · simp only [execOp]
        rw [Sem.run_bind, run_alloc_zero 100 (cb zer16) HZ0.out]
        rfl
    · obtain ⟨v1, e1, q1, rfl, l1⟩ := hk1.ev_new hd1 3 19 (by kernel_rfl) rfl
      obtain ⟨v4, e4, q4, _, l4⟩ := hk1.ev_new hd1 8 11 (by kernel_rfl) rfl
      obtain ⟨g, hg, _⟩ := hk1.inv.2.1 l4
      obtain ⟨hz, hJ⟩ := hk1.inv.set11 h1 l4 hg HZ16.out
      have f2 : a1.eval (.tmp 11) = .pointer (some ⟨g, 0, none⟩) := by rw [e4]; rw [q4] at hg; simpa using hg
      exact stepL_skip rfl rfl (run_store_agg (.tmp 11) (.tmp 19) 100 rfl f2 (cb Z) e1 (by rw [show (cb Z).length = 16384 from by rw [List.length_map]; exact HZ16.out]; kernel_rfl) hz (by rw [List.length_map, HZ16.out]; omega) (cb_one _)) trivial hJ (fun _ _ h => h)
    · obtain ⟨v1, e1, q1, rfl, l1⟩ := hk1.ev_new hd1 7 23 (by kernel_rfl) rfl
      obtain ⟨v4, e4, q4, _, l4⟩ := hk1.ev_new hd1 9 12 (by kernel_rfl) rfl
      obtain ⟨g, hg, _⟩ := hk1.inv.2.2.1 l4
      obtain ⟨hz, hJ⟩ := hk1.inv.set12 h1 l4 hg HZ162.out
      have f2 : a1.eval (.tmp 12) = .pointer (some ⟨g, 0, none⟩) := by rw [e4]; rw [q4] at hg; simpa using hg
      exact stepL_skip rfl rfl (run_store_agg (.tmp 12) (.tmp 23) 100 rfl f2 (cb Z2) e1 (by rw [show (cb Z2).length = 16384 from by rw [List.length_map]; exact HZ162.out]; kernel_rfl) hz (by rw [List.length_map, HZ162.out]; omega) (cb_one _)) trivial hJ (fun _ _ h => h)
  · intro listed a1 w6 hJ hall hp
    obtain ⟨x0, p0, x1, p1, x2, p2, x3, p3, x4, p4, x5, p5, x6, p6, x7, p7, x8, p8, x9, p9, rfl⟩ := hp
    simp only [tl1] at p0 p1 p2 p3 p4 p5 p6 p7 p8 p9
    subst p0 p1 p2 p3 p4 p5 p6 p7
    obtain ⟨k1, k5, k6, -⟩ := hJ
    obtain ⟨ga, a8, fa, hne⟩ := k5 (hall 8 (by decide))
    obtain ⟨gb, a9, fb⟩ := k6 (hall 9 (by decide))
    rw [hall 10 (by decide)] at fa
    rw [hall 11 (by decide)] at fb
    have hne := hne (hall 9 (by decide))
    simp only [Act.put, List.setIfInBounds_toArray, List.set_cons_succ, List.set_cons_zero] at a8 a9 hne ⊢
    obtain rfl : x8 = .pointer (some ⟨ga, 0, none⟩) := by simpa using a8
    obtain rfl : x9 = .pointer (some ⟨gb, 0, none⟩) := by simpa using a9
    replace fa : Fresh w4.heap.size 100 w6 (some ⟨ga, 0, none⟩) 16384 16384 (cb Z) := fa
    replace fb : Fresh w4.heap.size 100 w6 (some ⟨gb, 0, none⟩) 16384 16384 (cb Z2) := fb
    have ft6 := ft.below k1
    have fs6 := fs.below k1
    have fd6 := fd.below k1
    have fe6 := fe.below k1
    have hB6 := Below.then_ hB k1
    have fa6 := fa.lower zz
    have fb6 := fb.lower zz
    clear hne p8 p9 a8 a9 hall k5 k6 k1 ft fs fd fe hB fa fb zz HSG1 HSG2 HZ16 HZ162
    go_wp2_with fail
    go_loopw [13] (fun i wr => ∃ k : Nat, k ≤ 256 ∧ i = .int .i64 (k : Int) ∧ Fresh w.heap.size 26 wr (some ⟨gt, 0, none⟩) 72 72 (cw (first ++ keys)) ∧ Fresh w.heap.size 31 wr (some ⟨gs, 0, none⟩) 32 32 (cb seed) ∧ Fresh w.heap.size 32 wr (some ⟨gd, 0, none⟩) 32 32 (cb d) ∧ Fresh w.heap.size 32 wr (some ⟨ge, 0, none⟩) 32 32 (cb e) ∧ Fresh w.heap.size 100 wr (some ⟨ga, 0, none⟩) 16384 16384 (cb Z) ∧ Fresh w.heap.size 100 wr (some ⟨gb, 0, none⟩) 16384 16384 (cb Z2) ∧ Below w.heap.size w wr) (fun i _ => 256 - (intOf i).toNat)
    case atStart => exact ⟨0, by omega, rfl, ft6, fs6, fd6, fe6, fa6, fb6, hB6⟩
    case round =>
      clear ft6 fs6 fd6 fe6 fa6 fb6 hB6
      obtain ⟨k, hk, rfl, ft, fs, fd, fe, fa, fb, hB⟩ := hrel
      by_cases hlt : k < 256
      · have hbit := Bit_any (w := wr) d (k : Int) HD.out
        rw [bitI_nat d k hlt] at hbit
        have hbite := fun w' => Bit_any (w := w') e (k : Int) HE.out
        rw [bitI_nat e k hlt] at hbite
        have hv2 := bitF_lt d k
        have hu2 := bitF_lt e k
        have hc1 := (HCA.out k hlt).1
        have hc2 := (HCA.out k hlt).2
        have hd1' := (HCB.out k hlt).1
        have hd2' := (HCB.out k hlt).2
        obtain ⟨v, hv⟩ : ∃ v, bitF d k = v := ⟨_, rfl⟩
        obtain ⟨u, hu⟩ : ∃ u, bitF e k = u := ⟨_, rfl⟩
        rw [hv] at hbit hv2 hc1 hc2
        rw [hu] at hbite hu2 hd1' hd2'
        have hsv := fun w' (T : Option Addr) (hG : DgAt w' T G) => Secret_any hG seed HS.out leaf (k : Int) (v : Int) hl (by omega) (by omega)
        have hso := fun w' (T : Option Addr) (hG : DgAt w' T G) => Secret_any hG seed HS.out leaf (k : Int) (1 - (v : Int)) hl (by omega) (by omega)
        rw [show ((k : Nat) : Int).toNat = k from rfl, show ((v : Nat) : Int).toNat = v from rfl] at hsv
        rw [show ((k : Nat) : Int).toNat = k from rfl, show (1 - (v : Int)).toNat = 1 - v from by omega] at hso
        have hx1l := len_secF G seed leaf.toNat k v
        have hx0l := len_secF G seed leaf.toNat k (1 - v)
        have hcase : (u = v ∧ secF G seed leaf.toNat k u = secF G seed leaf.toNat k v ∧ secF G seed leaf.toNat k (1 - u) = secF G seed leaf.toNat k (1 - v)) ∨ (u ≠ v ∧ secF G seed leaf.toNat k u = secF G seed leaf.toNat k (1 - v) ∧ secF G seed leaf.toNat k (1 - u) = secF G seed leaf.toNat k v) := by
          rcases (by omega : u = v ∨ u = 1 - v ∧ v = 1 - u ∧ u ≠ v) with h | ⟨h, h', h''⟩
          · exact .inl ⟨h, by rw [h], by rw [h]⟩
          · exact .inr ⟨h'', by rw [h], by rw [← h']⟩
        obtain ⟨X1, hX1⟩ : ∃ X, secF G seed leaf.toNat k v = X := ⟨_, rfl⟩
        obtain ⟨X0, hX0⟩ : ∃ X, secF G seed leaf.toNat k (1 - v) = X := ⟨_, rfl⟩
        rw [hX1] at hsv hx1l hc1 hcase
        rw [hX0] at hso hx0l hc2 hcase
        have hho := fun w' (T : Option Addr) (hG : DgAt w' T G) => Half_any hG X0 hx0l
        have hhi := fun w' (T : Option Addr) (hG : DgAt w' T G) => Half_any hG X1 hx1l
        have hy1l := len_halfF G X0
        have hy0l := len_halfF G X1
        have hd3 : (u = v ∧ chunk Z2 k = X1 ∧ chunk Z2 (256 + k) = halfF G X0) ∨ (u ≠ v ∧ chunk Z2 k = X0 ∧ chunk Z2 (256 + k) = halfF G X1) := by
          rcases hcase with ⟨h, h1, h2⟩ | ⟨h, h1, h2⟩
          · exact .inl ⟨h, by rw [hd1', h1], by rw [hd2', h2]⟩
          · exact .inr ⟨h, by rw [hd1', h1], by rw [hd2', h2]⟩
        obtain ⟨Y1, hY1⟩ : ∃ Y, halfF G X0 = Y := ⟨_, rfl⟩
        obtain ⟨Y0, hY0⟩ : ∃ Y, halfF G X1 = Y := ⟨_, rfl⟩
        rw [hY1] at hho hy1l hc2 hd3
        rw [hY0] at hhi hy0l hd3
        have HC1 := Lib.hid hc1
        have HC2 := Lib.hid hc2
        have HSV := Lib.hid hsv
        have HSO := Lib.hid hso
        have HHO := Lib.hid hho
        have HHI := Lib.hid hhi
        have HX1L := Lib.hid hx1l
        have HX0L := Lib.hid hx0l
        have HY1L := Lib.hid hy1l
        have HY0L := Lib.hid hy0l
        have HX1C : Hid ((cb X1).length = 32) := Lib.hid (by rw [List.length_map]; exact hx1l)
        have HX0C : Hid ((cb X0).length = 32) := Lib.hid (by rw [List.length_map]; exact hx0l)
        have HY1C : Hid ((cb Y1).length = 32) := Lib.hid (by rw [List.length_map]; exact hy1l)
        have HY0C : Hid ((cb Y0).length = 32) := Lib.hid (by rw [List.length_map]; exact hy0l)
        have HD3 := Lib.hid hd3
        have HBE := Lib.hid hbite
        clear hv hu hc1 hc2 hd1' hd2' hsv hso hho hhi hx1l hx0l hy1l hy0l hcase hX1 hX0 hY1 hY0 hd3 hbite
        go_upto_region 6 with (first
          | (with_reducible refine wpList_load (o := ⟨some 28, _, _, _, _, _⟩) rfl (.tmp 8) 32 rfl gd 0 _ rfl (cb d) 32 HDL.out (by kernel_rfl) fd.sees ?_)
          | (go_at_call 52; refine hbit.mono ?_; rintro e w7 ⟨rfl, hB7⟩))
        have hBw := Below.then_ hB hB7
        replace ft := ft.below hB7
        replace fs := fs.below hB7
        replace fd := fd.below hB7
        replace fe := fe.below hB7
        replace fa := fa.below hB7
        replace fb := fb.below hB7
        clear hB hB7 hbit
        have hwv : IntKind.i64.wrap (1 - (v : Int)) = 1 - (v : Int) := IntWalk.i64_in _ (by omega)
        have hwv2 : wrap64 (1 - (v : Int)) = 1 - (v : Int) := by unfold wrap64; omega
        refine region_all_tail 23 (tl6 ga leaf k v seed X1 X0 Y1) (by kernel_rfl) (by kernel_rfl) (by kernel_rfl) (tl6_stab _ _ _ _ _ _ _ _) ?_ ?_
        · intro w0 hb0
          have hz0 := hb0.size
          simp only [List.take_succ_cons, List.take_zero]
          refine ⟨?_, ?_, ?_, ?_, ?_, ?_, ?_, ?_, ?_, ?_, ?_, ?_, ?_, ?_, ?_, ?_, ?_, ?_, ?_, ?_, ?_, ?_, ?_, trivial⟩
          all_goals intro listed a1 w' hk1 hd1
          · have f13_ : a1.eval (.tmp 13) = .int .i64 (k : Int) := hk1.ev_old 13 (by kernel_rfl)
            have g13_ : a1.tmps[13]?.getD undef = .int .i64 (k : Int) := by simpa [Act.eval] using f13_
            exact stepOk_value rfl (v := .int .i64 (k : Int)) (by go_simp) rfl
          · have f11_ : a1.eval (.tmp 11) = .pointer (some ⟨ga, 0, none⟩) := hk1.ev_old 11 (by kernel_rfl)
            have g11_ : a1.tmps[11]?.getD undef = .pointer (some ⟨ga, 0, none⟩) := by simpa [Act.eval] using f11_
            exact stepOk_value rfl (v := .pointer (some ⟨ga, 0, none⟩)) (by go_simp) rfl
          · obtain ⟨y1, e1, q1, rfl⟩ := hk1.ev_new hd1 1 32 (by kernel_rfl) rfl
            obtain ⟨y0, e0, q0, rfl⟩ := hk1.ev_new hd1 0 31 (by kernel_rfl) rfl
            exact stepOk_value rfl (run_ixA (.tmp 32) (.tmp 31) rfl arrSA sizeSE e1 e0 rfl (by omega) (by omega)) rfl
          · obtain ⟨y2, e2, q2, rfl⟩ := hk1.ev_new hd1 2 33 (by kernel_rfl) rfl
            exact stepOk_value rfl (run_load_agg (.tmp 33) 31 rfl e2 (cb X1) 32 HX1C.out (by kernel_rfl) (sees_of (off := 32 * k) (k := k) ((fa.below hb0).below hk1.below).sees rfl HC1.out)) rfl
          · have f6_ : a1.eval (.tmp 6) = .pointer (some ⟨gs, 0, none⟩) := hk1.ev_old 6 (by kernel_rfl)
            have g6_ : a1.tmps[6]?.getD undef = .pointer (some ⟨gs, 0, none⟩) := by simpa [Act.eval] using f6_
            exact stepOk_value rfl (run_load_agg (.tmp 6) 31 rfl (hk1.ev_old 6 (by kernel_rfl)) (cb seed) 32 HSL.out (by kernel_rfl) ((fs.below hb0).below hk1.below).sees) rfl
          · have f2_ : a1.eval (.tmp 2) = .int .i64 leaf := hk1.ev_old 2 (by kernel_rfl)
            have g2_ : a1.tmps[2]?.getD undef = .int .i64 leaf := by simpa [Act.eval] using f2_
            exact stepOk_value rfl (v := .int .i64 leaf) (by go_simp) rfl
          · have f13_ : a1.eval (.tmp 13) = .int .i64 (k : Int) := hk1.ev_old 13 (by kernel_rfl)
            have g13_ : a1.tmps[13]?.getD undef = .int .i64 (k : Int) := by simpa [Act.eval] using f13_
            exact stepOk_value rfl (v := .int .i64 (k : Int)) (by go_simp) rfl
          · have f14_ : a1.eval (.tmp 14) = .int .i64 (v : Int) := hk1.ev_old 14 (by kernel_rfl)
            have g14_ : a1.tmps[14]?.getD undef = .int .i64 (v : Int) := by simpa [Act.eval] using f14_
            exact stepOk_value rfl (v := .int .i64 (v : Int)) (by go_simp) rfl
          · have f5_ : a1.eval (.tmp 5) = .pointer (some ⟨gt, 0, none⟩) := hk1.ev_old 5 (by kernel_rfl)
            have g5_ : a1.tmps[5]?.getD undef = .pointer (some ⟨gt, 0, none⟩) := by simpa [Act.eval] using f5_
            obtain ⟨y4, e4, q4, rfl⟩ := hk1.ev_new hd1 4 35 (by kernel_rfl) rfl
            obtain ⟨y5, e5, q5, rfl⟩ := hk1.ev_new hd1 5 36 (by kernel_rfl) rfl
            obtain ⟨y6, e6, q6, rfl⟩ := hk1.ev_new hd1 6 37 (by kernel_rfl) rfl
            obtain ⟨y7, e7, q7, rfl⟩ := hk1.ev_new hd1 7 38 (by kernel_rfl) rfl
            refine stepOk_enter rfl (f := 54) (args := #[.pointer (some ⟨gt, 0, none⟩), .agg (cb (seed)).toArray, .int .i64 leaf, .int .i64 (k : Int), .int .i64 (v : Int)]) (by go_simp) ?_
            refine (HSV.out _ _ (HG.out _ _ ((ft.below hb0).below hk1.below))).mono ?_
            rintro e w5 ⟨rfl, hB5⟩
            exact ⟨_, rfl, rfl, hB5⟩
          · obtain ⟨y3, e3, q3, rfl⟩ := hk1.ev_new hd1 3 34 (by kernel_rfl) rfl
            obtain ⟨y8, e8, q8, rfl⟩ := hk1.ev_new hd1 8 39 (by kernel_rfl) rfl
            exact stepOk_value rfl (run_neq_of (.tmp 34) (.tmp 39) 31 31 rfl (by kernel_rfl) _ _ e3 e8 (neq_sec X1 HX1L.out w')) rfl
          · obtain ⟨y9, e9, q9, rfl⟩ := hk1.ev_new hd1 9 40 (by kernel_rfl) rfl
            exact stepOk_value rfl (v := .bool false) (by go_simp) rfl
          · obtain ⟨y10, e10, q10, rfl⟩ := hk1.ev_new hd1 10 41 (by kernel_rfl) rfl
            have f13_ : a1.eval (.tmp 13) = .int .i64 (k : Int) := hk1.ev_old 13 (by kernel_rfl)
            have g13_ : a1.tmps[13]?.getD undef = .int .i64 (k : Int) := by simpa [Act.eval] using f13_
            exact stepOk_valG (wanted_at (t := 41) rfl rfl q10) (v := .int .i64 (k : Int)) (by go_simp) rfl
          · obtain ⟨y10, e10, q10, rfl⟩ := hk1.ev_new hd1 10 41 (by kernel_rfl) rfl
            have f11_ : a1.eval (.tmp 11) = .pointer (some ⟨ga, 0, none⟩) := hk1.ev_old 11 (by kernel_rfl)
            have g11_ : a1.tmps[11]?.getD undef = .pointer (some ⟨ga, 0, none⟩) := by simpa [Act.eval] using f11_
            exact stepOk_valG (wanted_at (t := 41) rfl rfl q10) (v := .pointer (some ⟨ga, 8192, none⟩)) (by go_simp) rfl
          · obtain ⟨y10, e10, q10, rfl⟩ := hk1.ev_new hd1 10 41 (by kernel_rfl) rfl
            obtain ⟨y12, e12, q12, rfl⟩ := hk1.ev_new hd1 12 43 (by kernel_rfl) rfl
            obtain ⟨y11, e11, q11, rfl⟩ := hk1.ev_new hd1 11 42 (by kernel_rfl) rfl
            exact stepOk_valG (wanted_at (t := 41) rfl rfl q10) (run_ixA (.tmp 43) (.tmp 42) rfl arrZD sizeD e12 e11 rfl (by omega) (by omega)) rfl
          · obtain ⟨y10, e10, q10, rfl⟩ := hk1.ev_new hd1 10 41 (by kernel_rfl) rfl
            obtain ⟨y13, e13, q13, rfl⟩ := hk1.ev_new hd1 13 44 (by kernel_rfl) rfl
            exact stepOk_valG (wanted_at (t := 41) rfl rfl q10) (run_load_agg (.tmp 44) 32 rfl e13 (cb Y1) 32 HY1C.out (by kernel_rfl) (sees_of (off := 8192 + 32 * k) (k := 256 + k) ((fa.below hb0).below hk1.below).sees (by omega) HC2.out)) rfl
          · obtain ⟨y10, e10, q10, rfl⟩ := hk1.ev_new hd1 10 41 (by kernel_rfl) rfl
            have f6_ : a1.eval (.tmp 6) = .pointer (some ⟨gs, 0, none⟩) := hk1.ev_old 6 (by kernel_rfl)
            have g6_ : a1.tmps[6]?.getD undef = .pointer (some ⟨gs, 0, none⟩) := by simpa [Act.eval] using f6_
            exact stepOk_valG (wanted_at (t := 41) rfl rfl q10) (run_load_agg (.tmp 6) 31 rfl (hk1.ev_old 6 (by kernel_rfl)) (cb seed) 32 HSL.out (by kernel_rfl) ((fs.below hb0).below hk1.below).sees) rfl
          · obtain ⟨y10, e10, q10, rfl⟩ := hk1.ev_new hd1 10 41 (by kernel_rfl) rfl
            have f2_ : a1.eval (.tmp 2) = .int .i64 leaf := hk1.ev_old 2 (by kernel_rfl)
            have g2_ : a1.tmps[2]?.getD undef = .int .i64 leaf := by simpa [Act.eval] using f2_
            exact stepOk_valG (wanted_at (t := 41) rfl rfl q10) (v := .int .i64 leaf) (by go_simp) rfl
          · obtain ⟨y10, e10, q10, rfl⟩ := hk1.ev_new hd1 10 41 (by kernel_rfl) rfl
            have f13_ : a1.eval (.tmp 13) = .int .i64 (k : Int) := hk1.ev_old 13 (by kernel_rfl)
            have g13_ : a1.tmps[13]?.getD undef = .int .i64 (k : Int) := by simpa [Act.eval] using f13_
            exact stepOk_valG (wanted_at (t := 41) rfl rfl q10) (v := .int .i64 (k : Int)) (by go_simp) rfl
          · obtain ⟨y10, e10, q10, rfl⟩ := hk1.ev_new hd1 10 41 (by kernel_rfl) rfl
            have f14_ : a1.eval (.tmp 14) = .int .i64 (v : Int) := hk1.ev_old 14 (by kernel_rfl)
            have g14_ : a1.tmps[14]?.getD undef = .int .i64 (v : Int) := by simpa [Act.eval] using f14_
            exact stepOk_valG (wanted_at (t := 41) rfl rfl q10) (v := .int .i64 (v : Int)) (by go_simp) rfl
          · obtain ⟨y10, e10, q10, rfl⟩ := hk1.ev_new hd1 10 41 (by kernel_rfl) rfl
            obtain ⟨y18, e18, q18, rfl⟩ := hk1.ev_new hd1 18 49 (by kernel_rfl) rfl
            exact stepOk_valG (wanted_at (t := 41) rfl rfl q10) (v := .int .i64 (1 - (v : Int))) (by go_simp) rfl
          · obtain ⟨y10, e10, q10, rfl⟩ := hk1.ev_new hd1 10 41 (by kernel_rfl) rfl
            have f5_ : a1.eval (.tmp 5) = .pointer (some ⟨gt, 0, none⟩) := hk1.ev_old 5 (by kernel_rfl)
            have g5_ : a1.tmps[5]?.getD undef = .pointer (some ⟨gt, 0, none⟩) := by simpa [Act.eval] using f5_
            obtain ⟨y15, e15, q15, rfl⟩ := hk1.ev_new hd1 15 46 (by kernel_rfl) rfl
            obtain ⟨y16, e16, q16, rfl⟩ := hk1.ev_new hd1 16 47 (by kernel_rfl) rfl
            obtain ⟨y17, e17, q17, rfl⟩ := hk1.ev_new hd1 17 48 (by kernel_rfl) rfl
            obtain ⟨y19, e19, q19, rfl⟩ := hk1.ev_new hd1 19 50 (by kernel_rfl) rfl
            refine stepOk_enter (wanted_at (t := 41) rfl rfl q10) (f := 54) (args := #[.pointer (some ⟨gt, 0, none⟩), .agg (cb (seed)).toArray, .int .i64 leaf, .int .i64 (k : Int), .int .i64 (1 - (v : Int))]) (by go_simp) ?_
            refine (HSO.out _ _ (HG.out _ _ ((ft.below hb0).below hk1.below))).mono ?_
            rintro e w5 ⟨rfl, hB5⟩
            exact ⟨_, rfl, rfl, hB5⟩
          · obtain ⟨y10, e10, q10, rfl⟩ := hk1.ev_new hd1 10 41 (by kernel_rfl) rfl
            have f5_ : a1.eval (.tmp 5) = .pointer (some ⟨gt, 0, none⟩) := hk1.ev_old 5 (by kernel_rfl)
            have g5_ : a1.tmps[5]?.getD undef = .pointer (some ⟨gt, 0, none⟩) := by simpa [Act.eval] using f5_
            obtain ⟨y20, e20, q20, rfl⟩ := hk1.ev_new hd1 20 51 (by kernel_rfl) rfl
            refine stepOk_enter (wanted_at (t := 41) rfl rfl q10) (f := 56) (args := #[.pointer (some ⟨gt, 0, none⟩), .agg (cb (X0)).toArray]) (by go_simp) ?_
            refine (HHO.out _ _ (HG.out _ _ ((ft.below hb0).below hk1.below))).mono ?_
            rintro e w5 ⟨rfl, hB5⟩
            exact ⟨_, rfl, rfl, hB5⟩
          · obtain ⟨y10, e10, q10, rfl⟩ := hk1.ev_new hd1 10 41 (by kernel_rfl) rfl
            obtain ⟨y14, e14, q14, rfl⟩ := hk1.ev_new hd1 14 45 (by kernel_rfl) rfl
            obtain ⟨y21, e21, q21, rfl⟩ := hk1.ev_new hd1 21 52 (by kernel_rfl) rfl
            exact stepOk_valG (wanted_at (t := 41) rfl rfl q10) (run_neq_of (.tmp 45) (.tmp 52) 32 32 rfl (by kernel_rfl) _ _ e14 e21 (neq_digest Y1 HY1L.out w')) rfl
        · intro a1 w8 hb8 hp
          obtain ⟨x0, p0, x1, p1, x2, p2, x3, p3, x4, p4, x5, p5, x6, p6, x7, p7, x8, p8, x9, p9, x10, p10, x11, p11, x12, p12, x13, p13, x14, p14, x15, p15, x16, p16, x17, p17, x18, p18, x19, p19, x20, p20, x21, p21, x22, p22, rfl⟩ := hp
          simp only [tl6] at p0 p1 p2 p3 p4 p5 p6 p7 p8 p9 p10 p11 p12 p13 p14 p15 p16 p17 p18 p19 p20 p21 p22
          subst p0 p1 p2 p3 p4 p5 p6 p7 p8 p9 p10 p11 p12 p13 p14 p15 p16 p17 p18 p19 p20 p21 p22
          simp only [List.drop_succ_cons, List.drop_zero, Act.put, List.setIfInBounds_toArray, List.set_cons_succ, List.set_cons_zero]
          replace hBw := Below.then_ hBw hb8
          replace ft := ft.below hb8
          replace fs := fs.below hb8
          replace fd := fd.below hb8
          replace fe := fe.below hb8
          replace fa := fa.below hb8
          replace fb := fb.below hb8
          clear hb8
          rcases HD3.out with ⟨huv, hD1, hD2⟩ | ⟨huv, hD1, hD2⟩
          · have HD1 := Lib.hid hD1
            have HD2 := Lib.hid hD2
            have hq1 : ((v : Int) == (u : Int)) = true := by simp; omega
            have hq2 : decide ((v : Int) = (u : Int)) = true := by simp; omega
            clear hD1 hD2 HD3 huv
            go_upto_region 9 with (first
              | (with_reducible refine wpList_load (o := ⟨some 56, _, _, _, _, _⟩) rfl (.tmp 9) 32 rfl ge 0 _ rfl (cb e) 32 HEL.out (by kernel_rfl) fe.sees ?_)
              | (go_at_call 52; refine (HBE.out _).mono ?_; rintro e w9 ⟨rfl, hB9⟩))
            replace hBw := Below.then_ hBw hB9
            replace ft := ft.below hB9
            replace fs := fs.below hB9
            replace fd := fd.below hB9
            replace fe := fe.below hB9
            replace fa := fa.below hB9
            replace fb := fb.below hB9
            clear hB9
            refine region_all_tail 50 (tl9s ga gb k X1 X0 Y1 Y0) (by kernel_rfl) (by kernel_rfl) (by kernel_rfl) (tl9s_stab _ _ _ _ _ _ _) ?_ ?_
            · intro w0 hb0
              have hz0 := hb0.size
              simp only [List.take_succ_cons, List.take_zero]
              refine ⟨?_, ?_, ?_, ?_, ?_, ?_, ?_, ?_, ?_, ?_, ?_, ?_, ?_, ?_, ?_, ?_, ?_, ?_, ?_, ?_, ?_, ?_, ?_, ?_, ?_, ?_, ?_, ?_, ?_, ?_, ?_, ?_, ?_, ?_, ?_, ?_, ?_, ?_, ?_, ?_, ?_, ?_, ?_, ?_, ?_, ?_, ?_, ?_, ?_, ?_, trivial⟩
              all_goals intro listed a1 w' hk1 hd1
              · have f15_ : a1.eval (.tmp 15) = .bool true := hk1.ev_old 15 (by kernel_rfl)
                have g15_ : a1.tmps[15]?.getD undef = .bool true := by simpa [Act.eval] using f15_
                exact stepOk_value rfl (v := .bool true) (by go_simp) rfl
              · obtain ⟨y0, e0, q0, rfl⟩ := hk1.ev_new hd1 0 60 (by kernel_rfl) rfl
                exact stepOk_value rfl (v := .bool true) (by go_simp) rfl
              · obtain ⟨y1, e1, q1, rfl⟩ := hk1.ev_new hd1 1 61 (by kernel_rfl) rfl
                have f13_ : a1.eval (.tmp 13) = .int .i64 (k : Int) := hk1.ev_old 13 (by kernel_rfl)
                have g13_ : a1.tmps[13]?.getD undef = .int .i64 (k : Int) := by simpa [Act.eval] using f13_
                exact stepOk_valG (wanted_at (t := 61) rfl rfl q1) (v := .int .i64 (k : Int)) (by go_simp) rfl
              · obtain ⟨y1, e1, q1, rfl⟩ := hk1.ev_new hd1 1 61 (by kernel_rfl) rfl
                have f11_ : a1.eval (.tmp 11) = .pointer (some ⟨ga, 0, none⟩) := hk1.ev_old 11 (by kernel_rfl)
                have g11_ : a1.tmps[11]?.getD undef = .pointer (some ⟨ga, 0, none⟩) := by simpa [Act.eval] using f11_
                exact stepOk_valG (wanted_at (t := 61) rfl rfl q1) (v := .pointer (some ⟨ga, 0, none⟩)) (by go_simp) rfl
              · obtain ⟨y1, e1, q1, rfl⟩ := hk1.ev_new hd1 1 61 (by kernel_rfl) rfl
                obtain ⟨y3, e3, q3, rfl⟩ := hk1.ev_new hd1 3 63 (by kernel_rfl) rfl
                obtain ⟨y2, e2, q2, rfl⟩ := hk1.ev_new hd1 2 62 (by kernel_rfl) rfl
                exact stepOk_valG (wanted_at (t := 61) rfl rfl q1) (run_ixA (.tmp 63) (.tmp 62) rfl arrSA sizeSE e3 e2 rfl (by omega) (by omega)) rfl
              · obtain ⟨y1, e1, q1, rfl⟩ := hk1.ev_new hd1 1 61 (by kernel_rfl) rfl
                obtain ⟨y4, e4, q4, rfl⟩ := hk1.ev_new hd1 4 64 (by kernel_rfl) rfl
                exact stepOk_valG (wanted_at (t := 61) rfl rfl q1) (run_load_agg (.tmp 64) 31 rfl e4 (cb X1) 32 HX1C.out (by kernel_rfl) (sees_of (off := 32 * k) (k := k) ((fa.below hb0).below hk1.below).sees rfl HC1.out)) rfl
              · obtain ⟨y1, e1, q1, rfl⟩ := hk1.ev_new hd1 1 61 (by kernel_rfl) rfl
                have f13_ : a1.eval (.tmp 13) = .int .i64 (k : Int) := hk1.ev_old 13 (by kernel_rfl)
                have g13_ : a1.tmps[13]?.getD undef = .int .i64 (k : Int) := by simpa [Act.eval] using f13_
                exact stepOk_valG (wanted_at (t := 61) rfl rfl q1) (v := .int .i64 (k : Int)) (by go_simp) rfl
              · obtain ⟨y1, e1, q1, rfl⟩ := hk1.ev_new hd1 1 61 (by kernel_rfl) rfl
                have f12_ : a1.eval (.tmp 12) = .pointer (some ⟨gb, 0, none⟩) := hk1.ev_old 12 (by kernel_rfl)
                have g12_ : a1.tmps[12]?.getD undef = .pointer (some ⟨gb, 0, none⟩) := by simpa [Act.eval] using f12_
                exact stepOk_valG (wanted_at (t := 61) rfl rfl q1) (v := .pointer (some ⟨gb, 0, none⟩)) (by go_simp) rfl
              · obtain ⟨y1, e1, q1, rfl⟩ := hk1.ev_new hd1 1 61 (by kernel_rfl) rfl
                obtain ⟨y7, e7, q7, rfl⟩ := hk1.ev_new hd1 7 67 (by kernel_rfl) rfl
                obtain ⟨y6, e6, q6, rfl⟩ := hk1.ev_new hd1 6 66 (by kernel_rfl) rfl
                exact stepOk_valG (wanted_at (t := 61) rfl rfl q1) (run_ixA (.tmp 67) (.tmp 66) rfl arrSA sizeSE e7 e6 rfl (by omega) (by omega)) rfl
              · obtain ⟨y1, e1, q1, rfl⟩ := hk1.ev_new hd1 1 61 (by kernel_rfl) rfl
                obtain ⟨y8, e8, q8, rfl⟩ := hk1.ev_new hd1 8 68 (by kernel_rfl) rfl
                exact stepOk_valG (wanted_at (t := 61) rfl rfl q1) (run_load_agg (.tmp 68) 31 rfl e8 (cb X1) 32 HX1C.out (by kernel_rfl) (sees_of (off := 32 * k) (k := k) ((fb.below hb0).below hk1.below).sees rfl HD1.out)) rfl
              · obtain ⟨y1, e1, q1, rfl⟩ := hk1.ev_new hd1 1 61 (by kernel_rfl) rfl
                obtain ⟨y5, e5, q5, rfl⟩ := hk1.ev_new hd1 5 65 (by kernel_rfl) rfl
                obtain ⟨y9, e9, q9, rfl⟩ := hk1.ev_new hd1 9 69 (by kernel_rfl) rfl
                exact stepOk_valG (wanted_at (t := 61) rfl rfl q1) (run_neq_of (.tmp 65) (.tmp 69) 31 31 rfl (by kernel_rfl) _ _ e5 e9 (neq_sec X1 HX1L.out w')) rfl
              · obtain ⟨y1, e1, q1, rfl⟩ := hk1.ev_new hd1 1 61 (by kernel_rfl) rfl
                obtain ⟨y10, e10, q10, rfl⟩ := hk1.ev_new hd1 10 70 (by kernel_rfl) rfl
                exact stepOk_valG (wanted_at (t := 61) rfl rfl q1) (v := .bool false) (by go_simp) rfl
              · obtain ⟨y11, e11, q11, rfl⟩ := hk1.ev_new hd1 11 71 (by kernel_rfl) rfl
                have f13_ : a1.eval (.tmp 13) = .int .i64 (k : Int) := hk1.ev_old 13 (by kernel_rfl)
                have g13_ : a1.tmps[13]?.getD undef = .int .i64 (k : Int) := by simpa [Act.eval] using f13_
                exact stepOk_valG (wanted_at (t := 71) rfl rfl q11) (v := .int .i64 (k : Int)) (by go_simp) rfl
              · obtain ⟨y11, e11, q11, rfl⟩ := hk1.ev_new hd1 11 71 (by kernel_rfl) rfl
                have f11_ : a1.eval (.tmp 11) = .pointer (some ⟨ga, 0, none⟩) := hk1.ev_old 11 (by kernel_rfl)
                have g11_ : a1.tmps[11]?.getD undef = .pointer (some ⟨ga, 0, none⟩) := by simpa [Act.eval] using f11_
                exact stepOk_valG (wanted_at (t := 71) rfl rfl q11) (v := .pointer (some ⟨ga, 8192, none⟩)) (by go_simp) rfl
              · obtain ⟨y11, e11, q11, rfl⟩ := hk1.ev_new hd1 11 71 (by kernel_rfl) rfl
                obtain ⟨y13, e13, q13, rfl⟩ := hk1.ev_new hd1 13 73 (by kernel_rfl) rfl
                obtain ⟨y12, e12, q12, rfl⟩ := hk1.ev_new hd1 12 72 (by kernel_rfl) rfl
                exact stepOk_valG (wanted_at (t := 71) rfl rfl q11) (run_ixA (.tmp 73) (.tmp 72) rfl arrZD sizeD e13 e12 rfl (by omega) (by omega)) rfl
              · obtain ⟨y11, e11, q11, rfl⟩ := hk1.ev_new hd1 11 71 (by kernel_rfl) rfl
                obtain ⟨y14, e14, q14, rfl⟩ := hk1.ev_new hd1 14 74 (by kernel_rfl) rfl
                exact stepOk_valG (wanted_at (t := 71) rfl rfl q11) (run_load_agg (.tmp 74) 32 rfl e14 (cb Y1) 32 HY1C.out (by kernel_rfl) (sees_of (off := 8192 + 32 * k) (k := 256 + k) ((fa.below hb0).below hk1.below).sees (by omega) HC2.out)) rfl
              · obtain ⟨y11, e11, q11, rfl⟩ := hk1.ev_new hd1 11 71 (by kernel_rfl) rfl
                have f13_ : a1.eval (.tmp 13) = .int .i64 (k : Int) := hk1.ev_old 13 (by kernel_rfl)
                have g13_ : a1.tmps[13]?.getD undef = .int .i64 (k : Int) := by simpa [Act.eval] using f13_
                exact stepOk_valG (wanted_at (t := 71) rfl rfl q11) (v := .int .i64 (k : Int)) (by go_simp) rfl
              · obtain ⟨y11, e11, q11, rfl⟩ := hk1.ev_new hd1 11 71 (by kernel_rfl) rfl
                have f12_ : a1.eval (.tmp 12) = .pointer (some ⟨gb, 0, none⟩) := hk1.ev_old 12 (by kernel_rfl)
                have g12_ : a1.tmps[12]?.getD undef = .pointer (some ⟨gb, 0, none⟩) := by simpa [Act.eval] using f12_
                exact stepOk_valG (wanted_at (t := 71) rfl rfl q11) (v := .pointer (some ⟨gb, 8192, none⟩)) (by go_simp) rfl
              · obtain ⟨y11, e11, q11, rfl⟩ := hk1.ev_new hd1 11 71 (by kernel_rfl) rfl
                obtain ⟨y17, e17, q17, rfl⟩ := hk1.ev_new hd1 17 77 (by kernel_rfl) rfl
                obtain ⟨y16, e16, q16, rfl⟩ := hk1.ev_new hd1 16 76 (by kernel_rfl) rfl
                exact stepOk_valG (wanted_at (t := 71) rfl rfl q11) (run_ixA (.tmp 77) (.tmp 76) rfl arrZD sizeD e17 e16 rfl (by omega) (by omega)) rfl
              · obtain ⟨y11, e11, q11, rfl⟩ := hk1.ev_new hd1 11 71 (by kernel_rfl) rfl
                obtain ⟨y18, e18, q18, rfl⟩ := hk1.ev_new hd1 18 78 (by kernel_rfl) rfl
                exact stepOk_valG (wanted_at (t := 71) rfl rfl q11) (run_load_agg (.tmp 78) 32 rfl e18 (cb Y1) 32 HY1C.out (by kernel_rfl) (sees_of (off := 8192 + 32 * k) (k := 256 + k) ((fb.below hb0).below hk1.below).sees (by omega) HD2.out)) rfl
              · obtain ⟨y11, e11, q11, rfl⟩ := hk1.ev_new hd1 11 71 (by kernel_rfl) rfl
                obtain ⟨y15, e15, q15, rfl⟩ := hk1.ev_new hd1 15 75 (by kernel_rfl) rfl
                obtain ⟨y19, e19, q19, rfl⟩ := hk1.ev_new hd1 19 79 (by kernel_rfl) rfl
                exact stepOk_valG (wanted_at (t := 71) rfl rfl q11) (run_neq_of (.tmp 75) (.tmp 79) 32 32 rfl (by kernel_rfl) _ _ e15 e19 (neq_digest Y1 HY1L.out w')) rfl
              · obtain ⟨y1, e1, q1, rfl⟩ := hk1.ev_new hd1 1 61 (by kernel_rfl) rfl
                obtain ⟨y11, e11, q11, rfl⟩ := hk1.ev_new hd1 11 71 (by kernel_rfl) rfl
                obtain ⟨y20, e20, q20, rfl⟩ := hk1.ev_new hd1 20 80 (by kernel_rfl) rfl
                exact stepOk_valG (wanted_at (t := 61) rfl rfl q1) (v := .bool false) (by go_simp) rfl
              · obtain ⟨y1, e1, q1, rfl⟩ := hk1.ev_new hd1 1 61 (by kernel_rfl) rfl
                obtain ⟨y21, e21, q21, rfl⟩ := hk1.ev_new hd1 21 81 (by kernel_rfl) rfl
                exact stepOk_value rfl (v := .bool false) (by go_simp) rfl
              · obtain ⟨y22, e22, q22, rfl⟩ := hk1.ev_new hd1 22 82 (by kernel_rfl) rfl
                exact stepOk_value rfl (v := .bool false) (by go_simp) rfl
              · obtain ⟨y23, e23, q23, rfl⟩ := hk1.ev_new hd1 23 83 (by kernel_rfl) rfl
                have f15_ : a1.eval (.tmp 15) = .bool true := hk1.ev_old 15 (by kernel_rfl)
                have g15_ : a1.tmps[15]?.getD undef = .bool true := by simpa [Act.eval] using f15_
                exact stepOk_valG (wanted_at (t := 83) rfl rfl q23) (v := .bool true) (by go_simp) rfl
              · obtain ⟨y23, e23, q23, rfl⟩ := hk1.ev_new hd1 23 83 (by kernel_rfl) rfl
                obtain ⟨y24, e24, q24, rfl⟩ := hk1.ev_new hd1 24 84 (by kernel_rfl) rfl
                exact stepOk_valG (wanted_at (t := 83) rfl rfl q23) (v := .bool false) (by go_simp) rfl
              · obtain ⟨y23, e23, q23, rfl⟩ := hk1.ev_new hd1 23 83 (by kernel_rfl) rfl
                obtain ⟨y25, e25, q25, rfl⟩ := hk1.ev_new hd1 25 85 (by kernel_rfl) rfl
                exact stepOk_valG (wanted_at (t := 83) rfl rfl q23) (v := .bool false) (by go_simp) rfl
              · obtain ⟨y26, e26, q26, rfl⟩ := hk1.ev_new hd1 26 86 (by kernel_rfl) rfl
                exact stepOk_off (wanted_off (t := 86) rfl rfl q26 (by decide)) rfl
              · obtain ⟨y26, e26, q26, rfl⟩ := hk1.ev_new hd1 26 86 (by kernel_rfl) rfl
                exact stepOk_off (wanted_off (t := 86) rfl rfl q26 (by decide)) rfl
              · obtain ⟨y26, e26, q26, rfl⟩ := hk1.ev_new hd1 26 86 (by kernel_rfl) rfl
                exact stepOk_off (wanted_off (t := 86) rfl rfl q26 (by decide)) rfl
              · obtain ⟨y26, e26, q26, rfl⟩ := hk1.ev_new hd1 26 86 (by kernel_rfl) rfl
                exact stepOk_off (wanted_off (t := 86) rfl rfl q26 (by decide)) rfl
              · obtain ⟨y26, e26, q26, rfl⟩ := hk1.ev_new hd1 26 86 (by kernel_rfl) rfl
                exact stepOk_off (wanted_off (t := 86) rfl rfl q26 (by decide)) rfl
              · obtain ⟨y26, e26, q26, rfl⟩ := hk1.ev_new hd1 26 86 (by kernel_rfl) rfl
                exact stepOk_off (wanted_off (t := 86) rfl rfl q26 (by decide)) rfl
              · obtain ⟨y26, e26, q26, rfl⟩ := hk1.ev_new hd1 26 86 (by kernel_rfl) rfl
                exact stepOk_off (wanted_off (t := 86) rfl rfl q26 (by decide)) rfl
              · obtain ⟨y26, e26, q26, rfl⟩ := hk1.ev_new hd1 26 86 (by kernel_rfl) rfl
                exact stepOk_off (wanted_off (t := 86) rfl rfl q26 (by decide)) rfl
              · obtain ⟨y26, e26, q26, rfl⟩ := hk1.ev_new hd1 26 86 (by kernel_rfl) rfl
                exact stepOk_off (wanted_off (t := 86) rfl rfl q26 (by decide)) rfl
              · obtain ⟨y26, e26, q26, rfl⟩ := hk1.ev_new hd1 26 86 (by kernel_rfl) rfl
                exact stepOk_off (wanted_off (t := 86) rfl rfl q26 (by decide)) rfl
              · obtain ⟨y26, e26, q26, rfl⟩ := hk1.ev_new hd1 26 86 (by kernel_rfl) rfl
                exact stepOk_off (wanted_off (t := 86) rfl rfl q26 (by decide)) rfl
              · obtain ⟨y37, e37, q37, rfl⟩ := hk1.ev_new hd1 37 97 (by kernel_rfl) rfl
                exact stepOk_off (wanted_un (t := 97) rfl rfl q37) rfl
              · obtain ⟨y37, e37, q37, rfl⟩ := hk1.ev_new hd1 37 97 (by kernel_rfl) rfl
                exact stepOk_off (wanted_un (t := 97) rfl rfl q37) rfl
              · obtain ⟨y37, e37, q37, rfl⟩ := hk1.ev_new hd1 37 97 (by kernel_rfl) rfl
                exact stepOk_off (wanted_un (t := 97) rfl rfl q37) rfl
              · obtain ⟨y37, e37, q37, rfl⟩ := hk1.ev_new hd1 37 97 (by kernel_rfl) rfl
                exact stepOk_off (wanted_un (t := 97) rfl rfl q37) rfl
              · obtain ⟨y37, e37, q37, rfl⟩ := hk1.ev_new hd1 37 97 (by kernel_rfl) rfl
                exact stepOk_off (wanted_un (t := 97) rfl rfl q37) rfl
              · obtain ⟨y37, e37, q37, rfl⟩ := hk1.ev_new hd1 37 97 (by kernel_rfl) rfl
                exact stepOk_off (wanted_un (t := 97) rfl rfl q37) rfl
              · obtain ⟨y37, e37, q37, rfl⟩ := hk1.ev_new hd1 37 97 (by kernel_rfl) rfl
                exact stepOk_off (wanted_un (t := 97) rfl rfl q37) rfl
              · obtain ⟨y37, e37, q37, rfl⟩ := hk1.ev_new hd1 37 97 (by kernel_rfl) rfl
                exact stepOk_off (wanted_un (t := 97) rfl rfl q37) rfl
              · obtain ⟨y37, e37, q37, rfl⟩ := hk1.ev_new hd1 37 97 (by kernel_rfl) rfl
                exact stepOk_off (wanted_un (t := 97) rfl rfl q37) rfl
              · obtain ⟨y37, e37, q37, rfl⟩ := hk1.ev_new hd1 37 97 (by kernel_rfl) rfl
                exact stepOk_off (wanted_un (t := 97) rfl rfl q37) rfl
              · obtain ⟨y26, e26, q26, rfl⟩ := hk1.ev_new hd1 26 86 (by kernel_rfl) rfl
                exact stepOk_off (wanted_off (t := 86) rfl rfl q26 (by decide)) rfl
              · obtain ⟨y23, e23, q23, rfl⟩ := hk1.ev_new hd1 23 83 (by kernel_rfl) rfl
                obtain ⟨y26, e26, q26, rfl⟩ := hk1.ev_new hd1 26 86 (by kernel_rfl) rfl
                obtain ⟨y48, e48, q48, rfl⟩ := hk1.ev_new hd1 48 108 (by kernel_rfl) rfl
                exact stepOk_valG (wanted_at (t := 83) rfl rfl q23) (v := .bool false) (by go_simp) rfl
            · intro a1 w10 hb10 hp
              obtain ⟨x0, p0, x1, p1, x2, p2, x3, p3, x4, p4, x5, p5, x6, p6, x7, p7, x8, p8, x9, p9, x10, p10, x11, p11, x12, p12, x13, p13, x14, p14, x15, p15, x16, p16, x17, p17, x18, p18, x19, p19, x20, p20, x21, p21, x22, p22, x23, p23, x24, p24, x25, p25, x26, p26, x27, p27, x28, p28, x29, p29, x30, p30, x31, p31, x32, p32, x33, p33, x34, p34, x35, p35, x36, p36, x37, p37, x38, p38, x39, p39, x40, p40, x41, p41, x42, p42, x43, p43, x44, p44, x45, p45, x46, p46, x47, p47, x48, p48, x49, p49, rfl⟩ := hp
              simp only [tl9s] at p0 p1 p2 p3 p4 p5 p6 p7 p8 p9 p10 p11 p12 p13 p14 p15 p16 p17 p18 p19 p20 p21 p22 p23 p24 p25 p26 p27 p28 p29 p30 p31 p32 p33 p34 p35 p36 p37 p38 p39 p40 p41 p42 p43 p44 p45 p46 p47 p48 p49
              subst p0 p1 p2 p3 p4 p5 p6 p7 p8 p9 p10 p11 p12 p13 p14 p15 p16 p17 p18 p19 p20 p21 p22 p23 p24 p25 p26 p27 p28 p29 p30 p31 p32 p33 p34 p35 p36 p37 p38 p39 p40 p41 p42 p43 p44 p45 p46 p47 p48 p49
              simp only [List.drop_succ_cons, List.drop_zero, Act.put, List.setIfInBounds_toArray, List.set_cons_succ, List.set_cons_zero]
              go_wp2_with fail
              go_roundw
              case rel => exact ⟨k + 1, by omega, by go_num, ft.below hb10, fs.below hb10, fd.below hb10, fe.below hb10, fa.below hb10, fb.below hb10, Below.then_ hBw hb10⟩
              case measure => simp [intOf]; omega
          · have HD1 := Lib.hid hD1
            have HD2 := Lib.hid hD2
            have hq1 : ((v : Int) == (u : Int)) = false := by simp; omega
            have hq2 : decide ((v : Int) = (u : Int)) = false := by simp; omega
            clear hD1 hD2 HD3 huv
            go_upto_region 9 with (first
              | (with_reducible refine wpList_load (o := ⟨some 56, _, _, _, _, _⟩) rfl (.tmp 9) 32 rfl ge 0 _ rfl (cb e) 32 HEL.out (by kernel_rfl) fe.sees ?_)
              | (go_at_call 52; refine (HBE.out _).mono ?_; rintro e w9 ⟨rfl, hB9⟩))
            replace hBw := Below.then_ hBw hB9
            replace ft := ft.below hB9
            replace fs := fs.below hB9
            replace fd := fd.below hB9
            replace fe := fe.below hB9
            replace fa := fa.below hB9
            replace fb := fb.below hB9
            clear hB9
            refine region_all_tail 50 (tl9u ga gb k X1 X0 Y1 Y0) (by kernel_rfl) (by kernel_rfl) (by kernel_rfl) (tl9u_stab _ _ _ _ _ _ _) ?_ ?_
            · intro w0 hb0
              have hz0 := hb0.size
              simp only [List.take_succ_cons, List.take_zero]
              refine ⟨?_, ?_, ?_, ?_, ?_, ?_, ?_, ?_, ?_, ?_, ?_, ?_, ?_, ?_, ?_, ?_, ?_, ?_, ?_, ?_, ?_, ?_, ?_, ?_, ?_, ?_, ?_, ?_, ?_, ?_, ?_, ?_, ?_, ?_, ?_, ?_, ?_, ?_, ?_, ?_, ?_, ?_, ?_, ?_, ?_, ?_, ?_, ?_, ?_, ?_, trivial⟩
              all_goals intro listed a1 w' hk1 hd1
              · have f15_ : a1.eval (.tmp 15) = .bool false := hk1.ev_old 15 (by kernel_rfl)
                have g15_ : a1.tmps[15]?.getD undef = .bool false := by simpa [Act.eval] using f15_
                exact stepOk_value rfl (v := .bool false) (by go_simp) rfl
              · obtain ⟨y0, e0, q0, rfl⟩ := hk1.ev_new hd1 0 60 (by kernel_rfl) rfl
                exact stepOk_value rfl (v := .bool false) (by go_simp) rfl
              · obtain ⟨y1, e1, q1, rfl⟩ := hk1.ev_new hd1 1 61 (by kernel_rfl) rfl
                exact stepOk_off (wanted_off (t := 61) rfl rfl q1 (by decide)) rfl
              · obtain ⟨y1, e1, q1, rfl⟩ := hk1.ev_new hd1 1 61 (by kernel_rfl) rfl
                exact stepOk_off (wanted_off (t := 61) rfl rfl q1 (by decide)) rfl
              · obtain ⟨y1, e1, q1, rfl⟩ := hk1.ev_new hd1 1 61 (by kernel_rfl) rfl
                exact stepOk_off (wanted_off (t := 61) rfl rfl q1 (by decide)) rfl
              · obtain ⟨y1, e1, q1, rfl⟩ := hk1.ev_new hd1 1 61 (by kernel_rfl) rfl
                exact stepOk_off (wanted_off (t := 61) rfl rfl q1 (by decide)) rfl
              · obtain ⟨y1, e1, q1, rfl⟩ := hk1.ev_new hd1 1 61 (by kernel_rfl) rfl
                exact stepOk_off (wanted_off (t := 61) rfl rfl q1 (by decide)) rfl
              · obtain ⟨y1, e1, q1, rfl⟩ := hk1.ev_new hd1 1 61 (by kernel_rfl) rfl
                exact stepOk_off (wanted_off (t := 61) rfl rfl q1 (by decide)) rfl
              · obtain ⟨y1, e1, q1, rfl⟩ := hk1.ev_new hd1 1 61 (by kernel_rfl) rfl
                exact stepOk_off (wanted_off (t := 61) rfl rfl q1 (by decide)) rfl
              · obtain ⟨y1, e1, q1, rfl⟩ := hk1.ev_new hd1 1 61 (by kernel_rfl) rfl
                exact stepOk_off (wanted_off (t := 61) rfl rfl q1 (by decide)) rfl
              · obtain ⟨y1, e1, q1, rfl⟩ := hk1.ev_new hd1 1 61 (by kernel_rfl) rfl
                exact stepOk_off (wanted_off (t := 61) rfl rfl q1 (by decide)) rfl
              · obtain ⟨y1, e1, q1, rfl⟩ := hk1.ev_new hd1 1 61 (by kernel_rfl) rfl
                exact stepOk_off (wanted_off (t := 61) rfl rfl q1 (by decide)) rfl
              · obtain ⟨y11, e11, q11, rfl⟩ := hk1.ev_new hd1 11 71 (by kernel_rfl) rfl
                exact stepOk_off (wanted_un (t := 71) rfl rfl q11) rfl
              · obtain ⟨y11, e11, q11, rfl⟩ := hk1.ev_new hd1 11 71 (by kernel_rfl) rfl
                exact stepOk_off (wanted_un (t := 71) rfl rfl q11) rfl
              · obtain ⟨y11, e11, q11, rfl⟩ := hk1.ev_new hd1 11 71 (by kernel_rfl) rfl
                exact stepOk_off (wanted_un (t := 71) rfl rfl q11) rfl
              · obtain ⟨y11, e11, q11, rfl⟩ := hk1.ev_new hd1 11 71 (by kernel_rfl) rfl
                exact stepOk_off (wanted_un (t := 71) rfl rfl q11) rfl
              · obtain ⟨y11, e11, q11, rfl⟩ := hk1.ev_new hd1 11 71 (by kernel_rfl) rfl
                exact stepOk_off (wanted_un (t := 71) rfl rfl q11) rfl
              · obtain ⟨y11, e11, q11, rfl⟩ := hk1.ev_new hd1 11 71 (by kernel_rfl) rfl
                exact stepOk_off (wanted_un (t := 71) rfl rfl q11) rfl
              · obtain ⟨y11, e11, q11, rfl⟩ := hk1.ev_new hd1 11 71 (by kernel_rfl) rfl
                exact stepOk_off (wanted_un (t := 71) rfl rfl q11) rfl
              · obtain ⟨y11, e11, q11, rfl⟩ := hk1.ev_new hd1 11 71 (by kernel_rfl) rfl
                exact stepOk_off (wanted_un (t := 71) rfl rfl q11) rfl
              · obtain ⟨y11, e11, q11, rfl⟩ := hk1.ev_new hd1 11 71 (by kernel_rfl) rfl
                exact stepOk_off (wanted_un (t := 71) rfl rfl q11) rfl
              · obtain ⟨y1, e1, q1, rfl⟩ := hk1.ev_new hd1 1 61 (by kernel_rfl) rfl
                exact stepOk_off (wanted_off (t := 61) rfl rfl q1 (by decide)) rfl
              · obtain ⟨y1, e1, q1, rfl⟩ := hk1.ev_new hd1 1 61 (by kernel_rfl) rfl
                obtain ⟨y21, e21, q21, rfl⟩ := hk1.ev_new hd1 21 81 (by kernel_rfl) rfl
                exact stepOk_value rfl (v := .bool false) (by go_simp) rfl
              · obtain ⟨y22, e22, q22, rfl⟩ := hk1.ev_new hd1 22 82 (by kernel_rfl) rfl
                exact stepOk_value rfl (v := .bool false) (by go_simp) rfl
              · obtain ⟨y23, e23, q23, rfl⟩ := hk1.ev_new hd1 23 83 (by kernel_rfl) rfl
                have f15_ : a1.eval (.tmp 15) = .bool false := hk1.ev_old 15 (by kernel_rfl)
                have g15_ : a1.tmps[15]?.getD undef = .bool false := by simpa [Act.eval] using f15_
                exact stepOk_valG (wanted_at (t := 83) rfl rfl q23) (v := .bool false) (by go_simp) rfl
              · obtain ⟨y23, e23, q23, rfl⟩ := hk1.ev_new hd1 23 83 (by kernel_rfl) rfl
                obtain ⟨y24, e24, q24, rfl⟩ := hk1.ev_new hd1 24 84 (by kernel_rfl) rfl
                exact stepOk_valG (wanted_at (t := 83) rfl rfl q23) (v := .bool true) (by go_simp) rfl
              · obtain ⟨y23, e23, q23, rfl⟩ := hk1.ev_new hd1 23 83 (by kernel_rfl) rfl
                obtain ⟨y25, e25, q25, rfl⟩ := hk1.ev_new hd1 25 85 (by kernel_rfl) rfl
                exact stepOk_valG (wanted_at (t := 83) rfl rfl q23) (v := .bool true) (by go_simp) rfl
              · obtain ⟨y26, e26, q26, rfl⟩ := hk1.ev_new hd1 26 86 (by kernel_rfl) rfl
                have f13_ : a1.eval (.tmp 13) = .int .i64 (k : Int) := hk1.ev_old 13 (by kernel_rfl)
                have g13_ : a1.tmps[13]?.getD undef = .int .i64 (k : Int) := by simpa [Act.eval] using f13_
                exact stepOk_valG (wanted_at (t := 86) rfl rfl q26) (v := .int .i64 (k : Int)) (by go_simp) rfl
              · obtain ⟨y26, e26, q26, rfl⟩ := hk1.ev_new hd1 26 86 (by kernel_rfl) rfl
                have f11_ : a1.eval (.tmp 11) = .pointer (some ⟨ga, 0, none⟩) := hk1.ev_old 11 (by kernel_rfl)
                have g11_ : a1.tmps[11]?.getD undef = .pointer (some ⟨ga, 0, none⟩) := by simpa [Act.eval] using f11_
                exact stepOk_valG (wanted_at (t := 86) rfl rfl q26) (v := .pointer (some ⟨ga, 8192, none⟩)) (by go_simp) rfl
              · obtain ⟨y26, e26, q26, rfl⟩ := hk1.ev_new hd1 26 86 (by kernel_rfl) rfl
                obtain ⟨y28, e28, q28, rfl⟩ := hk1.ev_new hd1 28 88 (by kernel_rfl) rfl
                obtain ⟨y27, e27, q27, rfl⟩ := hk1.ev_new hd1 27 87 (by kernel_rfl) rfl
                exact stepOk_valG (wanted_at (t := 86) rfl rfl q26) (run_ixA (.tmp 88) (.tmp 87) rfl arrZD sizeD e28 e27 rfl (by omega) (by omega)) rfl
              · obtain ⟨y26, e26, q26, rfl⟩ := hk1.ev_new hd1 26 86 (by kernel_rfl) rfl
                obtain ⟨y29, e29, q29, rfl⟩ := hk1.ev_new hd1 29 89 (by kernel_rfl) rfl
                exact stepOk_valG (wanted_at (t := 86) rfl rfl q26) (run_load_agg (.tmp 89) 32 rfl e29 (cb Y1) 32 HY1C.out (by kernel_rfl) (sees_of (off := 8192 + 32 * k) (k := 256 + k) ((fa.below hb0).below hk1.below).sees (by omega) HC2.out)) rfl
              · obtain ⟨y26, e26, q26, rfl⟩ := hk1.ev_new hd1 26 86 (by kernel_rfl) rfl
                have f13_ : a1.eval (.tmp 13) = .int .i64 (k : Int) := hk1.ev_old 13 (by kernel_rfl)
                have g13_ : a1.tmps[13]?.getD undef = .int .i64 (k : Int) := by simpa [Act.eval] using f13_
                exact stepOk_valG (wanted_at (t := 86) rfl rfl q26) (v := .int .i64 (k : Int)) (by go_simp) rfl
              · obtain ⟨y26, e26, q26, rfl⟩ := hk1.ev_new hd1 26 86 (by kernel_rfl) rfl
                have f12_ : a1.eval (.tmp 12) = .pointer (some ⟨gb, 0, none⟩) := hk1.ev_old 12 (by kernel_rfl)
                have g12_ : a1.tmps[12]?.getD undef = .pointer (some ⟨gb, 0, none⟩) := by simpa [Act.eval] using f12_
                exact stepOk_valG (wanted_at (t := 86) rfl rfl q26) (v := .pointer (some ⟨gb, 0, none⟩)) (by go_simp) rfl
              · obtain ⟨y26, e26, q26, rfl⟩ := hk1.ev_new hd1 26 86 (by kernel_rfl) rfl
                obtain ⟨y32, e32, q32, rfl⟩ := hk1.ev_new hd1 32 92 (by kernel_rfl) rfl
                obtain ⟨y31, e31, q31, rfl⟩ := hk1.ev_new hd1 31 91 (by kernel_rfl) rfl
                exact stepOk_valG (wanted_at (t := 86) rfl rfl q26) (run_ixA (.tmp 92) (.tmp 91) rfl arrSA sizeSE e32 e31 rfl (by omega) (by omega)) rfl
              · obtain ⟨y26, e26, q26, rfl⟩ := hk1.ev_new hd1 26 86 (by kernel_rfl) rfl
                obtain ⟨y33, e33, q33, rfl⟩ := hk1.ev_new hd1 33 93 (by kernel_rfl) rfl
                exact stepOk_valG (wanted_at (t := 86) rfl rfl q26) (run_load_agg (.tmp 93) 31 rfl e33 (cb X0) 32 HX0C.out (by kernel_rfl) (sees_of (off := 32 * k) (k := k) ((fb.below hb0).below hk1.below).sees rfl HD1.out)) rfl
              · obtain ⟨y26, e26, q26, rfl⟩ := hk1.ev_new hd1 26 86 (by kernel_rfl) rfl
                have f5_ : a1.eval (.tmp 5) = .pointer (some ⟨gt, 0, none⟩) := hk1.ev_old 5 (by kernel_rfl)
                have g5_ : a1.tmps[5]?.getD undef = .pointer (some ⟨gt, 0, none⟩) := by simpa [Act.eval] using f5_
                obtain ⟨y34, e34, q34, rfl⟩ := hk1.ev_new hd1 34 94 (by kernel_rfl) rfl
                refine stepOk_enter (wanted_at (t := 86) rfl rfl q26) (f := 56) (args := #[.pointer (some ⟨gt, 0, none⟩), .agg (cb (X0)).toArray]) (by go_simp) ?_
                refine (HHO.out _ _ (HG.out _ _ ((ft.below hb0).below hk1.below))).mono ?_
                rintro e w5 ⟨rfl, hB5⟩
                exact ⟨_, rfl, rfl, hB5⟩
              · obtain ⟨y26, e26, q26, rfl⟩ := hk1.ev_new hd1 26 86 (by kernel_rfl) rfl
                obtain ⟨y30, e30, q30, rfl⟩ := hk1.ev_new hd1 30 90 (by kernel_rfl) rfl
                obtain ⟨y35, e35, q35, rfl⟩ := hk1.ev_new hd1 35 95 (by kernel_rfl) rfl
                exact stepOk_valG (wanted_at (t := 86) rfl rfl q26) (run_neq_of (.tmp 90) (.tmp 95) 32 32 rfl (by kernel_rfl) _ _ e30 e35 (neq_digest Y1 HY1L.out w')) rfl
              · obtain ⟨y26, e26, q26, rfl⟩ := hk1.ev_new hd1 26 86 (by kernel_rfl) rfl
                obtain ⟨y36, e36, q36, rfl⟩ := hk1.ev_new hd1 36 96 (by kernel_rfl) rfl
                exact stepOk_valG (wanted_at (t := 86) rfl rfl q26) (v := .bool false) (by go_simp) rfl
              · obtain ⟨y37, e37, q37, rfl⟩ := hk1.ev_new hd1 37 97 (by kernel_rfl) rfl
                have f13_ : a1.eval (.tmp 13) = .int .i64 (k : Int) := hk1.ev_old 13 (by kernel_rfl)
                have g13_ : a1.tmps[13]?.getD undef = .int .i64 (k : Int) := by simpa [Act.eval] using f13_
                exact stepOk_valG (wanted_at (t := 97) rfl rfl q37) (v := .int .i64 (k : Int)) (by go_simp) rfl
              · obtain ⟨y37, e37, q37, rfl⟩ := hk1.ev_new hd1 37 97 (by kernel_rfl) rfl
                have f12_ : a1.eval (.tmp 12) = .pointer (some ⟨gb, 0, none⟩) := hk1.ev_old 12 (by kernel_rfl)
                have g12_ : a1.tmps[12]?.getD undef = .pointer (some ⟨gb, 0, none⟩) := by simpa [Act.eval] using f12_
                exact stepOk_valG (wanted_at (t := 97) rfl rfl q37) (v := .pointer (some ⟨gb, 8192, none⟩)) (by go_simp) rfl
              · obtain ⟨y37, e37, q37, rfl⟩ := hk1.ev_new hd1 37 97 (by kernel_rfl) rfl
                obtain ⟨y39, e39, q39, rfl⟩ := hk1.ev_new hd1 39 99 (by kernel_rfl) rfl
                obtain ⟨y38, e38, q38, rfl⟩ := hk1.ev_new hd1 38 98 (by kernel_rfl) rfl
                exact stepOk_valG (wanted_at (t := 97) rfl rfl q37) (run_ixA (.tmp 99) (.tmp 98) rfl arrZD sizeD e39 e38 rfl (by omega) (by omega)) rfl
              · obtain ⟨y37, e37, q37, rfl⟩ := hk1.ev_new hd1 37 97 (by kernel_rfl) rfl
                obtain ⟨y40, e40, q40, rfl⟩ := hk1.ev_new hd1 40 100 (by kernel_rfl) rfl
                exact stepOk_valG (wanted_at (t := 97) rfl rfl q37) (run_load_agg (.tmp 100) 32 rfl e40 (cb Y0) 32 HY0C.out (by kernel_rfl) (sees_of (off := 8192 + 32 * k) (k := 256 + k) ((fb.below hb0).below hk1.below).sees (by omega) HD2.out)) rfl
              · obtain ⟨y37, e37, q37, rfl⟩ := hk1.ev_new hd1 37 97 (by kernel_rfl) rfl
                have f13_ : a1.eval (.tmp 13) = .int .i64 (k : Int) := hk1.ev_old 13 (by kernel_rfl)
                have g13_ : a1.tmps[13]?.getD undef = .int .i64 (k : Int) := by simpa [Act.eval] using f13_
                exact stepOk_valG (wanted_at (t := 97) rfl rfl q37) (v := .int .i64 (k : Int)) (by go_simp) rfl
              · obtain ⟨y37, e37, q37, rfl⟩ := hk1.ev_new hd1 37 97 (by kernel_rfl) rfl
                have f11_ : a1.eval (.tmp 11) = .pointer (some ⟨ga, 0, none⟩) := hk1.ev_old 11 (by kernel_rfl)
                have g11_ : a1.tmps[11]?.getD undef = .pointer (some ⟨ga, 0, none⟩) := by simpa [Act.eval] using f11_
                exact stepOk_valG (wanted_at (t := 97) rfl rfl q37) (v := .pointer (some ⟨ga, 0, none⟩)) (by go_simp) rfl
              · obtain ⟨y37, e37, q37, rfl⟩ := hk1.ev_new hd1 37 97 (by kernel_rfl) rfl
                obtain ⟨y43, e43, q43, rfl⟩ := hk1.ev_new hd1 43 103 (by kernel_rfl) rfl
                obtain ⟨y42, e42, q42, rfl⟩ := hk1.ev_new hd1 42 102 (by kernel_rfl) rfl
                exact stepOk_valG (wanted_at (t := 97) rfl rfl q37) (run_ixA (.tmp 103) (.tmp 102) rfl arrSA sizeSE e43 e42 rfl (by omega) (by omega)) rfl
              · obtain ⟨y37, e37, q37, rfl⟩ := hk1.ev_new hd1 37 97 (by kernel_rfl) rfl
                obtain ⟨y44, e44, q44, rfl⟩ := hk1.ev_new hd1 44 104 (by kernel_rfl) rfl
                exact stepOk_valG (wanted_at (t := 97) rfl rfl q37) (run_load_agg (.tmp 104) 31 rfl e44 (cb X1) 32 HX1C.out (by kernel_rfl) (sees_of (off := 32 * k) (k := k) ((fa.below hb0).below hk1.below).sees rfl HC1.out)) rfl
              · obtain ⟨y37, e37, q37, rfl⟩ := hk1.ev_new hd1 37 97 (by kernel_rfl) rfl
                have f5_ : a1.eval (.tmp 5) = .pointer (some ⟨gt, 0, none⟩) := hk1.ev_old 5 (by kernel_rfl)
                have g5_ : a1.tmps[5]?.getD undef = .pointer (some ⟨gt, 0, none⟩) := by simpa [Act.eval] using f5_
                obtain ⟨y45, e45, q45, rfl⟩ := hk1.ev_new hd1 45 105 (by kernel_rfl) rfl
                refine stepOk_enter (wanted_at (t := 97) rfl rfl q37) (f := 56) (args := #[.pointer (some ⟨gt, 0, none⟩), .agg (cb (X1)).toArray]) (by go_simp) ?_
                refine (HHI.out _ _ (HG.out _ _ ((ft.below hb0).below hk1.below))).mono ?_
                rintro e w5 ⟨rfl, hB5⟩
                exact ⟨_, rfl, rfl, hB5⟩
              · obtain ⟨y37, e37, q37, rfl⟩ := hk1.ev_new hd1 37 97 (by kernel_rfl) rfl
                obtain ⟨y41, e41, q41, rfl⟩ := hk1.ev_new hd1 41 101 (by kernel_rfl) rfl
                obtain ⟨y46, e46, q46, rfl⟩ := hk1.ev_new hd1 46 106 (by kernel_rfl) rfl
                exact stepOk_valG (wanted_at (t := 97) rfl rfl q37) (run_neq_of (.tmp 101) (.tmp 106) 32 32 rfl (by kernel_rfl) _ _ e41 e46 (neq_digest Y0 HY0L.out w')) rfl
              · obtain ⟨y26, e26, q26, rfl⟩ := hk1.ev_new hd1 26 86 (by kernel_rfl) rfl
                obtain ⟨y37, e37, q37, rfl⟩ := hk1.ev_new hd1 37 97 (by kernel_rfl) rfl
                obtain ⟨y47, e47, q47, rfl⟩ := hk1.ev_new hd1 47 107 (by kernel_rfl) rfl
                exact stepOk_valG (wanted_at (t := 86) rfl rfl q26) (v := .bool false) (by go_simp) rfl
              · obtain ⟨y23, e23, q23, rfl⟩ := hk1.ev_new hd1 23 83 (by kernel_rfl) rfl
                obtain ⟨y26, e26, q26, rfl⟩ := hk1.ev_new hd1 26 86 (by kernel_rfl) rfl
                obtain ⟨y48, e48, q48, rfl⟩ := hk1.ev_new hd1 48 108 (by kernel_rfl) rfl
                exact stepOk_valG (wanted_at (t := 83) rfl rfl q23) (v := .bool false) (by go_simp) rfl
            · intro a1 w10 hb10 hp
              obtain ⟨x0, p0, x1, p1, x2, p2, x3, p3, x4, p4, x5, p5, x6, p6, x7, p7, x8, p8, x9, p9, x10, p10, x11, p11, x12, p12, x13, p13, x14, p14, x15, p15, x16, p16, x17, p17, x18, p18, x19, p19, x20, p20, x21, p21, x22, p22, x23, p23, x24, p24, x25, p25, x26, p26, x27, p27, x28, p28, x29, p29, x30, p30, x31, p31, x32, p32, x33, p33, x34, p34, x35, p35, x36, p36, x37, p37, x38, p38, x39, p39, x40, p40, x41, p41, x42, p42, x43, p43, x44, p44, x45, p45, x46, p46, x47, p47, x48, p48, x49, p49, rfl⟩ := hp
              simp only [tl9u] at p0 p1 p2 p3 p4 p5 p6 p7 p8 p9 p10 p11 p12 p13 p14 p15 p16 p17 p18 p19 p20 p21 p22 p23 p24 p25 p26 p27 p28 p29 p30 p31 p32 p33 p34 p35 p36 p37 p38 p39 p40 p41 p42 p43 p44 p45 p46 p47 p48 p49
              subst p0 p1 p2 p3 p4 p5 p6 p7 p8 p9 p10 p11 p12 p13 p14 p15 p16 p17 p18 p19 p20 p21 p22 p23 p24 p25 p26 p27 p28 p29 p30 p31 p32 p33 p34 p35 p36 p37 p38 p39 p40 p41 p42 p43 p44 p45 p46 p47 p48 p49
              simp only [List.drop_succ_cons, List.drop_zero, Act.put, List.setIfInBounds_toArray, List.set_cons_succ, List.set_cons_zero]
              go_wp2_with fail
              go_roundw
              case rel => exact ⟨k + 1, by omega, by go_num, ft.below hb10, fs.below hb10, fd.below hb10, fe.below hb10, fa.below hb10, fb.below hb10, Below.then_ hBw hb10⟩
              case measure => simp [intOf]; omega
      · obtain rfl : k = 256 := by omega
        go_wp2_with (go_at_call 59; refine awake9_any.mono ?_; rintro e w17 ⟨rfl, hB17⟩)
        go_ret
        exact ⟨rfl, Below.then_ hB hB17⟩
theorem told_law (W : World) (first keys : List UInt32) (h8 : first.length = 8) (h64 : keys.length = 64) (seed : List UInt8) (hs : seed.length = 32) (leaf : Int) (wl : (Lit.int .i64 leaf).wf = true) (d : List UInt8) (hd : d.length = 32) (e : List UInt8) (he : e.length = 32) :
    Calls Try.prog 10 #[.agg (cw (first ++ keys)).toArray, .agg (cb seed).toArray, .int .i64 leaf, .agg (cb d).toArray, .agg (cb e).toArray] W fun e w' => e = .returned (.bool true) ∧ Below W.heap.size W w' :=
  told_walk first keys h8 h64 seed hs leaf (bounds_i64 wl).2 d hd e he
end
end Go.Proofs.Ytehokoeajinboaa
