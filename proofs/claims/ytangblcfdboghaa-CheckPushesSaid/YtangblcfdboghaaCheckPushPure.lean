/-
  What CheckPushes and CheckTypes want, over plain data.
-/
import Derived.Test.YtangblcfdboghaaCheckPure
namespace Go.Proofs.Ytangblcfdboghaa
set_option linter.unusedVariables false

/-- So many pushes of a type, as many drops. -/
def pushJ (t : Nat) : Jn := ⟨1, t, 0, 0⟩
def dropJ : Jn := ⟨17, 0, 0, 0⟩
def pushP (n t : Nat) : Pg := ⟨[112], [], [], List.replicate n (pushJ t) ++ List.replicate n dropJ⟩
/-- What there is of its places when so many have been gone over. -/
def pushS (n t i q : Nat) : Sp := if q ≤ i then ⟨true, List.replicate (min q (2 * n - q)) (UInt8.ofNat t), q⟩ else default
def pushL (n t i : Nat) : List Sp := (List.range (2 * n + 1)).map (pushS n t i)
theorem push_len (n t : Nat) : (pushP n t).ins.length = 2 * n := by simp [pushP]; omega
theorem pushL_len (n t i : Nat) : (pushL n t i).length = 2 * n + 1 := by simp [pushL]
theorem sp_pushL {n t i q : Nat} (h : q < 2 * n + 1) : sp (pushL n t i) q = pushS n t i q := by
  simp [sp, pushL, h]
theorem pushL_start (n t : Nat) : spStart (2 * n) = pushL n t 0 := by
  apply List.ext_getElem?
  intro q
  rcases q with _ | q
  · simp [spStart, pushL, pushS]
  · by_cases h : q < 2 * n
    · have h1 : (List.range (2 * n + 1))[q + 1]? = some (q + 1) := by rw [List.getElem?_range (by omega)]
      simp [spStart, pushL, pushS, h]
    · rw [List.getElem?_eq_none (by rw [start_len]; omega), List.getElem?_eq_none (by rw [pushL_len]; omega)]
theorem pushL_step {n t i : Nat} (h : i < 2 * n) : (pushL n t i).set (i + 1) (pushS n t (i + 1) (i + 1)) = pushL n t (i + 1) := by
  apply List.ext_getElem?
  intro q
  rw [List.getElem?_set]
  by_cases hq : q < 2 * n + 1
  · have h1 : (pushL n t i)[q]? = some (pushS n t i q) := by simp [pushL, hq]
    have h2 : (pushL n t (i + 1))[q]? = some (pushS n t (i + 1) q) := by simp [pushL, hq]
    rw [h2]
    by_cases e : i + 1 = q
    · subst e
      rw [if_pos rfl, if_pos (by rw [pushL_len]; omega)]
    · rw [if_neg e, h1]
      congr 1
      unfold pushS
      by_cases h3 : q ≤ i
      · rw [if_pos h3, if_pos (by omega)]
      · rw [if_neg h3, if_neg (by omega)]
  · rw [List.getElem?_eq_none (by rw [pushL_len]; omega), if_neg (by omega), List.getElem?_eq_none (by rw [pushL_len]; omega)]
theorem push_jn {n t q : Nat} (h : q < 2 * n) : jn (pushP n t) q = if q < n then pushJ t else dropJ := by
  unfold jn pushP
  rw [List.getD_eq_getElem?_getD]
  by_cases h1 : q < n
  · rw [if_pos h1, List.getElem?_append_left (by simpa using h1)]
    simp [h1]
  · rw [if_neg h1, List.getElem?_append_right (by simpa using Nat.le_of_not_lt h1)]
    simp [show q - n < n by omega]
theorem rep_drop {α : Type} (m k : Nat) (x : α) : (List.replicate m x).drop (m - k) = List.replicate (min k m) x := by
  rw [List.drop_replicate]
  congr 1
  omega
theorem push_go {n t i : Nat} (h : i < 2 * n) (h64 : n ≤ 64) : goF (pushP n t) (pushL n t i) i = .ok (pushL n t (i + 1)) := by
  have hs : sp (pushL n t i) i = ⟨true, List.replicate (min i (2 * n - i)) (UInt8.ofNat t), i⟩ := by
    rw [sp_pushL (by omega)]
    simp [pushS]
  have hn : sp (pushL n t i) (i + 1) = default := by
    rw [sp_pushL (by omega)]
    unfold pushS
    rw [if_neg (by omega)]
  have hnew : comeF default (List.replicate (min (i + 1) (2 * n - (i + 1))) (UInt8.ofNat t)) (i + 1) = some (pushS n t (i + 1) (i + 1)) := by
    simp [comeF, pushS]
    rfl
  have hdone : doneF (pushP n t) (jn (pushP n t) i) (List.replicate (min i (2 * n - i)) (UInt8.ofNat t)) = some (List.replicate (min (i + 1) (2 * n - (i + 1))) (UInt8.ofNat t)) := by
    rw [push_jn h]
    by_cases h1 : i < n
    · rw [if_pos h1]
      have e1 : min i (2 * n - i) = i := by omega
      have e2 : min (i + 1) (2 * n - (i + 1)) = i + 1 := by omega
      rw [e1, e2]
      have e3 : effF (pushP n t) (pushJ t) (List.replicate i (UInt8.ofNat t)) = ([], [UInt8.ofNat t]) := by simp [effF, pushJ]
      unfold doneF
      rw [e3]
      simp [joinF, List.replicate_succ', show i + 1 ≤ 64 by omega]
    · rw [if_neg h1]
      obtain ⟨k, hk⟩ : ∃ k, 2 * n - i = k + 1 := ⟨2 * n - i - 1, by omega⟩
      have e1 : min i (2 * n - i) = k + 1 := by omega
      have e2 : min (i + 1) (2 * n - (i + 1)) = k := by omega
      rw [e1, e2]
      have e4 : topF (List.replicate (k + 1) (UInt8.ofNat t)) = UInt8.ofNat t := by
        rw [List.replicate_succ']
        simp [topF, List.getLastD_eq_getLast?]
      have e3 : effF (pushP n t) dropJ (List.replicate (k + 1) (UInt8.ofNat t)) = ([UInt8.ofNat t], []) := by simp [effF, dropJ, e4]
      unfold doneF
      rw [e3]
      have e5 : k ≤ 64 := by omega
      simp [joinF, e5]
  have hop : (jn (pushP n t) i).op ≠ 22 ∧ (jn (pushP n t) i).op ≠ 18 ∧ (jn (pushP n t) i).op ≠ 19 := by
    rw [push_jn h]
    split <;> simp [pushJ, dropJ]
  unfold goF
  rw [hs]
  simp only [Bool.true_eq_false, if_false]
  rw [if_neg (by rw [push_len]; rintro (x | x); omega; exact hop.1 x), if_neg (by rintro ⟨x | x, _⟩; exact hop.2.1 x; exact hop.2.2 x), hdone]
  simp only
  have hon : onF (jn (pushP n t) i) i = [i + 1] := by simp [onF, hop.2.1, hop.2.2]
  rw [hon]
  unfold comes
  rw [hn, hnew]
  simp only
  unfold comes
  rw [pushL_step h]
theorem push_end {n t : Nat} : goF (pushP n t) (pushL n t (2 * n)) (2 * n) = .ok (pushL n t (2 * n)) := by
  unfold goF
  have hs : sp (pushL n t (2 * n)) (2 * n) = ⟨true, [], 2 * n⟩ := by
    rw [sp_pushL (by omega)]
    simp [pushS]
  rw [hs]
  simp only [Bool.true_eq_false, if_false]
  rw [if_pos (.inl (push_len n t).symm)]
  simp
theorem spRun_s (p : Pg) (f k : Nat) (l : List Sp) : spRun p (f + 1) k l = match goF p l k with
    | .error e => .error (k, e)
    | .ok l' => spRun p f (k + 1) l' := rfl
theorem push_run {n t : Nat} (h64 : n ≤ 64) : ∀ (f i : Nat), i + f = 2 * n → spRun (pushP n t) (f + 1) i (pushL n t i) = .ok (pushL n t (2 * n))
  | 0, i, h => by
    obtain rfl : i = 2 * n := by omega
    rw [spRun_s, push_end]
    rfl
  | f + 1, i, h => by
    rw [spRun_s, push_go (by omega) h64]
    exact push_run h64 f (i + 1) (by omega)
theorem push_right {n t : Nat} (hn : 1 ≤ n) (hn2 : n ≤ 1000) (ht : 1 ≤ t ∧ t ≤ 5) : (pushP n t).right = true := by
  have h1 : jnOk (pushP n t) (pushJ t) = true := by
    rw [jnOk_some (show letF (pushJ t).op = some (116, 48, 114) from rfl)]
    have h : inR t 0 = true := by
      rcases (show t = 1 ∨ t = 2 ∨ t = 3 ∨ t = 4 ∨ t = 5 by omega) with rfl | rfl | rfl | rfl | rfl <;> decide
    have hT : isTy (t : Int) = true := by simp [isTy]; omega
    simp [mayF, pushJ, hT, h]
  have h2 : jnOk (pushP n t) dropJ = true := by
    rw [jnOk_some (show letF dropJ.op = some (48, 48, 48) from rfl)]
    simp [mayF, dropJ]
  simp only [Pg.right, insOk, Bool.and_eq_true, decide_eq_true_eq]
  refine ⟨by show nameOk [112] = true; decide, by show varsOk [] = true; decide, by show blocksOk [] = true; decide, ⟨by rw [push_len]; omega, by rw [push_len]; omega⟩, ?_⟩
  refine List.all_eq_true.2 (fun j hj => ?_)
  rcases List.mem_append.1 hj with hj | hj
  · rw [List.eq_of_mem_replicate hj]; exact h1
  · rw [List.eq_of_mem_replicate hj]; exact h2
theorem push_spots {n t : Nat} (hn : 1 ≤ n) (h64 : n ≤ 64) (ht : 1 ≤ t ∧ t ≤ 5) : spotsF (pushP n t) = .ok (pushL n t (2 * n)) := by
  unfold spotsF
  rw [if_pos (push_right hn (by omega) ht), push_len, pushL_start n t]
  exact push_run h64 (2 * n) 0 (by omega)
theorem push_most {n t : Nat} (hn : 1 ≤ n) : mostF (pushL n t (2 * n)) = 2 * n := by
  apply Nat.le_antisymm
  · refine most_le _ _ _ (Nat.zero_le _) (fun s hs => ?_)
    obtain ⟨q, hq⟩ := List.getElem?_of_mem hs
    have hql := (List.getElem?_eq_some_iff.1 hq).1
    rw [List.length_dropLast, pushL_len] at hql
    rw [List.getElem?_dropLast, if_pos (by rw [pushL_len]; omega)] at hq
    have h2 : (pushL n t (2 * n))[q]? = some (pushS n t (2 * n) q) := by simp [pushL, show q < 2 * n + 1 by omega]
    rw [h2] at hq
    obtain rfl := Option.some.inj hq
    simp [pushS, show q ≤ 2 * n by omega]
    omega
  · have h := most_at (l := pushL n t (2 * n)) (n := 2 * n) (q := 2 * n - 1) (pushL_len n t _) (by omega) (by rw [sp_pushL (by omega)]; simp [pushS])
    rw [sp_pushL (by omega)] at h
    have e : (pushS n t (2 * n) (2 * n - 1)).k = 2 * n - 1 := by simp [pushS]
    rw [e] at h
    omega
/-- With more than 64 pushes: the 65th has no room. -/
theorem push_over {n t : Nat} (h : 64 < n) : ∀ (f i : Nat), i + f = 64 → ∀ g, spRun (pushP n t) (f + 1 + g) i (pushL n t i) = .error (64, 140)
  | 0, i, hi, g => by
    obtain rfl : i = 64 := by omega
    rw [Nat.zero_add, Nat.add_comm, spRun_s]
    have hs : sp (pushL n t 64) 64 = ⟨true, List.replicate 64 (UInt8.ofNat t), 64⟩ := by
      rw [sp_pushL (by omega)]
      simp only [pushS, Nat.le_refl, if_true]
      rw [show min 64 (2 * n - 64) = 64 by omega]
    have hg : goF (pushP n t) (pushL n t 64) 64 = .error 140 := by
      have hj : jn (pushP n t) 64 = pushJ t := by rw [push_jn (by omega), if_pos h]
      unfold goF
      rw [hs, hj]
      simp only [Bool.true_eq_false, if_false]
      rw [if_neg (by rw [push_len]; exact fun x => x.elim (by omega) (by simp [pushJ])), if_neg (by simp [pushJ])]
      have e3 : effF (pushP n t) (pushJ t) (List.replicate 64 (UInt8.ofNat t)) = ([], [UInt8.ofNat t]) := by simp [effF, pushJ]
      unfold doneF
      rw [e3]
      simp [joinF]
    rw [hg]
  | f + 1, i, hi, g => by
    rw [show f + 1 + 1 + g = (f + 1 + g) + 1 from by omega, spRun_s]
    have hgo : goF (pushP n t) (pushL n t i) i = .ok (pushL n t (i + 1)) := by
      have hs : sp (pushL n t i) i = ⟨true, List.replicate i (UInt8.ofNat t), i⟩ := by
        rw [sp_pushL (by omega)]
        simp only [pushS, Nat.le_refl, if_true]
        rw [show min i (2 * n - i) = i by omega]
      have hn : sp (pushL n t i) (i + 1) = default := by
        rw [sp_pushL (by omega)]
        unfold pushS
        rw [if_neg (by omega)]
      have hj : jn (pushP n t) i = pushJ t := by rw [push_jn (by omega), if_pos (by omega)]
      unfold goF
      rw [hs, hj]
      simp only [Bool.true_eq_false, if_false]
      rw [if_neg (by rw [push_len]; exact fun x => x.elim (by omega) (by simp [pushJ])), if_neg (by simp [pushJ])]
      have e3 : effF (pushP n t) (pushJ t) (List.replicate i (UInt8.ofNat t)) = ([], [UInt8.ofNat t]) := by simp [effF, pushJ]
      have e6 : i + 1 ≤ 64 := by omega
      have e7 : doneF (pushP n t) (pushJ t) (List.replicate i (UInt8.ofNat t)) = some (List.replicate (i + 1) (UInt8.ofNat t)) := by
        unfold doneF
        rw [e3]
        simp [joinF, List.replicate_succ', e6]
      rw [e7]
      simp only
      have hon : onF (pushJ t) i = [i + 1] := by simp [onF, pushJ]
      have hnew : comeF default (List.replicate (i + 1) (UInt8.ofNat t)) (i + 1) = some (pushS n t (i + 1) (i + 1)) := by
        have e8 : min (i + 1) (2 * n - (i + 1)) = i + 1 := by omega
        simp only [comeF, pushS, Nat.le_refl, if_true, e8]
        rfl
      rw [hon]
      unfold comes
      rw [hn, hnew]
      simp only
      unfold comes
      rw [pushL_step (by omega)]
    rw [hgo]
    exact push_over h f (i + 1) (by omega) g
theorem push_err {n t : Nat} (h : 64 < n) (hn : n ≤ 1000) (ht : 1 ≤ t ∧ t ≤ 5) : spotsF (pushP n t) = .error (64, 140) := by
  unfold spotsF
  rw [if_pos (push_right (by omega) hn ht), push_len, pushL_start n t]
  have := push_over (t := t) h 64 0 (by omega) (2 * n - 64)
  rwa [show 64 + 1 + (2 * n - 64) = 2 * n + 1 by omega] at this
end Go.Proofs.Ytangblcfdboghaa
