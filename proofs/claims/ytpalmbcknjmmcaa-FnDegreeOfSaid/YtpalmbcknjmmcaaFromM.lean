/-
  Numbers out of the first numbers of differences, as plain mathematics.
-/
import Derived.Test.YtpalmbcknjmmcaaDivM
namespace Go.Proofs.Ytpalmbcknjmmcaa
open Go.RowKit
set_option linter.unusedVariables false

/-- How many sets of k of n there are. -/
def binom : Nat → Nat → Nat
  | _, 0 => 1
  | 0, _ + 1 => 0
  | n + 1, k + 1 => binom n k + binom n (k + 1)
/-- Number m of the row whose first numbers of differences are F from t on. -/
def newt (F : Nat → Int) : Nat → Nat → Int
  | t, 0 => F t
  | t, m + 1 => newt F t m + newt F (t + 1) m
theorem newt_sum (F : Nat → Int) (t m : Nat) : newt F t m = F t + sumN (fun i => newt F (t + 1) i) m := by
  induction m with
  | zero => simp [newt, sumN]
  | succ m ih => rw [newt, ih, sumN]; omega
theorem binom_zero (n : Nat) : binom n 0 = 1 := by cases n <;> rfl
theorem binom_big (n k : Nat) (h : n < k) : binom n k = 0 := by
  induction n generalizing k with
  | zero => cases k with
    | zero => omega
    | succ k => rfl
  | succ n ih => cases k with
    | zero => omega
    | succ k => rw [binom, ih k (by omega), ih (k + 1) (by omega)]
theorem sumN_shift (f : Nat → Int) (n : Nat) : sumN f (n + 1) = f 0 + sumN (fun i => f (i + 1)) n := by
  induction n with
  | zero => simp [sumN]
  | succ n ih => rw [sumN, ih, sumN]; omega
theorem newt_binom (F : Nat → Int) (t m : Nat) : newt F t m = sumN (fun k => (binom m k : Int) * F (t + k)) (m + 1) := by
  induction m generalizing t with
  | zero => simp [newt, sumN, binom]
  | succ m ih =>
    rw [newt, ih t, ih (t + 1), sumN_shift (fun k => (binom (m + 1) k : Int) * F (t + k)) (m + 1), binom_zero]
    have e1 : sumN (fun k => (binom m k : Int) * F (t + k)) (m + 1) = F t + sumN (fun k => (binom m (k + 1) : Int) * F (t + (k + 1))) (m + 1) := by
      rw [sumN_shift, binom_zero]
      have : sumN (fun k => (binom m (k + 1) : Int) * F (t + (k + 1))) (m + 1) = sumN (fun k => (binom m (k + 1) : Int) * F (t + (k + 1))) m := by
        rw [sumN, binom_big m (m + 1) (by omega)]; simp
      rw [this]; simp
    rw [e1, Int.add_assoc, ← sumN_add]
    simp only [Int.natCast_one, Int.one_mul, Nat.add_zero]
    congr 1
    refine sumN_congr fun k hk => ?_
    rw [binom, Int.natCast_add, Int.add_mul, Int.add_comm, show t + 1 + k = t + (k + 1) by omega]
theorem choose_step : ∀ n, n < 16 → ∀ i, i < 16 → i < n → binom n i * (n - i) / (i + 1) = binom n (i + 1) ∧ binom n i * (n - i) ≤ 1000000 := by decide +kernel
theorem choose_stepI {n i : Nat} (hn : n < 16) (hi : i < n) : (binom n i : Int) * ((n : Int) - (i : Int)) / ((i : Int) + 1) = (binom n (i + 1) : Int) := by
  have := (choose_step n hn i (by omega) hi).1
  rw [← this, Int.natCast_ediv, Int.natCast_mul, Int.natCast_sub (by omega)]; rfl
theorem choose_bound {n i : Nat} (hn : n < 16) (hi : i < n) : 0 ≤ (binom n i : Int) * ((n : Int) - (i : Int)) ∧ (binom n i : Int) * ((n : Int) - (i : Int)) ≤ 1000000 := by
  have := (choose_step n hn i (by omega) hi).2
  have e : (binom n i : Int) * ((n : Int) - (i : Int)) = ((binom n i * (n - i) : Nat) : Int) := by
    rw [Int.natCast_mul, Int.natCast_sub (by omega)]
  rw [e]; omega

/-- The row with the numbers from place t on built. -/
def newtS (F : Nat → Int) (t j : Nat) : Int := if j < t then F j else newt F t (j - t)
theorem newtS_top (F : Nat → Int) (n j : Nat) (h : j < n) : newtS F n j = F j := by unfold newtS; rw [if_pos h]
theorem newtS_zero (F : Nat → Int) (j : Nat) : newtS F 0 j = newt F 0 j := by unfold newtS; rw [if_neg (by omega)]; rfl
end Go.Proofs.Ytpalmbcknjmmcaa
