/-
  A row times itself turned round: its second half is the row beside itself. No program is named here.
-/
import Derived.Test.YtagncoahobghpacPdS
namespace Go.Proofs.Ytagncoahobghpac
open Go.RowKit
set_option linter.unusedVariables false

theorem sumN_from (h : Nat → Int) (d : Nat) : ∀ n, sumN (fun x => if d ≤ x then h x else 0) n = sumN (fun i => h (i + d)) (n - d) := by
  intro n
  induction n with
  | zero => simp [sumN]
  | succ n ih =>
    rw [sumN, ih]
    by_cases e : d ≤ n
    · rw [if_pos e, show n + 1 - d = (n - d) + 1 by omega, sumN, Nat.sub_add_cancel e]
    · rw [if_neg e, show n + 1 - d = n - d by omega, Int.add_zero]
theorem mul_turned (F : Nat → Int) {n d : Nat} (hd : d < n) : mulE F (fun p => F (n - 1 - p)) n n (n - 1 + d) = slf F n d := by
  unfold mulE
  rw [sumN_congr (g := fun x => if d ≤ x then F x * F (x - d) else 0) (fun x hx => by
    by_cases e : d ≤ x
    · rw [if_pos e, sumN_congr (g := fun y => if y = n - 1 + d - x then F x * F (n - 1 - y) else 0) (fun y _ => by
        by_cases q : x + y = n - 1 + d
        · rw [if_pos q, if_pos (by omega)]
        · rw [if_neg q, if_neg (by omega)]), sumN_pick (fun y => F x * F (n - 1 - y)) (by omega)]
      congr 2; omega
    · rw [if_neg e]
      exact sumN_zero fun y hy => if_neg (by omega)), sumN_from]
  unfold slf
  refine sumN_congr fun i hi => ?_
  rw [Nat.add_sub_cancel, Int.mul_comm]
def rvL (xs : List Int) : List Int := tab xs.length fun p => ix xs (xs.length - 1 - p)
theorem len_rvL (xs : List Int) : (rvL xs).length = xs.length := len_tab _ _
theorem half_mul (xs : List Int) : (mulL xs (rvL xs)).drop ((mulL xs (rvL xs)).length / 2) = selL xs := by
  by_cases h : xs.length = 0
  · have : xs = [] := List.eq_nil_of_length_eq_zero h
    subst this
    rfl
  · have h2 : (rvL xs).length ≠ 0 := by rw [len_rvL]; exact h
    have hm : mulL xs (rvL xs) = tab (xs.length + xs.length - 1) fun j => wrap64 (mulE (ix xs) (fun p => ix xs (xs.length - 1 - p)) xs.length xs.length j) := by
      rw [mulL_some h h2, len_rvL]
      refine tab_congr fun j _ => ?_
      rw [mul_congr (fun i _ => rfl) (fun i hi => by unfold rvL; rw [ix_tab _ _ _ hi])]
    rw [hm, len_tab, show (xs.length + xs.length - 1) / 2 = xs.length - 1 by omega]
    unfold selL
    refine eq_tab (by rw [List.length_drop, len_tab]; omega) fun d hd => ?_
    have e : ix (List.drop (xs.length - 1) (tab (xs.length + xs.length - 1) fun j => wrap64 (mulE (ix xs) (fun p => ix xs (xs.length - 1 - p)) xs.length xs.length j))) d = wrap64 (mulE (ix xs) (fun p => ix xs (xs.length - 1 - p)) xs.length xs.length (xs.length - 1 + d)) := by
      rw [show ∀ (l : List Int) k, ix (List.drop k l) d = ix l (k + d) from fun l k => by unfold ix; simp [List.getD], ix_tab _ _ _ (by omega)]
    rw [e, mul_turned (ix xs) hd]
theorem mul_turn_len (xs : List Int) : (mulL xs (rvL xs)).length = xs.length + xs.length - 1 := by
  by_cases h : xs.length = 0
  · rw [mulL_none (.inl h), h]; rfl
  · rw [mulL_some h (by rw [len_rvL]; exact h), len_tab, len_rvL]
end Go.Proofs.Ytagncoahobghpac
