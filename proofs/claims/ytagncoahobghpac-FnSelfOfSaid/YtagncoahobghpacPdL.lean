/-
  What the laws of chapter 5 say of the model's rows. No program is walked here.
-/
import Derived.Test.YtagncoahobghpacPdP
import Derived.Test.YtagncoahobghpacPdS
import Derived.Test.YtagncoahobghpacHelpG
namespace Go.Proofs.Ytagncoahobghpac
open Go.RowKit
set_option linter.unusedVariables false

theorem len_turned5 (xs : List Int) : (turnedL xs).length = xs.length := len_tab _ _
theorem ix_turned5 {xs : List Int} {j : Nat} (h : j < xs.length) : ix (turnedL xs) j = ix xs (xs.length - 1 - j) := by unfold turnedL; rw [ix_tab _ _ _ h]
theorem vr_turned5 {xs : List Int} (h : vrB xs = true) : vrB (turnedL xs) = true := by
  obtain ⟨h1, h2⟩ := vrB_of h
  refine vrB_yes (by rw [len_turned5]; exact h1) fun j hj => ?_
  rw [len_turned5] at hj
  rw [ix_turned5 hj]; exact h2 _ (by omega)
theorem vr_turned5B (xs : List Int) : vrB (turnedL xs) = vrB xs := by
  cases h : vrB xs with
  | true => exact vr_turned5 h
  | false =>
    cases h2 : vrB (turnedL xs) with
    | false => rfl
    | true =>
      obtain ⟨h3, h4⟩ := vrB_of h2
      rw [len_turned5] at h3 h4
      rw [vrB_yes h3 fun j hj => by have := h4 (xs.length - 1 - j) (by omega); rw [ix_turned5 (by omega), show xs.length - 1 - (xs.length - 1 - j) = j by omega] at this; exact this] at h
      cases h
theorem mul_symL (xs ys : List Int) : mulL ys xs = mulL xs ys := by
  by_cases h : xs.length = 0 ∨ ys.length = 0
  · rw [mulL_none h, mulL_none h.symm]
  · rw [mulL_some (by omega) (by omega), mulL_some (by omega) (by omega), show ys.length + xs.length - 1 = xs.length + ys.length - 1 by omega]
    exact tab_congr fun j _ => by rw [mul_comm2]
theorem tim_sym (xs ys : List Int) : timF ys xs = timF xs ys := by
  unfold timF
  by_cases h : vrB xs = true ∧ vrB ys = true
  · rw [if_pos h, if_pos ⟨h.2, h.1⟩, mul_symL]
  · rw [if_neg h, if_neg fun q => h ⟨q.2, q.1⟩]
/-- Where a product has numbers. -/
theorem tim_some {xs ys : List Int} (h : (timF xs ys).length ≠ 0) : vrB xs = true ∧ vrB ys = true ∧ xs.length ≠ 0 ∧ ys.length ≠ 0 ∧ timF xs ys = tab (xs.length + ys.length - 1) fun j => wrap64 (mulE (ix xs) (ix ys) xs.length ys.length j) := by
  by_cases q : vrB xs = true ∧ vrB ys = true
  · rw [timF_yes q.1 q.2] at h ⊢
    by_cases r : xs.length = 0 ∨ ys.length = 0
    · rw [mulL_none r] at h; simp at h
    · exact ⟨q.1, q.2, by omega, by omega, mulL_some (by omega) (by omega)⟩
  · rw [timF_no q] at h; simp at h
theorem sum_w64 (f : Nat → Int) (n : Nat) : wrap64 (sumN (fun i => wrap64 (f i)) n) = wrap64 (sumN f n) := by
  induction n with
  | zero => rfl
  | succ n ih => rw [sumN, sumN, w64_addR, ← w64_addL, ih, w64_addL]
theorem tim_total {xs ys : List Int} (h : (timF xs ys).length ≠ 0) : wrap64 (sumN (ix (timF xs ys)) (timF xs ys).length) = wrap64 (wrap64 (sumN (ix xs) xs.length) * wrap64 (sumN (ix ys) ys.length)) := by
  obtain ⟨_, _, h1, h2, e⟩ := tim_some h
  rw [e, len_tab, sumN_congr (fun j hj => ix_tab _ _ _ hj), sum_w64, mul_total _ _ (by omega)]
  have e : ∀ q, wrap64 q % 18446744073709551616 = q % 18446744073709551616 := fun q => by unfold wrap64; omega
  have e2 : (wrap64 (sumN (ix xs) xs.length) * wrap64 (sumN (ix ys) ys.length)) % 18446744073709551616 = (sumN (ix xs) xs.length * sumN (ix ys) ys.length) % 18446744073709551616 := by
    rw [Int.mul_emod, e, e, ← Int.mul_emod]
  generalize wrap64 (sumN (ix xs) xs.length) * wrap64 (sumN (ix ys) ys.length) = p at e2 ⊢
  generalize sumN (ix xs) xs.length * sumN (ix ys) ys.length = q at e2 ⊢
  unfold wrap64
  omega
theorem tim_turned {xs ys : List Int} (h : (timF xs ys).length ≠ 0) : timF (turnedL xs) (turnedL ys) = turnedL (timF xs ys) := by
  obtain ⟨v1, v2, h1, h2, e⟩ := tim_some h
  rw [timF_yes (vr_turned5 v1) (vr_turned5 v2), mulL_some (by rw [len_turned5]; exact h1) (by rw [len_turned5]; exact h2), len_turned5, len_turned5]
  have el : (timF xs ys).length = xs.length + ys.length - 1 := by rw [e, len_tab]
  unfold turnedL
  rw [el]
  refine tab_congr fun j hj => ?_
  rw [e, ix_tab _ _ _ (by omega)]
  congr 1
  rw [show xs.length + ys.length - 1 - 1 - j = xs.length + ys.length - 2 - j by omega, ← mul_rev (ix xs) (ix ys) (by omega) (by omega) (by omega)]
  exact mul_congr (fun i hi => ix_tab _ _ _ hi) (fun i hi => ix_tab _ _ _ hi) j
theorem timF_len64 (xs ys : List Int) : (timF xs ys).length ≤ 64 := by
  by_cases h : (timF xs ys).length = 0
  · omega
  · obtain ⟨v1, v2, _, _, e⟩ := tim_some h
    have := (vrB_of v1).1
    have := (vrB_of v2).1
    rw [e, len_tab]; omega
end Go.Proofs.Ytagncoahobghpac
