/-
  Halves and leaps as lists that are built up: pieces put together, and how far the numbers reach. Nothing of a program is named here.
-/
import Derived.Test.YtgafiglfmkaniaaHvM
namespace Go.Proofs.Ytgafiglfmkaniaa
open Go.RowKit
set_option linter.unusedVariables false

theorem tab_append (m k : Nat) (f g : Nat → Int) : tab m f ++ tab k g = tab (m + k) (fun j => if j < m then f j else g (j - m)) := by
  apply List.ext_getElem?
  intro j
  rw [List.getElem?_append, len_tab, getElem?_tab, getElem?_tab, getElem?_tab]
  by_cases h : j < m
  · rw [if_pos h, if_pos h, if_pos (by omega), if_pos h]
  · rw [if_neg h, if_neg h]
    by_cases h2 : j - m < k
    · rw [if_pos h2, if_pos (by omega)]
    · rw [if_neg h2, if_neg (by omega)]
theorem take_tab (xs : List Int) (k : Nat) (h : k ≤ xs.length) : xs.take k = tab k (ix xs) := by
  apply List.ext_getElem?
  intro j
  rw [List.getElem?_take, getElem?_tab]
  by_cases hj : j < k
  · rw [if_pos hj, if_pos hj]
    simp [ix, List.getD, List.getElem?_eq_getElem (show j < xs.length by omega)]
  · rw [if_neg hj, if_neg hj]
theorem drop_tab (xs : List Int) (k : Nat) : xs.drop k = tab (xs.length - k) (fun j => ix xs (k + j)) := by
  apply List.ext_getElem?
  intro j
  rw [List.getElem?_drop, getElem?_tab]
  by_cases hj : j < xs.length - k
  · rw [if_pos hj]
    simp [ix, List.getD, List.getElem?_eq_getElem (show k + j < xs.length by omega)]
  · rw [if_neg hj, List.getElem?_eq_none (by omega)]
/-- The means of the first 2 m numbers, then the differences: pieces. -/
theorem hal_parts (m : Nat) (F : Nat → Int) : tab m (fun i => F (2 * i) + (F (2 * i + 1) - F (2 * i)) / 2) ++ tab m (fun i => F (2 * i + 1) - F (2 * i)) = tab (2 * m) (hS m F) := by
  rw [tab_append, show m + m = 2 * m by omega]
  refine tab_congr fun j hj => ?_
  unfold hS
  by_cases h : j < m
  · rw [if_pos h, if_pos h]
  · rw [if_neg h, if_neg h, if_pos hj]
/-- Two numbers more, put together. -/
theorem unh_two (m i : Nat) (F : Nat → Int) (h : i < m) : tab (2 * i) (uS m F) ++ [F i - F (m + i) / 2, F i - F (m + i) / 2 + F (m + i)] = tab (2 * (i + 1)) (uS m F) := by
  have e : ([F i - F (m + i) / 2, F i - F (m + i) / 2 + F (m + i)] : List Int) = tab 2 (fun j => uS m F (2 * i + j)) := by
    show _ = [uS m F (2 * i + 0), uS m F (2 * i + 1)]
    rw [Nat.add_zero, uS_even h, uS_odd h]
  rw [e, tab_append, show 2 * i + 2 = 2 * (i + 1) by omega]
  refine tab_congr fun j hj => ?_
  by_cases q : j < 2 * i
  · rw [if_pos q]
  · rw [if_neg q, show 2 * i + (j - 2 * i) = j by omega]
/-- The first n of a list changed, the others as they were. -/
theorem head_tail (xs : List Int) (n : Nat) (f : Nat → Int) (h : n ≤ xs.length) : tab n f ++ xs.drop n = tab xs.length (fun j => if j < n then f j else ix xs j) := by
  rw [drop_tab, tab_append, show n + (xs.length - n) = xs.length by omega]
  refine tab_congr fun j hj => ?_
  by_cases q : j < n
  · rw [if_pos q, if_pos q]
  · rw [if_neg q, if_neg q, show n + (j - n) = j by omega]
theorem hal_head (xs : List Int) (m : Nat) (h : 2 * m ≤ xs.length) : tab (2 * m) (hS m (ix xs)) ++ xs.drop (2 * m) = tab xs.length (hS m (ix xs)) := by
  rw [head_tail _ _ _ h]
  refine tab_congr fun j hj => ?_
  by_cases q : j < 2 * m
  · rw [if_pos q]
  · rw [if_neg q, hS_high (by omega)]
theorem unh_head (xs : List Int) (m : Nat) (h : 2 * m ≤ xs.length) : tab (2 * m) (uS m (ix xs)) ++ xs.drop (2 * m) = tab xs.length (uS m (ix xs)) := by
  rw [head_tail _ _ _ h]
  refine tab_congr fun j hj => ?_
  by_cases q : j < 2 * m
  · rw [if_pos q]
  · rw [if_neg q, uS_high (by omega)]
theorem ix_take_tab {L N j : Nat} (G : Nat → Int) (hN : N ≤ L) (hj : j < N) : ix ((tab L G).take N) j = G j := by
  rw [take_tab _ _ (by rw [len_tab]; exact hN), ix_tab _ _ _ hj, ix_tab _ _ _ (by omega)]
/-- A round of all halves: the first 2 m numbers are halved, the others stay. -/
theorem hal_round {L m : Nat} (G : Nat → Int) (h : 2 * m ≤ L) : tab (2 * m) (hS m (ix ((tab L G).take (2 * m)))) ++ (tab L G).drop (2 * m) = tab L (hS m G) := by
  rw [tab_congr (hS_congr (n := 2 * m) (Nat.le_refl _) (fun j hj => ix_take_tab G h hj)), head_tail _ _ _ (by rw [len_tab]; exact h), len_tab]
  refine tab_congr fun j hj => ?_
  by_cases q : j < 2 * m
  · rw [if_pos q]
  · rw [if_neg q, hS_high (by omega), ix_tab _ _ _ hj]
theorem unh_round {L m : Nat} (G : Nat → Int) (h : 2 * m ≤ L) : tab (2 * m) (uS m (ix ((tab L G).take (2 * m)))) ++ (tab L G).drop (2 * m) = tab L (uS m G) := by
  rw [tab_congr (uS_congr (n := 2 * m) (Nat.le_refl _) (fun j hj => ix_take_tab G h hj)), head_tail _ _ _ (by rw [len_tab]; exact h), len_tab]
  refine tab_congr fun j hj => ?_
  by_cases q : j < 2 * m
  · rw [if_pos q]
  · rw [if_neg q, uS_high (by omega), ix_tab _ _ _ hj]
/-- Leaps: smoothed numbers and details, pieces. -/
theorem lep_parts (n : Nat) (F : Nat → Int) : tab n (fun i => F (2 * i) + lQ (lD n F) i) ++ tab n (lD n F) = tab (2 * n) (lpF n F) := by
  rw [tab_append, show n + n = 2 * n by omega]
  refine tab_congr fun j hj => ?_
  unfold lpF
  rfl
theorem unl_two (n i : Nat) (F : Nat → Int) : tab (2 * i) (ulF n F) ++ [eV n F i, F (n + i) + lM n (eV n F) i] = tab (2 * (i + 1)) (ulF n F) := by
  have e : ([eV n F i, F (n + i) + lM n (eV n F) i] : List Int) = tab 2 (fun j => ulF n F (2 * i + j)) := by
    show _ = [ulF n F (2 * i + 0), ulF n F (2 * i + 1)]
    rw [Nat.add_zero, ul_even, ul_odd]
  rw [e, tab_append, show 2 * i + 2 = 2 * (i + 1) by omega]
  refine tab_congr fun j hj => ?_
  by_cases q : j < 2 * i
  · rw [if_pos q]
  · rw [if_neg q, show 2 * i + (j - 2 * i) = j by omega]

end Go.Proofs.Ytgafiglfmkaniaa
