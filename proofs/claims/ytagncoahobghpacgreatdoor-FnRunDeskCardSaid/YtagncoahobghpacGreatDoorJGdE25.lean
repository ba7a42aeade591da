/-
  Joined texts: HvN, HvW.
-/
import Derived.Test.YtagncoahobghpacGreatDoorJGdE24
import Derived.Test.YtagncoahobghpacGreatDoorMa1
namespace Go.Proofs.YtagncoahobghpacGreatDoor
open Go.RowKit
set_option linter.unusedVariables false

theorem tab_append (m k : Nat) (f g : Nat → Int) : tab m f ++ tab k g = tab (m + k) (fun j => if j < m then f j else g (j - m)) := by
  apply List.ext_getElem?
  intro j
  rw [List.getElem?_append, len_tab, getElem?_tab, getElem?_tab, getElem?_tab]
  by_cases h : j < m
  · rw [if_pos h, if_pos h, if_pos (by omega), if_pos h]
  · rw [if_neg h, if_neg h]
    by_cases h2 : j - m < k
    · rw [if_pos h2, if_pos (by omega)]
    · rw [if_neg h2, if_neg (by omega)]
theorem take_tab (xs : List Int) (k : Nat) (h : k ≤ xs.length) : xs.take k = tab k (ix xs) := by
  apply List.ext_getElem?
  intro j
  rw [List.getElem?_take, getElem?_tab]
  by_cases hj : j < k
  · rw [if_pos hj, if_pos hj]
    simp [ix, List.getD, List.getElem?_eq_getElem (show j < xs.length by omega)]
  · rw [if_neg hj, if_neg hj]
theorem drop_tab (xs : List Int) (k : Nat) : xs.drop k = tab (xs.length - k) (fun j => ix xs (k + j)) := by
  apply List.ext_getElem?
  intro j
  rw [List.getElem?_drop, getElem?_tab]
  by_cases hj : j < xs.length - k
  · rw [if_pos hj]
    simp [ix, List.getD, List.getElem?_eq_getElem (show k + j < xs.length by omega)]
  · rw [if_neg hj, List.getElem?_eq_none (by omega)]
/-- The means of the first 2 m numbers, then the differences: pieces. -/
theorem hal_parts (m : Nat) (F : Nat → Int) : tab m (fun i => F (2 * i) + (F (2 * i + 1) - F (2 * i)) / 2) ++ tab m (fun i => F (2 * i + 1) - F (2 * i)) = tab (2 * m) (hS m F) := by
  rw [tab_append, show m + m = 2 * m by omega]
  refine tab_congr fun j hj => ?_
  unfold hS
  by_cases h : j < m
  · rw [if_pos h, if_pos h]
  · rw [if_neg h, if_neg h, if_pos hj]
/-- Two numbers more, put together. -/
theorem unh_two (m i : Nat) (F : Nat → Int) (h : i < m) : tab (2 * i) (uS m F) ++ [F i - F (m + i) / 2, F i - F (m + i) / 2 + F (m + i)] = tab (2 * (i + 1)) (uS m F) := by
  have e : ([F i - F (m + i) / 2, F i - F (m + i) / 2 + F (m + i)] : List Int) = tab 2 (fun j => uS m F (2 * i + j)) := by
    show _ = [uS m F (2 * i + 0), uS m F (2 * i + 1)]
    rw [Nat.add_zero, uS_even h, uS_odd h]
  rw [e, tab_append, show 2 * i + 2 = 2 * (i + 1) by omega]
  refine tab_congr fun j hj => ?_
  by_cases q : j < 2 * i
  · rw [if_pos q]
  · rw [if_neg q, show 2 * i + (j - 2 * i) = j by omega]
/-- The first n of a list changed, the others as they were. -/
theorem head_tail (xs : List Int) (n : Nat) (f : Nat → Int) (h : n ≤ xs.length) : tab n f ++ xs.drop n = tab xs.length (fun j => if j < n then f j else ix xs j) := by
  rw [drop_tab, tab_append, show n + (xs.length - n) = xs.length by omega]
  refine tab_congr fun j hj => ?_
  by_cases q : j < n
  · rw [if_pos q, if_pos q]
  · rw [if_neg q, if_neg q, show n + (j - n) = j by omega]
theorem hal_head (xs : List Int) (m : Nat) (h : 2 * m ≤ xs.length) : tab (2 * m) (hS m (ix xs)) ++ xs.drop (2 * m) = tab xs.length (hS m (ix xs)) := by
  rw [head_tail _ _ _ h]
  refine tab_congr fun j hj => ?_
  by_cases q : j < 2 * m
  · rw [if_pos q]
  · rw [if_neg q, hS_high (by omega)]
theorem unh_head (xs : List Int) (m : Nat) (h : 2 * m ≤ xs.length) : tab (2 * m) (uS m (ix xs)) ++ xs.drop (2 * m) = tab xs.length (uS m (ix xs)) := by
  rw [head_tail _ _ _ h]
  refine tab_congr fun j hj => ?_
  by_cases q : j < 2 * m
  · rw [if_pos q]
  · rw [if_neg q, uS_high (by omega)]
theorem ix_take_tab {L N j : Nat} (G : Nat → Int) (hN : N ≤ L) (hj : j < N) : ix ((tab L G).take N) j = G j := by
  rw [take_tab _ _ (by rw [len_tab]; exact hN), ix_tab _ _ _ hj, ix_tab _ _ _ (by omega)]
/-- A round of all halves: the first 2 m numbers are halved, the others stay. -/
theorem hal_round {L m : Nat} (G : Nat → Int) (h : 2 * m ≤ L) : tab (2 * m) (hS m (ix ((tab L G).take (2 * m)))) ++ (tab L G).drop (2 * m) = tab L (hS m G) := by
  rw [tab_congr (hS_congr (n := 2 * m) (Nat.le_refl _) (fun j hj => ix_take_tab G h hj)), head_tail _ _ _ (by rw [len_tab]; exact h), len_tab]
  refine tab_congr fun j hj => ?_
  by_cases q : j < 2 * m
  · rw [if_pos q]
  · rw [if_neg q, hS_high (by omega), ix_tab _ _ _ hj]
theorem unh_round {L m : Nat} (G : Nat → Int) (h : 2 * m ≤ L) : tab (2 * m) (uS m (ix ((tab L G).take (2 * m)))) ++ (tab L G).drop (2 * m) = tab L (uS m G) := by
  rw [tab_congr (uS_congr (n := 2 * m) (Nat.le_refl _) (fun j hj => ix_take_tab G h hj)), head_tail _ _ _ (by rw [len_tab]; exact h), len_tab]
  refine tab_congr fun j hj => ?_
  by_cases q : j < 2 * m
  · rw [if_pos q]
  · rw [if_neg q, uS_high (by omega), ix_tab _ _ _ hj]
/-- Leaps: smoothed numbers and details, pieces. -/
theorem lep_parts (n : Nat) (F : Nat → Int) : tab n (fun i => F (2 * i) + lQ (lD n F) i) ++ tab n (lD n F) = tab (2 * n) (lpF n F) := by
  rw [tab_append, show n + n = 2 * n by omega]
  refine tab_congr fun j hj => ?_
  unfold lpF
  rfl
theorem unl_two (n i : Nat) (F : Nat → Int) : tab (2 * i) (ulF n F) ++ [eV n F i, F (n + i) + lM n (eV n F) i] = tab (2 * (i + 1)) (ulF n F) := by
  have e : ([eV n F i, F (n + i) + lM n (eV n F) i] : List Int) = tab 2 (fun j => ulF n F (2 * i + j)) := by
    show _ = [ulF n F (2 * i + 0), ulF n F (2 * i + 1)]
    rw [Nat.add_zero, ul_even, ul_odd]
  rw [e, tab_append, show 2 * i + 2 = 2 * (i + 1) by omega]
  refine tab_congr fun j hj => ?_
  by_cases q : j < 2 * i
  · rw [if_pos q]
  · rw [if_neg q, show 2 * i + (j - 2 * i) = j by omega]

end Go.Proofs.YtagncoahobghpacGreatDoor

namespace Go.Proofs.YtagncoahobghpacGreatDoor
open Go.RowKit
set_option linter.unusedVariables false

/-- Numbers with even indices ahead of those with odd ones: k of m pairs are done. -/
def apK (m k : Nat) (F : Nat → Int) (j : Nat) : Int := if j < k then F (2 * j) else if m ≤ j ∧ j < m + k then F (2 * (j - m) + 1) else F j
theorem apK_none (L m : Nat) (F : Nat → Int) : tab L (apK m 0 F) = tab L F := tab_congr fun j _ => by
  unfold apK; rw [if_neg (by omega), if_neg (by omega)]
theorem apK_low {m j : Nat} (F : Nat → Int) (h : j < m) : apK m m F j = F (2 * j) := if_pos h
theorem apK_mid {m i : Nat} (F : Nat → Int) (h : i < m) : apK m m F (m + i) = F (2 * i + 1) := by
  unfold apK; rw [if_neg (by omega), if_pos (by omega), show m + i - m = i by omega]
theorem apK_high {m j : Nat} (F : Nat → Int) (h : 2 * m ≤ j) : apK m m F j = F j := by
  unfold apK; rw [if_neg (by omega), if_neg (by omega)]
theorem apK_step (L : Nat) {m k : Nat} (F : Nat → Int) (h : k < m) : ((tab L (apK m k F)).set k (F (2 * k))).set (m + k) (F (2 * k + 1)) = tab L (apK m (k + 1) F) := by
  rw [tab_set, tab_set]
  refine tab_congr fun j _ => ?_
  by_cases h1 : j = m + k
  · subst h1
    unfold apK
    rw [if_pos rfl, if_neg (by omega), if_pos (by omega), show m + k - m = k by omega]
  · rw [if_neg h1]
    by_cases h2 : j = k
    · subst h2; unfold apK; rw [if_pos rfl, if_pos (by omega)]
    · rw [if_neg h2]
      unfold apK
      by_cases h3 : j < k
      · rw [if_pos h3, if_pos (by omega)]
      · have h5 : ¬ j < k + 1 := by omega
        rw [if_neg h3, if_neg h5]
        by_cases h4 : m ≤ j ∧ j < m + k
        · rw [if_pos h4, if_pos (by omega)]
        · rw [if_neg h4, if_neg (by omega)]

/-- The way back: k of m pairs are done. -/
def tgK (m k : Nat) (F : Nat → Int) (j : Nat) : Int := if j < 2 * k then (if j % 2 = 0 then F (j / 2) else F (m + j / 2)) else F j
theorem tgK_none (L m : Nat) (F : Nat → Int) : tab L (tgK m 0 F) = tab L F := tab_congr fun j _ => by
  unfold tgK; rw [if_neg (by omega)]
theorem tgK_even {m i : Nat} (F : Nat → Int) (h : i < m) : tgK m m F (2 * i) = F i := by
  unfold tgK; rw [if_pos (by omega), if_pos (by omega), show 2 * i / 2 = i by omega]
theorem tgK_odd {m i : Nat} (F : Nat → Int) (h : i < m) : tgK m m F (2 * i + 1) = F (m + i) := by
  unfold tgK; rw [if_pos (by omega), if_neg (by omega), show (2 * i + 1) / 2 = i by omega]
theorem tgK_high {m j : Nat} (F : Nat → Int) (h : 2 * m ≤ j) : tgK m m F j = F j := by
  unfold tgK; rw [if_neg (by omega)]
theorem tgK_step (L m k : Nat) (F : Nat → Int) : ((tab L (tgK m k F)).set (2 * k) (F k)).set (2 * k + 1) (F (m + k)) = tab L (tgK m (k + 1) F) := by
  rw [tab_set, tab_set]
  refine tab_congr fun j _ => ?_
  by_cases h1 : j = 2 * k + 1
  · subst h1; unfold tgK; rw [if_pos rfl, if_pos (by omega), if_neg (by omega), show (2 * k + 1) / 2 = k by omega]
  · rw [if_neg h1]
    by_cases h2 : j = 2 * k
    · subst h2; unfold tgK; rw [if_pos rfl, if_pos (by omega), if_pos (by omega), show 2 * k / 2 = k by omega]
    · rw [if_neg h2]
      unfold tgK
      by_cases h3 : j < 2 * k
      · have h5 : j < 2 * (k + 1) := by omega
        rw [if_pos h3, if_pos h5]
      · have h5 : ¬ j < 2 * (k + 1) := by omega
        rw [if_neg h3, if_neg h5]

/-- k numbers from index m on are new. -/
def putW (m k : Nat) (u F : Nat → Int) (j : Nat) : Int := if m ≤ j ∧ j < m + k then u (j - m) else F j
theorem putW_none (L m : Nat) (u F : Nat → Int) : tab L (putW m 0 u F) = tab L F := tab_congr fun j _ => by
  unfold putW; rw [if_neg (by omega)]
theorem putW_low {m k j : Nat} (u F : Nat → Int) (h : j < m) : putW m k u F j = F j := by unfold putW; rw [if_neg (by omega)]
theorem putW_mid {m k i : Nat} (u F : Nat → Int) (h : i < k) : putW m k u F (m + i) = u i := by
  unfold putW; rw [if_pos (by omega), show m + i - m = i by omega]
theorem putW_next (m k : Nat) (u F : Nat → Int) : putW m k u F (m + k) = F (m + k) := by unfold putW; rw [if_neg (by omega)]
theorem putW_high {m k j : Nat} (u F : Nat → Int) (h : m + k ≤ j) : putW m k u F j = F j := by unfold putW; rw [if_neg (by omega)]
theorem putW_step (L m k : Nat) (u F : Nat → Int) : (tab L (putW m k u F)).set (m + k) (u k) = tab L (putW m (k + 1) u F) := by
  rw [tab_set]
  refine tab_congr fun j _ => ?_
  by_cases h1 : j = m + k
  · subst h1; rw [if_pos rfl, putW_mid u F (by omega)]
  · rw [if_neg h1]
    unfold putW
    by_cases h2 : m ≤ j ∧ j < m + k
    · rw [if_pos h2, if_pos (by omega)]
    · rw [if_neg h2, if_neg (by omega)]
theorem upto_ge {k j : Nat} (F G : Nat → Int) (h : k ≤ j) : upto k F G j = G j := by unfold upto; rw [if_neg (by omega)]

/-- What a number with an odd index is taken to be, of halves and of leaps; what details add. -/
def gsH (_m : Nat) (F : Nat → Int) (i : Nat) : Int := F i
def shH (m : Nat) (F : Nat → Int) (i : Nat) : Int := F (m + i) / 2
def gsL (m : Nat) (F : Nat → Int) (i : Nat) : Int := lM m F i
def shL (m : Nat) (F : Nat → Int) (i : Nat) : Int := lQ (fun j => F (m + j)) i
theorem gsH_congr {m : Nat} {F G : Nat → Int} (h : ∀ j, j < m → F j = G j) {i : Nat} (hi : i < m) : gsH m F i = gsH m G i := h i hi
theorem shH_congr {m : Nat} {F G : Nat → Int} (h : ∀ j, j < m → F (m + j) = G (m + j)) {i : Nat} (hi : i < m) : shH m F i = shH m G i := by unfold shH; rw [h i hi]
theorem gsL_congr {m : Nat} {F G : Nat → Int} (h : ∀ j, j < m → F j = G j) {i : Nat} (hi : i < m) : gsL m F i = gsL m G i := lM_congr h hi
theorem shL_congr {m : Nat} {F G : Nat → Int} (h : ∀ j, j < m → F (m + j) = G (m + j)) {i : Nat} (hi : i < m) : shL m F i = shL m G i := lQ_congr h hi
theorem gsH_bound {m : Nat} {F : Nat → Int} {c : Int} (h : ∀ j, j < m → -c ≤ F j ∧ F j ≤ c) {i : Nat} (hi : i < m) : -c ≤ gsH m F i ∧ gsH m F i ≤ c := h i hi
theorem shH_bound {m : Nat} {F : Nat → Int} {c : Int} (h : ∀ j, j < m → -c ≤ F (m + j) ∧ F (m + j) ≤ c) {i : Nat} (hi : i < m) : -(c + 1) ≤ shH m F i ∧ shH m F i ≤ c + 1 := by
  have := h i hi; unfold shH; omega
theorem gsL_bound {m : Nat} {F : Nat → Int} {c : Int} (h : ∀ j, j < m → -c ≤ F j ∧ F j ≤ c) {i : Nat} (hi : i < m) : -c ≤ gsL m F i ∧ gsL m F i ≤ c := lM_bound h hi
theorem shL_bound {m : Nat} {F : Nat → Int} {c : Int} (h : ∀ j, j < m → -c ≤ F (m + j) ∧ F (m + j) ≤ c) {i : Nat} (hi : i < m) : -(c + 1) ≤ shL m F i ∧ shL m F i ≤ c + 1 := lQ_bound h hi

/-- The details, and then the smoothed numbers, of a row put apart. -/
def dtU (gs : Nat → (Nat → Int) → Nat → Int) (m : Nat) (G : Nat → Int) (i : Nat) : Int := G (m + i) - gs m G i
def smU (sh : Nat → (Nat → Int) → Nat → Int) (m : Nat) (G : Nat → Int) (j : Nat) : Int := G j + sh m G j
/-- The way back. -/
def evU (sh : Nat → (Nat → Int) → Nat → Int) (m : Nat) (F : Nat → Int) (j : Nat) : Int := F j - sh m F j
def odU (gs : Nat → (Nat → Int) → Nat → Int) (m : Nat) (E : Nat → Int) (i : Nat) : Int := E (m + i) + gs m E i
def lftF (gs sh : Nat → (Nat → Int) → Nat → Int) (m : Nat) (F : Nat → Int) : Nat → Int :=
  upto m (smU sh m (putW m m (dtU gs m (apK m m F)) (apK m m F))) (putW m m (dtU gs m (apK m m F)) (apK m m F))
def lowF (gs sh : Nat → (Nat → Int) → Nat → Int) (m : Nat) (F : Nat → Int) : Nat → Int :=
  tgK m m (putW m m (odU gs m (upto m (evU sh m F) F)) (upto m (evU sh m F) F))
theorem lftH (L m : Nat) (F : Nat → Int) : tab L (lftF gsH shH m F) = tab L (hS m F) := by
  refine tab_congr fun j _ => ?_
  unfold lftF
  rcases mid_cases m j with h | ⟨i, h, rfl⟩ | h
  · rw [upto_lt _ _ h, hS_low h]
    unfold smU shH
    rw [putW_low _ _ h, putW_mid _ _ h, apK_low F h]
    unfold dtU gsH
    rw [apK_mid F h, apK_low F h]
  · rw [upto_ge _ _ (by omega), putW_mid _ _ h, hS_mid h]
    unfold dtU gsH
    rw [apK_mid F h, apK_low F h]
  · rw [upto_ge _ _ (by omega), putW_high _ _ (by omega), apK_high F h, hS_high h]
theorem lowH (L m : Nat) (F : Nat → Int) : tab L (lowF gsH shH m F) = tab L (uS m F) := by
  refine tab_congr fun j _ => ?_
  unfold lowF
  rcases two_cases m j with ⟨i, h, rfl⟩ | ⟨i, h, rfl⟩ | h
  · rw [tgK_even _ h, putW_low _ _ h, upto_lt _ _ h, uS_even h]; rfl
  · rw [tgK_odd _ h, putW_mid _ _ h, uS_odd h]
    unfold odU gsH
    rw [upto_lt _ _ h, upto_ge _ _ (by omega)]
    unfold evU shH
    omega
  · rw [tgK_high _ h, putW_high _ _ (by omega), upto_ge _ _ (by omega), uS_high h]
theorem lft_even {m : Nat} (F : Nat → Int) {i : Nat} (h : i < m) : dtU gsL m (apK m m F) i = lD m F i := by
  unfold dtU lD gsL
  rw [apK_mid F h, lM_congr (fun i hi => apK_low F hi) h]
theorem lftL (m : Nat) (F : Nat → Int) : tab (2 * m) (lftF gsL shL m F) = tab (2 * m) (lpF m F) := by
  refine tab_congr fun j hj => ?_
  unfold lftF
  rcases mid_cases m j with h | ⟨i, h, rfl⟩ | h
  · rw [upto_lt _ _ h, lp_low h]
    unfold smU shL
    rw [putW_low _ _ h, apK_low F h, lQ_congr (G := lD m F) (fun i hi => by rw [putW_mid _ _ hi, lft_even F hi]) h]
  · rw [upto_ge _ _ (by omega), putW_mid _ _ h, lp_mid, lft_even F h]
  · omega
theorem lowL (m : Nat) (F : Nat → Int) : tab (2 * m) (lowF gsL shL m F) = tab (2 * m) (ulF m F) := by
  refine tab_congr fun j hj => ?_
  unfold lowF
  rcases two_cases m j with ⟨i, h, rfl⟩ | ⟨i, h, rfl⟩ | h
  · rw [tgK_even _ h, putW_low _ _ h, upto_lt _ _ h, ul_even]; rfl
  · rw [tgK_odd _ h, putW_mid _ _ h, ul_odd]
    unfold odU gsL
    rw [upto_ge _ _ (by omega), lM_congr (G := eV m F) (fun i hi => by rw [upto_lt _ _ hi]; rfl) h]
  · omega

end Go.Proofs.YtagncoahobghpacGreatDoor
