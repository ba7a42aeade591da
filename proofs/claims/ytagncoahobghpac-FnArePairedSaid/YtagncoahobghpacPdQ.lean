/-
  What the laws of quiet rows and of pairs say of the model's rows. No program is walked here.
-/
import Derived.Test.YtagncoahobghpacPdL
import Derived.Test.YtagncoahobghpacUnS
namespace Go.Proofs.Ytagncoahobghpac
open Go.RowKit
set_option linter.unusedVariables false

theorem pm_turned (xs : List Int) (h : pmB xs = true) : pmB (turnedL xs) = true := by
  refine pmB_yes fun j hj => ?_
  rw [len_turned5] at hj
  rw [ix_turned5 hj]; exact pmB_of h _ (by omega)
theorem sgn_turned {xs : List Int} (h : sgnB xs = true) : sgnB (turnedL xs) = true := by
  obtain ⟨h1, h2⟩ := sgnB_of h
  simp [sgnB, vr_turned5 h1, pm_turned xs h2]
theorem sel_turned (xs : List Int) : selL (turnedL xs) = selL xs := by
  unfold selL
  rw [len_turned5]
  refine tab_congr fun d hd => ?_
  rw [slf_congr (G := fun i => ix xs (xs.length - 1 - i)) (fun i hi => ix_turned5 hi), slf_rev]
theorem qu_turned {xs : List Int} (h : quB xs = true) : quB (turnedL xs) = true := by
  obtain ⟨h1, h2, h3⟩ := quB_of h
  refine quB_yes (sgn_turned h1) (by rw [len_turned5]; exact h2) ?_
  rw [len_turned5, sel_turned]; exact h3
theorem len_scaled (c : Int) (xs : List Int) : (scaledL c xs).length = xs.length := len_tab _ _
theorem ix_scaled {c : Int} {xs : List Int} {j : Nat} (h : j < xs.length) : ix (scaledL c xs) j = wrap64 (c * ix xs j) := by unfold scaledL; rw [ix_tab _ _ _ h]
theorem ix_neg {xs : List Int} (h : sgnB xs = true) {j : Nat} (hj : j < xs.length) : ix (scaledL (-1) xs) j = -(ix xs j) := by
  rw [ix_scaled hj]
  rcases pmB_of (sgnB_of h).2 j hj with e | e <;> rw [e] <;> unfold wrap64 <;> omega
theorem sgn_neg {xs : List Int} (h : sgnB xs = true) : sgnB (scaledL (-1) xs) = true := by
  obtain ⟨h1, h2⟩ := sgnB_of h
  have v : vrB (scaledL (-1) xs) = true := by
    refine vrB_yes (by rw [len_scaled]; exact (vrB_of h1).1) fun j hj => ?_
    rw [len_scaled] at hj
    rw [ix_neg h hj]
    have := (vrB_of h1).2 j hj
    omega
  have p : pmB (scaledL (-1) xs) = true := by
    refine pmB_yes fun j hj => ?_
    rw [len_scaled] at hj
    rw [ix_neg h hj]
    have := pmB_of h2 j hj
    omega
  simp [sgnB, v, p]
theorem sel_neg {xs : List Int} (h : sgnB xs = true) : selL (scaledL (-1) xs) = selL xs := by
  unfold selL
  rw [len_scaled]
  refine tab_congr fun d hd => ?_
  rw [slf_congr (G := fun i => -(ix xs i)) (fun i hi => ix_neg h hi), slf_neg]
theorem qu_neg {xs : List Int} (h : quB xs = true) : quB (scaledL (-1) xs) = true := by
  obtain ⟨h1, h2, h3⟩ := quB_of h
  refine quB_yes (sgn_neg h1) (by rw [len_scaled]; exact h2) ?_
  rw [len_scaled, sel_neg h1]; exact h3
theorem pa_sym {xs ys : List Int} (h : paB xs ys = true) : paB ys xs = true := by
  obtain ⟨h1, h2, h3, h4, h5⟩ := paB_of h
  refine paB_yes ⟨h2, h1, h3.symm, by rw [← h3]; exact h4, fun d hd h0 => ?_⟩
  rw [Int.add_comm]; exact h5 d (by rw [h3]; exact hd) h0
theorem pa_turned {xs ys : List Int} (h : paB xs ys = true) : paB (turnedL xs) ys = true := by
  obtain ⟨h1, h2, h3, h4, h5⟩ := paB_of h
  refine paB_yes ⟨sgn_turned h1, h2, by rw [len_turned5]; exact h3, by rw [len_turned5]; exact h4, ?_⟩
  rw [len_turned5, sel_turned]; exact h5
theorem pa_neg {xs ys : List Int} (h : paB xs ys = true) : paB xs (scaledL (-1) ys) = true := by
  obtain ⟨h1, h2, h3, h4, h5⟩ := paB_of h
  refine paB_yes ⟨h1, sgn_neg h2, by rw [len_scaled]; exact h3, h4, ?_⟩
  rw [sel_neg h2]; exact h5
/-- Both rows behind each other, the second one once with the other signs. -/
def catL (xs ys : List Int) : List Int := xs ++ ys
def negL (xs : List Int) : List Int := tab xs.length fun j => wrap64 (-(ix xs j))
theorem ix_cat1 {xs ys : List Int} {j : Nat} (h : j < xs.length) : ix (xs ++ ys) j = ix xs j := by unfold ix; simp [List.getD, List.getElem?_append_left h]
theorem ix_cat2 {xs ys : List Int} (j : Nat) : ix (xs ++ ys) (xs.length + j) = ix ys j := by unfold ix; simp [List.getD, List.getElem?_append_right]
theorem len_negL (xs : List Int) : (negL xs).length = xs.length := len_tab _ _
theorem ix_negL {xs : List Int} (h : sgnB xs = true) {j : Nat} (hj : j < xs.length) : ix (negL xs) j = -(ix xs j) := by
  unfold negL
  rw [ix_tab _ _ _ hj]
  rcases pmB_of (sgnB_of h).2 j hj with e | e <;> rw [e] <;> unfold wrap64 <;> omega
theorem sgn_cat {xs ys : List Int} (h1 : pmB xs = true) (h2 : pmB ys = true) (hl : xs.length + ys.length ≤ 16) : sgnB (xs ++ ys) = true := by
  have p : ∀ j, j < xs.length + ys.length → ix (xs ++ ys) j = 1 ∨ ix (xs ++ ys) j = -1 := fun j hj => by
    rcases Nat.lt_or_ge j xs.length with q | q
    · rw [ix_cat1 q]; exact pmB_of h1 j q
    · obtain ⟨k, rfl⟩ : ∃ k, j = xs.length + k := ⟨j - xs.length, by omega⟩
      rw [ix_cat2]; exact pmB_of h2 k (by omega)
  have v : vrB (xs ++ ys) = true := vrB_yes (by rw [List.length_append]; exact hl) fun j hj => by
    rw [List.length_append] at hj
    rcases p j hj with e | e <;> rw [e] <;> decide
  simp only [sgnB, Bool.and_eq_true]
  exact ⟨v, pmB_yes (by rw [List.length_append]; exact p)⟩
theorem slf_bd {F : Nat → Int} {n d : Nat} (hn : n ≤ 16) (hd : d ≤ n) (h : ∀ i, i < n → F i = 1 ∨ F i = -1) : -16 ≤ slf F n d ∧ slf F n d ≤ 16 := by
  have a := slf_le F hd
  rw [slf_zero, sq_signs h] at a
  omega
theorem sel_ix {xs : List Int} (h : sgnB xs = true) {d : Nat} (hd : d < xs.length) : ix (selL xs) d = slf (ix xs) xs.length d := by
  unfold selL
  rw [ix_tab _ _ _ hd]
  have := slf_bd (F := ix xs) (vrB_of (sgnB_of h).1).1 (Nat.le_of_lt hd) (pmB_of (sgnB_of h).2)
  exact w64_id (by omega)
/-- Pairs double. -/
theorem pa_double {xs ys : List Int} (h : paB xs ys = true) (hl : xs.length + ys.length ≤ 16) : paB (xs ++ ys) (xs ++ negL ys) = true := by
  obtain ⟨h1, h2, h3, h4, h5⟩ := paB_of h
  have p1 := (sgnB_of h1).2
  have p2 := (sgnB_of h2).2
  have p3 : pmB (negL ys) = true := pmB_yes fun j hj => by
    rw [len_negL] at hj
    rw [ix_negL h2 hj]
    have := pmB_of p2 j hj
    omega
  have s1 := sgn_cat p1 p2 hl
  have s2 := sgn_cat p1 p3 (by rw [len_negL]; exact hl)
  have e2 : (xs ++ ys).length = 2 * xs.length := by rw [List.length_append, ← h3]; omega
  have e3 : (xs ++ negL ys).length = 2 * xs.length := by rw [List.length_append, len_negL, ← h3]; omega
  refine paB_yes ⟨s1, s2, by rw [e2, e3], by rw [e2]; omega, fun d hd h0 => ?_⟩
  rw [e2] at hd
  rw [sel_ix s1 (by rw [e2]; exact hd), sel_ix s2 (by rw [e3]; exact hd), e2, e3]
  have k := slf_pair (ix xs) (ix ys) (ix (xs ++ ys)) (ix (xs ++ negL ys)) (n := xs.length) (d := d)
    (fun i hi => ⟨ix_cat1 hi, ix_cat1 hi⟩) (fun i hi => ⟨ix_cat2 i, by rw [ix_cat2, ix_negL h2 (by omega)]⟩)
    (fun d h0 hd => by
      have := h5 d hd h0
      rw [sel_ix h1 hd, sel_ix h2 (by omega), ← h3] at this
      have a := slf_bd (F := ix xs) (d := d) (vrB_of (sgnB_of h1).1).1 (Nat.le_of_lt hd) (pmB_of p1)
      have b := slf_bd (F := ix ys) (n := xs.length) (d := d) (vrB_of (sgnB_of h1).1).1 (Nat.le_of_lt hd) (by rw [h3]; exact pmB_of p2)
      rw [w64_id (by omega)] at this
      exact this) h0 hd
  rw [k]; unfold wrap64; omega
end Go.Proofs.Ytagncoahobghpac
