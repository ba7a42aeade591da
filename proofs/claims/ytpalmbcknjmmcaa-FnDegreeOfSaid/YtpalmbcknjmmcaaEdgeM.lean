/-
  Edges and the numbers that they give back; degrees of differences: plain mathematics.
-/
import Derived.Test.YtpalmbcknjmmcaaDeg
import Derived.Test.YtpalmbcknjmmcaaLawM
import Derived.Test.YtpalmbcknjmmcaaFromM
import Derived.Test.YtpalmbcknjmmcaaFrom
namespace Go.Proofs.Ytpalmbcknjmmcaa
open Go.RowKit
set_option linter.unusedVariables false

theorem newt_dif (F : Nat → Int) (m : Nat) : ∀ t, newt (fun k => dif F k 0) t m = dif F t m := by
  induction m with
  | zero => intro t; rfl
  | succ m ih =>
    intro t
    show newt _ t m + newt _ (t + 1) m = _
    rw [ih t, ih (t + 1)]
    show dif F t m + (dif F t (m + 1) - dif F t m) = _
    omega
theorem dif_newt (F : Nat → Int) (k : Nat) : ∀ j, dif (fun j => newt F 0 j) k j = newt F k j := by
  induction k with
  | zero => intro j; rfl
  | succ k ih =>
    intro j
    show dif _ k (j + 1) - dif _ k j = _
    rw [ih, ih]
    show newt F k j + newt F (k + 1) j - newt F k j = _
    omega
theorem newt_congr {F G : Nat → Int} (m : Nat) : ∀ t, (∀ i, t ≤ i → i ≤ t + m → wrap64 (F i) = wrap64 (G i)) → wrap64 (newt F t m) = wrap64 (newt G t m) := by
  induction m with
  | zero => intro t h; exact h t (by omega) (by omega)
  | succ m ih =>
    intro t h
    show wrap64 (newt F t m + newt F (t + 1) m) = wrap64 (newt G t m + newt G (t + 1) m)
    rw [← w64_add, ih t (fun i a b => h i a (by omega)), ih (t + 1) (fun i a b => h i (by omega) (by omega)), w64_add]
theorem dif_congr {F G : Nat → Int} (k : Nat) : ∀ j, (∀ i, j ≤ i → i ≤ j + k → wrap64 (F i) = wrap64 (G i)) → wrap64 (dif F k j) = wrap64 (dif G k j) := by
  induction k with
  | zero => intro j h; exact h j (by omega) (by omega)
  | succ k ih =>
    intro j h
    rw [dif_succ, dif_succ, ih (j + 1) (fun i a b => h i (by omega) (by omega)), ih j (fun i a b => h i a (by omega))]
theorem len_edgeL (xs : List Int) : (edgeL xs).length = xs.length := by simp [edgeL]
theorem len_fromL (xs : List Int) : (fromL xs).length = xs.length := by simp [fromL]
theorem ix_edgeL {xs : List Int} {k : Nat} (h : k < xs.length) : ix (edgeL xs) k = wrap64 (dif (ix xs) k 0) := by unfold edgeL; rw [ix_tab _ _ _ h]
theorem ix_fromL {xs : List Int} {k : Nat} (h : k < xs.length) : ix (fromL xs) k = wrap64 (newt (ix xs) 0 k) := by unfold fromL; rw [ix_tab _ _ _ h]
theorem edge_zero {xs : List Int} (hw : ∀ n ∈ xs, (Lit.int .i64 n).wf = true) (h : 0 < xs.length) : ix (edgeL xs) 0 = ix xs 0 := by
  rw [ix_edgeL h]; exact (dif_first hw 0).symm
/-- The edge gives the row back. -/
theorem from_edge {xs : List Int} (hw : ∀ n ∈ xs, (Lit.int .i64 n).wf = true) : fromL (edgeL xs) = xs := by
  refine ext_ix (by simp [len_fromL, len_edgeL]) fun j hj => ?_
  rw [len_fromL, len_edgeL] at hj
  rw [ix_fromL (by rw [len_edgeL]; exact hj), newt_congr (G := fun k => dif (ix xs) k 0) j 0 (fun i _ hi => by rw [ix_edgeL (by omega), w64_w64]), newt_dif]
  exact (dif_first hw j).symm
/-- The row gives the edge back. -/
theorem edge_from {xs : List Int} (hw : ∀ n ∈ xs, (Lit.int .i64 n).wf = true) : edgeL (fromL xs) = xs := by
  refine ext_ix (by simp [len_fromL, len_edgeL]) fun j hj => ?_
  rw [len_edgeL, len_fromL] at hj
  rw [ix_edgeL (by rw [len_fromL]; exact hj), dif_congr (G := fun j => newt (ix xs) 0 j) j 0 (fun i _ hi => by rw [ix_fromL (by omega), w64_w64]), dif_newt]
  exact ix_wf hw j
theorem from_take {xs : List Int} {k : Nat} (h : k ≤ xs.length) : fromL (xs.take k) = (fromL xs).take k := by
  have hl : (xs.take k).length = k := by simp; omega
  have hl2 : ((fromL xs).take k).length = k := by rw [List.length_take, len_fromL]; omega
  refine ext_ix (by rw [len_fromL, hl, hl2]) fun j hj => ?_
  rw [len_fromL, hl] at hj
  have e : ix ((fromL xs).take k) j = ix (fromL xs) j := by simp [ix, List.getD, List.getElem?_take, hj]
  rw [e, ix_fromL (by rw [hl]; exact hj), ix_fromL (by omega)]
  exact newt_congr j 0 (fun i _ hi => by rw [show ix (xs.take k) i = ix xs i by simp [ix, List.getD, List.getElem?_take, show i < k by omega]])
/-- The degree's place in the edge. -/
theorem degP_facts (F : Nat → Int) (n : Nat) : -1 ≤ degP F n ∧ degP F n < n ∧ (∀ i : Nat, degP F n < i → i < n → wrap64 (dif F i 0) = 0) ∧ ∀ d : Nat, degP F n = d → wrap64 (dif F d 0) ≠ 0 := by
  induction n with
  | zero => exact ⟨by simp [degP], by simp [degP], fun i _ h => by omega, fun d h => by simp [degP] at h⟩
  | succ n ih =>
    rw [degP]
    split
    · rename_i h
      refine ⟨by omega, by omega, fun i a b => by omega, fun d e => ?_⟩
      obtain rfl : d = n := by omega
      exact h
    · rename_i h
      refine ⟨ih.1, by have := ih.2.1; omega, fun i a b => ?_, ih.2.2.2⟩
      by_cases e : i = n
      · subst e; simpa using h
      · exact ih.2.2.1 i a (by omega)
theorem degP_less {F G : Nat → Int} (n : Nat) (h : ∀ i, i < n → wrap64 (dif G i 0) = wrap64 (dif F (i + 1) 0)) (h0 : 0 ≤ degP F (n + 1)) : degP G n = degP F (n + 1) - 1 := by
  induction n with
  | zero =>
    have e : degP F 1 = if wrap64 (dif F 0 0) ≠ 0 then ((0 : Nat) : Int) else -1 := rfl
    rw [e] at h0 ⊢
    split at h0
    · rename_i hh; rw [if_pos hh]; rfl
    · omega
  | succ n ih =>
    have e1 : degP F (n + 1 + 1) = if wrap64 (dif F (n + 1) 0) ≠ 0 then ((n + 1 : Nat) : Int) else degP F (n + 1) := rfl
    have e2 : degP G (n + 1) = if wrap64 (dif G n 0) ≠ 0 then (n : Int) else degP G n := rfl
    rw [e1] at h0 ⊢
    rw [e2, h n (by omega)]
    by_cases hc : wrap64 (dif F (n + 1) 0) ≠ 0
    · rw [if_pos hc, if_pos hc]; omega
    · rw [if_neg hc] at h0 ⊢
      rw [if_neg hc]
      exact ih (fun i hi => h i (by omega)) h0
/-- The differences of a row have one degree less. -/
theorem deg_steps {xs : List Int} {n : Nat} (hn : xs.length = n + 1) (h0 : 0 ≤ degP (ix xs) (n + 1)) : degP (ix ((stepsL xs).drop 1)) n = degP (ix xs) (n + 1) - 1 := by
  refine degP_less n (fun i hi => ?_) h0
  have e : ∀ j, j < n → ix ((stepsL xs).drop 1) j = wrap64 (dif (ix xs) 1 j) := fun j hj => by
    have : ix ((stepsL xs).drop 1) j = ix (stepsL xs) (j + 1) := by simp [ix, List.getD, Nat.add_comm]
    rw [this]; unfold stepsL
    rw [ix_tab _ _ _ (by omega), if_neg (by omega), Nat.add_sub_cancel]
    rfl
  have e2 : ∀ k j, k + j < n → wrap64 (dif (ix ((stepsL xs).drop 1)) k j) = wrap64 (dif (ix xs) (k + 1) j) := by
    intro k
    induction k with
    | zero => intro j hj; show wrap64 (ix _ j) = _; rw [e j (by omega), w64_w64]
    | succ k ih =>
      intro j hj
      rw [dif_succ, ih (j + 1) (by omega), ih j (by omega), dif_succ (ix xs) (k + 1)]
  exact e2 i 0 (by omega)

end Go.Proofs.Ytpalmbcknjmmcaa
