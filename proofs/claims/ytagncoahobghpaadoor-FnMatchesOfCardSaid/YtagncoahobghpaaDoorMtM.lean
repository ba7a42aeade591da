/-
  Texts that a pattern matches: differences squared and misses vanish together; lists of the indices with a property. Nothing of a program is named here.
-/
import Derived.Test.YtagncoahobghpaaDoorCsM
namespace Go.Proofs.YtagncoahobghpaaDoor
open Go.RowKit
set_option linter.unusedVariables false

/-- The squares of the differences, where the pattern is no question mark. -/
def mtS (s p : Nat → Int) (m i : Nat) : Int := sumN (fun k => if p k = 63 then 0 else (p k - s (i + k)) * (p k - s (i + k))) m
/-- The misses. -/
def msN (s p : Nat → Int) (m i : Nat) : Int := sumN (fun k => if p k ≠ 63 ∧ p k ≠ s (i + k) then 1 else 0) m
/-- The letters that are no question mark. -/
def ltN (p : Nat → Int) (m : Nat) : Int := sumN (fun k => if p k ≠ 63 then 1 else 0) m
theorem sq_pos (d : Int) : 0 ≤ d * d ∧ (d * d = 0 ↔ d = 0) := by
  refine ⟨?_, ?_⟩
  · rcases Int.le_total 0 d with q | q
    · exact Int.mul_nonneg q q
    · exact Int.mul_nonneg_of_nonpos_of_nonpos q q
  · constructor
    · intro h; rcases Int.mul_eq_zero.mp h with q | q <;> exact q
    · rintro rfl; rfl
theorem msN_range (s p : Nat → Int) (m i : Nat) : 0 ≤ msN s p m i ∧ msN s p m i ≤ ltN p m := by
  refine ⟨sum01_nonneg m, ?_⟩
  unfold msN ltN
  refine sumN_le fun k _ => ?_
  by_cases q : p k ≠ 63
  · rw [if_pos q]; split <;> decide
  · rw [if_neg q, if_neg (fun r => q r.1)]; exact Int.le_refl _
theorem mtS_zero (s p : Nat → Int) (m i : Nat) : 0 ≤ mtS s p m i ∧ (mtS s p m i = 0 ↔ msN s p m i = 0) := by
  unfold mtS msN
  induction m with
  | zero => exact ⟨Int.le_refl _, Iff.rfl⟩
  | succ m ih =>
    rw [sumN, sumN]
    have a := sum01_nonneg (P := fun k => p k ≠ 63 ∧ p k ≠ s (i + k)) m
    have b := sq_pos (p m - s (i + m))
    by_cases q : p m = 63
    · rw [if_pos q, if_neg (fun r => r.1 q)]; omega
    · rw [if_neg q]
      by_cases r : p m = s (i + m)
      · rw [if_neg (fun t => t.2 r), r, Int.sub_self]; omega
      · rw [if_pos ⟨q, r⟩]
        have c : ¬ (p m - s (i + m)) * (p m - s (i + m)) = 0 := fun t => r (by have := b.2.mp t; omega)
        omega

/-- The indices with a property, ascending. -/
def fil (P : Nat → Bool) : Nat → List Int
  | 0 => []
  | n + 1 => if P n = true then fil P n ++ [(n : Int)] else fil P n
theorem fil_yes {P : Nat → Bool} {n : Nat} (h : P n = true) : fil P (n + 1) = fil P n ++ [(n : Int)] := if_pos h
theorem fil_no {P : Nat → Bool} {n : Nat} (h : ¬ P n = true) : fil P (n + 1) = fil P n := if_neg h
theorem fil_len (P : Nat → Bool) (n : Nat) : (fil P n).length ≤ n := by
  induction n with
  | zero => exact Nat.le_refl _
  | succ n ih =>
    by_cases h : P n = true
    · rw [fil_yes h, List.length_append]; exact Nat.succ_le_succ ih
    · rw [fil_no h]; omega
theorem fil_mem (P : Nat → Bool) (n : Nat) (z : Int) : z ∈ fil P n ↔ ∃ i : Nat, i < n ∧ P i = true ∧ z = i := by
  induction n with
  | zero => simp [fil]
  | succ n ih =>
    by_cases h : P n = true
    · rw [fil_yes h, List.mem_append, ih, List.mem_singleton]
      constructor
      · rintro (⟨i, a, b, c⟩ | c)
        · exact ⟨i, by omega, b, c⟩
        · exact ⟨n, by omega, h, c⟩
      · rintro ⟨i, a, b, c⟩
        by_cases e : i = n
        · subst e; exact .inr c
        · exact .inl ⟨i, by omega, b, c⟩
    · rw [fil_no h, ih]
      constructor
      · rintro ⟨i, a, b, c⟩; exact ⟨i, by omega, b, c⟩
      · rintro ⟨i, a, b, c⟩
        have e : i ≠ n := fun e => h (e ▸ b)
        exact ⟨i, by omega, b, c⟩
theorem fil_pairs (P : Nat → Bool) (n : Nat) : (fil P n).Pairwise (· < ·) := by
  induction n with
  | zero => exact List.Pairwise.nil
  | succ n ih =>
    by_cases h : P n = true
    · rw [fil_yes h, List.pairwise_append]
      refine ⟨ih, List.pairwise_singleton _ _, fun a ha b hb => ?_⟩
      obtain ⟨i, hi, _, rfl⟩ := (fil_mem P n a).mp ha
      rw [List.mem_singleton] at hb
      subst hb; omega
    · rw [fil_no h]; exact ih
theorem fil_asc (P : Nat → Bool) (n : Nat) {j : Nat} (h : j + 1 < (fil P n).length) : ix (fil P n) j < ix (fil P n) (j + 1) := by
  have e := List.pairwise_iff_getElem.mp (fil_pairs P n) j (j + 1) (by omega) h (by omega)
  simp only [ix, List.getD_eq_getElem?_getD, List.getElem?_eq_getElem h, List.getElem?_eq_getElem (show j < (fil P n).length by omega), Option.getD_some]
  exact e

end Go.Proofs.YtagncoahobghpaaDoor
