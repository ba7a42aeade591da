/-
  Powers of two, bits and rows of 2 to the power k numbers: the contracts of power, bit, bitsOf, validCube of the model and isBinaryRow of the program.
-/
import Derived.Test.YtagncoahobghpacValid
namespace Go.Proofs.Ytagncoahobghpac
open Go.RowKit
set_option linter.unusedVariables false

theorem pow_bound {k p r : Nat} (hk : k ≤ 16) (h : p * 2 ^ r = 2 ^ k) : p ≤ 65536 := by
  have h1 : 2 ^ k ≤ 2 ^ 16 := Nat.pow_le_pow_right (by omega) hk
  have h2 : 1 ≤ 2 ^ r := Nat.one_le_two_pow
  have h3 : p * 1 ≤ p * 2 ^ r := Nat.mul_le_mul_left p h2
  omega

/-- Which power of two is n, up to 16? -/
def bitsN (n : Nat) : Int := if n = 1 then 0 else if n = 2 then 1 else if n = 4 then 2 else if n = 8 then 3 else if n = 16 then 4 else -1
theorem bitsN_pow {n k : Nat} (hk : k ≤ 4) (h : n = 2 ^ k) : bitsN n = k := by
  rcases (show k = 0 ∨ k = 1 ∨ k = 2 ∨ k = 3 ∨ k = 4 by omega) with rfl | rfl | rfl | rfl | rfl <;> subst h <;> decide
theorem bitsN_none {n : Nat} (h : ∀ k, k < 5 → n ≠ 2 ^ k) : bitsN n = -1 := by
  have h0 := h 0 (by omega); have h1 := h 1 (by omega); have h2 := h 2 (by omega); have h3 := h 3 (by omega); have h4 := h 4 (by omega)
  unfold bitsN
  rw [if_neg (by omega), if_neg (by omega), if_neg (by omega), if_neg (by omega), if_neg (by omega)]
theorem bitsN_some {n : Nat} (h : 0 ≤ bitsN n) : ∃ k, k ≤ 4 ∧ n = 2 ^ k := by
  unfold bitsN at h
  by_cases h0 : n = 1
  · exact ⟨0, by omega, h0⟩
  by_cases h1 : n = 2
  · exact ⟨1, by omega, h1⟩
  by_cases h2 : n = 4
  · exact ⟨2, by omega, h2⟩
  by_cases h3 : n = 8
  · exact ⟨3, by omega, h3⟩
  by_cases h4 : n = 16
  · exact ⟨4, by omega, h4⟩
  rw [if_neg h0, if_neg h1, if_neg h2, if_neg h3, if_neg h4] at h
  omega

/-- Are the numbers a row of 2 to the power k? -/
def cubeB (xs : List Int) : Bool := vrB xs && decide (0 ≤ bitsN xs.length)
theorem cubeB_of {xs : List Int} (h : cubeB xs = true) : vrB xs = true ∧ ∃ k, k ≤ 4 ∧ xs.length = 2 ^ k := by
  unfold cubeB at h
  simp only [Bool.and_eq_true, decide_eq_true_eq] at h
  exact ⟨h.1, bitsN_some h.2⟩
theorem cube_max {xs : List Int} (h : cubeB xs = true) : xs.length ≤ 1048576 := vr_max (cubeB_of h).1

end Go.Proofs.Ytagncoahobghpac
