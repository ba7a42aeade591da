/-
  The contracts of ValidRow, program and model.
-/
import Derived.Test.YtagncoahobghpaaDoorInfo
namespace Go.Proofs.YtagncoahobghpaaDoor
open Go.RowKit
set_option linter.unusedVariables false

/-- Is n in the range? -/
def inR (n lo hi : Int) : Bool := decide (lo ≤ n ∧ n ≤ hi)
theorem inR_yes {n lo hi : Int} (h : lo ≤ n ∧ n ≤ hi) : inR n lo hi = true := by simp [inR, h]
theorem inR_no {n lo hi : Int} (h : ¬ (lo ≤ n ∧ n ≤ hi)) : inR n lo hi = false := by simp only [inR, decide_eq_false_iff_not]; exact h

/-- Are the numbers a row? -/
def vrB (xs : List Int) : Bool := decide (xs.length ≤ 16 ∧ ∀ j, j < xs.length → -1000 ≤ ix xs j ∧ ix xs j ≤ 1000)
theorem vrB_long {xs : List Int} (h : ¬ xs.length ≤ 16) : vrB xs = false := by simp only [vrB, decide_eq_false_iff_not]; exact fun e => h e.1
theorem vrB_no {xs : List Int} (k : Nat) (hk : k < xs.length) (h : ¬ (-1000 ≤ ix xs k ∧ ix xs k ≤ 1000)) : vrB xs = false := by
  simp only [vrB, decide_eq_false_iff_not]; exact fun e => h (e.2 k hk)
theorem vrB_yes {xs : List Int} (h : xs.length ≤ 16) (h2 : ∀ j, j < xs.length → -1000 ≤ ix xs j ∧ ix xs j ≤ 1000) : vrB xs = true := by
  simp only [vrB, decide_eq_true_eq]; exact ⟨h, h2⟩
theorem vrB_of {xs : List Int} (h : vrB xs = true) : xs.length ≤ 16 ∧ ∀ j, j < xs.length → -1000 ≤ ix xs j ∧ ix xs j ≤ 1000 := by
  simpa only [vrB, decide_eq_true_eq] using h

theorem vr_max {xs : List Int} (h : vrB xs = true) : xs.length ≤ 1048576 := by have := (vrB_of h).1; omega

end Go.Proofs.YtagncoahobghpaaDoor
