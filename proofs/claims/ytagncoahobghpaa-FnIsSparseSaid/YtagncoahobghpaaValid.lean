/-
  The contracts of ValidRow, program and model.
-/
import Derived.Test.YtagncoahobghpaaInfo
namespace Go.Proofs.Ytagncoahobghpaa
open Go.RowKit
set_option linter.unusedVariables false

/-- Is n in the range? -/
def inR (n lo hi : Int) : Bool := decide (lo ≤ n ∧ n ≤ hi)
theorem inR_yes {n lo hi : Int} (h : lo ≤ n ∧ n ≤ hi) : inR n lo hi = true := by simp [inR, h]
theorem inR_no {n lo hi : Int} (h : ¬ (lo ≤ n ∧ n ≤ hi)) : inR n lo hi = false := by simp only [inR, decide_eq_false_iff_not]; exact h

/-- Are the numbers a row? -/
def vrB (xs : List Int) : Bool := decide (xs.length ≤ 16 ∧ ∀ j, j < xs.length → -1000 ≤ ix xs j ∧ ix xs j ≤ 1000)
theorem vrB_long {xs : List Int} (h : ¬ xs.length ≤ 16) : vrB xs = false := by simp only [vrB, decide_eq_false_iff_not]; exact fun e => h e.1
theorem vrB_no {xs : List Int} (k : Nat) (hk : k < xs.length) (h : ¬ (-1000 ≤ ix xs k ∧ ix xs k ≤ 1000)) : vrB xs = false := by
  simp only [vrB, decide_eq_false_iff_not]; exact fun e => h (e.2 k hk)
theorem vrB_yes {xs : List Int} (h : xs.length ≤ 16) (h2 : ∀ j, j < xs.length → -1000 ≤ ix xs j ∧ ix xs j ≤ 1000) : vrB xs = true := by
  simp only [vrB, decide_eq_true_eq]; exact ⟨h, h2⟩
theorem vrB_of {xs : List Int} (h : vrB xs = true) : xs.length ≤ 16 ∧ ∀ j, j < xs.length → -1000 ≤ ix xs j ∧ ix xs j ≤ 1000 := by
  simpa only [vrB, decide_eq_true_eq] using h

theorem vr_max {xs : List Int} (h : vrB xs = true) : xs.length ≤ 1048576 := by have := (vrB_of h).1; omega

theorem inRange_any (n lo hi : Int) (w : World) :
    Calls Try.prog 36 #[.int .i64 n, .int .i64 lo, .int .i64 hi] w fun e w' => e = .returned (.bool (inR n lo hi)) ∧ w = w' := by
  by_cases h1 : lo ≤ n
  · by_cases h2 : n ≤ hi
    · have h := inR_yes ⟨h1, h2⟩
      rw [h]; clear h
      go_enter Try.func36, Try.ntmps36
      go_wp2
      go_ret
      exact ⟨rfl, rfl⟩
    · have h := inR_no (n := n) (lo := lo) (hi := hi) (fun e => h2 e.2)
      rw [h]; clear h
      go_enter Try.func36, Try.ntmps36
      go_wp2
      go_ret
      exact ⟨rfl, rfl⟩
  · have h := inR_no (n := n) (lo := lo) (hi := hi) (fun e => h1 e.1)
    rw [h]; clear h
    go_enter Try.func36, Try.ntmps36
    go_wp2
    go_ret
    exact ⟨rfl, rfl⟩

end Go.Proofs.Ytagncoahobghpaa
