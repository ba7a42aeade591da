/-
  The greatest sparse set as the model finds it. Nothing of a program is named here.
-/
import Derived.Test.YtagncoahobghpaaSpM
namespace Go.Proofs.Ytagncoahobghpaa
open Go.RowKit
set_option linter.unusedVariables false

/-- The better of two sets: that with more places, the lesser one of as many. -/
def pkB (o best : Nat) : Nat := if onF 13 best < onF 13 o then o else if onF 13 o = onF 13 best ∧ o < best then o else best
/-- f of n, n reckoned first. -/
def frc (n : Nat) (f : Nat → Nat) : Nat := Nat.rec (f 0) (fun k _ => f (k + 1)) n
theorem frc_is (n : Nat) (f : Nat → Nat) : frc n f = f n := by cases n <;> rfl
/-- From best on, the best set with more places out of the last n. -/
def bstR : Nat → Nat → Nat → Nat
  | 0, _, best => best
  | n + 1, s, best => frc (if apE (s + 2 ^ (12 - n)) = true then frc (bstR n (s + 2 ^ (12 - n)) (s + 2 ^ (12 - n))) fun o => pkB o best else best) fun b => bstR n s b
theorem bstR_next (n s best : Nat) : bstR (n + 1) s best = bstR n s (if spB (bitS (s + 2 ^ (12 - n))) = true then pkB (bstR n (s + 2 ^ (12 - n)) (s + 2 ^ (12 - n))) best else best) := by
  show frc _ _ = _
  rw [frc_is, frc_is, apE_is]
set_option maxRecDepth 100000 in
theorem bst_all : bstR 13 0 0 = 83 := by decide +kernel
end Go.Proofs.Ytagncoahobghpaa
