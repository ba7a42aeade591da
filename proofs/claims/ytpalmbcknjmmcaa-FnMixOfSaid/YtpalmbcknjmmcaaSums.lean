/-
  SumsOf and StepsOf, program and model.
-/
import Derived.Test.YtpalmbcknjmmcaaCopy
import Derived.Test.YtpalmbcknjmmcaaValid
namespace Go.Proofs.Ytpalmbcknjmmcaa
open Go.RowKit
set_option linter.unusedVariables false

def sumsL (xs : List Int) : List Int := tab xs.length fun j => wrap64 (sumN (ix xs) (j + 1))
def sumsF (xs : List Int) : List Int := if vrB xs = true then sumsL xs else []
theorem sumsF_len (xs : List Int) (h : xs.length ≤ 1048576) : (sumsF xs).length ≤ 1048576 := by unfold sumsF; split <;> simp [sumsL, h]

theorem upTo_all (F : Nat → Int) (n j : Nat) (h : j < n) : upTo F 0 n j = sumN F (j + 1) := by
  unfold upTo
  rw [if_pos (by omega)]
  simp

end Go.Proofs.Ytpalmbcknjmmcaa
