/-
  Sums with signs of the model.
-/
import Derived.Test.YtgafiglfmkaniaaSgI
namespace Go.Proofs.Ytgafiglfmkaniaa
open Go.RowKit
set_option linter.unusedVariables false

theorem ones4_le (x : Nat) : ones4 x ≤ 4 := by
  unfold ones4
  have h1 := Nat.mod_lt x (show 0 < 2 by omega)
  have h2 := Nat.mod_lt (x / 2) (show 0 < 2 by omega)
  have h3 := Nat.mod_lt (x / 4) (show 0 < 2 by omega)
  have h4 := Nat.mod_lt (x / 8) (show 0 < 2 by omega)
  generalize x % 2 = a at *
  generalize x / 2 % 2 = b at *
  generalize x / 4 % 2 = c at *
  generalize x / 8 % 2 = d at *
  omega
theorem ones4_half : ∀ k, k < 16 → ones4 k = k % 2 + ones4 (k / 2) := by decide +kernel

theorem cube_pos {xs : List Int} (h : cubeB xs = true) : 0 < xs.length := by
  obtain ⟨-, k, -, e⟩ := cubeB_of h
  rw [e]; exact Nat.two_pow_pos k
def signsF (xs : List Int) : List Int := if cubeB xs = true then signsL xs else []
theorem signsF_len (xs : List Int) (h : xs.length ≤ 1048576) : (signsF xs).length ≤ 1048576 := by unfold signsF; split <;> simp [signsL, h]

end Go.Proofs.Ytgafiglfmkaniaa
