/-
  StepsOf of the program, by its contract.
-/
import Derived.Test.YtlglokbakmbpdaaCopy
import Derived.Test.YtlglokbakmbpdaaValid
namespace Go.Proofs.Ytlglokbakmbpdaa
open Go.RowKit
set_option linter.unusedVariables false

def stepsL (xs : List Int) : List Int := tab xs.length fun j => if j = 0 then ix xs 0 else wrap64 (ix xs j - ix xs (j - 1))
def stepsF (xs : List Int) : List Int := if vrB xs = true then stepsL xs else []
theorem stepsF_len (xs : List Int) (h : xs.length ≤ 1048576) : (stepsF xs).length ≤ 1048576 := by unfold stepsF; split <;> simp [stepsL, h]

/-- steps on the way: the numbers up to place k are stepped. -/
def StepInv (E : Nat) (w wr : World) (g n k : Nat) (xs : List Int) : Prop :=
  Own E w.heap.size wr (.slice (some ⟨g, 0, none⟩) n n) (tab n fun j => if j ≤ k ∧ j ≠ 0 then wrap64 (ix xs j - ix xs (j - 1)) else ix xs j) ∧ Below w.heap.size w wr
theorem StepInv.drew {E : Nat} {w wr : World} {g n k : Nat} {xs : List Int} (h : StepInv E w wr g n k xs) : StepInv E w wr.drew g n k xs := ⟨h.1, h.2.drew⟩
theorem stepInv_step {E g n k : Nat} {w wr : World} {xs : List Int} (h : StepInv E w wr g n k xs) (hg : w.heap.size ≤ g) :
    StepInv E w (wr.setCell ⟨g, k + 1, none⟩ (.int .i64 (wrap64 (ix xs (k + 1) - ix xs k)))) g n (k + 1) xs := by
  refine ⟨?_, h.2.setCell hg _⟩
  have := h.1.set (k + 1) (wrap64 (ix xs (k + 1) - ix xs k))
  rw [tab_set] at this
  rw [tab_congr (g := fun j => if j ≤ k + 1 ∧ j ≠ 0 then wrap64 (ix xs j - ix xs (j - 1)) else ix xs j)] at this
  · exact this
  · intro j hj
    by_cases e : j = k + 1
    · subst e; rw [if_pos rfl, if_pos (by omega)]; rfl
    · rw [if_neg e]
      by_cases e2 : j ≤ k ∧ j ≠ 0
      · rw [if_pos e2, if_pos (by omega)]
      · rw [if_neg e2, if_neg (by omega)]

end Go.Proofs.Ytlglokbakmbpdaa
