/-
  StepsOf of the model, by its contract.
-/
import Derived.Test.YtpalmbcknjmmcaaSteps
import Derived.StillTailTactics
namespace Go.Proofs.Ytpalmbcknjmmcaa
open Go.RowKit
set_option linter.unusedVariables false

theorem own_same {E B : Nat} {w w' : World} {v : Value} {xs : List Int} (h : Own E B w v xs) (hh : w'.heap = w.heap) : Own E B w' v xs := by
  obtain ⟨h1, h2⟩ := h
  refine ⟨h1, ?_⟩
  rw [hh]; exact h2

end Go.Proofs.Ytpalmbcknjmmcaa
