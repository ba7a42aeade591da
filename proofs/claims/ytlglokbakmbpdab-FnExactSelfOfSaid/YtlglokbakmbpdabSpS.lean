/-
  spec.SelfOf in company (written by ch5self3.py).
-/
import Derived.Test.YtlglokbakmbpdabPdS
import Derived.Test.YtlglokbakmbpdabPtC
namespace Go.Proofs.Ytlglokbakmbpdab
open Go Go.Conc Go.RowKit
set_option linter.unusedVariables false

theorem specSelfOf_b (u : Value) (xs : List Int) (w : World) (hx : Rd w u xs) (hl1 : xs.length ≤ maxLen) : BCalls Try.prog 23 #[u] w (BMade 3 w (selF xs)) :=
  bmade_of [23, 31, 43, 38] (by kernel_rfl) Try.func23 rfl (by kernel_rfl) (by kernel_rfl) fun τ d => specSelfOf_any u xs (reT w τ d) hx hl1

end Go.Proofs.Ytlglokbakmbpdab
