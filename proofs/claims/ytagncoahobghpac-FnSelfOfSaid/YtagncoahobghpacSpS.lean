/-
  spec.SelfOf in company (written by ch5self3.py).
-/
import Derived.Test.YtagncoahobghpacPdS
import Derived.Test.YtagncoahobghpacPtC
namespace Go.Proofs.Ytagncoahobghpac
open Go Go.Conc Go.RowKit
set_option linter.unusedVariables false

theorem specSelfOf_b (u : Value) (xs : List Int) (w : World) (hx : Rd w u xs) (hl1 : xs.length ≤ maxLen) : BCalls Try.prog 14 #[u] w (BMade 3 w (selF xs)) :=
  bmade_of [14, 29, 32, 41] (by kernel_rfl) Try.func14 rfl (by kernel_rfl) (by kernel_rfl) fun τ d => specSelfOf_any u xs (reT w τ d) hx hl1

end Go.Proofs.Ytagncoahobghpac
