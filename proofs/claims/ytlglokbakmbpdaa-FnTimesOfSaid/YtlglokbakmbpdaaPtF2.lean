/-
  spec.TimesOf in company (written by ch5laws.py).
-/
import Derived.Test.YtlglokbakmbpdaaPtC
import Derived.Test.YtlglokbakmbpdaaPdP
namespace Go.Proofs.Ytlglokbakmbpdaa
open Go Go.Conc Go.RowKit
set_option linter.unusedVariables false

theorem specTimesOf_b (u v : Value) (xs ys : List Int) (w : World) (hx : Rd w u xs) (hy : Rd w v ys) (hl1 : xs.length ≤ maxLen) (hl2 : ys.length ≤ maxLen) : BCalls Try.prog 14 #[u, v] w (BMade 3 w (timF xs ys)) :=
  bmade_of [14, 46, 47, 55] (by kernel_rfl) Try.func14 rfl (by kernel_rfl) (by kernel_rfl) fun τ d => specTimesOf_any u v xs ys (reT w τ d) hx hy hl1 hl2

end Go.Proofs.Ytlglokbakmbpdaa
