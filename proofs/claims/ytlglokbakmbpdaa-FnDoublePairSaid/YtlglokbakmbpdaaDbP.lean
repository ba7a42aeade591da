/-
  The model's DoublePair in company (written by ch5db.py).
-/
import Derived.Test.YtlglokbakmbpdaaDbI
namespace Go.Proofs.Ytlglokbakmbpdaa
open Go Go.Conc Go.RowKit
set_option linter.unusedVariables false

theorem specDoublePair_b (u v : Value) (xs ys : List Int) (w : World) (hx : Rd w u xs) (hy : Rd w v ys) (hl1 : xs.length ≤ maxLen) (hl2 : ys.length ≤ maxLen) : BCalls Try.prog 42 #[u, v] w (MadeT 3 w (dp1 xs ys) (dp2 xs ys) (okD xs ys)) :=
  bcalls_of_calls noinit (callees [42, 70, 68, 46, 60, 55] (by kernel_rfl)) Try.func42 rfl (by kernel_rfl) (by kernel_rfl) (fun w r w' => MadeT 3 w (dp1 xs ys) (dp2 xs ys) (okD xs ys) r w') (madeT_blind _ _ _ _)
    fun τ d => specDoublePair_any u v xs ys (reT w τ d) hx hy hl1 hl2

end Go.Proofs.Ytlglokbakmbpdaa
