/-
  The model's quiet rows and pairs in company (written by ch5un.py).
-/
import Derived.Test.YtlglokbakmbpdaaUnS
import Derived.Test.YtlglokbakmbpdaaPtC
namespace Go.Proofs.Ytlglokbakmbpdaa
open Go Go.Conc Go.RowKit
set_option linter.unusedVariables false

theorem specIsQuiet_b (u : Value) (xs : List Int) (w : World) (hx : Rd w u xs) (hl1 : xs.length ≤ maxLen) : BCalls Try.prog 35 #[u] w (BSays (quB xs) w) :=
  bsays_of [35, 68, 46, 60, 55] (by kernel_rfl) Try.func35 rfl (by kernel_rfl) (by kernel_rfl) fun τ d => specIsQuiet_any u xs (reT w τ d) hx hl1

theorem specArePaired_b (u v : Value) (xs ys : List Int) (w : World) (hx : Rd w u xs) (hy : Rd w v ys) (hl1 : xs.length ≤ maxLen) (hl2 : ys.length ≤ maxLen) : BCalls Try.prog 39 #[u, v] w (BSays (paB xs ys) w) :=
  bsays_of [39, 70, 68, 46, 60, 55] (by kernel_rfl) Try.func39 rfl (by kernel_rfl) (by kernel_rfl) fun τ d => specArePaired_any u v xs ys (reT w τ d) hx hy hl1 hl2

end Go.Proofs.Ytlglokbakmbpdaa
