/-
  The exact law of ChangesIn, as a contract of the law.
-/
import Derived.Test.YtpalmbcknjmmcabChgS
namespace Go.Proofs.Ytpalmbcknjmmcab
open Go.RowKit
set_option linter.unusedVariables false

theorem exactChangesIn_any (k y : Int) (w : World) (hk64 : -9223372036854775808 ≤ k ∧ k ≤ 9223372036854775807) (hy64 : -9223372036854775808 ≤ y ∧ y ≤ 9223372036854775807) :
    Calls Try.prog 7 #[.int .i64 k, .int .i64 y] w fun e w' => e = .returned (.bool true) ∧ w = w' := by
  have hs := specChangesIn_any k y w
  have hi := implChangesIn_any k y w hk64 hy64
  generalize chF k y = z at hs hi
  go_enter Try.func7, Try.ntmps7
  go_wp2_with fail
  refine hs.mono ?_
  rintro e w1 ⟨rfl, rfl⟩
  go_wp2_with fail
  refine hi.mono ?_
  rintro e w1 ⟨rfl, rfl⟩
  go_wp2
  go_ret
  exact ⟨rfl, rfl⟩

end Go.Proofs.Ytpalmbcknjmmcab
