/-
  The exact law of SumSet, as a contract of the law.
-/
import Derived.Test.YtagncoahobghpabHelp
import Derived.Test.YtagncoahobghpabStS
namespace Go.Proofs.Ytagncoahobghpab
open Go.RowKit
set_option linter.unusedVariables false

theorem exactSumSet_any (a b : Int) (w : World) :
    Calls Try.prog 3 #[.int .i64 a, .int .i64 b] w (Says true w) := by
  have HS := Lib.hid fun w => specSumSet_any a b w
  have HI := Lib.hid fun w => implSumSet_any a b w
  obtain ⟨z, hz⟩ : ∃ z, z = ssF a b := ⟨_, rfl⟩
  rw [← hz] at HS HI
  have e1 : (z == z) = true := by simp
  have e2 : (z != z) = false := by simp
  clear hz
  go_enter Try.func3, Try.ntmps3
  go_wp2_with fail
  refine (HS.out _).mono ?_
  rintro e w1 ⟨rfl, rfl⟩
  go_wp2_with fail
  refine (HI.out _).mono ?_
  rintro e w2 ⟨rfl, b1⟩
  go_wp2
  go_ret
  exact ⟨rfl, b1⟩

end Go.Proofs.Ytagncoahobghpab
