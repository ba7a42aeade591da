/-
  The exact law of IsSparse, as a contract of the law.
-/
import Derived.Test.YtagncoahobghpabHelp
import Derived.Test.YtagncoahobghpabSpI
namespace Go.Proofs.Ytagncoahobghpab
open Go.RowKit
set_option linter.unusedVariables false

theorem exactIsSparse_any (a : Int) (w : World) :
    Calls Try.prog 5 #[.int .i64 a] w (Says true w) := by
  have HS := Lib.hid fun w => specIsSparse_any a w
  have HI := Lib.hid fun w => implIsSparse_any a w
  obtain ⟨z, hz⟩ : ∃ z, z = spF a := ⟨_, rfl⟩
  rw [← hz] at HS HI
  have e1 : (z == z) = true := by simp
  have e2 : (z != z) = false := by simp
  clear hz
  go_enter Try.func5, Try.ntmps5
  go_wp2_with fail
  refine (HS.out _).mono ?_
  rintro e w1 ⟨rfl, rfl⟩
  go_wp2_with fail
  refine (HI.out _).mono ?_
  rintro e w2 ⟨rfl, b1⟩
  go_wp2
  go_ret
  exact ⟨rfl, b1⟩

end Go.Proofs.Ytagncoahobghpab
