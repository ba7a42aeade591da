/-
  The exact law of MostSparse, as a contract of the law.
-/
import Derived.Test.YtagncoahobghpabHelp
import Derived.Test.YtagncoahobghpabSpJ
namespace Go.Proofs.Ytagncoahobghpab
open Go.RowKit
set_option linter.unusedVariables false

theorem exactMostSparse_any (w : World) :
    Calls Try.prog 6 #[] w (Says true w) := by
  have HS := Lib.hid fun w => specMostSparse_any w
  have HI := Lib.hid fun w => implMostSparse_any w
  obtain ⟨z, hz⟩ : ∃ z, z = (83 : Int) := ⟨_, rfl⟩
  rw [← hz] at HS HI
  have e1 : (z == z) = true := by simp
  have e2 : (z != z) = false := by simp
  clear hz
  go_enter Try.func6, Try.ntmps6
  go_wp2_with fail
  refine (HS.out _).mono ?_
  rintro e w1 ⟨rfl, rfl⟩
  go_wp2_with fail
  refine (HI.out _).mono ?_
  rintro e w2 ⟨rfl, b1⟩
  go_wp2
  go_ret
  exact ⟨rfl, b1⟩

end Go.Proofs.Ytagncoahobghpab
