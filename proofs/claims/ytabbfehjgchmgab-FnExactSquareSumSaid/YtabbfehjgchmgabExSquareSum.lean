/-
  The exact law of SquareSum, as a contract of the law.
-/
import Derived.Test.YtabbfehjgchmgabHelp
import Derived.Test.YtabbfehjgchmgabWvY
namespace Go.Proofs.Ytabbfehjgchmgab
open Go.RowKit
set_option linter.unusedVariables false

theorem exactSquareSum_any (k : Int) (w : World) :
    Calls Try.prog 11 #[.int .i64 k] w (Says true w) := by
  have hs := specSquareSum_any k w
  have hi := fun w => implSquareSum_any k w
  obtain ⟨z, hz⟩ : ∃ z, z = sqF k := ⟨_, rfl⟩
  rw [← hz] at hs
  have HI := Lib.hid hi
  rw [← hz] at HI
  have e1 : (z == z) = true := by simp
  have e2 : (z != z) = false := by simp
  clear hz hi
  go_enter Try.func11, Try.ntmps11
  go_wp2_with fail
  refine hs.mono ?_
  rintro e w1 ⟨rfl, rfl⟩
  go_wp2_with fail
  refine (HI.out _).mono ?_
  rintro e w1 ⟨rfl, b1⟩
  go_wp2
  go_ret
  exact ⟨rfl, b1⟩

end Go.Proofs.Ytabbfehjgchmgab
