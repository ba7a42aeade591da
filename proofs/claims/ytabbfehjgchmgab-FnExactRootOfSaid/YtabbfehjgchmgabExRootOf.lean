/-
  The exact law of RootOf, as a contract of the law.
-/
import Derived.Test.YtabbfehjgchmgabHelp
import Derived.Test.YtabbfehjgchmgabWvP
namespace Go.Proofs.Ytabbfehjgchmgab
open Go.RowKit
set_option linter.unusedVariables false

theorem exactRootOf_any (k : Int) (w : World) :
    Calls Try.prog 4 #[.int .i64 k] w (Says true w) := by
  have hs := specRootOf_any k w
  have hi := fun w => implRootOf_any k w
  obtain ⟨z, hz⟩ : ∃ z, z = rootF k := ⟨_, rfl⟩
  rw [← hz] at hs
  have HI := Lib.hid hi
  rw [← hz] at HI
  have e1 : (z == z) = true := by simp
  have e2 : (z != z) = false := by simp
  clear hz hi
  go_enter Try.func4, Try.ntmps4
  go_wp2_with fail
  refine hs.mono ?_
  rintro e w1 ⟨rfl, rfl⟩
  go_wp2_with fail
  refine (HI.out _).mono ?_
  rintro e w1 ⟨rfl, b1⟩
  go_wp2
  go_ret
  exact ⟨rfl, b1⟩

end Go.Proofs.Ytabbfehjgchmgab
