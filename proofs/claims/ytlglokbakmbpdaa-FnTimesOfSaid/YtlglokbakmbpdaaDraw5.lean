/-
  DrawTimesOf: the rows that it draws lie in range.
-/
import Derived.Test.YtlglokbakmbpdaaDrawW
namespace Go.Proofs.Ytlglokbakmbpdaa
open Go.RowKit
set_option linter.unusedVariables false

set_option maxHeartbeats 1000000 in
theorem drawTimesOf_any (v : Value) (n : Nat) (w : World) (h : RdB w v n) :
    Calls Try.prog 11 #[v] w (DrewRow2 3 w) := by
  go_enter Try.func11, Try.ntmps11
  go_wp2_with fail
  refine (newReader_any v n _ h).mono ?_
  rintro e w1 ⟨R, rfl, hR, b1, hRs⟩
  go_wp2_with fail
  refine (someRow_any R 0 _ hR (by omega)).mono ?_
  rintro e w3 ⟨u, xs, p', rfl, o, hl, hw, hR3, hp', g3⟩
  have b3 := bel_rdr b1 g3 hRs
  have hne := o.ne hR.lt
  have o := o.mono b1.size
  go_wp2_with fail
  refine (someRow_any R p' _ hR3 (by omega)).mono ?_
  rintro e w4 ⟨u', ys, p'', rfl, o', hl', hw', hR4, hp'', g4⟩
  have b4 := bel_rdr b3 g4 hRs
  have o := o.kept g4 hne
  have o' := o'.mono b3.size
  clear hne g3 g4 hR3 hR4 b3 b1 hR
  obtain ⟨a, c, rfl⟩ := own_slD o
  obtain ⟨a', c', rfl⟩ := own_slD o'
  go_wp2
  go_ret2
  exact ⟨_, _, xs, ys, rfl, o, o', hl, hl', hw, hw', b4⟩

end Go.Proofs.Ytlglokbakmbpdaa
