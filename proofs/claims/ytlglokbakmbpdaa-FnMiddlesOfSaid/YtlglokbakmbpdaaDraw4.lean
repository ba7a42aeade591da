/-
  The Draw functions of chapter 4, and of chapter 5 where they have its form: what they draw lies in range.
-/
import Derived.Test.YtlglokbakmbpdaaDrawW
namespace Go.Proofs.Ytlglokbakmbpdaa
open Go.RowKit
set_option linter.unusedVariables false

theorem drawBoxSums_any (v : Value) (n : Nat) (w : World) (h : RdB w v n) :
    Calls Try.prog 21 #[v] w (DrewRowInt 3 w) := by
  go_enter Try.func21, Try.ntmps21
  go_wp2_with fail
  refine (newReader_any v n _ h).mono ?_
  rintro e w1 ⟨R, rfl, hR, b1, hRs⟩
  go_wp2_with fail
  refine (someRow_any R 0 _ hR (by omega)).mono ?_
  rintro e w3 ⟨u, xs, p', rfl, o, hl, hw, hR3, hp', g3⟩
  have b3 := bel_rdr b1 g3 hRs
  have hne := o.ne hR.lt
  have o := o.mono b1.size
  clear hR b1 g3
  go_wp2_with fail
  have hlit := own_lit 3 0 w3.heap.size w3 #[.int .i64 2, .int .i64 3, .int .i64 1, .int .i64 4, .int .i64 0, .int .i64 8, .int .i64 17] [2, 3, 1, 4, 0, 8, 17] 7 rfl (Nat.zero_le _) rfl rfl (by unfold maxLen; omega)
  have hlt := hR3.lt
  have h1 := hR3.kept (World.grownBy_alloc w3 (.cells #[.int .i64 2, .int .i64 3, .int .i64 1, .int .i64 4, .int .i64 0, .int .i64 8, .int .i64 17] 3) none) (by simp)
  refine (one_any R (p') _ [2, 3, 1, 4, 0, 8, 17] _ h1 (by omega) hlit.rd (by simp) (by simp) (by simp [Value.ownBlock]; omega)).mono ?_
  rintro e w4 ⟨k, hk, rfl, hRw4, gw4⟩
  have hZ := ix_range (lo := 0) (hi := 17) (xs := [2, 3, 1, 4, 0, 8, 17]) (by intro z hz; simp only [List.mem_cons, List.not_mem_nil, or_false] at hz; omega) hk
  have gw4 := grown_thru (World.grownBy_alloc w3 (.cells #[.int .i64 2, .int .i64 3, .int .i64 1, .int .i64 4, .int .i64 0, .int .i64 8, .int .i64 17] 3) none) gw4
  have b4 := bel_rdr b3 gw4 hRs
  have o := o.kept gw4 hne
  generalize ix [2, 3, 1, 4, 0, 8, 17] k = z at hZ ⊢
  obtain ⟨a, c, rfl⟩ := own_slD o
  clear hlit h1 hne gw4 hRw4 b3
  go_wp2
  go_ret2
  exact ⟨_, xs, z, rfl, o, hl, hw, by omega, b4⟩

theorem drawMiddlesOf_any (v : Value) (n : Nat) (w : World) (h : RdB w v n) :
    Calls Try.prog 25 #[v] w (DrewRowInt 3 w) := by
  go_enter Try.func25, Try.ntmps25
  go_wp2_with fail
  refine (newReader_any v n _ h).mono ?_
  rintro e w1 ⟨R, rfl, hR, b1, hRs⟩
  go_wp2_with fail
  refine (someRow_any R 0 _ hR (by omega)).mono ?_
  rintro e w3 ⟨u, xs, p', rfl, o, hl, hw, hR3, hp', g3⟩
  have b3 := bel_rdr b1 g3 hRs
  have hne := o.ne hR.lt
  have o := o.mono b1.size
  clear hR b1 g3
  go_wp2_with fail
  have hlit := own_lit 3 0 w3.heap.size w3 #[.int .i64 3, .int .i64 1, .int .i64 5, .int .i64 2, .int .i64 7, .int .i64 0, .int .i64 17] [3, 1, 5, 2, 7, 0, 17] 7 rfl (Nat.zero_le _) rfl rfl (by unfold maxLen; omega)
  have hlt := hR3.lt
  have h1 := hR3.kept (World.grownBy_alloc w3 (.cells #[.int .i64 3, .int .i64 1, .int .i64 5, .int .i64 2, .int .i64 7, .int .i64 0, .int .i64 17] 3) none) (by simp)
  refine (one_any R (p') _ [3, 1, 5, 2, 7, 0, 17] _ h1 (by omega) hlit.rd (by simp) (by simp) (by simp [Value.ownBlock]; omega)).mono ?_
  rintro e w4 ⟨k, hk, rfl, hRw4, gw4⟩
  have hZ := ix_range (lo := 0) (hi := 17) (xs := [3, 1, 5, 2, 7, 0, 17]) (by intro z hz; simp only [List.mem_cons, List.not_mem_nil, or_false] at hz; omega) hk
  have gw4 := grown_thru (World.grownBy_alloc w3 (.cells #[.int .i64 3, .int .i64 1, .int .i64 5, .int .i64 2, .int .i64 7, .int .i64 0, .int .i64 17] 3) none) gw4
  have b4 := bel_rdr b3 gw4 hRs
  have o := o.kept gw4 hne
  generalize ix [3, 1, 5, 2, 7, 0, 17] k = z at hZ ⊢
  obtain ⟨a, c, rfl⟩ := own_slD o
  clear hlit h1 hne gw4 hRw4 b3
  go_wp2
  go_ret2
  exact ⟨_, xs, z, rfl, o, hl, hw, by omega, b4⟩

end Go.Proofs.Ytlglokbakmbpdaa
