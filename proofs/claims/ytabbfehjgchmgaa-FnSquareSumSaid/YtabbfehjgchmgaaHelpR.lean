/-
  raised of the laws.
-/
import Derived.Test.YtabbfehjgchmgaaInfo
import Derived.Test.YtabbfehjgchmgaaWvL
import Derived.Test.YtabbfehjgchmgaaRest
namespace Go.Proofs.Ytabbfehjgchmgaa
open Go.RowKit
set_option linter.unusedVariables false

set_option maxHeartbeats 2000000 in
theorem raised_any (x n : Nat) (w : World) (hx : x < 97) (hn : n ≤ 1000) :
    Calls Try.prog 15 #[.int .i64 x, .int .i64 n] w fun e w' => e = .returned (.int .i64 (pm x n : Nat)) ∧ w = w' := by
  go_enter Try.func15, Try.ntmps15
  go_wp2
  go_loop [1, 5] (fun i o => ∃ p m : Nat, p + m = n ∧ i = .int .i64 p ∧ o = .int .i64 (pm x m : Nat)) (fun i _ => (intOf i).toNat)
  case atStart => exact ⟨n, 0, rfl, rfl, rfl⟩
  case round =>
    obtain ⟨p, m, hpm, rfl, rfl⟩ := hrel
    have hml : p ≤ n := by omega
    by_cases hp : 0 < p
    · obtain ⟨q, rfl⟩ : ∃ q, p = q + 1 := ⟨p - 1, by omega⟩
      have hb := pm_lt x m
      have h0 : 0 ≤ ((pm x m : Nat) : Int) * (x : Int) := Int.mul_nonneg (by omega) (by omega)
      have h1 : ((pm x m : Nat) : Int) * (x : Int) ≤ 96 * 96 := Int.mul_le_mul (by omega) (by omega) (by omega) (by omega)
      have HP := Lib.hid hpm
      have HN := Lib.hid (pm_next x m)
      clear hpm
      go_wp2
      rw [HN.out]
      go_round
      case rel => exact ⟨q, m + 1, by have := HP.out; omega, by go_num, rfl⟩
      case measure => simp [intOf]
    · obtain rfl : p = 0 := by omega
      obtain rfl : m = n := by omega
      go_wp2
      go_ret
      exact ⟨rfl, rfl⟩

end Go.Proofs.Ytabbfehjgchmgaa
