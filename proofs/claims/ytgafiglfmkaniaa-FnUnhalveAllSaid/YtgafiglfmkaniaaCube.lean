/-
  Powers of two, bits and rows of 2 to the power k numbers: the contracts of power, bit, bitsOf, validCube of the model and isBinaryRow of the program.
-/
import Derived.Test.YtgafiglfmkaniaaValid
namespace Go.Proofs.Ytgafiglfmkaniaa
open Go.RowKit
set_option linter.unusedVariables false

theorem pow_bound {k p r : Nat} (hk : k ≤ 16) (h : p * 2 ^ r = 2 ^ k) : p ≤ 65536 := by
  have h1 : 2 ^ k ≤ 2 ^ 16 := Nat.pow_le_pow_right (by omega) hk
  have h2 : 1 ≤ 2 ^ r := Nat.one_le_two_pow
  have h3 : p * 1 ≤ p * 2 ^ r := Nat.mul_le_mul_left p h2
  omega

set_option maxHeartbeats 1000000 in
theorem power_any (k p : Nat) (w : World) (hk : k ≤ 16) (hp : 2 ^ k = p) :
    Calls Try.prog 64 #[.int .i64 k] w fun e w' => e = .returned (.int .i64 p) ∧ w = w' := by
  have HP := Lib.hid hp
  clear hp
  go_enter Try.func64, Try.ntmps64
  go_wp2
  go_loop [0, 3] (fun n o => ∃ r q : Nat, r ≤ k ∧ n = .int .i64 r ∧ o = .int .i64 q ∧ Hid (q * 2 ^ r = 2 ^ k)) (fun n _ => (intOf n).toNat)
  case atStart => exact ⟨k, 1, Nat.le_refl _, rfl, rfl, by show 1 * 2 ^ k = 2 ^ k; omega⟩
  case round =>
    obtain ⟨r, q, hr, rfl, rfl, hq⟩ := hrel
    have hb := pow_bound hk hq.out
    by_cases h0 : r = 0
    · subst h0
      have hqp : q = p := by have := hq.out; have := HP.out; omega
      subst hqp
      go_wp2
      go_ret
      exact ⟨rfl, rfl⟩
    · obtain ⟨s, rfl⟩ : ∃ s, r = s + 1 := ⟨r - 1, by omega⟩
      have hq2 : Hid ((2 * q) * 2 ^ s = 2 ^ k) := by
        have := hq.out
        show (2 * q) * 2 ^ s = 2 ^ k
        rw [← this, Nat.pow_succ, Nat.mul_comm 2 q, Nat.mul_assoc, Nat.mul_comm 2]
      clear hq h0
      go_wp2
      go_round
      case rel => exact ⟨s, 2 * q, by omega, by go_num, by go_num, hq2⟩
      case measure => simp [intOf]

/-- Which power of two is n, up to 16? -/
def bitsN (n : Nat) : Int := if n = 1 then 0 else if n = 2 then 1 else if n = 4 then 2 else if n = 8 then 3 else if n = 16 then 4 else -1
theorem bitsN_pow {n k : Nat} (hk : k ≤ 4) (h : n = 2 ^ k) : bitsN n = k := by
  rcases (show k = 0 ∨ k = 1 ∨ k = 2 ∨ k = 3 ∨ k = 4 by omega) with rfl | rfl | rfl | rfl | rfl <;> subst h <;> decide
theorem bitsN_none {n : Nat} (h : ∀ k, k < 5 → n ≠ 2 ^ k) : bitsN n = -1 := by
  have h0 := h 0 (by omega); have h1 := h 1 (by omega); have h2 := h 2 (by omega); have h3 := h 3 (by omega); have h4 := h 4 (by omega)
  unfold bitsN
  rw [if_neg (by omega), if_neg (by omega), if_neg (by omega), if_neg (by omega), if_neg (by omega)]
theorem bitsN_some {n : Nat} (h : 0 ≤ bitsN n) : ∃ k, k ≤ 4 ∧ n = 2 ^ k := by
  unfold bitsN at h
  by_cases h0 : n = 1
  · exact ⟨0, by omega, h0⟩
  by_cases h1 : n = 2
  · exact ⟨1, by omega, h1⟩
  by_cases h2 : n = 4
  · exact ⟨2, by omega, h2⟩
  by_cases h3 : n = 8
  · exact ⟨3, by omega, h3⟩
  by_cases h4 : n = 16
  · exact ⟨4, by omega, h4⟩
  rw [if_neg h0, if_neg h1, if_neg h2, if_neg h3, if_neg h4] at h
  omega

set_option maxHeartbeats 1000000 in
theorem bitsOf_any (v : Value) (xs : List Int) (w : World) (h : Rd w v xs) (hl : xs.length ≤ maxLen) :
    Calls Try.prog 59 #[v] w fun e w' => e = .returned (.int .i64 (bitsN xs.length)) ∧ w = w' := by
  unfold maxLen at hl
  obtain ⟨a, cap, rfl, h⟩ := h
  clear h
  go_enter Try.func59, Try.ntmps59
  go_wp2
  go_loop [3] (fun i => ∃ k : Nat, k ≤ 5 ∧ i = .int .i64 k ∧ Hid (∀ j, j < k → xs.length ≠ 2 ^ j)) (fun i => 5 - (intOf i).toNat)
  case atStart => exact ⟨0, by omega, rfl, fun j hj => absurd hj (Nat.not_lt_zero j)⟩
  case round =>
    obtain ⟨k, hk, rfl, hno⟩ := hrel
    by_cases hlt : k < 5
    · obtain ⟨p, hp⟩ : ∃ p, 2 ^ k = p := ⟨_, rfl⟩
      have HPW := Lib.hid fun w => power_any k p w (by omega) hp
      have HP := Lib.hid hp
      clear hp
      by_cases heq : xs.length = p
      · have hyes : Hid (bitsN xs.length = k) := bitsN_pow (by omega) (heq.trans HP.out.symm)
        have e1 : ((xs.length : Int) == (p : Int)) = true := by simp [heq]
        clear heq
        go_wp2_with fail
        refine (HPW.out _).mono ?_
        rintro e w' ⟨rfl, rfl⟩
        go_wp2
        go_ret
        exact ⟨ret_int hyes.out.symm, rfl⟩
      · have e1 : ((xs.length : Int) == (p : Int)) = false := by simp; omega
        have HE := Lib.hid heq
        clear heq
        go_wp2_with fail
        refine (HPW.out _).mono ?_
        rintro e w' ⟨rfl, rfl⟩
        go_wp2
        go_round
        case rel =>
          refine ⟨k + 1, by omega, by go_num, fun j hj => ?_⟩
          by_cases e : j = k
          · subst e; rw [HP.out]; exact HE.out
          · exact hno.out j (by omega)
        case measure => simp [intOf]; omega
    · have hk5 : k = 5 := by omega
      subst hk5
      have hnone : Hid (bitsN xs.length = -1) := bitsN_none hno.out
      go_wp2
      go_ret
      exact ⟨ret_int hnone.out.symm, rfl⟩

/-- Are the numbers a row of 2 to the power k? -/
def cubeB (xs : List Int) : Bool := vrB xs && decide (0 ≤ bitsN xs.length)
theorem cubeB_of {xs : List Int} (h : cubeB xs = true) : vrB xs = true ∧ ∃ k, k ≤ 4 ∧ xs.length = 2 ^ k := by
  unfold cubeB at h
  simp only [Bool.and_eq_true, decide_eq_true_eq] at h
  exact ⟨h.1, bitsN_some h.2⟩
theorem cube_max {xs : List Int} (h : cubeB xs = true) : xs.length ≤ 1048576 := vr_max (cubeB_of h).1

set_option maxHeartbeats 1000000 in
theorem validCube_any (v : Value) (xs : List Int) (w : World) (h : Rd w v xs) (hl : xs.length ≤ maxLen) :
    Calls Try.prog 45 #[v] w (Says (cubeB xs) w) := by
  have hv := specvalid_any v xs w h hl
  cases hb : vrB xs with
  | false =>
    rw [hb] at hv
    have HC : Hid (cubeB xs = false) := by show cubeB xs = false; simp [cubeB, hb]
    go_enter Try.func45, Try.ntmps45
    go_wp2_with fail
    refine hv.mono ?_
    rintro e w1 ⟨rfl, b1⟩
    go_wp2
    go_ret
    exact ⟨ret_bool HC.out.symm, b1⟩
  | true =>
    rw [hb] at hv
    by_cases hbits : 0 ≤ bitsN xs.length
    · have HC : Hid (cubeB xs = true) := by show cubeB xs = true; simp [cubeB, hb, hbits]
      have hd : decide (0 ≤ bitsN xs.length) = true := by simpa using hbits
      go_enter Try.func45, Try.ntmps45
      go_wp2_with fail
      refine hv.mono ?_
      rintro e w1 ⟨rfl, b1⟩
      go_wp2_with fail
      refine (bitsOf_any v xs _ (h.below b1 (Nat.le_refl _)) hl).mono ?_
      rintro e w2 ⟨rfl, rfl⟩
      go_wp2
      go_ret
      exact ⟨ret_bool HC.out.symm, b1⟩
    · have HC : Hid (cubeB xs = false) := by show cubeB xs = false; simp [cubeB, hb, hbits]
      have hd : decide (0 ≤ bitsN xs.length) = false := by simpa using hbits
      go_enter Try.func45, Try.ntmps45
      go_wp2_with fail
      refine hv.mono ?_
      rintro e w1 ⟨rfl, b1⟩
      go_wp2_with fail
      refine (bitsOf_any v xs _ (h.below b1 (Nat.le_refl _)) hl).mono ?_
      rintro e w2 ⟨rfl, rfl⟩
      go_wp2
      go_ret
      exact ⟨ret_bool HC.out.symm, b1⟩

set_option maxHeartbeats 2000000 in
theorem isBinaryRow_any (v : Value) (xs : List Int) (w : World) (h : Rd w v xs) (hl : xs.length ≤ maxLen) :
    Calls Try.prog 43 #[v] w (Says (cubeB xs) w) := by
  have hv := implValid_any v xs w h hl
  unfold maxLen at hl
  obtain ⟨a, cap, rfl, -⟩ := h
  cases hb : vrB xs with
  | false =>
    rw [hb] at hv
    have HC : Hid (cubeB xs = false) := by show cubeB xs = false; simp [cubeB, hb]
    go_enter Try.func43, Try.ntmps43
    go_wp2_with fail
    refine hv.mono ?_
    rintro e w1 ⟨rfl, b1⟩
    go_wp2
    go_ret
    exact ⟨ret_bool HC.out.symm, b1⟩
  | true =>
    rw [hb] at hv
    have HB := Lib.hid hb
    clear hb
    go_enter Try.func43, Try.ntmps43
    go_wp2_with fail
    refine hv.mono ?_
    rintro e w1 ⟨rfl, b1⟩
    clear hv
    go_wp2
    go_loop [3] (fun i => ∃ k : Nat, k ≤ 5 ∧ i = .int .i64 k ∧ Hid (∀ j, j < k → xs.length ≠ 2 ^ j)) (fun i => 5 - (intOf i).toNat)
    case atStart => exact ⟨0, by omega, rfl, fun j hj => absurd hj (Nat.not_lt_zero j)⟩
    case round =>
      obtain ⟨k, hk, rfl, hno⟩ := hrel
      by_cases hk5 : k = 5
      · subst hk5
        have HC : Hid (cubeB xs = false) := by show cubeB xs = false; simp [cubeB, HB.out, bitsN_none hno.out]
        go_wp2
        go_ret
        exact ⟨ret_bool HC.out.symm, b1⟩
      · by_cases heq : xs.length = 2 ^ k
        · have HC : Hid (cubeB xs = true) := by show cubeB xs = true; simp [cubeB, HB.out, bitsN_pow (k := k) (by omega) heq]
          rcases (show k = 0 ∨ k = 1 ∨ k = 2 ∨ k = 3 ∨ k = 4 by omega) with rfl | rfl | rfl | rfl | rfl
          all_goals
            simp at heq
            have e1 : (xs.length : Int) = ((2 ^ 0 : Nat) : Int) ∨ True := .inr trivial
            clear hno
            go_wp2
            go_ret
            exact ⟨ret_bool HC.out.symm, b1⟩
        · have hno2 : Hid (∀ j, j < k + 1 → xs.length ≠ 2 ^ j) := by
            intro j hj
            by_cases e : j = k
            · subst e; exact heq
            · exact hno.out j (by omega)
          clear hno
          rcases (show k = 0 ∨ k = 1 ∨ k = 2 ∨ k = 3 ∨ k = 4 by omega) with rfl | rfl | rfl | rfl | rfl
          all_goals
            simp at heq
            have HE := Lib.hid heq
            go_wp2
            go_round
            case rel => first | exact ⟨1, by omega, rfl, hno2⟩ | exact ⟨2, by omega, rfl, hno2⟩ | exact ⟨3, by omega, rfl, hno2⟩ | exact ⟨4, by omega, rfl, hno2⟩ | exact ⟨5, by omega, rfl, hno2⟩
            case measure => simp [intOf]

end Go.Proofs.Ytgafiglfmkaniaa
