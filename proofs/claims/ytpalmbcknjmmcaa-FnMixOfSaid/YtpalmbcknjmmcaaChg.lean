/-
  ChangesIn, by its contracts.
-/
import Derived.Test.YtpalmbcknjmmcaaSgS
namespace Go.Proofs.Ytpalmbcknjmmcaa
open Go.RowKit
set_option linter.unusedVariables false

/-- How often the sign changes from one of the first m indices to the next. -/
def chP (y : Nat) : Nat → Nat
  | 0 => 0
  | m + 1 => chP y m + if sg (m + 1) y = sg m y then 0 else 1
theorem chP_le (y m : Nat) : chP y m ≤ m := by
  induction m with
  | zero => exact Nat.le_refl _
  | succ m ih => rw [chP]; split <;> omega
def chF (k y : Int) : Int := if 0 ≤ k ∧ k ≤ 4 ∧ 0 ≤ y ∧ y < ((2 ^ k.toNat : Nat) : Int) then (chP y.toNat (2 ^ k.toNat - 1) : Nat) else -1
theorem chF_yes (k y : Nat) (hk : k ≤ 4) (hy : y < 2 ^ k) : chF k y = chP y (2 ^ k - 1) := by
  unfold chF
  rw [if_pos ⟨by omega, by omega, by omega, by simp only [Int.toNat_natCast]; omega⟩]
  simp only [Int.toNat_natCast]
theorem chF_no {k y : Int} (h : ¬ (0 ≤ k ∧ k ≤ 4 ∧ 0 ≤ y ∧ y < ((2 ^ k.toNat : Nat) : Int))) : chF k y = -1 := by unfold chF; exact if_neg h

theorem digit_any (k : Int) (w : World) :
    Calls Try.prog 70 #[.int .i64 k] w fun e w' => e = .returned (.bool (inR k 0 4)) ∧ w = w' := by
  by_cases h0 : 0 ≤ k
  · by_cases h4 : k ≤ 4
    · have HR := Lib.hid (inR_yes (n := k) (lo := 0) (hi := 4) ⟨h0, h4⟩)
      go_enter Try.func70, Try.ntmps70
      go_wp2
      go_ret
      exact ⟨ret_bool HR.out.symm, rfl⟩
    · have HR := Lib.hid (inR_no (n := k) (lo := 0) (hi := 4) (by omega))
      go_enter Try.func70, Try.ntmps70
      go_wp2
      go_ret
      exact ⟨ret_bool HR.out.symm, rfl⟩
  · have HR := Lib.hid (inR_no (n := k) (lo := 0) (hi := 4) (by omega))
    go_enter Try.func70, Try.ntmps70
    go_wp2
    go_ret
    exact ⟨ret_bool HR.out.symm, rfl⟩

set_option maxHeartbeats 2000000 in
theorem implChanges_nat (k p y : Nat) (w : World) (hk : k ≤ 4) (hp : 2 ^ k = p) (hy : y < p) :
    Calls Try.prog 35 #[.int .i64 k, .int .i64 y] w fun e w' => e = .returned (.int .i64 (chP y (p - 1))) ∧ w = w' := by
  have hD := digit_any k w
  rw [inR_yes ⟨by omega, by omega⟩] at hD
  have hp16 : p ≤ 16 := by rw [← hp]; exact pow_le16 hk
  have hpi : (2 : Int) ^ k = (p : Int) := by rw [← hp]; simp
  have d1 : decide (p ≤ y) = false := decide_eq_false (by omega)
  have d0 : decide ((y : Int) < 0) = false := decide_eq_false (by omega)
  have HP := Lib.hid hp
  clear hp
  go_enter Try.func35, Try.ntmps35
  go_wp2_with fail
  refine hD.mono ?_
  rintro e w1 ⟨rfl, rfl⟩
  clear hD
  go_wp2
  go_loopw [5, 6] (fun c i wr => ∃ m : Nat, m + 1 ≤ p ∧ i = .int .i64 ((m : Int) + 1) ∧ c = .int .i64 (chP y m) ∧ wr = w) (fun _ i _ => p - (intOf i).toNat)
  case atStart => exact ⟨0, by omega, rfl, rfl, rfl⟩
  case round =>
    obtain ⟨m, hm, rfl, rfl, rfl⟩ := hrel
    have hle := chP_le y m
    by_cases hlt : m + 1 < p
    · have hA := Lib.hid (sgAt_any (m + 1) y wr (by omega) (by omega))
      have hB := Lib.hid (sgAt_any m y wr (by omega) (by omega))
      have HC : Hid (chP y (m + 1) = chP y m + if sg (m + 1) y = sg m y then 0 else 1) := rfl
      have hA1 := sg_one (m + 1) y
      have hB1 := sg_one m y
      generalize sg (m + 1) y = s1 at hA HC hA1
      generalize sg m y = s0 at hB HC hB1
      have hor : s1 = s0 ∨ ((s1 != s0) = true ∧ ¬ s1 = s0) := by rcases hA1 with rfl | rfl <;> rcases hB1 with rfl | rfl <;> simp
      clear hA1 hB1
      rcases hor with rfl | ⟨e1, hne⟩
      · have HC2 : Hid (chP y (m + 1) = chP y m) := by rw [HC.out, if_pos rfl]; rfl
        clear HC
        go_wp2_with fail
        refine hA.out.mono ?_
        rintro e w2 ⟨rfl, rfl⟩
        go_wp2_with fail
        refine hB.out.mono ?_
        rintro e w2 ⟨rfl, rfl⟩
        go_wp2
        go_roundw
        case rel => exact ⟨m + 1, by omega, by go_num, by rw [HC2.out], trivial⟩
        case measure => simp [intOf]; omega
      · have HC2 : Hid (chP y (m + 1) = chP y m + 1) := by rw [HC.out, if_neg hne]; rfl
        clear HC hne
        go_wp2_with fail
        refine hA.out.mono ?_
        rintro e w2 ⟨rfl, rfl⟩
        go_wp2_with fail
        refine hB.out.mono ?_
        rintro e w2 ⟨rfl, rfl⟩
        go_wp2
        go_roundw
        case rel => exact ⟨m + 1, by omega, by go_num, by rw [HC2.out]; go_num, trivial⟩
        case measure => simp [intOf]; omega
    · obtain ⟨q, rfl⟩ : ∃ q, p = q + 1 := ⟨p - 1, by omega⟩
      obtain rfl : m = q := by omega
      go_wp2
      go_ret
      exact ⟨ret_int (by simp), rfl⟩

set_option maxHeartbeats 2000000 in
theorem implChangesIn_any (k y : Int) (w : World) (hk64 : -9223372036854775808 ≤ k ∧ k ≤ 9223372036854775807) (hy64 : -9223372036854775808 ≤ y ∧ y ≤ 9223372036854775807) :
    Calls Try.prog 35 #[.int .i64 k, .int .i64 y] w fun e w' => e = .returned (.int .i64 (chF k y)) ∧ w = w' := by
  by_cases hk : 0 ≤ k ∧ k ≤ 4
  · obtain ⟨K, rfl⟩ : ∃ K : Nat, k = K := ⟨k.toNat, by omega⟩
    obtain ⟨p, hp⟩ : ∃ p, p = 2 ^ K := ⟨_, rfl⟩
    have hp16 : p ≤ 16 := by rw [hp]; exact pow_le16 (by omega)
    have hpi : (2 : Int) ^ K = (p : Int) := by rw [hp]; simp
    by_cases hy : 0 ≤ y ∧ y < p
    · obtain ⟨Y, rfl⟩ : ∃ Y : Nat, y = Y := ⟨y.toNat, by omega⟩
      rw [chF_yes K Y (by omega) (by omega), ← hp]
      exact implChanges_nat K p Y w (by omega) hp.symm (by omega)
    · have HF : Hid (chF K y = -1) := chF_no (by simp only [Int.toNat_natCast]; omega)
      have hD := digit_any K w
      rw [inR_yes ⟨by omega, by omega⟩] at hD
      have HP := Lib.hid hp
      clear hp
      by_cases h0 : y < 0
      · clear hy
        go_enter Try.func35, Try.ntmps35
        go_wp2_with fail
        refine hD.mono ?_
        rintro e w1 ⟨rfl, rfl⟩
        go_wp2
        go_ret
        exact ⟨ret_int HF.out.symm, rfl⟩
      · have h1 : (p : Int) ≤ y := by omega
        clear hy
        go_enter Try.func35, Try.ntmps35
        go_wp2_with fail
        refine hD.mono ?_
        rintro e w1 ⟨rfl, rfl⟩
        go_wp2
        go_ret
        exact ⟨ret_int HF.out.symm, rfl⟩
  · have HF : Hid (chF k y = -1) := chF_no (by omega)
    have hD := digit_any k w
    rw [inR_no hk] at hD
    clear hk
    go_enter Try.func35, Try.ntmps35
    go_wp2_with fail
    refine hD.mono ?_
    rintro e w1 ⟨rfl, rfl⟩
    go_wp2
    go_ret
    exact ⟨ret_int HF.out.symm, rfl⟩

end Go.Proofs.Ytpalmbcknjmmcaa
