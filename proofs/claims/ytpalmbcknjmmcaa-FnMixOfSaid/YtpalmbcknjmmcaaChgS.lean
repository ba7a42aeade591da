/-
  ChangesIn of the model, by its contract.
-/
import Derived.Test.YtpalmbcknjmmcaaChg
namespace Go.Proofs.Ytpalmbcknjmmcaa
open Go.RowKit
set_option linter.unusedVariables false

set_option maxHeartbeats 2000000 in
theorem specChanges_nat (k p y : Nat) (w : World) (hk : k ≤ 4) (hp : 2 ^ k = p) (hy : y < p) :
    Calls Try.prog 36 #[.int .i64 k, .int .i64 y] w fun e w' => e = .returned (.int .i64 (chP y (p - 1))) ∧ w = w' := by
  have hp16 : p ≤ 16 := by rw [← hp]; exact pow_le16 hk
  have HR := Lib.hid (inRange_any k 0 4 w)
  rw [inR_yes ⟨by omega, by omega⟩] at HR
  have HR2 := Lib.hid (inRange_any y 0 ((p : Int) - 1) w)
  rw [inR_yes ⟨by omega, by omega⟩] at HR2
  have HPW := Lib.hid fun w => power_any k p w (by omega) hp
  have HP := Lib.hid hp
  clear hp
  go_enter Try.func36, Try.ntmps36
  go_wp2_with fail
  refine HR.out.mono ?_
  rintro e w1 ⟨rfl, rfl⟩
  go_wp2_with fail
  refine (HPW.out _).mono ?_
  rintro e w1 ⟨rfl, rfl⟩
  go_wp2_with fail
  refine HR2.out.mono ?_
  rintro e w1 ⟨rfl, rfl⟩
  clear HR HR2
  go_wp2
  go_loopw [5, 6] (fun c i wr => ∃ m : Nat, m + 1 ≤ p ∧ i = .int .i64 ((m : Int) + 1) ∧ c = .int .i64 (chP y m) ∧ wr = w) (fun _ i _ => p - (intOf i).toNat)
  case atStart => exact ⟨0, by omega, rfl, rfl, rfl⟩
  case round =>
    obtain ⟨m, hm, rfl, rfl, rfl⟩ := hrel
    have hle := chP_le y m
    by_cases hlt : m + 1 < p
    · have HA1 := and16 (m + 1) (by omega) y (by omega)
      have HA0 := and16 m (by omega) y (by omega)
      have hz1 := and_lt 4 (by omega) (m + 1) (by omega) y (by omega)
      have hz0 := and_lt 4 (by omega) m (by omega) y (by omega)
      have HC : Hid (chP y (m + 1) = chP y m + if ones4 ((m + 1) &&& y) % 2 = ones4 (m &&& y) % 2 then 0 else 1) := by
        show _ = _
        rw [chP]
        congr 1
        unfold sg
        have h1 : ones4 ((m + 1) &&& y) % 2 < 2 := Nat.mod_lt _ (by omega)
        have h0 : ones4 (m &&& y) % 2 < 2 := Nat.mod_lt _ (by omega)
        generalize ones4 ((m + 1) &&& y) % 2 = a at h1
        generalize ones4 (m &&& y) % 2 = b at h0
        rcases (show a = 0 ∨ a = 1 by omega) with rfl | rfl <;> rcases (show b = 0 ∨ b = 1 by omega) with rfl | rfl <;> rfl
      rw [show ((m + 1 : Nat) : Int) = (m : Int) + 1 by omega] at HA1
      generalize (m + 1) &&& y = z1 at HA1 hz1 HC
      generalize m &&& y = z0 at HA0 hz0 HC
      have hO1 := specOnes_any z1 wr hz1
      have hO0 := specOnes_any z0 wr hz0
      have ho1 := ones4_le z1
      have ho0 := ones4_le z0
      generalize ones4 z1 = o1 at HC hO1 ho1
      generalize ones4 z0 = o0 at HC hO0 ho0
      have HO1 := Lib.hid hO1
      have HO0 := Lib.hid hO0
      clear hO1 hO0
      by_cases he : o1 % 2 = o0 % 2
      · have HC2 : Hid (chP y (m + 1) = chP y m) := by rw [HC.out, if_pos he]; rfl
        have e1 : ((o1 : Int) % 2 != (o0 : Int) % 2) = false := by
          have : (o1 : Int) % 2 = (o0 : Int) % 2 := by omega
          rw [this]; simp
        clear HC he
        go_wp2_with fail
        refine (HPW.out _).mono ?_
        rintro e w2 ⟨rfl, rfl⟩
        go_wp2_with fail
        refine HO1.out.mono ?_
        rintro e w2 ⟨rfl, rfl⟩
        go_wp2_with fail
        refine HO0.out.mono ?_
        rintro e w2 ⟨rfl, rfl⟩
        go_wp2
        go_roundw
        case rel => exact ⟨m + 1, by omega, by go_num, by rw [HC2.out], trivial⟩
        case measure => simp [intOf]; omega
      · have HC2 : Hid (chP y (m + 1) = chP y m + 1) := by rw [HC.out, if_neg he]; rfl
        have e1 : ((o1 : Int) % 2 != (o0 : Int) % 2) = true := by
          have : ¬ (o1 : Int) % 2 = (o0 : Int) % 2 := by omega
          simp [this]
        clear HC he
        go_wp2_with fail
        refine (HPW.out _).mono ?_
        rintro e w2 ⟨rfl, rfl⟩
        go_wp2_with fail
        refine HO1.out.mono ?_
        rintro e w2 ⟨rfl, rfl⟩
        go_wp2_with fail
        refine HO0.out.mono ?_
        rintro e w2 ⟨rfl, rfl⟩
        go_wp2
        go_roundw
        case rel => exact ⟨m + 1, by omega, by go_num, by rw [HC2.out]; go_num, trivial⟩
        case measure => simp [intOf]; omega
    · obtain ⟨q, rfl⟩ : ∃ q, p = q + 1 := ⟨p - 1, by omega⟩
      obtain rfl : m = q := by omega
      go_wp2_with fail
      refine (HPW.out _).mono ?_
      rintro e w2 ⟨rfl, rfl⟩
      go_wp2
      go_ret
      exact ⟨ret_int (by simp), rfl⟩

set_option maxHeartbeats 2000000 in
theorem specChangesIn_any (k y : Int) (w : World) :
    Calls Try.prog 36 #[.int .i64 k, .int .i64 y] w fun e w' => e = .returned (.int .i64 (chF k y)) ∧ w = w' := by
  by_cases hk : 0 ≤ k ∧ k ≤ 4
  · obtain ⟨K, rfl⟩ : ∃ K : Nat, k = K := ⟨k.toNat, by omega⟩
    obtain ⟨p, hp⟩ : ∃ p, p = 2 ^ K := ⟨_, rfl⟩
    have hp16 : p ≤ 16 := by rw [hp]; exact pow_le16 (by omega)
    by_cases hy : 0 ≤ y ∧ y < p
    · obtain ⟨Y, rfl⟩ : ∃ Y : Nat, y = Y := ⟨y.toNat, by omega⟩
      rw [chF_yes K Y (by omega) (by omega), ← hp]
      exact specChanges_nat K p Y w (by omega) hp.symm (by omega)
    · have HF : Hid (chF K y = -1) := chF_no (by simp only [Int.toNat_natCast]; omega)
      have HR := Lib.hid (inRange_any K 0 4 w)
      rw [inR_yes ⟨by omega, by omega⟩] at HR
      have HR2 := Lib.hid (inRange_any y 0 ((p : Int) - 1) w)
      rw [inR_no (by omega)] at HR2
      have HPW := Lib.hid (power_any K p w (by omega) hp.symm)
      have HP := Lib.hid hp
      clear hp hy
      go_enter Try.func36, Try.ntmps36
      go_wp2_with fail
      refine HR.out.mono ?_
      rintro e w1 ⟨rfl, rfl⟩
      go_wp2_with fail
      refine HPW.out.mono ?_
      rintro e w1 ⟨rfl, rfl⟩
      go_wp2_with fail
      refine HR2.out.mono ?_
      rintro e w1 ⟨rfl, rfl⟩
      go_wp2
      go_ret
      exact ⟨ret_int HF.out.symm, rfl⟩
  · have HF : Hid (chF k y = -1) := chF_no (by omega)
    have HR := Lib.hid (inRange_any k 0 4 w)
    rw [inR_no hk] at HR
    clear hk
    go_enter Try.func36, Try.ntmps36
    go_wp2_with fail
    refine HR.out.mono ?_
    rintro e w1 ⟨rfl, rfl⟩
    go_wp2
    go_ret
    exact ⟨ret_int HF.out.symm, rfl⟩

end Go.Proofs.Ytpalmbcknjmmcaa
