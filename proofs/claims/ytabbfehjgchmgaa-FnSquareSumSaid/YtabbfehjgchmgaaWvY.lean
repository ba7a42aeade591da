/-
  WaveOf, UnwaveOf, SpreadOf, SquareSum of the model, by their contracts.
-/
import Derived.Test.YtabbfehjgchmgaaWvQ
namespace Go.Proofs.Ytabbfehjgchmgaa
open Go.RowKit
set_option linter.unusedVariables false

set_option maxHeartbeats 2000000 in
theorem specWaveOf_any (v : Value) (xs : List Int) (w : World) (h : Rd w v xs) (hl : xs.length ≤ maxLen) :
    Calls Try.prog 25 #[v] w (Made 3 w (waveF xs)) := by
  have hv := specvalidRests_any v xs w h hl
  cases hb : vsB xs with
  | true =>
    rw [hb] at hv
    have hV := (vsB_iff xs).1 hb
    obtain ⟨hn0, hn1, hdv⟩ : 0 < xs.length ∧ xs.length ≤ 96 ∧ 96 % xs.length = 0 := ⟨hV.some, hV.few, hV.div⟩
    have HF := Lib.hid (show waveF xs = waveL xs (rtN xs.length) from waveF_yes hb)
    have HR := Lib.hid fun w => root_any xs.length w hn0 (by omega) hdv
    have HW := Lib.hid (specwave_any v xs (rtN xs.length) w h (rt_bd hn0 hn1 hdv).2 hV.rt hn1 hV.rest)
    obtain ⟨a, cap, rfl, -⟩ := h
    clear hb hV hdv
    go_enter Try.func25, Try.ntmps25
    go_wp2_with fail
    refine hv.mono ?_
    rintro e w1 ⟨rfl, rfl⟩
    go_wp2_with fail
    refine (HR.out _).mono ?_
    rintro e w1 ⟨rfl, rfl⟩
    go_wp2_with fail
    refine HW.out.mono ?_
    rintro e w2 ⟨g, rfl, o2, b2⟩
    go_wp2
    go_ret
    exact ⟨_, rfl, by rw [HF.out]; exact o2, b2⟩
  | false =>
    rw [hb] at hv
    have HF := Lib.hid (waveF_no hb)
    clear hb
    go_enter Try.func25, Try.ntmps25
    go_wp2_with fail
    refine hv.mono ?_
    rintro e w1 ⟨rfl, rfl⟩
    go_wp2
    go_ret
    exact ⟨_, rfl, by rw [HF.out]; exact Own.nil _ _ _, Below.refl _ _⟩

set_option maxHeartbeats 2000000 in
theorem specSpreadOf_any (v : Value) (xs : List Int) (w : World) (h : Rd w v xs) (hl : xs.length ≤ maxLen) :
    Calls Try.prog 39 #[v] w (Twos (sprA xs) (sprB xs) w) := by
  have hv := specvalidRests_any v xs w h hl
  cases hb : vsB xs with
  | true =>
    rw [hb] at hv
    have hV := (vsB_iff xs).1 hb
    obtain ⟨hn0, hn1, hdv⟩ : 0 < xs.length ∧ xs.length ≤ 96 ∧ 96 % xs.length = 0 := ⟨hV.some, hV.few, hV.div⟩
    have HA := Lib.hid (show sprA xs = someN xs by unfold sprA; exact if_pos hb)
    have HB := Lib.hid (show sprB xs = someN (waveL xs (rtN xs.length)) by unfold sprB; exact if_pos hb)
    have HR := Lib.hid fun w => root_any xs.length w hn0 (by omega) hdv
    have HW := Lib.hid (specwave_any v xs (rtN xs.length) w h (rt_bd hn0 hn1 hdv).2 hV.rt hn1 hV.rest)
    have HC1 := Lib.hid (specsome_any v xs w h hn0 hn1 hV.rest)
    have HC2 := Lib.hid fun w (v : Value) (h : Rd w v (waveL xs (rtN xs.length))) => specsome_any v _ w h (by rw [len_waveL]; exact hn0) (by rw [len_waveL]; exact hn1) (waveL_rest xs _)
    obtain ⟨a, cap, rfl, -⟩ := h
    clear hb hV hdv
    go_enter Try.func39, Try.ntmps39
    go_wp2_with fail
    refine hv.mono ?_
    rintro e w1 ⟨rfl, rfl⟩
    go_wp2_with fail
    refine HC1.out.mono ?_
    rintro e w1 ⟨rfl, rfl⟩
    go_wp2_with fail
    refine (HR.out _).mono ?_
    rintro e w1 ⟨rfl, rfl⟩
    go_wp2_with fail
    refine HW.out.mono ?_
    rintro e w2 ⟨g, rfl, o2, b2⟩
    go_wp2_with fail
    refine (HC2.out _ _ o2.rd).mono ?_
    rintro e w3 ⟨rfl, rfl⟩
    go_wp2
    go_ret2
    exact ⟨ret_two HA.out.symm HB.out.symm, b2⟩
  | false =>
    rw [hb] at hv
    have HA := Lib.hid (show sprA xs = -1 by unfold sprA; exact if_neg (by simp [hb]))
    have HB := Lib.hid (show sprB xs = -1 by unfold sprB; exact if_neg (by simp [hb]))
    clear hb
    go_enter Try.func39, Try.ntmps39
    go_wp2_with fail
    refine hv.mono ?_
    rintro e w1 ⟨rfl, rfl⟩
    go_wp2
    go_ret2
    exact ⟨ret_two HA.out.symm HB.out.symm, Below.refl _ _⟩

/-- The model's sum behind m of the powers. -/
def sqV (k m : Nat) : Nat := (List.range m).foldl (fun s i => (s + pm (rtN 16) (i * i * k % 16)) % 97) 0
theorem sqV_next (k m : Nat) : ((sqV k (m + 1) : Nat) : Int) = ((sqV k m : Nat) + (pm (rtN 16) (m * m * k % 16) : Nat) : Int) % 97 := by
  have e : sqV k (m + 1) = (sqV k m + pm (rtN 16) (m * m * k % 16)) % 97 := by unfold sqV; rw [List.range_succ, List.foldl_append]; rfl
  rw [e, Int.natCast_emod, Int.natCast_add]; rfl
theorem sqV_lt (k m : Nat) : sqV k m < 97 := by
  cases m with
  | zero => exact (by decide : 0 < 97)
  | succ m => unfold sqV; rw [List.range_succ, List.foldl_append]; exact Nat.mod_lt _ (by decide)

set_option maxHeartbeats 4000000 in
theorem specSquareSum_any (k : Int) (w : World) :
    Calls Try.prog 42 #[.int .i64 k] w fun e w' => e = .returned (.int .i64 (sqF k)) ∧ w = w' := by
  by_cases hk : 0 ≤ k ∧ k ≤ 15
  · obtain ⟨n, rfl⟩ : ∃ n : Nat, k = (n : Int) := ⟨k.toNat, by omega⟩
    have hn1 : n ≤ 15 := by omega
    have hin := inR_yes hk
    have HF := Lib.hid (show sqF n = (sqV n 16 : Nat) from sqF_yes hn1)
    have HR := Lib.hid fun w => root_any 16 w (by decide) (by decide) (by decide)
    have hr1 : rtN 16 < 97 := by decide
    have HN := Lib.hid fun m => sqV_next n m
    obtain ⟨r, hr⟩ : ∃ r, r = rtN 16 := ⟨_, rfl⟩
    rw [← hr] at HR hr1 HN
    clear hk hr
    go_enter Try.func42, Try.ntmps42
    go_wp2_with fail
    refine (inRange_any _ _ _ _).mono ?_
    rintro e w1 ⟨rfl, rfl⟩
    rw [hin]
    clear hin
    go_wp2
    go_loop [3, 4] (fun s i => ∃ m : Nat, m ≤ 16 ∧ i = .int .i64 m ∧ s = .int .i64 (sqV n m : Nat)) (fun _ i => 16 - (intOf i).toNat)
    case atStart => exact ⟨0, Nat.zero_le _, rfl, rfl⟩
    case round =>
      obtain ⟨m, hm, rfl, rfl⟩ := hrel
      by_cases hlt : m < 16
      · have hmi : (m : Int) < 16 := by omega
        have hS := sqV_lt n m
        have HNm := Lib.hid (HN.out m)
        obtain ⟨d, hd⟩ : ∃ d, d = m * m * n % 16 := ⟨_, rfl⟩
        have hd1 : d ≤ 96 := by omega
        have hp := pm_lt r d
        have HP := Lib.hid fun w => raise_any r d w hr1 (by omega)
        rw [← hd] at HNm
        obtain ⟨p, hpp⟩ : ∃ p, p = pm r d := ⟨_, rfl⟩
        rw [← hpp] at hp HP HNm
        have hmm1 : m * m ≤ 15 * 15 := Nat.mul_le_mul (by omega) (by omega)
        have hmm2 : m * m * n ≤ 15 * 15 * 15 := Nat.mul_le_mul hmm1 (by omega)
        have hmn0 : (0 : Int) ≤ (m : Int) * (m : Int) * (n : Int) := by rw [← Int.natCast_mul, ← Int.natCast_mul]; omega
        have hmn1 : (m : Int) * (m : Int) * (n : Int) ≤ 3375 := by rw [← Int.natCast_mul, ← Int.natCast_mul]; omega
        have hm0 : (0 : Int) ≤ (m : Int) * (m : Int) := by rw [← Int.natCast_mul]; omega
        have hm1 : (m : Int) * (m : Int) ≤ 225 := by rw [← Int.natCast_mul]; omega
        have HD := Lib.hid (show (m : Int) * (m : Int) * (n : Int) % 16 = (d : Int) by rw [← Int.natCast_mul, ← Int.natCast_mul, hd, Int.natCast_emod]; rfl)
        obtain ⟨s, hs⟩ : ∃ s, s = sqV n m := ⟨_, rfl⟩
        rw [← hs] at hS HNm ⊢
        clear hd hpp hs
        go_wp2_with fail
        refine (HR.out _).mono ?_
        rintro e w1 ⟨rfl, rfl⟩
        go_wp2_with fail
        rw [HD.out]
        refine (HP.out _).mono ?_
        rintro e w1 ⟨rfl, rfl⟩
        go_wp2_with fail
        refine (mod_any _ _ (by omega) (by omega)).mono ?_
        rintro e w1 ⟨rfl, rfl⟩
        go_wp2
        go_round
        case rel => exact ⟨m + 1, by omega, by go_num, by rw [HNm.out]⟩
        case measure => simp [intOf]; omega
      · obtain rfl : m = 16 := by omega
        go_wp2
        go_ret
        exact ⟨ret_int HF.out.symm, rfl⟩
  · have hin := inR_no hk
    have HF := Lib.hid (sqF_no hk)
    clear hk
    go_enter Try.func42, Try.ntmps42
    go_wp2_with fail
    refine (inRange_any _ _ _ _).mono ?_
    rintro e w1 ⟨rfl, rfl⟩
    rw [hin]
    clear hin
    go_wp2
    go_ret
    exact ⟨ret_int HF.out.symm, rfl⟩

end Go.Proofs.Ytabbfehjgchmgaa
