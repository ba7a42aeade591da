/-
  Rests of the model: powers, orders, roots, valid rests, counts, by their contracts.
-/
import Derived.Test.YtabbfehjgchmgaaOrdBy
import Derived.Test.YtabbfehjgchmgaaWvI
import Derived.Test.YtabbfehjgchmgaaValid
namespace Go.Proofs.Ytabbfehjgchmgaa
open Go.RowKit
set_option linter.unusedVariables false

theorem mod_any (x : Int) (w : World) (h0 : 0 ≤ x) (h1 : x ≤ 1000000) :
    Calls Try.prog 60 #[.int .i64 x] w fun e w' => e = .returned (.int .i64 (x % 97)) ∧ w = w' := by
  have HM := Lib.hid (show (x % 97 + 97) % 97 = x % 97 by omega)
  have h2 : 0 ≤ x % 97 := by omega
  have h3 : x % 97 ≤ 96 := by omega
  go_enter Try.func60, Try.ntmps60
  go_wp2
  go_ret
  first | exact ⟨rfl, rfl⟩ | exact ⟨ret_int HM.out, rfl⟩

theorem pm_nextL (x m : Nat) : ((pm x m : Nat) : Int) * (x : Int) % 97 = ((pm x (m + 1) : Nat) : Int) := pm_next x m

set_option maxHeartbeats 2000000 in
theorem raise_any (x n : Nat) (w : World) (hx : x < 97) (hn : n ≤ 1000) :
    Calls Try.prog 66 #[.int .i64 x, .int .i64 n] w fun e w' => e = .returned (.int .i64 (pm x n : Nat)) ∧ w = w' := by
  go_enter Try.func66, Try.ntmps66
  go_wp2
  go_loop [1, 5] (fun i o => ∃ p m : Nat, p + m = n ∧ i = .int .i64 p ∧ o = .int .i64 (pm x m : Nat)) (fun i _ => (intOf i).toNat)
  case atStart => exact ⟨n, 0, rfl, rfl, rfl⟩
  case round =>
    obtain ⟨p, m, hpm, rfl, rfl⟩ := hrel
    have hml : p ≤ n := by omega
    by_cases hp : 0 < p
    · obtain ⟨q, rfl⟩ : ∃ q, p = q + 1 := ⟨p - 1, by omega⟩
      have hb := pm_lt x m
      have h0 : 0 ≤ ((pm x m : Nat) : Int) * (x : Int) := Int.mul_nonneg (by omega) (by omega)
      have h1 : ((pm x m : Nat) : Int) * (x : Int) ≤ 96 * 96 := Int.mul_le_mul (by omega) (by omega) (by omega) (by omega)
      have HP := Lib.hid hpm
      clear hpm
      go_wp2_with fail
      refine (mod_any _ _ h0 (by omega)).mono ?_
      rintro e w' ⟨rfl, rfl⟩
      rw [pm_next]
      go_wp2
      go_round
      case rel => exact ⟨q, m + 1, by have := HP.out; omega, by go_num, rfl⟩
      case measure => simp [intOf]
    · obtain rfl : p = 0 := by omega
      obtain rfl : m = n := by omega
      go_wp2
      go_ret
      exact ⟨rfl, rfl⟩

theorem specinverse_any (x : Nat) (w : World) (hx : x < 97) :
    Calls Try.prog 59 #[.int .i64 x] w fun e w' => e = .returned (.int .i64 (invN x : Nat)) ∧ w = w' := by
  have HI : Hid (pm x 95 = invN x) := rfl
  go_enter Try.func59, Try.ntmps59
  go_wp2_with fail
  refine (raise_any x 95 _ hx (by omega)).mono ?_
  rintro e w' ⟨rfl, rfl⟩
  rw [HI.out]
  go_wp2
  go_ret
  exact ⟨rfl, rfl⟩

set_option maxHeartbeats 2000000 in
theorem order_any (x : Nat) (w : World) (h0 : 1 ≤ x) (h1 : x < 97) :
    Calls Try.prog 49 #[.int .i64 x] w fun e w' => e = .returned (.int .i64 (ordN x : Nat)) ∧ w = w' := by
  obtain ⟨ho1, ho2, -, ho4⟩ := ord_facts x h1 (by omega)
  have HO := Lib.hid ho4
  clear ho4
  go_enter Try.func49, Try.ntmps49
  go_wp2
  go_loop [3] (fun i => ∃ k : Nat, 1 ≤ k ∧ k ≤ ordN x ∧ i = .int .i64 k) (fun i => ordN x - (intOf i).toNat)
  case atStart => exact ⟨1, by omega, by omega, rfl⟩
  case round =>
    obtain ⟨k, hk0, hk1, rfl⟩ := hrel
    by_cases hp : pm x k = 1
    · have hkN : k = ordN x := by
        apply Classical.byContradiction
        intro hk
        exact ord_least x h1 h0 k (by omega) hk0 hp
      have HK := Lib.hid hkN
      have HP := Lib.hid hp
      clear hkN hp
      go_wp2_with fail
      refine (raise_any x k _ h1 (by omega)).mono ?_
      rintro e w' ⟨rfl, rfl⟩
      rw [HP.out]
      go_wp2
      go_ret
      exact ⟨ret_int (by rw [HK.out]), rfl⟩
    · have hkl : k < ordN x := by
        apply Classical.byContradiction
        intro hk
        exact hp ((show k = ordN x by omega) ▸ HO.out)
      have hne : ((pm x k : Nat) : Int) ≠ 1 := by omega
      have e1 : (((pm x k : Nat) : Int) == 1) = false := by simpa using hne
      have e2 : (((pm x k : Nat) : Int) != 1) = true := by simpa using hne
      clear hp hne
      go_wp2_with fail
      refine (raise_any x k _ h1 (by omega)).mono ?_
      rintro e w' ⟨rfl, rfl⟩
      go_wp2
      go_round
      case rel => exact ⟨k + 1, by omega, by omega, by go_num⟩
      case measure => simp [intOf]; omega

theorem specOrderBy_any (x : Int) (w : World) :
    Calls Try.prog 14 #[.int .i64 x] w fun e w' => e = .returned (.int .i64 (obF x)) ∧ w = w' := by
  by_cases hx : 1 ≤ x ∧ x ≤ 96
  · obtain ⟨n, rfl⟩ : ∃ n : Nat, x = (n : Int) := ⟨x.toNat, by omega⟩
    have hin := inR_yes hx
    have HF := Lib.hid (obF_yes (n := n) (by omega) (by omega))
    have h0 : 1 ≤ n := by omega
    have h1 : n < 97 := by omega
    clear hx
    go_enter Try.func14, Try.ntmps14
    go_wp2_with fail
    refine (inRange_any _ _ _ _).mono ?_
    rintro e w' ⟨rfl, rfl⟩
    rw [hin]
    clear hin
    go_wp2_with fail
    refine (order_any n _ h0 h1).mono ?_
    rintro e w' ⟨rfl, rfl⟩
    go_wp2
    go_ret
    exact ⟨ret_int HF.out.symm, rfl⟩
  · have hin := inR_no hx
    have HF := Lib.hid (obF_no hx)
    clear hx
    go_enter Try.func14, Try.ntmps14
    go_wp2_with fail
    refine (inRange_any _ _ _ _).mono ?_
    rintro e w' ⟨rfl, rfl⟩
    rw [hin]
    clear hin
    go_wp2
    go_ret
    exact ⟨ret_int HF.out.symm, rfl⟩

set_option maxHeartbeats 2000000 in
theorem root_any (n : Nat) (w : World) (h0 : 0 < n) (h1 : n < 97) (hd : 96 % n = 0) :
    Calls Try.prog 50 #[.int .i64 n] w fun e w' => e = .returned (.int .i64 (rtN n : Nat)) ∧ w = w' := by
  obtain ⟨ha, hb, hc⟩ := rt_facts n h1 h0 hd
  have HL := Lib.hid (rt_least n h1 h0 hd)
  have HC := Lib.hid hc
  clear hc hd
  go_enter Try.func50, Try.ntmps50
  go_wp2
  go_loop [3] (fun i => ∃ x : Nat, 1 ≤ x ∧ x ≤ rtN n ∧ i = .int .i64 x) (fun i => rtN n - (intOf i).toNat)
  case atStart => exact ⟨1, by omega, by omega, rfl⟩
  case round =>
    obtain ⟨x, hx0, hx1, rfl⟩ := hrel
    by_cases he : x = rtN n
    · have HX : Hid (ordN x = n) := by show ordN x = n; rw [he]; exact HC.out
      have HE := Lib.hid he
      have e1 : ((n : Int) == (n : Int)) = true := by simp
      have e2 : ((n : Int) != (n : Int)) = false := by simp
      clear he
      go_wp2_with fail
      refine (order_any x _ hx0 (by omega)).mono ?_
      rintro e w' ⟨rfl, rfl⟩
      rw [HX.out]
      go_wp2
      go_ret
      exact ⟨ret_int (by rw [HE.out]), rfl⟩
    · have hlt : x < rtN n := by omega
      have hne := HL.out x hlt hx0
      obtain ⟨o, ho⟩ : ∃ o, ordN x = o := ⟨_, rfl⟩
      have HO := Lib.hid ho
      rw [ho] at hne
      have e1 : ((o : Int) == (n : Int)) = false := by rw [beq_eq_false_iff_ne]; omega
      have e2 : ((o : Int) != (n : Int)) = true := by rw [bne_iff_ne]; omega
      clear he hne ho
      go_wp2_with fail
      refine (order_any x _ hx0 (by omega)).mono ?_
      rintro e w' ⟨rfl, rfl⟩
      rw [HO.out]
      go_wp2
      go_round
      case rel => exact ⟨x + 1, by omega, by omega, by go_num⟩
      case measure => simp [intOf]; omega

theorem specRootOf_any (n : Int) (w : World) :
    Calls Try.prog 18 #[.int .i64 n] w fun e w' => e = .returned (.int .i64 (rootF n)) ∧ w = w' := by
  by_cases hn : 1 ≤ n ∧ n ≤ 96
  · obtain ⟨m, rfl⟩ : ∃ m : Nat, n = (m : Int) := ⟨n.toNat, by omega⟩
    have hin := inR_yes hn
    have h0 : 0 < m := by omega
    have h1 : m < 97 := by omega
    have e0 : ((m : Int) == 0) = false := by rw [beq_eq_false_iff_ne]; omega
    by_cases hd : 96 % m = 0
    · have HF := Lib.hid (rootF_yes h0 (by omega) hd)
      have HR := Lib.hid (root_any m w h0 h1 hd)
      have e1 : ((96 : Int) % (m : Int) != 0) = false := by rw [mod96, hd]; rfl
      have e2 : ((96 : Int) % (m : Int) == 0) = true := by rw [mod96, hd]; rfl
      clear hn hd
      go_enter Try.func18, Try.ntmps18
      go_wp2_with fail
      refine (inRange_any _ _ _ _).mono ?_
      rintro e w' ⟨rfl, rfl⟩
      rw [hin]
      clear hin
      go_wp2_with fail
      refine HR.out.mono ?_
      rintro e w' ⟨rfl, rfl⟩
      go_wp2
      go_ret
      exact ⟨ret_int HF.out.symm, rfl⟩
    · have HF := Lib.hid (rootF_no (n := (m : Int)) (fun q => hd (div96' q.2.2)))
      have e1 : ((96 : Int) % (m : Int) != 0) = true := by rw [mod96, bne_iff_ne]; omega
      have e2 : ((96 : Int) % (m : Int) == 0) = false := by rw [mod96, beq_eq_false_iff_ne]; omega
      clear hn hd
      go_enter Try.func18, Try.ntmps18
      go_wp2_with fail
      refine (inRange_any _ _ _ _).mono ?_
      rintro e w' ⟨rfl, rfl⟩
      rw [hin]
      clear hin
      go_wp2
      go_ret
      exact ⟨ret_int HF.out.symm, rfl⟩
  · have hin := inR_no hn
    have HF := Lib.hid (rootF_no (n := n) (fun q => hn ⟨q.1, q.2.1⟩))
    clear hn
    go_enter Try.func18, Try.ntmps18
    go_wp2_with fail
    refine (inRange_any _ _ _ _).mono ?_
    rintro e w' ⟨rfl, rfl⟩
    rw [hin]
    clear hin
    go_wp2
    go_ret
    exact ⟨ret_int HF.out.symm, rfl⟩

end Go.Proofs.Ytabbfehjgchmgaa
