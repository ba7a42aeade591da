/-
  The contracts of ValidRow, program and model.
-/
import Derived.Test.YtagncoahobghpacInfo
namespace Go.Proofs.Ytagncoahobghpac
open Go.RowKit
set_option linter.unusedVariables false

/-- Is n in the range? -/
def inR (n lo hi : Int) : Bool := decide (lo ≤ n ∧ n ≤ hi)
theorem inR_yes {n lo hi : Int} (h : lo ≤ n ∧ n ≤ hi) : inR n lo hi = true := by simp [inR, h]
theorem inR_no {n lo hi : Int} (h : ¬ (lo ≤ n ∧ n ≤ hi)) : inR n lo hi = false := by simp only [inR, decide_eq_false_iff_not]; exact h

/-- Are the numbers a row? -/
def vrB (xs : List Int) : Bool := decide (xs.length ≤ 16 ∧ ∀ j, j < xs.length → -1000 ≤ ix xs j ∧ ix xs j ≤ 1000)
theorem vrB_long {xs : List Int} (h : ¬ xs.length ≤ 16) : vrB xs = false := by simp only [vrB, decide_eq_false_iff_not]; exact fun e => h e.1
theorem vrB_no {xs : List Int} (k : Nat) (hk : k < xs.length) (h : ¬ (-1000 ≤ ix xs k ∧ ix xs k ≤ 1000)) : vrB xs = false := by
  simp only [vrB, decide_eq_false_iff_not]; exact fun e => h (e.2 k hk)
theorem vrB_yes {xs : List Int} (h : xs.length ≤ 16) (h2 : ∀ j, j < xs.length → -1000 ≤ ix xs j ∧ ix xs j ≤ 1000) : vrB xs = true := by
  simp only [vrB, decide_eq_true_eq]; exact ⟨h, h2⟩
theorem vrB_of {xs : List Int} (h : vrB xs = true) : xs.length ≤ 16 ∧ ∀ j, j < xs.length → -1000 ≤ ix xs j ∧ ix xs j ≤ 1000 := by
  simpa only [vrB, decide_eq_true_eq] using h

theorem vr_max {xs : List Int} (h : vrB xs = true) : xs.length ≤ 1048576 := by have := (vrB_of h).1; omega

theorem inRange_any (n lo hi : Int) (w : World) :
    Calls Try.prog 41 #[.int .i64 n, .int .i64 lo, .int .i64 hi] w fun e w' => e = .returned (.bool (inR n lo hi)) ∧ w = w' := by
  by_cases h1 : lo ≤ n
  · by_cases h2 : n ≤ hi
    · have h := inR_yes ⟨h1, h2⟩
      rw [h]; clear h
      go_enter Try.func41, Try.ntmps41
      go_wp2
      go_ret
      exact ⟨rfl, rfl⟩
    · have h := inR_no (n := n) (lo := lo) (hi := hi) (fun e => h2 e.2)
      rw [h]; clear h
      go_enter Try.func41, Try.ntmps41
      go_wp2
      go_ret
      exact ⟨rfl, rfl⟩
  · have h := inR_no (n := n) (lo := lo) (hi := hi) (fun e => h1 e.1)
    rw [h]; clear h
    go_enter Try.func41, Try.ntmps41
    go_wp2
    go_ret
    exact ⟨rfl, rfl⟩

set_option maxHeartbeats 1000000 in
theorem implValid_q (v : Value) (xs : List Int) (w : World) (h : Rd w v xs) (hl : xs.length ≤ maxLen) :
    Calls Try.prog 10 #[v] w fun e w' => e = .returned (.bool (vrB xs)) ∧ w = w' := by
  unfold maxLen at hl
  obtain ⟨a, cap, rfl, h⟩ := h
  by_cases hlen : xs.length ≤ 16
  · rcases h with rfl | ⟨b, off, rfl, hb, hc⟩
    · go_enter Try.func10, Try.ntmps10
      go_wp2
      refine wp_loop_rounds 1 ?_
      rw [rounds_succ]
      go_wp2
      go_ret
      exact ⟨rfl, rfl⟩
    · go_enter Try.func10, Try.ntmps10
      go_wp2
      go_loop [10] (fun i => ∃ k : Nat, k ≤ xs.length ∧ i = .int .i64 k ∧ Hid (∀ j, j < k → -1000 ≤ ix xs j ∧ ix xs j ≤ 1000)) (fun i => xs.length - (intOf i).toNat)
      case atStart => exact ⟨0, Nat.zero_le _, rfl, fun j hj => absurd hj (Nat.not_lt_zero j)⟩
      case round =>
        obtain ⟨k, hk, rfl, hok⟩ := hrel
        by_cases hlt : k < xs.length
        · have hck := hc k hlt
          have HL := Lib.hid hlen
          clear hc
          by_cases h1 : -1000 ≤ ix xs k
          · by_cases h2 : ix xs k ≤ 1000
            · go_wp2
              go_round
              case rel =>
                refine ⟨k + 1, by omega, by go_num, fun j hj => ?_⟩
                by_cases e : j = k
                · subst e; exact ⟨h1, h2⟩
                · exact hok.out j (by omega)
              case measure => simp [intOf]; omega
            · have hno := Lib.hid (vrB_no k hlt (fun e => h2 e.2))
              go_wp2
              go_ret
              exact ⟨ret_bool hno.out.symm, rfl⟩
          · have hno := Lib.hid (vrB_no k hlt (fun e => h1 e.1))
            go_wp2
            go_ret
            exact ⟨ret_bool hno.out.symm, rfl⟩
        · have hkl : k = xs.length := by omega
          subst hkl
          have hyes := Lib.hid (vrB_yes hlen hok.out)
          go_wp2
          go_ret
          exact ⟨ret_bool hyes.out.symm, rfl⟩
  · have hno := Lib.hid (vrB_long hlen)
    clear h
    go_enter Try.func10, Try.ntmps10
    go_wp2
    go_ret
    exact ⟨ret_bool hno.out.symm, rfl⟩

theorem implValid_any (v : Value) (xs : List Int) (w : World) (h : Rd w v xs) (hl : xs.length ≤ maxLen) :
    Calls Try.prog 10 #[v] w (Says (vrB xs) w) :=
  (implValid_q v xs w h hl).mono fun e w' ⟨h1, h2⟩ => ⟨h1, by rw [← h2]; exact Below.refl _ _⟩

set_option maxHeartbeats 1000000 in
theorem specvalid_any (v : Value) (xs : List Int) (w : World) (h : Rd w v xs) (hl : xs.length ≤ maxLen) :
    Calls Try.prog 29 #[v] w (Says (vrB xs) w) := by
  unfold maxLen at hl
  obtain ⟨a, cap, rfl, h⟩ := h
  rcases h with rfl | ⟨b, off, rfl, hb, hc⟩
  · go_enter Try.func29, Try.ntmps29
    go_wp2
    refine wp_loop_rounds 1 ?_
    rw [rounds_succ]
    go_wp2
    go_ret
    exact ⟨rfl, Below.refl _ _⟩
  · go_enter Try.func29, Try.ntmps29
    go_wp2
    go_loop [3] (fun i => ∃ k : Nat, k ≤ xs.length ∧ i = .int .i64 k ∧ Hid (∀ j, j < k → -1000 ≤ ix xs j ∧ ix xs j ≤ 1000)) (fun i => xs.length - (intOf i).toNat)
    case atStart => exact ⟨0, Nat.zero_le _, rfl, fun j hj => absurd hj (Nat.not_lt_zero j)⟩
    case round =>
      obtain ⟨k, hk, rfl, hok⟩ := hrel
      by_cases hlt : k < xs.length
      · have hck := hc k hlt
        clear hc
        by_cases h1 : -1000 ≤ ix xs k ∧ ix xs k ≤ 1000
        · have hin := inR_yes h1
          go_wp2_with fail
          refine (inRange_any _ _ _ _).mono ?_
          rintro e w' ⟨rfl, rfl⟩
          rw [hin]
          clear hin
          go_wp2
          go_round
          case rel =>
            refine ⟨k + 1, by omega, by go_num, fun j hj => ?_⟩
            by_cases e : j = k
            · subst e; exact h1
            · exact hok.out j (by omega)
          case measure => simp [intOf]; omega
        · have hin := inR_no h1
          have hno := Lib.hid (vrB_no k hlt h1)
          clear h1
          go_wp2_with fail
          refine (inRange_any _ _ _ _).mono ?_
          rintro e w' ⟨rfl, rfl⟩
          rw [hin]
          clear hin
          go_wp2
          go_ret
          exact ⟨ret_bool hno.out.symm, Below.refl _ _⟩
      · have hkl : k = xs.length := by omega
        subst hkl
        by_cases hlen : xs.length ≤ 16
        · have hyes := Lib.hid (vrB_yes hlen hok.out)
          have hd : decide ((xs.length : Int) ≤ 16) = true := by simp; omega
          go_wp2
          go_ret
          exact ⟨ret_bool hyes.out.symm, Below.refl _ _⟩
        · have hno := Lib.hid (vrB_long hlen)
          have hd : decide ((xs.length : Int) ≤ 16) = false := by simp; omega
          go_wp2
          go_ret
          exact ⟨ret_bool hno.out.symm, Below.refl _ _⟩

end Go.Proofs.Ytagncoahobghpac
