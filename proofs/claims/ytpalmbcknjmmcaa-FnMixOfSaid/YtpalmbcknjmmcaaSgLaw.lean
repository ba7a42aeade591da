/-
  What the promises of sums with signs come to, as plain mathematics.
-/
import Derived.Test.YtpalmbcknjmmcaaBent
import Derived.Test.YtpalmbcknjmmcaaOrd
import Derived.Test.YtpalmbcknjmmcaaMixS
import Derived.Test.YtpalmbcknjmmcaaHelpG
import Derived.Test.YtpalmbcknjmmcaaSgQ
import Derived.Test.YtpalmbcknjmmcaaBelow
namespace Go.Proofs.Ytpalmbcknjmmcaa
open Go.RowKit
set_option linter.unusedVariables false

theorem w64_neg (a : Int) : wrap64 (-wrap64 a) = wrap64 (-a) := by unfold wrap64; omega
theorem len_signsL' (xs : List Int) : (signsL xs).length = xs.length := len_signsL xs
theorem cube_len {xs ys : List Int} (hx : cubeB xs = true) (hv : vrB ys = true) (hl : ys.length = xs.length) : cubeB ys = true := by
  unfold cubeB at hx ⊢
  simp only [Bool.and_eq_true, decide_eq_true_eq] at hx ⊢
  exact ⟨hv, by rw [hl]; exact hx.2⟩
theorem ix_signsL {xs : List Int} (h : cubeB xs = true) {j : Nat} (hj : j < xs.length) : ix (signsL xs) j = sgE (ix xs) xs.length j := (signs_small h j hj).2.2
/-- Signs twice are as many times the row. -/
theorem signs_twice {xs : List Int} (h : cubeB xs = true) : signsL (signsL xs) = scaledL (xs.length : Int) xs := by
  obtain ⟨k, hk, hn⟩ := (cubeB_of h).2
  unfold scaledL
  refine eq_tab (by simp [len_signsL]) fun j hj => ?_
  have e : ix (signsL (signsL xs)) j = wrap64 (sgE (ix (signsL xs)) xs.length j) := by
    show ix (tab (signsL xs).length fun y => wrap64 (sgE (ix (signsL xs)) (signsL xs).length y)) j = _
    rw [len_signsL, ix_tab _ _ _ hj]
  rw [e]
  congr 1
  rw [sgE_congr (G := sgE (ix xs) xs.length) (fun i hi => ix_signsL h hi) j, hn, sg_twice _ hk (by omega)]
theorem signs_total {xs : List Int} (h : cubeB xs = true) : ix (signsL xs) 0 = wrap64 (sumN (ix xs) xs.length) := by
  have hp := cube_pos h
  have h16 := (vrB_of (cubeB_of h).1).1
  unfold signsL
  rw [ix_tab _ _ _ hp]
  congr 1
  unfold sgE
  exact sumN_congr fun x hx => by rw [sg_zero x (by omega), Int.one_mul]
theorem signs_energy {xs : List Int} (h : cubeB xs = true) (hv : vrB (signsL xs) = true) : energyF (signsL xs) = wrap64 ((xs.length : Int) * energyF xs) := by
  obtain ⟨k, hk, hn⟩ := (cubeB_of h).2
  unfold energyF
  rw [if_pos hv, if_pos (cubeB_of h).1, w64_mulR, len_signsL]
  congr 1
  rw [sq_congr (G := sgE (ix xs) xs.length) (fun i hi => ix_signsL h hi), hn, sq_sg _ hk]
/-- Signs are given again. -/
theorem uns_facts {xs : List Int} (h : okU xs = true) : cubeB xs = true ∧ vrB (unsL xs) = true ∧ cubeB (unsL xs) = true ∧ signsL (unsL xs) = xs ∧ (unsL xs).length = xs.length := by
  have hc : cubeB xs = true := by
    cases hc : cubeB xs with
    | true => rfl
    | false => rw [okU_bad hc] at h; exact absurd h (by simp)
  have hd : ∀ j, j < xs.length → ix (signsL xs) j % (xs.length : Int) = 0 := by
    intro j hj
    by_cases e : ix (signsL xs) j % (xs.length : Int) = 0
    · exact e
    · rw [okU_no hj e] at h; exact absurd h (by simp)
  have hL := unsL_yes h
  have hl : (unsL xs).length = xs.length := by rw [hL]; simp
  obtain ⟨k, hk, hn⟩ := (cubeB_of hc).2
  have hp := cube_pos hc
  have h16 := (vrB_of (cubeB_of hc).1).1
  have hb := (vrB_of (cubeB_of hc).1).2
  have hix : ∀ j, j < xs.length → (xs.length : Int) * ix (unsL xs) j = sgE (ix xs) xs.length j := by
    intro j hj
    rw [hL, ix_tab _ _ _ hj, ← ix_signsL hc hj]
    exact Int.mul_tdiv_cancel' (Int.dvd_of_emod_eq_zero (hd j hj))
  have hv : vrB (unsL xs) = true := by
    refine vrB_yes (by omega) fun j hj => ?_
    rw [hl] at hj
    have e := hix j hj
    have b := sgE_bound (F := ix xs) (n := xs.length) (c := 1000) (by omega) hb j
    rw [← e] at b
    have hp' : (1 : Int) ≤ (xs.length : Int) := by omega
    refine ⟨?_, ?_⟩
    · refine Int.le_of_mul_le_mul_left (a := (xs.length : Int)) ?_ (by omega)
      have := b.1; rw [Int.mul_neg]; exact this
    · exact Int.le_of_mul_le_mul_left (a := (xs.length : Int)) b.2 (by omega)
  refine ⟨hc, hv, cube_len hc hv hl, ?_, hl⟩
  refine ext_ix (by rw [len_signsL, hl]) fun j hj => ?_
  rw [len_signsL, hl] at hj
  have hcu := cube_len hc hv hl
  rw [ix_signsL hcu (by rw [hl]; exact hj), hl]
  have e : (xs.length : Int) * sgE (ix (unsL xs)) xs.length j = (xs.length : Int) * ix xs j := by
    have e1 : (xs.length : Int) * sgE (ix (unsL xs)) xs.length j = sgE (sgE (ix xs) xs.length) xs.length j := by
      unfold sgE
      rw [← sumN_mulL]
      refine sumN_congr fun x hx => ?_
      rw [Int.mul_left_comm, hix x hx]; rfl
    rw [e1, hn, sg_twice _ hk (by omega)]
  exact Int.eq_of_mul_eq_mul_left (by omega) e
/-- Orders and changes. -/
theorem order_at : ∀ k, k < 5 → ∀ y, y < 2 ^ k → chP y (2 ^ k - 1) < 2 ^ k ∧ ix (orderL (2 ^ k)) (chP y (2 ^ k - 1)) = (y : Int) := by decide +kernel
theorem order_back : ∀ k, k < 5 → ∀ n, n < 2 ^ k → ∃ y : Nat, y < 2 ^ k ∧ ix (orderL (2 ^ k)) n = ((y : Nat) : Int) ∧ chP y (2 ^ k - 1) = n := by decide +kernel
theorem order_zero : ∀ k, k < 5 → ix (orderL (2 ^ k)) 0 = 0 := by decide +kernel
/-- Energies. -/
theorem sq_cons (F : Nat → Int) (n : Nat) : sq F (n + 1) = F 0 * F 0 + sq (fun i => F (i + 1)) n := by
  unfold sq
  induction n with
  | zero => simp [sumN]
  | succ n ih => rw [sumN, ih, sumN]; dsimp only; omega
theorem sumN_turn (f : Nat → Int) (n : Nat) : sumN (fun i => f (n - 1 - i)) n = sumN f n := by
  induction n generalizing f with
  | zero => rfl
  | succ n ih =>
    have e : sumN f (n + 1) = f 0 + sumN (fun i => f (i + 1)) n := by
      clear ih
      induction n with
      | zero => simp [sumN]
      | succ n ih => rw [sumN, ih, sumN]; omega
    rw [e, sumN, ← ih fun i => f (i + 1)]
    have e2 : sumN (fun i => f (n + 1 - 1 - i)) n = sumN (fun i => f (n - 1 - i + 1)) n := sumN_congr fun i hi => by rw [show n + 1 - 1 - i = n - 1 - i + 1 by omega]
    rw [e2, show n + 1 - 1 - n = 0 by omega]; omega
theorem sq_nonneg (F : Nat → Int) (n : Nat) : 0 ≤ sq F n := by
  unfold sq
  induction n with
  | zero => simp [sumN]
  | succ n ih =>
    rw [sumN]
    have : 0 ≤ F n * F n := by
      rcases Int.le_total 0 (F n) with h | h
      · exact Int.mul_nonneg h h
      · have := Int.mul_nonneg_of_nonpos_of_nonpos h h; exact this
    omega
theorem len_turnedL (xs : List Int) : (turnedL xs).length = xs.length := by simp [turnedL]
theorem ix_turnedL {xs : List Int} {j : Nat} (h : j < xs.length) : ix (turnedL xs) j = ix xs (xs.length - 1 - j) := by unfold turnedL; rw [ix_tab _ _ _ h]
theorem vr_turned {xs : List Int} (h : vrB xs = true) : vrB (turnedL xs) = true := by
  obtain ⟨h1, h2⟩ := vrB_of h
  refine vrB_yes (by rw [len_turnedL]; exact h1) fun j hj => ?_
  rw [len_turnedL] at hj
  rw [ix_turnedL hj]; exact h2 _ (by omega)
theorem energy_turned {xs : List Int} (h : vrB xs = true) : energyF (turnedL xs) = energyF xs := by
  unfold energyF
  rw [if_pos h, if_pos (vr_turned h), len_turnedL]
  congr 1
  rw [sq_congr (G := fun i => ix xs (xs.length - 1 - i)) (fun i hi => ix_turnedL hi)]
  exact sumN_turn (fun i => ix xs i * ix xs i) xs.length
theorem vr_drop {xs : List Int} (h : vrB xs = true) : vrB (xs.drop 1) = true := by
  obtain ⟨h1, h2⟩ := vrB_of h
  refine vrB_yes (by simp; omega) fun j hj => ?_
  rw [List.length_drop] at hj
  rw [show ix (xs.drop 1) j = ix xs (j + 1) by simp [ix, List.getD, Nat.add_comm]]
  exact h2 _ (by omega)
theorem energy_cons {xs : List Int} {m : Nat} (h : vrB xs = true) (hm : xs.length = m + 1) : energyF xs = wrap64 (wrap64 (ix xs 0 * ix xs 0) + energyF (xs.drop 1)) := by
  unfold energyF
  rw [if_pos h, if_pos (vr_drop h), w64_add, hm, sq_cons, show (xs.drop 1).length = m by simp [hm]]
  congr 2
  exact sq_congr fun i hi => by simp [ix, List.getD, Nat.add_comm]
/-- Bent rows. -/
theorem bent_facts {xs : List Int} (h : bentB xs = true) : cubeB xs = true ∧ (∀ j, j < xs.length → ix xs j = 1 ∨ ix xs j = -1) ∧ ∀ j, j < xs.length → ix (signsL xs) j = ix (signsL xs) 0 ∨ ix (signsL xs) j = - ix (signsL xs) 0 := by
  unfold bentB at h
  simp only [Bool.and_eq_true] at h
  exact ⟨h.1, oneB_of h.2.1, fun j hj => sameB_of h.2.2 j (by rw [len_signsL]; exact hj)⟩
theorem sumN_const (c : Int) (n : Nat) : sumN (fun _ => c) n = (n : Int) * c := by
  induction n with
  | zero => simp [sumN]
  | succ n ih => rw [sumN, ih, Int.natCast_add, Int.add_mul]; simp
theorem bent_square {xs : List Int} (h : bentB xs = true) (j : Nat) (hj : j < xs.length) : ix (signsL xs) j * ix (signsL xs) j = (xs.length : Int) := by
  obtain ⟨hc, h1, h2⟩ := bent_facts h
  obtain ⟨k, hk, hn⟩ := (cubeB_of hc).2
  have hsq : ∀ i, i < xs.length → ix (signsL xs) i * ix (signsL xs) i = ix (signsL xs) 0 * ix (signsL xs) 0 := fun i hi => by
    rcases h2 i hi with e | e <;> rw [e]
    exact Int.neg_mul_neg _ _
  have e1 : sq (ix (signsL xs)) xs.length = (xs.length : Int) * (ix (signsL xs) 0 * ix (signsL xs) 0) := by
    unfold sq
    rw [sumN_congr (g := fun _ => ix (signsL xs) 0 * ix (signsL xs) 0) hsq]
    exact sumN_const _ _
  have e2 : sq (ix (signsL xs)) xs.length = (xs.length : Int) * (xs.length : Int) := by
    rw [sq_congr (G := sgE (ix xs) xs.length) (fun i hi => ix_signsL hc hi), hn, sq_sg _ hk]
    congr 1
    unfold sq
    rw [sumN_congr (g := fun _ => 1) (fun i hi => by rcases h1 i (by omega) with e | e <;> rw [e] <;> rfl)]
    rw [sumN_const, Int.mul_one]
  have hp := cube_pos hc
  rw [hsq j hj]
  exact Int.eq_of_mul_eq_mul_left (a := (xs.length : Int)) (by omega) (e1.symm.trans e2)
/-- The last index less an index, as the index with all digits turned. -/
theorem sg_turn : ∀ k, k < 5 → ∀ y, y < 2 ^ k → ∀ x, x < 2 ^ k → sg (2 ^ k - 1 - x) y = sg (2 ^ k - 1) y * sg x y := by decide +kernel
theorem signs_turned {xs : List Int} (h : cubeB xs = true) (j : Nat) (hj : j < xs.length) : sgE (ix (turnedL xs)) xs.length j = sg (xs.length - 1) j * sgE (ix xs) xs.length j := by
  obtain ⟨k, hk, hn⟩ := (cubeB_of h).2
  have e : sgE (ix (turnedL xs)) xs.length j = sumN (fun x => (fun i => sg (xs.length - 1 - i) j * ix xs i) (xs.length - 1 - x)) xs.length := by
    unfold sgE
    refine sumN_congr fun x hx => ?_
    show sg x j * ix (turnedL xs) x = sg (xs.length - 1 - (xs.length - 1 - x)) j * ix xs (xs.length - 1 - x)
    rw [ix_turnedL hx, show xs.length - 1 - (xs.length - 1 - x) = x by omega]
  rw [e, sumN_turn fun i => sg (xs.length - 1 - i) j * ix xs i]
  unfold sgE
  rw [← sumN_mulL]
  refine sumN_congr fun x hx => ?_
  rw [← Int.mul_assoc, hn, sg_turn k (by omega) j (by omega) x (by omega)]
theorem bent_turned {xs : List Int} (h : bentB xs = true) : bentB (turnedL xs) = true := by
  obtain ⟨hc, h1, h2⟩ := bent_facts h
  have hct : cubeB (turnedL xs) = true := cube_len hc (vr_turned (cubeB_of hc).1) (len_turnedL xs)
  have hp := cube_pos hc
  unfold bentB
  rw [hct, Bool.true_and, Bool.and_eq_true]
  refine ⟨oneB_yes fun j hj => ?_, sameB_yes fun j hj => ?_⟩
  · rw [len_turnedL] at hj; rw [ix_turnedL hj]; exact h1 _ (by omega)
  · rw [len_signsL, len_turnedL] at hj
    have e : ∀ i, i < xs.length → ix (signsL (turnedL xs)) i = sg (xs.length - 1) i * ix (signsL xs) i := fun i hi => by
      rw [ix_signsL hct (by rw [len_turnedL]; exact hi), len_turnedL, signs_turned hc i hi, ix_signsL hc hi]
    rw [e j hj, e 0 hp]
    rcases sg_one (xs.length - 1) j with a | a <;> rcases sg_one (xs.length - 1) 0 with b | b <;> rcases h2 j hj with c | c <;> rw [a, b, c] <;> omega

end Go.Proofs.Ytpalmbcknjmmcaa
