/-
  That sums, parts and divisors are taken back, over numbers of 64 bits: plain mathematics.
-/
import Derived.Test.YtlglokbakmbpdaaSums
import Derived.Test.YtlglokbakmbpdaaSteps
import Derived.Test.YtlglokbakmbpdaaBelow
import Derived.Test.YtlglokbakmbpdaaDivs
namespace Go.Proofs.Ytlglokbakmbpdaa
open Go.RowKit
set_option linter.unusedVariables false

theorem Rd.drewN {w : World} {v : Value} {xs : List Int} (h : Rd w v xs) (n : Nat) : Rd (w.drewN n) v xs := h.below (below_drewN (Below.refl _ _) n) (Nat.le_refl _)
theorem tabw_wf (n : Nat) (f : Nat → Int) : ∀ x ∈ tab n (fun j => wrap64 (f j)), (Lit.int .i64 x).wf = true := by
  intro x hx
  unfold tab at hx
  obtain ⟨j, _, rfl⟩ := List.mem_map.1 hx
  exact wrap64_wf _
theorem sumsL_wf (xs : List Int) : ∀ n ∈ sumsL xs, (Lit.int .i64 n).wf = true := tabw_wf _ _
theorem stepsL_wf {xs : List Int} (hw : ∀ n ∈ xs, (Lit.int .i64 n).wf = true) : ∀ n ∈ stepsL xs, (Lit.int .i64 n).wf = true := by
  have : stepsL xs = tab xs.length fun j => wrap64 (if j = 0 then ix xs 0 else ix xs j - ix xs (j - 1)) := by
    unfold stepsL
    refine tab_congr fun j hj => ?_
    by_cases h : j = 0
    · rw [if_pos h, if_pos h, ix_wf hw]
    · rw [if_neg h, if_neg h]
  rw [this]; exact tabw_wf _ _
theorem len_sumsL (xs : List Int) : (sumsL xs).length = xs.length := by simp [sumsL]
theorem len_stepsL (xs : List Int) : (stepsL xs).length = xs.length := by simp [stepsL]
theorem ix_sumsL {xs : List Int} {i : Nat} (hi : i < xs.length) : ix (sumsL xs) i = wrap64 (sumN (ix xs) (i + 1)) := by unfold sumsL; rw [ix_tab _ _ _ hi]
theorem steps_sums {xs : List Int} (hw : ∀ n ∈ xs, (Lit.int .i64 n).wf = true) : stepsL (sumsL xs) = xs := by
  unfold stepsL
  rw [len_sumsL]
  refine (eq_tab rfl fun j hj => ?_).symm
  by_cases h0 : j = 0
  · subst h0
    rw [if_pos rfl, ix_sumsL hj]
    show _ = wrap64 (0 + ix xs 0)
    rw [Int.zero_add, ix_wf hw]
  · rw [if_neg h0, ix_sumsL hj, ix_sumsL (show j - 1 < xs.length by omega), w64_sub, show j - 1 + 1 = j by omega]
    show _ = wrap64 (sumN (ix xs) j + ix xs j - sumN (ix xs) j)
    rw [show sumN (ix xs) j + ix xs j - sumN (ix xs) j = ix xs j by omega, ix_wf hw]
theorem sum_steps {xs : List Int} (hw : ∀ n ∈ xs, (Lit.int .i64 n).wf = true) (j : Nat) (hj : j < xs.length) : wrap64 (sumN (ix (stepsL xs)) (j + 1)) = ix xs j := by
  induction j with
  | zero =>
    show wrap64 (0 + ix (stepsL xs) 0) = _
    rw [Int.zero_add]
    unfold stepsL
    rw [ix_tab _ _ _ hj, if_pos rfl, ix_wf hw]
  | succ j ih =>
    show wrap64 (sumN (ix (stepsL xs)) (j + 1) + ix (stepsL xs) (j + 1)) = _
    rw [← w64_addL, ih (by omega)]
    have : ix (stepsL xs) (j + 1) = wrap64 (ix xs (j + 1) - ix xs j) := by
      unfold stepsL; rw [ix_tab _ _ _ hj, if_neg (by omega)]; rfl
    rw [this, w64_addR, show ix xs j + (ix xs (j + 1) - ix xs j) = ix xs (j + 1) by omega, ix_wf hw]
theorem sums_steps {xs : List Int} (hw : ∀ n ∈ xs, (Lit.int .i64 n).wf = true) : sumsL (stepsL xs) = xs := by
  unfold sumsL
  rw [len_stepsL]
  exact (eq_tab rfl fun j hj => (sum_steps hw j hj).symm).symm

/-! Divisors. -/
theorem uP_congr {F G : Nat → Int} {n : Nat} (h : ∀ i, i < n → wrap64 (F i) = wrap64 (G i)) (t j : Nat) (hj : j < n) : wrap64 (uP F t j) = wrap64 (uP G t j) := by
  induction t generalizing j with
  | zero => exact h j hj
  | succ t ih =>
    show wrap64 (if dvs t j then uP F t j - uP F t t else uP F t j) = wrap64 (if dvs t j then uP G t j - uP G t t else uP G t j)
    by_cases hd : dvs t j
    · rw [if_pos hd, if_pos hd, ← w64_sub, ih j hj, ih t (Nat.lt_trans hd.1 hj), w64_sub]
    · rw [if_neg hd, if_neg hd]; exact ih j hj
theorem uP_sum (F : Nat → Int) (t j : Nat) : uP F t j = F j - sumN (fun i => if dvs i j then uP F i i else 0) t := by
  induction t with
  | zero => simp [uP, sumN]
  | succ t ih =>
    show (if dvs t j then uP F t j - uP F t t else uP F t j) = _
    rw [sumN]
    by_cases hd : dvs t j
    · rw [if_pos hd, if_pos hd, ih]; omega
    · rw [if_neg hd, if_neg hd, ih]; omega
theorem divE_split (F : Nat → Int) (j : Nat) : divE F j = sumN (fun i => if dvs i j then F i else 0) j + F j := by
  unfold divE
  rw [sumN, Nat.mod_self, if_pos rfl]
  congr 1
  refine sumN_congr fun i hi => ?_
  by_cases h : (j + 1) % (i + 1) = 0
  · rw [if_pos h, if_pos ⟨hi, h⟩]
  · rw [if_neg h, if_neg (fun x => h x.2)]
theorem undiv_divE (F : Nat → Int) (j : Nat) : uP (divE F) j j = F j := by
  induction j using Nat.strongRecOn with
  | _ j ih =>
    rw [uP_sum, divE_split]
    have : sumN (fun i => if dvs i j then uP (divE F) i i else 0) j = sumN (fun i => if dvs i j then F i else 0) j := by
      refine sumN_congr fun i hi => ?_
      rw [ih i hi]
    rw [this]; omega
theorem div_undivE (F : Nat → Int) (j : Nat) : divE (fun i => uP F i i) j = F j := by
  rw [divE_split]
  show sumN (fun i => if dvs i j then uP F i i else 0) j + uP F j j = F j
  rw [uP_sum F j j]; omega
theorem divE_congr {F G : Nat → Int} {n : Nat} (h : ∀ i, i < n → wrap64 (F i) = wrap64 (G i)) (j : Nat) (hj : j < n) : wrap64 (divE F j) = wrap64 (divE G j) := by
  have key : ∀ m, m ≤ j + 1 → wrap64 (sumN (fun i => if (j + 1) % (i + 1) = 0 then F i else 0) m) = wrap64 (sumN (fun i => if (j + 1) % (i + 1) = 0 then G i else 0) m) := by
    intro m hm
    induction m with
    | zero => rfl
    | succ m ih =>
      rw [sumN, sumN, ← w64_add, ih (by omega)]
      by_cases hd : (j + 1) % (m + 1) = 0
      · rw [if_pos hd, if_pos hd, h m (by omega), w64_add]
      · rw [if_neg hd, if_neg hd, w64_add]
  exact key (j + 1) (Nat.le_refl _)
theorem len_divL (xs : List Int) : (divL xs).length = xs.length := by simp [divL]
theorem len_undivL (xs : List Int) : (undivL xs).length = xs.length := by simp [undivL]
theorem undiv_div {xs : List Int} (hw : ∀ n ∈ xs, (Lit.int .i64 n).wf = true) : undivL (divL xs) = xs := by
  unfold undivL
  rw [len_divL]
  refine (eq_tab rfl fun j hj => ?_).symm
  rw [uP_congr (n := xs.length) (G := divE (ix xs)) (fun i hi => by unfold divL; rw [ix_tab _ _ _ hi, w64_w64]) _ _ hj, uP_stay _ j _ (by omega), undiv_divE, ix_wf hw]
theorem div_undiv {xs : List Int} (hw : ∀ n ∈ xs, (Lit.int .i64 n).wf = true) : divL (undivL xs) = xs := by
  unfold divL
  rw [len_undivL]
  refine (eq_tab rfl fun j hj => ?_).symm
  rw [divE_congr (n := xs.length) (G := fun i => uP (ix xs) i i) (fun i hi => by unfold undivL; rw [ix_tab _ _ _ hi, w64_w64, uP_stay _ i _ (by omega)]) _ hj, div_undivE, ix_wf hw]
theorem divL_zero {xs : List Int} (hw : ∀ n ∈ xs, (Lit.int .i64 n).wf = true) (h : 0 < xs.length) : ix (divL xs) 0 = ix xs 0 := by
  unfold divL
  rw [ix_tab _ _ _ h]
  have : divE (ix xs) 0 = ix xs 0 := by simp [divE, sumN]
  rw [this, ix_wf hw]

/-! Parts. -/
theorem bits_apart : ∀ x, x < 16 → ∀ a, a < 4 → ∀ b, b < 4 → a ≠ b → x / 2 ^ a % 2 = 1 → (x - 2 ^ a) / 2 ^ b % 2 = x / 2 ^ b % 2 := by decide +kernel
theorem bstep_comm (s t : Int) (F : Nat → Int) {a b x : Nat} (hx : x < 16) (ha : a < 4) (hb : b < 4) (hab : a ≠ b) : bstep s (2 ^ a) (bstep t (2 ^ b) F) x = bstep t (2 ^ b) (bstep s (2 ^ a) F) x := by
  unfold bstep
  by_cases h1 : x / 2 ^ a % 2 = 1
  · by_cases h2 : x / 2 ^ b % 2 = 1
    · have e1 := bits_apart x hx a ha b hb hab h1
      have e2 := bits_apart x hx b hb a ha (fun e => hab e.symm) h2
      rw [if_pos h1, if_pos h2, if_pos h2, if_pos h1, if_pos (e1.trans h2), if_pos (e2.trans h1), Int.mul_add, Int.mul_add, ← Int.mul_assoc, ← Int.mul_assoc, Int.mul_comm s t, Nat.sub_right_comm]
      omega
    · have e1 := bits_apart x hx a ha b hb hab h1
      rw [if_pos h1, if_neg h2, if_neg h2, if_pos h1, if_neg (fun h => h2 (e1.symm.trans h))]
  · by_cases h2 : x / 2 ^ b % 2 = 1
    · have e2 := bits_apart x hx b hb a ha (fun e => hab e.symm) h2
      rw [if_neg h1, if_pos h2, if_pos h2, if_neg h1, if_neg (fun h => h1 (e2.symm.trans h))]
    · rw [if_neg h1, if_neg h2, if_neg h2, if_neg h1]
theorem bstep_congr {s : Int} {d : Nat} {F G : Nat → Int} (h : ∀ x, x < 16 → F x = G x) {x : Nat} (hx : x < 16) : bstep s d F x = bstep s d G x := by
  unfold bstep
  rw [h x hx, h (x - d) (by omega)]
theorem bpass_congr {s : Int} {F G : Nat → Int} (h : ∀ x, x < 16 → F x = G x) (k : Nat) {x : Nat} (hx : x < 16) : bpass s F k x = bpass s G k x := by
  induction k generalizing x with
  | zero => exact h x hx
  | succ k ih => exact bstep_congr (fun y hy => ih hy) hx
theorem bpass_bstep (s t : Int) (F : Nat → Int) (j k x : Nat) (hx : x < 16) (hj : j < 4) (hk : k ≤ j) : bpass s (bstep t (2 ^ j) F) k x = bstep t (2 ^ j) (bpass s F k) x := by
  induction k generalizing x with
  | zero => rfl
  | succ k ih =>
    show bstep s (2 ^ k) (bpass s (bstep t (2 ^ j) F) k) x = bstep t (2 ^ j) (bstep s (2 ^ k) (bpass s F k)) x
    rw [bstep_congr (fun y hy => ih y hy (by omega)) hx, bstep_comm s t _ hx (by omega) hj (by omega)]
theorem bstep_back (s : Int) (F : Nat → Int) (d x : Nat) (hd : 1 ≤ d) : bstep (-s) d (bstep s d F) x = F x := by
  unfold bstep
  by_cases h : x / d % 2 = 1
  · rw [if_pos h, if_pos h, if_neg (by have := bit_down hd h; omega), Int.neg_mul]; omega
  · rw [if_neg h, if_neg h]
theorem bpass_back (s : Int) (F : Nat → Int) (k x : Nat) (hk : k ≤ 4) (hx : x < 16) : bpass (-s) (bpass s F k) k x = F x := by
  induction k generalizing x with
  | zero => rfl
  | succ k ih =>
    show bstep (-s) (2 ^ k) (bpass (-s) (bstep s (2 ^ k) (bpass s F k)) k) x = F x
    rw [bstep_congr (fun y hy => bpass_bstep (-s) s (bpass s F k) k k y hy (by omega) (Nat.le_refl _)) hx, bstep_back s _ _ _ Nat.one_le_two_pow, ih x (by omega) hx]
theorem bpass_w64 {s : Int} {F G : Nat → Int} {n : Nat} (h : ∀ x, x < n → wrap64 (F x) = wrap64 (G x)) (k : Nat) {x : Nat} (hx : x < n) : wrap64 (bpass s F k x) = wrap64 (bpass s G k x) := by
  induction k generalizing x with
  | zero => exact h x hx
  | succ k ih =>
    show wrap64 (bstep s (2 ^ k) (bpass s F k) x) = wrap64 (bstep s (2 ^ k) (bpass s G k) x)
    unfold bstep
    by_cases hb : x / 2 ^ k % 2 = 1
    · rw [if_pos hb, if_pos hb, ← w64_add, ← w64_mulR, ih hx, ih (x := x - 2 ^ k) (Nat.lt_of_le_of_lt (Nat.sub_le _ _) hx), w64_mulR, w64_add]
    · rw [if_neg hb, if_neg hb]; exact ih hx
theorem bpass_zero (s : Int) (F : Nat → Int) (k : Nat) : bpass s F k 0 = F 0 := by
  induction k with
  | zero => rfl
  | succ k ih =>
    show bstep s (2 ^ k) (bpass s F k) 0 = F 0
    unfold bstep
    rw [if_neg (by simp), ih]
theorem bpass_last (F : Nat → Int) (k : Nat) (hk : k ≤ 4) : bpass 1 F k (2 ^ k - 1) = sumN F (2 ^ k) := by
  rcases (show k = 0 ∨ k = 1 ∨ k = 2 ∨ k = 3 ∨ k = 4 by omega) with rfl | rfl | rfl | rfl | rfl <;> simp [bpass, bstep, sumN] <;> omega
theorem len_belowL (s : Int) (xs : List Int) : (belowL s xs).length = xs.length := by simp [belowL]
theorem ix_belowL {s : Int} {xs : List Int} {k x : Nat} (hk : k ≤ 4) (hn : xs.length = 2 ^ k) (hx : x < xs.length) : ix (belowL s xs) x = wrap64 (bpass s (ix xs) k x) := by
  unfold belowL
  rw [ix_tab _ _ _ hx, hn, bitsN_pow hk rfl]; rfl
theorem below_back {s : Int} {xs : List Int} {k : Nat} (hk : k ≤ 4) (hn : xs.length = 2 ^ k) (hw : ∀ n ∈ xs, (Lit.int .i64 n).wf = true) : belowL (-s) (belowL s xs) = xs := by
  have h16 : xs.length ≤ 16 := by
    rw [hn]; have : 2 ^ k ≤ 2 ^ 4 := Nat.pow_le_pow_right (by omega) hk
    omega
  refine (eq_tab (by rw [len_belowL]) fun j hj => ?_).symm
  rw [len_belowL] at hj
  rw [len_belowL, hn, bitsN_pow hk rfl]
  symm
  show wrap64 (bpass (-s) (ix (belowL s xs)) k j) = _
  rw [bpass_w64 (n := xs.length) (G := bpass s (ix xs) k) (fun x hx => by rw [ix_belowL hk hn hx, w64_w64]) k hj, bpass_back s _ k j hk (by omega), ix_wf hw]
theorem w64_sumN {f g : Nat → Int} {n : Nat} (h : ∀ i, i < n → wrap64 (f i) = wrap64 (g i)) : wrap64 (sumN f n) = wrap64 (sumN g n) := by
  induction n with
  | zero => rfl
  | succ n ih => rw [sumN, sumN, ← w64_add, ih (fun i hi => h i (by omega)), h n (by omega), w64_add]
theorem below_first {s : Int} {xs : List Int} {k : Nat} (hk : k ≤ 4) (hn : xs.length = 2 ^ k) (hw : ∀ n ∈ xs, (Lit.int .i64 n).wf = true) : ix (belowL s xs) 0 = ix xs 0 := by
  have : 0 < xs.length := by rw [hn]; exact Nat.two_pow_pos k
  rw [ix_belowL hk hn this, bpass_zero, ix_wf hw]
theorem below_lastS {xs : List Int} {k : Nat} (hk : k ≤ 4) (hn : xs.length = 2 ^ k) : ix (belowL 1 xs) (xs.length - 1) = wrap64 (sumN (ix xs) xs.length) := by
  have h0 : 0 < xs.length := by rw [hn]; exact Nat.two_pow_pos k
  rw [ix_belowL hk hn (by omega)]
  have := bpass_last (ix xs) k hk
  rw [← hn] at this
  rw [this]
theorem unbelow_total {xs : List Int} {k : Nat} (hk : k ≤ 4) (hn : xs.length = 2 ^ k) (hw : ∀ n ∈ xs, (Lit.int .i64 n).wf = true) : wrap64 (sumN (ix (belowL (-1) xs)) xs.length) = ix xs (xs.length - 1) := by
  have h0 : 0 < xs.length := by rw [hn]; exact Nat.two_pow_pos k
  have h16 : xs.length ≤ 16 := by
    rw [hn]; have : 2 ^ k ≤ 2 ^ 4 := Nat.pow_le_pow_right (by omega) hk
    omega
  rw [w64_sumN (g := bpass (-1) (ix xs) k) (fun i hi => by rw [ix_belowL hk hn hi, w64_w64])]
  have := bpass_last (bpass (-1) (ix xs) k) k hk
  rw [← hn] at this
  have hb := bpass_back (-1) (ix xs) k (xs.length - 1) hk (by omega)
  rw [show - (-1 : Int) = 1 from rfl] at hb
  rw [← this, hb, ix_wf hw]
end Go.Proofs.Ytlglokbakmbpdaa
