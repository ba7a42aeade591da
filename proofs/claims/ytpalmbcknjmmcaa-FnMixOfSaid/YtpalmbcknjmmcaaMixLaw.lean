/-
  What the promises of mixed rows come to, as plain mathematics.
-/
import Derived.Test.YtpalmbcknjmmcaaSgLaw
import Derived.Test.YtpalmbcknjmmcaaMixS
namespace Go.Proofs.Ytpalmbcknjmmcaa
open Go.RowKit
set_option linter.unusedVariables false

theorem w64_sumC {f g : Nat → Int} {n : Nat} (h : ∀ i, i < n → wrap64 (f i) = wrap64 (g i)) : wrap64 (sumN f n) = wrap64 (sumN g n) := by
  induction n with
  | zero => rfl
  | succ n ih => rw [sumN, sumN, ← w64_add, ih fun i hi => h i (by omega), h n (by omega), w64_add]
/-- The part of the number at i in the sum at x once k digits are through. -/
def bC (k x i : Nat) : Int := if i ||| x = x ∧ i / 2 ^ k = x / 2 ^ k then 1 else 0
theorem bC_zero : ∀ x, x < 16 → ∀ i, i < 16 → bC 0 x i = if i = x then 1 else 0 := by decide +kernel
theorem bC_step : ∀ k, k < 4 → ∀ x, x < 16 → ∀ i, i < 16 → bC (k + 1) x i = if x / 2 ^ k % 2 = 1 then bC k x i + bC k (x - 2 ^ k) i else bC k x i := by decide +kernel
theorem bpass_sum (F : Nat → Int) (k : Nat) (hk : k ≤ 4) : ∀ x, x < 16 → bpass 1 F k x = sumN (fun i => bC k x i * F i) 16 := by
  induction k with
  | zero =>
    intro x hx
    rw [sumN_congr (g := fun i => if i = x then F i else 0) (fun i hi => by rw [bC_zero x hx i hi]; split <;> simp), sumN_pick _ hx]; rfl
  | succ k ih =>
    intro x hx
    show bstep 1 (2 ^ k) (bpass 1 F k) x = _
    unfold bstep
    by_cases h : x / 2 ^ k % 2 = 1
    · rw [if_pos h, ih (by omega) x hx, ih (by omega) (x - 2 ^ k) (Nat.lt_of_le_of_lt (Nat.sub_le _ _) hx), Int.one_mul, ← sumN_add]
      exact sumN_congr fun i hi => by rw [bC_step k (by omega) x hx i hi, if_pos h, Int.add_mul]
    · rw [if_neg h, ih (by omega) x hx]
      exact sumN_congr fun i hi => by rw [bC_step k (by omega) x hx i hi, if_neg h]
theorem bC_in : ∀ k, k < 5 → ∀ x, x < 2 ^ k → ∀ i, i < 16 → bC k x i = if i < 2 ^ k then (if i ||| x = x then 1 else 0) else 0 := by decide +kernel
theorem bpass_sub (F : Nat → Int) {k x : Nat} (hk : k ≤ 4) (hx : x < 2 ^ k) : bpass 1 F k x = subE F (2 ^ k) x := by
  have h16 := pow_le16 hk
  rw [bpass_sum F k hk x (by omega)]
  unfold subE
  rw [sumN_more (n := 2 ^ k) (m := 16) h16 (fun i h1 h2 => by rw [bC_in k (by omega) x hx i h2, if_neg (by omega), Int.zero_mul])]
  exact sumN_congr fun i hi => by rw [bC_in k (by omega) x hx i (by omega), if_pos hi]
theorem mixB_of {s : ByteArray} {xs ys : List Int} (h : mixB s xs ys = true) : cubeB xs = true ∧ cubeB ys = true ∧ xs.length = ys.length ∧ (s = sOr ∨ s = sAnd ∨ s = sXor) := by
  unfold mixB at h
  simp only [Bool.and_eq_true, decide_eq_true_eq] at h
  exact ⟨h.1.1.1, h.1.1.2, h.1.2, kindB_of h.2⟩
theorem len_mixL (s : ByteArray) (xs ys : List Int) : (mixL s xs ys).length = xs.length := by simp [mixL]
theorem len_timesL (xs ys : List Int) : (timesL xs ys).length = xs.length := by simp [timesL]
theorem ix_mixL (s : ByteArray) {xs ys : List Int} {j : Nat} (h : j < xs.length) : ix (mixL s xs ys) j = wrap64 (mixE (mixOp s) (ix xs) (ix ys) xs.length j) := by unfold mixL; rw [ix_tab _ _ _ h]
theorem mix_len0 {s : ByteArray} {xs ys : List Int} (h : mixB s xs ys = true) : 0 < (mixF s xs ys).length := by
  rw [mixF_yes h, len_mixL]; exact cube_pos (mixB_of h).1
theorem mixOp_comm (s : ByteArray) (x y : Nat) : mixOp s x y = mixOp s y x := by
  unfold mixOp
  split
  · exact Nat.or_comm x y
  · split
    · exact Nat.and_comm x y
    · exact Nat.xor_comm x y
theorem mixF_comm (s : ByteArray) (xs ys : List Int) : mixF s ys xs = mixF s xs ys := by
  cases h : mixB s xs ys with
  | true =>
    obtain ⟨h1, h2, h3, h4⟩ := mixB_of h
    have h' : mixB s ys xs = true := mixB_yes (by rw [h1, h2, decide_eq_true h3.symm]; rfl) h4
    rw [mixF_yes h, mixF_yes h']
    unfold mixL
    rw [← h3]
    exact tab_congr fun j _ => by rw [mix_comm (mixOp_comm s)]
  | false =>
    have h' : mixB s ys xs = false := by
      cases h' : mixB s ys xs with
      | false => rfl
      | true =>
        obtain ⟨h1, h2, h3, h4⟩ := mixB_of h'
        rw [mixB_yes (by rw [h1, h2, decide_eq_true h3.symm]; rfl) h4] at h
        exact absurd h (by simp)
    rw [mixF_no h, mixF_no h']
theorem mix_tot {s : ByteArray} {xs ys : List Int} (h : mixB s xs ys = true) : wrap64 (sumN (ix (mixL s xs ys)) xs.length) = wrap64 (wrap64 (sumN (ix xs) xs.length) * wrap64 (sumN (ix ys) ys.length)) := by
  obtain ⟨h1, h2, h3, h4⟩ := mixB_of h
  obtain ⟨k, hk, hn⟩ := (cubeB_of h1).2
  rw [w64_mulR, w64_mulL, w64_sumC (g := mixE (mixOp s) (ix xs) (ix ys) xs.length) (fun i hi => by rw [ix_mixL s hi, w64_w64]), ← h3,
    mix_total (mixOp s) (ix xs) (ix ys) (n := xs.length) (fun x hx y hy => by rw [hn] at hx hy ⊢; exact mixOp_lt s hk hx hy)]
theorem mix_signs {xs ys : List Int} (h : mixB sXor xs ys = true) : signsL (mixL sXor xs ys) = timesL (signsL xs) (signsL ys) := by
  obtain ⟨h1, h2, h3, h4⟩ := mixB_of h
  obtain ⟨k, hk, hn⟩ := (cubeB_of h1).2
  refine ext_ix (by rw [len_signsL, len_mixL, len_timesL, len_signsL]) fun j hj => ?_
  rw [len_signsL, len_mixL] at hj
  have e : ix (signsL (mixL sXor xs ys)) j = wrap64 (sgE (ix (mixL sXor xs ys)) xs.length j) := by
    show ix (tab (mixL sXor xs ys).length fun y => wrap64 (sgE (ix (mixL sXor xs ys)) (mixL sXor xs ys).length y)) j = _
    rw [len_mixL, ix_tab _ _ _ hj]
  have e2 : ix (timesL (signsL xs) (signsL ys)) j = wrap64 (ix (signsL xs) j * ix (signsL ys) j) := by
    unfold timesL; rw [ix_tab _ _ _ (by rw [len_signsL]; exact hj)]
  rw [e, e2, ix_signsL h1 hj, ix_signsL h2 (by omega)]
  have e3 : wrap64 (sgE (ix (mixL sXor xs ys)) xs.length j) = wrap64 (sgE (mixE (fun x y => x ^^^ y) (ix xs) (ix ys) xs.length) xs.length j) := by
    unfold sgE
    exact w64_sumC fun i hi => by rw [ix_mixL sXor hi, w64_mulR, mixOp_xor]
  rw [e3, ← h3, hn, mix_sg _ _ hk (by omega)]
theorem belowL_sub {xs : List Int} (h : cubeB xs = true) {j : Nat} (hj : j < xs.length) : ix (belowL 1 xs) j = wrap64 (subE (ix xs) xs.length j) := by
  obtain ⟨k, hk, hn⟩ := (cubeB_of h).2
  unfold belowL
  rw [ix_tab _ _ _ hj, bitsN_pow hk hn, Int.toNat_natCast, bpass_sub _ hk (by omega), ← hn]
theorem mix_below {xs ys : List Int} (h : mixB sOr xs ys = true) (hv : vrB (mixL sOr xs ys) = true) : belowF 1 (mixL sOr xs ys) = timesL (belowF 1 xs) (belowF 1 ys) := by
  obtain ⟨h1, h2, h3, h4⟩ := mixB_of h
  obtain ⟨k, hk, hn⟩ := (cubeB_of h1).2
  have hc : cubeB (mixL sOr xs ys) = true := cube_len h1 hv (len_mixL _ _ _)
  have lb : ∀ zs : List Int, (belowL 1 zs).length = zs.length := fun zs => by simp [belowL]
  rw [show belowF 1 (mixL sOr xs ys) = belowL 1 (mixL sOr xs ys) by unfold belowF; exact if_pos hc, show belowF 1 xs = belowL 1 xs by unfold belowF; exact if_pos h1, show belowF 1 ys = belowL 1 ys by unfold belowF; exact if_pos h2]
  refine ext_ix (by rw [lb, len_mixL, len_timesL, lb]) fun j hj => ?_
  rw [lb, len_mixL] at hj
  have e2 : ix (timesL (belowL 1 xs) (belowL 1 ys)) j = wrap64 (ix (belowL 1 xs) j * ix (belowL 1 ys) j) := by
    unfold timesL; rw [ix_tab _ _ _ (by rw [lb]; exact hj)]
  rw [e2, belowL_sub hc (by rw [len_mixL]; exact hj), belowL_sub h1 hj, belowL_sub h2 (by omega), w64_mulR, w64_mulL, len_mixL]
  have e3 : wrap64 (subE (ix (mixL sOr xs ys)) xs.length j) = wrap64 (subE (mixE (fun x y => x ||| y) (ix xs) (ix ys) xs.length) xs.length j) := by
    unfold subE
    exact w64_sumC fun i hi => by rw [ix_mixL sOr hi, w64_mulR, mixOp_or]
  rw [e3, ← h3, hn, mix_sub _ _ hk (by omega)]

end Go.Proofs.Ytpalmbcknjmmcaa
