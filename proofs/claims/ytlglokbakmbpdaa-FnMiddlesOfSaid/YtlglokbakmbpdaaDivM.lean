/-
  Sums over divisors, as plain mathematics of exact numbers.
-/
import Derived.Test.YtlglokbakmbpdaaBase
namespace Go.Proofs.Ytlglokbakmbpdaa
open Go.RowKit
set_option linter.unusedVariables false

theorem sumN_add (f g : Nat → Int) (n : Nat) : sumN (fun i => f i + g i) n = sumN f n + sumN g n := by
  induction n with
  | zero => rfl
  | succ n ih => simp only [sumN, ih]; omega
theorem sumN_zero {f : Nat → Int} {n : Nat} (h : ∀ i, i < n → f i = 0) : sumN f n = 0 := by
  induction n with
  | zero => rfl
  | succ n ih => rw [sumN, ih (fun i hi => h i (by omega)), h n (by omega)]; rfl
theorem sumN_cut {f : Nat → Int} {m n : Nat} (hm : m ≤ n) (h : ∀ i, m ≤ i → i < n → f i = 0) : sumN f n = sumN f m := by
  induction n with
  | zero => obtain rfl : m = 0 := by omega
            rfl
  | succ n ih =>
    by_cases e : m = n + 1
    · rw [e]
    · rw [sumN, ih (by omega) (fun i h1 h2 => h i h1 (by omega)), h n (by omega) (by omega), Int.add_zero]
theorem sumN_delta (t n : Nat) (v : Int) : sumN (fun i => if i = t then v else 0) n = if t < n then v else 0 := by
  induction n with
  | zero => simp [sumN]
  | succ n ih =>
    rw [sumN, ih]
    by_cases e : n = t
    · subst e; simp
    · by_cases h : t < n
      · simp [h, e, show t < n + 1 by omega]
      · simp [h, e, show ¬ t < n + 1 by omega]

/-- Does i + 1 divide j + 1, and is it less? -/
def dvs (i j : Nat) : Prop := i < j ∧ (j + 1) % (i + 1) = 0
instance (i j : Nat) : Decidable (dvs i j) := by unfold dvs; infer_instance

/-- The sum of the numbers at all divisors. -/
def divE (F : Nat → Int) (j : Nat) : Int := sumN (fun i => if (j + 1) % (i + 1) = 0 then F i else 0) (j + 1)
/-- .. at the divisors from place t on, and at itself. -/
def divP (F : Nat → Int) (n t j : Nat) : Int := F j + sumN (fun i => if t ≤ i ∧ dvs i j then F i else 0) n
theorem divP_top (F : Nat → Int) (n j : Nat) : divP F n n j = F j := by
  unfold divP
  rw [sumN_zero (fun i hi => if_neg (by omega)), Int.add_zero]
theorem divP_self (F : Nat → Int) (n t : Nat) : divP F n (t + 1) t = F t := by
  unfold divP
  rw [sumN_zero (fun i hi => if_neg (by unfold dvs; omega)), Int.add_zero]
theorem divP_step (F : Nat → Int) (n t j : Nat) (ht : t < n) : divP F n t j = divP F n (t + 1) j + if dvs t j then F t else 0 := by
  unfold divP
  have : sumN (fun i => if t ≤ i ∧ dvs i j then F i else 0) n = sumN (fun i => (if t + 1 ≤ i ∧ dvs i j then F i else 0) + (if i = t then (if dvs t j then F t else 0) else 0)) n := by
    refine sumN_congr fun i hi => ?_
    by_cases e : i = t
    · subst e
      by_cases h : dvs i j
      · rw [if_pos ⟨Nat.le_refl _, h⟩, if_neg (by omega), if_pos rfl, if_pos h, Int.zero_add]
      · rw [if_neg (fun x => h x.2), if_neg (by omega), if_pos rfl, if_neg h, Int.zero_add]
    · rw [if_neg e, Int.add_zero]
      by_cases h : t ≤ i ∧ dvs i j
      · rw [if_pos h, if_pos ⟨by omega, h.2⟩]
      · rw [if_neg h, if_neg (fun x => h ⟨by omega, x.2⟩)]
  rw [this, sumN_add, sumN_delta, if_pos ht]
  omega
theorem divP_zero (F : Nat → Int) (n j : Nat) (hj : j < n) : divP F n 0 j = divE F j := by
  unfold divP divE
  rw [sumN_cut (m := j) (by omega) (fun i h1 h2 => if_neg (by unfold dvs; omega)), sumN, Nat.mod_self, if_pos rfl, Int.add_comm]
  congr 1
  refine sumN_congr fun i hi => ?_
  unfold dvs
  by_cases h : (j + 1) % (i + 1) = 0
  · rw [if_pos h, if_pos ⟨by omega, hi, h⟩]
  · rw [if_neg h, if_neg (fun x => h x.2.2)]

/-- Taking back, a divisor after the other. -/
def uP (F : Nat → Int) : Nat → Nat → Int
  | 0 => F
  | t + 1 => fun j => if dvs t j then uP F t j - uP F t t else uP F t j
theorem uP_stay (F : Nat → Int) (j t : Nat) (h : j ≤ t) : uP F t j = uP F j j := by
  induction t with
  | zero => obtain rfl : j = 0 := by omega
            rfl
  | succ t ih =>
    by_cases e : j = t + 1
    · rw [e]
    · show (if dvs t j then uP F t j - uP F t t else uP F t j) = _
      rw [if_neg (by unfold dvs; omega)]; exact ih (by omega)

/-- What addToMultiples makes of F: the amount A at the multiples of d from q0 times d up to less than q times d. -/
def mulU (F : Nat → Int) (d : Nat) (A : Int) (q : Nat) (j : Nat) : Int := if (j + 1) % d = 0 ∧ 2 ≤ (j + 1) / d ∧ (j + 1) / d < q then F j + A else F j
theorem mulU_two (F : Nat → Int) (d : Nat) (A : Int) (j : Nat) : mulU F d A 2 j = F j := by unfold mulU; rw [if_neg (by omega)]
theorem mul_place {d q j : Nat} (hd : 1 ≤ d) (h : j + 1 = q * d) : (j + 1) % d = 0 ∧ (j + 1) / d = q := by
  rw [h]; exact ⟨Nat.mul_mod_left q d, Nat.mul_div_cancel q (by omega)⟩
theorem place_mul {d q j : Nat} (h1 : (j + 1) % d = 0) (h2 : (j + 1) / d = q) : j + 1 = q * d := by
  have := Nat.div_add_mod (j + 1) d
  rw [h1, h2, Nat.add_zero, Nat.mul_comm] at this
  exact this.symm
theorem mulU_at {F : Nat → Int} {d q j : Nat} {A : Int} (hd : 1 ≤ d) (h : j + 1 = q * d) : mulU F d A q j = F j := by
  have := mul_place hd h
  unfold mulU; rw [if_neg (by omega)]
theorem mulU_next {F : Nat → Int} {d q j : Nat} {A : Int} (hd : 1 ≤ d) (hq : 2 ≤ q) (h : j + 1 = q * d) : mulU F d A (q + 1) j = F j + A := by
  have := mul_place hd h
  unfold mulU; rw [if_pos (by omega)]
theorem mulU_other {F : Nat → Int} {d q j : Nat} {A : Int} (hd : 1 ≤ d) (h : j + 1 ≠ q * d) : mulU F d A (q + 1) j = mulU F d A q j := by
  unfold mulU
  by_cases h1 : (j + 1) % d = 0 ∧ 2 ≤ (j + 1) / d ∧ (j + 1) / d < q
  · rw [if_pos h1, if_pos (by omega)]
  · rw [if_neg h1, if_neg]
    intro h2
    have : (j + 1) / d ≠ q := fun e => h (place_mul h2.1 e)
    omega
theorem mulU_end {F : Nat → Int} {t q n j : Nat} {A : Int} (hq : n < q * (t + 1)) (hj : j < n) : mulU F (t + 1) A q j = if dvs t j then F j + A else F j := by
  unfold mulU
  have h1 : (j + 1) / (t + 1) < q := Nat.div_lt_of_lt_mul (by rw [Nat.mul_comm]; omega)
  by_cases h : dvs t j
  · rw [if_pos h, if_pos]
    have h' : t < j ∧ (j + 1) % (t + 1) = 0 := h
    refine ⟨h'.2, ?_, h1⟩
    have e := Nat.div_add_mod (j + 1) (t + 1)
    rw [h'.2] at e
    rcases Nat.lt_or_ge ((j + 1) / (t + 1)) 2 with hlt | hge
    · have : (t + 1) * ((j + 1) / (t + 1)) ≤ (t + 1) * 1 := Nat.mul_le_mul_left _ (by omega)
      omega
    · exact hge
  · rw [if_neg h, if_neg]
    intro h2
    refine h ⟨?_, h2.1⟩
    have e := Nat.div_add_mod (j + 1) (t + 1)
    have : (t + 1) * 2 ≤ (t + 1) * ((j + 1) / (t + 1)) := Nat.mul_le_mul_left _ h2.2.1
    omega
end Go.Proofs.Ytlglokbakmbpdaa
