/-
  Products of rows, parts and what is left, boxes, middles, rows beside themselves, pairs: the numbers. Nothing of a program is named here.
-/
import Derived.Test.YtlglokbakmbpdabWvM
namespace Go.Proofs.Ytlglokbakmbpdab
open Go.RowKit
set_option linter.unusedVariables false

/-- The sum of the products whose indices add up to j. -/
def mulE (F G : Nat → Int) (n m j : Nat) : Int := sumN (fun x => sumN (fun y => if x + y = j then F x * G y else 0) m) n
/-- As far as row x and column y. -/
def mulP (F G : Nat → Int) (m x y j : Nat) : Int := sumN (fun x => sumN (fun y => if x + y = j then F x * G y else 0) m) x + sumN (fun y => if x + y = j then F x * G y else 0) y
theorem mulP_zero (F G : Nat → Int) (m j : Nat) : mulP F G m 0 0 j = 0 := rfl
theorem mulP_next (F G : Nat → Int) (m x j : Nat) : mulP F G m x m j = mulP F G m (x + 1) 0 j := by simp [mulP, sumN]
theorem mulP_all (F G : Nat → Int) (n m j : Nat) : mulP F G m n 0 j = mulE F G n m j := by simp [mulP, mulE, sumN]
theorem mulP_step (F G : Nat → Int) (m x y j : Nat) : mulP F G m x (y + 1) j = mulP F G m x y j + if x + y = j then F x * G y else 0 := by
  unfold mulP
  rw [show sumN (fun y => if x + y = j then F x * G y else 0) (y + 1) = sumN (fun y => if x + y = j then F x * G y else 0) y + (if x + y = j then F x * G y else 0) from rfl]
  omega
theorem mul_comm2 (F G : Nat → Int) (n m j : Nat) : mulE F G n m j = mulE G F m n j := by
  unfold mulE
  rw [sumN_swap]
  refine sumN_congr fun y _ => sumN_congr fun x _ => ?_
  rw [Nat.add_comm, Int.mul_comm]
theorem mul_congr {F F' G G' : Nat → Int} {n m : Nat} (hF : ∀ i, i < n → F i = F' i) (hG : ∀ i, i < m → G i = G' i) (j : Nat) : mulE F G n m j = mulE F' G' n m j :=
  sumN_congr fun x hx => sumN_congr fun y hy => by rw [hF x hx, hG y hy]
theorem mul_total (F G : Nat → Int) {n m N : Nat} (hN : n + m ≤ N + 1) : sumN (mulE F G n m) N = sumN F n * sumN G m := by
  unfold mulE
  rw [sumN_swap, ← sumN_mulR]
  refine sumN_congr fun x hx => ?_
  rw [sumN_swap, ← sumN_mulL]
  refine sumN_congr fun y hy => ?_
  rw [sumN_congr (g := fun j => if j = x + y then F x * G y else 0) (fun j _ => by
    by_cases e : x + y = j
    · rw [if_pos e, if_pos e.symm]
    · rw [if_neg e, if_neg (Ne.symm e)])]
  exact sumN_pick (fun _ => F x * G y) (by omega)
theorem sumN_front (f : Nat → Int) (n : Nat) : sumN f (n + 1) = f 0 + sumN (fun i => f (i + 1)) n := by
  induction n with
  | zero => simp [sumN]
  | succ n ih => rw [sumN, ih, sumN]; omega
theorem sumN_rev (f : Nat → Int) (n : Nat) : sumN (fun i => f (n - 1 - i)) n = sumN f n := by
  induction n with
  | zero => rfl
  | succ n ih =>
    rw [sumN_front, sumN, ← ih, Int.add_comm]
    congr 1
    exact sumN_congr fun i hi => by congr 1; omega
theorem mul_rev (F G : Nat → Int) {n m j : Nat} (hn : 0 < n) (hm : 0 < m) (hj : j ≤ n + m - 2) :
    mulE (fun i => F (n - 1 - i)) (fun i => G (m - 1 - i)) n m j = mulE F G n m (n + m - 2 - j) := by
  unfold mulE
  rw [← sumN_rev (fun x => sumN (fun y => if x + y = n + m - 2 - j then F x * G y else 0) m) n]
  refine sumN_congr fun x hx => ?_
  rw [← sumN_rev (fun y => if n - 1 - x + y = n + m - 2 - j then F (n - 1 - x) * G y else 0) m]
  refine sumN_congr fun y hy => ?_
  by_cases e : x + y = j
  · rw [if_pos e, if_pos (by omega)]
  · rw [if_neg e, if_neg (by omega)]

/-- One step of a division: as often as the leading number says, the other row is taken off. -/
def dvS (G : Nat → Int) (m i : Nat) (R : Nat → Int) (j : Nat) : Int := R j - (if i ≤ j ∧ j < i + m then R (i + m - 1) * G (j - i) else 0)
/-- What is left after the steps c - 1, .., 0. -/
def dvA (G : Nat → Int) (m : Nat) : Nat → (Nat → Int) → Nat → Int
  | 0, R => R
  | c + 1, R => dvA G m c (dvS G m c R)
/-- How often, for each step. -/
def dvQ (G : Nat → Int) (m : Nat) : Nat → (Nat → Int) → Nat → Int
  | 0, _ => fun _ => 0
  | c + 1, R => fun i => if i = c then R (c + m - 1) else dvQ G m c (dvS G m c R) i
theorem dv_main (G : Nat → Int) (m c : Nat) : ∀ (R : Nat → Int) (j : Nat), R j = dvA G m c R j + sumN (fun i => if i ≤ j ∧ j < i + m then dvQ G m c R i * G (j - i) else 0) c := by
  induction c with
  | zero => intro R j; simp [dvA, sumN]
  | succ c ih =>
    intro R j
    have h := ih (dvS G m c R) j
    rw [sumN, show sumN (fun i => if i ≤ j ∧ j < i + m then dvQ G m (c + 1) R i * G (j - i) else 0) c = sumN (fun i => if i ≤ j ∧ j < i + m then dvQ G m c (dvS G m c R) i * G (j - i) else 0) c from
      sumN_congr fun i hi => by rw [show dvQ G m (c + 1) R i = dvQ G m c (dvS G m c R) i from if_neg (by omega)]]
    rw [show dvQ G m (c + 1) R c = R (c + m - 1) from if_pos rfl]
    show R j = dvA G m c (dvS G m c R) j + _
    rw [show dvS G m c R j = R j - (if c ≤ j ∧ j < c + m then R (c + m - 1) * G (j - c) else 0) from rfl] at h
    omega
theorem dv_mul (Q G : Nat → Int) (c m j : Nat) : sumN (fun i => if i ≤ j ∧ j < i + m then Q i * G (j - i) else 0) c = mulE Q G c m j := by
  refine sumN_congr fun i hi => ?_
  by_cases h : i ≤ j ∧ j < i + m
  · rw [if_pos h, sumN_congr (g := fun y => if y = j - i then Q i * G y else 0) (fun y _ => by
      by_cases e : i + y = j
      · rw [if_pos e, if_pos (by omega)]
      · rw [if_neg e, if_neg (by omega)]), sumN_pick (fun y => Q i * G y) (by omega)]
  · rw [if_neg h]
    exact (sumN_zero fun y hy => if_neg (by omega)).symm
/-- Division: the row is the product and what is left. -/
theorem dv_all (G : Nat → Int) (m c : Nat) (R : Nat → Int) (j : Nat) : R j = mulE (dvQ G m c R) G c m j + dvA G m c R j := by
  have := dv_main G m c R j
  rw [dv_mul] at this
  omega
theorem dv_high {G : Nat → Int} {m : Nat} (c : Nat) (hm : 0 < m) : ∀ (R : Nat → Int) (j : Nat), c + m - 1 ≤ j → dvA G m c R j = R j := by
  induction c with
  | zero => intro R j _; rfl
  | succ c ih =>
    intro R j h
    show dvA G m c (dvS G m c R) j = R j
    rw [ih _ j (by omega)]
    unfold dvS
    rw [if_neg (by omega)]; omega
theorem dv_zero {G : Nat → Int} {m : Nat} (c : Nat) (hm : 0 < m) (hG : G (m - 1) = 1) : ∀ (R : Nat → Int) (j : Nat), m - 1 ≤ j → j < c + m - 1 → dvA G m c R j = 0 := by
  induction c with
  | zero => intro R j h1 h2; omega
  | succ c ih =>
    intro R j h1 h2
    show dvA G m c (dvS G m c R) j = 0
    rcases Nat.lt_or_ge j (c + m - 1) with q | q
    · exact ih _ j h1 q
    · rw [dv_high c hm _ j q]
      have e : j = c + m - 1 := by omega
      subst e
      unfold dvS
      rw [if_pos (by omega), show c + m - 1 - c = m - 1 by omega, hG]; omega

/-- The sum of w numbers from i on. -/
theorem box_sum (F : Nat → Int) (i w : Nat) : sumN (fun k => F (i + k)) w = sumN F (i + w) - sumN F i := by
  induction w with
  | zero => simp [sumN]
  | succ w ih => rw [sumN, ih, show i + (w + 1) = (i + w) + 1 by omega, sumN]; omega

/-- How many are less, and how many are not more. -/
def lessN (F : Nat → Int) (n : Nat) (v : Int) : Int := sumN (fun i => if F i < v then 1 else 0) n
def atMost (F : Nat → Int) (n : Nat) (v : Int) : Int := sumN (fun i => if F i ≤ v then 1 else 0) n
def sameN (F : Nat → Int) (n : Nat) (v : Int) : Int := sumN (fun i => if F i = v then 1 else 0) n
def moreN (F : Nat → Int) (n : Nat) (v : Int) : Int := sumN (fun i => if v < F i then 1 else 0) n
theorem less_same (F : Nat → Int) (n : Nat) (v : Int) : lessN F n v + sameN F n v = atMost F n v := by
  unfold lessN sameN atMost
  rw [← sumN_add]
  refine sumN_congr fun i _ => ?_
  rcases Int.lt_trichotomy (F i) v with q | q | q
  · rw [if_pos q, if_neg (by omega), if_pos (by omega)]; rfl
  · rw [if_neg (by omega), if_pos q, if_pos (by omega)]; rfl
  · rw [if_neg (by omega), if_neg (by omega), if_neg (by omega)]; rfl
theorem sumN_const (c : Int) (n : Nat) : sumN (fun _ => c) n = (n : Int) * c := by
  induction n with
  | zero => simp [sumN]
  | succ n ih => rw [sumN, ih, Int.natCast_add, Int.add_mul]; simp
theorem more_rest (F : Nat → Int) (n : Nat) (v : Int) : atMost F n v + moreN F n v = n := by
  unfold atMost moreN
  rw [← sumN_add, sumN_congr (g := fun _ => 1) (fun i _ => by
    by_cases q : F i ≤ v
    · rw [if_pos q, if_neg (by omega)]; rfl
    · rw [if_neg q, if_pos (by omega)]; rfl), sumN_const, Int.mul_one]
/-- The number in the middle. -/
def IsMid (F : Nat → Int) (n : Nat) (v : Int) : Prop := (∃ i, i < n ∧ F i = v) ∧ lessN F n v ≤ (n / 2 : Nat) ∧ ((n / 2 : Nat) : Int) < atMost F n v
theorem argmin (F : Nat → Int) (P : Nat → Prop) : ∀ n : Nat, (∃ i, i < n ∧ P i) → ∃ i, i < n ∧ P i ∧ ∀ k, k < n → P k → F i ≤ F k := by
  intro n
  induction n with
  | zero => rintro ⟨i, h, _⟩; omega
  | succ n ih =>
    rintro ⟨i, hi, hP⟩
    by_cases h : ∃ i, i < n ∧ P i
    · obtain ⟨m, hm, pm, hmin⟩ := ih h
      by_cases q : P n ∧ F n < F m
      · refine ⟨n, by omega, q.1, fun k hk hp => ?_⟩
        rcases Nat.lt_or_ge k n with r | r
        · have := hmin k r hp; have := q.2; omega
        · have e : k = n := by omega
          subst e; exact Int.le_refl _
      · refine ⟨m, by omega, pm, fun k hk hp => ?_⟩
        rcases Nat.lt_or_ge k n with r | r
        · exact hmin k r hp
        · have e : k = n := by omega
          subst e
          exact Int.not_lt.mp fun s => q ⟨hp, s⟩
    · have e : i = n := by
        rcases Nat.lt_or_ge i n with r | r
        · exact absurd ⟨i, r, hP⟩ h
        · omega
      subst e
      refine ⟨i, hi, hP, fun k hk hp => ?_⟩
      rcases Nat.lt_or_ge k i with r | r
      · exact absurd ⟨k, r, hp⟩ h
      · have e : k = i := by omega
        subst e; exact Int.le_refl _
theorem mid_ex (F : Nat → Int) {n : Nat} (hn : 0 < n) : ∃ v, IsMid F n v := by
  obtain ⟨t, ht, _, hmax⟩ := argmin (fun i => -(F i)) (fun _ => True) n ⟨0, hn, trivial⟩
  have htop : atMost F n (F t) = n := by
    unfold atMost
    rw [sumN_congr (g := fun _ => 1) (fun i hi => if_pos (by have := hmax i hi trivial; omega)), sumN_const, Int.mul_one]
  obtain ⟨i, hi, hP, hmin⟩ := argmin F (fun i => ((n / 2 : Nat) : Int) < atMost F n (F i)) n ⟨t, ht, by rw [htop]; omega⟩
  refine ⟨F i, ⟨i, hi, rfl⟩, Int.not_lt.mp fun q => ?_, hP⟩
  have hsome : ∃ k, k < n ∧ F k < F i := by
    apply Classical.byContradiction
    intro r
    have e : lessN F n (F i) = 0 := sumN_zero fun k hk => if_neg fun s => r ⟨k, hk, s⟩
    omega
  obtain ⟨u, hu, hlt, hgr⟩ := argmin (fun k => -(F k)) (fun k => F k < F i) n hsome
  have e : atMost F n (F u) = lessN F n (F i) := sumN_congr fun k hk => by
    by_cases s : F k < F i
    · rw [if_pos s, if_pos (by have := hgr k hk s; omega)]
    · rw [if_neg s, if_neg (by omega)]
  have := hmin u hu (by rw [e]; exact q)
  omega
theorem mid_one {F : Nat → Int} {n : Nat} {v w : Int} (hv : IsMid F n v) (hw : IsMid F n w) : v = w := by
  have key : ∀ v w, IsMid F n v → IsMid F n w → ¬ v < w := by
    intro v w hv hw h
    have e : atMost F n v ≤ lessN F n w := sumN_le fun i _ => by
      by_cases q : F i ≤ v
      · rw [if_pos q, if_pos (by omega)]; exact Int.le_refl _
      · rw [if_neg q]; split <;> decide
    have a := hv.2.2
    have b := hw.2.1
    omega
  have a := key v w hv hw
  have b := key w v hw hv
  omega
theorem mid_half {F : Nat → Int} {n : Nat} {v : Int} (h : IsMid F n v) (ho : n % 2 = 1) : 2 * lessN F n v ≤ n ∧ 2 * moreN F n v ≤ n := by
  have a := more_rest F n v
  have b := h.2.1
  have c := h.2.2
  omega

/-- A row beside itself, d places on. -/
def slf (F : Nat → Int) (n d : Nat) : Int := sumN (fun i => F i * F (i + d)) (n - d)
theorem slf_rev (F : Nat → Int) (n d : Nat) : slf (fun i => F (n - 1 - i)) n d = slf F n d := by
  unfold slf
  rw [← sumN_rev (fun i => F i * F (i + d)) (n - d)]
  refine sumN_congr fun i hi => ?_
  show F (n - 1 - i) * F (n - 1 - (i + d)) = F (n - d - 1 - i) * F (n - d - 1 - i + d)
  rw [show n - d - 1 - i + d = n - 1 - i by omega, show n - 1 - (i + d) = n - d - 1 - i by omega, Int.mul_comm]
theorem slf_neg (F : Nat → Int) (n d : Nat) : slf (fun i => -(F i)) n d = slf F n d := sumN_congr fun i _ => Int.neg_mul_neg _ _
theorem slf_congr {F G : Nat → Int} {n : Nat} (h : ∀ i, i < n → F i = G i) (d : Nat) : slf F n d = slf G n d := sumN_congr fun i hi => by rw [h i (by omega), h (i + d) (by omega)]
theorem slf_zero (F : Nat → Int) (n : Nat) : slf F n 0 = sq F n := rfl
theorem two_mul_le (a b : Int) : 2 * (a * b) ≤ a * a + b * b ∧ -(a * a + b * b) ≤ 2 * (a * b) := by
  have sqn : ∀ x : Int, 0 ≤ x * x := fun x => by
    rcases Int.le_total 0 x with q | q
    · exact Int.mul_nonneg q q
    · exact Int.mul_nonneg_of_nonpos_of_nonpos q q
  have h1 := sqn (a - b)
  have h2 := sqn (a + b)
  have c := Int.mul_comm b a
  rw [Int.sub_mul, Int.mul_sub, Int.mul_sub] at h1
  rw [Int.add_mul, Int.mul_add, Int.mul_add] at h2
  omega
theorem sq_nonneg (F : Nat → Int) (n : Nat) : 0 ≤ sq F n := by
  have := sumN_le (f := fun _ => 0) (g := fun i => F i * F i) (n := n) (fun i _ => by have := two_mul_le (F i) (F i); omega)
  rw [sumN_zero (fun _ _ => rfl)] at this
  exact this
theorem sq_more (F : Nat → Int) {n m : Nat} (h : n ≤ m) : sq F n ≤ sq F m := by
  obtain ⟨d, rfl⟩ : ∃ d, m = n + d := ⟨m - n, by omega⟩
  have e : sumN (fun k => F (n + k) * F (n + k)) d = sq F (n + d) - sq F n := box_sum (fun i => F i * F i) n d
  have h0 : 0 ≤ sumN (fun k => F (n + k) * F (n + k)) d := sq_nonneg (fun k => F (n + k)) d
  omega
theorem sq_shift (F : Nat → Int) (d n : Nat) : sq (fun i => F (i + d)) n ≤ sq F (n + d) := by
  have e1 : sumN (fun k => F (d + k) * F (d + k)) n = sq F (d + n) - sq F d := box_sum (fun i => F i * F i) d n
  have h0 := sq_nonneg F d
  have e : sq (fun i => F (i + d)) n = sumN (fun k => F (d + k) * F (d + k)) n := sumN_congr fun i _ => by show F (i + d) * F (i + d) = _; rw [Nat.add_comm i d]
  rw [e, e1, Nat.add_comm n d]
  omega
/-- No row is more like itself elsewhere. -/
theorem slf_le (F : Nat → Int) {n d : Nat} (hd : d ≤ n) : slf F n d ≤ slf F n 0 ∧ -(slf F n 0) ≤ slf F n d := by
  have a := sq_more F (n := n - d) (m := n) (by omega)
  have b := sq_shift F d (n - d)
  rw [Nat.sub_add_cancel hd] at b
  have c := sumN_le (f := fun i => 2 * (F i * F (i + d))) (g := fun i => F i * F i + F (i + d) * F (i + d)) (n := n - d) (fun i _ => (two_mul_le _ _).1)
  have e := sumN_le (f := fun i => -(1 : Int) * (F i * F i + F (i + d) * F (i + d))) (g := fun i => 2 * (F i * F (i + d))) (n := n - d) (fun i _ => by have := (two_mul_le (F i) (F (i + d))).2; omega)
  rw [sumN_mulL, sumN_add] at c e
  rw [sumN_mulL] at e
  have a' : sumN (fun i => F i * F i) (n - d) ≤ sq F n := a
  have b' : sumN (fun i => F (i + d) * F (i + d)) (n - d) ≤ sq F n := b
  have s : slf F n d = sumN (fun i => F i * F (i + d)) (n - d) := rfl
  rw [slf_zero]
  omega
theorem slf_next (F : Nat → Int) {n d : Nat} (hd : d ≤ n) : slf F (n + 1) d = slf F n d + F (n - d) * F n := by
  unfold slf
  rw [show n + 1 - d = (n - d) + 1 by omega, sumN, Nat.sub_add_cancel hd]
/-- All of them, but the first one twice, are the sum by itself. -/
theorem slf_total (F : Nat → Int) (n : Nat) : 2 * sumN (slf F n) n - slf F n 0 = sumN F n * sumN F n := by
  induction n with
  | zero => rfl
  | succ n ih =>
    have e1 : sumN (slf F (n + 1)) (n + 1) = sumN (slf F n) n + sumN F (n + 1) * F n := by
      rw [sumN_congr (g := fun d => slf F n d + F (n - d) * F n) (fun d hd => slf_next F (by omega)), sumN_add, sumN_mulR]
      have e2 : sumN (fun d => F (n - d)) (n + 1) = sumN F (n + 1) := by
        rw [← sumN_rev F (n + 1)]
        exact sumN_congr fun i _ => by rw [show n + 1 - 1 - i = n - i by omega]
      rw [e2, sumN]
      have e3 : slf F n n = 0 := by unfold slf; rw [Nat.sub_self]; rfl
      rw [e3, Int.add_zero]
    rw [e1, slf_next F (Nat.zero_le n), Nat.sub_zero]
    have hs : (sumN F n + F n) * (sumN F n + F n) = sumN F n * sumN F n + sumN F n * F n + (sumN F n * F n + F n * F n) := by
      rw [Int.add_mul, Int.mul_add, Int.mul_add, Int.mul_comm (F n) (sumN F n)]
    rw [sumN, hs, ← ih, Int.add_mul]
    omega
/-- A row and another one behind it, and behind it with the other signs. -/
theorem slf_pair (A B X Y : Nat → Int) {n d : Nat} (hX : ∀ i, i < n → X i = A i ∧ Y i = A i) (hY : ∀ i, i < n → X (n + i) = B i ∧ Y (n + i) = -(B i)) (h : ∀ d, 0 < d → d < n → slf A n d + slf B n d = 0) (h0 : 0 < d) (hd : d < 2 * n) :
    slf X (2 * n) d + slf Y (2 * n) d = 0 := by
  unfold slf
  rw [← sumN_add]
  have low : ∀ i, i + d < n → X i * X (i + d) + Y i * Y (i + d) = 2 * (A i * A (i + d)) := fun i hi => by
    rw [(hX i (by omega)).1, (hX i (by omega)).2, (hX (i + d) hi).1, (hX (i + d) hi).2]; omega
  have mid : ∀ i, i < n → n ≤ i + d → i + d < 2 * n → X i * X (i + d) + Y i * Y (i + d) = 0 := fun i hi h1 h2 => by
    obtain ⟨k, hk⟩ : ∃ k, i + d = n + k := ⟨i + d - n, by omega⟩
    rw [hk, (hX i hi).1, (hX i hi).2, (hY k (by omega)).1, (hY k (by omega)).2, Int.mul_neg]; omega
  have high : ∀ k, k + d < n → X (n + k) * X (n + k + d) + Y (n + k) * Y (n + k + d) = 2 * (B k * B (k + d)) := fun k hk => by
    rw [show n + k + d = n + (k + d) by omega, (hY k (by omega)).1, (hY k (by omega)).2, (hY (k + d) hk).1, (hY (k + d) hk).2, Int.neg_mul_neg]; omega
  rcases Nat.lt_or_ge d n with q | q
  · have s1 := box_sum (fun i => X i * X (i + d) + Y i * Y (i + d)) (n - d) d
    have s2 := box_sum (fun i => X i * X (i + d) + Y i * Y (i + d)) n (n - d)
    rw [sumN_zero (fun i hi => mid (n - d + i) (by omega) (by omega) (by omega)), Nat.sub_add_cancel (by omega)] at s1
    rw [sumN_congr (g := fun k => 2 * (B k * B (k + d))) (fun k hk => high k (by omega)), sumN_mulL, show n + (n - d) = 2 * n - d by omega] at s2
    have s3 : sumN (fun i => X i * X (i + d) + Y i * Y (i + d)) (n - d) = 2 * slf A n d := by
      rw [sumN_congr (g := fun i => 2 * (A i * A (i + d))) (fun i hi => low i (by omega)), sumN_mulL]; rfl
    have s4 : sumN (fun k => B k * B (k + d)) (n - d) = slf B n d := rfl
    have := h d h0 q
    omega
  · exact sumN_zero fun i hi => mid i (by omega) (by omega) (by omega)
/-- The energy of signs. -/
theorem sq_signs {F : Nat → Int} {n : Nat} (h : ∀ i, i < n → F i = 1 ∨ F i = -1) : sq F n = n := by
  unfold sq
  rw [sumN_congr (g := fun _ => 1) (fun i hi => by rcases h i hi with q | q <;> rw [q] <;> rfl), sumN_const, Int.mul_one]

end Go.Proofs.Ytlglokbakmbpdab
