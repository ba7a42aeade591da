/-
  Sets of places round a circle: lists of places, lists of sums, how often each one comes, sets as numbers. Nothing of a program is named here.
-/
import Derived.Test.YtagncoahobghpaaDoorMtM
namespace Go.Proofs.YtagncoahobghpaaDoor
open Go.RowKit
set_option linter.unusedVariables false

/-- The sum of f over a list. -/
def sumL (f : Int → Int) : List Int → Int
  | [] => 0
  | x :: r => f x + sumL f r
theorem sumL_app (f : Int → Int) (xs ys : List Int) : sumL f (xs ++ ys) = sumL f xs + sumL f ys := by
  induction xs with
  | nil => show sumL f ys = 0 + sumL f ys; omega
  | cons x r ih => show f x + sumL f (r ++ ys) = f x + sumL f r + sumL f ys; rw [ih]; omega
theorem sumL_one (f : Int → Int) (u : Int) : sumL f [u] = f u := by show f u + 0 = f u; omega
theorem sumL_tab (f : Int → Int) (g : Nat → Int) (n : Nat) : sumL f (tab n g) = sumN (fun i => f (g i)) n := by
  induction n with
  | zero => rfl
  | succ n ih => rw [tab_succ, sumL_app, sumL_one, ih]; rfl
theorem sumL_ix (f : Int → Int) (xs : List Int) : sumL f xs = sumN (fun i => f (ix xs i)) xs.length := by
  rw [← sumL_tab, show tab xs.length (fun i => ix xs i) = xs from tab_self xs]
theorem sumL_fil (f : Int → Int) (P : Nat → Bool) (n : Nat) : sumL f (fil P n) = sumN (fun i => if P i = true then f i else 0) n := by
  induction n with
  | zero => rfl
  | succ n ih =>
    by_cases h : P n = true
    · rw [fil_yes h, sumL_app, sumL_one, ih, sumN, if_pos h]
    · rw [fil_no h, ih, sumN, if_neg h, Int.add_zero]
theorem sumL_congr {f g : Int → Int} {xs : List Int} (h : ∀ x ∈ xs, f x = g x) : sumL f xs = sumL g xs := by
  induction xs with
  | nil => rfl
  | cons x r ih => show f x + sumL f r = g x + sumL g r; rw [h x (by simp), ih fun y hy => h y (by simp [hy])]
theorem sumN_split (f : Nat → Int) (a b : Nat) : sumN f (a + b) = sumN f a + sumN (fun j => f (a + j)) b := by
  induction b with
  | zero => show sumN f a = sumN f a + 0; omega
  | succ b ih => rw [← Nat.add_assoc, sumN, ih, sumN]; omega

/-- The sums, round the circle, of the first k numbers of one list with all of the other. -/
def smA (xs ys : List Int) : Nat → List Int
  | 0 => []
  | k + 1 => smA xs ys k ++ tab ys.length fun j => (ix xs k + ix ys j) % 13
def smL (xs ys : List Int) : List Int := smA xs ys xs.length
theorem smA_len (xs ys : List Int) (k : Nat) : (smA xs ys k).length = k * ys.length := by
  induction k with
  | zero => simp [smA]
  | succ k ih => rw [smA, List.length_append, len_tab, ih, Nat.succ_mul]
theorem smL_len (xs ys : List Int) : (smL xs ys).length = xs.length * ys.length := smA_len _ _ _
theorem sumL_smA (f : Int → Int) (xs ys : List Int) (k : Nat) : sumL f (smA xs ys k) = sumN (fun i => sumL (fun y => f ((ix xs i + y) % 13)) ys) k := by
  induction k with
  | zero => rfl
  | succ k ih => rw [smA, sumL_app, ih, sumL_tab, sumN, sumL_ix (fun y => f ((ix xs k + y) % 13))]
theorem sumL_smL (f : Int → Int) (xs ys : List Int) : sumL f (smL xs ys) = sumL (fun x => sumL (fun y => f ((x + y) % 13)) ys) xs := by
  rw [smL, sumL_smA, sumL_ix (fun x => sumL (fun y => f ((x + y) % 13)) ys)]
theorem smA_in (xs ys : List Int) (k : Nat) : ∀ z ∈ smA xs ys k, 0 ≤ z ∧ z < 13 := by
  induction k with
  | zero => intro z hz; simp [smA] at hz
  | succ k ih =>
    intro z hz
    rw [smA, List.mem_append] at hz
    rcases hz with h | h
    · exact ih z h
    · simp only [tab, List.mem_map, List.mem_range] at h
      obtain ⟨j, _, rfl⟩ := h
      omega
theorem ix_mem {xs : List Int} {j : Nat} (h : j < xs.length) : ix xs j ∈ xs := by
  simp [ix, List.getD, List.getElem?_eq_getElem h]
theorem smL_in (xs ys : List Int) (j : Nat) (h : j < (smL xs ys).length) : 0 ≤ ix (smL xs ys) j ∧ ix (smL xs ys) j < 13 := smA_in _ _ _ _ (ix_mem h)

/-- How often a number stands in a list. -/
def cnt (z : Int) (zs : List Int) : Int := sumL (fun x => if x = z then 1 else 0) zs
theorem cnt_snoc (z u : Int) (zs : List Int) : cnt z (zs ++ [u]) = cnt z zs + if u = z then 1 else 0 := by
  unfold cnt; rw [sumL_app, sumL_one]
theorem cnt_app (z : Int) (xs ys : List Int) : cnt z (xs ++ ys) = cnt z xs + cnt z ys := sumL_app _ _ _
theorem cnt_nonneg (z : Int) (zs : List Int) : 0 ≤ cnt z zs := by
  induction zs with
  | nil => exact Int.le_refl _
  | cons x r ih =>
    show 0 ≤ (if x = z then (1 : Int) else 0) + cnt z r
    split <;> omega
theorem cnt_len (z : Int) (zs : List Int) : cnt z zs ≤ zs.length := by
  induction zs with
  | nil => exact Int.le_refl _
  | cons x r ih =>
    show (if x = z then (1 : Int) else 0) + cnt z r ≤ ((r.length + 1 : Nat) : Int)
    split <;> omega
theorem cnt_pos {z : Int} {zs : List Int} : 0 < cnt z zs ↔ z ∈ zs := by
  induction zs with
  | nil => simp [cnt, sumL]
  | cons x r ih =>
    have hn := cnt_nonneg z r
    show 0 < (if x = z then (1 : Int) else 0) + cnt z r ↔ _
    rw [List.mem_cons, ← ih]
    by_cases e : x = z
    · rw [if_pos e]; constructor
      · intro _; exact .inl e.symm
      · intro _; omega
    · rw [if_neg e]; constructor
      · intro h; exact .inr (by omega)
      · rintro (h | h)
        · exact absurd h.symm e
        · omega
theorem mod13_cast (i j : Nat) (z : Nat) : (((i : Int) + (j : Int)) % 13 = (z : Int)) ↔ (i + j) % 13 = z := by omega
/-- Of the places of two sets the sums come as often as there are pairs. -/
theorem cnt_pairs (P Q : Nat → Bool) (z : Nat) : cnt z (smL (fil P 13) (fil Q 13)) = cntP P Q z := by
  unfold cnt cntP mixE
  rw [sumL_smL, sumL_fil]
  refine sumN_congr fun i _ => ?_
  rw [sumL_fil]
  by_cases hp : P i = true
  · rw [if_pos hp]
    refine sumN_congr fun j _ => ?_
    rw [inS_yes hp]
    by_cases hq : Q j = true
    · rw [if_pos hq, inS_yes hq]
      by_cases e : (i + j) % 13 = z
      · rw [if_pos e, if_pos ((mod13_cast i j z).mpr e)]; rfl
      · rw [if_neg e, if_neg (fun h => e ((mod13_cast i j z).mp h))]
    · rw [if_neg hq, inS_no hq]; split <;> rfl
  · rw [if_neg hp, inS_no hp]
    exact (sumN_zero fun j _ => by split <;> simp).symm

/-- The number of a set of places below n. -/
def mskN (P : Nat → Bool) : Nat → Nat
  | 0 => 0
  | n + 1 => mskN P n + if P n = true then 2 ^ n else 0
theorem msk_lt (P : Nat → Bool) (n : Nat) : mskN P n < 2 ^ n := by
  induction n with
  | zero => show 0 < 1; omega
  | succ n ih =>
    rw [mskN, Nat.pow_succ]
    split <;> omega
theorem msk_test (P : Nat → Bool) (n i : Nat) : (mskN P n).testBit i = (decide (i < n) && P i) := by
  induction n with
  | zero => simp [mskN]
  | succ n ih =>
    have hl := msk_lt P n
    have e : mskN P (n + 1) = (if P n = true then 2 ^ n else 0) ||| mskN P n := by
      rw [mskN]
      by_cases h : P n = true
      · rw [if_pos h, Nat.add_comm]
        have := Nat.two_pow_add_eq_or_of_lt hl 1
        simpa using this
      · rw [if_neg h]; simp
    rw [e, Nat.testBit_or, ih]
    by_cases h : P n = true
    · rw [if_pos h, Nat.testBit_two_pow]
      by_cases q : n = i
      · subst q; simp [h]
      · have : decide (i < n + 1) = decide (i < n) := by apply decide_eq_decide.2; omega
        rw [this]; simp [q]
    · rw [if_neg h, Nat.zero_testBit, Bool.false_or]
      by_cases q : i = n
      · subst q; simp [h]
      · have : decide (i < n + 1) = decide (i < n) := by apply decide_eq_decide.2; omega
        rw [this]
theorem bitS_test (s i : Nat) : bitS s i = s.testBit i := by
  rw [Nat.testBit_eq_decide_div_mod_eq]; unfold bitS
  by_cases h : s / 2 ^ i % 2 = 1
  · simp [h]
  · simp [h]
theorem msk_bit {P : Nat → Bool} {n i : Nat} (h : i < n) : bitS (mskN P n) i = P i := by
  rw [bitS_test, msk_test]; simp [h]
theorem msk_congr {P Q : Nat → Bool} {n : Nat} (h : ∀ i, i < n → P i = Q i) : mskN P n = mskN Q n := by
  induction n with
  | zero => rfl
  | succ n ih => rw [mskN, mskN, ih fun i hi => h i (by omega), h n (by omega)]
theorem msk_self {s n : Nat} (h : s < 2 ^ n) : mskN (bitS s) n = s := by
  apply Nat.eq_of_testBit_eq
  intro i
  rw [msk_test]
  by_cases q : i < n
  · simp [q, bitS_test]
  · have : s < 2 ^ i := Nat.lt_of_lt_of_le h (Nat.pow_le_pow_right (by decide) (by omega))
    simp [q, Nat.testBit_lt_two_pow this]
theorem msk_or (P : Nat → Bool) {n k : Nat} (h : k < n) : mskN P n ||| 2 ^ k = mskN (fun i => P i || (i == k)) n := by
  apply Nat.eq_of_testBit_eq
  intro i
  rw [Nat.testBit_or, msk_test, msk_test, Nat.testBit_two_pow]
  by_cases q : i = k
  · subst q; simp [h]
  · have e : (i == k) = false := by simpa using q
    have e2 : decide (k = i) = false := by simpa using fun e => q e.symm
    rw [e, e2]; simp
theorem msk_not (P : Nat → Bool) (n : Nat) : mskN P n + mskN (fun i => !P i) n = 2 ^ n - 1 := by
  induction n with
  | zero => rfl
  | succ n ih =>
    have hp : 0 < 2 ^ n := Nat.pow_pos (by decide)
    rw [mskN, mskN, Nat.pow_succ]
    cases P n <;> simp <;> omega
theorem msk_add {P : Nat → Bool} {n k : Nat} (hk : k < n) (h : P k = false) : mskN P n + 2 ^ k = mskN (fun i => P i || (i == k)) n := by
  induction n with
  | zero => omega
  | succ n ih =>
    rw [mskN, mskN]
    by_cases e : k = n
    · subst e
      have e1 : mskN P k = mskN (fun i => P i || (i == k)) k := msk_congr fun i hi => by
        have : (i == k) = false := by simp; omega
        rw [this, Bool.or_false]
      rw [← e1, h]; simp
    · have := ih (by omega)
      have e2 : (n == k) = false := by simp; omega
      rw [e2, Bool.or_false]; omega
/-- The set of the sums. -/
def ssN (P Q : Nat → Bool) : Nat := mskN (fun z => decide (0 < cntP P Q z)) 13
theorem ssN_comm (P Q : Nat → Bool) : ssN P Q = ssN Q P := msk_congr fun z _ => by rw [cntP_comm]

end Go.Proofs.YtagncoahobghpaaDoor
