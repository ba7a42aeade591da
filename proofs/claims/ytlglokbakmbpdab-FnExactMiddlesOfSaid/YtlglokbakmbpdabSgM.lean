/-
  Sums with signs, mixed rows, energies: the numbers. Nothing of a program is named here.
-/
import Derived.Test.YtlglokbakmbpdabBase
namespace Go.Proofs.Ytlglokbakmbpdab
open Go.RowKit
set_option linter.unusedVariables false

theorem sumN_add (f g : Nat → Int) (n : Nat) : sumN (fun i => f i + g i) n = sumN f n + sumN g n := by
  induction n with
  | zero => rfl
  | succ n ih => simp only [sumN, ih]; omega
theorem sumN_mulL (c : Int) (f : Nat → Int) (n : Nat) : sumN (fun i => c * f i) n = c * sumN f n := by
  induction n with
  | zero => simp [sumN]
  | succ n ih => simp only [sumN, ih, Int.mul_add]
theorem sumN_mulR (c : Int) (f : Nat → Int) (n : Nat) : sumN (fun i => f i * c) n = sumN f n * c := by
  induction n with
  | zero => simp [sumN]
  | succ n ih => simp only [sumN, ih, Int.add_mul]
theorem sumN_zero {f : Nat → Int} {n : Nat} (h : ∀ i, i < n → f i = 0) : sumN f n = 0 := by
  induction n with
  | zero => rfl
  | succ n ih => rw [sumN, ih fun i hi => h i (by omega), h n (by omega)]; rfl
theorem sumN_swap (f : Nat → Nat → Int) (n m : Nat) : sumN (fun i => sumN (fun j => f i j) m) n = sumN (fun j => sumN (fun i => f i j) n) m := by
  induction n with
  | zero => simp only [sumN]; exact (sumN_zero fun _ _ => rfl).symm
  | succ n ih => simp only [sumN, ih, sumN_add]
theorem sumN_pick (f : Nat → Int) {n z : Nat} (hz : z < n) : sumN (fun i => if i = z then f i else 0) n = f z := by
  induction n with
  | zero => omega
  | succ n ih =>
    rw [sumN]
    by_cases h : z < n
    · rw [ih h, if_neg (by omega)]; omega
    · have : z = n := by omega
      subst this
      rw [sumN_zero fun i hi => if_neg (by omega), if_pos rfl]; omega
theorem sumN_bound {f : Nat → Int} {n : Nat} {c : Int} (hc : 0 ≤ c) (h : ∀ i, i < n → -c ≤ f i ∧ f i ≤ c) : -((n : Int) * c) ≤ sumN f n ∧ sumN f n ≤ (n : Int) * c := by
  induction n with
  | zero => simp [sumN]
  | succ n ih =>
    have a := ih fun i hi => h i (by omega)
    have b := h n (by omega)
    have e : ((n + 1 : Nat) : Int) * c = (n : Int) * c + c := by rw [Int.natCast_add, Int.add_mul]; simp
    rw [e, sumN]; omega
theorem sumN_more {f : Nat → Int} {n m : Nat} (hm : n ≤ m) (h : ∀ i, n ≤ i → i < m → f i = 0) : sumN f m = sumN f n := by
  induction m with
  | zero => rw [show n = 0 by omega]
  | succ m ih =>
    by_cases e : n = m + 1
    · rw [e]
    · rw [sumN, ih (by omega) (fun i h1 h2 => h i h1 (by omega)), h m (by omega) (by omega)]; omega

/-- How many of four bits are 1. -/
def ones4 (x : Nat) : Nat := x % 2 + x / 2 % 2 + x / 4 % 2 + x / 8 % 2
/-- The sign of the number at x in the sum at y. -/
def sg (x y : Nat) : Int := if ones4 (x &&& y) % 2 = 0 then 1 else -1
/-- The sum with signs at y. -/
def sgE (F : Nat → Int) (n y : Nat) : Int := sumN (fun x => sg x y * F x) n
theorem sg_comm (x y : Nat) : sg x y = sg y x := by unfold sg; rw [Nat.and_comm]
theorem sg_one (x y : Nat) : sg x y = 1 ∨ sg x y = -1 := by unfold sg; split <;> simp
theorem sg_sq (x y : Nat) : sg x y * sg x y = 1 := by rcases sg_one x y with h | h <;> rw [h] <;> rfl
theorem sg_zero : ∀ x, x < 16 → sg x 0 = 1 := by decide +kernel
theorem sg_mul : ∀ x, x < 16 → ∀ y, y < 16 → ∀ z, z < 16 → sg x z * sg y z = sg (x ^^^ y) z := by decide +kernel
theorem sg_orth : ∀ k, k < 5 → ∀ x, x < 2 ^ k → ∀ z, z < 2 ^ k → sumN (fun y => sg y z * sg x y) (2 ^ k) = if x = z then ((2 ^ k : Nat) : Int) else 0 := by decide +kernel
theorem sg_bound {F : Nat → Int} {c : Int} {i y : Nat} (h : -c ≤ F i ∧ F i ≤ c) : -c ≤ sg i y * F i ∧ sg i y * F i ≤ c := by
  rcases sg_one i y with e | e <;> rw [e] <;> omega
theorem sgE_bound {F : Nat → Int} {n : Nat} {c : Int} (hc : 0 ≤ c) (h : ∀ i, i < n → -c ≤ F i ∧ F i ≤ c) (y : Nat) : -((n : Int) * c) ≤ sgE F n y ∧ sgE F n y ≤ (n : Int) * c :=
  sumN_bound hc fun i hi => sg_bound (h i hi)
theorem sgE_congr {F G : Nat → Int} {n : Nat} (h : ∀ i, i < n → F i = G i) (y : Nat) : sgE F n y = sgE G n y := sumN_congr fun i hi => by rw [h i hi]
/-- Signs twice. -/
theorem sg_twice (F : Nat → Int) {k z : Nat} (hk : k ≤ 4) (hz : z < 2 ^ k) : sgE (sgE F (2 ^ k)) (2 ^ k) z = ((2 ^ k : Nat) : Int) * F z := by
  have e : sgE (sgE F (2 ^ k)) (2 ^ k) z = sumN (fun y => sumN (fun x => sg y z * (sg x y * F x)) (2 ^ k)) (2 ^ k) := by
    unfold sgE; exact sumN_congr fun y _ => (sumN_mulL _ _ _).symm
  rw [e, sumN_swap]
  have e2 : sumN (fun x => sumN (fun y => sg y z * (sg x y * F x)) (2 ^ k)) (2 ^ k) = sumN (fun x => if x = z then ((2 ^ k : Nat) : Int) * F x else 0) (2 ^ k) := by
    refine sumN_congr fun x hx => ?_
    have e3 : sumN (fun y => sg y z * (sg x y * F x)) (2 ^ k) = sumN (fun y => (sg y z * sg x y) * F x) (2 ^ k) := sumN_congr fun y _ => (Int.mul_assoc _ _ _).symm
    rw [e3, sumN_mulR, sg_orth k (by omega) x hx z hz]
    split <;> simp
  rw [e2, sumN_pick _ hz]
def signsL (xs : List Int) : List Int := tab xs.length fun y => wrap64 (sgE (ix xs) xs.length y)
theorem len_signsL (xs : List Int) : (signsL xs).length = xs.length := by simp [signsL]
/-- The sum of squares. -/
def sq (F : Nat → Int) (n : Nat) : Int := sumN (fun i => F i * F i) n
theorem sq_congr {F G : Nat → Int} {n : Nat} (h : ∀ i, i < n → F i = G i) : sq F n = sq G n := sumN_congr fun i hi => by rw [h i hi]
theorem sq_sg (F : Nat → Int) {k : Nat} (hk : k ≤ 4) : sq (sgE F (2 ^ k)) (2 ^ k) = ((2 ^ k : Nat) : Int) * sq F (2 ^ k) := by
  have e : sq (sgE F (2 ^ k)) (2 ^ k) = sumN (fun y => sumN (fun x => sg y x * sgE F (2 ^ k) y * F x) (2 ^ k)) (2 ^ k) := by
    unfold sq
    refine sumN_congr fun y _ => ?_
    conv => lhs; rhs; unfold sgE
    rw [← sumN_mulL]
    refine sumN_congr fun x _ => ?_
    rw [sg_comm x y, ← Int.mul_assoc, Int.mul_comm (sgE F (2 ^ k) y)]
  rw [e, sumN_swap]
  have e2 : sumN (fun x => sumN (fun y => sg y x * sgE F (2 ^ k) y * F x) (2 ^ k)) (2 ^ k) = sumN (fun x => ((2 ^ k : Nat) : Int) * (F x * F x)) (2 ^ k) := by
    refine sumN_congr fun x hx => ?_
    rw [sumN_mulR]
    have := sg_twice F hk hx
    unfold sgE at this
    rw [show sumN (fun y => sg y x * sgE F (2 ^ k) y) (2 ^ k) = ((2 ^ k : Nat) : Int) * F x from this, Int.mul_assoc]
  rw [e2, sumN_mulL]; rfl

/-- The sum of the products of all pairs whose indices give j. -/
def mixE (op : Nat → Nat → Nat) (F G : Nat → Int) (n j : Nat) : Int := sumN (fun x => sumN (fun y => if op x y = j then F x * G y else 0) n) n
/-- What stands at j once all pairs ahead of (x, y) are in. -/
def mP (op : Nat → Nat → Nat) (F G : Nat → Int) (n x y j : Nat) : Int := sumN (fun x => sumN (fun y => if op x y = j then F x * G y else 0) n) x + sumN (fun y => if op x y = j then F x * G y else 0) y
theorem mP_zero (op : Nat → Nat → Nat) (F G : Nat → Int) (n j : Nat) : mP op F G n 0 0 j = 0 := rfl
theorem mP_next (op : Nat → Nat → Nat) (F G : Nat → Int) (n x j : Nat) : mP op F G n x n j = mP op F G n (x + 1) 0 j := by simp [mP, sumN]
theorem mP_all (op : Nat → Nat → Nat) (F G : Nat → Int) (n j : Nat) : mP op F G n n 0 j = mixE op F G n j := by simp [mP, mixE, sumN]
theorem mP_step (op : Nat → Nat → Nat) (F G : Nat → Int) (n x y c j : Nat) (hc : op x y = c) :
    (if j = c then wrap64 (wrap64 (mP op F G n x y c) + wrap64 (F x * G y)) else wrap64 (mP op F G n x y j)) = wrap64 (mP op F G n x (y + 1) j) := by
  by_cases h : j = c
  · subst h
    rw [if_pos rfl, w64_add]
    unfold mP
    rw [sumN, if_pos hc, Int.add_assoc]
  · rw [if_neg h]
    unfold mP
    rw [sumN, if_neg (by rw [hc]; exact fun e => h e.symm), Int.add_zero]
theorem mix_any (h : Nat → Int) (op : Nat → Nat → Nat) (F G : Nat → Int) {n : Nat} (hop : ∀ x, x < n → ∀ y, y < n → op x y < n) :
    sumN (fun j => h j * mixE op F G n j) n = sumN (fun x => sumN (fun y => h (op x y) * (F x * G y)) n) n := by
  have e : sumN (fun j => h j * mixE op F G n j) n = sumN (fun j => sumN (fun x => sumN (fun y => if op x y = j then h j * (F x * G y) else 0) n) n) n := by
    refine sumN_congr fun j _ => ?_
    unfold mixE
    rw [← sumN_mulL]
    refine sumN_congr fun x _ => ?_
    rw [← sumN_mulL]
    exact sumN_congr fun y _ => by split <;> simp
  rw [e, sumN_swap]
  refine sumN_congr fun x hx => ?_
  rw [sumN_swap]
  refine sumN_congr fun y hy => ?_
  have e2 : sumN (fun j => if op x y = j then h j * (F x * G y) else 0) n = sumN (fun j => if j = op x y then h j * (F x * G y) else 0) n := by
    refine sumN_congr fun j _ => ?_
    by_cases c : op x y = j
    · rw [if_pos c, if_pos c.symm]
    · rw [if_neg c, if_neg (fun e => c e.symm)]
  rw [e2, sumN_pick (fun j => h j * (F x * G y)) (hop x hx y hy)]
theorem sumN_prod (F G : Nat → Int) (n : Nat) : sumN (fun x => sumN (fun y => F x * G y) n) n = sumN F n * sumN G n := by
  rw [← sumN_mulR]
  exact sumN_congr fun x _ => sumN_mulL _ _ _
theorem mix_total (op : Nat → Nat → Nat) (F G : Nat → Int) {n : Nat} (hop : ∀ x, x < n → ∀ y, y < n → op x y < n) : sumN (mixE op F G n) n = sumN F n * sumN G n := by
  have := mix_any (fun _ => 1) op F G hop
  simp only [Int.one_mul] at this
  rw [this, sumN_prod]
theorem mix_comm {op : Nat → Nat → Nat} (hc : ∀ x y, op x y = op y x) (F G : Nat → Int) (n j : Nat) : mixE op F G n j = mixE op G F n j := by
  unfold mixE
  rw [sumN_swap]
  exact sumN_congr fun x _ => sumN_congr fun y _ => by rw [hc, Int.mul_comm]
theorem pow_le16 {k : Nat} (hk : k ≤ 4) : 2 ^ k ≤ 16 := by
  have : 2 ^ k ≤ 2 ^ 4 := Nat.pow_le_pow_right (by omega) hk
  omega
theorem xor_lt : ∀ k, k < 5 → ∀ x, x < 2 ^ k → ∀ y, y < 2 ^ k → x ^^^ y < 2 ^ k := by decide +kernel
theorem or_lt : ∀ k, k < 5 → ∀ x, x < 2 ^ k → ∀ y, y < 2 ^ k → x ||| y < 2 ^ k := by decide +kernel
theorem and_lt : ∀ k, k < 5 → ∀ x, x < 2 ^ k → ∀ y, y < 2 ^ k → x &&& y < 2 ^ k := by decide +kernel
theorem mix_sg (F G : Nat → Int) {k z : Nat} (hk : k ≤ 4) (hz : z < 2 ^ k) :
    sgE (mixE (fun x y => x ^^^ y) F G (2 ^ k)) (2 ^ k) z = sgE F (2 ^ k) z * sgE G (2 ^ k) z := by
  have h16 := pow_le16 hk
  have := mix_any (fun j => sg j z) (fun x y => x ^^^ y) F G (n := 2 ^ k) (xor_lt k (by omega))
  unfold sgE
  rw [this, ← sumN_prod]
  refine sumN_congr fun x hx => sumN_congr fun y hy => ?_
  show sg (x ^^^ y) z * (F x * G y) = sg x z * F x * (sg y z * G y)
  rw [← sg_mul x (by omega) y (by omega) z (by omega)]
  simp only [Int.mul_assoc, Int.mul_left_comm, Int.mul_comm]
/-- Sums over parts as one sum. -/
theorem sub_or : ∀ x, x < 16 → ∀ y, y < 16 → ∀ z, z < 16 → ((x ||| y) ||| z = z ↔ x ||| z = z ∧ y ||| z = z) := by decide +kernel
def subE (F : Nat → Int) (n z : Nat) : Int := sumN (fun i => (if i ||| z = z then 1 else 0) * F i) n
theorem mix_sub (F G : Nat → Int) {k z : Nat} (hk : k ≤ 4) (hz : z < 2 ^ k) :
    subE (mixE (fun x y => x ||| y) F G (2 ^ k)) (2 ^ k) z = subE F (2 ^ k) z * subE G (2 ^ k) z := by
  have h16 := pow_le16 hk
  have := mix_any (fun j => if j ||| z = z then 1 else 0) (fun x y => x ||| y) F G (n := 2 ^ k) (or_lt k (by omega))
  unfold subE
  rw [this, ← sumN_prod]
  refine sumN_congr fun x hx => sumN_congr fun y hy => ?_
  show (if (x ||| y) ||| z = z then (1 : Int) else 0) * (F x * G y) = (if x ||| z = z then (1 : Int) else 0) * F x * ((if y ||| z = z then (1 : Int) else 0) * G y)
  have e := sub_or x (by omega) y (by omega) z (by omega)
  by_cases c1 : x ||| z = z <;> by_cases c2 : y ||| z = z <;> simp [e, c1, c2]

end Go.Proofs.Ytlglokbakmbpdab
