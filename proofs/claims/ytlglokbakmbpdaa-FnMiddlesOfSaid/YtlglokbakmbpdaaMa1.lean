/-
  SgM: Sums with signs, mixed rows, energies: the numbers. Nothing of a program is named here.
  WvM: Waves by the prime 97: powers of a root, sums that vanish, waves taken back, products round a row, and how narrow rows spread. Nothing of a program is named here.
  WvL: Waves by the prime 97 of rows of rests: orders, roots, turns. Nothing of a program is named here.
  WvH: A wave built up from its last rest, as plain mathematics; lists that are filled from the left. Nothing of a program is named here.
  PdM: Products of rows, parts and what is left, boxes, middles, rows beside themselves, pairs: the numbers. Nothing of a program is named here.
  (Merged by merge.py.)
-/
import Derived.Test.YtlglokbakmbpdaaBase
namespace Go.Proofs.Ytlglokbakmbpdaa
open Go.RowKit
set_option linter.unusedVariables false

theorem sumN_add (f g : Nat → Int) (n : Nat) : sumN (fun i => f i + g i) n = sumN f n + sumN g n := by
  induction n with
  | zero => rfl
  | succ n ih => simp only [sumN, ih]; omega
theorem sumN_mulL (c : Int) (f : Nat → Int) (n : Nat) : sumN (fun i => c * f i) n = c * sumN f n := by
  induction n with
  | zero => simp [sumN]
  | succ n ih => simp only [sumN, ih, Int.mul_add]
theorem sumN_mulR (c : Int) (f : Nat → Int) (n : Nat) : sumN (fun i => f i * c) n = sumN f n * c := by
  induction n with
  | zero => simp [sumN]
  | succ n ih => simp only [sumN, ih, Int.add_mul]
theorem sumN_zero {f : Nat → Int} {n : Nat} (h : ∀ i, i < n → f i = 0) : sumN f n = 0 := by
  induction n with
  | zero => rfl
  | succ n ih => rw [sumN, ih fun i hi => h i (by omega), h n (by omega)]; rfl
theorem sumN_swap (f : Nat → Nat → Int) (n m : Nat) : sumN (fun i => sumN (fun j => f i j) m) n = sumN (fun j => sumN (fun i => f i j) n) m := by
  induction n with
  | zero => simp only [sumN]; exact (sumN_zero fun _ _ => rfl).symm
  | succ n ih => simp only [sumN, ih, sumN_add]
theorem sumN_pick (f : Nat → Int) {n z : Nat} (hz : z < n) : sumN (fun i => if i = z then f i else 0) n = f z := by
  induction n with
  | zero => omega
  | succ n ih =>
    rw [sumN]
    by_cases h : z < n
    · rw [ih h, if_neg (by omega)]; omega
    · have : z = n := by omega
      subst this
      rw [sumN_zero fun i hi => if_neg (by omega), if_pos rfl]; omega
theorem sumN_bound {f : Nat → Int} {n : Nat} {c : Int} (hc : 0 ≤ c) (h : ∀ i, i < n → -c ≤ f i ∧ f i ≤ c) : -((n : Int) * c) ≤ sumN f n ∧ sumN f n ≤ (n : Int) * c := by
  induction n with
  | zero => simp [sumN]
  | succ n ih =>
    have a := ih fun i hi => h i (by omega)
    have b := h n (by omega)
    have e : ((n + 1 : Nat) : Int) * c = (n : Int) * c + c := by rw [Int.natCast_add, Int.add_mul]; simp
    rw [e, sumN]; omega
theorem sumN_more {f : Nat → Int} {n m : Nat} (hm : n ≤ m) (h : ∀ i, n ≤ i → i < m → f i = 0) : sumN f m = sumN f n := by
  induction m with
  | zero => rw [show n = 0 by omega]
  | succ m ih =>
    by_cases e : n = m + 1
    · rw [e]
    · rw [sumN, ih (by omega) (fun i h1 h2 => h i h1 (by omega)), h m (by omega) (by omega)]; omega

/-- How many of four bits are 1. -/
def ones4 (x : Nat) : Nat := x % 2 + x / 2 % 2 + x / 4 % 2 + x / 8 % 2
/-- The sign of the number at x in the sum at y. -/
def sg (x y : Nat) : Int := if ones4 (x &&& y) % 2 = 0 then 1 else -1
/-- The sum with signs at y. -/
def sgE (F : Nat → Int) (n y : Nat) : Int := sumN (fun x => sg x y * F x) n
theorem sg_comm (x y : Nat) : sg x y = sg y x := by unfold sg; rw [Nat.and_comm]
theorem sg_one (x y : Nat) : sg x y = 1 ∨ sg x y = -1 := by unfold sg; split <;> simp
theorem sg_sq (x y : Nat) : sg x y * sg x y = 1 := by rcases sg_one x y with h | h <;> rw [h] <;> rfl
theorem sg_zero : ∀ x, x < 16 → sg x 0 = 1 := by decide +kernel
theorem sg_mul : ∀ x, x < 16 → ∀ y, y < 16 → ∀ z, z < 16 → sg x z * sg y z = sg (x ^^^ y) z := by decide +kernel
theorem sg_orth : ∀ k, k < 5 → ∀ x, x < 2 ^ k → ∀ z, z < 2 ^ k → sumN (fun y => sg y z * sg x y) (2 ^ k) = if x = z then ((2 ^ k : Nat) : Int) else 0 := by decide +kernel
theorem sg_bound {F : Nat → Int} {c : Int} {i y : Nat} (h : -c ≤ F i ∧ F i ≤ c) : -c ≤ sg i y * F i ∧ sg i y * F i ≤ c := by
  rcases sg_one i y with e | e <;> rw [e] <;> omega
theorem sgE_bound {F : Nat → Int} {n : Nat} {c : Int} (hc : 0 ≤ c) (h : ∀ i, i < n → -c ≤ F i ∧ F i ≤ c) (y : Nat) : -((n : Int) * c) ≤ sgE F n y ∧ sgE F n y ≤ (n : Int) * c :=
  sumN_bound hc fun i hi => sg_bound (h i hi)
theorem sgE_congr {F G : Nat → Int} {n : Nat} (h : ∀ i, i < n → F i = G i) (y : Nat) : sgE F n y = sgE G n y := sumN_congr fun i hi => by rw [h i hi]
/-- Signs twice. -/
theorem sg_twice (F : Nat → Int) {k z : Nat} (hk : k ≤ 4) (hz : z < 2 ^ k) : sgE (sgE F (2 ^ k)) (2 ^ k) z = ((2 ^ k : Nat) : Int) * F z := by
  have e : sgE (sgE F (2 ^ k)) (2 ^ k) z = sumN (fun y => sumN (fun x => sg y z * (sg x y * F x)) (2 ^ k)) (2 ^ k) := by
    unfold sgE; exact sumN_congr fun y _ => (sumN_mulL _ _ _).symm
  rw [e, sumN_swap]
  have e2 : sumN (fun x => sumN (fun y => sg y z * (sg x y * F x)) (2 ^ k)) (2 ^ k) = sumN (fun x => if x = z then ((2 ^ k : Nat) : Int) * F x else 0) (2 ^ k) := by
    refine sumN_congr fun x hx => ?_
    have e3 : sumN (fun y => sg y z * (sg x y * F x)) (2 ^ k) = sumN (fun y => (sg y z * sg x y) * F x) (2 ^ k) := sumN_congr fun y _ => (Int.mul_assoc _ _ _).symm
    rw [e3, sumN_mulR, sg_orth k (by omega) x hx z hz]
    split <;> simp
  rw [e2, sumN_pick _ hz]
def signsL (xs : List Int) : List Int := tab xs.length fun y => wrap64 (sgE (ix xs) xs.length y)
theorem len_signsL (xs : List Int) : (signsL xs).length = xs.length := by simp [signsL]
/-- The sum of squares. -/
def sq (F : Nat → Int) (n : Nat) : Int := sumN (fun i => F i * F i) n
theorem sq_congr {F G : Nat → Int} {n : Nat} (h : ∀ i, i < n → F i = G i) : sq F n = sq G n := sumN_congr fun i hi => by rw [h i hi]
theorem sq_sg (F : Nat → Int) {k : Nat} (hk : k ≤ 4) : sq (sgE F (2 ^ k)) (2 ^ k) = ((2 ^ k : Nat) : Int) * sq F (2 ^ k) := by
  have e : sq (sgE F (2 ^ k)) (2 ^ k) = sumN (fun y => sumN (fun x => sg y x * sgE F (2 ^ k) y * F x) (2 ^ k)) (2 ^ k) := by
    unfold sq
    refine sumN_congr fun y _ => ?_
    conv => lhs; rhs; unfold sgE
    rw [← sumN_mulL]
    refine sumN_congr fun x _ => ?_
    rw [sg_comm x y, ← Int.mul_assoc, Int.mul_comm (sgE F (2 ^ k) y)]
  rw [e, sumN_swap]
  have e2 : sumN (fun x => sumN (fun y => sg y x * sgE F (2 ^ k) y * F x) (2 ^ k)) (2 ^ k) = sumN (fun x => ((2 ^ k : Nat) : Int) * (F x * F x)) (2 ^ k) := by
    refine sumN_congr fun x hx => ?_
    rw [sumN_mulR]
    have := sg_twice F hk hx
    unfold sgE at this
    rw [show sumN (fun y => sg y x * sgE F (2 ^ k) y) (2 ^ k) = ((2 ^ k : Nat) : Int) * F x from this, Int.mul_assoc]
  rw [e2, sumN_mulL]; rfl

/-- The sum of the products of all pairs whose indices give j. -/
def mixE (op : Nat → Nat → Nat) (F G : Nat → Int) (n j : Nat) : Int := sumN (fun x => sumN (fun y => if op x y = j then F x * G y else 0) n) n
/-- What stands at j once all pairs ahead of (x, y) are in. -/
def mP (op : Nat → Nat → Nat) (F G : Nat → Int) (n x y j : Nat) : Int := sumN (fun x => sumN (fun y => if op x y = j then F x * G y else 0) n) x + sumN (fun y => if op x y = j then F x * G y else 0) y
theorem mP_zero (op : Nat → Nat → Nat) (F G : Nat → Int) (n j : Nat) : mP op F G n 0 0 j = 0 := rfl
theorem mP_next (op : Nat → Nat → Nat) (F G : Nat → Int) (n x j : Nat) : mP op F G n x n j = mP op F G n (x + 1) 0 j := by simp [mP, sumN]
theorem mP_all (op : Nat → Nat → Nat) (F G : Nat → Int) (n j : Nat) : mP op F G n n 0 j = mixE op F G n j := by simp [mP, mixE, sumN]
theorem mP_step (op : Nat → Nat → Nat) (F G : Nat → Int) (n x y c j : Nat) (hc : op x y = c) :
    (if j = c then wrap64 (wrap64 (mP op F G n x y c) + wrap64 (F x * G y)) else wrap64 (mP op F G n x y j)) = wrap64 (mP op F G n x (y + 1) j) := by
  by_cases h : j = c
  · subst h
    rw [if_pos rfl, w64_add]
    unfold mP
    rw [sumN, if_pos hc, Int.add_assoc]
  · rw [if_neg h]
    unfold mP
    rw [sumN, if_neg (by rw [hc]; exact fun e => h e.symm), Int.add_zero]
theorem mix_any (h : Nat → Int) (op : Nat → Nat → Nat) (F G : Nat → Int) {n : Nat} (hop : ∀ x, x < n → ∀ y, y < n → op x y < n) :
    sumN (fun j => h j * mixE op F G n j) n = sumN (fun x => sumN (fun y => h (op x y) * (F x * G y)) n) n := by
  have e : sumN (fun j => h j * mixE op F G n j) n = sumN (fun j => sumN (fun x => sumN (fun y => if op x y = j then h j * (F x * G y) else 0) n) n) n := by
    refine sumN_congr fun j _ => ?_
    unfold mixE
    rw [← sumN_mulL]
    refine sumN_congr fun x _ => ?_
    rw [← sumN_mulL]
    exact sumN_congr fun y _ => by split <;> simp
  rw [e, sumN_swap]
  refine sumN_congr fun x hx => ?_
  rw [sumN_swap]
  refine sumN_congr fun y hy => ?_
  have e2 : sumN (fun j => if op x y = j then h j * (F x * G y) else 0) n = sumN (fun j => if j = op x y then h j * (F x * G y) else 0) n := by
    refine sumN_congr fun j _ => ?_
    by_cases c : op x y = j
    · rw [if_pos c, if_pos c.symm]
    · rw [if_neg c, if_neg (fun e => c e.symm)]
  rw [e2, sumN_pick (fun j => h j * (F x * G y)) (hop x hx y hy)]
theorem sumN_prod (F G : Nat → Int) (n : Nat) : sumN (fun x => sumN (fun y => F x * G y) n) n = sumN F n * sumN G n := by
  rw [← sumN_mulR]
  exact sumN_congr fun x _ => sumN_mulL _ _ _
theorem mix_total (op : Nat → Nat → Nat) (F G : Nat → Int) {n : Nat} (hop : ∀ x, x < n → ∀ y, y < n → op x y < n) : sumN (mixE op F G n) n = sumN F n * sumN G n := by
  have := mix_any (fun _ => 1) op F G hop
  simp only [Int.one_mul] at this
  rw [this, sumN_prod]
theorem mix_comm {op : Nat → Nat → Nat} (hc : ∀ x y, op x y = op y x) (F G : Nat → Int) (n j : Nat) : mixE op F G n j = mixE op G F n j := by
  unfold mixE
  rw [sumN_swap]
  exact sumN_congr fun x _ => sumN_congr fun y _ => by rw [hc, Int.mul_comm]
theorem pow_le16 {k : Nat} (hk : k ≤ 4) : 2 ^ k ≤ 16 := by
  have : 2 ^ k ≤ 2 ^ 4 := Nat.pow_le_pow_right (by omega) hk
  omega
theorem xor_lt : ∀ k, k < 5 → ∀ x, x < 2 ^ k → ∀ y, y < 2 ^ k → x ^^^ y < 2 ^ k := by decide +kernel
theorem or_lt : ∀ k, k < 5 → ∀ x, x < 2 ^ k → ∀ y, y < 2 ^ k → x ||| y < 2 ^ k := by decide +kernel
theorem and_lt : ∀ k, k < 5 → ∀ x, x < 2 ^ k → ∀ y, y < 2 ^ k → x &&& y < 2 ^ k := by decide +kernel
theorem mix_sg (F G : Nat → Int) {k z : Nat} (hk : k ≤ 4) (hz : z < 2 ^ k) :
    sgE (mixE (fun x y => x ^^^ y) F G (2 ^ k)) (2 ^ k) z = sgE F (2 ^ k) z * sgE G (2 ^ k) z := by
  have h16 := pow_le16 hk
  have := mix_any (fun j => sg j z) (fun x y => x ^^^ y) F G (n := 2 ^ k) (xor_lt k (by omega))
  unfold sgE
  rw [this, ← sumN_prod]
  refine sumN_congr fun x hx => sumN_congr fun y hy => ?_
  show sg (x ^^^ y) z * (F x * G y) = sg x z * F x * (sg y z * G y)
  rw [← sg_mul x (by omega) y (by omega) z (by omega)]
  simp only [Int.mul_assoc, Int.mul_left_comm, Int.mul_comm]
/-- Sums over parts as one sum. -/
theorem sub_or : ∀ x, x < 16 → ∀ y, y < 16 → ∀ z, z < 16 → ((x ||| y) ||| z = z ↔ x ||| z = z ∧ y ||| z = z) := by decide +kernel
def subE (F : Nat → Int) (n z : Nat) : Int := sumN (fun i => (if i ||| z = z then 1 else 0) * F i) n
theorem mix_sub (F G : Nat → Int) {k z : Nat} (hk : k ≤ 4) (hz : z < 2 ^ k) :
    subE (mixE (fun x y => x ||| y) F G (2 ^ k)) (2 ^ k) z = subE F (2 ^ k) z * subE G (2 ^ k) z := by
  have h16 := pow_le16 hk
  have := mix_any (fun j => if j ||| z = z then 1 else 0) (fun x y => x ||| y) F G (n := 2 ^ k) (or_lt k (by omega))
  unfold subE
  rw [this, ← sumN_prod]
  refine sumN_congr fun x hx => sumN_congr fun y hy => ?_
  show (if (x ||| y) ||| z = z then (1 : Int) else 0) * (F x * G y) = (if x ||| z = z then (1 : Int) else 0) * F x * ((if y ||| z = z then (1 : Int) else 0) * G y)
  have e := sub_or x (by omega) y (by omega) z (by omega)
  by_cases c1 : x ||| z = z <;> by_cases c2 : y ||| z = z <;> simp [e, c1, c2]

end Go.Proofs.Ytlglokbakmbpdaa

namespace Go.Proofs.Ytlglokbakmbpdaa
open Go.RowKit
set_option linter.unusedVariables false

/-- The power, not reduced. -/
def pw (w : Int) : Nat → Int
  | 0 => 1
  | n + 1 => pw w n * w
theorem pw_add (w : Int) (m n : Nat) : pw w (m + n) = pw w m * pw w n := by
  induction n with
  | zero => simp [pw]
  | succ n ih => show pw w (m + n) * w = pw w m * (pw w n * w); rw [ih, Int.mul_assoc]
theorem pw_base (a b : Int) (n : Nat) : pw (a * b) n = pw a n * pw b n := by
  induction n with
  | zero => rfl
  | succ n ih => show pw (a * b) n * (a * b) = pw a n * a * (pw b n * b); rw [ih]; simp only [Int.mul_assoc, Int.mul_left_comm, Int.mul_comm]
theorem pw_pw (w : Int) (i k : Nat) : pw (pw w i) k = pw w (i * k) := by
  induction k with
  | zero => rfl
  | succ k ih => show pw (pw w i) k * pw w i = _; rw [ih, ← pw_add]; rfl
theorem pw_one (n : Nat) : pw 1 n = 1 := by
  induction n with
  | zero => rfl
  | succ n ih => show pw 1 n * 1 = 1; rw [ih]; rfl
theorem c_mul (a b : Int) : (a % 97 * (b % 97)) % 97 = (a * b) % 97 := (Int.mul_emod a b 97).symm
theorem c_mulL (a b : Int) : (a % 97 * b) % 97 = (a * b) % 97 := by rw [Int.mul_emod, Int.emod_emod_of_dvd a (Int.dvd_refl 97), ← Int.mul_emod]
theorem c_mulR (a b : Int) : (a * (b % 97)) % 97 = (a * b) % 97 := by rw [Int.mul_emod, Int.emod_emod_of_dvd b (Int.dvd_refl 97), ← Int.mul_emod]
theorem c_mulC {a a' b b' : Int} (h : a % 97 = a' % 97) (k : b % 97 = b' % 97) : (a * b) % 97 = (a' * b') % 97 := by rw [Int.mul_emod, h, k, ← Int.mul_emod]
theorem c_pw {a b : Int} (h : a % 97 = b % 97) (n : Nat) : pw a n % 97 = pw b n % 97 := by
  induction n with
  | zero => rfl
  | succ n ih => exact c_mulC ih h
theorem c_sum {f g : Nat → Int} {n : Nat} (h : ∀ i, i < n → f i % 97 = g i % 97) : sumN f n % 97 = sumN g n % 97 := by
  induction n with
  | zero => rfl
  | succ n ih =>
    have a := ih fun i hi => h i (by omega)
    have b := h n (by omega)
    rw [sumN, sumN]; omega
theorem prime97N : ∀ a, a < 97 → ∀ b, b < 97 → a * b % 97 = 0 → a = 0 ∨ b = 0 := by decide +kernel
theorem prime97 {a b : Int} (h : (a * b) % 97 = 0) : a % 97 = 0 ∨ b % 97 = 0 := by
  rw [Int.mul_emod] at h
  obtain ⟨x, hx⟩ : ∃ x : Nat, a % 97 = (x : Int) := ⟨(a % 97).toNat, by omega⟩
  obtain ⟨y, hy⟩ : ∃ y : Nat, b % 97 = (y : Int) := ⟨(b % 97).toNat, by omega⟩
  rw [hx, hy] at h ⊢
  have e : ((x * y % 97 : Nat) : Int) = 0 := by rw [Int.natCast_emod, Int.natCast_mul]; exact h
  rcases prime97N x (by omega) y (by omega) (by omega) with r | r
  · left; omega
  · right; omega
theorem c_cancel {a b c : Int} (hc : c % 97 ≠ 0) (h : (c * a) % 97 = (c * b) % 97) : a % 97 = b % 97 := by
  have e : (c * (a - b)) % 97 = 0 := by rw [Int.mul_sub]; omega
  rcases prime97 e with r | r
  · exact absurd r hc
  · omega

/-- w is a root of order n. -/
def IsRt (w : Int) (n : Nat) : Prop := 0 < n ∧ pw w n % 97 = 1 ∧ ∀ d, 0 < d → d < n → pw w d % 97 ≠ 1
theorem IsRt.unit {w : Int} {n : Nat} (h : IsRt w n) (k : Nat) : pw w k % 97 ≠ 0 := by
  intro e
  have h1 : pw w n % 97 = 1 := h.2.1
  have e2 : pw w (k * n) % 97 = 1 := by
    rw [Nat.mul_comm, ← pw_pw, c_pw (b := 1) (by rw [h1]; rfl), pw_one]; rfl
  have : pw w (k * n) % 97 = 0 := by
    obtain ⟨m, hm⟩ : ∃ m, n = m + 1 := ⟨n - 1, by have := h.1; omega⟩
    rw [hm, Nat.mul_succ, Nat.add_comm, pw_add, c_mulC (a' := 0) (b' := pw w (k * m)) (by rw [e]; rfl) rfl, Int.zero_mul]; rfl
  omega
theorem IsRt.mod {w : Int} {n : Nat} (h : IsRt w n) (m : Nat) : pw w (m % n) % 97 = pw w m % 97 := by
  have e : pw w m = pw w (n * (m / n)) * pw w (m % n) := by rw [← pw_add, Nat.div_add_mod]
  rw [e, ← pw_pw, c_mulC (a' := 1) (b' := pw w (m % n)) (by rw [c_pw (b := 1) (by rw [h.2.1]; rfl), pw_one]) rfl, Int.one_mul]
theorem geo (r : Int) (n : Nat) : (r - 1) * sumN (fun k => pw r k) n = pw r n - 1 := by
  induction n with
  | zero => simp [sumN, pw]
  | succ n ih =>
    rw [sumN, Int.mul_add, ih, Int.sub_mul, Int.one_mul]
    show _ = pw r n * r - 1
    rw [Int.mul_comm r (pw r n)]; omega
theorem geo_zero {r : Int} {n : Nat} (h1 : pw r n % 97 = 1) (h2 : r % 97 ≠ 1) : sumN (fun k => pw r k) n % 97 = 0 := by
  have e := geo r n
  have : ((r - 1) * sumN (fun k => pw r k) n) % 97 = 0 := by rw [e]; omega
  rcases prime97 this with q | q
  · omega
  · exact q
theorem geo_one {r : Int} {n : Nat} (h : r % 97 = 1) : sumN (fun k => pw r k) n % 97 = (n : Int) % 97 := by
  rw [c_sum (g := fun _ => 1) (fun i hi => by rw [c_pw (b := 1) (by rw [h]; rfl), pw_one])]
  congr 1
  induction n with
  | zero => rfl
  | succ n ih => rw [sumN, ih]; simp
/-- Sums of powers vanish but for equal indices. -/
theorem orth {w v : Int} {n : Nat} (hw : IsRt w n) (hv : (w * v) % 97 = 1) {i j : Nat} (hi : i < n) (hj : j < n) :
    sumN (fun k => pw w (i * k) * pw v (j * k)) n % 97 = if i = j then (n : Int) % 97 else 0 := by
  have hvn : pw v n % 97 = 1 := by
    have e : pw (w * v) n % 97 = 1 := by rw [c_pw (b := 1) (by rw [hv]; rfl), pw_one]; rfl
    rw [pw_base, c_mulC (a' := 1) (b' := pw v n) (by rw [hw.2.1]; rfl) rfl, Int.one_mul] at e
    exact e
  have e : sumN (fun k => pw w (i * k) * pw v (j * k)) n = sumN (fun k => pw (pw w i * pw v j) k) n := sumN_congr fun k _ => by rw [pw_base, pw_pw, pw_pw]
  have hone : ∀ m : Nat, (pw w m * pw v m) % 97 = 1 := fun m => by rw [← pw_base, c_pw (b := 1) (by rw [hv]; rfl), pw_one]; rfl
  rw [e]
  by_cases h : i = j
  · subst h
    rw [if_pos rfl]
    exact geo_one (hone i)
  · rw [if_neg h]
    refine geo_zero ?_ ?_
    · rw [pw_base, pw_pw, pw_pw, Nat.mul_comm i n, Nat.mul_comm j n, ← pw_pw, ← pw_pw, c_mulC (a' := 1) (b' := 1) (by rw [c_pw (b := 1) (by rw [hw.2.1]; rfl), pw_one]) (by rw [c_pw (b := 1) (by rw [hvn]; rfl), pw_one])]; rfl
    · intro hr
      rcases Nat.lt_or_gt_of_ne h with hlt | hgt
      · obtain ⟨d, rfl⟩ : ∃ d, j = i + d := ⟨j - i, by omega⟩
        have e1 : (pw w i * pw v (i + d)) % 97 = pw v d % 97 := by
          rw [pw_add, ← Int.mul_assoc, c_mulC (a' := 1) (b' := pw v d) (by rw [hone]; rfl) rfl, Int.one_mul]
        have e2 : pw w d % 97 = 1 := by
          have := hone d
          rw [c_mulC (a' := pw w d) (b' := 1) rfl (by rw [← e1, hr]; rfl), Int.mul_one] at this
          exact this
        exact hw.2.2 d (by omega) (by omega) e2
      · obtain ⟨d, rfl⟩ : ∃ d, i = j + d := ⟨i - j, by omega⟩
        have e1 : (pw w (j + d) * pw v j) % 97 = pw w d % 97 := by
          rw [Nat.add_comm, pw_add, Int.mul_assoc, c_mulC (a' := pw w d) (b' := 1) rfl (by rw [hone]; rfl), Int.mul_one]
        exact hw.2.2 d (by omega) (by omega) (by rw [← e1]; exact hr)

/-- The sum of the rests, each one times a power: not reduced. -/
def wvE (F : Nat → Int) (w : Int) (n k : Nat) : Int := sumN (fun i => F i * pw w (i * k)) n
theorem wv_congr {F G : Nat → Int} {w : Int} {n : Nat} (h : ∀ i, i < n → F i % 97 = G i % 97) (k : Nat) : wvE F w n k % 97 = wvE G w n k % 97 := c_sum fun i hi => c_mulC (h i hi) rfl
theorem wv_first (F : Nat → Int) (w : Int) (n : Nat) : wvE F w n 0 = sumN F n := sumN_congr fun i _ => by rw [Nat.mul_zero]; simp [pw]
/-- Waves are taken back. -/
theorem wv_back (F : Nat → Int) {w v : Int} {n : Nat} (hw : IsRt w n) (hv : (w * v) % 97 = 1) {j : Nat} (hj : j < n) : wvE (wvE F w n) v n j % 97 = (F j * n) % 97 := by
  have e : wvE (wvE F w n) v n j = sumN (fun i => F i * sumN (fun k => pw w (i * k) * pw v (j * k)) n) n := by
    unfold wvE
    have e1 : sumN (fun k => sumN (fun i => F i * pw w (i * k)) n * pw v (k * j)) n = sumN (fun k => sumN (fun i => F i * (pw w (i * k) * pw v (j * k))) n) n :=
      sumN_congr fun k _ => by
        rw [← sumN_mulR]
        exact sumN_congr fun i _ => by rw [Int.mul_assoc, Nat.mul_comm k j]
    rw [e1, sumN_swap]
    exact sumN_congr fun i _ => sumN_mulL _ _ _
  rw [e, c_sum (g := fun i => if i = j then F i * n else 0) (fun i hi => by
    rw [c_mulC (a' := F i) (b' := if i = j then (n : Int) else 0) rfl (by rw [orth hw hv hi hj]; split <;> simp)]
    split <;> simp), sumN_pick _ hj]
/-- Products round a row are products of waves. -/
theorem wv_ring (F G : Nat → Int) {w : Int} {n : Nat} (hw : IsRt w n) (k : Nat) : wvE (mixE (fun x y => (x + y) % n) F G n) w n k % 97 = (wvE F w n k * wvE G w n k) % 97 := by
  have hn := hw.1
  have e : wvE (mixE (fun x y => (x + y) % n) F G n) w n k = sumN (fun j => pw w (j * k) * mixE (fun x y => (x + y) % n) F G n j) n := sumN_congr fun j _ => Int.mul_comm _ _
  rw [e, mix_any (fun j => pw w (j * k)) (fun x y => (x + y) % n) F G (fun x hx y hy => Nat.mod_lt _ hn)]
  unfold wvE
  rw [← sumN_prod]
  refine c_sum fun x hx => c_sum fun y hy => ?_
  show (pw w ((x + y) % n * k) * (F x * G y)) % 97 = (F x * pw w (x * k) * (G y * pw w (y * k))) % 97
  have e1 : pw w ((x + y) % n * k) % 97 = (pw w (x * k) * pw w (y * k)) % 97 := by
    rw [← pw_add, ← Nat.add_mul, ← pw_pw, ← pw_pw]
    exact c_pw (hw.mod (x + y)) k
  rw [c_mulC (a' := pw w (x * k) * pw w (y * k)) (b' := F x * G y) e1 rfl]
  congr 1
  simp only [Int.mul_assoc, Int.mul_left_comm, Int.mul_comm]

theorem sumN_sub (f g : Nat → Int) (n : Nat) : sumN (fun i => f i - g i) n = sumN f n - sumN g n := by
  induction n with
  | zero => rfl
  | succ n ih => simp only [sumN, ih]; omega
theorem sumN_le {f g : Nat → Int} {n : Nat} (h : ∀ i, i < n → f i ≤ g i) : sumN f n ≤ sumN g n := by
  induction n with
  | zero => exact Int.le_refl _
  | succ n ih => have a := ih fun i hi => h i (by omega); have b := h n (by omega); rw [sumN, sumN]; omega
/-- 1 for a number that is no multiple. -/
def nz (x : Int) : Int := if x % 97 = 0 then 0 else 1
theorem nz_01 (x : Int) : nz x = 0 ∧ x % 97 = 0 ∨ nz x = 1 ∧ x % 97 ≠ 0 := by unfold nz; split <;> simp [*]
theorem pw_unit {r : Int} (h : r % 97 ≠ 0) (m : Nat) : pw r m % 97 ≠ 0 := by
  induction m with
  | zero => simp [pw]
  | succ m ih =>
    intro q
    rcases prime97 (a := pw r m) (b := r) q with q | q
    · exact ih q
    · exact h q
/-- What is narrow is spread widely: a sum of powers with at most s numbers other than 0 that vanishes at s indices side by side has noughts alone. -/
theorem wide_zero (n : Nat) (r : Nat → Int) (K : Nat) (hr : ∀ a, a < n → ∀ b, b < n → a ≠ b → (r a - r b) % 97 ≠ 0) (h0 : ∀ a, a < n → r a % 97 ≠ 0) (s : Nat) :
    ∀ c : Nat → Int, sumN (fun i => nz (c i)) n ≤ s → (∀ d, d < s → sumN (fun a => c a * pw (r a) (K + d)) n % 97 = 0) → ∀ a, a < n → c a % 97 = 0 := by
  induction s with
  | zero =>
    intro c hc _ a ha
    rcases nz_01 (c a) with q | q
    · exact q.2
    · exfalso
      have e := sumN_le (f := fun i => if i = a then 1 else 0) (g := fun i => nz (c i)) (n := n) (fun i hi => by
        by_cases e : i = a
        · subst e; simp [q.1]
        · rw [if_neg e]; rcases nz_01 (c i) with p | p <;> omega)
      rw [sumN_pick (fun _ => 1) ha] at e
      omega
  | succ s ih =>
    intro c hc hs a ha
    rcases nz_01 (c a) with q | q
    · exact q.2
    exfalso
    have hcnt : sumN (fun i => nz (c i * (r i - r a))) n ≤ s := by
      have e := sumN_le (f := fun i => nz (c i * (r i - r a)) + (if i = a then 1 else 0)) (g := fun i => nz (c i)) (n := n) (fun i hi => by
        by_cases e : i = a
        · subst e
          rw [if_pos rfl, q.1, Int.sub_self, Int.mul_zero]; decide
        · rw [if_neg e]
          rcases nz_01 (c i) with p | p
          · have : nz (c i * (r i - r a)) = 0 := by
              unfold nz; rw [if_pos (by rw [Int.mul_emod, p.2, Int.zero_mul]; rfl)]
            omega
          · rcases nz_01 (c i * (r i - r a)) with p2 | p2 <;> omega)
      rw [sumN_add, sumN_pick (fun _ => 1) ha] at e
      omega
    have step : ∀ d, d < s → sumN (fun i => (c i * (r i - r a)) * pw (r i) (K + d)) n % 97 = 0 := by
      intro d hd
      have e1 := hs (d + 1) (by omega)
      have e2 := hs d (by omega)
      have e : sumN (fun i => (c i * (r i - r a)) * pw (r i) (K + d)) n = sumN (fun i => c i * pw (r i) (K + (d + 1))) n - r a * sumN (fun i => c i * pw (r i) (K + d)) n := by
        rw [← sumN_mulL, ← sumN_sub]
        refine sumN_congr fun i _ => ?_
        show _ = c i * (pw (r i) (K + d) * r i) - _
        rw [Int.mul_sub, Int.sub_mul]
        congr 1
        · simp only [Int.mul_assoc, Int.mul_left_comm, Int.mul_comm]
        · simp only [Int.mul_assoc, Int.mul_comm]
      rw [e]
      have e3 : (r a * sumN (fun i => c i * pw (r i) (K + d)) n) % 97 = 0 := by rw [Int.mul_emod, e2, Int.mul_zero]; rfl
      omega
    have hlow := ih (fun i => c i * (r i - r a)) hcnt step
    have hz : ∀ i, i < n → i ≠ a → c i % 97 = 0 := fun i hi hne => by
      rcases prime97 (hlow i hi) with p | p
      · exact p
      · exact absurd p (hr i hi a ha hne)
    have e0 := hs 0 (by omega)
    rw [c_sum (g := fun i => if i = a then c i * pw (r i) (K + 0) else 0) (fun i hi => by
      by_cases e : i = a
      · rw [if_pos e]
      · rw [if_neg e, Int.mul_emod, hz i hi e, Int.zero_mul]), sumN_pick (fun i => c i * pw (r i) (K + 0)) ha] at e0
    rcases prime97 e0 with p | p
    · exact q.2 p
    · exact pw_unit (h0 a ha) _ p
theorem IsRt.apart {w : Int} {n : Nat} (h : IsRt w n) {a b : Nat} (ha : a < n) (hb : b < n) (hne : a ≠ b) : (pw w a - pw w b) % 97 ≠ 0 := by
  intro e
  have key : ∀ x d : Nat, 0 < d → d < n → pw w (x + d) % 97 = pw w x % 97 → False := fun x d h1 h2 e => by
    have e2 : (pw w x * pw w d) % 97 = (pw w x * 1) % 97 := by rw [← pw_add, Int.mul_one]; exact e
    have := c_cancel (h.unit x) e2
    exact h.2.2 d h1 h2 (by rw [this]; rfl)
  rcases Nat.lt_or_gt_of_ne hne with q | q
  · obtain ⟨d, rfl⟩ : ∃ d, b = a + d := ⟨b - a, by omega⟩
    exact key a d (by omega) (by omega) (by omega)
  · obtain ⟨d, rfl⟩ : ∃ d, a = b + d := ⟨a - b, by omega⟩
    exact key b d (by omega) (by omega) (by omega)
theorem wv_mod (F : Nat → Int) {w : Int} {n : Nat} (hw : IsRt w n) (k : Nat) : wvE F w n (k % n) % 97 = wvE F w n k % 97 := by
  refine c_sum fun i hi => c_mulC rfl ?_
  rw [Nat.mul_comm i, Nat.mul_comm i, ← pw_pw, ← pw_pw]
  exact c_pw (hw.mod k) i
theorem sumN_cyc1 (f : Nat → Int) (n : Nat) : sumN (fun k => f ((k + 1) % n)) n = sumN f n := by
  cases n with
  | zero => rfl
  | succ n =>
    rw [sumN, Nat.mod_self]
    have e : sumN (fun k => f ((k + 1) % (n + 1))) n = sumN (fun k => f (k + 1)) n := sumN_congr fun k hk => by rw [Nat.mod_eq_of_lt (by omega)]
    rw [e]
    clear e
    induction n with
    | zero => simp [sumN]
    | succ n ih => show sumN (fun k => f (k + 1)) n + f (n + 1) + f 0 = sumN f (n + 1) + f (n + 1); omega
theorem sumN_cyc (f : Nat → Int) (n d : Nat) : sumN (fun k => f ((k + d) % n)) n = sumN f n := by
  induction d with
  | zero => exact sumN_congr fun k hk => by rw [Nat.add_zero, Nat.mod_eq_of_lt hk]
  | succ d ih =>
    rw [← ih, ← sumN_cyc1 (fun k => f ((k + d) % n)) n]
    refine sumN_congr fun k hk => ?_
    show f ((k + (d + 1)) % n) = f (((k + 1) % n + d) % n)
    rw [Nat.mod_add_mod]; congr 2; omega
/-- The numbers other than 0, and those of the wave, multiplied. -/
theorem spread {F : Nat → Int} {w : Int} {n : Nat} (hw : IsRt w n) (hne : ∃ i, i < n ∧ F i % 97 ≠ 0) :
    (n : Int) ≤ sumN (fun i => nz (F i)) n * sumN (fun k => nz (wvE F w n k)) n := by
  obtain ⟨s, hs⟩ : ∃ s : Nat, sumN (fun i => nz (F i)) n = (s : Int) := by
    have h0 : 0 ≤ sumN (fun i => nz (F i)) n := by
      have := sumN_le (f := fun _ => 0) (g := fun i => nz (F i)) (n := n) (fun i _ => by rcases nz_01 (F i) with q | q <;> omega)
      rw [sumN_zero (fun _ _ => rfl)] at this; exact this
    exact ⟨(sumN (fun i => nz (F i)) n).toNat, by omega⟩
  rw [hs]
  have hone : ∀ k, k < n → 1 ≤ sumN (fun d => nz (wvE F w n ((k + d) % n))) s := by
    intro k hk
    rcases Int.lt_or_le (sumN (fun d => nz (wvE F w n ((k + d) % n))) s) 1 with q | q
    · exfalso
      have hz : ∀ d, d < s → wvE F w n ((k + d) % n) % 97 = 0 := by
        intro d hd
        rcases nz_01 (wvE F w n ((k + d) % n)) with p | p
        · exact p.2
        · exfalso
          have e := sumN_le (f := fun i => if i = d then 1 else 0) (g := fun d => nz (wvE F w n ((k + d) % n))) (n := s) (fun i hi => by
            by_cases e : i = d
            · subst e; simp [p.1]
            · rw [if_neg e]; rcases nz_01 (wvE F w n ((k + i) % n)) with p | p <;> omega)
          rw [sumN_pick (fun _ => 1) hd] at e
          omega
      obtain ⟨i, hi, hF⟩ := hne
      refine hF (wide_zero n (pw w) k (fun a ha b hb h => hw.apart ha hb h) (fun a _ => hw.unit a) s F (by rw [hs]; exact Int.le_refl _) (fun d hd => ?_) i hi)
      have := hz d hd
      rw [wv_mod F hw] at this
      rw [← this]
      unfold wvE
      exact c_sum fun i _ => by rw [pw_pw]
    · exact q
  have e1 := sumN_le (f := fun _ => 1) (g := fun k => sumN (fun d => nz (wvE F w n ((k + d) % n))) s) (n := n) hone
  rw [sumN_swap, sumN_congr (g := fun _ => sumN (fun k => nz (wvE F w n k)) n) (fun d _ => sumN_cyc (fun k => nz (wvE F w n k)) n d)] at e1
  have c1 : ∀ (c : Int) (m : Nat), sumN (fun _ => c) m = (m : Int) * c := fun c m => by
    induction m with
    | zero => simp [sumN]
    | succ m ih => rw [sumN, ih, Int.natCast_add, Int.add_mul]; simp
  rw [c1, c1, Int.mul_one] at e1
  exact e1

end Go.Proofs.Ytlglokbakmbpdaa

namespace Go.Proofs.Ytlglokbakmbpdaa
open Go.RowKit
set_option linter.unusedVariables false
set_option maxRecDepth 8000

/-- The power, a rest at each step. -/
def pm (x : Nat) : Nat → Nat
  | 0 => 1
  | n + 1 => pm x n * x % 97
theorem pm_lt (x n : Nat) : pm x n < 97 := by cases n with | zero => exact (by decide : 1 < 97) | succ n => exact Nat.mod_lt _ (by decide)
theorem pm_pw (x n : Nat) : ((pm x n : Nat) : Int) = pw (x : Int) n % 97 := by
  induction n with
  | zero => rfl
  | succ n ih => show ((pm x n * x % 97 : Nat) : Int) = _; rw [Int.natCast_emod, Int.natCast_mul, ih]; exact c_mulL _ _
def ordT : List Nat := [0, 1, 48, 48, 24, 96, 12, 96, 16, 24, 96, 48, 16, 96, 96, 96, 12, 96, 16, 32, 32, 96, 4, 96, 24, 48, 96, 16, 32, 96, 32, 48, 48, 8, 32, 3, 6, 96, 96, 96, 96, 96, 32, 24, 48, 32, 32, 8, 48, 48, 8, 32, 32, 48, 24, 32, 96, 96, 96, 96, 96, 3, 6, 32, 8, 48, 48, 32, 96, 32, 16, 96, 48, 24, 96, 4, 96, 32, 32, 16, 96, 12, 96, 96, 96, 16, 48, 96, 24, 16, 96, 12, 96, 24, 48, 48, 2]
def rtT : List Nat := [0, 1, 96, 35, 22, 0, 36, 0, 33, 0, 0, 0, 6, 0, 0, 0, 8, 0, 0, 0, 0, 0, 0, 0, 4, 0, 0, 0, 0, 0, 0, 0, 19, 0, 0, 0, 0, 0, 0, 0, 0, 0, 0, 0, 0, 0, 0, 0, 2, 0, 0, 0, 0, 0, 0, 0, 0, 0, 0, 0, 0, 0, 0, 0, 0, 0, 0, 0, 0, 0, 0, 0, 0, 0, 0, 0, 0, 0, 0, 0, 0, 0, 0, 0, 0, 0, 0, 0, 0, 0, 0, 0, 0, 0, 0, 0, 5]
def ordN (x : Nat) : Nat := ordT.getD x 0
def rtN (n : Nat) : Nat := rtT.getD n 0
def invN (x : Nat) : Nat := pm x 95
theorem ord_facts : ∀ x, x < 97 → 0 < x → 0 < ordN x ∧ ordN x ≤ 96 ∧ 96 % ordN x = 0 ∧ pm x (ordN x) = 1 := by decide +kernel
theorem ord_least : ∀ x, x < 97 → 0 < x → ∀ m, m < ordN x → 0 < m → pm x m ≠ 1 := by decide +kernel
theorem rt_facts : ∀ n, n < 97 → 0 < n → 96 % n = 0 → 0 < rtN n ∧ rtN n < 97 ∧ ordN (rtN n) = n := by decide +kernel
theorem rt_least : ∀ n, n < 97 → 0 < n → 96 % n = 0 → ∀ x, x < rtN n → 0 < x → ordN x ≠ n := by decide +kernel
theorem inv_facts : ∀ x, x < 97 → 0 < x → x * invN x % 97 = 1 ∧ 0 < invN x := by decide +kernel
theorem inv_order : ∀ n, n < 97 → 0 < n → 96 % n = 0 → ordN (invN (rtN n)) = n := by decide +kernel

theorem pm_one_pw {x n : Nat} (h : pm x n = 1) : pw (x : Int) n % 97 = 1 := by have := pm_pw x n; rw [h] at this; omega
theorem ord_isRt {x : Nat} (hx : x < 97) (h0 : 0 < x) : IsRt (x : Int) (ordN x) := by
  obtain ⟨a, _, _, b⟩ := ord_facts x hx h0
  refine ⟨a, pm_one_pw b, fun d hd hn e => ord_least x hx h0 d hn hd ?_⟩
  have := pm_pw x d
  omega
theorem rt_isRt {n : Nat} (hn : n < 97) (h0 : 0 < n) (hd : 96 % n = 0) : IsRt (rtN n : Int) n := by
  obtain ⟨a, b, c⟩ := rt_facts n hn h0 hd
  have := ord_isRt b a
  rw [c] at this; exact this
theorem inv_isRt {n : Nat} (hn : n < 97) (h0 : 0 < n) (hd : 96 % n = 0) : IsRt (invN (rtN n) : Int) n := by
  obtain ⟨a, b, c⟩ := rt_facts n hn h0 hd
  have := ord_isRt (pm_lt _ 95) (inv_facts _ b a).2
  rw [show ordN (pm (rtN n) 95) = n from inv_order n hn h0 hd] at this; exact this
theorem inv_mul {x : Nat} (hx : x < 97) (h0 : 0 < x) : ((x : Int) * (invN x : Int)) % 97 = 1 := by
  have := (inv_facts x hx h0).1
  rw [← Int.natCast_mul]; omega

/-- The numbers are rests. -/
def vsB (xs : List Int) : Bool := decide (∀ j, j < xs.length → 0 ≤ ix xs j ∧ ix xs j ≤ 96) && decide (0 < xs.length) && decide (xs.length ≤ 96) && decide (96 % xs.length = 0)
structure Vs (xs : List Int) : Prop where
  rest : ∀ j, j < xs.length → 0 ≤ ix xs j ∧ ix xs j ≤ 96
  some : 0 < xs.length
  few : xs.length ≤ 96
  div : 96 % xs.length = 0
theorem vsB_iff (xs : List Int) : vsB xs = true ↔ Vs xs := by
  simp only [vsB, Bool.and_eq_true, decide_eq_true_eq]
  exact ⟨fun ⟨⟨⟨a, b⟩, c⟩, d⟩ => ⟨a, b, c, d⟩, fun ⟨a, b, c, d⟩ => ⟨⟨⟨a, b⟩, c⟩, d⟩⟩
theorem Vs.rt {xs : List Int} (h : Vs xs) : IsRt (rtN xs.length : Int) xs.length := rt_isRt (by have := h.few; omega) h.some h.div
theorem Vs.irt {xs : List Int} (h : Vs xs) : IsRt (invN (rtN xs.length) : Int) xs.length := inv_isRt (by have := h.few; omega) h.some h.div
theorem Vs.inv {xs : List Int} (h : Vs xs) : ((rtN xs.length : Int) * (invN (rtN xs.length) : Int)) % 97 = 1 := by
  obtain ⟨a, b, _⟩ := rt_facts xs.length (by have := h.few; omega) h.some h.div
  exact inv_mul b a
theorem Vs.ninv {xs : List Int} (h : Vs xs) : ((xs.length : Int) * (invN xs.length : Int)) % 97 = 1 := inv_mul (by have := h.few; omega) h.some
theorem Vs.low {xs : List Int} (h : Vs xs) {j : Nat} (hj : j < xs.length) : ix xs j % 97 = ix xs j := Int.emod_eq_of_lt (h.rest j hj).1 (by have := (h.rest j hj).2; omega)
theorem vs_tab {n : Nat} (f : Nat → Int) (h0 : 0 < n) (h1 : n ≤ 96) (hd : 96 % n = 0) : Vs (tab n fun j => f j % 97) :=
  ⟨fun j hj => by
    rw [len_tab] at hj
    rw [ix_tab _ _ _ hj]
    omega, by rw [len_tab]; exact h0, by rw [len_tab]; exact h1, by rw [len_tab]; exact hd⟩

/-- The wave by w. -/
def waveL (xs : List Int) (w : Nat) : List Int := tab xs.length fun k => wvE (ix xs) (w : Int) xs.length k % 97
def waveR (xs : List Int) : List Int := waveL xs (rtN xs.length)
def unwaveR (xs : List Int) : List Int := tab xs.length fun j => (ix (waveL xs (invN (rtN xs.length))) j * (invN xs.length : Int)) % 97
@[simp] theorem len_waveL (xs : List Int) (w : Nat) : (waveL xs w).length = xs.length := by simp [waveL]
@[simp] theorem len_waveR (xs : List Int) : (waveR xs).length = xs.length := by simp [waveR]
@[simp] theorem len_unwaveR (xs : List Int) : (unwaveR xs).length = xs.length := by simp [unwaveR]
theorem ix_waveL (xs : List Int) (w : Nat) {k : Nat} (hk : k < xs.length) : ix (waveL xs w) k = wvE (ix xs) (w : Int) xs.length k % 97 := ix_tab _ _ _ hk
theorem ix_waveR (xs : List Int) {k : Nat} (hk : k < xs.length) : ix (waveR xs) k = wvE (ix xs) (rtN xs.length : Int) xs.length k % 97 := ix_tab _ _ _ hk
theorem ix_unwaveR (xs : List Int) {j : Nat} (hj : j < xs.length) : ix (unwaveR xs) j = (wvE (ix xs) (invN (rtN xs.length) : Int) xs.length j * (invN xs.length : Int)) % 97 := by
  unfold unwaveR
  rw [ix_tab _ _ _ hj, ix_waveL _ _ hj, c_mulL]
theorem vs_wave {xs : List Int} (h : Vs xs) : Vs (waveR xs) := vs_tab _ h.some h.few h.div
theorem vs_unwave {xs : List Int} (h : Vs xs) : Vs (unwaveR xs) := vs_tab _ h.some h.few h.div
theorem unwave_wave {xs : List Int} (h : Vs xs) : unwaveR (waveR xs) = xs := by
  refine ext_ix (by simp) fun j hj => ?_
  have hj' : j < xs.length := by simpa using hj
  rw [ix_unwaveR _ (by simpa using hj'), len_waveR]
  have e1 : wvE (ix (waveR xs)) (invN (rtN xs.length) : Int) xs.length j % 97 = (ix xs j * xs.length) % 97 := by
    rw [wv_congr (G := wvE (ix xs) (rtN xs.length : Int) xs.length) (fun i hi => by rw [ix_waveR xs hi, Int.emod_emod_of_dvd _ (Int.dvd_refl 97)])]
    exact wv_back _ h.rt h.inv hj'
  rw [c_mulC (b' := (invN xs.length : Int)) e1 rfl, Int.mul_assoc, c_mulC (a' := ix xs j) (b' := 1) rfl (by rw [h.ninv]; rfl), Int.mul_one]
  exact h.low hj'
theorem wave_unwave {xs : List Int} (h : Vs xs) : waveR (unwaveR xs) = xs := by
  refine ext_ix (by simp) fun j hj => ?_
  have hj' : j < xs.length := by simpa using hj
  rw [ix_waveR _ (by simpa using hj'), len_unwaveR]
  have e0 : wvE (ix (unwaveR xs)) (rtN xs.length : Int) xs.length j % 97 = (wvE (wvE (ix xs) (invN (rtN xs.length) : Int) xs.length) (rtN xs.length : Int) xs.length j * (invN xs.length : Int)) % 97 := by
    rw [wv_congr (G := fun i => wvE (ix xs) (invN (rtN xs.length) : Int) xs.length i * (invN xs.length : Int)) (fun i hi => by rw [ix_unwaveR xs hi, Int.emod_emod_of_dvd _ (Int.dvd_refl 97)])]
    congr 1
    unfold wvE
    rw [← sumN_mulR]
    exact sumN_congr fun i _ => by rw [Int.mul_assoc, Int.mul_comm (invN xs.length : Int), ← Int.mul_assoc]
  have e1 : wvE (wvE (ix xs) (invN (rtN xs.length) : Int) xs.length) (rtN xs.length : Int) xs.length j % 97 = (ix xs j * xs.length) % 97 :=
    wv_back _ h.irt (by rw [Int.mul_comm]; exact h.inv) hj'
  rw [e0, c_mulC (b' := (invN xs.length : Int)) e1 rfl, Int.mul_assoc, c_mulC (a' := ix xs j) (b' := 1) rfl (by rw [h.ninv]; rfl), Int.mul_one]
  exact h.low hj'
theorem wave_first {xs : List Int} (h : Vs xs) : ix (waveR xs) 0 = sumN (ix xs) xs.length % 97 := by rw [ix_waveR xs h.some, wv_first]

/-- Products round the row. -/
def ringL (xs ys : List Int) : List Int := tab xs.length fun j => mixE (fun x y => (x + y) % xs.length) (ix xs) (ix ys) xs.length j % 97
@[simp] theorem len_ringL (xs ys : List Int) : (ringL xs ys).length = xs.length := by simp [ringL]
theorem ix_ringL (xs ys : List Int) {j : Nat} (hj : j < xs.length) : ix (ringL xs ys) j = mixE (fun x y => (x + y) % xs.length) (ix xs) (ix ys) xs.length j % 97 := ix_tab _ _ _ hj
theorem vs_ring {xs : List Int} (h : Vs xs) (ys : List Int) : Vs (ringL xs ys) := vs_tab _ h.some h.few h.div
theorem wave_ring {xs ys : List Int} (h : Vs xs) (e : ys.length = xs.length) {k : Nat} (hk : k < xs.length) : ix (waveR (ringL xs ys)) k = (ix (waveR xs) k * ix (waveR ys) k) % 97 := by
  rw [ix_waveR _ (by simpa using hk), ix_waveR _ hk, ix_waveR _ (by rw [e]; exact hk), len_ringL, e, c_mul]
  rw [wv_congr (G := mixE (fun x y => (x + y) % xs.length) (ix xs) (ix ys) xs.length) (fun i hi => by rw [ix_ringL xs ys hi, Int.emod_emod_of_dvd _ (Int.dvd_refl 97)])]
  exact wv_ring _ _ h.rt k
theorem ring_comm (xs ys : List Int) (e : ys.length = xs.length) : ringL ys xs = ringL xs ys := by
  unfold ringL
  rw [e]
  exact congrArg (tab xs.length) (funext fun j => by rw [mix_comm (fun x y => by rw [Nat.add_comm])])

/-- Each one k places further on. -/
def turnL (k : Nat) (xs : List Int) : List Int := tab xs.length fun j => ix xs ((j + (xs.length - k % xs.length)) % xs.length)
@[simp] theorem len_turnL (k : Nat) (xs : List Int) : (turnL k xs).length = xs.length := by simp [turnL]
theorem ix_turnL (k : Nat) (xs : List Int) {j : Nat} (hj : j < xs.length) : ix (turnL k xs) j = ix xs ((j + (xs.length - k % xs.length)) % xs.length) := ix_tab _ _ _ hj
theorem back_mod {n : Nat} (h : 0 < n) (i k : Nat) : ((i + k) % n + (n - k % n)) % n = i % n := by
  rw [Nat.mod_add_mod]
  have e : i + k + (n - k % n) = i + n * (k / n + 1) := by
    have a := Nat.div_add_mod k n
    have b := Nat.mod_lt k h
    rw [Nat.mul_add, Nat.mul_one]; omega
  rw [e, Nat.add_mul_mod_self_left]
theorem forth_mod {n : Nat} (h : 0 < n) (j k : Nat) : ((j + (n - k % n)) % n + k) % n = j % n := by
  rw [Nat.mod_add_mod]
  have e : j + (n - k % n) + k = j + n * (k / n + 1) := by
    have a := Nat.div_add_mod k n
    have b := Nat.mod_lt k h
    rw [Nat.mul_add, Nat.mul_one]; omega
  rw [e, Nat.add_mul_mod_self_left]
theorem turn_at {xs : List Int} (k : Nat) {i : Nat} (hi : i < xs.length) : ix (turnL k xs) ((i + k) % xs.length) = ix xs i := by
  have hn : 0 < xs.length := by omega
  rw [ix_turnL k xs (Nat.mod_lt _ hn), back_mod hn, Nat.mod_eq_of_lt hi]
theorem vs_turn {xs : List Int} (h : Vs xs) (k : Nat) : Vs (turnL k xs) :=
  ⟨fun j hj => by
    rw [len_turnL] at hj
    rw [ix_turnL k xs hj]
    exact h.rest _ (Nat.mod_lt _ h.some), by rw [len_turnL]; exact h.some, by rw [len_turnL]; exact h.few, by rw [len_turnL]; exact h.div⟩
theorem turn_sum (f : Int → Int) (k : Nat) (xs : List Int) : sumN (fun i => f (ix (turnL k xs) i)) xs.length = sumN (fun i => f (ix xs i)) xs.length := by
  rw [← sumN_cyc (fun i => f (ix xs i)) xs.length (xs.length - k % xs.length)]
  exact sumN_congr fun i hi => by rw [ix_turnL k xs hi]
theorem turn_turn {xs : List Int} (k m : Nat) : turnL m (turnL k xs) = turnL (k + m) xs := by
  refine ext_ix (by simp) fun j hj => ?_
  have hj' : j < xs.length := by simpa using hj
  have hn : 0 < xs.length := by omega
  obtain ⟨i, hi, rfl⟩ : ∃ i, i < xs.length ∧ (i + (k + m)) % xs.length = j := ⟨(j + (xs.length - (k + m) % xs.length)) % xs.length, Nat.mod_lt _ hn, by rw [forth_mod hn, Nat.mod_eq_of_lt hj']⟩
  rw [turn_at (k + m) hi]
  have e : (i + (k + m)) % xs.length = ((i + k) % xs.length + m) % xs.length := by rw [Nat.mod_add_mod]; congr 1; omega
  have e2 := turn_at (xs := turnL k xs) m (i := (i + k) % xs.length) (by rw [len_turnL]; exact Nat.mod_lt _ hn)
  rw [len_turnL] at e2
  rw [e, e2, turn_at k hi]
theorem wave_turn {xs : List Int} (h : Vs xs) (m : Nat) {k : Nat} (hk : k < xs.length) : ix (waveR (turnL m xs)) k = (ix (waveR xs) k * pw (rtN xs.length : Int) (m * k)) % 97 := by
  rw [ix_waveR _ (by simpa using hk), ix_waveR _ hk, len_turnL, c_mulL]
  have hw := h.rt
  have e1 : wvE (ix (turnL m xs)) (rtN xs.length : Int) xs.length k = sumN (fun i => ix xs i * pw (rtN xs.length : Int) ((i + m) % xs.length * k)) xs.length := by
    unfold wvE
    rw [← sumN_cyc (fun i => ix (turnL m xs) i * pw (rtN xs.length : Int) (i * k)) xs.length m]
    exact sumN_congr fun i hi => by rw [turn_at m hi]
  rw [e1]
  unfold wvE
  rw [← sumN_mulR]
  refine c_sum fun i hi => ?_
  rw [Int.mul_assoc, ← pw_add, ← Nat.add_mul]
  refine c_mulC rfl ?_
  rw [← pw_pw, ← pw_pw]
  exact c_pw (hw.mod (i + m)) k

/-- How many are other than 0. -/
def someN (xs : List Int) : Int := sumN (fun i => nz (ix xs i)) xs.length
theorem nz_congr {a b : Int} (h : a % 97 = b % 97) : nz a = nz b := by unfold nz; rw [h]
theorem nz_mod (a : Int) : nz (a % 97) = nz a := nz_congr (Int.emod_emod_of_dvd a (Int.dvd_refl 97))
theorem nz_unit {a r : Int} (h : r % 97 ≠ 0) : nz (a * r) = nz a := by
  unfold nz
  by_cases e : a % 97 = 0
  · rw [if_pos e, if_pos (by rw [Int.mul_emod, e, Int.zero_mul]; rfl)]
  · rw [if_neg e, if_neg (fun q => by rcases prime97 q with p | p; exact e p; exact h p)]
theorem some_turn (k : Nat) (xs : List Int) : someN (turnL k xs) = someN xs := by unfold someN; rw [len_turnL]; exact turn_sum nz k xs
theorem some_wave_turn {xs : List Int} (h : Vs xs) (m : Nat) : someN (waveR (turnL m xs)) = someN (waveR xs) := by
  unfold someN
  rw [len_waveR, len_waveR, len_turnL]
  refine sumN_congr fun k hk => ?_
  rw [wave_turn h m hk, nz_mod, nz_unit (h.rt.unit (m * k))]
theorem some_pos {xs : List Int} (h : someN xs ≠ 0) : ∃ i, i < xs.length ∧ ix xs i % 97 ≠ 0 := by
  apply Classical.byContradiction
  intro q
  apply h
  refine sumN_zero fun i hi => ?_
  rcases nz_01 (ix xs i) with p | p
  · exact p.1
  · exact absurd ⟨i, hi, p.2⟩ q
theorem spread_list {xs : List Int} (h : Vs xs) (hs : someN xs ≠ 0) : (xs.length : Int) ≤ someN xs * someN (waveR xs) := by
  have e := spread h.rt (some_pos hs)
  have e2 : someN (waveR xs) = sumN (fun k => nz (wvE (ix xs) (rtN xs.length : Int) xs.length k)) xs.length := by
    unfold someN
    rw [len_waveR]
    exact sumN_congr fun k hk => by rw [ix_waveR xs hk, nz_mod]
  rw [e2]; exact e
theorem some_range (xs : List Int) : 0 ≤ someN xs ∧ someN xs ≤ xs.length := by
  have a := sumN_le (f := fun _ => 0) (g := fun i => nz (ix xs i)) (n := xs.length) (fun i _ => by rcases nz_01 (ix xs i) with q | q <;> omega)
  have b := sumN_bound (f := fun i => nz (ix xs i)) (n := xs.length) (c := 1) (by decide) (fun i _ => by rcases nz_01 (ix xs i) with q | q <;> omega)
  rw [sumN_zero (fun _ _ => rfl)] at a
  unfold someN
  omega
theorem some_each {xs : List Int} (h : someN xs = 0) {i : Nat} (hi : i < xs.length) : ix xs i % 97 = 0 := by
  rcases nz_01 (ix xs i) with p | p
  · exact p.2
  · have e := sumN_le (f := fun k => if k = i then (1 : Int) else 0) (g := fun k => nz (ix xs k)) (n := xs.length) (fun k _ => by
      by_cases q : k = i
      · subst q; rw [if_pos rfl, p.1]; exact Int.le_refl _
      · rw [if_neg q]; rcases nz_01 (ix xs k) with r | r <;> omega)
    rw [sumN_pick (fun _ => 1) hi] at e
    unfold someN at h
    omega
/-- Noughts have noughts as their wave. -/
theorem some_none {xs : List Int} (h : someN xs = 0) : someN (waveR xs) = 0 := by
  unfold someN
  rw [len_waveR]
  refine sumN_zero fun k hk => ?_
  have e : wvE (ix xs) (rtN xs.length : Int) xs.length k % 97 = 0 := by
    unfold wvE
    rw [c_sum (g := fun _ => 0) (fun i hi => by rw [Int.mul_emod, some_each h hi, Int.zero_mul])]
    rw [sumN_zero (fun _ _ => rfl)]; rfl
  rw [ix_waveR xs hk, e]; rfl
theorem nz_rest {x : Int} (h : 0 ≤ x ∧ x ≤ 96) : nz x = if x = 0 then 0 else 1 := by
  unfold nz; rw [Int.emod_eq_of_lt h.1 (by omega)]

/-- The sum of the powers by squares. -/
def sqsN (k : Nat) : Nat := (List.range 16).foldl (fun s i => (s + pm (rtN 16) (i * i * k % 16)) % 97) 0
theorem sqs_facts : ∀ k, k < 16 → k % 2 = 1 → sqsN k * sqsN k % 97 = 32 * pm (rtN 16) (4 * k) % 97 := by decide +kernel
theorem sqs_zero : sqsN 0 = 16 := by decide +kernel

end Go.Proofs.Ytlglokbakmbpdaa

namespace Go.Proofs.Ytlglokbakmbpdaa
open Go.RowKit
set_option linter.unusedVariables false

theorem sumN_front (f : Nat → Int) (n : Nat) : sumN f (n + 1) = f 0 + sumN (fun j => f (j + 1)) n := by
  induction n with
  | zero => simp [sumN]
  | succ n ih => rw [sumN, ih]; show _ = f 0 + (sumN (fun j => f (j + 1)) n + f (n + 1)); omega
/-- The sum from index p on. -/
def hrn (F : Nat → Int) (s : Int) (n p : Nat) : Int := sumN (fun j => F (p + j) * pw s j) (n - p) % 97
theorem hrn_end (F : Nat → Int) (s : Int) (n : Nat) : hrn F s n n = 0 := by unfold hrn; rw [Nat.sub_self]; rfl
theorem hrn_bd (F : Nat → Int) (s : Int) (n p : Nat) : 0 ≤ hrn F s n p ∧ hrn F s n p ≤ 96 := by unfold hrn; omega
theorem hrn_step (F : Nat → Int) (s : Int) {n p : Nat} (h : p < n) : hrn F s n p = (hrn F s n (p + 1) * s % 97 + F p) % 97 := by
  unfold hrn
  obtain ⟨m, hm⟩ : ∃ m, n - p = m + 1 := ⟨n - p - 1, by omega⟩
  have hm' : n - (p + 1) = m := by omega
  rw [hm, hm', sumN_front]
  have e : sumN (fun j => F (p + (j + 1)) * pw s (j + 1)) m = sumN (fun j => F (p + 1 + j) * pw s j) m * s := by
    rw [← sumN_mulR]
    refine sumN_congr fun j _ => ?_
    show F (p + (j + 1)) * (pw s j * s) = F (p + 1 + j) * pw s j * s
    rw [Int.mul_assoc, show p + (j + 1) = p + 1 + j by omega]
  rw [e, c_mulL]
  show (F (p + 0) * pw s 0 + _) % 97 = _
  rw [Nat.add_zero, show pw s 0 = 1 from rfl, Int.mul_one]
  omega
theorem hrn_all (F : Nat → Int) (r n k : Nat) : hrn F (pm r k : Nat) n 0 = wvE F (r : Int) n k % 97 := by
  unfold hrn wvE
  rw [Nat.sub_zero]
  refine c_sum fun i _ => ?_
  rw [Nat.zero_add]
  refine c_mulC rfl ?_
  rw [c_pw (b := pw (r : Int) k) (by rw [pm_pw, Int.emod_emod_of_dvd _ (Int.dvd_refl 97)]), pw_pw, Nat.mul_comm]

theorem c_addL (a b : Int) : (a % 97 + b) % 97 = (a + b) % 97 := by omega

/-- The first k are F, the others G. -/
def upto (k : Nat) (F G : Nat → Int) (j : Nat) : Int := if j < k then F j else G j
theorem upto_zero (F G : Nat → Int) (j : Nat) : upto 0 F G j = G j := by unfold upto; rw [if_neg (by omega)]
theorem upto_at (k : Nat) (F G : Nat → Int) : upto k F G k = G k := by unfold upto; rw [if_neg (by omega)]
theorem upto_lt {k j : Nat} (F G : Nat → Int) (h : j < k) : upto k F G j = F j := by unfold upto; rw [if_pos h]
theorem upto_set (n k : Nat) (F G : Nat → Int) : (tab n (upto k F G)).set k (F k) = tab n (upto (k + 1) F G) := by
  rw [tab_set]
  refine tab_congr fun j _ => ?_
  unfold upto
  by_cases h : j = k
  · subst h; rw [if_pos rfl, if_pos (by omega)]
  · rw [if_neg h]
    by_cases h2 : j < k
    · rw [if_pos h2, if_pos (by omega)]
    · rw [if_neg h2, if_neg (by omega)]
theorem upto_all (n : Nat) (F G : Nat → Int) : tab n (upto n F G) = tab n F := tab_congr fun j hj => upto_lt F G hj
theorem upto_none (n : Nat) (F G : Nat → Int) : tab n (upto 0 F G) = tab n G := tab_congr fun j _ => upto_zero F G j

/-- The wave on the way: k numbers are done, the next one is built up to index p. -/
def wvW (F : Nat → Int) (r n k p j : Nat) : Int := if j < k then wvE F r n j % 97 else if j = k then hrn F (pm r k : Nat) n p else 0
theorem wvW_at (F : Nat → Int) (r n k p : Nat) : wvW F r n k p k = hrn F (pm r k : Nat) n p := by unfold wvW; rw [if_neg (by omega), if_pos rfl]
theorem wvW_start (F : Nat → Int) (r n j : Nat) : wvW F r n 0 n j = 0 := by
  unfold wvW
  rw [if_neg (by omega)]
  split
  · exact hrn_end _ _ _
  · rfl
theorem wvW_next (F : Nat → Int) (r n k : Nat) : wvW F r n k 0 = wvW F r n (k + 1) n := by
  funext j
  unfold wvW
  by_cases h : j < k
  · rw [if_pos h, if_pos (by omega)]
  · rw [if_neg h]
    by_cases e : j = k
    · subst e; rw [if_pos rfl, if_pos (by omega), hrn_all]
    · rw [if_neg e, if_neg (by omega)]
      split
      · exact (hrn_end _ _ _).symm
      · rfl
theorem wvW_set (F : Nat → Int) (r n k p q : Nat) : (tab n (wvW F r n k p)).set k (hrn F (pm r k : Nat) n q) = tab n (wvW F r n k q) := by
  rw [tab_set]
  refine tab_congr fun j _ => ?_
  unfold wvW
  by_cases h : j = k
  · subst h; rw [if_pos rfl, if_neg (by omega), if_pos rfl]
  · rw [if_neg h]
    simp only [if_neg h]
theorem wvW_all (F : Nat → Int) (r n : Nat) : tab n (wvW F r n n n) = tab n fun j => wvE F r n j % 97 := tab_congr fun j hj => by unfold wvW; rw [if_pos hj]

end Go.Proofs.Ytlglokbakmbpdaa

namespace Go.Proofs.Ytlglokbakmbpdaa
open Go.RowKit
set_option linter.unusedVariables false

/-- The sum of the products whose indices add up to j. -/
def mulE (F G : Nat → Int) (n m j : Nat) : Int := sumN (fun x => sumN (fun y => if x + y = j then F x * G y else 0) m) n
/-- As far as row x and column y. -/
def mulP (F G : Nat → Int) (m x y j : Nat) : Int := sumN (fun x => sumN (fun y => if x + y = j then F x * G y else 0) m) x + sumN (fun y => if x + y = j then F x * G y else 0) y
theorem mulP_zero (F G : Nat → Int) (m j : Nat) : mulP F G m 0 0 j = 0 := rfl
theorem mulP_next (F G : Nat → Int) (m x j : Nat) : mulP F G m x m j = mulP F G m (x + 1) 0 j := by simp [mulP, sumN]
theorem mulP_all (F G : Nat → Int) (n m j : Nat) : mulP F G m n 0 j = mulE F G n m j := by simp [mulP, mulE, sumN]
theorem mulP_step (F G : Nat → Int) (m x y j : Nat) : mulP F G m x (y + 1) j = mulP F G m x y j + if x + y = j then F x * G y else 0 := by
  unfold mulP
  rw [show sumN (fun y => if x + y = j then F x * G y else 0) (y + 1) = sumN (fun y => if x + y = j then F x * G y else 0) y + (if x + y = j then F x * G y else 0) from rfl]
  omega
theorem mul_comm2 (F G : Nat → Int) (n m j : Nat) : mulE F G n m j = mulE G F m n j := by
  unfold mulE
  rw [sumN_swap]
  refine sumN_congr fun y _ => sumN_congr fun x _ => ?_
  rw [Nat.add_comm, Int.mul_comm]
theorem mul_congr {F F' G G' : Nat → Int} {n m : Nat} (hF : ∀ i, i < n → F i = F' i) (hG : ∀ i, i < m → G i = G' i) (j : Nat) : mulE F G n m j = mulE F' G' n m j :=
  sumN_congr fun x hx => sumN_congr fun y hy => by rw [hF x hx, hG y hy]
theorem mul_total (F G : Nat → Int) {n m N : Nat} (hN : n + m ≤ N + 1) : sumN (mulE F G n m) N = sumN F n * sumN G m := by
  unfold mulE
  rw [sumN_swap, ← sumN_mulR]
  refine sumN_congr fun x hx => ?_
  rw [sumN_swap, ← sumN_mulL]
  refine sumN_congr fun y hy => ?_
  rw [sumN_congr (g := fun j => if j = x + y then F x * G y else 0) (fun j _ => by
    by_cases e : x + y = j
    · rw [if_pos e, if_pos e.symm]
    · rw [if_neg e, if_neg (Ne.symm e)])]
  exact sumN_pick (fun _ => F x * G y) (by omega)
theorem sumN_rev (f : Nat → Int) (n : Nat) : sumN (fun i => f (n - 1 - i)) n = sumN f n := by
  induction n with
  | zero => rfl
  | succ n ih =>
    rw [sumN_front, sumN, ← ih, Int.add_comm]
    congr 1
    exact sumN_congr fun i hi => by congr 1; omega
theorem mul_rev (F G : Nat → Int) {n m j : Nat} (hn : 0 < n) (hm : 0 < m) (hj : j ≤ n + m - 2) :
    mulE (fun i => F (n - 1 - i)) (fun i => G (m - 1 - i)) n m j = mulE F G n m (n + m - 2 - j) := by
  unfold mulE
  rw [← sumN_rev (fun x => sumN (fun y => if x + y = n + m - 2 - j then F x * G y else 0) m) n]
  refine sumN_congr fun x hx => ?_
  rw [← sumN_rev (fun y => if n - 1 - x + y = n + m - 2 - j then F (n - 1 - x) * G y else 0) m]
  refine sumN_congr fun y hy => ?_
  by_cases e : x + y = j
  · rw [if_pos e, if_pos (by omega)]
  · rw [if_neg e, if_neg (by omega)]

/-- One step of a division: as often as the leading number says, the other row is taken off. -/
def dvS (G : Nat → Int) (m i : Nat) (R : Nat → Int) (j : Nat) : Int := R j - (if i ≤ j ∧ j < i + m then R (i + m - 1) * G (j - i) else 0)
/-- What is left after the steps c - 1, .., 0. -/
def dvA (G : Nat → Int) (m : Nat) : Nat → (Nat → Int) → Nat → Int
  | 0, R => R
  | c + 1, R => dvA G m c (dvS G m c R)
/-- How often, for each step. -/
def dvQ (G : Nat → Int) (m : Nat) : Nat → (Nat → Int) → Nat → Int
  | 0, _ => fun _ => 0
  | c + 1, R => fun i => if i = c then R (c + m - 1) else dvQ G m c (dvS G m c R) i
theorem dv_main (G : Nat → Int) (m c : Nat) : ∀ (R : Nat → Int) (j : Nat), R j = dvA G m c R j + sumN (fun i => if i ≤ j ∧ j < i + m then dvQ G m c R i * G (j - i) else 0) c := by
  induction c with
  | zero => intro R j; simp [dvA, sumN]
  | succ c ih =>
    intro R j
    have h := ih (dvS G m c R) j
    rw [sumN, show sumN (fun i => if i ≤ j ∧ j < i + m then dvQ G m (c + 1) R i * G (j - i) else 0) c = sumN (fun i => if i ≤ j ∧ j < i + m then dvQ G m c (dvS G m c R) i * G (j - i) else 0) c from
      sumN_congr fun i hi => by rw [show dvQ G m (c + 1) R i = dvQ G m c (dvS G m c R) i from if_neg (by omega)]]
    rw [show dvQ G m (c + 1) R c = R (c + m - 1) from if_pos rfl]
    show R j = dvA G m c (dvS G m c R) j + _
    rw [show dvS G m c R j = R j - (if c ≤ j ∧ j < c + m then R (c + m - 1) * G (j - c) else 0) from rfl] at h
    omega
theorem dv_mul (Q G : Nat → Int) (c m j : Nat) : sumN (fun i => if i ≤ j ∧ j < i + m then Q i * G (j - i) else 0) c = mulE Q G c m j := by
  refine sumN_congr fun i hi => ?_
  by_cases h : i ≤ j ∧ j < i + m
  · rw [if_pos h, sumN_congr (g := fun y => if y = j - i then Q i * G y else 0) (fun y _ => by
      by_cases e : i + y = j
      · rw [if_pos e, if_pos (by omega)]
      · rw [if_neg e, if_neg (by omega)]), sumN_pick (fun y => Q i * G y) (by omega)]
  · rw [if_neg h]
    exact (sumN_zero fun y hy => if_neg (by omega)).symm
/-- Division: the row is the product and what is left. -/
theorem dv_all (G : Nat → Int) (m c : Nat) (R : Nat → Int) (j : Nat) : R j = mulE (dvQ G m c R) G c m j + dvA G m c R j := by
  have := dv_main G m c R j
  rw [dv_mul] at this
  omega
theorem dv_high {G : Nat → Int} {m : Nat} (c : Nat) (hm : 0 < m) : ∀ (R : Nat → Int) (j : Nat), c + m - 1 ≤ j → dvA G m c R j = R j := by
  induction c with
  | zero => intro R j _; rfl
  | succ c ih =>
    intro R j h
    show dvA G m c (dvS G m c R) j = R j
    rw [ih _ j (by omega)]
    unfold dvS
    rw [if_neg (by omega)]; omega
theorem dv_zero {G : Nat → Int} {m : Nat} (c : Nat) (hm : 0 < m) (hG : G (m - 1) = 1) : ∀ (R : Nat → Int) (j : Nat), m - 1 ≤ j → j < c + m - 1 → dvA G m c R j = 0 := by
  induction c with
  | zero => intro R j h1 h2; omega
  | succ c ih =>
    intro R j h1 h2
    show dvA G m c (dvS G m c R) j = 0
    rcases Nat.lt_or_ge j (c + m - 1) with q | q
    · exact ih _ j h1 q
    · rw [dv_high c hm _ j q]
      have e : j = c + m - 1 := by omega
      subst e
      unfold dvS
      rw [if_pos (by omega), show c + m - 1 - c = m - 1 by omega, hG]; omega

/-- The sum of w numbers from i on. -/
theorem box_sum (F : Nat → Int) (i w : Nat) : sumN (fun k => F (i + k)) w = sumN F (i + w) - sumN F i := by
  induction w with
  | zero => simp [sumN]
  | succ w ih => rw [sumN, ih, show i + (w + 1) = (i + w) + 1 by omega, sumN]; omega

/-- How many are less, and how many are not more. -/
def lessN (F : Nat → Int) (n : Nat) (v : Int) : Int := sumN (fun i => if F i < v then 1 else 0) n
def atMost (F : Nat → Int) (n : Nat) (v : Int) : Int := sumN (fun i => if F i ≤ v then 1 else 0) n
def sameN (F : Nat → Int) (n : Nat) (v : Int) : Int := sumN (fun i => if F i = v then 1 else 0) n
def moreN (F : Nat → Int) (n : Nat) (v : Int) : Int := sumN (fun i => if v < F i then 1 else 0) n
theorem less_same (F : Nat → Int) (n : Nat) (v : Int) : lessN F n v + sameN F n v = atMost F n v := by
  unfold lessN sameN atMost
  rw [← sumN_add]
  refine sumN_congr fun i _ => ?_
  rcases Int.lt_trichotomy (F i) v with q | q | q
  · rw [if_pos q, if_neg (by omega), if_pos (by omega)]; rfl
  · rw [if_neg (by omega), if_pos q, if_pos (by omega)]; rfl
  · rw [if_neg (by omega), if_neg (by omega), if_neg (by omega)]; rfl
theorem sumN_const (c : Int) (n : Nat) : sumN (fun _ => c) n = (n : Int) * c := by
  induction n with
  | zero => simp [sumN]
  | succ n ih => rw [sumN, ih, Int.natCast_add, Int.add_mul]; simp
theorem more_rest (F : Nat → Int) (n : Nat) (v : Int) : atMost F n v + moreN F n v = n := by
  unfold atMost moreN
  rw [← sumN_add, sumN_congr (g := fun _ => 1) (fun i _ => by
    by_cases q : F i ≤ v
    · rw [if_pos q, if_neg (by omega)]; rfl
    · rw [if_neg q, if_pos (by omega)]; rfl), sumN_const, Int.mul_one]
/-- The number in the middle. -/
def IsMid (F : Nat → Int) (n : Nat) (v : Int) : Prop := (∃ i, i < n ∧ F i = v) ∧ lessN F n v ≤ (n / 2 : Nat) ∧ ((n / 2 : Nat) : Int) < atMost F n v
theorem argmin (F : Nat → Int) (P : Nat → Prop) : ∀ n : Nat, (∃ i, i < n ∧ P i) → ∃ i, i < n ∧ P i ∧ ∀ k, k < n → P k → F i ≤ F k := by
  intro n
  induction n with
  | zero => rintro ⟨i, h, _⟩; omega
  | succ n ih =>
    rintro ⟨i, hi, hP⟩
    by_cases h : ∃ i, i < n ∧ P i
    · obtain ⟨m, hm, pm, hmin⟩ := ih h
      by_cases q : P n ∧ F n < F m
      · refine ⟨n, by omega, q.1, fun k hk hp => ?_⟩
        rcases Nat.lt_or_ge k n with r | r
        · have := hmin k r hp; have := q.2; omega
        · have e : k = n := by omega
          subst e; exact Int.le_refl _
      · refine ⟨m, by omega, pm, fun k hk hp => ?_⟩
        rcases Nat.lt_or_ge k n with r | r
        · exact hmin k r hp
        · have e : k = n := by omega
          subst e
          exact Int.not_lt.mp fun s => q ⟨hp, s⟩
    · have e : i = n := by
        rcases Nat.lt_or_ge i n with r | r
        · exact absurd ⟨i, r, hP⟩ h
        · omega
      subst e
      refine ⟨i, hi, hP, fun k hk hp => ?_⟩
      rcases Nat.lt_or_ge k i with r | r
      · exact absurd ⟨k, r, hp⟩ h
      · have e : k = i := by omega
        subst e; exact Int.le_refl _
theorem mid_ex (F : Nat → Int) {n : Nat} (hn : 0 < n) : ∃ v, IsMid F n v := by
  obtain ⟨t, ht, _, hmax⟩ := argmin (fun i => -(F i)) (fun _ => True) n ⟨0, hn, trivial⟩
  have htop : atMost F n (F t) = n := by
    unfold atMost
    rw [sumN_congr (g := fun _ => 1) (fun i hi => if_pos (by have := hmax i hi trivial; omega)), sumN_const, Int.mul_one]
  obtain ⟨i, hi, hP, hmin⟩ := argmin F (fun i => ((n / 2 : Nat) : Int) < atMost F n (F i)) n ⟨t, ht, by rw [htop]; omega⟩
  refine ⟨F i, ⟨i, hi, rfl⟩, Int.not_lt.mp fun q => ?_, hP⟩
  have hsome : ∃ k, k < n ∧ F k < F i := by
    apply Classical.byContradiction
    intro r
    have e : lessN F n (F i) = 0 := sumN_zero fun k hk => if_neg fun s => r ⟨k, hk, s⟩
    omega
  obtain ⟨u, hu, hlt, hgr⟩ := argmin (fun k => -(F k)) (fun k => F k < F i) n hsome
  have e : atMost F n (F u) = lessN F n (F i) := sumN_congr fun k hk => by
    by_cases s : F k < F i
    · rw [if_pos s, if_pos (by have := hgr k hk s; omega)]
    · rw [if_neg s, if_neg (by omega)]
  have := hmin u hu (by rw [e]; exact q)
  omega
theorem mid_one {F : Nat → Int} {n : Nat} {v w : Int} (hv : IsMid F n v) (hw : IsMid F n w) : v = w := by
  have key : ∀ v w, IsMid F n v → IsMid F n w → ¬ v < w := by
    intro v w hv hw h
    have e : atMost F n v ≤ lessN F n w := sumN_le fun i _ => by
      by_cases q : F i ≤ v
      · rw [if_pos q, if_pos (by omega)]; exact Int.le_refl _
      · rw [if_neg q]; split <;> decide
    have a := hv.2.2
    have b := hw.2.1
    omega
  have a := key v w hv hw
  have b := key w v hw hv
  omega
theorem mid_half {F : Nat → Int} {n : Nat} {v : Int} (h : IsMid F n v) (ho : n % 2 = 1) : 2 * lessN F n v ≤ n ∧ 2 * moreN F n v ≤ n := by
  have a := more_rest F n v
  have b := h.2.1
  have c := h.2.2
  omega

/-- A row beside itself, d places on. -/
def slf (F : Nat → Int) (n d : Nat) : Int := sumN (fun i => F i * F (i + d)) (n - d)
theorem slf_rev (F : Nat → Int) (n d : Nat) : slf (fun i => F (n - 1 - i)) n d = slf F n d := by
  unfold slf
  rw [← sumN_rev (fun i => F i * F (i + d)) (n - d)]
  refine sumN_congr fun i hi => ?_
  show F (n - 1 - i) * F (n - 1 - (i + d)) = F (n - d - 1 - i) * F (n - d - 1 - i + d)
  rw [show n - d - 1 - i + d = n - 1 - i by omega, show n - 1 - (i + d) = n - d - 1 - i by omega, Int.mul_comm]
theorem slf_neg (F : Nat → Int) (n d : Nat) : slf (fun i => -(F i)) n d = slf F n d := sumN_congr fun i _ => Int.neg_mul_neg _ _
theorem slf_congr {F G : Nat → Int} {n : Nat} (h : ∀ i, i < n → F i = G i) (d : Nat) : slf F n d = slf G n d := sumN_congr fun i hi => by rw [h i (by omega), h (i + d) (by omega)]
theorem slf_zero (F : Nat → Int) (n : Nat) : slf F n 0 = sq F n := rfl
theorem two_mul_le (a b : Int) : 2 * (a * b) ≤ a * a + b * b ∧ -(a * a + b * b) ≤ 2 * (a * b) := by
  have sqn : ∀ x : Int, 0 ≤ x * x := fun x => by
    rcases Int.le_total 0 x with q | q
    · exact Int.mul_nonneg q q
    · exact Int.mul_nonneg_of_nonpos_of_nonpos q q
  have h1 := sqn (a - b)
  have h2 := sqn (a + b)
  have c := Int.mul_comm b a
  rw [Int.sub_mul, Int.mul_sub, Int.mul_sub] at h1
  rw [Int.add_mul, Int.mul_add, Int.mul_add] at h2
  omega
theorem sq_nonneg (F : Nat → Int) (n : Nat) : 0 ≤ sq F n := by
  have := sumN_le (f := fun _ => 0) (g := fun i => F i * F i) (n := n) (fun i _ => by have := two_mul_le (F i) (F i); omega)
  rw [sumN_zero (fun _ _ => rfl)] at this
  exact this
theorem sq_more (F : Nat → Int) {n m : Nat} (h : n ≤ m) : sq F n ≤ sq F m := by
  obtain ⟨d, rfl⟩ : ∃ d, m = n + d := ⟨m - n, by omega⟩
  have e : sumN (fun k => F (n + k) * F (n + k)) d = sq F (n + d) - sq F n := box_sum (fun i => F i * F i) n d
  have h0 : 0 ≤ sumN (fun k => F (n + k) * F (n + k)) d := sq_nonneg (fun k => F (n + k)) d
  omega
theorem sq_shift (F : Nat → Int) (d n : Nat) : sq (fun i => F (i + d)) n ≤ sq F (n + d) := by
  have e1 : sumN (fun k => F (d + k) * F (d + k)) n = sq F (d + n) - sq F d := box_sum (fun i => F i * F i) d n
  have h0 := sq_nonneg F d
  have e : sq (fun i => F (i + d)) n = sumN (fun k => F (d + k) * F (d + k)) n := sumN_congr fun i _ => by show F (i + d) * F (i + d) = _; rw [Nat.add_comm i d]
  rw [e, e1, Nat.add_comm n d]
  omega
/-- No row is more like itself elsewhere. -/
theorem slf_le (F : Nat → Int) {n d : Nat} (hd : d ≤ n) : slf F n d ≤ slf F n 0 ∧ -(slf F n 0) ≤ slf F n d := by
  have a := sq_more F (n := n - d) (m := n) (by omega)
  have b := sq_shift F d (n - d)
  rw [Nat.sub_add_cancel hd] at b
  have c := sumN_le (f := fun i => 2 * (F i * F (i + d))) (g := fun i => F i * F i + F (i + d) * F (i + d)) (n := n - d) (fun i _ => (two_mul_le _ _).1)
  have e := sumN_le (f := fun i => -(1 : Int) * (F i * F i + F (i + d) * F (i + d))) (g := fun i => 2 * (F i * F (i + d))) (n := n - d) (fun i _ => by have := (two_mul_le (F i) (F (i + d))).2; omega)
  rw [sumN_mulL, sumN_add] at c e
  rw [sumN_mulL] at e
  have a' : sumN (fun i => F i * F i) (n - d) ≤ sq F n := a
  have b' : sumN (fun i => F (i + d) * F (i + d)) (n - d) ≤ sq F n := b
  have s : slf F n d = sumN (fun i => F i * F (i + d)) (n - d) := rfl
  rw [slf_zero]
  omega
theorem slf_next (F : Nat → Int) {n d : Nat} (hd : d ≤ n) : slf F (n + 1) d = slf F n d + F (n - d) * F n := by
  unfold slf
  rw [show n + 1 - d = (n - d) + 1 by omega, sumN, Nat.sub_add_cancel hd]
/-- All of them, but the first one twice, are the sum by itself. -/
theorem slf_total (F : Nat → Int) (n : Nat) : 2 * sumN (slf F n) n - slf F n 0 = sumN F n * sumN F n := by
  induction n with
  | zero => rfl
  | succ n ih =>
    have e1 : sumN (slf F (n + 1)) (n + 1) = sumN (slf F n) n + sumN F (n + 1) * F n := by
      rw [sumN_congr (g := fun d => slf F n d + F (n - d) * F n) (fun d hd => slf_next F (by omega)), sumN_add, sumN_mulR]
      have e2 : sumN (fun d => F (n - d)) (n + 1) = sumN F (n + 1) := by
        rw [← sumN_rev F (n + 1)]
        exact sumN_congr fun i _ => by rw [show n + 1 - 1 - i = n - i by omega]
      rw [e2, sumN]
      have e3 : slf F n n = 0 := by unfold slf; rw [Nat.sub_self]; rfl
      rw [e3, Int.add_zero]
    rw [e1, slf_next F (Nat.zero_le n), Nat.sub_zero]
    have hs : (sumN F n + F n) * (sumN F n + F n) = sumN F n * sumN F n + sumN F n * F n + (sumN F n * F n + F n * F n) := by
      rw [Int.add_mul, Int.mul_add, Int.mul_add, Int.mul_comm (F n) (sumN F n)]
    rw [sumN, hs, ← ih, Int.add_mul]
    omega
/-- A row and another one behind it, and behind it with the other signs. -/
theorem slf_pair (A B X Y : Nat → Int) {n d : Nat} (hX : ∀ i, i < n → X i = A i ∧ Y i = A i) (hY : ∀ i, i < n → X (n + i) = B i ∧ Y (n + i) = -(B i)) (h : ∀ d, 0 < d → d < n → slf A n d + slf B n d = 0) (h0 : 0 < d) (hd : d < 2 * n) :
    slf X (2 * n) d + slf Y (2 * n) d = 0 := by
  unfold slf
  rw [← sumN_add]
  have low : ∀ i, i + d < n → X i * X (i + d) + Y i * Y (i + d) = 2 * (A i * A (i + d)) := fun i hi => by
    rw [(hX i (by omega)).1, (hX i (by omega)).2, (hX (i + d) hi).1, (hX (i + d) hi).2]; omega
  have mid : ∀ i, i < n → n ≤ i + d → i + d < 2 * n → X i * X (i + d) + Y i * Y (i + d) = 0 := fun i hi h1 h2 => by
    obtain ⟨k, hk⟩ : ∃ k, i + d = n + k := ⟨i + d - n, by omega⟩
    rw [hk, (hX i hi).1, (hX i hi).2, (hY k (by omega)).1, (hY k (by omega)).2, Int.mul_neg]; omega
  have high : ∀ k, k + d < n → X (n + k) * X (n + k + d) + Y (n + k) * Y (n + k + d) = 2 * (B k * B (k + d)) := fun k hk => by
    rw [show n + k + d = n + (k + d) by omega, (hY k (by omega)).1, (hY k (by omega)).2, (hY (k + d) hk).1, (hY (k + d) hk).2, Int.neg_mul_neg]; omega
  rcases Nat.lt_or_ge d n with q | q
  · have s1 := box_sum (fun i => X i * X (i + d) + Y i * Y (i + d)) (n - d) d
    have s2 := box_sum (fun i => X i * X (i + d) + Y i * Y (i + d)) n (n - d)
    rw [sumN_zero (fun i hi => mid (n - d + i) (by omega) (by omega) (by omega)), Nat.sub_add_cancel (by omega)] at s1
    rw [sumN_congr (g := fun k => 2 * (B k * B (k + d))) (fun k hk => high k (by omega)), sumN_mulL, show n + (n - d) = 2 * n - d by omega] at s2
    have s3 : sumN (fun i => X i * X (i + d) + Y i * Y (i + d)) (n - d) = 2 * slf A n d := by
      rw [sumN_congr (g := fun i => 2 * (A i * A (i + d))) (fun i hi => low i (by omega)), sumN_mulL]; rfl
    have s4 : sumN (fun k => B k * B (k + d)) (n - d) = slf B n d := rfl
    have := h d h0 q
    omega
  · exact sumN_zero fun i hi => mid i (by omega) (by omega) (by omega)
/-- The energy of signs. -/
theorem sq_signs {F : Nat → Int} {n : Nat} (h : ∀ i, i < n → F i = 1 ∨ F i = -1) : sq F n = n := by
  unfold sq
  rw [sumN_congr (g := fun _ => 1) (fun i hi => by rcases h i hi with q | q <;> rw [q] <;> rfl), sumN_const, Int.mul_one]

end Go.Proofs.Ytlglokbakmbpdaa
