/-
  Waves by the prime 97: powers of a root, sums that vanish, waves taken back, products round a row, and how narrow rows spread. Nothing of a program is named here.
-/
import Derived.Test.YtlglokbakmbpdabSgM
namespace Go.Proofs.Ytlglokbakmbpdab
open Go.RowKit
set_option linter.unusedVariables false

/-- The power, not reduced. -/
def pw (w : Int) : Nat → Int
  | 0 => 1
  | n + 1 => pw w n * w
theorem pw_add (w : Int) (m n : Nat) : pw w (m + n) = pw w m * pw w n := by
  induction n with
  | zero => simp [pw]
  | succ n ih => show pw w (m + n) * w = pw w m * (pw w n * w); rw [ih, Int.mul_assoc]
theorem pw_base (a b : Int) (n : Nat) : pw (a * b) n = pw a n * pw b n := by
  induction n with
  | zero => rfl
  | succ n ih => show pw (a * b) n * (a * b) = pw a n * a * (pw b n * b); rw [ih]; simp only [Int.mul_assoc, Int.mul_left_comm, Int.mul_comm]
theorem pw_pw (w : Int) (i k : Nat) : pw (pw w i) k = pw w (i * k) := by
  induction k with
  | zero => rfl
  | succ k ih => show pw (pw w i) k * pw w i = _; rw [ih, ← pw_add]; rfl
theorem pw_one (n : Nat) : pw 1 n = 1 := by
  induction n with
  | zero => rfl
  | succ n ih => show pw 1 n * 1 = 1; rw [ih]; rfl
theorem c_mul (a b : Int) : (a % 97 * (b % 97)) % 97 = (a * b) % 97 := (Int.mul_emod a b 97).symm
theorem c_mulL (a b : Int) : (a % 97 * b) % 97 = (a * b) % 97 := by rw [Int.mul_emod, Int.emod_emod_of_dvd a (Int.dvd_refl 97), ← Int.mul_emod]
theorem c_mulR (a b : Int) : (a * (b % 97)) % 97 = (a * b) % 97 := by rw [Int.mul_emod, Int.emod_emod_of_dvd b (Int.dvd_refl 97), ← Int.mul_emod]
theorem c_mulC {a a' b b' : Int} (h : a % 97 = a' % 97) (k : b % 97 = b' % 97) : (a * b) % 97 = (a' * b') % 97 := by rw [Int.mul_emod, h, k, ← Int.mul_emod]
theorem c_pw {a b : Int} (h : a % 97 = b % 97) (n : Nat) : pw a n % 97 = pw b n % 97 := by
  induction n with
  | zero => rfl
  | succ n ih => exact c_mulC ih h
theorem c_sum {f g : Nat → Int} {n : Nat} (h : ∀ i, i < n → f i % 97 = g i % 97) : sumN f n % 97 = sumN g n % 97 := by
  induction n with
  | zero => rfl
  | succ n ih =>
    have a := ih fun i hi => h i (by omega)
    have b := h n (by omega)
    rw [sumN, sumN]; omega
theorem prime97N : ∀ a, a < 97 → ∀ b, b < 97 → a * b % 97 = 0 → a = 0 ∨ b = 0 := by decide +kernel
theorem prime97 {a b : Int} (h : (a * b) % 97 = 0) : a % 97 = 0 ∨ b % 97 = 0 := by
  rw [Int.mul_emod] at h
  obtain ⟨x, hx⟩ : ∃ x : Nat, a % 97 = (x : Int) := ⟨(a % 97).toNat, by omega⟩
  obtain ⟨y, hy⟩ : ∃ y : Nat, b % 97 = (y : Int) := ⟨(b % 97).toNat, by omega⟩
  rw [hx, hy] at h ⊢
  have e : ((x * y % 97 : Nat) : Int) = 0 := by rw [Int.natCast_emod, Int.natCast_mul]; exact h
  rcases prime97N x (by omega) y (by omega) (by omega) with r | r
  · left; omega
  · right; omega
theorem c_cancel {a b c : Int} (hc : c % 97 ≠ 0) (h : (c * a) % 97 = (c * b) % 97) : a % 97 = b % 97 := by
  have e : (c * (a - b)) % 97 = 0 := by rw [Int.mul_sub]; omega
  rcases prime97 e with r | r
  · exact absurd r hc
  · omega

/-- w is a root of order n. -/
def IsRt (w : Int) (n : Nat) : Prop := 0 < n ∧ pw w n % 97 = 1 ∧ ∀ d, 0 < d → d < n → pw w d % 97 ≠ 1
theorem IsRt.unit {w : Int} {n : Nat} (h : IsRt w n) (k : Nat) : pw w k % 97 ≠ 0 := by
  intro e
  have h1 : pw w n % 97 = 1 := h.2.1
  have e2 : pw w (k * n) % 97 = 1 := by
    rw [Nat.mul_comm, ← pw_pw, c_pw (b := 1) (by rw [h1]; rfl), pw_one]; rfl
  have : pw w (k * n) % 97 = 0 := by
    obtain ⟨m, hm⟩ : ∃ m, n = m + 1 := ⟨n - 1, by have := h.1; omega⟩
    rw [hm, Nat.mul_succ, Nat.add_comm, pw_add, c_mulC (a' := 0) (b' := pw w (k * m)) (by rw [e]; rfl) rfl, Int.zero_mul]; rfl
  omega
theorem IsRt.mod {w : Int} {n : Nat} (h : IsRt w n) (m : Nat) : pw w (m % n) % 97 = pw w m % 97 := by
  have e : pw w m = pw w (n * (m / n)) * pw w (m % n) := by rw [← pw_add, Nat.div_add_mod]
  rw [e, ← pw_pw, c_mulC (a' := 1) (b' := pw w (m % n)) (by rw [c_pw (b := 1) (by rw [h.2.1]; rfl), pw_one]) rfl, Int.one_mul]
theorem geo (r : Int) (n : Nat) : (r - 1) * sumN (fun k => pw r k) n = pw r n - 1 := by
  induction n with
  | zero => simp [sumN, pw]
  | succ n ih =>
    rw [sumN, Int.mul_add, ih, Int.sub_mul, Int.one_mul]
    show _ = pw r n * r - 1
    rw [Int.mul_comm r (pw r n)]; omega
theorem geo_zero {r : Int} {n : Nat} (h1 : pw r n % 97 = 1) (h2 : r % 97 ≠ 1) : sumN (fun k => pw r k) n % 97 = 0 := by
  have e := geo r n
  have : ((r - 1) * sumN (fun k => pw r k) n) % 97 = 0 := by rw [e]; omega
  rcases prime97 this with q | q
  · omega
  · exact q
theorem geo_one {r : Int} {n : Nat} (h : r % 97 = 1) : sumN (fun k => pw r k) n % 97 = (n : Int) % 97 := by
  rw [c_sum (g := fun _ => 1) (fun i hi => by rw [c_pw (b := 1) (by rw [h]; rfl), pw_one])]
  congr 1
  induction n with
  | zero => rfl
  | succ n ih => rw [sumN, ih]; simp
/-- Sums of powers vanish but for equal indices. -/
theorem orth {w v : Int} {n : Nat} (hw : IsRt w n) (hv : (w * v) % 97 = 1) {i j : Nat} (hi : i < n) (hj : j < n) :
    sumN (fun k => pw w (i * k) * pw v (j * k)) n % 97 = if i = j then (n : Int) % 97 else 0 := by
  have hvn : pw v n % 97 = 1 := by
    have e : pw (w * v) n % 97 = 1 := by rw [c_pw (b := 1) (by rw [hv]; rfl), pw_one]; rfl
    rw [pw_base, c_mulC (a' := 1) (b' := pw v n) (by rw [hw.2.1]; rfl) rfl, Int.one_mul] at e
    exact e
  have e : sumN (fun k => pw w (i * k) * pw v (j * k)) n = sumN (fun k => pw (pw w i * pw v j) k) n := sumN_congr fun k _ => by rw [pw_base, pw_pw, pw_pw]
  have hone : ∀ m : Nat, (pw w m * pw v m) % 97 = 1 := fun m => by rw [← pw_base, c_pw (b := 1) (by rw [hv]; rfl), pw_one]; rfl
  rw [e]
  by_cases h : i = j
  · subst h
    rw [if_pos rfl]
    exact geo_one (hone i)
  · rw [if_neg h]
    refine geo_zero ?_ ?_
    · rw [pw_base, pw_pw, pw_pw, Nat.mul_comm i n, Nat.mul_comm j n, ← pw_pw, ← pw_pw, c_mulC (a' := 1) (b' := 1) (by rw [c_pw (b := 1) (by rw [hw.2.1]; rfl), pw_one]) (by rw [c_pw (b := 1) (by rw [hvn]; rfl), pw_one])]; rfl
    · intro hr
      rcases Nat.lt_or_gt_of_ne h with hlt | hgt
      · obtain ⟨d, rfl⟩ : ∃ d, j = i + d := ⟨j - i, by omega⟩
        have e1 : (pw w i * pw v (i + d)) % 97 = pw v d % 97 := by
          rw [pw_add, ← Int.mul_assoc, c_mulC (a' := 1) (b' := pw v d) (by rw [hone]; rfl) rfl, Int.one_mul]
        have e2 : pw w d % 97 = 1 := by
          have := hone d
          rw [c_mulC (a' := pw w d) (b' := 1) rfl (by rw [← e1, hr]; rfl), Int.mul_one] at this
          exact this
        exact hw.2.2 d (by omega) (by omega) e2
      · obtain ⟨d, rfl⟩ : ∃ d, i = j + d := ⟨i - j, by omega⟩
        have e1 : (pw w (j + d) * pw v j) % 97 = pw w d % 97 := by
          rw [Nat.add_comm, pw_add, Int.mul_assoc, c_mulC (a' := pw w d) (b' := 1) rfl (by rw [hone]; rfl), Int.mul_one]
        exact hw.2.2 d (by omega) (by omega) (by rw [← e1]; exact hr)

/-- The sum of the rests, each one times a power: not reduced. -/
def wvE (F : Nat → Int) (w : Int) (n k : Nat) : Int := sumN (fun i => F i * pw w (i * k)) n
theorem wv_congr {F G : Nat → Int} {w : Int} {n : Nat} (h : ∀ i, i < n → F i % 97 = G i % 97) (k : Nat) : wvE F w n k % 97 = wvE G w n k % 97 := c_sum fun i hi => c_mulC (h i hi) rfl
theorem wv_first (F : Nat → Int) (w : Int) (n : Nat) : wvE F w n 0 = sumN F n := sumN_congr fun i _ => by rw [Nat.mul_zero]; simp [pw]
/-- Waves are taken back. -/
theorem wv_back (F : Nat → Int) {w v : Int} {n : Nat} (hw : IsRt w n) (hv : (w * v) % 97 = 1) {j : Nat} (hj : j < n) : wvE (wvE F w n) v n j % 97 = (F j * n) % 97 := by
  have e : wvE (wvE F w n) v n j = sumN (fun i => F i * sumN (fun k => pw w (i * k) * pw v (j * k)) n) n := by
    unfold wvE
    have e1 : sumN (fun k => sumN (fun i => F i * pw w (i * k)) n * pw v (k * j)) n = sumN (fun k => sumN (fun i => F i * (pw w (i * k) * pw v (j * k))) n) n :=
      sumN_congr fun k _ => by
        rw [← sumN_mulR]
        exact sumN_congr fun i _ => by rw [Int.mul_assoc, Nat.mul_comm k j]
    rw [e1, sumN_swap]
    exact sumN_congr fun i _ => sumN_mulL _ _ _
  rw [e, c_sum (g := fun i => if i = j then F i * n else 0) (fun i hi => by
    rw [c_mulC (a' := F i) (b' := if i = j then (n : Int) else 0) rfl (by rw [orth hw hv hi hj]; split <;> simp)]
    split <;> simp), sumN_pick _ hj]
/-- Products round a row are products of waves. -/
theorem wv_ring (F G : Nat → Int) {w : Int} {n : Nat} (hw : IsRt w n) (k : Nat) : wvE (mixE (fun x y => (x + y) % n) F G n) w n k % 97 = (wvE F w n k * wvE G w n k) % 97 := by
  have hn := hw.1
  have e : wvE (mixE (fun x y => (x + y) % n) F G n) w n k = sumN (fun j => pw w (j * k) * mixE (fun x y => (x + y) % n) F G n j) n := sumN_congr fun j _ => Int.mul_comm _ _
  rw [e, mix_any (fun j => pw w (j * k)) (fun x y => (x + y) % n) F G (fun x hx y hy => Nat.mod_lt _ hn)]
  unfold wvE
  rw [← sumN_prod]
  refine c_sum fun x hx => c_sum fun y hy => ?_
  show (pw w ((x + y) % n * k) * (F x * G y)) % 97 = (F x * pw w (x * k) * (G y * pw w (y * k))) % 97
  have e1 : pw w ((x + y) % n * k) % 97 = (pw w (x * k) * pw w (y * k)) % 97 := by
    rw [← pw_add, ← Nat.add_mul, ← pw_pw, ← pw_pw]
    exact c_pw (hw.mod (x + y)) k
  rw [c_mulC (a' := pw w (x * k) * pw w (y * k)) (b' := F x * G y) e1 rfl]
  congr 1
  simp only [Int.mul_assoc, Int.mul_left_comm, Int.mul_comm]

theorem sumN_sub (f g : Nat → Int) (n : Nat) : sumN (fun i => f i - g i) n = sumN f n - sumN g n := by
  induction n with
  | zero => rfl
  | succ n ih => simp only [sumN, ih]; omega
theorem sumN_le {f g : Nat → Int} {n : Nat} (h : ∀ i, i < n → f i ≤ g i) : sumN f n ≤ sumN g n := by
  induction n with
  | zero => exact Int.le_refl _
  | succ n ih => have a := ih fun i hi => h i (by omega); have b := h n (by omega); rw [sumN, sumN]; omega
/-- 1 for a number that is no multiple. -/
def nz (x : Int) : Int := if x % 97 = 0 then 0 else 1
theorem nz_01 (x : Int) : nz x = 0 ∧ x % 97 = 0 ∨ nz x = 1 ∧ x % 97 ≠ 0 := by unfold nz; split <;> simp [*]
theorem pw_unit {r : Int} (h : r % 97 ≠ 0) (m : Nat) : pw r m % 97 ≠ 0 := by
  induction m with
  | zero => simp [pw]
  | succ m ih =>
    intro q
    rcases prime97 (a := pw r m) (b := r) q with q | q
    · exact ih q
    · exact h q
/-- What is narrow is spread widely: a sum of powers with at most s numbers other than 0 that vanishes at s indices side by side has noughts alone. -/
theorem wide_zero (n : Nat) (r : Nat → Int) (K : Nat) (hr : ∀ a, a < n → ∀ b, b < n → a ≠ b → (r a - r b) % 97 ≠ 0) (h0 : ∀ a, a < n → r a % 97 ≠ 0) (s : Nat) :
    ∀ c : Nat → Int, sumN (fun i => nz (c i)) n ≤ s → (∀ d, d < s → sumN (fun a => c a * pw (r a) (K + d)) n % 97 = 0) → ∀ a, a < n → c a % 97 = 0 := by
  induction s with
  | zero =>
    intro c hc _ a ha
    rcases nz_01 (c a) with q | q
    · exact q.2
    · exfalso
      have e := sumN_le (f := fun i => if i = a then 1 else 0) (g := fun i => nz (c i)) (n := n) (fun i hi => by
        by_cases e : i = a
        · subst e; simp [q.1]
        · rw [if_neg e]; rcases nz_01 (c i) with p | p <;> omega)
      rw [sumN_pick (fun _ => 1) ha] at e
      omega
  | succ s ih =>
    intro c hc hs a ha
    rcases nz_01 (c a) with q | q
    · exact q.2
    exfalso
    have hcnt : sumN (fun i => nz (c i * (r i - r a))) n ≤ s := by
      have e := sumN_le (f := fun i => nz (c i * (r i - r a)) + (if i = a then 1 else 0)) (g := fun i => nz (c i)) (n := n) (fun i hi => by
        by_cases e : i = a
        · subst e
          rw [if_pos rfl, q.1, Int.sub_self, Int.mul_zero]; decide
        · rw [if_neg e]
          rcases nz_01 (c i) with p | p
          · have : nz (c i * (r i - r a)) = 0 := by
              unfold nz; rw [if_pos (by rw [Int.mul_emod, p.2, Int.zero_mul]; rfl)]
            omega
          · rcases nz_01 (c i * (r i - r a)) with p2 | p2 <;> omega)
      rw [sumN_add, sumN_pick (fun _ => 1) ha] at e
      omega
    have step : ∀ d, d < s → sumN (fun i => (c i * (r i - r a)) * pw (r i) (K + d)) n % 97 = 0 := by
      intro d hd
      have e1 := hs (d + 1) (by omega)
      have e2 := hs d (by omega)
      have e : sumN (fun i => (c i * (r i - r a)) * pw (r i) (K + d)) n = sumN (fun i => c i * pw (r i) (K + (d + 1))) n - r a * sumN (fun i => c i * pw (r i) (K + d)) n := by
        rw [← sumN_mulL, ← sumN_sub]
        refine sumN_congr fun i _ => ?_
        show _ = c i * (pw (r i) (K + d) * r i) - _
        rw [Int.mul_sub, Int.sub_mul]
        congr 1
        · simp only [Int.mul_assoc, Int.mul_left_comm, Int.mul_comm]
        · simp only [Int.mul_assoc, Int.mul_comm]
      rw [e]
      have e3 : (r a * sumN (fun i => c i * pw (r i) (K + d)) n) % 97 = 0 := by rw [Int.mul_emod, e2, Int.mul_zero]; rfl
      omega
    have hlow := ih (fun i => c i * (r i - r a)) hcnt step
    have hz : ∀ i, i < n → i ≠ a → c i % 97 = 0 := fun i hi hne => by
      rcases prime97 (hlow i hi) with p | p
      · exact p
      · exact absurd p (hr i hi a ha hne)
    have e0 := hs 0 (by omega)
    rw [c_sum (g := fun i => if i = a then c i * pw (r i) (K + 0) else 0) (fun i hi => by
      by_cases e : i = a
      · rw [if_pos e]
      · rw [if_neg e, Int.mul_emod, hz i hi e, Int.zero_mul]), sumN_pick (fun i => c i * pw (r i) (K + 0)) ha] at e0
    rcases prime97 e0 with p | p
    · exact q.2 p
    · exact pw_unit (h0 a ha) _ p
theorem IsRt.apart {w : Int} {n : Nat} (h : IsRt w n) {a b : Nat} (ha : a < n) (hb : b < n) (hne : a ≠ b) : (pw w a - pw w b) % 97 ≠ 0 := by
  intro e
  have key : ∀ x d : Nat, 0 < d → d < n → pw w (x + d) % 97 = pw w x % 97 → False := fun x d h1 h2 e => by
    have e2 : (pw w x * pw w d) % 97 = (pw w x * 1) % 97 := by rw [← pw_add, Int.mul_one]; exact e
    have := c_cancel (h.unit x) e2
    exact h.2.2 d h1 h2 (by rw [this]; rfl)
  rcases Nat.lt_or_gt_of_ne hne with q | q
  · obtain ⟨d, rfl⟩ : ∃ d, b = a + d := ⟨b - a, by omega⟩
    exact key a d (by omega) (by omega) (by omega)
  · obtain ⟨d, rfl⟩ : ∃ d, a = b + d := ⟨a - b, by omega⟩
    exact key b d (by omega) (by omega) (by omega)
theorem wv_mod (F : Nat → Int) {w : Int} {n : Nat} (hw : IsRt w n) (k : Nat) : wvE F w n (k % n) % 97 = wvE F w n k % 97 := by
  refine c_sum fun i hi => c_mulC rfl ?_
  rw [Nat.mul_comm i, Nat.mul_comm i, ← pw_pw, ← pw_pw]
  exact c_pw (hw.mod k) i
theorem sumN_cyc1 (f : Nat → Int) (n : Nat) : sumN (fun k => f ((k + 1) % n)) n = sumN f n := by
  cases n with
  | zero => rfl
  | succ n =>
    rw [sumN, Nat.mod_self]
    have e : sumN (fun k => f ((k + 1) % (n + 1))) n = sumN (fun k => f (k + 1)) n := sumN_congr fun k hk => by rw [Nat.mod_eq_of_lt (by omega)]
    rw [e]
    clear e
    induction n with
    | zero => simp [sumN]
    | succ n ih => show sumN (fun k => f (k + 1)) n + f (n + 1) + f 0 = sumN f (n + 1) + f (n + 1); omega
theorem sumN_cyc (f : Nat → Int) (n d : Nat) : sumN (fun k => f ((k + d) % n)) n = sumN f n := by
  induction d with
  | zero => exact sumN_congr fun k hk => by rw [Nat.add_zero, Nat.mod_eq_of_lt hk]
  | succ d ih =>
    rw [← ih, ← sumN_cyc1 (fun k => f ((k + d) % n)) n]
    refine sumN_congr fun k hk => ?_
    show f ((k + (d + 1)) % n) = f (((k + 1) % n + d) % n)
    rw [Nat.mod_add_mod]; congr 2; omega
/-- The numbers other than 0, and those of the wave, multiplied. -/
theorem spread {F : Nat → Int} {w : Int} {n : Nat} (hw : IsRt w n) (hne : ∃ i, i < n ∧ F i % 97 ≠ 0) :
    (n : Int) ≤ sumN (fun i => nz (F i)) n * sumN (fun k => nz (wvE F w n k)) n := by
  obtain ⟨s, hs⟩ : ∃ s : Nat, sumN (fun i => nz (F i)) n = (s : Int) := by
    have h0 : 0 ≤ sumN (fun i => nz (F i)) n := by
      have := sumN_le (f := fun _ => 0) (g := fun i => nz (F i)) (n := n) (fun i _ => by rcases nz_01 (F i) with q | q <;> omega)
      rw [sumN_zero (fun _ _ => rfl)] at this; exact this
    exact ⟨(sumN (fun i => nz (F i)) n).toNat, by omega⟩
  rw [hs]
  have hone : ∀ k, k < n → 1 ≤ sumN (fun d => nz (wvE F w n ((k + d) % n))) s := by
    intro k hk
    rcases Int.lt_or_le (sumN (fun d => nz (wvE F w n ((k + d) % n))) s) 1 with q | q
    · exfalso
      have hz : ∀ d, d < s → wvE F w n ((k + d) % n) % 97 = 0 := by
        intro d hd
        rcases nz_01 (wvE F w n ((k + d) % n)) with p | p
        · exact p.2
        · exfalso
          have e := sumN_le (f := fun i => if i = d then 1 else 0) (g := fun d => nz (wvE F w n ((k + d) % n))) (n := s) (fun i hi => by
            by_cases e : i = d
            · subst e; simp [p.1]
            · rw [if_neg e]; rcases nz_01 (wvE F w n ((k + i) % n)) with p | p <;> omega)
          rw [sumN_pick (fun _ => 1) hd] at e
          omega
      obtain ⟨i, hi, hF⟩ := hne
      refine hF (wide_zero n (pw w) k (fun a ha b hb h => hw.apart ha hb h) (fun a _ => hw.unit a) s F (by rw [hs]; exact Int.le_refl _) (fun d hd => ?_) i hi)
      have := hz d hd
      rw [wv_mod F hw] at this
      rw [← this]
      unfold wvE
      exact c_sum fun i _ => by rw [pw_pw]
    · exact q
  have e1 := sumN_le (f := fun _ => 1) (g := fun k => sumN (fun d => nz (wvE F w n ((k + d) % n))) s) (n := n) hone
  rw [sumN_swap, sumN_congr (g := fun _ => sumN (fun k => nz (wvE F w n k)) n) (fun d _ => sumN_cyc (fun k => nz (wvE F w n k)) n d)] at e1
  have c1 : ∀ (c : Int) (m : Nat), sumN (fun _ => c) m = (m : Int) * c := fun c m => by
    induction m with
    | zero => simp [sumN]
    | succ m ih => rw [sumN, ih, Int.natCast_add, Int.add_mul]; simp
  rw [c1, c1, Int.mul_one] at e1
  exact e1

end Go.Proofs.Ytlglokbakmbpdab
