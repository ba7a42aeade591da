/-
  Waves by the prime 97 of rows of rests: orders, roots, turns. Nothing of a program is named here.
-/
import Derived.Test.YtlglokbakmbpdabWvM
namespace Go.Proofs.Ytlglokbakmbpdab
open Go.RowKit
set_option linter.unusedVariables false
set_option maxRecDepth 8000

/-- The power, a rest at each step. -/
def pm (x : Nat) : Nat → Nat
  | 0 => 1
  | n + 1 => pm x n * x % 97
theorem pm_lt (x n : Nat) : pm x n < 97 := by cases n with | zero => exact (by decide : 1 < 97) | succ n => exact Nat.mod_lt _ (by decide)
theorem pm_pw (x n : Nat) : ((pm x n : Nat) : Int) = pw (x : Int) n % 97 := by
  induction n with
  | zero => rfl
  | succ n ih => show ((pm x n * x % 97 : Nat) : Int) = _; rw [Int.natCast_emod, Int.natCast_mul, ih]; exact c_mulL _ _
def ordT : List Nat := [0, 1, 48, 48, 24, 96, 12, 96, 16, 24, 96, 48, 16, 96, 96, 96, 12, 96, 16, 32, 32, 96, 4, 96, 24, 48, 96, 16, 32, 96, 32, 48, 48, 8, 32, 3, 6, 96, 96, 96, 96, 96, 32, 24, 48, 32, 32, 8, 48, 48, 8, 32, 32, 48, 24, 32, 96, 96, 96, 96, 96, 3, 6, 32, 8, 48, 48, 32, 96, 32, 16, 96, 48, 24, 96, 4, 96, 32, 32, 16, 96, 12, 96, 96, 96, 16, 48, 96, 24, 16, 96, 12, 96, 24, 48, 48, 2]
def rtT : List Nat := [0, 1, 96, 35, 22, 0, 36, 0, 33, 0, 0, 0, 6, 0, 0, 0, 8, 0, 0, 0, 0, 0, 0, 0, 4, 0, 0, 0, 0, 0, 0, 0, 19, 0, 0, 0, 0, 0, 0, 0, 0, 0, 0, 0, 0, 0, 0, 0, 2, 0, 0, 0, 0, 0, 0, 0, 0, 0, 0, 0, 0, 0, 0, 0, 0, 0, 0, 0, 0, 0, 0, 0, 0, 0, 0, 0, 0, 0, 0, 0, 0, 0, 0, 0, 0, 0, 0, 0, 0, 0, 0, 0, 0, 0, 0, 0, 5]
def ordN (x : Nat) : Nat := ordT.getD x 0
def rtN (n : Nat) : Nat := rtT.getD n 0
def invN (x : Nat) : Nat := pm x 95
theorem ord_facts : ∀ x, x < 97 → 0 < x → 0 < ordN x ∧ ordN x ≤ 96 ∧ 96 % ordN x = 0 ∧ pm x (ordN x) = 1 := by decide +kernel
theorem ord_least : ∀ x, x < 97 → 0 < x → ∀ m, m < ordN x → 0 < m → pm x m ≠ 1 := by decide +kernel
theorem rt_facts : ∀ n, n < 97 → 0 < n → 96 % n = 0 → 0 < rtN n ∧ rtN n < 97 ∧ ordN (rtN n) = n := by decide +kernel
theorem rt_least : ∀ n, n < 97 → 0 < n → 96 % n = 0 → ∀ x, x < rtN n → 0 < x → ordN x ≠ n := by decide +kernel
theorem inv_facts : ∀ x, x < 97 → 0 < x → x * invN x % 97 = 1 ∧ 0 < invN x := by decide +kernel
theorem inv_order : ∀ n, n < 97 → 0 < n → 96 % n = 0 → ordN (invN (rtN n)) = n := by decide +kernel

theorem pm_one_pw {x n : Nat} (h : pm x n = 1) : pw (x : Int) n % 97 = 1 := by have := pm_pw x n; rw [h] at this; omega
theorem ord_isRt {x : Nat} (hx : x < 97) (h0 : 0 < x) : IsRt (x : Int) (ordN x) := by
  obtain ⟨a, _, _, b⟩ := ord_facts x hx h0
  refine ⟨a, pm_one_pw b, fun d hd hn e => ord_least x hx h0 d hn hd ?_⟩
  have := pm_pw x d
  omega
theorem rt_isRt {n : Nat} (hn : n < 97) (h0 : 0 < n) (hd : 96 % n = 0) : IsRt (rtN n : Int) n := by
  obtain ⟨a, b, c⟩ := rt_facts n hn h0 hd
  have := ord_isRt b a
  rw [c] at this; exact this
theorem inv_isRt {n : Nat} (hn : n < 97) (h0 : 0 < n) (hd : 96 % n = 0) : IsRt (invN (rtN n) : Int) n := by
  obtain ⟨a, b, c⟩ := rt_facts n hn h0 hd
  have := ord_isRt (pm_lt _ 95) (inv_facts _ b a).2
  rw [show ordN (pm (rtN n) 95) = n from inv_order n hn h0 hd] at this; exact this
theorem inv_mul {x : Nat} (hx : x < 97) (h0 : 0 < x) : ((x : Int) * (invN x : Int)) % 97 = 1 := by
  have := (inv_facts x hx h0).1
  rw [← Int.natCast_mul]; omega

/-- The numbers are rests. -/
def vsB (xs : List Int) : Bool := decide (∀ j, j < xs.length → 0 ≤ ix xs j ∧ ix xs j ≤ 96) && decide (0 < xs.length) && decide (xs.length ≤ 96) && decide (96 % xs.length = 0)
structure Vs (xs : List Int) : Prop where
  rest : ∀ j, j < xs.length → 0 ≤ ix xs j ∧ ix xs j ≤ 96
  some : 0 < xs.length
  few : xs.length ≤ 96
  div : 96 % xs.length = 0
theorem vsB_iff (xs : List Int) : vsB xs = true ↔ Vs xs := by
  simp only [vsB, Bool.and_eq_true, decide_eq_true_eq]
  exact ⟨fun ⟨⟨⟨a, b⟩, c⟩, d⟩ => ⟨a, b, c, d⟩, fun ⟨a, b, c, d⟩ => ⟨⟨⟨a, b⟩, c⟩, d⟩⟩
theorem Vs.rt {xs : List Int} (h : Vs xs) : IsRt (rtN xs.length : Int) xs.length := rt_isRt (by have := h.few; omega) h.some h.div
theorem Vs.irt {xs : List Int} (h : Vs xs) : IsRt (invN (rtN xs.length) : Int) xs.length := inv_isRt (by have := h.few; omega) h.some h.div
theorem Vs.inv {xs : List Int} (h : Vs xs) : ((rtN xs.length : Int) * (invN (rtN xs.length) : Int)) % 97 = 1 := by
  obtain ⟨a, b, _⟩ := rt_facts xs.length (by have := h.few; omega) h.some h.div
  exact inv_mul b a
theorem Vs.ninv {xs : List Int} (h : Vs xs) : ((xs.length : Int) * (invN xs.length : Int)) % 97 = 1 := inv_mul (by have := h.few; omega) h.some
theorem Vs.low {xs : List Int} (h : Vs xs) {j : Nat} (hj : j < xs.length) : ix xs j % 97 = ix xs j := Int.emod_eq_of_lt (h.rest j hj).1 (by have := (h.rest j hj).2; omega)
theorem vs_tab {n : Nat} (f : Nat → Int) (h0 : 0 < n) (h1 : n ≤ 96) (hd : 96 % n = 0) : Vs (tab n fun j => f j % 97) :=
  ⟨fun j hj => by
    rw [len_tab] at hj
    rw [ix_tab _ _ _ hj]
    omega, by rw [len_tab]; exact h0, by rw [len_tab]; exact h1, by rw [len_tab]; exact hd⟩

/-- The wave by w. -/
def waveL (xs : List Int) (w : Nat) : List Int := tab xs.length fun k => wvE (ix xs) (w : Int) xs.length k % 97
def waveR (xs : List Int) : List Int := waveL xs (rtN xs.length)
def unwaveR (xs : List Int) : List Int := tab xs.length fun j => (ix (waveL xs (invN (rtN xs.length))) j * (invN xs.length : Int)) % 97
@[simp] theorem len_waveL (xs : List Int) (w : Nat) : (waveL xs w).length = xs.length := by simp [waveL]
@[simp] theorem len_waveR (xs : List Int) : (waveR xs).length = xs.length := by simp [waveR]
@[simp] theorem len_unwaveR (xs : List Int) : (unwaveR xs).length = xs.length := by simp [unwaveR]
theorem ix_waveL (xs : List Int) (w : Nat) {k : Nat} (hk : k < xs.length) : ix (waveL xs w) k = wvE (ix xs) (w : Int) xs.length k % 97 := ix_tab _ _ _ hk
theorem ix_waveR (xs : List Int) {k : Nat} (hk : k < xs.length) : ix (waveR xs) k = wvE (ix xs) (rtN xs.length : Int) xs.length k % 97 := ix_tab _ _ _ hk
theorem ix_unwaveR (xs : List Int) {j : Nat} (hj : j < xs.length) : ix (unwaveR xs) j = (wvE (ix xs) (invN (rtN xs.length) : Int) xs.length j * (invN xs.length : Int)) % 97 := by
  unfold unwaveR
  rw [ix_tab _ _ _ hj, ix_waveL _ _ hj, c_mulL]
theorem vs_wave {xs : List Int} (h : Vs xs) : Vs (waveR xs) := vs_tab _ h.some h.few h.div
theorem vs_unwave {xs : List Int} (h : Vs xs) : Vs (unwaveR xs) := vs_tab _ h.some h.few h.div
theorem unwave_wave {xs : List Int} (h : Vs xs) : unwaveR (waveR xs) = xs := by
  refine ext_ix (by simp) fun j hj => ?_
  have hj' : j < xs.length := by simpa using hj
  rw [ix_unwaveR _ (by simpa using hj'), len_waveR]
  have e1 : wvE (ix (waveR xs)) (invN (rtN xs.length) : Int) xs.length j % 97 = (ix xs j * xs.length) % 97 := by
    rw [wv_congr (G := wvE (ix xs) (rtN xs.length : Int) xs.length) (fun i hi => by rw [ix_waveR xs hi, Int.emod_emod_of_dvd _ (Int.dvd_refl 97)])]
    exact wv_back _ h.rt h.inv hj'
  rw [c_mulC (b' := (invN xs.length : Int)) e1 rfl, Int.mul_assoc, c_mulC (a' := ix xs j) (b' := 1) rfl (by rw [h.ninv]; rfl), Int.mul_one]
  exact h.low hj'
theorem wave_unwave {xs : List Int} (h : Vs xs) : waveR (unwaveR xs) = xs := by
  refine ext_ix (by simp) fun j hj => ?_
  have hj' : j < xs.length := by simpa using hj
  rw [ix_waveR _ (by simpa using hj'), len_unwaveR]
  have e0 : wvE (ix (unwaveR xs)) (rtN xs.length : Int) xs.length j % 97 = (wvE (wvE (ix xs) (invN (rtN xs.length) : Int) xs.length) (rtN xs.length : Int) xs.length j * (invN xs.length : Int)) % 97 := by
    rw [wv_congr (G := fun i => wvE (ix xs) (invN (rtN xs.length) : Int) xs.length i * (invN xs.length : Int)) (fun i hi => by rw [ix_unwaveR xs hi, Int.emod_emod_of_dvd _ (Int.dvd_refl 97)])]
    congr 1
    unfold wvE
    rw [← sumN_mulR]
    exact sumN_congr fun i _ => by rw [Int.mul_assoc, Int.mul_comm (invN xs.length : Int), ← Int.mul_assoc]
  have e1 : wvE (wvE (ix xs) (invN (rtN xs.length) : Int) xs.length) (rtN xs.length : Int) xs.length j % 97 = (ix xs j * xs.length) % 97 :=
    wv_back _ h.irt (by rw [Int.mul_comm]; exact h.inv) hj'
  rw [e0, c_mulC (b' := (invN xs.length : Int)) e1 rfl, Int.mul_assoc, c_mulC (a' := ix xs j) (b' := 1) rfl (by rw [h.ninv]; rfl), Int.mul_one]
  exact h.low hj'
theorem wave_first {xs : List Int} (h : Vs xs) : ix (waveR xs) 0 = sumN (ix xs) xs.length % 97 := by rw [ix_waveR xs h.some, wv_first]

/-- Products round the row. -/
def ringL (xs ys : List Int) : List Int := tab xs.length fun j => mixE (fun x y => (x + y) % xs.length) (ix xs) (ix ys) xs.length j % 97
@[simp] theorem len_ringL (xs ys : List Int) : (ringL xs ys).length = xs.length := by simp [ringL]
theorem ix_ringL (xs ys : List Int) {j : Nat} (hj : j < xs.length) : ix (ringL xs ys) j = mixE (fun x y => (x + y) % xs.length) (ix xs) (ix ys) xs.length j % 97 := ix_tab _ _ _ hj
theorem vs_ring {xs : List Int} (h : Vs xs) (ys : List Int) : Vs (ringL xs ys) := vs_tab _ h.some h.few h.div
theorem wave_ring {xs ys : List Int} (h : Vs xs) (e : ys.length = xs.length) {k : Nat} (hk : k < xs.length) : ix (waveR (ringL xs ys)) k = (ix (waveR xs) k * ix (waveR ys) k) % 97 := by
  rw [ix_waveR _ (by simpa using hk), ix_waveR _ hk, ix_waveR _ (by rw [e]; exact hk), len_ringL, e, c_mul]
  rw [wv_congr (G := mixE (fun x y => (x + y) % xs.length) (ix xs) (ix ys) xs.length) (fun i hi => by rw [ix_ringL xs ys hi, Int.emod_emod_of_dvd _ (Int.dvd_refl 97)])]
  exact wv_ring _ _ h.rt k
theorem ring_comm (xs ys : List Int) (e : ys.length = xs.length) : ringL ys xs = ringL xs ys := by
  unfold ringL
  rw [e]
  exact congrArg (tab xs.length) (funext fun j => by rw [mix_comm (fun x y => by rw [Nat.add_comm])])

/-- Each one k places further on. -/
def turnL (k : Nat) (xs : List Int) : List Int := tab xs.length fun j => ix xs ((j + (xs.length - k % xs.length)) % xs.length)
@[simp] theorem len_turnL (k : Nat) (xs : List Int) : (turnL k xs).length = xs.length := by simp [turnL]
theorem ix_turnL (k : Nat) (xs : List Int) {j : Nat} (hj : j < xs.length) : ix (turnL k xs) j = ix xs ((j + (xs.length - k % xs.length)) % xs.length) := ix_tab _ _ _ hj
theorem back_mod {n : Nat} (h : 0 < n) (i k : Nat) : ((i + k) % n + (n - k % n)) % n = i % n := by
  rw [Nat.mod_add_mod]
  have e : i + k + (n - k % n) = i + n * (k / n + 1) := by
    have a := Nat.div_add_mod k n
    have b := Nat.mod_lt k h
    rw [Nat.mul_add, Nat.mul_one]; omega
  rw [e, Nat.add_mul_mod_self_left]
theorem forth_mod {n : Nat} (h : 0 < n) (j k : Nat) : ((j + (n - k % n)) % n + k) % n = j % n := by
  rw [Nat.mod_add_mod]
  have e : j + (n - k % n) + k = j + n * (k / n + 1) := by
    have a := Nat.div_add_mod k n
    have b := Nat.mod_lt k h
    rw [Nat.mul_add, Nat.mul_one]; omega
  rw [e, Nat.add_mul_mod_self_left]
theorem turn_at {xs : List Int} (k : Nat) {i : Nat} (hi : i < xs.length) : ix (turnL k xs) ((i + k) % xs.length) = ix xs i := by
  have hn : 0 < xs.length := by omega
  rw [ix_turnL k xs (Nat.mod_lt _ hn), back_mod hn, Nat.mod_eq_of_lt hi]
theorem vs_turn {xs : List Int} (h : Vs xs) (k : Nat) : Vs (turnL k xs) :=
  ⟨fun j hj => by
    rw [len_turnL] at hj
    rw [ix_turnL k xs hj]
    exact h.rest _ (Nat.mod_lt _ h.some), by rw [len_turnL]; exact h.some, by rw [len_turnL]; exact h.few, by rw [len_turnL]; exact h.div⟩
theorem turn_sum (f : Int → Int) (k : Nat) (xs : List Int) : sumN (fun i => f (ix (turnL k xs) i)) xs.length = sumN (fun i => f (ix xs i)) xs.length := by
  rw [← sumN_cyc (fun i => f (ix xs i)) xs.length (xs.length - k % xs.length)]
  exact sumN_congr fun i hi => by rw [ix_turnL k xs hi]
theorem turn_turn {xs : List Int} (k m : Nat) : turnL m (turnL k xs) = turnL (k + m) xs := by
  refine ext_ix (by simp) fun j hj => ?_
  have hj' : j < xs.length := by simpa using hj
  have hn : 0 < xs.length := by omega
  obtain ⟨i, hi, rfl⟩ : ∃ i, i < xs.length ∧ (i + (k + m)) % xs.length = j := ⟨(j + (xs.length - (k + m) % xs.length)) % xs.length, Nat.mod_lt _ hn, by rw [forth_mod hn, Nat.mod_eq_of_lt hj']⟩
  rw [turn_at (k + m) hi]
  have e : (i + (k + m)) % xs.length = ((i + k) % xs.length + m) % xs.length := by rw [Nat.mod_add_mod]; congr 1; omega
  have e2 := turn_at (xs := turnL k xs) m (i := (i + k) % xs.length) (by rw [len_turnL]; exact Nat.mod_lt _ hn)
  rw [len_turnL] at e2
  rw [e, e2, turn_at k hi]
theorem wave_turn {xs : List Int} (h : Vs xs) (m : Nat) {k : Nat} (hk : k < xs.length) : ix (waveR (turnL m xs)) k = (ix (waveR xs) k * pw (rtN xs.length : Int) (m * k)) % 97 := by
  rw [ix_waveR _ (by simpa using hk), ix_waveR _ hk, len_turnL, c_mulL]
  have hw := h.rt
  have e1 : wvE (ix (turnL m xs)) (rtN xs.length : Int) xs.length k = sumN (fun i => ix xs i * pw (rtN xs.length : Int) ((i + m) % xs.length * k)) xs.length := by
    unfold wvE
    rw [← sumN_cyc (fun i => ix (turnL m xs) i * pw (rtN xs.length : Int) (i * k)) xs.length m]
    exact sumN_congr fun i hi => by rw [turn_at m hi]
  rw [e1]
  unfold wvE
  rw [← sumN_mulR]
  refine c_sum fun i hi => ?_
  rw [Int.mul_assoc, ← pw_add, ← Nat.add_mul]
  refine c_mulC rfl ?_
  rw [← pw_pw, ← pw_pw]
  exact c_pw (hw.mod (i + m)) k

/-- How many are other than 0. -/
def someN (xs : List Int) : Int := sumN (fun i => nz (ix xs i)) xs.length
theorem nz_congr {a b : Int} (h : a % 97 = b % 97) : nz a = nz b := by unfold nz; rw [h]
theorem nz_mod (a : Int) : nz (a % 97) = nz a := nz_congr (Int.emod_emod_of_dvd a (Int.dvd_refl 97))
theorem nz_unit {a r : Int} (h : r % 97 ≠ 0) : nz (a * r) = nz a := by
  unfold nz
  by_cases e : a % 97 = 0
  · rw [if_pos e, if_pos (by rw [Int.mul_emod, e, Int.zero_mul]; rfl)]
  · rw [if_neg e, if_neg (fun q => by rcases prime97 q with p | p; exact e p; exact h p)]
theorem some_turn (k : Nat) (xs : List Int) : someN (turnL k xs) = someN xs := by unfold someN; rw [len_turnL]; exact turn_sum nz k xs
theorem some_wave_turn {xs : List Int} (h : Vs xs) (m : Nat) : someN (waveR (turnL m xs)) = someN (waveR xs) := by
  unfold someN
  rw [len_waveR, len_waveR, len_turnL]
  refine sumN_congr fun k hk => ?_
  rw [wave_turn h m hk, nz_mod, nz_unit (h.rt.unit (m * k))]
theorem some_pos {xs : List Int} (h : someN xs ≠ 0) : ∃ i, i < xs.length ∧ ix xs i % 97 ≠ 0 := by
  apply Classical.byContradiction
  intro q
  apply h
  refine sumN_zero fun i hi => ?_
  rcases nz_01 (ix xs i) with p | p
  · exact p.1
  · exact absurd ⟨i, hi, p.2⟩ q
theorem spread_list {xs : List Int} (h : Vs xs) (hs : someN xs ≠ 0) : (xs.length : Int) ≤ someN xs * someN (waveR xs) := by
  have e := spread h.rt (some_pos hs)
  have e2 : someN (waveR xs) = sumN (fun k => nz (wvE (ix xs) (rtN xs.length : Int) xs.length k)) xs.length := by
    unfold someN
    rw [len_waveR]
    exact sumN_congr fun k hk => by rw [ix_waveR xs hk, nz_mod]
  rw [e2]; exact e
theorem some_range (xs : List Int) : 0 ≤ someN xs ∧ someN xs ≤ xs.length := by
  have a := sumN_le (f := fun _ => 0) (g := fun i => nz (ix xs i)) (n := xs.length) (fun i _ => by rcases nz_01 (ix xs i) with q | q <;> omega)
  have b := sumN_bound (f := fun i => nz (ix xs i)) (n := xs.length) (c := 1) (by decide) (fun i _ => by rcases nz_01 (ix xs i) with q | q <;> omega)
  rw [sumN_zero (fun _ _ => rfl)] at a
  unfold someN
  omega
theorem some_each {xs : List Int} (h : someN xs = 0) {i : Nat} (hi : i < xs.length) : ix xs i % 97 = 0 := by
  rcases nz_01 (ix xs i) with p | p
  · exact p.2
  · have e := sumN_le (f := fun k => if k = i then (1 : Int) else 0) (g := fun k => nz (ix xs k)) (n := xs.length) (fun k _ => by
      by_cases q : k = i
      · subst q; rw [if_pos rfl, p.1]; exact Int.le_refl _
      · rw [if_neg q]; rcases nz_01 (ix xs k) with r | r <;> omega)
    rw [sumN_pick (fun _ => 1) hi] at e
    unfold someN at h
    omega
/-- Noughts have noughts as their wave. -/
theorem some_none {xs : List Int} (h : someN xs = 0) : someN (waveR xs) = 0 := by
  unfold someN
  rw [len_waveR]
  refine sumN_zero fun k hk => ?_
  have e : wvE (ix xs) (rtN xs.length : Int) xs.length k % 97 = 0 := by
    unfold wvE
    rw [c_sum (g := fun _ => 0) (fun i hi => by rw [Int.mul_emod, some_each h hi, Int.zero_mul])]
    rw [sumN_zero (fun _ _ => rfl)]; rfl
  rw [ix_waveR xs hk, e]; rfl
theorem nz_rest {x : Int} (h : 0 ≤ x ∧ x ≤ 96) : nz x = if x = 0 then 0 else 1 := by
  unfold nz; rw [Int.emod_eq_of_lt h.1 (by omega)]

/-- The sum of the powers by squares. -/
def sqsN (k : Nat) : Nat := (List.range 16).foldl (fun s i => (s + pm (rtN 16) (i * i * k % 16)) % 97) 0
theorem sqs_facts : ∀ k, k < 16 → k % 2 = 1 → sqsN k * sqsN k % 97 = 32 * pm (rtN 16) (4 * k) % 97 := by decide +kernel
theorem sqs_zero : sqsN 0 = 16 := by decide +kernel

end Go.Proofs.Ytlglokbakmbpdab
