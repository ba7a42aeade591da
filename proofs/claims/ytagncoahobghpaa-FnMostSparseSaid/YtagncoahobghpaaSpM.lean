/-
  Sets whose sums are all different: by counting pairs; as the program and as the model find them. Nothing of a program is named here.
-/
import Derived.Test.YtagncoahobghpaaStM
namespace Go.Proofs.Ytagncoahobghpaa
open Go.RowKit
set_option linter.unusedVariables false

/-- One pair, the lesser place first. -/
def uT (P : Nat → Bool) (z x y : Nat) : Int := if x ≤ y ∧ P x = true ∧ P y = true ∧ (x + y) % 13 = z then 1 else 0
/-- How often the sum z has come once all pairs ahead of (x, y) are in. -/
def uP (P : Nat → Bool) (x y z : Nat) : Int := sumN (fun i => sumN (fun j => uT P z i j) 13) x + sumN (fun j => uT P z x j) y
theorem uT_01 (P : Nat → Bool) (z x y : Nat) : 0 ≤ uT P z x y ∧ uT P z x y ≤ 1 := by unfold uT; split <;> decide
theorem uP_zero (P : Nat → Bool) (z : Nat) : uP P 0 0 z = 0 := rfl
theorem uP_row (P : Nat → Bool) (x z : Nat) : uP P x 13 z = uP P (x + 1) 0 z := by simp [uP, sumN]
theorem uP_next (P : Nat → Bool) (x y z : Nat) : uP P x (y + 1) z = uP P x y z + uT P z x y := by simp only [uP, sumN]; omega
theorem sumN_nonneg {f : Nat → Int} {n : Nat} (h : ∀ i, i < n → 0 ≤ f i) : 0 ≤ sumN f n := by
  have := sumN_le (f := fun _ => 0) h
  rw [sumN_zero (fun _ _ => rfl)] at this
  exact this
theorem sumN_up {f : Nat → Int} {n m : Nat} (hm : n ≤ m) (h : ∀ i, 0 ≤ f i) : sumN f n ≤ sumN f m := by
  obtain ⟨d, rfl⟩ : ∃ d, m = n + d := ⟨m - n, by omega⟩
  rw [sumN_split]
  have := sumN_nonneg (f := fun j => f (n + j)) (n := d) fun i _ => h _
  omega
theorem uP_nonneg (P : Nat → Bool) (x y z : Nat) : 0 ≤ uP P x y z := by
  have a := sumN_nonneg (f := fun i => sumN (fun j => uT P z i j) 13) (n := x) fun i _ => sumN_nonneg fun j _ => (uT_01 P z i j).1
  have b := sumN_nonneg (f := fun j => uT P z x j) (n := y) fun j _ => (uT_01 P z x j).1
  unfold uP; omega
theorem uP_le (P : Nat → Bool) {x y : Nat} (z : Nat) (hx : x < 13) (hy : y ≤ 13) : uP P x y z ≤ uP P 13 0 z := by
  have a : uP P x y z ≤ uP P x 13 z := by
    have := sumN_up (f := fun j => uT P z x j) hy fun j => (uT_01 P z x j).1
    unfold uP; omega
  have b : uP P (x + 1) 0 z ≤ uP P 13 0 z := by
    have := sumN_up (f := fun i => sumN (fun j => uT P z i j) 13) (show x + 1 ≤ 13 by omega) fun i => sumN_nonneg fun j _ => (uT_01 P z i j).1
    simp only [uP, sumN] at this ⊢; omega
  rw [uP_row] at a; omega
/-- Are the sums of all pairs, the lesser place first, different? -/
def spB (P : Nat → Bool) : Bool := (List.range 13).all fun z => decide (uP P 13 0 z ≤ 1)
theorem spB_of {P : Nat → Bool} (h : ∀ z, z < 13 → uP P 13 0 z ≤ 1) : spB P = true :=
  List.all_eq_true.2 fun z hz => decide_eq_true (h z (List.mem_range.1 hz))
theorem of_spB {P : Nat → Bool} (h : spB P = true) : ∀ z, z < 13 → uP P 13 0 z ≤ 1 :=
  fun z hz => of_decide_eq_true (List.all_eq_true.1 h z (List.mem_range.2 hz))
theorem spB_not {P : Nat → Bool} {z : Nat} (hz : z < 13) (h : 2 ≤ uP P 13 0 z) : spB P = false := by
  cases q : spB P with
  | false => rfl
  | true => have := of_spB q z hz; omega
/-- Pairs ahead of the row's own place count nothing. -/
theorem uP_start (P : Nat → Bool) (x z : Nat) : uP P x x z = uP P x 0 z := by
  unfold uP
  rw [sumN_zero (f := fun j => uT P z x j) (n := x) fun j hj => if_neg (by omega)]; rfl
theorem uP_skip {P : Nat → Bool} {x : Nat} (h : P x = false) (z : Nat) : uP P (x + 1) 0 z = uP P x 0 z := by
  rw [← uP_row]
  unfold uP
  rw [sumN_zero (f := fun j => uT P z x j) (n := 13) fun j hj => if_neg (by rw [h]; simp)]; rfl
theorem uT_yes {P : Nat → Bool} {x y : Nat} (h : x ≤ y) (hx : P x = true) (hy : P y = true) (z : Nat) : uT P z x y = if (x + y) % 13 = z then 1 else 0 := by
  unfold uT
  by_cases e : (x + y) % 13 = z
  · rw [if_pos ⟨h, hx, hy, e⟩, if_pos e]
  · rw [if_neg (fun q => e q.2.2.2), if_neg e]
theorem uT_no {P : Nat → Bool} {x y : Nat} (hy : P y = false) (z : Nat) : uT P z x y = 0 := if_neg (by rw [hy]; simp)
/-- A sum that has come comes again: not all are different. -/
theorem spB_hit {P : Nat → Bool} {x y : Nat} (hx : x < 13) (hy : y < 13) (h : x ≤ y) (px : P x = true) (py : P y = true) (hit : 0 < uP P x y ((x + y) % 13)) : spB P = false := by
  refine spB_not (z := (x + y) % 13) (Nat.mod_lt _ (by decide)) ?_
  have a := uP_le P (x := x) (y := y + 1) ((x + y) % 13) hx (by omega)
  rw [uP_next, uT_yes h px py, if_pos rfl] at a
  omega

theorem sum_pick2 {x y : Nat} (hx : x < 13) (hy : y < 13) : sumN (fun i => sumN (fun j => if i = x ∧ j = y then (1 : Int) else 0) 13) 13 = 1 := by
  rw [sumN_congr (g := fun i => if i = x then (1 : Int) else 0) (fun i _ => by
    by_cases e : i = x
    · rw [if_pos e, sumN_congr (g := fun j => if j = y then (1 : Int) else 0) (fun j _ => by simp [e]), sumN_pick (fun _ => 1) hy]
    · rw [if_neg e]; exact sumN_zero fun j _ => if_neg fun q => e q.1)]
  exact sumN_pick (fun _ => 1) hx
theorem sparse_of {P : Nat → Bool} (h : spB P = true) : Sparse P := by
  intro x hx y hy u hu v hv p q px py pu pv e
  apply Classical.byContradiction
  intro ne
  have h2 := of_spB h ((x + y) % 13) (Nat.mod_lt _ (by decide))
  have h3 : sumN (fun i => sumN (fun j => (if i = x ∧ j = y then (1 : Int) else 0) + if i = u ∧ j = v then (1 : Int) else 0) 13) 13 ≤ sumN (fun i => sumN (fun j => uT P ((x + y) % 13) i j) 13) 13 := by
    refine sumN_le fun i _ => sumN_le fun j _ => ?_
    by_cases a : i = x ∧ j = y
    · obtain ⟨rfl, rfl⟩ := a
      rw [if_pos ⟨rfl, rfl⟩, if_neg ne, uT_yes p px py, if_pos rfl]; decide
    · rw [if_neg a]
      by_cases b : i = u ∧ j = v
      · obtain ⟨rfl, rfl⟩ := b
        rw [if_pos ⟨rfl, rfl⟩, uT_yes q pu pv, if_pos e.symm]; decide
      · rw [if_neg b]; exact (uT_01 _ _ _ _).1
  rw [sumN_congr (fun i _ => sumN_add _ _ _), sumN_add, sum_pick2 hx hy, sum_pick2 hu hv] at h3
  unfold uP at h2
  simp only [sumN] at h2 h3
  omega

/-- The sums of the first k places with themselves and all behind them. -/
def usA (xs : List Int) : Nat → List Int
  | 0 => []
  | k + 1 => usA xs k ++ smL [ix xs k] (xs.drop k)
theorem ix_drop (xs : List Int) (i j : Nat) : ix (xs.drop i) j = ix xs (i + j) := by simp [ix, List.getD]
theorem fil_lt {P : Nat → Bool} {n i j : Nat} (hij : i < j) (hj : j < (fil P n).length) : ix (fil P n) i < ix (fil P n) j := by
  have e := List.pairwise_iff_getElem.mp (fil_pairs P n) i j (by omega) hj hij
  simp only [ix, List.getD_eq_getElem?_getD, List.getElem?_eq_getElem hj, List.getElem?_eq_getElem (show i < (fil P n).length by omega), Option.getD_some]
  exact e
theorem sumL_drop (g : Int → Int) {P : Nat → Bool} {n i : Nat} (hi : i < (fil P n).length) : sumL g ((fil P n).drop i) = sumL (fun y => if ix (fil P n) i ≤ y then g y else 0) (fil P n) := by
  rw [sumL_ix, sumL_ix, List.length_drop]
  obtain ⟨d, hd⟩ : ∃ d, (fil P n).length = i + d := ⟨(fil P n).length - i, by omega⟩
  rw [hd, Nat.add_sub_cancel_left, sumN_split]
  rw [sumN_zero (n := i) fun j hj => if_neg (by have := fil_lt (P := P) (n := n) hj hi; omega), Int.zero_add]
  refine sumN_congr fun j hj => ?_
  rw [ix_drop, if_pos]
  rcases Nat.eq_zero_or_pos j with e | e
  · subst e; exact Int.le_refl _
  · have := fil_lt (P := P) (n := n) (show i < i + j by omega) (by omega); omega
theorem sumL_usA (f : Int → Int) (xs : List Int) (k : Nat) : sumL f (usA xs k) = sumN (fun i => sumL (fun y => f ((ix xs i + y) % 13)) (xs.drop i)) k := by
  induction k with
  | zero => rfl
  | succ k ih => rw [usA, sumL_app, ih, sumL_smL, sumL_one]; rfl
theorem cnt_us (P : Nat → Bool) (z : Nat) : cnt z (usA (fil P 13) (fil P 13).length) = uP P 13 0 z := by
  have e : cnt z (usA (fil P 13) (fil P 13).length) = sumL (fun x => sumL (fun y => if x ≤ y then if (x + y) % 13 = (z : Int) then 1 else 0 else 0) (fil P 13)) (fil P 13) := by
    unfold cnt
    rw [sumL_usA, sumL_ix]
    exact sumN_congr fun i hi => sumL_drop _ hi
  rw [e, sumL_fil]
  show _ = sumN (fun i => sumN (fun j => uT P z i j) 13) 13 + 0
  rw [Int.add_zero]
  refine sumN_congr fun i _ => ?_
  rw [sumL_fil]
  by_cases hp : P i = true
  · rw [if_pos hp]
    refine sumN_congr fun j _ => ?_
    unfold uT
    by_cases hq : P j = true
    · rw [if_pos hq]
      by_cases hl : i ≤ j
      · rw [if_pos (by omega)]
        by_cases e : (i + j) % 13 = z
        · rw [if_pos ((mod13_cast i j z).mpr e), if_pos ⟨hl, hp, hq, e⟩]
        · rw [if_neg (fun h => e ((mod13_cast i j z).mp h)), if_neg (fun h => e h.2.2.2)]
      · rw [if_neg (by omega), if_neg (fun h => hl h.1)]
    · rw [if_neg hq, if_neg (fun h => hq h.2.2.1)]
  · rw [if_neg hp]
    exact (sumN_zero fun j _ => if_neg (fun h => hp h.2.1)).symm
/-- What came ahead is among all. -/
theorem cnt_us_le (z : Int) (xs : List Int) {k n : Nat} (h : k ≤ n) : cnt z (usA xs k) ≤ cnt z (usA xs n) := by
  induction n with
  | zero => obtain rfl : k = 0 := by omega
            exact Int.le_refl _
  | succ n ih =>
    by_cases e : k = n + 1
    · rw [e]; exact Int.le_refl _
    · have := ih (by omega)
      have q := cnt_nonneg z (smL [ix xs n] (xs.drop n))
      rw [usA, cnt_app]; omega

/-- The same as the model does it, on numbers: quick to reckon. -/
def apY (s x : Nat) : Nat → Nat → Option Nat
  | 0, seen => some seen
  | k + 1, seen => if bitS s (12 - k) = true then (if bitS seen ((x + (12 - k)) % 13) = true then none else apY s x k (seen + 2 ^ ((x + (12 - k)) % 13))) else apY s x k seen
def apX (s : Nat) : Nat → Nat → Bool
  | 0, _ => true
  | k + 1, seen => if bitS s (12 - k) = true then (match apY s (12 - k) (k + 1) seen with | none => false | some t => apX s k t) else apX s k seen
def apE (s : Nat) : Bool := apX s 13 0
/-- What has been seen ahead of (x, y), all of it once. -/
def Seen (P : Nat → Bool) (x y seen : Nat) : Prop := seen = mskN (fun z => decide (0 < uP P x y z)) 13 ∧ ∀ z, z < 13 → uP P x y z ≤ 1
theorem Seen.of {P : Nat → Bool} {x y x' y' seen : Nat} (h : Seen P x y seen) (e : ∀ z, uP P x' y' z = uP P x y z) : Seen P x' y' seen :=
  ⟨h.1.trans (msk_congr fun z _ => by rw [e z]), fun z hz => by rw [e z]; exact h.2 z hz⟩
theorem Seen.bit {P : Nat → Bool} {x y seen z : Nat} (h : Seen P x y seen) (hz : z < 13) : bitS seen z = decide (0 < uP P x y z) := by
  rw [h.1, msk_bit hz]
theorem Seen.next {P : Nat → Bool} {x y seen : Nat} (h : Seen P x y seen) (hxy : x ≤ y) (px : P x = true) (py : P y = true) (hno : bitS seen ((x + y) % 13) = false) : Seen P x (y + 1) (seen + 2 ^ ((x + y) % 13)) := by
  have hz : (x + y) % 13 < 13 := Nat.mod_lt _ (by decide)
  rw [h.bit hz] at hno
  have h0 : uP P x y ((x + y) % 13) = 0 := by
    have a := uP_nonneg P x y ((x + y) % 13)
    have b := of_decide_eq_false hno
    omega
  refine ⟨?_, fun z hz' => ?_⟩
  · rw [h.1, msk_add hz (by simp [h0])]
    refine msk_congr fun z hz' => ?_
    rw [uP_next, uT_yes hxy px py]
    have a := uP_nonneg P x y z
    by_cases e : (x + y) % 13 = z
    · subst e; rw [if_pos rfl, h0]; simp
    · have e2 : (z == (x + y) % 13) = false := by simpa using fun q : z = (x + y) % 13 => e q.symm
      rw [if_neg e, e2, Bool.or_false, Int.add_zero]
  · rw [uP_next, uT_yes hxy px py]
    by_cases e : (x + y) % 13 = z
    · subst e; rw [if_pos rfl, h0]; decide
    · rw [if_neg e, Int.add_zero]; exact h.2 z hz'
theorem Seen.pass {P : Nat → Bool} {x y seen : Nat} (h : Seen P x y seen) (py : P y = false) : Seen P x (y + 1) seen :=
  h.of fun z => by rw [uP_next, uT_no py, Int.add_zero]
theorem Seen.zero (P : Nat → Bool) : Seen P 0 0 0 := ⟨by
  rw [msk_congr (Q := fun _ => false) fun z _ => by rw [uP_zero]; rfl]; rfl, fun z _ => by rw [uP_zero]; decide⟩
theorem Seen.row {P : Nat → Bool} {x seen : Nat} (h : Seen P x 13 seen) : Seen P (x + 1) 0 seen := h.of fun z => (uP_row P x z).symm
theorem Seen.start {P : Nat → Bool} {x seen : Nat} (h : Seen P x 0 seen) : Seen P x x seen := h.of fun z => uP_start P x z
theorem Seen.skip {P : Nat → Bool} {x seen : Nat} (h : Seen P x 0 seen) (px : P x = false) : Seen P (x + 1) 0 seen := h.of fun z => uP_skip px z
theorem Seen.spB {P : Nat → Bool} {seen : Nat} (h : Seen P 13 0 seen) : spB P = true := spB_of h.2
theorem Seen.hit {P : Nat → Bool} {x y seen : Nat} (h : Seen P x y seen) (hx : x < 13) (hy : y < 13) (hxy : x ≤ y) (px : P x = true) (py : P y = true) (hit : bitS seen ((x + y) % 13) = true) : Go.Proofs.Ytagncoahobghpaa.spB P = false := by
  rw [h.bit (Nat.mod_lt _ (by decide))] at hit
  exact spB_hit hx hy hxy px py (of_decide_eq_true hit)
theorem apY_is (s x : Nat) (hx : x < 13) (px : bitS s x = true) : ∀ k seen, k ≤ 13 - x → Seen (bitS s) x (13 - k) seen →
    (∃ t, apY s x k seen = some t ∧ Seen (bitS s) (x + 1) 0 t) ∨ (apY s x k seen = none ∧ spB (bitS s) = false) := by
  intro k
  induction k with
  | zero => intro seen _ h; exact .inl ⟨seen, rfl, h.row⟩
  | succ k ih =>
    intro seen hk h
    rw [show 13 - (k + 1) = 12 - k by omega] at h
    have hn : 13 - k = 12 - k + 1 := by omega
    by_cases py : bitS s (12 - k) = true
    · by_cases hit : bitS seen ((x + (12 - k)) % 13) = true
      · right
        exact ⟨by rw [apY, if_pos py, if_pos hit], h.hit hx (by omega) (by omega) px py hit⟩
      · rw [apY, if_pos py, if_neg hit]
        exact ih _ (by omega) (by rw [hn]; exact h.next (by omega) px py (by simpa using hit))
    · rw [apY, if_neg py]
      exact ih _ (by omega) (by rw [hn]; exact h.pass (by simpa using py))
theorem apX_is (s : Nat) : ∀ k seen, k ≤ 13 → Seen (bitS s) (13 - k) 0 seen → apX s k seen = spB (bitS s) := by
  intro k
  induction k with
  | zero => intro seen _ h; exact h.spB.symm
  | succ k ih =>
    intro seen hk h
    rw [show 13 - (k + 1) = 12 - k by omega] at h
    have hn : 13 - k = 12 - k + 1 := by omega
    by_cases px : bitS s (12 - k) = true
    · rw [apX, if_pos px]
      rcases apY_is s (12 - k) (by omega) px (k + 1) seen (by omega) (by rw [show 13 - (k + 1) = 12 - k by omega]; exact h.start) with ⟨t, e, ht⟩ | ⟨e, hs⟩
      · rw [e]; exact ih t (by omega) (by rw [hn]; exact ht)
      · rw [e, hs]
    · rw [apX, if_neg px]
      exact ih _ (by omega) (by rw [hn]; exact h.skip (by simpa using px))
theorem apE_is (s : Nat) : apE s = spB (bitS s) := apX_is s 13 0 (Nat.le_refl _) (Seen.zero _)

/-- How many places a number has. -/
def onF : Nat → Nat → Nat
  | 0, _ => 0
  | f + 1, x => x % 2 + onF f (x / 2)
theorem bitS_half (x j : Nat) : bitS x (j + 1) = bitS (x / 2) j := by
  unfold bitS; rw [Nat.pow_succ, Nat.mul_comm, Nat.div_div_eq_div_mul]
theorem onF_is (f x : Nat) : ((onF f x : Nat) : Int) = sumN (inS (bitS x)) f := by
  induction f generalizing x with
  | zero => rfl
  | succ f ih =>
    rw [sumN_front, onF]
    have e : inS (bitS x) 0 = ((x % 2 : Nat) : Int) := by
      unfold inS bitS
      rcases Nat.mod_two_eq_zero_or_one x with h | h <;> simp [h]
    rw [e, show (sumN (fun j => inS (bitS x) (j + 1)) f) = sumN (inS (bitS (x / 2))) f from sumN_congr fun j _ => by unfold inS; rw [bitS_half], ← ih]
    omega
theorem onF_cnt (x : Nat) : ((onF 13 x : Nat) : Int) = cntS (bitS x) := onF_is 13 x
/-- A sparse set has at most four places. -/
theorem on_four {s : Nat} (h : spB (bitS s) = true) : onF 13 s ≤ 4 := by
  have := (sparse_of h).four
  rw [← onF_cnt] at this
  omega

/-- The greatest sparse set among the first k, and how many places it has. -/
def msF : Nat → Nat × Nat
  | 0 => (0, 0)
  | k + 1 => if (msF k).2 < onF 13 k ∧ spB (bitS k) = true then (k, onF 13 k) else msF k
/-- The same, quick to reckon. -/
def msE : Nat → Nat → Nat × Nat → Nat × Nat
  | 0, _, p => p
  | f + 1, k, p => msE f (k + 1) (if p.2 < onF 13 k && apE k then (k, onF 13 k) else p)
theorem msE_is (f k : Nat) : msE f k (msF k) = msF (k + f) := by
  induction f generalizing k with
  | zero => rfl
  | succ f ih =>
    rw [msE, apE_is]
    have e : (if (decide ((msF k).2 < onF 13 k) && spB (bitS k)) = true then (k, onF 13 k) else msF k) = msF (k + 1) := by
      rw [msF]
      by_cases a : (msF k).2 < onF 13 k
      · cases b : spB (bitS k) <;> simp [a]
      · simp [a]
    rw [e, ih]
    congr 1; omega
theorem msF_84 : msF 84 = (83, 4) := by
  have := msE_is 84 0
  rw [Nat.zero_add] at this
  rw [← this]
  decide +kernel
theorem msF_most (k : Nat) (h : 84 ≤ k) : msF k = (83, 4) := by
  induction k with
  | zero => omega
  | succ k ih =>
    by_cases e : k + 1 = 84
    · rw [e]; exact msF_84
    · rw [msF, ih (by omega), if_neg]
      rintro ⟨a, b⟩
      have := on_four b
      simp only at a; omega
theorem msF_le (k : Nat) : (msF k).1 ≤ k ∧ (msF k).2 ≤ 13 := by
  induction k with
  | zero => exact ⟨Nat.le_refl _, by decide⟩
  | succ k ih =>
    rw [msF]
    split
    · refine ⟨by simp, ?_⟩
      have := (cntS_range (bitS k)).2
      rw [← onF_cnt] at this
      simp only; omega
    · exact ⟨by omega, ih.2⟩

end Go.Proofs.Ytagncoahobghpaa
