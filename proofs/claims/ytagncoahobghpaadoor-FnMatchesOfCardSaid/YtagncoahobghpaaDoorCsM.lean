/-
  Sets of places round a circle with different sums: they have few places. Counts of pairs. Nothing of a program is named here.
-/
import Derived.Test.YtagncoahobghpaaDoorCdM
namespace Go.Proofs.YtagncoahobghpaaDoor
open Go.RowKit
set_option linter.unusedVariables false

theorem inS_mul (A B : Nat → Bool) (x y : Nat) : inS A x * inS B y = if A x = true ∧ B y = true then 1 else 0 := by
  unfold inS
  cases A x <;> cases B y <;> rfl
/-- Pairs of places, counted by their sum. -/
def cntP (A B : Nat → Bool) (z : Nat) : Int := mixE (fun x y => (x + y) % 13) (inS A) (inS B) 13 z
theorem cntP_total (A B : Nat → Bool) : sumN (cntP A B) 13 = cntS A * cntS B := mix_total _ _ _ fun x _ y _ => Nat.mod_lt _ (by decide)
theorem cntP_comm (A B : Nat → Bool) (z : Nat) : cntP A B z = cntP B A z := mix_comm (fun x y => by rw [Nat.add_comm]) _ _ _ _
/-- The partner of a place. -/
theorem cntP_row (A B : Nat → Bool) {z : Nat} (hz : z < 13) : cntP A B z = sumN (fun x => if A x = true ∧ B ((z + (13 - x)) % 13) = true then 1 else 0) 13 := by
  refine sumN_congr fun x hx => ?_
  rw [sumN_congr (g := fun y => if y = (z + (13 - x)) % 13 then inS A x * inS B y else 0) (fun y hy => by
    by_cases e : (x + y) % 13 = z
    · rw [if_pos e, if_pos (by omega)]
    · rw [if_neg e, if_neg (by omega)]), sumN_pick (fun y => inS A x * inS B y) (Nat.mod_lt _ (by decide))]
  exact inS_mul A B x _
theorem sum01_nonneg {P : Nat → Prop} [DecidablePred P] (n : Nat) : 0 ≤ sumN (fun x => if P x then (1 : Int) else 0) n := by
  have := sumN_le (f := fun _ => 0) (g := fun x => if P x then (1 : Int) else 0) (n := n) (fun i _ => by split <;> decide)
  rw [sumN_zero (fun _ _ => rfl)] at this
  exact this
theorem sum01_pos {P : Nat → Prop} [DecidablePred P] {n : Nat} : 0 < sumN (fun x => if P x then (1 : Int) else 0) n ↔ ∃ x, x < n ∧ P x := by
  constructor
  · intro h
    apply Classical.byContradiction
    intro q
    rw [sumN_zero (fun x hx => if_neg fun p => q ⟨x, hx, p⟩)] at h
    omega
  · rintro ⟨x, hx, p⟩
    have e := sumN_le (f := fun k => if k = x then (1 : Int) else 0) (g := fun x => if P x then (1 : Int) else 0) (n := n) (fun k _ => by
      by_cases q : k = x
      · subst q; rw [if_pos rfl, if_pos p]; exact Int.le_refl _
      · rw [if_neg q]; split <;> decide)
    rw [sumN_pick (fun _ => 1) hx] at e
    omega
theorem sum01_one {P : Nat → Prop} [DecidablePred P] {n : Nat} (h : ∀ x, x < n → ∀ y, y < n → P x → P y → x = y) : sumN (fun x => if P x then (1 : Int) else 0) n ≤ 1 := by
  by_cases q : ∃ x, x < n ∧ P x
  · obtain ⟨x, hx, p⟩ := q
    have e := sumN_le (f := fun x => if P x then (1 : Int) else 0) (g := fun k => if k = x then (1 : Int) else 0) (n := n) (fun k hk => by
      by_cases r : P k
      · rw [if_pos r, if_pos (h k hk x hx r p)]; exact Int.le_refl _
      · rw [if_neg r]; split <;> decide)
    rw [sumN_pick (fun _ => 1) hx] at e
    exact e
  · rw [sumN_zero (fun x hx => if_neg fun p => q ⟨x, hx, p⟩)]; decide
theorem sum01_two {P : Nat → Prop} [DecidablePred P] {n : Nat} {u v : Nat} (hu : u < n) (hv : v < n) (h : ∀ x, x < n → P x → x = u ∨ x = v) : sumN (fun x => if P x then (1 : Int) else 0) n ≤ 2 := by
  have e := sumN_le (f := fun x => if P x then (1 : Int) else 0) (g := fun k => (if k = u then (1 : Int) else 0) + (if k = v then (1 : Int) else 0)) (n := n) (fun k hk => by
    by_cases r : P k
    · rw [if_pos r]
      rcases h k hk r with q | q
      · rw [if_pos q]; split <;> decide
      · rw [if_pos q]; split <;> decide
    · rw [if_neg r]; split <;> split <;> decide)
  rw [sumN_add, sumN_pick (fun _ => 1) hu, sumN_pick (fun _ => 1) hv] at e
  exact e
/-- What is counted is a sum of both. -/
theorem cntP_pos {A B : Nat → Bool} {z : Nat} (hz : z < 13) : 0 < cntP A B z ↔ ∃ x, x < 13 ∧ ∃ y, y < 13 ∧ A x = true ∧ B y = true ∧ (x + y) % 13 = z := by
  rw [cntP_row A B hz, sum01_pos]
  constructor
  · rintro ⟨x, hx, a, b⟩
    exact ⟨x, hx, _, Nat.mod_lt _ (by decide), a, b, by omega⟩
  · rintro ⟨x, hx, y, hy, a, b, e⟩
    exact ⟨x, hx, a, by rw [show (z + (13 - x)) % 13 = y by omega]; exact b⟩

/-- No two pairs, the lesser one first, have the same sum. -/
def Sparse (A : Nat → Bool) : Prop :=
  ∀ x, x < 13 → ∀ y, y < 13 → ∀ u, u < 13 → ∀ v, v < 13 → x ≤ y → u ≤ v → A x = true → A y = true → A u = true → A v = true → (x + y) % 13 = (u + v) % 13 → x = u ∧ y = v
theorem Sparse.any {A : Nat → Bool} (h : Sparse A) {x y u v : Nat} (hx : x < 13) (hy : y < 13) (hu : u < 13) (hv : v < 13) (ax : A x = true) (ay : A y = true) (au : A u = true) (av : A v = true)
    (e : (x + y) % 13 = (u + v) % 13) : x = u ∧ y = v ∨ x = v ∧ y = u := by
  rcases Nat.le_total x y with p | p <;> rcases Nat.le_total u v with q | q
  · exact .inl (h x hx y hy u hu v hv p q ax ay au av e)
  · exact .inr (h x hx y hy v hv u hu p q ax ay av au (by omega))
  · have := h y hy x hx u hu v hv p q ay ax au av (by omega); exact .inr ⟨this.2, this.1⟩
  · have := h y hy x hx v hv u hu p q ay ax av au (by omega); exact .inl ⟨this.2, this.1⟩
theorem Sparse.two {A : Nat → Bool} (h : Sparse A) {z : Nat} (hz : z < 13) : cntP A A z ≤ 2 := by
  rw [cntP_row A A hz]
  by_cases q : ∃ x, x < 13 ∧ A x = true ∧ A ((z + (13 - x)) % 13) = true
  · obtain ⟨u, hu, a, b⟩ := q
    refine sum01_two hu (Nat.mod_lt (z + (13 - u)) (by decide)) fun x hx p => ?_
    have r := h.any (y := (z + (13 - x)) % 13) (v := (z + (13 - u)) % 13) hx (Nat.mod_lt _ (by decide)) hu (Nat.mod_lt _ (by decide)) p.1 p.2 a b (by omega)
    rcases r with r | r
    · exact .inl r.1
    · exact .inr r.1
  · rw [sumN_zero (fun x hx => if_neg fun p => q ⟨x, hx, p.1, p.2⟩)]; decide
theorem cntS_range (A : Nat → Bool) : 0 ≤ cntS A ∧ cntS A ≤ 13 := by
  have a := sumN_le (f := fun _ => 0) (g := inS A) (n := 13) (fun i _ => by rcases inS_01 A i with p | p <;> omega)
  have b := sumN_le (f := inS A) (g := fun _ => 1) (n := 13) (fun i _ => by rcases inS_01 A i with p | p <;> omega)
  rw [sumN_zero (fun _ _ => rfl)] at a
  exact ⟨a, b⟩
/-- At most four places. -/
theorem Sparse.four {A : Nat → Bool} (h : Sparse A) : cntS A ≤ 4 := by
  have hd : ∀ d, d < 13 → sumN (fun x => inS A x * inS A ((x + d) % 13)) 13 ≤ (if d = 0 then cntS A - 1 else 0) + 1 := by
    intro d hd
    rw [sumN_congr (g := fun x => if A x = true ∧ A ((x + d) % 13) = true then 1 else 0) (fun x _ => inS_mul A A x _)]
    by_cases e : d = 0
    · subst e
      rw [if_pos rfl, sumN_congr (g := inS A) (fun x hx => by rw [Nat.add_zero, Nat.mod_eq_of_lt hx]; unfold inS; cases A x <;> rfl)]
      have e4 : cntS A = sumN (inS A) 13 := rfl
      omega
    · rw [if_neg e]
      refine sum01_one fun x hx y hy p q => ?_
      have r := h.any (x := x) (y := (y + d) % 13) (u := y) (v := (x + d) % 13) hx (Nat.mod_lt _ (by decide)) hy (Nat.mod_lt _ (by decide)) p.1 q.2 q.1 p.2 (by omega)
      omega
  have e1 := sumN_le (n := 13) hd
  rw [sumN_swap, sumN_congr (g := fun x => inS A x * cntS A) (fun x hx => by
    rw [sumN_mulL]
    congr 1
    rw [sumN_congr (g := fun d => inS A ((d + x) % 13)) (fun d _ => by rw [Nat.add_comm x d])]
    exact sumN_cyc (inS A) 13 x), sumN_mulR, sumN_add, sumN_pick (fun _ => cntS A - 1) (by decide)] at e1
  have e2 : sumN (fun _ => (1 : Int)) 13 = 13 := rfl
  have e3 : sumN (inS A) 13 * cntS A = cntS A * cntS A := rfl
  rw [e2, e3] at e1
  have r := cntS_range A
  apply Classical.byContradiction
  intro q
  have e5 : 5 * cntS A ≤ cntS A * cntS A := Int.mul_le_mul_of_nonneg_right (by omega) r.1
  omega

/-- The places of a number. -/
def bitS (s i : Nat) : Bool := s / 2 ^ i % 2 == 1
def okB (s x y u v : Nat) : Bool := !(decide (x ≤ y) && decide (u ≤ v) && bitS s x && bitS s y && bitS s u && bitS s v && decide ((x + y) % 13 = (u + v) % 13)) || (decide (x = u) && decide (y = v))
theorem okB_most : ∀ x, x < 13 → ∀ y, y < 13 → ∀ u, u < 13 → ∀ v, v < 13 → okB 83 x y u v = true := by decide +kernel
theorem sparse_most : Sparse (bitS 83) := by
  intro x hx y hy u hu v hv p q a b c d e
  have h := okB_most x hx y hy u hu v hv
  simp only [okB, p, q, a, b, c, d, e, decide_true, Bool.true_and, Bool.not_true, Bool.false_or, Bool.and_eq_true, decide_eq_true_eq] at h
  exact h
theorem most_four : cntS (bitS 83) = 4 := by decide +kernel

end Go.Proofs.YtagncoahobghpaaDoor
