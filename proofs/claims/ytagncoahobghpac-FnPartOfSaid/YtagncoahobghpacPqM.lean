/-
  A division as the program does it: what is taken off a place for the last time stays there as how often.
-/
import Derived.Test.YtagncoahobghpacPqI
namespace Go.Proofs.Ytagncoahobghpac
open Go.RowKit
set_option linter.unusedVariables false

/-- One step: as often as the number at place i + l says, l numbers of the other row are taken off from place i on. -/
def imS (G : Nat → Int) (l i : Nat) (R : Nat → Int) : Nat → Int := tkF R G (R (i + l)) i l
/-- What stands there after the steps c - 1, .., 0. -/
def imA (G : Nat → Int) (l : Nat) : Nat → (Nat → Int) → Nat → Int
  | 0, R => R
  | c + 1, R => imA G l c (imS G l c R)
theorem imS_in {G : Nat → Int} {l i : Nat} {R : Nat → Int} {j : Nat} (h : i ≤ j ∧ j < i + l) : imS G l i R j = R j - R (i + l) * G (j - i) := by
  unfold imS tkF; rw [if_pos h]
theorem imS_out {G : Nat → Int} {l i : Nat} {R : Nat → Int} {j : Nat} (h : ¬ (i ≤ j ∧ j < i + l)) : imS G l i R j = R j := by
  unfold imS tkF; rw [if_neg h]
theorem dvS_in {G : Nat → Int} {l i : Nat} {R : Nat → Int} {j : Nat} (h : i ≤ j ∧ j < i + (l + 1)) : dvS G (l + 1) i R j = R j - R (i + l) * G (j - i) := by
  unfold dvS; rw [if_pos h, show i + (l + 1) - 1 = i + l by omega]
theorem dvS_out {G : Nat → Int} {l i : Nat} {R : Nat → Int} {j : Nat} (h : ¬ (i ≤ j ∧ j < i + (l + 1))) : dvS G (l + 1) i R j = R j := by
  unfold dvS; rw [if_neg h]; omega
/-- A step leaves what stands further up. -/
theorem imA_high {G : Nat → Int} {l : Nat} (c : Nat) : ∀ (R : Nat → Int) (j : Nat), c + l ≤ j + 1 → (c = 0 ∨ c + l ≤ j + 1) → imA G l c R j = R j := by
  induction c with
  | zero => intro R j _ _; rfl
  | succ c ih =>
    intro R j h _
    show imA G l c (imS G l c R) j = R j
    rw [ih _ j (by omega) (Or.inr (by omega)), imS_out (by omega)]
theorem imA_congr {G : Nat → Int} {l : Nat} (c : Nat) : ∀ {R S : Nat → Int}, (∀ j, j < c + l → R j = S j) → ∀ j, j < c + l → imA G l c R j = imA G l c S j := by
  induction c with
  | zero => intro R S h j hj; exact h j hj
  | succ c ih =>
    intro R S h j hj
    show imA G l c (imS G l c R) j = imA G l c (imS G l c S) j
    rcases Nat.lt_or_ge j (c + l) with q | q
    · refine ih (fun x hx => ?_) j q
      by_cases e : c ≤ x ∧ x < c + l
      · rw [imS_in e, imS_in e, h x (by omega), h (c + l) (by omega)]
      · rw [imS_out e, imS_out e, h x (by omega)]
    · rw [imA_high c _ j (by omega) (Or.inr (by omega)), imA_high c _ j (by omega) (Or.inr (by omega)), imS_out (by omega), imS_out (by omega), h j hj]
/-- Below: what is left. -/
theorem imA_left {G : Nat → Int} {l : Nat} (c : Nat) : ∀ (R : Nat → Int) (j : Nat), j < l → imA G l c R j = dvA G (l + 1) c R j := by
  induction c with
  | zero => intro R j _; rfl
  | succ c ih =>
    intro R j h
    show imA G l c (imS G l c R) j = dvA G (l + 1) c (dvS G (l + 1) c R) j
    rw [← ih (dvS G (l + 1) c R) j h]
    refine imA_congr c (fun x hx => ?_) j (by omega)
    by_cases e : c ≤ x ∧ x < c + l
    · rw [imS_in e, dvS_in (by omega)]
    · rw [imS_out e, dvS_out (by omega)]
/-- From l on: how often. -/
theorem imA_often {G : Nat → Int} {l : Nat} (c : Nat) : ∀ (R : Nat → Int) (i : Nat), i < c → imA G l c R (l + i) = dvQ G (l + 1) c R i := by
  induction c with
  | zero => intro R i h; omega
  | succ c ih =>
    intro R i h
    show imA G l c (imS G l c R) (l + i) = if i = c then R (c + (l + 1) - 1) else dvQ G (l + 1) c (dvS G (l + 1) c R) i
    by_cases e : i = c
    · subst e
      rw [if_pos rfl, imA_high _ _ _ (by omega) (Or.inr (by omega)), imS_out (by omega), show l + i = i + (l + 1) - 1 by omega]
    · rw [if_neg e, ← ih (dvS G (l + 1) c R) i (by omega)]
      refine imA_congr c (fun x hx => ?_) _ (by omega)
      by_cases e : c ≤ x ∧ x < c + l
      · rw [imS_in e, dvS_in (by omega)]
      · rw [imS_out e, dvS_out (by omega)]
/-- How large the numbers grow: four times a step. -/
theorem imS_bound {G : Nat → Int} {l i N : Nat} {R : Nat → Int} {B : Int} (hG : ∀ j, j < l → -3 ≤ G j ∧ G j ≤ 3) (hN : i + l < N) (h : ∀ j, j < N → -B ≤ R j ∧ R j ≤ B) : ∀ j, j < N → -(4 * B) ≤ imS G l i R j ∧ imS G l i R j ≤ 4 * B := by
  intro j hj
  have h1 := h j hj
  by_cases e : i ≤ j ∧ j < i + l
  · rw [imS_in e]
    have h2 := h (i + l) hN
    have h3 := hG (j - i) (by omega)
    obtain ⟨y, hy⟩ : ∃ y, y = G (j - i) := ⟨_, rfl⟩
    rw [← hy] at h3 ⊢
    obtain ⟨p, hp⟩ : ∃ p, p = R (i + l) * y := ⟨_, rfl⟩
    rw [← hp]
    have : y = -3 ∨ y = -2 ∨ y = -1 ∨ y = 0 ∨ y = 1 ∨ y = 2 ∨ y = 3 := by omega
    rcases this with e | e | e | e | e | e | e <;> rw [e] at hp <;> omega
  · rw [imS_out e]; omega
end Go.Proofs.Ytagncoahobghpac
