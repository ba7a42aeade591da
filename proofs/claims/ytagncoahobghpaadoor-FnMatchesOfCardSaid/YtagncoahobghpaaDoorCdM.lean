/-
  Sums of sets round a circle of thirteen places: they are many. Nothing of a program is named here.
-/
import Derived.Test.YtagncoahobghpaaDoorMa1
namespace Go.Proofs.YtagncoahobghpaaDoor
open Go.RowKit
set_option linter.unusedVariables false

/-- 1 for a place of the set. -/
def inS (A : Nat → Bool) (i : Nat) : Int := if A i = true then 1 else 0
theorem inS_yes {A : Nat → Bool} {i : Nat} (h : A i = true) : inS A i = 1 := if_pos h
theorem inS_no {A : Nat → Bool} {i : Nat} (h : ¬ A i = true) : inS A i = 0 := if_neg h
theorem inS_01 (A : Nat → Bool) (i : Nat) : inS A i = 0 ∧ ¬ A i = true ∨ inS A i = 1 ∧ A i = true := by
  by_cases h : A i = true
  · exact .inr ⟨inS_yes h, h⟩
  · exact .inl ⟨inS_no h, h⟩
/-- How many places. -/
def cntS (A : Nat → Bool) : Int := sumN (inS A) 13
theorem cntS_pos {A : Nat → Bool} {i : Nat} (hi : i < 13) (h : A i = true) : 1 ≤ cntS A := by
  have e := sumN_le (f := fun k => if k = i then (1 : Int) else 0) (g := inS A) (n := 13) (fun k _ => by
    by_cases q : k = i
    · subst q; rw [if_pos rfl, inS_yes h]; exact Int.le_refl _
    · rw [if_neg q]; rcases inS_01 A k with p | p <;> omega)
  rw [sumN_pick (fun _ => 1) hi] at e
  exact e
theorem cntS_zero {A : Nat → Bool} (h : ∀ i, i < 13 → ¬ A i = true) : cntS A = 0 := sumN_zero fun i hi => inS_no (h i hi)
theorem cntS_full {A : Nat → Bool} (h : ∀ i, i < 13 → A i = true) : cntS A = 13 := by
  unfold cntS
  rw [sumN_congr (g := fun _ => 1) (fun i hi => inS_yes (h i hi))]
  rfl
theorem steps13 : ∀ a, a < 13 → ∀ d, d < 13 → d ≠ 0 → ∀ z, z < 13 → ∃ k, k < 13 ∧ (a + k * d) % 13 = z := by decide +kernel
/-- The sums of two sets with places are as many as both have less 1, or all. -/
theorem sums_many (S : Nat → Bool) (n : Nat) : ∀ (A B : Nat → Bool), cntS B ≤ n → (∃ x, x < 13 ∧ A x = true) → (∃ y, y < 13 ∧ B y = true) →
    (∀ x, x < 13 → ∀ y, y < 13 → A x = true → B y = true → S ((x + y) % 13) = true) → cntS A + cntS B - 1 ≤ cntS S ∨ 13 ≤ cntS S := by
  induction n with
  | zero =>
    rintro A B hn _ ⟨y, hy, hb⟩ _
    have := cntS_pos hy hb
    omega
  | succ n ih =>
    rintro A B hn ⟨x0, hx0, ha0⟩ ⟨y0, hy0, hb0⟩ hS
    by_cases h : ∃ a b c, a < 13 ∧ b < 13 ∧ c < 13 ∧ A a = true ∧ B b = true ∧ B c = true ∧ ¬ A ((a + c + (13 - b)) % 13) = true
    · obtain ⟨a, b, c, ha, hb, hc, Aa, Bb, Bc, hno⟩ := h
      obtain ⟨e, he, hel⟩ : ∃ e, e = (a + (13 - b)) % 13 ∧ e < 13 := ⟨_, rfl, Nat.mod_lt _ (by decide)⟩
      have hbe : (b + e) % 13 = a := by rw [he]; omega
      have hce : (c + e) % 13 = (a + c + (13 - b)) % 13 := by rw [he]; omega
      have hcount : cntS (fun z => A z || B ((z + (13 - e)) % 13)) + cntS (fun y => B y && A ((y + e) % 13)) = cntS A + cntS B := by
        have e1 : cntS (fun z => A z || B ((z + (13 - e)) % 13)) = sumN (fun z => inS A z + (if A z = true then 0 else inS B ((z + (13 - e)) % 13))) 13 := sumN_congr fun z _ => by
          show (if (A z || B ((z + (13 - e)) % 13)) = true then (1 : Int) else 0) = _
          unfold inS
          cases A z <;> cases B ((z + (13 - e)) % 13) <;> rfl
        have e2 : sumN (fun z => if A z = true then 0 else inS B ((z + (13 - e)) % 13)) 13 = sumN (fun y => if A ((y + e) % 13) = true then 0 else inS B y) 13 := by
          rw [← sumN_cyc (fun z => if A z = true then 0 else inS B ((z + (13 - e)) % 13)) 13 e]
          refine sumN_congr fun y hy => ?_
          show (if A ((y + e) % 13) = true then 0 else inS B (((y + e) % 13 + (13 - e)) % 13)) = _
          rw [show ((y + e) % 13 + (13 - e)) % 13 = y by omega]
        have e3 : sumN (fun y => if A ((y + e) % 13) = true then 0 else inS B y) 13 + cntS (fun y => B y && A ((y + e) % 13)) = cntS B := by
          unfold cntS
          rw [← sumN_add]
          refine sumN_congr fun y _ => ?_
          show (if A ((y + e) % 13) = true then 0 else inS B y) + (if (B y && A ((y + e) % 13)) = true then (1 : Int) else 0) = inS B y
          unfold inS
          cases B y <;> cases A ((y + e) % 13) <;> rfl
        rw [e1, sumN_add, e2]
        have e4 : cntS A = sumN (inS A) 13 := rfl
        omega
      have hless : cntS (fun y => B y && A ((y + e) % 13)) + 1 ≤ cntS B := by
        have q := sumN_le (f := fun y => inS (fun y => B y && A ((y + e) % 13)) y + (if y = c then 1 else 0)) (g := inS B) (n := 13) (fun y hy => by
          by_cases r : y = c
          · subst r
            rw [if_pos rfl, inS_yes Bc, inS_no (by rw [hce]; simp only [Bool.and_eq_true]; exact fun s => hno s.2)]
            decide
          · rw [if_neg r]
            rcases inS_01 (fun y => B y && A ((y + e) % 13)) y with s | s
            · rcases inS_01 B y with t | t <;> omega
            · have t : B y = true := by have := s.2; simp only [Bool.and_eq_true] at this; exact this.1
              rw [inS_yes t]; omega)
        rw [sumN_add, sumN_pick (fun _ => 1) hc] at q
        exact q
      rcases ih (fun z => A z || B ((z + (13 - e)) % 13)) (fun y => B y && A ((y + e) % 13)) (by omega) ⟨x0, hx0, by simp [ha0]⟩ ⟨b, hb, by simp [Bb, hbe, Aa]⟩ (fun x hx y hy hxA hyB => by
        simp only [Bool.and_eq_true] at hyB
        simp only [Bool.or_eq_true] at hxA
        rcases hxA with q | q
        · exact hS x hx y hy q hyB.1
        · have r := hS ((y + e) % 13) (Nat.mod_lt _ (by decide)) ((x + (13 - e)) % 13) (Nat.mod_lt _ (by decide)) hyB.2 q
          rw [show ((y + e) % 13 + (x + (13 - e)) % 13) % 13 = (x + y) % 13 by omega] at r
          exact r) with r | r
      · left; omega
      · exact .inr r
    · have hA : ∀ a b c, a < 13 → b < 13 → c < 13 → A a = true → B b = true → B c = true → A ((a + c + (13 - b)) % 13) = true := fun a b c ha hb hc Aa Bb Bc =>
        Classical.byContradiction fun q => h ⟨a, b, c, ha, hb, hc, Aa, Bb, Bc, q⟩
      by_cases hs : ∃ c, c < 13 ∧ B c = true ∧ c ≠ y0
      · obtain ⟨c, hc, Bc, hne⟩ := hs
        right
        obtain ⟨d, hd, hdl⟩ : ∃ d, d = (c + (13 - y0)) % 13 ∧ d < 13 := ⟨_, rfl, Nat.mod_lt _ (by decide)⟩
        have hd0 : d ≠ 0 := by omega
        have hk : ∀ k, A ((x0 + k * d) % 13) = true := by
          intro k
          induction k with
          | zero => rw [Nat.zero_mul, Nat.add_zero, Nat.mod_eq_of_lt hx0]; exact ha0
          | succ k ihk =>
            have r := hA _ y0 c (Nat.mod_lt (x0 + k * d) (by decide)) hy0 hc ihk hb0 Bc
            rw [show ((x0 + k * d) % 13 + c + (13 - y0)) % 13 = (x0 + (k + 1) * d) % 13 by rw [Nat.succ_mul]; omega] at r
            exact r
        have hall : ∀ z, z < 13 → A z = true := fun z hz => by
          obtain ⟨k, _, e⟩ := steps13 x0 hx0 d hdl hd0 z hz
          rw [← e]; exact hk k
        rw [cntS_full (fun z hz => by
          have r := hS ((z + (13 - y0)) % 13) (Nat.mod_lt _ (by decide)) y0 hy0 (hall _ (Nat.mod_lt _ (by decide))) hb0
          rw [show ((z + (13 - y0)) % 13 + y0) % 13 = z by omega] at r
          exact r)]
        exact Int.le_refl _
      · left
        have hB : cntS B = 1 := by
          unfold cntS
          rw [sumN_congr (g := fun y => if y = y0 then 1 else 0) (fun y hy => by
            by_cases q : y = y0
            · subst q; rw [if_pos rfl, inS_yes hb0]
            · rw [if_neg q, inS_no (fun r => hs ⟨y, hy, r, q⟩)]), sumN_pick (fun _ => 1) hy0]
        have q := sumN_le (f := inS A) (g := fun x => inS S ((x + y0) % 13)) (n := 13) (fun x hx => by
          rcases inS_01 A x with s | s
          · rw [s.1]; rcases inS_01 S ((x + y0) % 13) with t | t <;> omega
          · rw [s.1, inS_yes (hS x hx y0 hy0 s.2 hb0)]; exact Int.le_refl _)
        rw [sumN_cyc (inS S) 13 y0] at q
        have e4 : cntS A = sumN (inS A) 13 := rfl
        have e5 : cntS S = sumN (inS S) 13 := rfl
        omega

end Go.Proofs.YtagncoahobghpaaDoor
