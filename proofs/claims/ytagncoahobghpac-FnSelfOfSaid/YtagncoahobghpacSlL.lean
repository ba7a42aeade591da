/-
  What the law of a row beside itself says of the model's rows. No program is walked here.
-/
import Derived.Test.YtagncoahobghpacPdL
import Derived.Test.YtagncoahobghpacSgI
namespace Go.Proofs.Ytagncoahobghpac
open Go.RowKit
set_option linter.unusedVariables false

theorem sf_turned (xs : List Int) : selF (turnedL xs) = selF xs := by
  have e : selL (turnedL xs) = selL xs := by
    unfold selL
    rw [len_turned5]
    refine tab_congr fun d hd => ?_
    rw [slf_congr (G := fun i => ix xs (xs.length - 1 - i)) (fun i hi => ix_turned5 hi), slf_rev]
  unfold selF
  rw [vr_turned5B, e]
theorem sf_some {xs : List Int} (h : (selF xs).length ≠ 0) : vrB xs = true ∧ selF xs = selL xs ∧ (selF xs).length = xs.length := by
  cases e : vrB xs with
  | false => rw [selF_no e] at h; exact absurd rfl h
  | true => exact ⟨rfl, selF_yes e, by rw [selF_yes e, len_selL]⟩
theorem sf_sq {xs : List Int} (h : vrB xs = true) : 0 ≤ slf (ix xs) xs.length 0 ∧ slf (ix xs) xs.length 0 ≤ 16000000 := by
  have hx := vrB_of h
  have a : ∀ i, i < xs.length → 0 ≤ ix xs i * ix xs i ∧ ix xs i * ix xs i ≤ 1000000 := by
    intro i hi
    have b := hx.2 i hi
    obtain ⟨z, hz⟩ : ∃ z, z = ix xs i := ⟨_, rfl⟩
    rw [← hz] at b ⊢
    obtain ⟨n, hn⟩ : ∃ n : Nat, n = z.natAbs := ⟨_, rfl⟩
    have e : z * z = ((n * n : Nat) : Int) := by rw [hn]; exact Int.natAbs_mul_self.symm
    have hn2 : n ≤ 1000 := by omega
    have : n * n ≤ 1000 * 1000 := Nat.mul_le_mul hn2 hn2
    rw [e]; omega
  have l := sumN_le (f := fun _ => (0 : Int)) (g := fun i => ix xs i * ix xs i) (n := xs.length) (fun i hi => (a i hi).1)
  have u := sumN_le (f := fun i => ix xs i * ix xs i) (g := fun _ => (1000000 : Int)) (n := xs.length) (fun i hi => (a i hi).2)
  rw [sumN_const] at l u
  rw [slf_zero]
  unfold sq
  have := hx.1
  omega
theorem sf_ix {xs : List Int} (h : vrB xs = true) {d : Nat} (hd : d < xs.length) : ix (selL xs) d = slf (ix xs) xs.length d := by
  unfold selL
  rw [ix_tab _ _ _ hd]
  have a := slf_le (ix xs) (n := xs.length) (Nat.le_of_lt hd)
  have b := sf_sq h
  exact w64_id (by omega)
theorem sf_range {xs : List Int} (h : vrB xs = true) {d : Nat} (hd : d < xs.length) : ix (selL xs) d ≤ ix (selL xs) 0 ∧ -(ix (selL xs) 0) ≤ ix (selL xs) d ∧ 0 ≤ ix (selL xs) 0 ∧ ix (selL xs) 0 ≤ 16000000 := by
  have a := slf_le (ix xs) (n := xs.length) (Nat.le_of_lt hd)
  have b := sf_sq h
  rw [sf_ix h hd, sf_ix h (show 0 < xs.length by omega)]
  omega
theorem sf_energy {xs : List Int} (h : vrB xs = true) (h0 : xs.length ≠ 0) : energyF xs = ix (selL xs) 0 := by
  have b := sf_sq h
  rw [slf_zero] at b
  rw [sf_ix h (show 0 < xs.length by omega), slf_zero]
  unfold energyF
  rw [if_pos h]
  exact w64_id (by omega)
theorem sf_total {xs : List Int} (h : vrB xs = true) (h0 : xs.length ≠ 0) : 2 * sumN (ix (selL xs)) xs.length - ix (selL xs) 0 = sumN (ix xs) xs.length * sumN (ix xs) xs.length := by
  rw [sf_ix h (show 0 < xs.length by omega), sumN_congr (g := slf (ix xs) xs.length) (fun d hd => sf_ix h hd)]
  exact slf_total _ _
end Go.Proofs.Ytagncoahobghpac
