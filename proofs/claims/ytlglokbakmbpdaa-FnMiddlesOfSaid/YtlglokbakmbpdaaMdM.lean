/-
  The number in the middle of a sorted list. No program is named here.
-/
import Derived.Test.YtlglokbakmbpdaaPdD
namespace Go.Proofs.Ytlglokbakmbpdaa
open Go.RowKit
set_option linter.unusedVariables false

theorem sumN_cntK (p : Int → Bool) (xs : List Int) : ∀ k, k ≤ xs.length → sumN (fun i => if p (ix xs i) = true then 1 else 0) k = ((xs.take k).countP p : Nat) := by
  intro k
  induction k with
  | zero => intro _; simp [sumN]
  | succ k ih =>
    intro hk
    have e2 : ix xs k = xs[k] := by unfold ix; simp [List.getD, show k < xs.length by omega]
    rw [sumN, ih (by omega), List.take_add_one, List.getElem?_eq_getElem (by omega : k < xs.length), Option.toList_some, List.countP_append, List.countP_singleton, e2]
    by_cases h : p xs[k] = true <;> simp [h]
theorem sumN_cnt (p : Int → Bool) (xs : List Int) : sumN (fun i => if p (ix xs i) = true then 1 else 0) xs.length = (xs.countP p : Nat) := by
  rw [sumN_cntK p xs _ (Nat.le_refl _), List.take_length]
theorem less_cnt (xs : List Int) (v : Int) : lessN (ix xs) xs.length v = (xs.countP (fun x => decide (x < v)) : Nat) := by
  rw [← sumN_cnt]; unfold lessN; exact sumN_congr fun i _ => by simp
theorem most_cnt (xs : List Int) (v : Int) : atMost (ix xs) xs.length v = (xs.countP (fun x => decide (x ≤ v)) : Nat) := by
  rw [← sumN_cnt]; unfold atMost; exact sumN_congr fun i _ => by simp
theorem cnt_split (p : Int → Bool) (l : List Int) (k : Nat) : l.countP p = (l.take k).countP p + (l.drop k).countP p := by
  conv => lhs; rw [← List.take_append_drop k l, List.countP_append]

theorem sorted_mid {l : List Int} (hs : l.Pairwise fun a b => a ≤ b) {k : Nat} (hk : k < l.length) :
    l.countP (fun x => decide (x < l[k])) ≤ k ∧ k < l.countP (fun x => decide (x ≤ l[k])) := by
  have hd : l.drop k = l[k] :: l.drop (k + 1) := List.drop_eq_getElem_cons hk
  have hp := hs
  rw [← List.take_append_drop k l, hd, List.pairwise_append] at hp
  obtain ⟨_, p2, p3⟩ := hp
  have p2' := (List.pairwise_cons.1 p2).1
  constructor
  · rw [cnt_split _ l k]
    have e1 : (l.drop k).countP (fun x => decide (x < l[k])) = 0 := by
      rw [List.countP_eq_zero, hd]
      intro a ha
      rcases List.mem_cons.1 ha with rfl | h
      · simp
      · have := p2' a h; simp; omega
    rw [e1]
    have := List.countP_le_length (p := fun x => decide (x < l[k])) (l := l.take k)
    simp at this ⊢
    omega
  · rw [cnt_split _ l (k + 1)]
    have e1 : (l.take (k + 1)).countP (fun x => decide (x ≤ l[k])) = (l.take (k + 1)).length := by
      rw [List.countP_eq_length]
      intro a ha
      rw [List.take_add_one, List.getElem?_eq_getElem hk] at ha
      rcases List.mem_append.1 ha with h | h
      · have := p3 a h l[k] (List.mem_cons_self ..); simpa using this
      · simp at h; simp [h]
    rw [e1, List.length_take]
    omega

/-- The middle of the sorted list is the middle. -/
theorem midV_sorted {xs ts : List Int} (hp : ts.Perm xs) (hs : ts.Pairwise fun a b => a ≤ b) (h : 0 < xs.length) : ix ts (xs.length / 2) = midV (ix xs) xs.length := by
  have hl := hp.length_eq
  have hk : xs.length / 2 < ts.length := by omega
  have e : ix ts (xs.length / 2) = ts[xs.length / 2] := by unfold ix; simp [List.getD, hk]
  rw [e]
  refine (midV_mid ⟨?_, ?_, ?_⟩).symm
  · have hm : ts[xs.length / 2] ∈ xs := hp.mem_iff.1 (List.getElem_mem hk)
    obtain ⟨i, hi, he⟩ := List.getElem_of_mem hm
    exact ⟨i, hi, by unfold ix; simp [List.getD, hi, he]⟩
  · rw [less_cnt, ← hp.countP_eq]
    exact Int.ofNat_le.2 (sorted_mid hs hk).1
  · rw [most_cnt, ← hp.countP_eq]
    exact Int.ofNat_lt.2 (sorted_mid hs hk).2
theorem sort_perm (xs : List Int) : (xs.mergeSort fun x y => decide (x ≤ y)).Perm xs := List.mergeSort_perm xs _
theorem sort_sorted (xs : List Int) : (xs.mergeSort fun x y => decide (x ≤ y)).Pairwise fun a b => a ≤ b := by
  have := List.pairwise_mergeSort (le := fun x y : Int => decide (x ≤ y)) (fun a b c h1 h2 => by simp at *; omega) (fun a b => by simp; omega) xs
  exact this.imp fun h => by simpa using h

end Go.Proofs.Ytlglokbakmbpdaa
