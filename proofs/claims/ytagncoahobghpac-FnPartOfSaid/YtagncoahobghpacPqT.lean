/-
  What is left put back onto the product is the row.
-/
import Derived.Test.YtagncoahobghpacPqS
import Derived.Test.YtagncoahobghpacPdP
namespace Go.Proofs.Ytagncoahobghpac
open Go.RowKit
set_option linter.unusedVariables false

theorem len_ptQ (xs ys : List Int) : (ptQ xs ys).length = xs.length + 1 - ys.length := len_tab _ _
theorem len_ptR (xs ys : List Int) : (ptR xs ys).length = ys.length - 1 := len_tab _ _
theorem pt_tim {xs ys : List Int} (h : ptB xs ys = true) (hv : vrB (ptQ xs ys) = true) : timF (ptQ xs ys) ys = tab xs.length fun j => wrap64 (mulE (dvQ (ix ys) ys.length (xs.length + 1 - ys.length) (ix xs)) (ix ys) (xs.length + 1 - ys.length) ys.length j) := by
  have h' := ptB_of h
  have hy := divB_of h'.2.1
  rw [timF_yes hv hy.1, mulL_some (by rw [len_ptQ]; omega) (by omega), len_ptQ, show xs.length + 1 - ys.length + ys.length - 1 = xs.length by omega]
  refine tab_congr fun j hj => ?_
  rw [mul_congr (G' := ix ys) (fun i hi => show ix (ptQ xs ys) i = dvQ (ix ys) ys.length (xs.length + 1 - ys.length) (ix xs) i from ix_tab _ _ _ hi) (fun i _ => rfl)]
theorem pt_low {xs ys : List Int} (h : ptB xs ys = true) (hv : vrB (ptQ xs ys) = true) {j : Nat} (hj : j < ys.length - 1) : wrap64 (ix (timF (ptQ xs ys) ys) j + ix (ptR xs ys) j) = ix xs j := by
  have h' := ptB_of h
  have hx := (vrB_of h'.1).2 j (by omega)
  rw [pt_tim h hv, ix_tab _ _ _ (by omega), show ix (ptR xs ys) j = dvA (ix ys) ys.length (xs.length + 1 - ys.length) (ix xs) j from ix_tab _ _ _ hj, w64_addL, ← dv_all]
  exact w64_id (by omega)
theorem pt_high {xs ys : List Int} (h : ptB xs ys = true) (hv : vrB (ptQ xs ys) = true) {j : Nat} (hj : ys.length - 1 ≤ j) (hl : j < xs.length) : ix (timF (ptQ xs ys) ys) j = ix xs j := by
  have h' := ptB_of h
  have hy := divB_of h'.2.1
  have hx := (vrB_of h'.1).2 j hl
  have e := dv_all (ix ys) ys.length (xs.length + 1 - ys.length) (ix xs) j
  rw [dv_zero _ (by omega) hy.2.2 (ix xs) j hj (by omega), Int.add_zero] at e
  rw [pt_tim h hv, ix_tab _ _ _ (by omega), ← e]
  exact w64_id (by omega)
/-- The sum on the way: k numbers are put back. -/
def pbF (xs ts : List Int) (k j : Nat) : Int := if j < k then ix xs j else ix ts j
theorem pb_zero (xs ts : List Int) (h : ts.length = xs.length) : tab xs.length (pbF xs ts 0) = ts := by
  rw [← h]
  rw [tab_congr (f := pbF xs ts 0) (g := ix ts) (fun j _ => if_neg (by omega))]
  exact tab_self ts
theorem pb_next (xs ts : List Int) (k j : Nat) : pbF xs ts (k + 1) j = if j = k then ix xs k else pbF xs ts k j := by
  unfold pbF
  by_cases e : j = k
  · subst e; rw [if_pos rfl, if_pos (by omega)]
  · rw [if_neg e]
    by_cases q : j < k
    · rw [if_pos q, if_pos (by omega)]
    · rw [if_neg q, if_neg (by omega)]
theorem pb_all (xs ts : List Int) (k : Nat) (h : ∀ j, k ≤ j → j < xs.length → ix ts j = ix xs j) : tab xs.length (pbF xs ts k) = xs := by
  rw [tab_congr (f := pbF xs ts k) (g := ix xs) (fun j hj => by
    unfold pbF
    by_cases q : j < k
    · rw [if_pos q]
    · rw [if_neg q]; exact h j (by omega) hj)]
  exact tab_self xs
end Go.Proofs.Ytagncoahobghpac
