/-
  Products of rows: the model, by its contracts.
-/
import Derived.Test.YtagncoahobghpacMa1
import Derived.Test.YtagncoahobghpacFnM
import Derived.Deep.RegionLaw
import Derived.IntWalk
import Derived.StillTailTactics
namespace Go.Proofs.Ytagncoahobghpac
open Go.RowKit
set_option linter.unusedVariables false

/-- The product of two rows. -/
def mulL (xs ys : List Int) : List Int := if xs.length = 0 ∨ ys.length = 0 then [] else tab (xs.length + ys.length - 1) fun j => wrap64 (mulE (ix xs) (ix ys) xs.length ys.length j)
def timF (xs ys : List Int) : List Int := if vrB xs = true ∧ vrB ys = true then mulL xs ys else []
theorem timF_yes {xs ys : List Int} (h1 : vrB xs = true) (h2 : vrB ys = true) : timF xs ys = mulL xs ys := by unfold timF; exact if_pos ⟨h1, h2⟩
theorem timF_no {xs ys : List Int} (h : ¬ (vrB xs = true ∧ vrB ys = true)) : timF xs ys = [] := by unfold timF; exact if_neg h
theorem mulL_none {xs ys : List Int} (h : xs.length = 0 ∨ ys.length = 0) : mulL xs ys = [] := by unfold mulL; exact if_pos h
theorem mulL_some {xs ys : List Int} (h1 : xs.length ≠ 0) (h2 : ys.length ≠ 0) : mulL xs ys = tab (xs.length + ys.length - 1) fun j => wrap64 (mulE (ix xs) (ix ys) xs.length ys.length j) := by
  unfold mulL; exact if_neg fun h => h.elim h1 h2

/-- The product on the way. -/
def PdI (E : Nat) (w wr : World) (g N m x y : Nat) (F G : Nat → Int) : Prop :=
  Own E w.heap.size wr (.slice (some ⟨g, 0, none⟩) N N) (tab N fun j => wrap64 (mulP F G m x y j)) ∧ Below w.heap.size w wr
theorem PdI.step {E g N m x y : Nat} {w wr : World} {F G : Nat → Int} (h : PdI E w wr g N m x y F G) (hg : w.heap.size ≤ g) :
    PdI E w (wr.setCell ⟨g, x + y, none⟩ (.int .i64 (wrap64 (wrap64 (mulP F G m x y (x + y)) + wrap64 (F x * G y))))) g N m x (y + 1) F G := by
  refine ⟨?_, h.2.setCell hg _⟩
  have := h.1.set (x + y) (wrap64 (wrap64 (mulP F G m x y (x + y)) + wrap64 (F x * G y)))
  rw [tab_set, tab_congr (g := fun j => wrap64 (mulP F G m x (y + 1) j))] at this
  · exact this
  · intro j hj
    by_cases e : j = x + y
    · subst e; rw [if_pos rfl, mulP_step, if_pos rfl, w64_add]
    · rw [if_neg e, mulP_step, if_neg (fun q => e q.symm), Int.add_zero]
theorem PdI.next {E g N m x : Nat} {w wr : World} {F G : Nat → Int} (h : PdI E w wr g N m x m F G) : PdI E w wr g N m (x + 1) 0 F G := by
  refine ⟨?_, h.2⟩
  rw [tab_congr (g := fun j => wrap64 (mulP F G m x m j)) (fun j _ => by rw [mulP_next])]; exact h.1
theorem PdI.drew {E g N m x y : Nat} {w wr : World} {F G : Nat → Int} (h : PdI E w wr g N m x y F G) (n : Nat) : PdI E w (wr.drewN n) g N m x y F G :=
  ⟨h.1.below (below_drewN (Below.refl wr.heap.size wr) n) (Nat.le_refl _), below_drewN h.2 n⟩

theorem timF_len (xs ys : List Int) : (timF xs ys).length ≤ 1048576 := by
  unfold timF
  split
  · rename_i h
    have h1 := (vrB_of h.1).1
    have h2 := (vrB_of h.2).1
    unfold mulL
    split
    · simp
    · rw [len_tab]; omega
  · simp

end Go.Proofs.Ytagncoahobghpac
