/-
  A wave built up from its last rest, as plain mathematics; lists that are filled from the left. Nothing of a program is named here.
-/
import Derived.Test.YtlglokbakmbpdabWvL
namespace Go.Proofs.Ytlglokbakmbpdab
open Go.RowKit
set_option linter.unusedVariables false

theorem sumN_front (f : Nat → Int) (n : Nat) : sumN f (n + 1) = f 0 + sumN (fun j => f (j + 1)) n := by
  induction n with
  | zero => simp [sumN]
  | succ n ih => rw [sumN, ih]; show _ = f 0 + (sumN (fun j => f (j + 1)) n + f (n + 1)); omega
/-- The sum from index p on. -/
def hrn (F : Nat → Int) (s : Int) (n p : Nat) : Int := sumN (fun j => F (p + j) * pw s j) (n - p) % 97
theorem hrn_end (F : Nat → Int) (s : Int) (n : Nat) : hrn F s n n = 0 := by unfold hrn; rw [Nat.sub_self]; rfl
theorem hrn_bd (F : Nat → Int) (s : Int) (n p : Nat) : 0 ≤ hrn F s n p ∧ hrn F s n p ≤ 96 := by unfold hrn; omega
theorem hrn_step (F : Nat → Int) (s : Int) {n p : Nat} (h : p < n) : hrn F s n p = (hrn F s n (p + 1) * s % 97 + F p) % 97 := by
  unfold hrn
  obtain ⟨m, hm⟩ : ∃ m, n - p = m + 1 := ⟨n - p - 1, by omega⟩
  have hm' : n - (p + 1) = m := by omega
  rw [hm, hm', sumN_front]
  have e : sumN (fun j => F (p + (j + 1)) * pw s (j + 1)) m = sumN (fun j => F (p + 1 + j) * pw s j) m * s := by
    rw [← sumN_mulR]
    refine sumN_congr fun j _ => ?_
    show F (p + (j + 1)) * (pw s j * s) = F (p + 1 + j) * pw s j * s
    rw [Int.mul_assoc, show p + (j + 1) = p + 1 + j by omega]
  rw [e, c_mulL]
  show (F (p + 0) * pw s 0 + _) % 97 = _
  rw [Nat.add_zero, show pw s 0 = 1 from rfl, Int.mul_one]
  omega
theorem hrn_all (F : Nat → Int) (r n k : Nat) : hrn F (pm r k : Nat) n 0 = wvE F (r : Int) n k % 97 := by
  unfold hrn wvE
  rw [Nat.sub_zero]
  refine c_sum fun i _ => ?_
  rw [Nat.zero_add]
  refine c_mulC rfl ?_
  rw [c_pw (b := pw (r : Int) k) (by rw [pm_pw, Int.emod_emod_of_dvd _ (Int.dvd_refl 97)]), pw_pw, Nat.mul_comm]

theorem c_addL (a b : Int) : (a % 97 + b) % 97 = (a + b) % 97 := by omega

/-- The first k are F, the others G. -/
def upto (k : Nat) (F G : Nat → Int) (j : Nat) : Int := if j < k then F j else G j
theorem upto_zero (F G : Nat → Int) (j : Nat) : upto 0 F G j = G j := by unfold upto; rw [if_neg (by omega)]
theorem upto_at (k : Nat) (F G : Nat → Int) : upto k F G k = G k := by unfold upto; rw [if_neg (by omega)]
theorem upto_lt {k j : Nat} (F G : Nat → Int) (h : j < k) : upto k F G j = F j := by unfold upto; rw [if_pos h]
theorem upto_set (n k : Nat) (F G : Nat → Int) : (tab n (upto k F G)).set k (F k) = tab n (upto (k + 1) F G) := by
  rw [tab_set]
  refine tab_congr fun j _ => ?_
  unfold upto
  by_cases h : j = k
  · subst h; rw [if_pos rfl, if_pos (by omega)]
  · rw [if_neg h]
    by_cases h2 : j < k
    · rw [if_pos h2, if_pos (by omega)]
    · rw [if_neg h2, if_neg (by omega)]
theorem upto_all (n : Nat) (F G : Nat → Int) : tab n (upto n F G) = tab n F := tab_congr fun j hj => upto_lt F G hj
theorem upto_none (n : Nat) (F G : Nat → Int) : tab n (upto 0 F G) = tab n G := tab_congr fun j _ => upto_zero F G j

/-- The wave on the way: k numbers are done, the next one is built up to index p. -/
def wvW (F : Nat → Int) (r n k p j : Nat) : Int := if j < k then wvE F r n j % 97 else if j = k then hrn F (pm r k : Nat) n p else 0
theorem wvW_at (F : Nat → Int) (r n k p : Nat) : wvW F r n k p k = hrn F (pm r k : Nat) n p := by unfold wvW; rw [if_neg (by omega), if_pos rfl]
theorem wvW_start (F : Nat → Int) (r n j : Nat) : wvW F r n 0 n j = 0 := by
  unfold wvW
  rw [if_neg (by omega)]
  split
  · exact hrn_end _ _ _
  · rfl
theorem wvW_next (F : Nat → Int) (r n k : Nat) : wvW F r n k 0 = wvW F r n (k + 1) n := by
  funext j
  unfold wvW
  by_cases h : j < k
  · rw [if_pos h, if_pos (by omega)]
  · rw [if_neg h]
    by_cases e : j = k
    · subst e; rw [if_pos rfl, if_pos (by omega), hrn_all]
    · rw [if_neg e, if_neg (by omega)]
      split
      · exact (hrn_end _ _ _).symm
      · rfl
theorem wvW_set (F : Nat → Int) (r n k p q : Nat) : (tab n (wvW F r n k p)).set k (hrn F (pm r k : Nat) n q) = tab n (wvW F r n k q) := by
  rw [tab_set]
  refine tab_congr fun j _ => ?_
  unfold wvW
  by_cases h : j = k
  · subst h; rw [if_pos rfl, if_neg (by omega), if_pos rfl]
  · rw [if_neg h]
    simp only [if_neg h]
theorem wvW_all (F : Nat → Int) (r n : Nat) : tab n (wvW F r n n n) = tab n fun j => wvE F r n j % 97 := tab_congr fun j hj => by unfold wvW; rw [if_pos hj]

end Go.Proofs.Ytlglokbakmbpdab
