/-
  DivisorSums and UndivisorSums of the program, by their contracts.
-/
import Derived.Test.YtlglokbakmbpdaaCopy
import Derived.Test.YtlglokbakmbpdaaValid
import Derived.Test.YtlglokbakmbpdaaDivM
namespace Go.Proofs.Ytlglokbakmbpdaa
open Go.RowKit
set_option linter.unusedVariables false

def divL (xs : List Int) : List Int := tab xs.length fun j => wrap64 (divE (ix xs) j)
def divF (xs : List Int) : List Int := if vrB xs = true then divL xs else []
def undivL (xs : List Int) : List Int := tab xs.length fun j => wrap64 (uP (ix xs) xs.length j)
def undivF (xs : List Int) : List Int := if vrB xs = true then undivL xs else []
theorem divF_len (xs : List Int) (h : xs.length ≤ 1048576) : (divF xs).length ≤ 1048576 := by unfold divF; split <;> simp [divL, h]
theorem undivF_len (xs : List Int) (h : xs.length ≤ 1048576) : (undivF xs).length ≤ 1048576 := by unfold undivF; split <;> simp [undivL, h]

/-- What addToMultiples carries round. -/
def MulInv (E B : Nat) (w wr : World) (g n c d q : Nat) (A : Int) (F : Nat → Int) : Prop :=
  Own E B wr (.slice (some ⟨g, 0, none⟩) n c) (tab n fun j => wrap64 (mulU F d A q j)) ∧ w.grownBy wr (some g)
theorem MulInv.cell {E B g n c d q p : Nat} {w wr : World} {A : Int} {F : Nat → Int} (h : MulInv E B w wr g n c d q A F) (hd : 1 ≤ d) (hp : p + 1 = q * d) (hn : p < n) : wr.cell? ⟨g, p, none⟩ = some (.int .i64 (wrap64 (F p))) := by
  have := h.1.cell p (by simpa using hn)
  rw [ix_tab _ _ _ hn, mulU_at hd hp] at this
  exact this
theorem MulInv.step {E B g n c d q p : Nat} {w wr : World} {A : Int} {F : Nat → Int} (h : MulInv E B w wr g n c d q A F) (hd : 1 ≤ d) (hq : 2 ≤ q) (hp : p + 1 = q * d) :
    MulInv E B w (wr.setCell ⟨g, p, none⟩ (.int .i64 (wrap64 (wrap64 (F p) + wrap64 A)))) g n c d (q + 1) A F := by
  refine ⟨?_, grown_set h.2 _ _⟩
  have := h.1.set p (wrap64 (wrap64 (F p) + wrap64 A))
  rw [tab_set] at this
  rw [tab_congr (g := fun j => wrap64 (mulU F d A (q + 1) j))] at this
  · exact this
  · intro j hj
    by_cases e : j = p
    · subst e; rw [if_pos rfl, mulU_next hd hq hp, w64_add]
    · rw [if_neg e, mulU_other hd (fun x => e (by omega))]

theorem divs_round {F : Nat → Int} {n t : Nat} (ht : t < n) : tab n (fun j => wrap64 (if dvs t j then divP F n (t + 1) j + F t else divP F n (t + 1) j)) = tab n fun j => wrap64 (divP F n t j) := by
  refine tab_congr fun j _ => ?_
  rw [divP_step F n t j ht]
  by_cases h : dvs t j
  · rw [if_pos h, if_pos h]
  · rw [if_neg h, if_neg h, Int.add_zero]

theorem undivs_round {F : Nat → Int} {n t : Nat} : tab n (fun j => wrap64 (if dvs t j then uP F t j + - uP F t t else uP F t j)) = tab n fun j => wrap64 (uP F (t + 1) j) := by
  refine tab_congr fun j _ => ?_
  show _ = wrap64 (if dvs t j then uP F t j - uP F t t else uP F t j)
  by_cases h : dvs t j
  · rw [if_pos h, if_pos h, Int.sub_eq_add_neg]
  · rw [if_neg h, if_neg h]
theorem w64_neg (a : Int) : wrap64 (- wrap64 a) = wrap64 (-a) := by unfold wrap64; omega

end Go.Proofs.Ytlglokbakmbpdaa
