/-
  BelowOf and UnbelowOf of the program: addBelow by its contract.
-/
import Derived.Test.YtagncoahobghpacCube
import Derived.Test.YtagncoahobghpacCopy
namespace Go.Proofs.Ytagncoahobghpac
open Go.RowKit
set_option linter.unusedVariables false

theorem w64_mod (x q : Int) : wrap64 (x + 18446744073709551616 * q) = wrap64 x := by unfold wrap64; omega
theorem w64_q (x : Int) : ∃ q, wrap64 x = x + 18446744073709551616 * q := ⟨- ((x + 9223372036854775808) / 18446744073709551616), by unfold wrap64; omega⟩
theorem w64_mulR (a b : Int) : wrap64 (a * wrap64 b) = wrap64 (a * b) := by
  obtain ⟨q, hq⟩ := w64_q b
  rw [hq, Int.mul_add, ← Int.mul_assoc, Int.mul_comm a 18446744073709551616, Int.mul_assoc, w64_mod]
theorem w64_mulL (a b : Int) : wrap64 (wrap64 a * b) = wrap64 (a * b) := by rw [Int.mul_comm, w64_mulR, Int.mul_comm]

/-- One digit's pass. -/
def bstep (s : Int) (d : Nat) (F : Nat → Int) (x : Nat) : Int := if x / d % 2 = 1 then F x + s * F (x - d) else F x
/-- The passes of the first j digits. -/
def bpass (s : Int) (F : Nat → Int) : Nat → Nat → Int
  | 0 => F
  | j + 1 => bstep s (2 ^ j) (bpass s F j)
def belowL (s : Int) (xs : List Int) : List Int := tab xs.length fun x => wrap64 (bpass s (ix xs) (bitsN xs.length).toNat x)
def belowF (s : Int) (xs : List Int) : List Int := if cubeB xs = true then belowL s xs else []
theorem belowF_len (s : Int) (xs : List Int) (h : xs.length ≤ 1048576) : (belowF s xs).length ≤ 1048576 := by unfold belowF; split <;> simp [belowL, h]

theorem bit_le {x d : Nat} (h : x / d % 2 = 1) : d ≤ x := by
  rcases Nat.lt_or_ge x d with hlt | hge
  · rw [Nat.div_eq_of_lt hlt] at h; omega
  · exact hge
theorem bit_down {x d : Nat} (hd : 1 ≤ d) (h : x / d % 2 = 1) : (x - d) / d % 2 = 0 := by
  have hle := bit_le h
  have : (x - d) / d = x / d - 1 := by
    have e : x = x - d + d := by omega
    rw [e, Nat.add_div_right _ (by omega)]; simp
  rw [this]; omega

/-- The row in the middle of a pass: the first x numbers are done. -/
def midB (s : Int) (d : Nat) (F : Nat → Int) (x : Nat) (y : Nat) : Int := if y < x then bstep s d F y else F y
theorem midB_zero (s : Int) (d : Nat) (F : Nat → Int) (y : Nat) : midB s d F 0 y = F y := by simp [midB]
theorem midB_skip {s : Int} {d : Nat} {F : Nat → Int} {x : Nat} (h : ¬ x / d % 2 = 1) (y : Nat) : midB s d F (x + 1) y = midB s d F x y := by
  unfold midB
  by_cases h1 : y < x
  · rw [if_pos h1, if_pos (by omega)]
  · rw [if_neg h1]
    by_cases h2 : y = x
    · subst h2; rw [if_pos (by omega)]; unfold bstep; rw [if_neg h]
    · rw [if_neg (by omega)]

/-- What is carried round the passes. -/
def BelInv (E B : Nat) (w wr : World) (g n c : Nat) (s : Int) (d : Nat) (F : Nat → Int) (x : Nat) : Prop :=
  Own E B wr (.slice (some ⟨g, 0, none⟩) n c) (tab n fun y => wrap64 (midB s d F x y)) ∧ Below w.heap.size w wr
theorem BelInv.drew {E B : Nat} {w wr : World} {g n c : Nat} {s : Int} {d : Nat} {F : Nat → Int} {x : Nat} (h : BelInv E B w wr g n c s d F x) : BelInv E B w wr.drew g n c s d F x := ⟨h.1, h.2.drew⟩
theorem BelInv.skip {E B : Nat} {w wr : World} {g n c : Nat} {s : Int} {d : Nat} {F : Nat → Int} {x : Nat} (h : BelInv E B w wr g n c s d F x) (hx : ¬ x / d % 2 = 1) : BelInv E B w wr g n c s d F (x + 1) := by
  refine ⟨?_, h.2⟩
  rw [tab_congr (g := fun y => wrap64 (midB s d F x y)) (fun y _ => by rw [midB_skip hx])]
  exact h.1
theorem BelInv.step {E B : Nat} {w wr : World} {g n c : Nat} {s : Int} {d : Nat} {F : Nat → Int} {x : Nat} (h : BelInv E B w wr g n c s d F x) (hg : w.heap.size ≤ g) (hd : 1 ≤ d) (hx : x / d % 2 = 1) :
    BelInv E B w (wr.setCell ⟨g, x, none⟩ (.int .i64 (wrap64 (wrap64 (F x) + wrap64 (s * wrap64 (F (x - d))))))) g n c s d F (x + 1) := by
  refine ⟨?_, h.2.setCell hg _⟩
  have := h.1.set x (wrap64 (wrap64 (F x) + wrap64 (s * wrap64 (F (x - d)))))
  rw [tab_set] at this
  rw [tab_congr (g := fun y => wrap64 (midB s d F (x + 1) y))] at this
  · exact this
  · intro y hy
    by_cases e : y = x
    · subst e
      rw [if_pos rfl, w64_mulR, w64_add]
      unfold midB; rw [if_pos (by omega)]; unfold bstep; rw [if_pos hx]
    · rw [if_neg e]
      unfold midB
      by_cases h1 : y < x
      · rw [if_pos h1, if_pos (by omega)]
      · rw [if_neg h1, if_neg (by omega)]
theorem BelInv.cellx {E B : Nat} {w wr : World} {g n c : Nat} {s : Int} {d : Nat} {F : Nat → Int} {x : Nat} (h : BelInv E B w wr g n c s d F x) (hx : x < n) : wr.cell? ⟨g, x, none⟩ = some (.int .i64 (wrap64 (F x))) := by
  have := h.1.cell x (by simpa using hx)
  rw [ix_tab _ _ _ hx] at this
  unfold midB at this
  rw [if_neg (by omega)] at this
  exact this
theorem BelInv.celly {E B : Nat} {w wr : World} {g n c : Nat} {s : Int} {d : Nat} {F : Nat → Int} {x : Nat} (h : BelInv E B w wr g n c s d F x) (hx : x < n) (hd : 1 ≤ d) (hb : x / d % 2 = 1) : wr.cell? ⟨g, x - d, none⟩ = some (.int .i64 (wrap64 (F (x - d)))) := by
  have hle := bit_le hb
  have := h.1.cell (x - d) (by simp; omega)
  rw [ix_tab _ _ _ (by omega)] at this
  unfold midB at this
  rw [if_pos (by omega)] at this
  unfold bstep at this
  rw [if_neg (by have := bit_down hd hb; omega)] at this
  exact this
theorem BelInv.next {E B : Nat} {w wr : World} {g n c : Nat} {s : Int} {j : Nat} {F : Nat → Int} (h : BelInv E B w wr g n c s (2 ^ j) (bpass s F j) n) : BelInv E B w wr g n c s (2 ^ (j + 1)) (bpass s F (j + 1)) 0 := by
  refine ⟨?_, h.2⟩
  rw [tab_congr (g := fun y => wrap64 (midB s (2 ^ j) (bpass s F j) n y)) (fun y hy => by rw [midB_zero]; unfold midB; rw [if_pos hy]; rfl)]
  exact h.1

end Go.Proofs.Ytagncoahobghpac
