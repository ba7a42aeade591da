/-
  SumsOf and StepsOf, program and model.
-/
import Derived.Test.YtlglokbakmbpdaaCopy
import Derived.Test.YtlglokbakmbpdaaValid
namespace Go.Proofs.Ytlglokbakmbpdaa
open Go.RowKit
set_option linter.unusedVariables false

def sumsL (xs : List Int) : List Int := tab xs.length fun j => wrap64 (sumN (ix xs) (j + 1))
def sumsF (xs : List Int) : List Int := if vrB xs = true then sumsL xs else []
theorem sumsF_len (xs : List Int) (h : xs.length ≤ 1048576) : (sumsF xs).length ≤ 1048576 := by unfold sumsF; split <;> simp [sumsL, h]

theorem upTo_all (F : Nat → Int) (n j : Nat) (h : j < n) : upTo F 0 n j = sumN F (j + 1) := by
  unfold upTo
  rw [if_pos (by omega)]
  simp

set_option maxHeartbeats 1000000 in
theorem implSumsOf_any (v : Value) (xs : List Int) (w : World) (h : Rd w v xs) (hl : xs.length ≤ maxLen) (hw : ∀ n ∈ xs, (Lit.int .i64 n).wf = true) :
    Calls Try.prog 24 #[v] w (Made 3 w (sumsF xs)) := by
  have hv := implValid_any v xs w h hl
  cases hb : vrB xs with
  | true =>
    rw [hb] at hv
    have hF : Hid (sumsF xs = sumsL xs) := by unfold sumsF; exact if_pos hb
    have hM := vr_max hb
    go_enter Try.func24, Try.ntmps24
    go_wp2_with fail
    refine hv.mono ?_
    rintro e w1 ⟨rfl, b1⟩
    go_wp2_with fail
    refine (copyOf_any v xs _ (h.below b1 (Nat.le_refl _)) hM).mono ?_
    rintro e w2 ⟨g, rfl, hg, o2, b2⟩
    go_wp2_with fail
    have o2' : Own 3 w1.heap.size w2 (.slice (some ⟨g, 0, none⟩) xs.length xs.length) (tab xs.length fun j => wrap64 (ix xs j)) := by rw [← tab_wf hw]; exact o2
    refine (sumUp_any w1.heap.size g xs.length xs.length 0 xs.length xs.length (ix xs) _ o2' (by omega) hM).mono ?_
    rintro e w3 ⟨rfl, o3, g3⟩
    go_wp2
    go_ret
    refine ⟨_, rfl, ?_, bel_marked (bel_nxt b1 b2) o2 g3 b1.size⟩
    rw [hF.out, sumsL, tab_congr (g := fun j => wrap64 (upTo (ix xs) 0 xs.length j)) (fun j hj => by rw [upTo_all _ _ _ hj])]
    exact o3.mono b1.size
  | false =>
    rw [hb] at hv
    have hF : Hid (sumsF xs = []) := by unfold sumsF; exact if_neg (by simp [hb])
    go_enter Try.func24, Try.ntmps24
    go_wp2_with fail
    refine hv.mono ?_
    rintro e w1 ⟨rfl, b1⟩
    go_wp2
    go_ret
    exact ⟨_, rfl, by rw [hF.out]; exact Own.nil _ _ _, b1⟩

end Go.Proofs.Ytlglokbakmbpdaa
