/-
  StepsOf of the program, by its contract.
-/
import Derived.Test.YtpalmbcknjmmcaaCopy
import Derived.Test.YtpalmbcknjmmcaaValid
namespace Go.Proofs.Ytpalmbcknjmmcaa
open Go.RowKit
set_option linter.unusedVariables false

def stepsL (xs : List Int) : List Int := tab xs.length fun j => if j = 0 then ix xs 0 else wrap64 (ix xs j - ix xs (j - 1))
def stepsF (xs : List Int) : List Int := if vrB xs = true then stepsL xs else []
theorem stepsF_len (xs : List Int) (h : xs.length ≤ 1048576) : (stepsF xs).length ≤ 1048576 := by unfold stepsF; split <;> simp [stepsL, h]

/-- steps on the way: the numbers up to place k are stepped. -/
def StepInv (E : Nat) (w wr : World) (g n k : Nat) (xs : List Int) : Prop :=
  Own E w.heap.size wr (.slice (some ⟨g, 0, none⟩) n n) (tab n fun j => if j ≤ k ∧ j ≠ 0 then wrap64 (ix xs j - ix xs (j - 1)) else ix xs j) ∧ Below w.heap.size w wr
theorem StepInv.drew {E : Nat} {w wr : World} {g n k : Nat} {xs : List Int} (h : StepInv E w wr g n k xs) : StepInv E w wr.drew g n k xs := ⟨h.1, h.2.drew⟩
theorem stepInv_step {E g n k : Nat} {w wr : World} {xs : List Int} (h : StepInv E w wr g n k xs) (hg : w.heap.size ≤ g) :
    StepInv E w (wr.setCell ⟨g, k + 1, none⟩ (.int .i64 (wrap64 (ix xs (k + 1) - ix xs k)))) g n (k + 1) xs := by
  refine ⟨?_, h.2.setCell hg _⟩
  have := h.1.set (k + 1) (wrap64 (ix xs (k + 1) - ix xs k))
  rw [tab_set] at this
  rw [tab_congr (g := fun j => if j ≤ k + 1 ∧ j ≠ 0 then wrap64 (ix xs j - ix xs (j - 1)) else ix xs j)] at this
  · exact this
  · intro j hj
    by_cases e : j = k + 1
    · subst e; rw [if_pos rfl, if_pos (by omega)]; rfl
    · rw [if_neg e]
      by_cases e2 : j ≤ k ∧ j ≠ 0
      · rw [if_pos e2, if_pos (by omega)]
      · rw [if_neg e2, if_neg (by omega)]

set_option maxHeartbeats 1000000 in
theorem steps_any (v : Value) (xs : List Int) (w : World) (h : Rd w v xs) (hl : xs.length ≤ 1048576) :
    Calls Try.prog 59 #[v] w (MadeAt 3 w (stepsL xs)) := by
  have hcp := copyOf_any v xs w h hl
  obtain ⟨a, cap, rfl, h⟩ := h
  rcases h with rfl | ⟨b, off, rfl, hb, hc⟩
  · go_enter Try.func59, Try.ntmps59
    go_wp2_with fail
    refine hcp.mono ?_
    rintro e w1 ⟨g, rfl, hg, o1, b1⟩
    go_wp2
    refine wp_loop_rounds 1 ?_
    rw [rounds_succ]
    go_wp2
    go_ret
    exact ⟨g, rfl, hg, o1, b1⟩
  · by_cases hn : xs.length = 0
    · obtain rfl : xs = [] := List.eq_nil_of_length_eq_zero hn
      clear hn hc
      go_enter Try.func59, Try.ntmps59
      go_wp2_with fail
      refine hcp.mono ?_
      rintro e w1 ⟨g, rfl, hg, o1, b1⟩
      go_wp2
      refine wp_loop_rounds 1 ?_
      rw [rounds_succ]
      go_wp2
      go_ret
      exact ⟨g, rfl, hg, o1, b1⟩
    obtain ⟨n, hn2⟩ : ∃ n, n = xs.length := ⟨_, rfl⟩
    have hS : stepsL xs = tab n fun j => if j ≤ n - 1 ∧ j ≠ 0 then wrap64 (ix xs j - ix xs (j - 1)) else ix xs j := by
      rw [hn2]
      refine tab_congr fun j hj => ?_
      by_cases e : j = 0
      · subst e; simp
      · rw [if_neg e, if_pos (by omega)]
    have HL : Hid (MadeAt 3 w (stepsL xs) = fun e w' => ∃ g, e = .returned (.slice (some ⟨g, 0, none⟩) n n) ∧ w.heap.size ≤ g ∧ StepInv 3 w w' g n (n - 1) xs) := by
      funext e w'
      unfold MadeAt StepInv
      rw [hS, len_tab]
    have H0 : Hid (∀ g w1, Own 3 w.heap.size w1 (.slice (some ⟨g, 0, none⟩) n n) xs → Below w.heap.size w w1 → StepInv 3 w w1 g n 0 xs) := by
      intro g w1 ho hbl
      refine ⟨?_, hbl⟩
      rw [tab_congr (g := fun j => ix xs j) (fun j hj => if_neg (by omega)), hn2, tab_self]
      rw [← hn2]; exact ho
    unfold MadeAt at hcp
    rw [← hn2] at hcp hc hl hn ⊢
    rw [HL.out]
    clear hn2 hS
    go_enter Try.func59, Try.ntmps59
    go_wp2_with fail
    refine hcp.mono ?_
    rintro e w1 ⟨g, rfl, hg, o1, b1⟩
    have hI := H0.out g w1 o1 b1
    clear o1 b1 H0 HL
    go_wp2
    go_loopw [4] (fun i wr => ∃ k : Nat, k + 1 ≤ n ∧ i = .int .i64 ((k : Int) + 1) ∧ StepInv 3 w wr g n k xs) (fun i _ => n - (intOf i).toNat)
    case atStart => exact ⟨0, by omega, rfl, hI⟩
    case round =>
      obtain ⟨k, hk, rfl, hI⟩ := hrel
      by_cases hlt : k + 1 < n
      · have hc1 := hI.1.cell (k + 1) (by simp; omega)
        rw [ix_tab _ _ _ (by omega), if_neg (by omega)] at hc1
        have hf := hI.1.frozen (k + 1)
        have hcx : wr.cell? ⟨b, off + k, none⟩ = some (.int .i64 (ix xs k)) := (hI.2.cell (by exact hb)).trans (hc k (by omega))
        have HS := Lib.hid (stepInv_step hI hg)
        clear hI hc
        go_wp2
        go_region
        go_wp2
        go_roundw
        case rel => exact ⟨k + 1, by omega, by go_num, HS.out.drew⟩
        case measure => simp [intOf]; omega
      · have hkm : n = k + 1 := by omega
        subst hkm
        go_wp2
        go_ret
        exact ⟨g, rfl, hg, hI⟩

theorem implStepsOf_any (v : Value) (xs : List Int) (w : World) (h : Rd w v xs) (hl : xs.length ≤ maxLen) (hw : ∀ n ∈ xs, (Lit.int .i64 n).wf = true) :
    Calls Try.prog 24 #[v] w (Made 3 w (stepsF xs)) := by
  have hv := implValid_any v xs w h hl
  cases hb : vrB xs with
  | true =>
    rw [hb] at hv
    have hF : Hid (stepsF xs = stepsL xs) := by unfold stepsF; exact if_pos hb
    have hM := vr_max hb
    
    go_enter Try.func24, Try.ntmps24
    go_wp2_with fail
    refine hv.mono ?_
    rintro e w1 ⟨rfl, b1⟩
    go_wp2_with fail
    refine (steps_any v xs _ (h.below b1 (Nat.le_refl _)) hM).mono ?_
    rintro e w2 ⟨g, rfl, hg, o2, b2⟩
    go_wp2
    go_ret
    exact ⟨_, rfl, by rw [hF.out]; exact o2.mono b1.size, bel_nxt b1 b2⟩
  | false =>
    rw [hb] at hv
    have hF : Hid (stepsF xs = []) := by unfold stepsF; exact if_neg (by simp [hb])
    go_enter Try.func24, Try.ntmps24
    go_wp2_with fail
    refine hv.mono ?_
    rintro e w1 ⟨rfl, b1⟩
    go_wp2
    go_ret
    exact ⟨_, rfl, by rw [hF.out]; exact Own.nil _ _ _, b1⟩

end Go.Proofs.Ytpalmbcknjmmcaa
