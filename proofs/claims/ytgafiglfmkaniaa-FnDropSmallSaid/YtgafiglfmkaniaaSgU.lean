/-
  SignsOf and UnsignsOf of the model, and EnergyOf of the program, by their contracts.
-/
import Derived.Test.YtgafiglfmkaniaaSgS
namespace Go.Proofs.Ytgafiglfmkaniaa
open Go.RowKit
set_option linter.unusedVariables false

/-- Are all sums with signs divided by how many numbers there are? -/
def okU (xs : List Int) : Bool := cubeB xs && decide (∀ j, j < xs.length → ix (signsL xs) j % (xs.length : Int) = 0)
def unsL (xs : List Int) : List Int := if okU xs = true then tab xs.length fun j => Int.tdiv (ix (signsL xs) j) xs.length else []
/-- What a call makes that hands back a fresh slice of ints and a bool. -/
def MadeB (E : Nat) (w : World) (xs : List Int) (b : Bool) (e : Ending) (w' : World) : Prop := ∃ v, e = .returned (.tuple #[v, .bool b]) ∧ Own E w.heap.size w' v xs ∧ Below w.heap.size w w'
theorem okU_yes {xs : List Int} (hc : cubeB xs = true) (h : ∀ j, j < xs.length → ix (signsL xs) j % (xs.length : Int) = 0) : okU xs = true := by simp only [okU, hc, Bool.true_and, decide_eq_true_eq]; exact h
theorem okU_no {xs : List Int} {j : Nat} (hj : j < xs.length) (h : ¬ ix (signsL xs) j % (xs.length : Int) = 0) : okU xs = false := by
  simp only [okU, Bool.and_eq_false_iff, decide_eq_false_iff_not]; exact .inr fun e => h (e j hj)
theorem okU_bad {xs : List Int} (hc : cubeB xs = false) : okU xs = false := by simp [okU, hc]
theorem unsL_yes {xs : List Int} (h : okU xs = true) : unsL xs = tab xs.length fun j => Int.tdiv (ix (signsL xs) j) xs.length := by unfold unsL; exact if_pos h
theorem unsL_no {xs : List Int} (h : okU xs = false) : unsL xs = [] := by unfold unsL; exact if_neg (by simp [h])
theorem unsL_len (xs : List Int) (h : xs.length ≤ 1048576) : (unsL xs).length ≤ 1048576 := by unfold unsL; split <;> simp [h]
/-- The sums with signs, the first k of them divided. -/
def uD (F : Nat → Int) (n : Int) (k j : Nat) : Int := if j < k then Int.tdiv (F j) n else F j
theorem uD_at (F : Nat → Int) (n : Int) (k : Nat) : uD F n k k = F k := by unfold uD; exact if_neg (Nat.lt_irrefl _)
theorem uD_step (F : Nat → Int) (n : Int) (k j : Nat) : (if j = k then Int.tdiv (F k) n else uD F n k j) = uD F n (k + 1) j := by
  unfold uD
  by_cases h : j = k
  · rw [if_pos h, if_pos (by omega), h]
  · rw [if_neg h]
    by_cases h2 : j < k
    · rw [if_pos h2, if_pos (by omega)]
    · rw [if_neg h2, if_neg (by omega)]
def UdInv (E : Nat) (w wr : World) (v : Value) (n k : Nat) (F : Nat → Int) : Prop := Own E w.heap.size wr v (tab n (uD F n k)) ∧ Below w.heap.size w wr
theorem UdInv.step {E g n c k : Nat} {w wr : World} {F : Nat → Int} (h : UdInv E w wr (.slice (some ⟨g, 0, none⟩) n c) n k F) (hg : w.heap.size ≤ g) :
    UdInv E w (wr.setCell ⟨g, k, none⟩ (.int .i64 (Int.tdiv (F k) n))) (.slice (some ⟨g, 0, none⟩) n c) n (k + 1) F := by
  refine ⟨?_, h.2.setCell hg _⟩
  have := h.1.set k (Int.tdiv (F k) n)
  rw [tab_set, tab_congr (fun j _ => uD_step F n k j)] at this
  exact this
theorem signs_small {xs : List Int} (h : cubeB xs = true) (j : Nat) (hj : j < xs.length) : -16000 ≤ ix (signsL xs) j ∧ ix (signsL xs) j ≤ 16000 ∧ ix (signsL xs) j = sgE (ix xs) xs.length j := by
  have hv := vrB_of (cubeB_of h).1
  have hs := sgE_bound (F := ix xs) (n := xs.length) (c := 1000) (by omega) hv.2 j
  have e : ix (signsL xs) j = sgE (ix xs) xs.length j := by
    unfold signsL; rw [ix_tab _ _ _ hj]; exact w64_id (by have := hv.1; omega)
  have h16 := hv.1
  have hm : (xs.length : Int) * 1000 ≤ 16000 := by omega
  refine ⟨?_, ?_, e⟩ <;> rw [e] <;> omega

theorem sg_noughts (xs : List Int) (h : xs.length ≤ 16) (y : Nat) : sgE (ix xs) 16 y = sgE (ix xs) xs.length y :=
  sumN_more h fun i h1 _ => by rw [show ix xs i = 0 by simp [ix, List.getD, List.getElem?_eq_none h1]]; exact Int.mul_zero _
theorem sq_noughts (xs : List Int) (h : xs.length ≤ 16) : sq (ix xs) 16 = sq (ix xs) xs.length :=
  sumN_more h fun i h1 _ => by rw [show ix xs i = 0 by simp [ix, List.getD, List.getElem?_eq_none h1]]; rfl

set_option maxHeartbeats 2000000 in
theorem implEnergyOf_any (v : Value) (xs : List Int) (w : World) (h : Rd w v xs) (hl : xs.length ≤ maxLen) :
    Calls Try.prog 33 #[v] w (Tells (energyF xs) w) := by
  have hv := implValid_any v xs w h hl
  cases hb : vrB xs with
  | true =>
    rw [hb] at hv
    have hle := (vrB_of hb).1
    have hF : Hid (energyF xs = wrap64 (sq (ix xs) 16)) := by show energyF xs = _; rw [sq_noughts xs hle]; unfold energyF; exact if_pos hb
    obtain ⟨F, hFF⟩ : ∃ F, F = ix xs := ⟨_, rfl⟩
    rw [← hFF] at hF
    go_enter Try.func33, Try.ntmps33
    go_wp2_with fail
    refine hv.mono ?_
    rintro e w1 ⟨rfl, b1⟩
    go_wp2_with fail
    refine (cellsOf_any v xs _ (h.below b1 (Nat.le_refl _)) hle).mono ?_
    rintro e w2 ⟨rfl, b2⟩
    rw [← hFF]
    clear hb hv h hFF
    have hst := store_new F w2
    have hld := load_new F w2
    have bb := bel_nxt b1 b2
    go_wp2_with (first | with_reducible refine wpList_loadv rfl (.tmp 3) 46 rfl _ rfl _ hld ?_ | with_reducible refine wpList_storev rfl (.tmp 3) (.tmp 8) 46 rfl _ rfl _ rfl hst ?_)
    refine (weighAt_any F _).mono ?_
    rintro e w3 ⟨rfl, b3⟩
    clear hst hld
    go_wp2
    go_ret
    exact ⟨ret_int (by rw [hF.out]), (bb.alloc bb.size _).trans (b3.mono (by have := bb.size; rw [size_one]; omega))⟩
  | false =>
    rw [hb] at hv
    have hF : Hid (energyF xs = -1) := by show energyF xs = _; unfold energyF; exact if_neg (by simp [hb])
    go_enter Try.func33, Try.ntmps33
    go_wp2_with fail
    refine hv.mono ?_
    rintro e w1 ⟨rfl, b1⟩
    go_wp2
    go_ret
    exact ⟨ret_int (by rw [hF.out]), b1⟩

end Go.Proofs.Ytgafiglfmkaniaa
