/-
  WaveOf of the program, by their contracts.
-/
import Derived.Test.YtabbfehjgchmgabWvB
namespace Go.Proofs.Ytabbfehjgchmgab
open Go.RowKit
set_option linter.unusedVariables false

def waveF (xs : List Int) : List Int := if vsB xs = true then waveR xs else []
theorem waveF_yes {xs : List Int} (h : vsB xs = true) : waveF xs = waveR xs := by unfold waveF; exact if_pos h
theorem waveF_no {xs : List Int} (h : vsB xs = false) : waveF xs = [] := by unfold waveF; exact if_neg (by simp [h])
theorem vs_len96 {xs : List Int} (h : vsB xs = true) : xs.length ≤ 96 := ((vsB_iff xs).1 h).few
theorem rt_bd {n : Nat} (h0 : 0 < n) (h1 : n ≤ 96) (h2 : 96 % n = 0) : 0 < rtN n ∧ rtN n < 97 := ⟨(rt_facts n (by omega) h0 h2).1, (rt_facts n (by omega) h0 h2).2.1⟩
theorem rest_mod {x : Nat} (h : x < 97) : (x : Int) % 97 = (x : Int) := by omega
theorem waveL_rest (xs : List Int) (r : Nat) : ∀ j, j < (waveL xs r).length → 0 ≤ ix (waveL xs r) j ∧ ix (waveL xs r) j ≤ 96 := by
  intro j hj
  rw [len_waveL] at hj
  rw [ix_waveL _ _ hj]
  omega

set_option maxHeartbeats 4000000 in
theorem implWaveOf_any (v : Value) (xs : List Int) (w : World) (h : Rd w v xs) (hl : xs.length ≤ maxLen) :
    Calls Try.prog 21 #[v] w (Made 3 w (waveF xs)) := by
  have hv := implValidRests_any v xs w h hl
  cases hb : vsB xs with
  | true =>
    rw [hb] at hv
    have hV := (vsB_iff xs).1 hb
    obtain ⟨hn0, hn1, hdv⟩ : 0 < xs.length ∧ xs.length ≤ 96 ∧ 96 % xs.length = 0 := ⟨hV.some, hV.few, hV.div⟩
    have HR := Lib.hid (rootF_yes hn0 hn1 hdv)
    obtain ⟨hr0, hr1⟩ := rt_bd hn0 hn1 hdv
    have HM := Lib.hid (rest_mod hr1)
    have HF := Lib.hid (show waveF xs = waveL xs (rtN xs.length) from waveF_yes hb)
    have HA := Lib.hid fun w (v : Value) (h : Rd w v xs) => restsOf_any v xs w h hn0 hn1 hV.rest
    have HB := Lib.hid fun w (v : Value) (h : Rd w v xs) => waveBy_any (rtN xs.length) v xs w h hr1 hn0 hn1 hV.rest
    have HC := Lib.hid fun w (v : Value) (h : Rd w v (waveL xs (rtN xs.length))) => numbersOf_any v _ w h (by rw [len_waveL]; exact hn0) (by rw [len_waveL]; exact hn1)
    obtain ⟨r, hr⟩ : ∃ r, r = rtN xs.length := ⟨_, rfl⟩
    rw [← hr] at HR HM HF HB HC hr0 hr1
    have HH := Lib.hid h
    obtain ⟨a, cap, rfl, -⟩ := h
    clear hb hV hdv hr
    go_enter Try.func21, Try.ntmps21
    go_wp2_with fail
    refine hv.mono ?_
    rintro e w1 ⟨rfl, rfl⟩
    go_wp2_with fail
    refine (implRootOf_any _ _).mono ?_
    rintro e w1 ⟨rfl, b1⟩
    rw [HR.out]
    go_wp2_with fail
    refine (restOf_any _ _ (by omega) (by omega)).mono ?_
    rintro e w2 ⟨rfl, b2⟩
    rw [HM.out]
    have bb := bel_nxt b1 b2
    have bA := bb.alloc bb.size (.cells #[.int .i64 r] 36)
    have hc := cell_new1 w2 (.int .i64 r) 36
    have hs : w2.heap.size < (w2.alloc (.cells #[.int .i64 r] 36)).heap.size := by simp
    have o := HH.out.below bA (Nat.le_refl _)
    have oD := o.drew
    have hsD : w2.heap.size < (w2.alloc (.cells #[.int .i64 r] 36)).drew.heap.size := hs
    have bD := below_drewN bA 1
    clear hv b1 b2 bb bA hs o HH
    go_wp2
    go_region_held3 (fun w' => w'.cell? ⟨w2.heap.size, 0, none⟩ = some (.int .i64 r)) (first | exact hc | go_keep)
      (first
        | (go_at_call 43; refine (HA.out _ _ oD).mono ?_; rintro e w3 ⟨g3, rfl, hg3, p3, b3⟩; have hc := (b3.cell (p := ⟨w2.heap.size, 0, none⟩) hsD).trans hc; have hsD := Nat.lt_of_lt_of_le hsD b3.size; have bD := bel_nxt bD b3)
        | (go_at_call 42; refine (HB.out _ _ p3.rd).mono ?_; rintro e w4 ⟨v4, rfl, p4, b4⟩; have hc := (b4.cell (p := ⟨w2.heap.size, 0, none⟩) hsD).trans hc; have hsD := Nat.lt_of_lt_of_le hsD b4.size; have bD := bel_nxt bD b4)
        | (go_at_call 41; refine (HC.out _ _ p4.rd).mono ?_; rintro e w5 ⟨g5, rfl, hg5, p5, b5⟩; have hc := (b5.cell (p := ⟨w2.heap.size, 0, none⟩) hsD).trans hc; have hsD := Nat.lt_of_lt_of_le hsD b5.size; have hs4 := bD.size; have bD := bel_nxt bD b5))
    all_goals
      have HP := p5.mono hs4
      simp only [len_waveL] at HP
      have HP := Lib.hid HP
      clear hc p3 p4 p5
      go_wp2
      go_ret
      exact ⟨_, rfl, by rw [HF.out]; exact HP.out, bD⟩
  | false =>
    rw [hb] at hv
    have HF := Lib.hid (waveF_no hb)
    clear hb
    go_enter Try.func21, Try.ntmps21
    go_wp2_with fail
    refine hv.mono ?_
    rintro e w1 ⟨rfl, rfl⟩
    go_wp2
    go_ret
    exact ⟨_, rfl, by rw [HF.out]; exact Own.nil _ _ _, Below.refl _ _⟩

end Go.Proofs.Ytabbfehjgchmgab
