/-
  HalveOf, UnhalveOf, HalveAll, UnhalveAll of the model, by their contracts.
-/
import Derived.Test.YtgafiglfmkaniaaHvP
namespace Go.Proofs.Ytgafiglfmkaniaa
open Go.RowKit
set_option linter.unusedVariables false

def halF (xs : List Int) : List Int := if evB xs = true then halL xs else []
def unhF (xs : List Int) : List Int := if evB xs = true then unhL xs else []
theorem halF_yes {xs : List Int} (h : evB xs = true) : halF xs = halL xs := by unfold halF; exact if_pos h
theorem halF_no {xs : List Int} (h : evB xs = false) : halF xs = [] := by unfold halF; exact if_neg (by simp [h])
theorem unhF_yes {xs : List Int} (h : evB xs = true) : unhF xs = unhL xs := by unfold unhF; exact if_pos h
theorem unhF_no {xs : List Int} (h : evB xs = false) : unhF xs = [] := by unfold unhF; exact if_neg (by simp [h])
theorem halF_len (xs : List Int) (h : xs.length ≤ 1048576) : (halF xs).length ≤ 1048576 := by unfold halF; split <;> simp [len_halL, h]
theorem unhF_len (xs : List Int) (h : xs.length ≤ 1048576) : (unhF xs).length ≤ 1048576 := by unfold unhF; split <;> simp [len_unhL, h]
theorem vr_bd {xs : List Int} (h : vrB xs = true) : ∀ j, j < xs.length → -100000 ≤ ix xs j ∧ ix xs j ≤ 100000 := fun j hj => by have := (vrB_of h).2 j hj; omega
theorem half_two {n : Nat} (h : n % 2 = 0) : n = 2 * (n / 2) := by omega

theorem specHalveOf_any (v : Value) (xs : List Int) (w : World) (h : Rd w v xs) (hl : xs.length ≤ maxLen) :
    Calls Try.prog 13 #[v] w (Made 3 w (halF xs)) := by
  have hv := validEven_any v xs w h hl
  cases hb : evB xs with
  | true =>
    rw [hb] at hv
    obtain ⟨h1, h2⟩ := evB_of hb
    have hh := half_two h2
    have h16 := (vrB_of h1).1
    have HF := Lib.hid (show halF xs = tab (2 * (xs.length / 2)) (hS (xs.length / 2) (ix xs)) by rw [halF_yes hb, halL, ← hh])
    have HH := Lib.hid fun w (h : Rd w v xs) => spechalve_any v xs (xs.length / 2) w h hh (by omega) (vr_bd h1)
    have HX := Lib.hid h
    clear hb h1 h2 hh h
    go_enter Try.func13, Try.ntmps13
    go_wp2_with fail
    refine hv.mono ?_
    rintro e w1 ⟨rfl, b1⟩
    go_wp2_with fail
    refine (HH.out _ (HX.out.below b1 (Nat.le_refl _))).mono ?_
    rintro e w2 ⟨g, rfl, o2, b2⟩
    go_wp2
    go_ret
    exact ⟨_, rfl, by rw [HF.out]; exact o2.mono b1.size, bel_nxt b1 b2⟩
  | false =>
    rw [hb] at hv
    have HF := Lib.hid (halF_no hb)
    clear hb
    go_enter Try.func13, Try.ntmps13
    go_wp2_with fail
    refine hv.mono ?_
    rintro e w1 ⟨rfl, b1⟩
    go_wp2
    go_ret
    exact ⟨_, rfl, by rw [HF.out]; exact Own.nil _ _ _, b1⟩

theorem specUnhalveOf_any (v : Value) (xs : List Int) (w : World) (h : Rd w v xs) (hl : xs.length ≤ maxLen) :
    Calls Try.prog 17 #[v] w (Made 3 w (unhF xs)) := by
  have hv := validEven_any v xs w h hl
  cases hb : evB xs with
  | true =>
    rw [hb] at hv
    obtain ⟨h1, h2⟩ := evB_of hb
    have hh := half_two h2
    have h16 := (vrB_of h1).1
    have HF := Lib.hid (show unhF xs = tab (2 * (xs.length / 2)) (uS (xs.length / 2) (ix xs)) by rw [unhF_yes hb, unhL, ← hh])
    have HH := Lib.hid fun w (h : Rd w v xs) => specunhalve_any v xs (xs.length / 2) w h hh (by omega) (vr_bd h1)
    have HX := Lib.hid h
    clear hb h1 h2 hh h
    go_enter Try.func17, Try.ntmps17
    go_wp2_with fail
    refine hv.mono ?_
    rintro e w1 ⟨rfl, b1⟩
    go_wp2_with fail
    refine (HH.out _ (HX.out.below b1 (Nat.le_refl _))).mono ?_
    rintro e w2 ⟨g, rfl, o2, b2⟩
    go_wp2
    go_ret
    exact ⟨_, rfl, by rw [HF.out]; exact o2.mono b1.size, bel_nxt b1 b2⟩
  | false =>
    rw [hb] at hv
    have HF := Lib.hid (unhF_no hb)
    clear hb
    go_enter Try.func17, Try.ntmps17
    go_wp2_with fail
    refine hv.mono ?_
    rintro e w1 ⟨rfl, b1⟩
    go_wp2
    go_ret
    exact ⟨_, rfl, by rw [HF.out]; exact Own.nil _ _ _, b1⟩

end Go.Proofs.Ytgafiglfmkaniaa
