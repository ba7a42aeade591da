/-
  LeapOf of the model, by its contract; what leaps come to.
-/
import Derived.Test.YtgafiglfmkaniaaHvT
namespace Go.Proofs.Ytgafiglfmkaniaa
open Go.RowKit
set_option linter.unusedVariables false

def lepF (xs : List Int) : List Int := if evB xs = true then lepL xs else []
def unlF (xs : List Int) : List Int := if evB xs = true then unlL xs else []
theorem lepF_yes {xs : List Int} (h : evB xs = true) : lepF xs = lepL xs := by unfold lepF; exact if_pos h
theorem lepF_no {xs : List Int} (h : evB xs = false) : lepF xs = [] := by unfold lepF; exact if_neg (by simp [h])
theorem unlF_yes {xs : List Int} (h : evB xs = true) : unlF xs = unlL xs := by unfold unlF; exact if_pos h
theorem unlF_no {xs : List Int} (h : evB xs = false) : unlF xs = [] := by unfold unlF; exact if_neg (by simp [h])
theorem lepF_len (xs : List Int) (h : xs.length ≤ 1048576) : (lepF xs).length ≤ 1048576 := by unfold lepF; split <;> simp [len_lepL, h]
theorem unlF_len (xs : List Int) (h : xs.length ≤ 1048576) : (unlF xs).length ≤ 1048576 := by unfold unlF; split <;> simp [len_unlL, h]

/-- Slice value v reads as xs, and has room for them. -/
def Rc (w : World) (v : Value) (xs : List Int) : Prop := Rd w v xs ∧ ∀ a n c, v = .slice a n c → n ≤ c
theorem Own.rc {E B : Nat} {w : World} {v : Value} {xs : List Int} (h : Own E B w v xs) : Rc w v xs := by
  refine ⟨h.rd, fun a n c e => ?_⟩
  rcases h.2 with ⟨h', h0⟩ | ⟨g', cap', cur, h', _, _, hn, _⟩
  · rw [e] at h'; simp only [Value.slice.injEq] at h'; omega
  · rw [e] at h'; simp only [Value.slice.injEq] at h'; omega

theorem specLeapOf_any (v : Value) (xs : List Int) (w : World) (h : Rd w v xs) (hl : xs.length ≤ maxLen) :
    Calls Try.prog 26 #[v] w (Made 3 w (lepF xs)) := by
  have hv := validEven_any v xs w h hl
  cases hb : evB xs with
  | true =>
    rw [hb] at hv
    obtain ⟨h1, h2⟩ := evB_of hb
    have hh := half_two h2
    have h16 := (vrB_of h1).1
    have HF := Lib.hid (show lepF xs = tab (2 * (xs.length / 2)) (lpF (xs.length / 2) (ix xs)) by rw [lepF_yes hb, lepL, ← hh])
    have HH := Lib.hid fun w (h : Rd w v xs) => specleap_any v xs (xs.length / 2) w h hh (by omega) (vr_bd h1)
    have HX := Lib.hid h
    clear hb h1 h2 hh h
    go_enter Try.func26, Try.ntmps26
    go_wp2_with fail
    refine hv.mono ?_
    rintro e w1 ⟨rfl, b1⟩
    go_wp2_with fail
    refine (HH.out _ (HX.out.below b1 (Nat.le_refl _))).mono ?_
    rintro e w2 ⟨g, rfl, o2, b2⟩
    go_wp2
    go_ret
    exact ⟨_, rfl, by rw [HF.out]; exact o2.mono b1.size, bel_nxt b1 b2⟩
  | false =>
    rw [hb] at hv
    have HF := Lib.hid (lepF_no hb)
    clear hb
    go_enter Try.func26, Try.ntmps26
    go_wp2_with fail
    refine hv.mono ?_
    rintro e w1 ⟨rfl, b1⟩
    go_wp2
    go_ret
    exact ⟨_, rfl, by rw [HF.out]; exact Own.nil _ _ _, b1⟩

end Go.Proofs.Ytgafiglfmkaniaa
