/-
  HalveOf, UnhalveOf, LeapOf and UnleapOf of the program, by their contracts.
-/
import Derived.Test.YtgafiglfmkaniaaHvO
import Derived.Test.YtgafiglfmkaniaaHvJ
namespace Go.Proofs.Ytgafiglfmkaniaa
open Go.RowKit
set_option linter.unusedVariables false

set_option maxHeartbeats 1000000 in
theorem implHalveOf_any (v : Value) (xs : List Int) (w : World) (h : Rd w v xs) (hl : xs.length ≤ maxLen) :
    Calls Try.prog 11 #[v] w (Made 3 w (halF xs)) := by
  cases hb : evB xs with
  | false =>
    have HF := Lib.hid (halF_no hb)
    have HE := Lib.hid (evenCopy_no v xs w h hl hb)
    have HL := Lib.hid fun w => liftH0_any none w
    obtain ⟨a, cap, rfl, -⟩ := h
    clear hb hl
    go_enter Try.func11, Try.ntmps11
    go_wp2_with (first
      | (go_at_call 36; refine HE.out.mono ?_; rintro e w1 ⟨rfl, b1⟩)
      | (go_at_call 37; refine (HL.out _).mono ?_; rintro e w2 ⟨rfl, b2⟩))
    go_ret
    exact ⟨_, rfl, by rw [HF.out]; exact Own.nil _ _ _, b1.trans (b2.mono b1.size)⟩
  | true =>
    obtain ⟨h1, h2⟩ := evB_of hb
    have hx := (vrB_of h1).1
    have hbd := vr_bd h1
    obtain ⟨m, hm⟩ : ∃ m, xs.length = 2 * m := ⟨_, half_two h2⟩
    obtain ⟨F, hF⟩ : ∃ F, F = ix xs := ⟨_, rfl⟩
    have hxs : xs = tab (2 * m) F := by rw [hF, ← hm]; exact (tab_self xs).symm
    have HF := Lib.hid (show halF xs = tab (2 * m) (lftF gsH shH m F) by
      rw [halF_yes hb]; unfold halL; rw [hm, ← hF, show 2 * m / 2 = m by omega]; exact (lftH (2 * m) m F).symm)
    have HE : Calls Try.prog 36 #[v] w fun e w' => ∃ g, e = .returned (.slice (some ⟨g, 0, none⟩) (2 * m) (2 * m)) ∧ w.heap.size ≤ g ∧ Own 3 w.heap.size w' (.slice (some ⟨g, 0, none⟩) (2 * m) (2 * m)) (tab (2 * m) F) ∧ Below w.heap.size w w' := by
      refine (evenCopy_yes v xs w h hl hb).mono ?_
      rintro e w' ⟨g, rfl, hg, o, b⟩
      rw [hm] at o ⊢
      rw [← hxs]
      exact ⟨g, rfl, hg, o, b⟩
    have HE := Lib.hid HE
    rw [← hF, hm] at hbd
    rw [hm] at hx
    have HBD := Lib.hid hbd
    obtain ⟨a, cap, rfl, -⟩ := h
    clear hb h1 h2 hm hF hxs hbd hl
    by_cases h0 : m = 0
    · subst h0
      have HL := Lib.hid fun a w => liftH0_any a w
      go_enter Try.func11, Try.ntmps11
      go_wp2_with (first
        | (go_at_call 36; refine HE.out.mono ?_; rintro e w1 ⟨g, rfl, hg, o1, b1⟩)
        | (go_at_call 37; refine (HL.out _ _).mono ?_; rintro e w2 ⟨rfl, b2⟩))
      go_ret
      exact ⟨_, rfl, by rw [HF.out]; exact o1.below b2 (Nat.le_refl _), b1.trans (b2.mono b1.size)⟩
    · have HL := Lib.hid fun g w1 (o : Own 3 w.heap.size w1 (.slice (some ⟨g, 0, none⟩) (2 * m) (2 * m)) (tab (2 * m) F)) => liftH_any w.heap.size g (2 * m) (2 * m) (2 * m) m F w1 o (by omega) (Nat.le_refl _) (Nat.le_refl _) (by omega) (fun j hj => by have := HBD.out j hj; omega)
      clear hx
      go_enter Try.func11, Try.ntmps11
      go_wp2_with (first
        | (go_at_call 36; refine HE.out.mono ?_; rintro e w1 ⟨g, rfl, hg, o1, b1⟩)
        | (go_at_call 37; refine (HL.out _ _ o1).mono ?_; rintro e w2 ⟨rfl, o2, b2⟩))
      go_ret
      exact ⟨_, rfl, by rw [HF.out]; exact o2, b1.trans b2⟩

set_option maxHeartbeats 1000000 in
theorem implUnhalveOf_any (v : Value) (xs : List Int) (w : World) (h : Rd w v xs) (hl : xs.length ≤ maxLen) :
    Calls Try.prog 15 #[v] w (Made 3 w (unhF xs)) := by
  cases hb : evB xs with
  | false =>
    have HF := Lib.hid (unhF_no hb)
    have HE := Lib.hid (evenCopy_no v xs w h hl hb)
    have HL := Lib.hid fun w => lowerH0_any none w
    obtain ⟨a, cap, rfl, -⟩ := h
    clear hb hl
    go_enter Try.func15, Try.ntmps15
    go_wp2_with (first
      | (go_at_call 36; refine HE.out.mono ?_; rintro e w1 ⟨rfl, b1⟩)
      | (go_at_call 40; refine (HL.out _).mono ?_; rintro e w2 ⟨rfl, b2⟩))
    go_ret
    exact ⟨_, rfl, by rw [HF.out]; exact Own.nil _ _ _, b1.trans (b2.mono b1.size)⟩
  | true =>
    obtain ⟨h1, h2⟩ := evB_of hb
    have hx := (vrB_of h1).1
    have hbd := vr_bd h1
    obtain ⟨m, hm⟩ : ∃ m, xs.length = 2 * m := ⟨_, half_two h2⟩
    obtain ⟨F, hF⟩ : ∃ F, F = ix xs := ⟨_, rfl⟩
    have hxs : xs = tab (2 * m) F := by rw [hF, ← hm]; exact (tab_self xs).symm
    have HF := Lib.hid (show unhF xs = tab (2 * m) (lowF gsH shH m F) by
      rw [unhF_yes hb]; unfold unhL; rw [hm, ← hF, show 2 * m / 2 = m by omega]; exact (lowH (2 * m) m F).symm)
    have HE : Calls Try.prog 36 #[v] w fun e w' => ∃ g, e = .returned (.slice (some ⟨g, 0, none⟩) (2 * m) (2 * m)) ∧ w.heap.size ≤ g ∧ Own 3 w.heap.size w' (.slice (some ⟨g, 0, none⟩) (2 * m) (2 * m)) (tab (2 * m) F) ∧ Below w.heap.size w w' := by
      refine (evenCopy_yes v xs w h hl hb).mono ?_
      rintro e w' ⟨g, rfl, hg, o, b⟩
      rw [hm] at o ⊢
      rw [← hxs]
      exact ⟨g, rfl, hg, o, b⟩
    have HE := Lib.hid HE
    rw [← hF, hm] at hbd
    rw [hm] at hx
    have HBD := Lib.hid hbd
    obtain ⟨a, cap, rfl, -⟩ := h
    clear hb h1 h2 hm hF hxs hbd hl
    by_cases h0 : m = 0
    · subst h0
      have HL := Lib.hid fun a w => lowerH0_any a w
      go_enter Try.func15, Try.ntmps15
      go_wp2_with (first
        | (go_at_call 36; refine HE.out.mono ?_; rintro e w1 ⟨g, rfl, hg, o1, b1⟩)
        | (go_at_call 40; refine (HL.out _ _).mono ?_; rintro e w2 ⟨rfl, b2⟩))
      go_ret
      exact ⟨_, rfl, by rw [HF.out]; exact o1.below b2 (Nat.le_refl _), b1.trans (b2.mono b1.size)⟩
    · have HL := Lib.hid fun g w1 (o : Own 3 w.heap.size w1 (.slice (some ⟨g, 0, none⟩) (2 * m) (2 * m)) (tab (2 * m) F)) => lowerH_any w.heap.size g (2 * m) (2 * m) (2 * m) m F w1 o (by omega) (Nat.le_refl _) (Nat.le_refl _) (by omega) (fun j hj => by have := HBD.out j hj; omega)
      clear hx
      go_enter Try.func15, Try.ntmps15
      go_wp2_with (first
        | (go_at_call 36; refine HE.out.mono ?_; rintro e w1 ⟨g, rfl, hg, o1, b1⟩)
        | (go_at_call 40; refine (HL.out _ _ o1).mono ?_; rintro e w2 ⟨rfl, o2, b2⟩))
      go_ret
      exact ⟨_, rfl, by rw [HF.out]; exact o2, b1.trans b2⟩

set_option maxHeartbeats 1000000 in
theorem implLeapOf_any (v : Value) (xs : List Int) (w : World) (h : Rd w v xs) (hl : xs.length ≤ maxLen) :
    Calls Try.prog 25 #[v] w (Made 3 w (lepF xs)) := by
  cases hb : evB xs with
  | false =>
    have HF := Lib.hid (lepF_no hb)
    have HE := Lib.hid (evenCopy_no v xs w h hl hb)
    have HL := Lib.hid fun w => liftL0_any none w
    obtain ⟨a, cap, rfl, -⟩ := h
    clear hb hl
    go_enter Try.func25, Try.ntmps25
    go_wp2_with (first
      | (go_at_call 36; refine HE.out.mono ?_; rintro e w1 ⟨rfl, b1⟩)
      | (go_at_call 37; refine (HL.out _).mono ?_; rintro e w2 ⟨rfl, b2⟩))
    go_ret
    exact ⟨_, rfl, by rw [HF.out]; exact Own.nil _ _ _, b1.trans (b2.mono b1.size)⟩
  | true =>
    obtain ⟨h1, h2⟩ := evB_of hb
    have hx := (vrB_of h1).1
    have hbd := vr_bd h1
    obtain ⟨m, hm⟩ : ∃ m, xs.length = 2 * m := ⟨_, half_two h2⟩
    obtain ⟨F, hF⟩ : ∃ F, F = ix xs := ⟨_, rfl⟩
    have hxs : xs = tab (2 * m) F := by rw [hF, ← hm]; exact (tab_self xs).symm
    have HF := Lib.hid (show lepF xs = tab (2 * m) (lftF gsL shL m F) by
      rw [lepF_yes hb]; unfold lepL; rw [hm, ← hF, show 2 * m / 2 = m by omega]; exact (lftL m F).symm)
    have HE : Calls Try.prog 36 #[v] w fun e w' => ∃ g, e = .returned (.slice (some ⟨g, 0, none⟩) (2 * m) (2 * m)) ∧ w.heap.size ≤ g ∧ Own 3 w.heap.size w' (.slice (some ⟨g, 0, none⟩) (2 * m) (2 * m)) (tab (2 * m) F) ∧ Below w.heap.size w w' := by
      refine (evenCopy_yes v xs w h hl hb).mono ?_
      rintro e w' ⟨g, rfl, hg, o, b⟩
      rw [hm] at o ⊢
      rw [← hxs]
      exact ⟨g, rfl, hg, o, b⟩
    have HE := Lib.hid HE
    rw [← hF, hm] at hbd
    rw [hm] at hx
    have HBD := Lib.hid hbd
    obtain ⟨a, cap, rfl, -⟩ := h
    clear hb h1 h2 hm hF hxs hbd hl
    by_cases h0 : m = 0
    · subst h0
      have HL := Lib.hid fun a w => liftL0_any a w
      go_enter Try.func25, Try.ntmps25
      go_wp2_with (first
        | (go_at_call 36; refine HE.out.mono ?_; rintro e w1 ⟨g, rfl, hg, o1, b1⟩)
        | (go_at_call 37; refine (HL.out _ _).mono ?_; rintro e w2 ⟨rfl, b2⟩))
      go_ret
      exact ⟨_, rfl, by rw [HF.out]; exact o1.below b2 (Nat.le_refl _), b1.trans (b2.mono b1.size)⟩
    · have HL := Lib.hid fun g w1 (o : Own 3 w.heap.size w1 (.slice (some ⟨g, 0, none⟩) (2 * m) (2 * m)) (tab (2 * m) F)) => liftL_any w.heap.size g (2 * m) (2 * m) (2 * m) m F w1 o (by omega) (Nat.le_refl _) (Nat.le_refl _) (by omega) (fun j hj => by have := HBD.out j hj; omega)
      clear hx
      go_enter Try.func25, Try.ntmps25
      go_wp2_with (first
        | (go_at_call 36; refine HE.out.mono ?_; rintro e w1 ⟨g, rfl, hg, o1, b1⟩)
        | (go_at_call 37; refine (HL.out _ _ o1).mono ?_; rintro e w2 ⟨rfl, o2, b2⟩))
      go_ret
      exact ⟨_, rfl, by rw [HF.out]; exact o2, b1.trans b2⟩

set_option maxHeartbeats 1000000 in
theorem implUnleapOf_any (v : Value) (xs : List Int) (w : World) (h : Rd w v xs) (hl : xs.length ≤ maxLen) :
    Calls Try.prog 27 #[v] w (Made 3 w (unlF xs)) := by
  cases hb : evB xs with
  | false =>
    have HF := Lib.hid (unlF_no hb)
    have HE := Lib.hid (evenCopy_no v xs w h hl hb)
    have HL := Lib.hid fun w => lowerL0_any none w
    obtain ⟨a, cap, rfl, -⟩ := h
    clear hb hl
    go_enter Try.func27, Try.ntmps27
    go_wp2_with (first
      | (go_at_call 36; refine HE.out.mono ?_; rintro e w1 ⟨rfl, b1⟩)
      | (go_at_call 40; refine (HL.out _).mono ?_; rintro e w2 ⟨rfl, b2⟩))
    go_ret
    exact ⟨_, rfl, by rw [HF.out]; exact Own.nil _ _ _, b1.trans (b2.mono b1.size)⟩
  | true =>
    obtain ⟨h1, h2⟩ := evB_of hb
    have hx := (vrB_of h1).1
    have hbd := vr_bd h1
    obtain ⟨m, hm⟩ : ∃ m, xs.length = 2 * m := ⟨_, half_two h2⟩
    obtain ⟨F, hF⟩ : ∃ F, F = ix xs := ⟨_, rfl⟩
    have hxs : xs = tab (2 * m) F := by rw [hF, ← hm]; exact (tab_self xs).symm
    have HF := Lib.hid (show unlF xs = tab (2 * m) (lowF gsL shL m F) by
      rw [unlF_yes hb]; unfold unlL; rw [hm, ← hF, show 2 * m / 2 = m by omega]; exact (lowL m F).symm)
    have HE : Calls Try.prog 36 #[v] w fun e w' => ∃ g, e = .returned (.slice (some ⟨g, 0, none⟩) (2 * m) (2 * m)) ∧ w.heap.size ≤ g ∧ Own 3 w.heap.size w' (.slice (some ⟨g, 0, none⟩) (2 * m) (2 * m)) (tab (2 * m) F) ∧ Below w.heap.size w w' := by
      refine (evenCopy_yes v xs w h hl hb).mono ?_
      rintro e w' ⟨g, rfl, hg, o, b⟩
      rw [hm] at o ⊢
      rw [← hxs]
      exact ⟨g, rfl, hg, o, b⟩
    have HE := Lib.hid HE
    rw [← hF, hm] at hbd
    rw [hm] at hx
    have HBD := Lib.hid hbd
    obtain ⟨a, cap, rfl, -⟩ := h
    clear hb h1 h2 hm hF hxs hbd hl
    by_cases h0 : m = 0
    · subst h0
      have HL := Lib.hid fun a w => lowerL0_any a w
      go_enter Try.func27, Try.ntmps27
      go_wp2_with (first
        | (go_at_call 36; refine HE.out.mono ?_; rintro e w1 ⟨g, rfl, hg, o1, b1⟩)
        | (go_at_call 40; refine (HL.out _ _).mono ?_; rintro e w2 ⟨rfl, b2⟩))
      go_ret
      exact ⟨_, rfl, by rw [HF.out]; exact o1.below b2 (Nat.le_refl _), b1.trans (b2.mono b1.size)⟩
    · have HL := Lib.hid fun g w1 (o : Own 3 w.heap.size w1 (.slice (some ⟨g, 0, none⟩) (2 * m) (2 * m)) (tab (2 * m) F)) => lowerL_any w.heap.size g (2 * m) (2 * m) (2 * m) m F w1 o (by omega) (Nat.le_refl _) (Nat.le_refl _) (by omega) (fun j hj => by have := HBD.out j hj; omega)
      clear hx
      go_enter Try.func27, Try.ntmps27
      go_wp2_with (first
        | (go_at_call 36; refine HE.out.mono ?_; rintro e w1 ⟨g, rfl, hg, o1, b1⟩)
        | (go_at_call 40; refine (HL.out _ _ o1).mono ?_; rintro e w2 ⟨rfl, o2, b2⟩))
      go_ret
      exact ⟨_, rfl, by rw [HF.out]; exact o2, b1.trans b2⟩

end Go.Proofs.Ytgafiglfmkaniaa
