/-
  The law FnUnleapOf, as a contract.
-/
import Derived.Test.YtgafiglfmkaniaaHelpF
import Derived.Test.YtgafiglfmkaniaaFnM
import Derived.Test.YtgafiglfmkaniaaDraw4
import Derived.Test.YtgafiglfmkaniaaHvI
import Derived.Test.YtgafiglfmkaniaaHvV
namespace Go.Proofs.Ytgafiglfmkaniaa
open Go.RowKit
set_option linter.unusedVariables false

set_option maxHeartbeats 8000000 in
set_option maxRecDepth 100000 in
theorem lawUnleapOf_any (v : Value) (n : Nat) (w : World) (h : RdB w v n) :
    Calls Try.prog 8 #[v] w (Says true w) := by
  have h0 := h
  obtain ⟨a, cap, rfl, h1, h2, -⟩ := h0
  unfold maxLen at h2
  by_cases hbig : n ≤ 1048576
  · go_enter Try.func8, Try.ntmps8
    go_wp2_with fail
    refine (drawUnleapOf_any _ n _ h).mono ?_
    rintro e w1 ⟨v, xs, rfl, o, hl, hw, bb⟩
    clear h h1 h2 hbig
    have HI := Lib.hid fun w (v : Value) (h : Rd w v xs) => implUnleapOf_any v xs w h (Own.max64 hl)
    have HS := Lib.hid fun w (v : Value) (h : Rc w v xs) => specUnleapOf_any v xs w h (Own.max64 hl)
    have hM := Own.max64 hl
    obtain ⟨ys, hys⟩ : ∃ ys, ys = unlF xs := ⟨_, rfl⟩
    rw [← hys] at HI HS
    have hyl : ys.length ≤ 64 := by rw [hys]; exact (by unfold unlF; split <;> simp [len_unlL]; exact hl)
    have hyM := Own.max64 hyl
    have HE := Lib.hid fun w (a b : Value) (h1 : Rd w a ys) (h2 : Rd w b ys) => equalInts_any a b ys ys w h1 h2 hyM hyM
    have HYS := Lib.hid hys
    clear hys
    go_wp2_with fail
    refine (HI.out _ _ o.rd).mono ?_
    rintro e w2 ⟨u, rfl, p, b2⟩
    have o := o.below b2 (Nat.le_refl _)
    have bb := bel_nxt bb b2
    go_wp2_with fail
    refine (HS.out _ _ o.rc).mono ?_
    rintro e w3 ⟨u3, rfl, p3, b3⟩
    have o := o.below b3 (Nat.le_refl _)
    have p := p.below b3 (Nat.le_refl _)
    have bb := bel_nxt bb b3
    go_wp2_with fail
    refine (HE.out _ _ _ p.rd p3.rd).mono ?_
    rintro e w4 ⟨rfl, b4⟩
    rw [eqB_self]
    have o := o.below b4 (Nat.le_refl _)
    have p := p.below b4 (Nat.le_refl _)
    have bb := bel_nxt bb b4
    clear b2 b3 b4 p3
    by_cases hy0 : ys.length = 0
    · obtain ⟨a1, c1, rfl⟩ := own_slD p
      rw [hy0]
      rw [hy0] at p
      go_wp2_with fail
      refine (HS.out _ _ o.rc).mono ?_
      rintro e w5 ⟨u5, rfl, p5, b5⟩
      have p := p.below b5 (Nat.le_refl _)
      have bb := bel_nxt bb b5
      go_wp2_with fail
      refine (HE.out _ _ _ p.rd p5.rd).mono ?_
      rintro e w6 ⟨rfl, b6⟩
      rw [eqB_self]
      have bb := bel_nxt bb b6
      go_wp2
      go_ret
      exact ⟨rfl, bb⟩
    · have hcb : evB xs = true := by
        cases hb : evB xs with
        | true => rfl
        | false => have q := HYS.out; rw [unlF_no hb] at q; rw [q] at hy0; simp at hy0
      have hyL : ys = unlL xs := by rw [HYS.out]; exact unlF_yes hcb
      have hyn : ys.length = xs.length := by rw [hyL, len_unlL]
      have HV := Lib.hid fun w (v : Value) (h : Rd w v ys) => implValid_any v ys w h hyM
      have HX := Lib.hid fun w (a b : Value) (h1 : Rd w a xs) (h2 : Rd w b xs) => equalInts_any a b xs xs w h1 h2 hM hM
      obtain ⟨a1, c1, rfl⟩ := own_slD p
      obtain ⟨a2, c2, rfl⟩ := own_slD o
      rw [hyn] at p ⊢
      have i5 : ((xs.length : Int) == 0) = false := by rw [beq_eq_false_iff_ne]; omega
      have i6 : ((xs.length : Int) == (xs.length : Int)) = true := by simp
      cases hv : vrB ys with
      | false =>
        rw [hv] at HV
        clear hyL hyn hcb hy0 hv HI HS HYS
        go_wp2_with fail
        refine (HV.out _ _ p.rd).mono ?_
        rintro e w5 ⟨rfl, b5⟩
        have bb := bel_nxt bb b5
        go_wp2
        go_ret
        exact ⟨rfl, bb⟩
      | true =>
        rw [hv] at HV
        have HN := Lib.hid fun w (v : Value) (h : Rd w v ys) => implLeapOf_any v ys w h hyM
        rw [show lepF ys = xs by have hev := (evB_of hcb).2; rw [lepF_yes (show evB ys = true by rw [evB_eq hv, hyn]; exact decide_eq_true hev), hyL]; exact lep_unl hev] at HN
        clear hyL hyn hcb hy0 hv HI HS HYS
        go_wp2_with fail
        refine (HV.out _ _ p.rd).mono ?_
        rintro e w5 ⟨rfl, b5⟩
        have o := o.below b5 (Nat.le_refl _)
        have p := p.below b5 (Nat.le_refl _)
        have bb := bel_nxt bb b5
        go_wp2_with fail
        refine (HN.out _ _ p.rd).mono ?_
        rintro e w6 ⟨u6, rfl, p6, b6⟩
        have o := o.below b6 (Nat.le_refl _)
        have bb := bel_nxt bb b6
        go_wp2_with fail
        refine (HX.out _ _ _ p6.rd o.rd).mono ?_
        rintro e w7 ⟨rfl, b7⟩
        rw [eqB_self]
        have bb := bel_nxt bb b7
        go_wp2
        go_ret
        exact ⟨rfl, bb⟩
  · clear h
    go_enter Try.func8, Try.ntmps8
    go_wp2
    go_ret
    exact ⟨rfl, Below.refl _ _⟩

end Go.Proofs.Ytgafiglfmkaniaa
