/-
  The law FnUndivisorSums, as a contract.
-/
import Derived.Test.YtjdlolahjikegaaFnM
import Derived.Test.YtjdlolahjikegaaHelpF
import Derived.Test.YtjdlolahjikegaaLawM
import Derived.Test.YtjdlolahjikegaaDrawRow
import Derived.Test.YtjdlolahjikegaaSDivs
namespace Go.Proofs.Ytjdlolahjikegaa
open Go.RowKit
set_option linter.unusedVariables false

set_option maxHeartbeats 1600000 in
theorem lawUndivisorSums_any (v : Value) (n : Nat) (w : World) (h : RdB w v n) :
    Calls Try.prog 12 #[v] w (Says true w) := by
  have h0 := h
  obtain ⟨a, cap, rfl, h1, h2, -⟩ := h0
  unfold maxLen at h2
  by_cases hbig : n ≤ 1048576
  · go_enter Try.func12, Try.ntmps12
    go_wp2_with fail
    refine (drawUndivisorSums_any _ n _ h).mono ?_
    rintro e w1 ⟨v, xs, rfl, o, hl, hw, bb⟩
    have hM := Own.max64 hl
    clear h
    have HI := Lib.hid fun w (v : Value) (h : Rd w v xs) => implUndivisorSums_any v xs w h hM hw
    have HS := Lib.hid fun w (v : Value) (h : Rd w v xs) => specUndivisorSums_any v xs w h hM hw
    have HV := Lib.hid fun w (v : Value) (h : Rd w v xs) => implValid_any v xs w h hM
    obtain ⟨ys, hys⟩ : ∃ ys, ys = undivF xs := ⟨_, rfl⟩
    rw [← hys] at HI HS
    have hyl : ys.length ≤ 64 := by rw [hys]; unfold undivF; split <;> simp [undivL]; exact hl
    have hyM := Own.max64 hyl
    have HE := Lib.hid fun w (a b : Value) (h1 : Rd w a ys) (h2 : Rd w b ys) => equalInts_any a b ys ys w h1 h2 hyM hyM
    have HEX := Lib.hid fun w (a b : Value) (h1 : Rd w a xs) (h2 : Rd w b xs) => equalInts_any a b xs xs w h1 h2 hM hM
    have HVY := Lib.hid fun w (v : Value) (h : Rd w v ys) => implValid_any v ys w h hyM
    have HYS := Lib.hid hys
    clear hys
    obtain ⟨a1, c1, rfl⟩ := own_sl o
    go_wp2_with fail
    refine (HI.out _ _ o.rd).mono ?_
    rintro e w2 ⟨u, rfl, p, b2⟩
    have o := o.below b2 (Nat.le_refl _)
    have bb := bel_nxt bb b2
    obtain ⟨a2, c2, rfl⟩ := own_sl p
    go_wp2_with fail
    refine (HS.out _ _ o.rd).mono ?_
    rintro e w3 ⟨u3, rfl, p3, b3⟩
    have o := o.below b3 (Nat.le_refl _)
    have p := p.below b3 (Nat.le_refl _)
    have bb := bel_nxt bb b3
    go_wp2_with fail
    refine (HE.out _ _ _ p.rd p3.rd).mono ?_
    rintro e w4 ⟨rfl, b4⟩
    rw [eqB_self]
    have o := o.below b4 (Nat.le_refl _)
    have p := p.below b4 (Nat.le_refl _)
    have bb := bel_nxt bb b4
    go_wp2_with fail
    refine (HV.out _ _ o.rd).mono ?_
    rintro e w5 ⟨rfl, b5⟩
    have o := o.below b5 (Nat.le_refl _)
    have p := p.below b5 (Nat.le_refl _)
    have bb := bel_nxt bb b5
    clear b2 b3 b4 b5 p3
    cases hvx : vrB xs with
    | false =>
      go_wp2_with fail
      refine (HS.out _ _ o.rd).mono ?_
      rintro e w6 ⟨u6, rfl, p6, b6⟩
      have p := p.below b6 (Nat.le_refl _)
      have bb := bel_nxt bb b6
      go_wp2_with fail
      refine (HE.out _ _ _ p.rd p6.rd).mono ?_
      rintro e w7 ⟨rfl, b7⟩
      rw [eqB_self]
      have bb := bel_nxt bb b7
      go_wp2
      go_ret
      exact ⟨rfl, bb⟩
    | true =>
      have hyL : ys = undivL xs := by rw [HYS.out, undivF, if_pos hvx]
      have hyn : ys.length = xs.length := by rw [hyL]; simp [undivL]
      cases hvy : vrB ys with
      | false =>
        rw [hvy] at HVY
        rw [hyn] at p ⊢
        clear hyL hyn hvx hvy
        go_wp2_with fail
        refine (HVY.out _ _ p.rd).mono ?_
        rintro e w6 ⟨rfl, b6⟩
        have bb := bel_nxt bb b6
        go_wp2
        go_ret
        exact ⟨rfl, bb⟩
      | true =>
        rw [hvy] at HVY
        have hst : divF ys = xs := by rw [hyL]; rw [hyL] at hvy; rw [divF, if_pos hvy, div_undiv hw]
        have HST := Lib.hid fun w (v : Value) (h : Rd w v ys) => implDivisorSums_any v ys w h hyM (by rw [hyL]; exact tabw_wf _ _)
        rw [hst] at HST
        rw [hyn] at p ⊢
        clear hyL hyn hvx hvy hst
        go_wp2_with fail
        refine (HVY.out _ _ p.rd).mono ?_
        rintro e w6 ⟨rfl, b6⟩
        have o := o.below b6 (Nat.le_refl _)
        have p := p.below b6 (Nat.le_refl _)
        have bb := bel_nxt bb b6
        go_wp2_with fail
        refine (HST.out _ _ p.rd).mono ?_
        rintro e w7 ⟨u7, rfl, p7, b7⟩
        have o := o.below b7 (Nat.le_refl _)
        have bb := bel_nxt bb b7
        go_wp2_with fail
        refine (HEX.out _ _ _ p7.rd o.rd).mono ?_
        rintro e w8 ⟨rfl, b8⟩
        rw [eqB_self]
        have bb := bel_nxt bb b8
        go_wp2
        go_ret
        exact ⟨rfl, bb⟩
  · clear h
    go_enter Try.func12, Try.ntmps12
    go_wp2
    go_ret
    exact ⟨rfl, Below.refl _ _⟩

end Go.Proofs.Ytjdlolahjikegaa
