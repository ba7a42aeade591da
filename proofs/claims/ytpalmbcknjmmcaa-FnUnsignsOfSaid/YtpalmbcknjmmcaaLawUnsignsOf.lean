/-
  The law FnUnsignsOf, as a contract.
-/
import Derived.Test.YtpalmbcknjmmcaaFnM
import Derived.Test.YtpalmbcknjmmcaaHelpF
import Derived.Test.YtpalmbcknjmmcaaLawM
import Derived.Test.YtpalmbcknjmmcaaDraw2
import Derived.Test.YtpalmbcknjmmcaaSgLaw
import Derived.Test.YtpalmbcknjmmcaaSgQ
namespace Go.Proofs.Ytpalmbcknjmmcaa
open Go.RowKit
set_option linter.unusedVariables false

set_option maxHeartbeats 4000000 in
set_option maxRecDepth 100000 in
theorem lawUnsignsOf_any (v : Value) (n : Nat) (w : World) (h : RdB w v n) :
    Calls Try.prog 7 #[v] w (Says true w) := by
  have h0 := h
  obtain ⟨a, cap, rfl, h1, h2, -⟩ := h0
  unfold maxLen at h2
  by_cases hbig : n ≤ 1048576
  · go_enter Try.func7, Try.ntmps7
    go_wp2_with fail
    refine (drawUnsignsOf_any _ n _ h).mono ?_
    rintro e w1 ⟨v, xs, rfl, o, hl, hw, bb⟩
    have hM := Own.max64 hl
    clear h h1 h2 hbig
    have HI := Lib.hid fun w (v : Value) (h : Rd w v xs) => implUnsignsOf_any v xs w h hM hw
    have HS := Lib.hid fun w (v : Value) (h : Rd w v xs) => specUnsignsOf_any v xs w h hM hw
    obtain ⟨ys, hys⟩ : ∃ ys, ys = unsL xs := ⟨_, rfl⟩
    rw [← hys] at HI HS
    have hyl : ys.length ≤ 1048576 := by rw [hys]; exact unsL_len xs (by omega)
    have hyM : ys.length ≤ maxLen := by unfold maxLen; omega
    have HE := Lib.hid fun w (a b : Value) (h1 : Rd w a ys) (h2 : Rd w b ys) => equalInts_any a b ys ys w h1 h2 hyM hyM
    have HYS := Lib.hid hys
    clear hys
    obtain ⟨a1, c1, rfl⟩ := own_sl o
    go_wp2_with fail
    refine (HI.out _ _ o.rd).mono ?_
    rintro e w2 ⟨u, rfl, p, b2⟩
    have o := o.below b2 (Nat.le_refl _)
    have bb := bel_nxt bb b2
    obtain ⟨a2, c2, rfl⟩ := own_sl p
    go_wp2_with fail
    refine (HS.out _ _ o.rd).mono ?_
    rintro e w3 ⟨u3, rfl, p3, b3⟩
    have o := o.below b3 (Nat.le_refl _)
    have p := p.below b3 (Nat.le_refl _)
    have bb := bel_nxt bb b3
    obtain ⟨a3, c3, rfl⟩ := own_sl p3
    go_wp2_with fail
    refine (HE.out _ _ _ p.rd p3.rd).mono ?_
    rintro e w4 ⟨rfl, b4⟩
    rw [eqB_self]
    have o := o.below b4 (Nat.le_refl _)
    have p := p.below b4 (Nat.le_refl _)
    have p3 := p3.below b4 (Nat.le_refl _)
    have bb := bel_nxt bb b4
    clear b2 b3 b4 HI HS
    cases hk : okU xs with
    | false =>
      go_wp2_with fail
      refine (HE.out _ _ _ p.rd p3.rd).mono ?_
      rintro e w5 ⟨rfl, b5⟩
      rw [eqB_self]
      have bb := bel_nxt bb b5
      go_wp2
      go_ret
      exact ⟨rfl, bb⟩
    | true =>
      obtain ⟨f1, f2, f3, f4, f5⟩ := uns_facts hk
      rw [← HYS.out] at f2 f3 f4 f5
      have HV := Lib.hid fun w (v : Value) (h : Rd w v ys) => implValid_any v ys w h hyM
      rw [f2] at HV
      have hst : signsF ys = xs := by rw [signsF, if_pos f3, f4]
      have HST := Lib.hid fun w (v : Value) (h : Rd w v ys) => implSignsOf_any v ys w h hyM (by
        intro n hn
        obtain ⟨j, hj, rfl⟩ := List.getElem_of_mem hn
        have := (vrB_of f2).2 j hj
        have e : ys[j] = ix ys j := by simp [ix, List.getD, List.getElem?_eq_getElem hj]
        rw [e]; exact wf_small (by omega))
      rw [hst] at HST
      have HEX := Lib.hid fun w (a b : Value) (h1 : Rd w a xs) (h2 : Rd w b xs) => equalInts_any a b xs xs w h1 h2 hM hM
      clear f1 f2 f3 f4 f5 hst hk HYS HE
      go_wp2_with fail
      refine (HV.out _ _ p.rd).mono ?_
      rintro e w5 ⟨rfl, b5⟩
      have o := o.below b5 (Nat.le_refl _)
      have p := p.below b5 (Nat.le_refl _)
      have bb := bel_nxt bb b5
      go_wp2_with fail
      refine (HST.out _ _ p.rd).mono ?_
      rintro e w6 ⟨u6, rfl, p6, b6⟩
      have o := o.below b6 (Nat.le_refl _)
      have bb := bel_nxt bb b6
      go_wp2_with fail
      refine (HEX.out _ _ _ p6.rd o.rd).mono ?_
      rintro e w7 ⟨rfl, b7⟩
      rw [eqB_self]
      have bb := bel_nxt bb b7
      go_wp2
      go_ret
      exact ⟨rfl, bb⟩
  · clear h
    go_enter Try.func7, Try.ntmps7
    go_wp2
    go_ret
    exact ⟨rfl, Below.refl _ _⟩

end Go.Proofs.Ytpalmbcknjmmcaa
