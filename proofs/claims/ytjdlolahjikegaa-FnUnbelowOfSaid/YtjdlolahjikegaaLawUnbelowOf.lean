/-
  The law FnUnbelowOf, as a contract.
-/
import Derived.Test.YtjdlolahjikegaaFnM
import Derived.Test.YtjdlolahjikegaaHelpF
import Derived.Test.YtjdlolahjikegaaLawM
import Derived.Test.YtjdlolahjikegaaDrawRow
import Derived.Test.YtjdlolahjikegaaSBelow
import Derived.Deep.RegionHeld3
namespace Go.Proofs.Ytjdlolahjikegaa
open Go.RowKit
set_option linter.unusedVariables false

set_option maxHeartbeats 1600000 in
theorem lawUnbelowOf_any (v : Value) (n : Nat) (w : World) (h : RdB w v n) :
    Calls Try.prog 10 #[v] w (Says true w) := by
  have h0 := h
  obtain ⟨a, cap, rfl, h1, h2, -⟩ := h0
  unfold maxLen at h2
  by_cases hbig : n ≤ 1048576
  · go_enter Try.func10, Try.ntmps10
    go_wp2_with fail
    refine (drawUnbelowOf_any _ n _ h).mono ?_
    rintro e w1 ⟨v, xs, rfl, o, hl, hw, bb⟩
    have hM := Own.max64 hl
    clear h
    have HI := Lib.hid fun w (v : Value) (h : Rd w v xs) => implUnbelowOf_any v xs w h hM hw
    have HS := Lib.hid fun w (v : Value) (h : Rd w v xs) => specUnbelowOf_any v xs w h hM hw
    obtain ⟨ys, hys⟩ : ∃ ys, ys = belowF (-1) xs := ⟨_, rfl⟩
    rw [← hys] at HI HS
    have hyl : ys.length ≤ 64 := by rw [hys]; unfold belowF; split <;> simp [belowL]; exact hl
    have hyM := Own.max64 hyl
    have HE := Lib.hid fun w (a b : Value) (h1 : Rd w a ys) (h2 : Rd w b ys) => equalInts_any a b ys ys w h1 h2 hyM hyM
    have HYS := Lib.hid hys
    clear hys
    go_wp2_with fail
    refine (HI.out _ _ o.rd).mono ?_
    rintro e w2 ⟨u, rfl, p, b2⟩
    have o := o.below b2 (Nat.le_refl _)
    have bb := bel_nxt bb b2
    go_wp2_with fail
    refine (HS.out _ _ o.rd).mono ?_
    rintro e w3 ⟨u3, rfl, p3, b3⟩
    have o := o.below b3 (Nat.le_refl _)
    have p := p.below b3 (Nat.le_refl _)
    have bb := bel_nxt bb b3
    go_wp2_with fail
    refine (HE.out _ _ _ p.rd p3.rd).mono ?_
    rintro e w4 ⟨rfl, b4⟩
    rw [eqB_self]
    have o := o.below b4 (Nat.le_refl _)
    have p := p.below b4 (Nat.le_refl _)
    have bb := bel_nxt bb b4
    clear b2 b3 b4 p3
    by_cases hy0 : ys.length = 0
    · obtain ⟨a1, c1, rfl⟩ := own_sl p
      rw [hy0]
      rw [hy0] at p
      go_wp2_with fail
      refine (HS.out _ _ o.rd).mono ?_
      rintro e w5 ⟨u5, rfl, p5, b5⟩
      have o := o.below b5 (Nat.le_refl _)
      have p := p.below b5 (Nat.le_refl _)
      have bb := bel_nxt bb b5
      go_wp2_with fail
      refine (HE.out _ _ _ p.rd p5.rd).mono ?_
      rintro e w6 ⟨rfl, b6⟩
      rw [eqB_self]
      have bb := bel_nxt bb b6
      go_wp2
      go_ret
      exact ⟨rfl, bb⟩
    · have hcb : cubeB xs = true := by
        cases hb : cubeB xs with
        | true => rfl
        | false => have h := HYS.out; rw [belowF, if_neg (by simp [hb])] at h; rw [h] at hy0; simp at hy0
      obtain ⟨hvr, k, hk4, hk⟩ := cubeB_of hcb
      have hyL : ys = belowL (-1) xs := by rw [HYS.out, belowF, if_pos hcb]
      have hyn : ys.length = xs.length := by rw [hyL]; simp [belowL]
      obtain ⟨g1, d1, rfl, -, -⟩ := o.form (by intro e; rw [e] at hyn; exact hy0 hyn)
      obtain ⟨g2, d2, rfl, -, -⟩ := p.form (by intro e; rw [e] at hy0; simp at hy0)
      obtain ⟨m, hm⟩ : ∃ m, xs.length = m + 1 := ⟨xs.length - 1, by omega⟩
      have hym : ys.length = m + 1 := by omega
      have hz : ix ys 0 = ix xs 0 := by rw [hyL]; exact below_first hk4 hk hw
      have hlast : wrap64 (sumN (ix ys) ys.length) = ix xs m := by rw [hyn, hyL, show m = xs.length - 1 by omega]; exact unbelow_total hk4 hk hw
      have HT := Lib.hid fun w (v : Value) (h : Rd w v ys) => total_q v ys w h (by omega)
      rw [hlast] at HT
      have HV := Lib.hid fun w (v : Value) (h : Rd w v ys) => implValid_q v ys w h hyM
      have hlx0 : 0 < xs.length := by omega
      have hlxm : m < xs.length := by omega
      have hly0 : 0 < ys.length := by omega
      have hlym : m < ys.length := by omega
      have hc1 := o.cell 0 hlx0
      have hc2 := p.cell 0 hly0
      rw [hz] at hc2
      have Hz := Lib.hid hz
      have hc3 := o.cell m hlxm
      have e0 : (((m : Int) + 1) == 0) = false := by simp; omega
      have i1 : IntKind.i64.wrap (m : Int) = (m : Int) := IntWalk.i64_in _ (by omega)
      have i2 : (m : Int) < (m : Int) + 1 := by omega
      have i3 : (0 : Int) ≤ (m : Int) := by omega
      have i4 : (0 : Int) < (m : Int) + 1 := by omega
      cases hv : vrB ys with
      | false =>
        rw [hv] at HV
        rw [hm] at o ⊢
        rw [hym] at p ⊢
        clear hyL hyn hlast hm hym hvr hv hy0 HI HS HE HYS hz hk hcb
        go_wp2
        go_quiet ((first | (go_at_call 16; exact Calls.quiet_of_same ((HV.out _ _ (p.rd.drewN _)).mono fun _ _ ⟨h1, h2⟩ => ⟨h1, h2.symm⟩)) | (go_at_call 23; exact Calls.quiet_of_same ((HT.out _ _ (p.rd.drewN _)).mono fun _ _ ⟨h1, h2⟩ => ⟨h1, h2.symm⟩))))
        go_wp2
        go_ret
        exact ⟨rfl, below_drewN bb _⟩
      | true =>
        rw [hv] at HV
        have hst : belowF 1 ys = xs := by
          unfold belowF
          rw [if_pos (by unfold cubeB; rw [hv, hyn, hk, bitsN_pow hk4 rfl]; simp), hyL]
          exact below_back hk4 hk hw
        have HST := Lib.hid fun w (v : Value) (h : Rd w v ys) => implBelowOf_any v ys w h hyM (by rw [hyL]; exact tabw_wf _ _)
        rw [hst] at HST
        have HEX := Lib.hid fun w (a b : Value) (h1 : Rd w a xs) (h2 : Rd w b xs) => equalInts_any a b xs xs w h1 h2 hM hM
        rw [hm] at o ⊢
        rw [hym] at p ⊢
        have oD := o.drew
        have pD := p.drew
        have bbD := bb.drew
        clear hyL hyn hlast hm hym hvr hv hy0 HI HS HE HYS hz hk hcb hst
        go_wp2
        go_region_held3 (fun w' => w'.cell? ⟨g1, 0, none⟩ = some (.int .i64 (ix xs 0)) ∧ w'.cell? ⟨g2, 0, none⟩ = some (.int .i64 (ix xs 0)) ∧ w'.cell? ⟨g1, m, none⟩ = some (.int .i64 (ix xs m))) (first | exact ⟨hc1, hc2, hc3⟩ | go_keep)
          (first
            | (go_at_call 16; refine (HV.out _ _ pD.rd).mono ?_; rintro e w5 ⟨rfl, rfl⟩)
            | (go_at_call 36; refine (HST.out _ _ pD.rd).mono ?_; rintro e w6 ⟨u6, rfl, p6, b6⟩; have oD := oD.below b6 (Nat.le_refl _); have pD := pD.below b6 (Nat.le_refl _); have bbD := bel_nxt bbD b6; have hc1 := oD.cell 0 hlx0; have hc2 := pD.cell 0 hly0; rw [Hz.out] at hc2; have hc3 := oD.cell m hlxm)
            | (go_at_call 20; refine (HEX.out _ _ _ p6.rd oD.rd).mono ?_; rintro e w7 ⟨rfl, b7⟩; rw [eqB_self]; have oD := oD.below b7 (Nat.le_refl _); have pD := pD.below b7 (Nat.le_refl _); have bbD := bel_nxt bbD b7; have hc1 := oD.cell 0 hlx0; have hc2 := pD.cell 0 hly0; rw [Hz.out] at hc2; have hc3 := oD.cell m hlxm)
            | (go_at_call 23; refine (HT.out _ _ pD.rd).mono ?_; rintro e w8 ⟨rfl, rfl⟩))
        all_goals go_wp2
        all_goals go_ret
        all_goals exact ⟨rfl, bbD⟩
  · clear h
    go_enter Try.func10, Try.ntmps10
    go_wp2
    go_ret
    exact ⟨rfl, Below.refl _ _⟩

end Go.Proofs.Ytjdlolahjikegaa
