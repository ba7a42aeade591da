/-
  The law FnSignsOf, as a contract.
-/
import Derived.Test.YtpalmbcknjmmcaaFnM
import Derived.Test.YtpalmbcknjmmcaaHelpF
import Derived.Test.YtpalmbcknjmmcaaLawM
import Derived.Test.YtpalmbcknjmmcaaDrawRow
import Derived.Test.YtpalmbcknjmmcaaSgLaw
import Derived.Test.YtpalmbcknjmmcaaSgP
import Derived.Deep.RegionHeld3
namespace Go.Proofs.Ytpalmbcknjmmcaa
open Go.RowKit
set_option linter.unusedVariables false

set_option maxHeartbeats 1600000 in
theorem lawSignsOf_any (v : Value) (n : Nat) (w : World) (h : RdB w v n) :
    Calls Try.prog 6 #[v] w (Says true w) := by
  have h0 := h
  obtain ⟨a, cap, rfl, h1, h2, -⟩ := h0
  unfold maxLen at h2
  by_cases hbig : n ≤ 1048576
  · go_enter Try.func6, Try.ntmps6
    go_wp2_with fail
    refine (drawSignsOf_any _ n _ h).mono ?_
    rintro e w1 ⟨v, xs, rfl, o, hl, hw, bb⟩
    have hM := Own.max64 hl
    clear h
    have HI := Lib.hid fun w (v : Value) (h : Rd w v xs) => implSignsOf_any v xs w h hM hw
    have HS := Lib.hid fun w (v : Value) (h : Rd w v xs) => specSignsOf_any v xs w h hM hw
    obtain ⟨ys, hys⟩ : ∃ ys, ys = signsF xs := ⟨_, rfl⟩
    rw [← hys] at HI HS
    have hyl : ys.length ≤ 64 := by rw [hys]; unfold signsF; split <;> simp [signsL]; exact hl
    have hyM := Own.max64 hyl
    have HE := Lib.hid fun w (a b : Value) (h1 : Rd w a ys) (h2 : Rd w b ys) => equalInts_any a b ys ys w h1 h2 hyM hyM
    have HYS := Lib.hid hys
    clear hys
    go_wp2_with fail
    refine (HI.out _ _ o.rd).mono ?_
    rintro e w2 ⟨u, rfl, p, b2⟩
    have o := o.below b2 (Nat.le_refl _)
    have bb := bel_nxt bb b2
    go_wp2_with fail
    refine (HS.out _ _ o.rd).mono ?_
    rintro e w3 ⟨u3, rfl, p3, b3⟩
    have o := o.below b3 (Nat.le_refl _)
    have p := p.below b3 (Nat.le_refl _)
    have bb := bel_nxt bb b3
    go_wp2_with fail
    refine (HE.out _ _ _ p.rd p3.rd).mono ?_
    rintro e w4 ⟨rfl, b4⟩
    rw [eqB_self]
    have o := o.below b4 (Nat.le_refl _)
    have p := p.below b4 (Nat.le_refl _)
    have bb := bel_nxt bb b4
    clear b2 b3 b4 p3
    by_cases hy0 : ys.length = 0
    · obtain ⟨a1, c1, rfl⟩ := own_sl p
      rw [hy0]
      rw [hy0] at p
      go_wp2_with fail
      refine (HS.out _ _ o.rd).mono ?_
      rintro e w5 ⟨u5, rfl, p5, b5⟩
      have o := o.below b5 (Nat.le_refl _)
      have p := p.below b5 (Nat.le_refl _)
      have bb := bel_nxt bb b5
      go_wp2_with fail
      refine (HE.out _ _ _ p.rd p5.rd).mono ?_
      rintro e w6 ⟨rfl, b6⟩
      rw [eqB_self]
      have bb := bel_nxt bb b6
      go_wp2
      go_ret
      exact ⟨rfl, bb⟩
    · have hcb : cubeB xs = true := by
        cases hb : cubeB xs with
        | true => rfl
        | false => have h := HYS.out; rw [signsF, if_neg (by simp [hb])] at h; rw [h] at hy0; simp at hy0
      have hyL : ys = signsL xs := by rw [HYS.out, signsF, if_pos hcb]
      have hyn : ys.length = xs.length := by rw [hyL, len_signsL]
      obtain ⟨g1, d1, rfl, -, -⟩ := o.form (by intro e; rw [e] at hyn; exact hy0 hyn)
      obtain ⟨g2, d2, rfl, -, -⟩ := p.form (by intro e; rw [e] at hy0; simp at hy0)
      have hly0 : 0 < ys.length := by omega
      have htot : ix ys 0 = wrap64 (sumN (ix xs) xs.length) := by rw [hyL]; exact signs_total hcb
      have HT := Lib.hid fun w (v : Value) (h : Rd w v xs) => total_q v xs w h (by omega)
      rw [← htot] at HT
      have HV := Lib.hid fun w (v : Value) (h : Rd w v ys) => implValid_q v ys w h hyM
      have hc2 := p.cell 0 hly0
      obtain ⟨z, hz⟩ : ∃ z, z = ix ys 0 := ⟨_, rfl⟩
      have HZ : Hid (ix ys 0 = z) := hz.symm
      rw [← hz] at HT hc2
      have i4 : (0 : Int) < (xs.length : Int) := by omega
      have i5 : ((xs.length : Int) == 0) = false := by rw [beq_eq_false_iff_ne]; omega
      have i6 : 0 < xs.length := by omega
      clear htot hz
      cases hv : vrB ys with
      | false =>
        rw [hv] at HV
        rw [hyn] at p ⊢
        clear hyL hyn hv hy0 HI HS HE HYS hcb
        go_wp2
        go_quiet ((first | (go_at_call 17; exact Calls.quiet_of_same ((HV.out _ _ (p.rd.drewN _)).mono fun _ _ ⟨h1, h2⟩ => ⟨h1, h2.symm⟩)) | (go_at_call 28; exact Calls.quiet_of_same ((HT.out _ _ (o.rd.drewN _)).mono fun _ _ ⟨h1, h2⟩ => ⟨h1, h2.symm⟩))))
        go_wp2
        go_ret
        exact ⟨rfl, below_drewN bb _⟩
      | true =>
        rw [hv] at HV
        have hst : signsF ys = scaledL (xs.length : Int) xs := by rw [signsF, if_pos (cube_len hcb hv hyn), hyL, signs_twice hcb]
        have HST := Lib.hid fun w (v : Value) (h : Rd w v ys) => implSignsOf_any v ys w h hyM (by rw [hyL]; exact tabw_wf _ _)
        rw [hst] at HST
        have HSC := Lib.hid fun w (v : Value) (h : Rd w v xs) => scaled_any v xs (xs.length : Int) w h (by omega)
        have hsl : (scaledL (xs.length : Int) xs).length ≤ maxLen := by simp only [scaledL, len_tab]; exact hM
        have HEX := Lib.hid fun w (a b : Value) (h1 : Rd w a (scaledL (xs.length : Int) xs)) (h2 : Rd w b (scaledL (xs.length : Int) xs)) => equalInts_any a b _ _ w h1 h2 hsl hsl
        have hen : energyF ys = wrap64 ((xs.length : Int) * energyF xs) := by rw [hyL]; rw [hyL] at hv; exact signs_energy hcb hv
        have HN1 := Lib.hid fun w (v : Value) (h : Rd w v ys) => implEnergyOf_any v ys w h hyM
        have HN2 := Lib.hid fun w (v : Value) (h : Rd w v xs) => implEnergyOf_any v xs w h hM
        obtain ⟨EY, hEY⟩ : ∃ EY, EY = energyF ys := ⟨_, rfl⟩
        obtain ⟨EX, hEX⟩ : ∃ EX, EX = energyF xs := ⟨_, rfl⟩
        rw [← hEY, ← hEX] at hen
        rw [← hEY] at HN1
        rw [← hEX] at HN2
        have hwr : IntKind.i64.wrap ((xs.length : Int) * EX) = EY := (IntWalk.i64_left _).trans hen.symm
        rw [hyn] at p ⊢
        have oD := o.drew
        have pD := p.drew
        have bbD := bb.drew
        clear hyL hyn hv hy0 HI HS HE HYS hcb hst hen hEY hEX
        go_wp2
        go_region_held3 (fun w' => w'.cell? ⟨g2, 0, none⟩ = some (.int .i64 z)) (first | exact hc2 | go_keep)
          (first
            | (go_at_call 17; refine (HV.out _ _ pD.rd).mono ?_; rintro e w5 ⟨rfl, rfl⟩)
            | (go_at_call 28; refine (HT.out _ _ oD.rd).mono ?_; rintro e w8 ⟨rfl, rfl⟩)
            | (go_at_call 26; refine (HST.out _ _ pD.rd).mono ?_; rintro e w6 ⟨u6, rfl, p6, b6⟩; have oD := oD.below b6 (Nat.le_refl _); have pD := pD.below b6 (Nat.le_refl _); have bbD := bel_nxt bbD b6; have hc2 := pD.cell 0 hly0; rw [HZ.out] at hc2)
            | (go_at_call 29; refine (HSC.out _ _ oD.rd).mono ?_; rintro e w7 ⟨u7, rfl, p7, b7⟩; have oD := oD.below b7 (Nat.le_refl _); have pD := pD.below b7 (Nat.le_refl _); have p6 := p6.below b7 (Nat.le_refl _); have bbD := bel_nxt bbD b7; have hc2 := pD.cell 0 hly0; rw [HZ.out] at hc2)
            | (go_at_call 15; refine (HEX.out _ _ _ p6.rd p7.rd).mono ?_; rintro e w9 ⟨rfl, b9⟩; rw [eqB_self]; have oD := oD.below b9 (Nat.le_refl _); have pD := pD.below b9 (Nat.le_refl _); have bbD := bel_nxt bbD b9; have hc2 := pD.cell 0 hly0; rw [HZ.out] at hc2)
            | (go_at_call 30; ((with_reducible refine (HN1.out _ _ pD.rd).mono ?_); rintro e w10 ⟨rfl, b10⟩); have oD := oD.below b10 (Nat.le_refl _); have pD := pD.below b10 (Nat.le_refl _); have bbD := bel_nxt bbD b10; have hc2 := pD.cell 0 hly0; rw [HZ.out] at hc2)
            | (go_at_call 30; ((with_reducible refine (HN2.out _ _ oD.rd).mono ?_); rintro e w11 ⟨rfl, b11⟩); have oD := oD.below b11 (Nat.le_refl _); have pD := pD.below b11 (Nat.le_refl _); have bbD := bel_nxt bbD b11; have hc2 := pD.cell 0 hly0; rw [HZ.out] at hc2))
        all_goals go_wp2
        all_goals go_ret
        all_goals exact ⟨rfl, bbD⟩
  · clear h
    go_enter Try.func6, Try.ntmps6
    go_wp2
    go_ret
    exact ⟨rfl, Below.refl _ _⟩

end Go.Proofs.Ytpalmbcknjmmcaa
