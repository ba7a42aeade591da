/-
  The law FnMixOf, as a contract.
-/
import Derived.Test.YtpalmbcknjmmcaaFnM
import Derived.Test.YtpalmbcknjmmcaaHelpF
import Derived.Test.YtpalmbcknjmmcaaLawM
import Derived.Test.YtpalmbcknjmmcaaHelpT
import Derived.Test.YtpalmbcknjmmcaaDrawMix
import Derived.Test.YtpalmbcknjmmcaaMixLaw
import Derived.Test.YtpalmbcknjmmcaaMixF
import Derived.Test.YtpalmbcknjmmcaaSgP
import Derived.Test.YtpalmbcknjmmcaaSBelow
namespace Go.Proofs.Ytpalmbcknjmmcaa
open Go.RowKit
set_option linter.unusedVariables false

set_option maxHeartbeats 4000000 in
set_option maxRecDepth 100000 in
theorem lawMixOf_any (v : Value) (n : Nat) (w : World) (h : RdB w v n) :
    Calls Try.prog 10 #[v] w (Says true w) := by
  have h0 := h
  obtain ⟨a, cap, rfl, h1, h2, -⟩ := h0
  unfold maxLen at h2
  by_cases hbig : n ≤ 1048576
  · go_enter Try.func10, Try.ntmps10
    go_wp2_with fail
    refine (drawMixOf_any _ n _ h).mono ?_
    rintro e w1 ⟨v1, v2, xs, ys, s, rfl, o1, o2, hl1, hl2, hw1, hw2, bb⟩
    have hM1 := Own.max64 hl1
    have hM2 := Own.max64 hl2
    clear h h1 h2 hbig
    have HI := Lib.hid fun w (u v : Value) (h : Rd w u xs) (h' : Rd w v ys) => implMixOf_any u v xs ys s w h h' hM1 hM2
    have HS := Lib.hid fun w (u v : Value) (h : Rd w u xs) (h' : Rd w v ys) => specMixOf_any u v xs ys s w h h' hM1 hM2
    have HI2 := Lib.hid fun w (u v : Value) (h : Rd w u ys) (h' : Rd w v xs) => implMixOf_any u v ys xs s w h h' hM2 hM1
    rw [mixF_comm s xs ys] at HI2
    obtain ⟨zs, hzs⟩ : ∃ zs, zs = mixF s xs ys := ⟨_, rfl⟩
    rw [← hzs] at HI HS HI2
    have hzl : zs.length ≤ 64 := by rw [hzs]; unfold mixF; split <;> simp [mixL]; exact hl1
    have hzM := Own.max64 hzl
    have HE := Lib.hid fun w (a b : Value) (h1 : Rd w a zs) (h2 : Rd w b zs) => equalInts_any a b zs zs w h1 h2 hzM hzM
    have HZS := Lib.hid hzs
    clear hzs
    obtain ⟨a1, c1, rfl⟩ := own_sl o1
    obtain ⟨a2, c2, rfl⟩ := own_sl o2
    go_wp2_with fail
    refine (HI.out _ _ _ o1.rd o2.rd).mono ?_
    rintro e w2 ⟨u, rfl, p, b2⟩
    have o1 := o1.below b2 (Nat.le_refl _)
    have o2 := o2.below b2 (Nat.le_refl _)
    have bb := bel_nxt bb b2
    obtain ⟨a3, c3, rfl⟩ := own_sl p
    go_wp2_with fail
    refine (HS.out _ _ _ o1.rd o2.rd).mono ?_
    rintro e w3 ⟨u3, rfl, p3, b3⟩
    have o1 := o1.below b3 (Nat.le_refl _)
    have o2 := o2.below b3 (Nat.le_refl _)
    have p := p.below b3 (Nat.le_refl _)
    have bb := bel_nxt bb b3
    go_wp2_with fail
    refine (HE.out _ _ _ p.rd p3.rd).mono ?_
    rintro e w4 ⟨rfl, b4⟩
    rw [eqB_self]
    have o1 := o1.below b4 (Nat.le_refl _)
    have o2 := o2.below b4 (Nat.le_refl _)
    have p := p.below b4 (Nat.le_refl _)
    have bb := bel_nxt bb b4
    clear b2 b3 b4 p3 HI
    cases hb : mixB s xs ys with
    | false =>
      have hz0 : zs = [] := HZS.out.trans (mixF_no hb)
      subst hz0
      rw [List.length_nil] at p ⊢
      clear HZS hb HI2
      go_wp2_with fail
      refine (HS.out _ _ _ o1.rd o2.rd).mono ?_
      rintro e w5 ⟨u5, rfl, p5, b5⟩
      have p := p.below b5 (Nat.le_refl _)
      have bb := bel_nxt bb b5
      go_wp2_with fail
      refine (HE.out _ _ _ p.rd p5.rd).mono ?_
      rintro e w6 ⟨rfl, b6⟩
      rw [eqB_self]
      have bb := bel_nxt bb b6
      go_wp2
      go_ret
      exact ⟨rfl, bb⟩
    | true =>
      obtain ⟨hc1, hc2, hlen, hs⟩ := mixB_of hb
      have hzL : zs = mixL s xs ys := HZS.out.trans (mixF_yes hb)
      have hzn : zs.length = xs.length := by rw [hzL, len_mixL]
      have hp := cube_pos hc1
      have htot := mix_tot hb
      rw [← hzL] at htot
      have HT1 := Lib.hid fun w (v : Value) (h : Rd w v xs) => total_any v xs w h (by omega)
      have HT2 := Lib.hid fun w (v : Value) (h : Rd w v ys) => total_any v ys w h (by omega)
      have HT3 := Lib.hid fun w (v : Value) (h : Rd w v zs) => total_any v zs w h (by omega)
      rw [hzn] at HT3
      obtain ⟨t1, ht1⟩ : ∃ t, t = wrap64 (sumN (ix xs) xs.length) := ⟨_, rfl⟩
      obtain ⟨t2, ht2⟩ : ∃ t, t = wrap64 (sumN (ix ys) ys.length) := ⟨_, rfl⟩
      obtain ⟨t3, ht3⟩ : ∃ t, t = wrap64 (sumN (ix zs) xs.length) := ⟨_, rfl⟩
      rw [← ht1, ← ht2, ← ht3] at htot
      rw [← ht1] at HT1
      rw [← ht2] at HT2
      rw [← ht3] at HT3
      have hwt : IntKind.i64.wrap (t1 * t2) = t3 := (IntWalk.i64_left _).trans htot.symm
      have e3 : (t3 != t3) = false := by simp
      have i0 : ((xs.length : Int) == 0) = false := by rw [beq_eq_false_iff_ne]; omega
      have HV := Lib.hid fun w (v : Value) (h : Rd w v zs) => implValid_any v zs w h hzM
      rw [hzn] at p ⊢
      have HLN := Lib.hid hlen
      have HZN := Lib.hid hzn
      have HZL := Lib.hid hzL
      have HBB := Lib.hid hb
      have HC1 := Lib.hid hc1
      have HC2 := Lib.hid hc2
      clear HS ht1 ht2 ht3 htot hlen hzn hzL hb hc1 hc2
      go_wp2_with fail
      refine (HI2.out _ _ _ o2.rd o1.rd).mono ?_
      rintro e w5 ⟨u5, rfl, p5, b5⟩
      have o1 := o1.below b5 (Nat.le_refl _)
      have o2 := o2.below b5 (Nat.le_refl _)
      have p := p.below b5 (Nat.le_refl _)
      have bb := bel_nxt bb b5
      go_wp2_with fail
      refine (HE.out _ _ _ p5.rd p.rd).mono ?_
      rintro e w6 ⟨rfl, b6⟩
      rw [eqB_self]
      have o1 := o1.below b6 (Nat.le_refl _)
      have o2 := o2.below b6 (Nat.le_refl _)
      have p := p.below b6 (Nat.le_refl _)
      have bb := bel_nxt bb b6
      clear p5 b5 b6 HI2 HE
      go_wp2_with fail
      refine (HT3.out _ _ p.rd).mono ?_
      rintro e w7 ⟨rfl, b7⟩
      have o1 := o1.below b7 (Nat.le_refl _)
      have o2 := o2.below b7 (Nat.le_refl _)
      have p := p.below b7 (Nat.le_refl _)
      have bb := bel_nxt bb b7
      go_wp2_with fail
      refine (HT1.out _ _ o1.rd).mono ?_
      rintro e w8 ⟨rfl, b8⟩
      have o1 := o1.below b8 (Nat.le_refl _)
      have o2 := o2.below b8 (Nat.le_refl _)
      have p := p.below b8 (Nat.le_refl _)
      have bb := bel_nxt bb b8
      go_wp2_with fail
      refine (HT2.out _ _ o2.rd).mono ?_
      rintro e w9 ⟨rfl, b9⟩
      have o1 := o1.below b9 (Nat.le_refl _)
      have o2 := o2.below b9 (Nat.le_refl _)
      have p := p.below b9 (Nat.le_refl _)
      have bb := bel_nxt bb b9
      clear b7 b8 b9 HT1 HT2 HT3
      cases hv : vrB zs with
      | false =>
        rw [hv] at HV
        clear hv
        go_wp2_with fail
        refine (HV.out _ _ p.rd).mono ?_
        rintro e w10 ⟨rfl, b10⟩
        have bb := bel_nxt bb b10
        go_wp2
        go_ret
        exact ⟨rfl, bb⟩
      | true =>
        rw [hv] at HV
        have hlen := HLN.out
        have hzn := HZN.out
        have hzL := HZL.out
        have hb := HBB.out
        have hc1 := HC1.out
        have hc2 := HC2.out
        have hcz : cubeB zs = true := cube_len hc1 hv hzn
        have hzw : ∀ n ∈ zs, (Lit.int .i64 n).wf = true := by rw [hzL]; exact tabw_wf _ _
        rcases hs with rfl | rfl | rfl
        · have hmb : belowF 1 zs = timesL (belowF 1 xs) (belowF 1 ys) := by rw [hzL]; rw [hzL] at hv; exact mix_below hb hv
          have hbl : (belowF 1 xs).length = xs.length ∧ (belowF 1 ys).length = xs.length := by unfold belowF; rw [if_pos hc1, if_pos hc2]; exact ⟨by simp [belowL], by simp [belowL, hlen]⟩
          have HB1 := Lib.hid fun w (v : Value) (h : Rd w v xs) => implBelowOf_any v xs w h hM1 hw1
          have HB2 := Lib.hid fun w (v : Value) (h : Rd w v ys) => implBelowOf_any v ys w h hM2 hw2
          have HB3 := Lib.hid fun w (v : Value) (h : Rd w v zs) => implBelowOf_any v zs w h hzM hzw
          rw [hmb] at HB3
          have HTM := Lib.hid fun w (u v : Value) (h : Rd w u (belowF 1 xs)) (h' : Rd w v (belowF 1 ys)) => times_any u v _ _ w h h' (by rw [hbl.1]; omega) (by rw [hbl.1, hbl.2])
          have htl : (timesL (belowF 1 xs) (belowF 1 ys)).length ≤ maxLen := by rw [len_timesL, hbl.1]; exact hM1
          have HEE := Lib.hid fun w (a b : Value) (h1 : Rd w a (timesL (belowF 1 xs) (belowF 1 ys))) (h2 : Rd w b (timesL (belowF 1 xs) (belowF 1 ys))) => equalInts_any a b _ _ w h1 h2 htl htl
          clear hv hcz hmb hbl htl hc1 hc2 hb hzL HZS hzn hzw hlen HLN HZN HZL HBB HC1 HC2
          unfold sOr
          go_wp2_with fail
          refine (HV.out _ _ p.rd).mono ?_
          rintro e w10 ⟨rfl, b10⟩
          have o1 := o1.below b10 (Nat.le_refl _)
          have o2 := o2.below b10 (Nat.le_refl _)
          have p := p.below b10 (Nat.le_refl _)
          have bb := bel_nxt bb b10
          go_wp2_with fail
          refine (HB3.out _ _ p.rd).mono ?_
          rintro e w11 ⟨u11, rfl, p11, b11⟩
          have o1 := o1.below b11 (Nat.le_refl _)
          have o2 := o2.below b11 (Nat.le_refl _)
          have bb := bel_nxt bb b11
          go_wp2_with fail
          refine (HB1.out _ _ o1.rd).mono ?_
          rintro e w12 ⟨u12, rfl, p12, b12⟩
          have o2 := o2.below b12 (Nat.le_refl _)
          have p11 := p11.below b12 (Nat.le_refl _)
          have bb := bel_nxt bb b12
          go_wp2_with fail
          refine (HB2.out _ _ o2.rd).mono ?_
          rintro e w13 ⟨u13, rfl, p13, b13⟩
          have p11 := p11.below b13 (Nat.le_refl _)
          have p12 := p12.below b13 (Nat.le_refl _)
          have bb := bel_nxt bb b13
          go_wp2_with fail
          refine (HTM.out _ _ _ p12.rd p13.rd).mono ?_
          rintro e w14 ⟨u14, rfl, p14, b14⟩
          have p11 := p11.below b14 (Nat.le_refl _)
          have bb := bel_nxt bb b14
          go_wp2_with fail
          refine (HEE.out _ _ _ p11.rd p14.rd).mono ?_
          rintro e w15 ⟨rfl, b15⟩
          rw [eqB_self]
          have bb := bel_nxt bb b15
          go_wp2
          go_ret
          exact ⟨rfl, bb⟩
        · clear hv hcz hc1 hc2 hb hzL HZS hzn hzw hlen HLN HZN HZL HBB HC1 HC2
          unfold sAnd
          go_wp2_with fail
          refine (HV.out _ _ p.rd).mono ?_
          rintro e w10 ⟨rfl, b10⟩
          have bb := bel_nxt bb b10
          go_wp2
          go_ret
          exact ⟨rfl, bb⟩
        · have hms : signsL zs = timesL (signsL xs) (signsL ys) := by rw [hzL]; exact mix_signs hb
          have HB1 := Lib.hid fun w (v : Value) (h : Rd w v xs) => implSignsOf_any v xs w h hM1 hw1
          have HB2 := Lib.hid fun w (v : Value) (h : Rd w v ys) => implSignsOf_any v ys w h hM2 hw2
          have HB3 := Lib.hid fun w (v : Value) (h : Rd w v zs) => implSignsOf_any v zs w h hzM hzw
          rw [show signsF xs = signsL xs by unfold signsF; exact if_pos hc1] at HB1
          rw [show signsF ys = signsL ys by unfold signsF; exact if_pos hc2] at HB2
          rw [show signsF zs = signsL zs by unfold signsF; exact if_pos hcz, hms] at HB3
          have HTM := Lib.hid fun w (u v : Value) (h : Rd w u (signsL xs)) (h' : Rd w v (signsL ys)) => times_any u v _ _ w h h' (by rw [len_signsL]; omega) (by rw [len_signsL, len_signsL, hlen])
          have htl : (timesL (signsL xs) (signsL ys)).length ≤ maxLen := by rw [len_timesL, len_signsL]; exact hM1
          have HEE := Lib.hid fun w (a b : Value) (h1 : Rd w a (timesL (signsL xs) (signsL ys))) (h2 : Rd w b (timesL (signsL xs) (signsL ys))) => equalInts_any a b _ _ w h1 h2 htl htl
          clear hv hcz hms htl hc1 hc2 hb hzL HZS hzn hzw hlen HLN HZN HZL HBB HC1 HC2
          unfold sXor
          go_wp2_with fail
          refine (HV.out _ _ p.rd).mono ?_
          rintro e w10 ⟨rfl, b10⟩
          have o1 := o1.below b10 (Nat.le_refl _)
          have o2 := o2.below b10 (Nat.le_refl _)
          have p := p.below b10 (Nat.le_refl _)
          have bb := bel_nxt bb b10
          go_wp2_with fail
          refine (HB3.out _ _ p.rd).mono ?_
          rintro e w11 ⟨u11, rfl, p11, b11⟩
          have o1 := o1.below b11 (Nat.le_refl _)
          have o2 := o2.below b11 (Nat.le_refl _)
          have bb := bel_nxt bb b11
          go_wp2_with fail
          refine (HB1.out _ _ o1.rd).mono ?_
          rintro e w12 ⟨u12, rfl, p12, b12⟩
          have o2 := o2.below b12 (Nat.le_refl _)
          have p11 := p11.below b12 (Nat.le_refl _)
          have bb := bel_nxt bb b12
          go_wp2_with fail
          refine (HB2.out _ _ o2.rd).mono ?_
          rintro e w13 ⟨u13, rfl, p13, b13⟩
          have p11 := p11.below b13 (Nat.le_refl _)
          have p12 := p12.below b13 (Nat.le_refl _)
          have bb := bel_nxt bb b13
          go_wp2_with fail
          refine (HTM.out _ _ _ p12.rd p13.rd).mono ?_
          rintro e w14 ⟨u14, rfl, p14, b14⟩
          have p11 := p11.below b14 (Nat.le_refl _)
          have bb := bel_nxt bb b14
          go_wp2_with fail
          refine (HEE.out _ _ _ p11.rd p14.rd).mono ?_
          rintro e w15 ⟨rfl, b15⟩
          rw [eqB_self]
          have bb := bel_nxt bb b15
          go_wp2
          go_ret
          exact ⟨rfl, bb⟩
  · clear h
    go_enter Try.func10, Try.ntmps10
    go_wp2
    go_ret
    exact ⟨rfl, Below.refl _ _⟩

end Go.Proofs.Ytpalmbcknjmmcaa
