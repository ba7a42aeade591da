/-
  The law FnSumsOf, as a contract.
-/
import Derived.Test.YtjdlolahjikegaaFnM
import Derived.Test.YtjdlolahjikegaaHelpF
import Derived.Test.YtjdlolahjikegaaSums
import Derived.Test.YtjdlolahjikegaaSteps
import Derived.Test.YtjdlolahjikegaaDrawRow
import Derived.Deep.RegionHeld3
namespace Go.Proofs.Ytjdlolahjikegaa
open Go.RowKit
set_option linter.unusedVariables false

theorem steps_sums {xs : List Int} (hw : ∀ n ∈ xs, (Lit.int .i64 n).wf = true) : stepsL (sumsL xs) = xs := by
  unfold stepsL
  have hl : (sumsL xs).length = xs.length := by simp [sumsL]
  rw [hl]
  refine (eq_tab rfl fun j hj => ?_).symm
  have e : ∀ i, i < xs.length → ix (sumsL xs) i = wrap64 (sumN (ix xs) (i + 1)) := fun i hi => by unfold sumsL; rw [ix_tab _ _ _ hi]
  by_cases h0 : j = 0
  · subst h0
    rw [if_pos rfl, e 0 hj]
    show _ = wrap64 (0 + ix xs 0)
    rw [Int.zero_add, ix_wf hw]
  · rw [if_neg h0, e j hj, e (j - 1) (by omega), w64_sub, show j - 1 + 1 = j by omega]
    show _ = wrap64 (sumN (ix xs) j + ix xs j - sumN (ix xs) j)
    rw [show sumN (ix xs) j + ix xs j - sumN (ix xs) j = ix xs j by omega, ix_wf hw]
theorem Rd.drewN {w : World} {v : Value} {xs : List Int} (h : Rd w v xs) (n : Nat) : Rd (w.drewN n) v xs := h.below (below_drewN (Below.refl _ _) n) (Nat.le_refl _)
theorem sumsL_wf (xs : List Int) : ∀ n ∈ sumsL xs, (Lit.int .i64 n).wf = true := by
  intro n hn
  unfold sumsL tab at hn
  obtain ⟨j, _, rfl⟩ := List.mem_map.1 hn
  exact wrap64_wf _

set_option maxHeartbeats 2000000 in
theorem lawSumsOf_any (v : Value) (n : Nat) (w : World) (h : RdB w v n) :
    Calls Try.prog 4 #[v] w (Says true w) := by
  have h0 := h
  obtain ⟨a, cap, rfl, h1, h2, -⟩ := h0
  unfold maxLen at h2
  by_cases hbig : n ≤ 1048576
  · go_enter Try.func4, Try.ntmps4
    go_wp2_with fail
    refine (drawSumsOf_any _ n _ h).mono ?_
    rintro e w1 ⟨v, xs, rfl, o, hl, hw, bb⟩
    have hM := Own.max64 hl
    clear h
    have HI := Lib.hid fun w h => implSumsOf_any v xs w h hM hw
    have HS := Lib.hid fun w h => specSumsOf_any v xs w h hM hw
    obtain ⟨ys, hys⟩ : ∃ ys, ys = sumsF xs := ⟨_, rfl⟩
    rw [← hys] at HI HS
    have hyl : ys.length ≤ 64 := by rw [hys]; unfold sumsF; split <;> simp [sumsL]; exact hl
    have hyM := Own.max64 hyl
    have HE := Lib.hid fun w (a b : Value) (h1 : Rd w a ys) (h2 : Rd w b ys) => equalInts_any a b ys ys w h1 h2 hyM hyM
    go_wp2_with fail
    refine (HI.out _ o.rd).mono ?_
    rintro e w2 ⟨u, rfl, p, b2⟩
    have o := o.below b2 (Nat.le_refl _)
    have bb := bel_nxt bb b2
    go_wp2_with fail
    refine (HS.out _ o.rd).mono ?_
    rintro e w3 ⟨u3, rfl, p3, b3⟩
    have o := o.below b3 (Nat.le_refl _)
    have p := p.below b3 (Nat.le_refl _)
    have bb := bel_nxt bb b3
    go_wp2_with fail
    refine (HE.out _ _ _ p.rd p3.rd).mono ?_
    rintro e w4 ⟨rfl, b4⟩
    rw [eqB_self]
    have o := o.below b4 (Nat.le_refl _)
    have p := p.below b4 (Nat.le_refl _)
    have bb := bel_nxt bb b4
    clear b2 b3 b4 p3
    by_cases hy0 : ys.length = 0
    · obtain ⟨a1, c1, rfl⟩ := own_sl p
      rw [hy0]
      rw [hy0] at p
      go_wp2_with fail
      refine (HS.out _ o.rd).mono ?_
      rintro e w5 ⟨u5, rfl, p5, b5⟩
      have o := o.below b5 (Nat.le_refl _)
      have p := p.below b5 (Nat.le_refl _)
      have bb := bel_nxt bb b5
      go_wp2_with fail
      refine (HE.out _ _ _ p.rd p5.rd).mono ?_
      rintro e w6 ⟨rfl, b6⟩
      rw [eqB_self]
      have bb := bel_nxt bb b6
      go_wp2
      go_ret
      exact ⟨rfl, bb⟩
    · have hvr : vrB xs = true := by
        cases hb : vrB xs with
        | true => rfl
        | false => rw [sumsF, if_neg (by simp [hb])] at hys; rw [hys] at hy0; simp at hy0
      have hyL : ys = sumsL xs := by rw [hys, sumsF, if_pos hvr]
      have hyn : ys.length = xs.length := by rw [hyL]; simp [sumsL]
      obtain ⟨g, c1, rfl, hg, hgs⟩ := p.form (by intro e; rw [e] at hy0; simp at hy0)
      obtain ⟨m, hm⟩ : ∃ m, ys.length = m + 1 := ⟨ys.length - 1, by omega⟩
      have hlast : ix ys m = wrap64 (sumN (ix xs) xs.length) := by
        rw [hyL]; unfold sumsL; rw [ix_tab _ _ _ (by omega), show m + 1 = xs.length by omega]
      have HT := Lib.hid fun w (h : Rd w v xs) => total_q v xs w h (by omega)
      rw [← hlast] at HT
      have HV := Lib.hid fun w (v : Value) (h : Rd w v ys) => implValid_q v ys w h hyM
      have hpc := p.cell m (by omega)
      rw [hm] at p ⊢
      have e0 : (((m : Int) + 1) == 0) = false := by simp; omega
      have i1 : IntKind.i64.wrap (m : Int) = (m : Int) := IntWalk.i64_in _ (by omega)
      have i2 : (m : Int) < (m : Int) + 1 := by omega
      have i3 : (0 : Int) ≤ (m : Int) := by omega
      have hmy : m < ys.length := by omega
      have oD := o.drew
      have pD := p.drew
      have bbD := bb.drew
      have HO := Lib.hid oD
      cases hv : vrB ys with
      | false =>
        rw [hv] at HV
        clear hys hyL hyn hlast hm hvr hv hy0 HI HS HE
        go_wp2
        go_quiet ((first | (go_at_call 16; exact Calls.quiet_of_same ((HV.out _ _ (p.rd.drewN _)).mono fun _ _ ⟨h1, h2⟩ => ⟨h1, h2.symm⟩)) | (go_at_call 23; exact Calls.quiet_of_same ((HT.out _ (o.rd.drewN _)).mono fun _ _ ⟨h1, h2⟩ => ⟨h1, h2.symm⟩))))
        go_wp2
        go_ret
        exact ⟨rfl, below_drewN bb _⟩
      | true =>
        rw [hv] at HV
        have hst : stepsF ys = xs := by
          unfold stepsF; rw [if_pos hv, hyL, steps_sums hw]
        have HST := Lib.hid fun w (v : Value) (h : Rd w v ys) => implStepsOf_any v ys w h hyM (by rw [hyL]; exact sumsL_wf xs)
        rw [hst] at HST
        have HEX := Lib.hid fun w (a b : Value) (h1 : Rd w a xs) (h2 : Rd w b xs) => equalInts_any a b xs xs w h1 h2 hM hM
        clear hys hyL hyn hlast hm hvr hv hy0 HI HS HE hst
        go_wp2
        go_region_held3 (fun w' => w'.cell? ⟨g, m, none⟩ = some (.int .i64 (ix ys m))) (first | exact hpc | go_keep)
          (first
            | (go_at_call 16; refine (HV.out _ _ pD.rd).mono ?_; rintro e w5 ⟨rfl, rfl⟩)
            | (go_at_call 22; refine (HST.out _ _ pD.rd).mono ?_; rintro e w6 ⟨u6, rfl, p6, b6⟩; have oD := oD.below b6 (Nat.le_refl _); have pD := pD.below b6 (Nat.le_refl _); have bbD := bel_nxt bbD b6; have hpc := pD.cell m hmy)
            | (go_at_call 20; refine (HEX.out _ _ _ p6.rd oD.rd).mono ?_; rintro e w7 ⟨rfl, b7⟩; rw [eqB_self]; have oD := oD.below b7 (Nat.le_refl _); have pD := pD.below b7 (Nat.le_refl _); have bbD := bel_nxt bbD b7; have hpc := pD.cell m hmy)
            | (go_at_call 23; refine (HT.out _ oD.rd).mono ?_; rintro e w8 ⟨rfl, rfl⟩))
        all_goals go_wp2
        all_goals go_ret
        all_goals exact ⟨rfl, bbD⟩
  · clear h
    go_enter Try.func4, Try.ntmps4
    go_wp2
    go_ret
    exact ⟨rfl, Below.refl _ _⟩

end Go.Proofs.Ytjdlolahjikegaa
