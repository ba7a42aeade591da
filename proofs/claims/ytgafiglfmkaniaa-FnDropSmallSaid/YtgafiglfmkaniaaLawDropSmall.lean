/-
  The law FnDropSmall, as a contract.
-/
import Derived.Test.YtgafiglfmkaniaaHelpF
import Derived.Test.YtgafiglfmkaniaaFnM
import Derived.Test.YtgafiglfmkaniaaDraw4
import Derived.Test.YtgafiglfmkaniaaHvE
import Derived.Test.YtgafiglfmkaniaaHvN
import Derived.Test.YtgafiglfmkaniaaSgU
namespace Go.Proofs.Ytgafiglfmkaniaa
open Go.RowKit
set_option linter.unusedVariables false

theorem vr_drp {xs : List Int} (e : Int) (h : vrB xs = true) : vrB (drpL e xs) = true := by
  obtain ⟨h1, h2⟩ := vrB_of h
  refine vrB_yes (by rw [len_drpL]; exact h1) fun j hj => ?_
  rw [len_drpL] at hj
  unfold drpL
  rw [ix_tab _ _ _ hj]
  unfold drpF
  split
  · omega
  · exact h2 j hj

theorem energy_drp {xs : List Int} (e : Int) (h : vrB xs = true) : energyF (drpL e xs) ≤ energyF xs := by
  have hb : ∀ ys : List Int, vrB ys = true → -16000000 ≤ sq (ix ys) ys.length ∧ sq (ix ys) ys.length ≤ 16000000 := fun ys hy => by
    obtain ⟨h1, h2⟩ := vrB_of hy
    have := sumN_bound (f := fun i => ix ys i * ix ys i) (n := ys.length) (c := 1000000) (by omega) fun i hi => by
      have a := h2 i hi
      have b : (((ix ys i).natAbs : Nat) : Int) * ((ix ys i).natAbs : Nat) ≤ 1000 * 1000 := Int.mul_le_mul (by omega) (by omega) (by omega) (by omega)
      have c : (0 : Int) ≤ (((ix ys i).natAbs : Nat) : Int) * ((ix ys i).natAbs : Nat) := Int.mul_nonneg (by omega) (by omega)
      rw [Int.natAbs_mul_self'] at b c
      omega
    unfold sq
    omega
  have b1 := hb _ h
  have b2 := hb _ (vr_drp e h)
  unfold energyF
  rw [if_pos h, if_pos (vr_drp e h)]
  have := drpL_sq e xs
  rw [len_drpL] at b2 ⊢
  unfold wrap64
  omega
theorem drp_take (e : Int) (xs : List Int) : (drpL e xs).take (xs.length - xs.length / 2) = xs.take (xs.length - xs.length / 2) := by
  rw [take_tab _ _ (by rw [len_drpL]; omega), take_tab _ _ (by omega)]
  refine tab_congr fun j hj => ?_
  unfold drpL
  rw [ix_tab _ _ _ (by omega)]
  exact drp_low e _ hj
theorem own_cap {E B n c : Nat} {w : World} {a : Option Addr} {xs : List Int} (h : Own E B w (.slice a n c) xs) : xs.length ≤ c := by
  rcases h.2 with ⟨h', h0⟩ | ⟨g', cap', cur, h', _, _, hn, _⟩
  · omega
  · simp only [Value.slice.injEq] at h'
    omega

set_option maxHeartbeats 8000000 in
set_option maxRecDepth 100000 in
theorem lawDropSmall_any (v : Value) (n : Nat) (w : World) (h : RdB w v n) :
    Calls Try.prog 9 #[v] w (Says true w) := by
  have h0 := h
  obtain ⟨a, cap, rfl, h1, h2, -⟩ := h0
  unfold maxLen at h2
  by_cases hbig : n ≤ 1048576
  · go_enter Try.func9, Try.ntmps9
    go_wp2_with fail
    refine (drawDropSmall_any _ n _ h).mono ?_
    rintro e w1 ⟨v, xs, z, rfl, o, hl, hw, hz, bb⟩
    clear h h1 h2 hbig
    have hM := Own.max64 hl
    have HI := Lib.hid fun w (v : Value) (h : Rd w v xs) => implDropSmall_any v xs z w h hM
    have HS := Lib.hid fun w (v : Value) (h : Rd w v xs) => specDropSmall_any v xs z w h hM
    have HV := Lib.hid fun w (v : Value) (h : Rd w v xs) => implValid_any v xs w h hM
    obtain ⟨ys, hys⟩ : ∃ ys, ys = dspF xs z := ⟨_, rfl⟩
    rw [← hys] at HI HS
    have hyl : ys.length ≤ 64 := by rw [hys]; unfold dspF; split <;> simp [len_drpL]; exact hl
    have hyM := Own.max64 hyl
    have HE := Lib.hid fun w (a b : Value) (h1 : Rd w a ys) (h2 : Rd w b ys) => equalInts_any a b ys ys w h1 h2 hyM hyM
    have HYS := Lib.hid hys
    have HX := Lib.hid fun w (a b : Value) (h1 : Rd w a xs) (h2 : Rd w b xs) => equalInts_any a b xs xs w h1 h2 hM hM
    clear hys
    obtain ⟨a1, c1, rfl⟩ := own_slD o
    go_wp2_with fail
    refine (HI.out _ _ o.rd).mono ?_
    rintro e w2 ⟨u, rfl, p, b2⟩
    have o := o.below b2 (Nat.le_refl _)
    have bb := bel_nxt bb b2
    obtain ⟨a2, c2, rfl⟩ := own_slD p
    go_wp2_with fail
    refine (HS.out _ _ o.rd).mono ?_
    rintro e w3 ⟨u3, rfl, p3, b3⟩
    have o := o.below b3 (Nat.le_refl _)
    have p := p.below b3 (Nat.le_refl _)
    have bb := bel_nxt bb b3
    go_wp2_with fail
    refine (HE.out _ _ _ p.rd p3.rd).mono ?_
    rintro e w4 ⟨rfl, b4⟩
    rw [eqB_self]
    have o := o.below b4 (Nat.le_refl _)
    have p := p.below b4 (Nat.le_refl _)
    have bb := bel_nxt bb b4
    go_wp2_with fail
    refine (HV.out _ _ o.rd).mono ?_
    rintro e w5 ⟨rfl, b5⟩
    have o := o.below b5 (Nat.le_refl _)
    have p := p.below b5 (Nat.le_refl _)
    have bb := bel_nxt bb b5
    clear b2 b3 b4 b5 p3
    by_cases hok : vrB xs = true ∧ 0 ≤ z ∧ z ≤ 1000
    · obtain ⟨hvx, z0, z1⟩ := hok
      have hyL : ys = drpL z xs := by rw [HYS.out]; exact dspF_yes hvx ⟨z0, z1⟩
      have hyn : ys.length = xs.length := by rw [hyL, len_drpL]
      have hvy : vrB ys = true := by rw [hyL]; exact vr_drp z hvx
      have HI2 := Lib.hid fun w (v : Value) (h : Rd w v ys) => implDropSmall_any v ys z w h hyM
      rw [show dspF ys z = ys by rw [dspF_yes hvy ⟨z0, z1⟩, hyL, drpL_again]] at HI2
      have HN1 := Lib.hid fun w (v : Value) (h : Rd w v ys) => implEnergyOf_any v ys w h hyM
      have HN2 := Lib.hid fun w (v : Value) (h : Rd w v xs) => implEnergyOf_any v xs w h hM
      obtain ⟨n1, hn1⟩ : ∃ n, n = energyF ys := ⟨_, rfl⟩
      obtain ⟨n2, hn2⟩ : ∃ n, n = energyF xs := ⟨_, rfl⟩
      have hle : n1 ≤ n2 := by rw [hn1, hn2, hyL]; exact energy_drp z hvx
      rw [← hn1] at HN1
      rw [← hn2] at HN2
      obtain ⟨k, hk⟩ : ∃ k, k = xs.length - xs.length / 2 := ⟨_, rfl⟩
      have hkl : k ≤ xs.length := by omega
      have HKI := Lib.hid (show (xs.length : Int) - (xs.length : Int) / 2 = (k : Int) by omega)
      have HTK := Lib.hid (show ys.take k = xs.take k by rw [hyL, hk]; exact drp_take z xs)
      have HT := Lib.hid fun w (a b : Value) (h1 : Rd w a (xs.take k)) (h2 : Rd w b (xs.take k)) => equalInts_any a b _ _ w h1 h2 (by rw [List.length_take]; exact Nat.le_trans (Nat.min_le_right _ _) hM) (by rw [List.length_take]; exact Nat.le_trans (Nat.min_le_right _ _) hM)
      have HXY := Lib.hid fun (h : z ≤ 1) => show ys = xs by rw [hyL]; exact drpL_none h xs
      have HYN := Lib.hid hyn
      have hc1 := own_cap o
      have hc2 := own_cap p
      rw [hyn] at hc2
      have i1 : (0 : Int) ≤ (k : Int) := by omega
      have i2 : (k : Int) ≤ (c1 : Int) := by omega
      have i3 : (k : Int) ≤ (c2 : Int) := by omega
      have i4 : (k : Int) ≤ (xs.length : Int) := by omega
      have t1 : Int.toNat (k : Int) = k := by omega
      have d1 : decide (n1 ≤ n2) = true := by simpa using hle
      rw [hvx]
      rw [hyn] at p ⊢
      clear hyL hyn hvx hvy hn1 hn2 hle HYS HI HS HV hk hw hz hyl
      go_wp2
      rw [HKI.out]
      have oD := o.drew
      have pD := p.drew
      have bbD := bb.drew
      clear o p bb
      refine wp_region_any (by kernel_rfl) ?_
      change wpAny _ _ _ _ _ _ _ (World.drew _)
      refine wpAny_take (i := 0) (v := ?v0) rfl (by kernel_rfl) (by kernel_rfl) (by kernel_rfl) (fun _ _ _ h => h) (Or.inl ⟨rfl, ?y0⟩) ?_
      case y0 => (intro w; go_simp; try with_reducible rfl)
      go_simp
      refine wpAny_take (i := 1) (v := ?v1) rfl (by kernel_rfl) (by kernel_rfl) (by kernel_rfl) (fun _ _ _ h => h) (Or.inl ⟨rfl, ?y1⟩) ?_
      case y1 => (intro w; go_simp; try with_reducible rfl)
      go_simp
      refine wpAny_take (i := 3) (v := ?v3) rfl (by kernel_rfl) (by kernel_rfl) (by kernel_rfl) (fun _ _ _ h => h) (Or.inl ⟨rfl, ?y3⟩) ?_
      case y3 => (intro w; go_simp; try with_reducible rfl)
      go_simp
      refine wpAny_ready (rs := [2]) (by kernel_rfl) (by simp) ?_
      refine AllReady.cons rfl (fun K hK => ?_) AllReady.nil
      go_simp
      refine (HI2.out _ _ (HYN.out ▸ pD.rd)).mono ?_
      rintro e w6 ⟨u6, rfl, p6, b6⟩
      have oD := oD.below b6 (Nat.le_refl _)
      have pD := pD.below b6 (Nat.le_refl _)
      have bbD := bel_nxt bbD b6
      go_simp
      refine hK _ _ ?_
      clear hK K
      refine wpAny_ready (rs := [4]) (by kernel_rfl) (by simp) ?_
      refine AllReady.cons rfl (fun K hK => ?_) AllReady.nil
      go_simp
      refine (HE.out _ _ _ p6.rd pD.rd).mono ?_
      rintro e w7 ⟨rfl, b7⟩
      rw [eqB_self]
      have oD := oD.below b7 (Nat.le_refl _)
      have pD := pD.below b7 (Nat.le_refl _)
      have bbD := bel_nxt bbD b7
      go_simp
      refine hK _ _ ?_
      clear hK K
      refine wpAny_take (i := 5) (v := ?v5) rfl (by kernel_rfl) (by kernel_rfl) (by kernel_rfl) (fun _ _ _ h => h) (Or.inl ⟨rfl, ?y5⟩) ?_
      case y5 => (intro w; go_simp; try with_reducible rfl)
      go_simp
      refine wpAny_take (i := 6) (v := ?v6) rfl (by kernel_rfl) (by kernel_rfl) (by kernel_rfl) (fun _ _ _ h => h) (Or.inl ⟨rfl, ?y6⟩) ?_
      case y6 => (intro w; go_simp; try with_reducible rfl)
      go_simp
      refine wpAny_take (i := 8) (v := ?v8) rfl (by kernel_rfl) (by kernel_rfl) (by kernel_rfl) (fun _ _ _ h => h) (Or.inl ⟨rfl, ?y8⟩) ?_
      case y8 => (intro w; go_simp; try with_reducible rfl)
      go_simp
      refine wpAny_ready (rs := [7]) (by kernel_rfl) (by simp) ?_
      refine AllReady.cons rfl (fun K hK => ?_) AllReady.nil
      go_simp
      refine (HN1.out _ _ pD.rd).mono ?_
      rintro e w8 ⟨rfl, b8⟩
      have oD := oD.below b8 (Nat.le_refl _)
      have pD := pD.below b8 (Nat.le_refl _)
      have bbD := bel_nxt bbD b8
      go_simp
      refine hK _ _ ?_
      clear hK K
      refine wpAny_ready (rs := [9]) (by kernel_rfl) (by simp) ?_
      refine AllReady.cons rfl (fun K hK => ?_) AllReady.nil
      go_simp
      refine (HN2.out _ _ oD.rd).mono ?_
      rintro e w9 ⟨rfl, b9⟩
      have oD := oD.below b9 (Nat.le_refl _)
      have pD := pD.below b9 (Nat.le_refl _)
      have bbD := bel_nxt bbD b9
      go_simp
      refine hK _ _ ?_
      clear hK K
      refine wpAny_take (i := 10) (v := ?v10) rfl (by kernel_rfl) (by kernel_rfl) (by kernel_rfl) (fun _ _ _ h => h) (Or.inl ⟨rfl, ?y10⟩) ?_
      case y10 => (intro w; go_simp; try with_reducible rfl)
      go_simp
      refine wpAny_take (i := 11) (v := ?v11) rfl (by kernel_rfl) (by kernel_rfl) (by kernel_rfl) (fun _ _ _ h => h) (Or.inl ⟨rfl, ?y11⟩) ?_
      case y11 => (intro w; go_simp; try with_reducible rfl)
      go_simp
      refine wpAny_take (i := 12) (v := ?v12) rfl (by kernel_rfl) (by kernel_rfl) (by kernel_rfl) (fun _ _ _ h => h) (Or.inl ⟨rfl, ?y12⟩) ?_
      case y12 => (intro w; go_simp; try with_reducible rfl)
      go_simp
      refine wpAny_take (i := 13) (v := ?v13) rfl (by kernel_rfl) (by kernel_rfl) (by kernel_rfl) (fun _ _ _ h => h) (Or.inl ⟨rfl, ?y13⟩) ?_
      case y13 => (intro w; go_simp; try with_reducible rfl)
      go_simp
      refine wpAny_take (i := 14) (v := ?v14) rfl (by kernel_rfl) (by kernel_rfl) (by kernel_rfl) (fun _ _ _ h => h) (Or.inl ⟨rfl, ?y14⟩) ?_
      case y14 => (intro w; go_simp; try with_reducible rfl)
      go_simp
      refine wpAny_take (i := 15) (v := ?v15) rfl (by kernel_rfl) (by kernel_rfl) (by kernel_rfl) (fun _ _ _ h => h) (Or.inl ⟨rfl, ?y15⟩) ?_
      case y15 => (intro w; go_simp; try with_reducible rfl)
      go_simp
      refine wpAny_take (i := 16) (v := ?v16) rfl (by kernel_rfl) (by kernel_rfl) (by kernel_rfl) (fun _ _ _ h => h) (Or.inl ⟨rfl, ?y16⟩) ?_
      case y16 => (intro w; go_simp; try with_reducible rfl)
      go_simp
      refine wpAny_take (i := 17) (v := ?v17) rfl (by kernel_rfl) (by kernel_rfl) (by kernel_rfl) (fun _ _ _ h => h) (Or.inl ⟨rfl, ?y17⟩) ?_
      case y17 => (intro w; go_simp; try with_reducible rfl)
      go_simp
      refine wpAny_take (i := 18) (v := ?v18) rfl (by kernel_rfl) (by kernel_rfl) (by kernel_rfl) (fun _ _ _ h => h) (Or.inl ⟨rfl, ?y18⟩) ?_
      case y18 => (intro w; go_simp; try with_reducible rfl)
      go_simp
      refine wpAny_ready (rs := [19]) (by kernel_rfl) (by simp) ?_
      refine AllReady.cons rfl (fun K hK => ?_) AllReady.nil
      go_simp
      refine (HT.out _ _ _ (HTK.out ▸ pD.rd.take (by rw [HYN.out]; exact hkl)) (oD.rd.take hkl)).mono ?_
      rintro e w10 ⟨rfl, b10⟩
      rw [eqB_self]
      have oD := oD.below b10 (Nat.le_refl _)
      have pD := pD.below b10 (Nat.le_refl _)
      have bbD := bel_nxt bbD b10
      go_simp
      refine hK _ _ ?_
      clear hK K
      refine wpAny_take (i := 20) (v := ?v20) rfl (by kernel_rfl) (by kernel_rfl) (by kernel_rfl) (fun _ _ _ h => h) (Or.inl ⟨rfl, ?y20⟩) ?_
      case y20 => (intro w; go_simp; try with_reducible rfl)
      go_simp
      refine wpAny_take (i := 21) (v := ?v21) rfl (by kernel_rfl) (by kernel_rfl) (by kernel_rfl) (fun _ _ _ h => h) (Or.inl ⟨rfl, ?y21⟩) ?_
      case y21 => (intro w; go_simp; try with_reducible rfl)
      go_simp
      refine wpAny_take (i := 22) (v := ?v22) rfl (by kernel_rfl) (by kernel_rfl) (by kernel_rfl) (fun _ _ _ h => h) (Or.inl ⟨rfl, ?y22⟩) ?_
      case y22 => (intro w; go_simp; try with_reducible rfl)
      go_simp
      by_cases hz1 : z ≤ 1
      · have d2 : decide (1 < z) = false := decide_eq_false (by omega)
        rw [HXY.out hz1] at pD
        refine wpAny_take (i := 23) (v := ?v23) rfl (by kernel_rfl) (by kernel_rfl) (by kernel_rfl) (fun _ _ _ h => h) (Or.inl ⟨rfl, ?y23⟩) ?_
        case y23 => (intro w; go_simp; try with_reducible rfl)
        go_simp
        refine wpAny_take (i := 24) (v := ?v24) rfl (by kernel_rfl) (by kernel_rfl) (by kernel_rfl) (fun _ _ _ h => h) (Or.inl ⟨rfl, ?y24⟩) ?_
        case y24 => (intro w; go_simp; try with_reducible rfl)
        go_simp
        refine wpAny_take (i := 25) (v := ?v25) rfl (by kernel_rfl) (by kernel_rfl) (by kernel_rfl) (fun _ _ _ h => h) (Or.inl ⟨rfl, ?y25⟩) ?_
        case y25 => (intro w; go_simp; try with_reducible rfl)
        go_simp
        refine wpAny_take (i := 26) (v := ?v26) rfl (by kernel_rfl) (by kernel_rfl) (by kernel_rfl) (fun _ _ _ h => h) (Or.inl ⟨rfl, ?y26⟩) ?_
        case y26 => (intro w; go_simp; try with_reducible rfl)
        go_simp
        refine wpAny_ready (rs := [27]) (by kernel_rfl) (by simp) ?_
        refine AllReady.cons rfl (fun K hK => ?_) AllReady.nil
        go_simp
        refine (HX.out _ _ _ pD.rd oD.rd).mono ?_
        rintro e w11 ⟨rfl, b11⟩
        rw [eqB_self]
        have bbD := bel_nxt bbD b11
        go_simp
        refine hK _ _ ?_
        clear hK K
        refine wpAny_take (i := 28) (v := ?v28l) rfl (by kernel_rfl) (by kernel_rfl) (by kernel_rfl) (fun _ _ _ h => h) (Or.inl ⟨rfl, ?y28l⟩) ?_
        case y28l => (intro w; go_simp; try with_reducible rfl)
        go_simp
        refine wpAny_take (i := 29) (v := ?v29l) rfl (by kernel_rfl) (by kernel_rfl) (by kernel_rfl) (fun _ _ _ h => h) (Or.inl ⟨rfl, ?y29l⟩) ?_
        case y29l => (intro w; go_simp; try with_reducible rfl)
        go_simp
        refine wpAny_take (i := 30) (v := ?v30l) rfl (by kernel_rfl) (by kernel_rfl) (by kernel_rfl) (fun _ _ _ h => h) (Or.inl ⟨rfl, ?y30l⟩) ?_
        case y30l => (intro w; go_simp; try with_reducible rfl)
        go_simp
        refine wpAny_done (by kernel_rfl) ?_ _
        go_wp2
        go_ret
        exact ⟨rfl, bbD⟩
      · have d2 : (1 : Int) < z := by omega
        clear hz1
        refine wpAny_take (i := 23) (v := ?v23h) rfl (by kernel_rfl) (by kernel_rfl) (by kernel_rfl) (fun _ _ _ h => h) (Or.inl ⟨rfl, ?y23h⟩) ?_
        case y23h => (intro w; go_simp; try with_reducible rfl)
        go_simp
        refine wpAny_take (i := 24) (v := ?v24h) rfl (by kernel_rfl) (by kernel_rfl) (by kernel_rfl) (fun _ _ _ h => h) (Or.inl ⟨rfl, ?y24h⟩) ?_
        case y24h => (intro w; go_simp; try with_reducible rfl)
        go_simp
        refine wpAny_take (i := 25) (v := undef) rfl (by kernel_rfl) (by kernel_rfl) (by kernel_rfl) (fun _ _ _ h => h) (Or.inr ⟨rfl, rfl⟩) ?_
        go_simp
        refine wpAny_take (i := 26) (v := undef) rfl (by kernel_rfl) (by kernel_rfl) (by kernel_rfl) (fun _ _ _ h => h) (Or.inr ⟨rfl, rfl⟩) ?_
        go_simp
        refine wpAny_take (i := 27) (v := undef) rfl (by kernel_rfl) (by kernel_rfl) (by kernel_rfl) (fun _ _ _ h => h) (Or.inr ⟨rfl, rfl⟩) ?_
        go_simp
        refine wpAny_take (i := 28) (v := ?v28h) rfl (by kernel_rfl) (by kernel_rfl) (by kernel_rfl) (fun _ _ _ h => h) (Or.inl ⟨rfl, ?y28h⟩) ?_
        case y28h => (intro w; go_simp; try with_reducible rfl)
        go_simp
        refine wpAny_take (i := 29) (v := ?v29h) rfl (by kernel_rfl) (by kernel_rfl) (by kernel_rfl) (fun _ _ _ h => h) (Or.inl ⟨rfl, ?y29h⟩) ?_
        case y29h => (intro w; go_simp; try with_reducible rfl)
        go_simp
        refine wpAny_take (i := 30) (v := ?v30h) rfl (by kernel_rfl) (by kernel_rfl) (by kernel_rfl) (fun _ _ _ h => h) (Or.inl ⟨rfl, ?y30h⟩) ?_
        case y30h => (intro w; go_simp; try with_reducible rfl)
        go_simp
        refine wpAny_done (by kernel_rfl) ?_ _
        go_wp2
        go_ret
        exact ⟨rfl, bbD⟩
    · have HBAD : Hid (vrB xs = true → 0 ≤ z → ¬ z ≤ 1000 → True) := fun _ _ _ => trivial
      cases hvx : vrB xs with
      | false =>
        go_wp2_with fail
        refine (HS.out _ _ o.rd).mono ?_
        rintro e w6 ⟨u6, rfl, p6, b6⟩
        have p := p.below b6 (Nat.le_refl _)
        have bb := bel_nxt bb b6
        go_wp2_with fail
        refine (HE.out _ _ _ p.rd p6.rd).mono ?_
        rintro e w7 ⟨rfl, b7⟩
        rw [eqB_self]
        have bb := bel_nxt bb b7
        go_wp2
        go_ret
        exact ⟨rfl, bb⟩
      | true =>
        by_cases h1 : z < 0
        · go_wp2_with fail
          refine (HS.out _ _ o.rd).mono ?_
          rintro e w6 ⟨u6, rfl, p6, b6⟩
          have p := p.below b6 (Nat.le_refl _)
          have bb := bel_nxt bb b6
          go_wp2_with fail
          refine (HE.out _ _ _ p.rd p6.rd).mono ?_
          rintro e w7 ⟨rfl, b7⟩
          rw [eqB_self]
          have bb := bel_nxt bb b7
          go_wp2
          go_ret
          exact ⟨rfl, bb⟩
        · have h2 : 1000 < z := by
            apply Classical.byContradiction
            intro q
            exact hok ⟨hvx, by omega, by omega⟩
          go_wp2_with fail
          refine (HS.out _ _ o.rd).mono ?_
          rintro e w6 ⟨u6, rfl, p6, b6⟩
          have p := p.below b6 (Nat.le_refl _)
          have bb := bel_nxt bb b6
          go_wp2_with fail
          refine (HE.out _ _ _ p.rd p6.rd).mono ?_
          rintro e w7 ⟨rfl, b7⟩
          rw [eqB_self]
          have bb := bel_nxt bb b7
          go_wp2
          go_ret
          exact ⟨rfl, bb⟩
  · clear h
    go_enter Try.func9, Try.ntmps9
    go_wp2
    go_ret
    exact ⟨rfl, Below.refl _ _⟩

end Go.Proofs.Ytgafiglfmkaniaa
