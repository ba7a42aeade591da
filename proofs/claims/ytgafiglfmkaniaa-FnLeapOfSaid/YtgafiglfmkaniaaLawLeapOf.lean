/-
  The law FnLeapOf, as a contract.
-/
import Derived.Test.YtgafiglfmkaniaaHelpF
import Derived.Test.YtgafiglfmkaniaaFnM
import Derived.Test.YtgafiglfmkaniaaDraw4
import Derived.Test.YtgafiglfmkaniaaHvI
import Derived.Test.YtgafiglfmkaniaaHvU
namespace Go.Proofs.Ytgafiglfmkaniaa
open Go.RowKit
set_option linter.unusedVariables false

set_option maxHeartbeats 8000000 in
set_option maxRecDepth 100000 in
theorem lawLeapOf_any (v : Value) (n : Nat) (w : World) (h : RdB w v n) :
    Calls Try.prog 7 #[v] w (Says true w) := by
  have h0 := h
  obtain ⟨a, cap, rfl, h1, h2, -⟩ := h0
  unfold maxLen at h2
  by_cases hbig : n ≤ 1048576
  · go_enter Try.func7, Try.ntmps7
    go_wp2_with fail
    refine (drawLeapOf_any _ n _ h).mono ?_
    rintro e w1 ⟨v, xs, rfl, o, hl, hw, bb⟩
    clear h h1 h2 hbig
    have HI := Lib.hid fun w (v : Value) (h : Rd w v xs) => implLeapOf_any v xs w h (Own.max64 hl)
    have HS := Lib.hid fun w (v : Value) (h : Rd w v xs) => specLeapOf_any v xs w h (Own.max64 hl)
    have hM := Own.max64 hl
    obtain ⟨ys, hys⟩ : ∃ ys, ys = lepF xs := ⟨_, rfl⟩
    rw [← hys] at HI HS
    have hyl : ys.length ≤ 64 := by rw [hys]; exact (by unfold lepF; split <;> simp [len_lepL]; exact hl)
    have hyM := Own.max64 hyl
    have HE := Lib.hid fun w (a b : Value) (h1 : Rd w a ys) (h2 : Rd w b ys) => equalInts_any a b ys ys w h1 h2 hyM hyM
    have HYS := Lib.hid hys
    clear hys
    go_wp2_with fail
    refine (HI.out _ _ o.rd).mono ?_
    rintro e w2 ⟨u, rfl, p, b2⟩
    have o := o.below b2 (Nat.le_refl _)
    have bb := bel_nxt bb b2
    go_wp2_with fail
    refine (HS.out _ _ o.rd).mono ?_
    rintro e w3 ⟨u3, rfl, p3, b3⟩
    have o := o.below b3 (Nat.le_refl _)
    have p := p.below b3 (Nat.le_refl _)
    have bb := bel_nxt bb b3
    go_wp2_with fail
    refine (HE.out _ _ _ p.rd p3.rd).mono ?_
    rintro e w4 ⟨rfl, b4⟩
    rw [eqB_self]
    have o := o.below b4 (Nat.le_refl _)
    have p := p.below b4 (Nat.le_refl _)
    have bb := bel_nxt bb b4
    clear b2 b3 b4 p3
    by_cases hy0 : ys.length = 0
    · obtain ⟨a1, c1, rfl⟩ := own_slD p
      rw [hy0]
      rw [hy0] at p
      go_wp2_with fail
      refine (HS.out _ _ o.rd).mono ?_
      rintro e w5 ⟨u5, rfl, p5, b5⟩
      have p := p.below b5 (Nat.le_refl _)
      have bb := bel_nxt bb b5
      go_wp2_with fail
      refine (HE.out _ _ _ p.rd p5.rd).mono ?_
      rintro e w6 ⟨rfl, b6⟩
      rw [eqB_self]
      have bb := bel_nxt bb b6
      go_wp2
      go_ret
      exact ⟨rfl, bb⟩
    · have hcb : evB xs = true := by
        cases hb : evB xs with
        | true => rfl
        | false => have q := HYS.out; rw [lepF_no hb] at q; rw [q] at hy0; simp at hy0
      have hyL : ys = lepL xs := by rw [HYS.out]; exact lepF_yes hcb
      have hyn : ys.length = xs.length := by rw [hyL, len_lepL]
      have hev := (evB_of hcb).2
      obtain ⟨m, hm⟩ : ∃ m, xs.length = 2 * m := ⟨xs.length / 2, half_two hev⟩
      have hbd := (vrB_of (evB_of hcb).1).2
      have h16 := (vrB_of (evB_of hcb).1).1
      have HV := Lib.hid fun w (v : Value) (h : Rd w v ys) => implValid_any v ys w h hyM
      have HX := Lib.hid fun w (a b : Value) (h1 : Rd w a xs) (h2 : Rd w b xs) => equalInts_any a b xs xs w h1 h2 hM hM
      have HNV := Lib.hid fun (hv : vrB ys = true) => show unlF ys = xs by
        rw [unlF_yes (show evB ys = true by rw [evB_eq hv, hyn]; exact decide_eq_true hev), hyL]; exact unl_lep hev
      have HMI := Lib.hid fun k (hk : k < m) (q : ∀ j, j + 1 < 2 * m → ix xs (j + 1) = ix xs j + (ix xs 1 - ix xs 0)) (hk1 : k + 1 < m) => show ix ys (m + k) = 0 by
        rw [hyL, lepL, ix_tab _ _ _ (by omega), hm, show 2 * m / 2 = m by omega, lp_mid]
        exact lD_even q hk1
      obtain ⟨g1, d1, rfl, -, -⟩ := o.form (by intro e; rw [e] at hyn; exact hy0 hyn)
      obtain ⟨g2, d2, rfl, -, -⟩ := p.form (by intro e; rw [e] at hy0; simp at hy0)
      have HBD := Lib.hid hbd
      have HLX := Lib.hid hm
      have HLY := Lib.hid (hyn.trans hm)
      have hm1 : 1 ≤ m := by omega
      have hm8 : m ≤ 8 := by omega
      have i5 : (2 * (m : Int) == 0) = false := by rw [beq_eq_false_iff_ne]; omega
      rw [HLY.out] at p ⊢
      rw [hm] at o ⊢
      clear hyL hyn hev hcb hy0 hbd hm HI HS HYS h16
      go_wp2
      go_loopw [6, 7] (fun u i wr => ∃ (k : Nat) (b : Bool), 2 ≤ k ∧ k ≤ 2 * m ∧ i = .int .i64 k ∧ u = .bool b ∧ Hid (b = true → ∀ j, j + 1 < k → ix xs (j + 1) = ix xs j + (ix xs 1 - ix xs 0)) ∧ Own 3 w1.heap.size wr (.slice (some ⟨g2, 0, none⟩) (2 * m) d2) ys ∧ Own 3 w.heap.size wr (.slice (some ⟨g1, 0, none⟩) (2 * m) d1) xs ∧ Below w.heap.size w wr) (fun _ i _ => 2 * m - (intOf i).toNat)
      case atStart =>
        refine ⟨2, true, by omega, by omega, rfl, rfl, fun _ j hj => ?_, p, o, bb⟩
        obtain rfl : j = 0 := by omega
        show ix xs 1 = ix xs 0 + (ix xs 1 - ix xs 0)
        omega
      case round =>
        obtain ⟨k, b, hk0, hk, rfl, rfl, HE, p, o, bb⟩ := hrel
        by_cases hlt : k < 2 * m
        · cases b with
          | true =>
            obtain ⟨q, hq⟩ : ∃ q, k = q + 1 := ⟨k - 1, by omega⟩
            have c1 := o.cell k (by rw [HLX.out]; exact hlt)
            have c2 := o.cell q (by rw [HLX.out]; omega)
            have c3 := o.cell 1 (by rw [HLX.out]; omega)
            have c4 := o.cell 0 (by rw [HLX.out]; omega)
            have b1 := HBD.out k (by rw [HLX.out]; exact hlt)
            have b2 := HBD.out q (by rw [HLX.out]; omega)
            have b3 := HBD.out 1 (by rw [HLX.out]; omega)
            have b4 := HBD.out 0 (by rw [HLX.out]; omega)
            obtain ⟨x1, h1⟩ : ∃ x, x = ix xs k := ⟨_, rfl⟩
            obtain ⟨x2, h2⟩ : ∃ x, x = ix xs q := ⟨_, rfl⟩
            obtain ⟨x3, h3⟩ : ∃ x, x = ix xs 1 := ⟨_, rfl⟩
            obtain ⟨x4, h4⟩ : ∃ x, x = ix xs 0 := ⟨_, rfl⟩
            rw [← h1] at c1 b1
            rw [← h2] at c2 b2
            rw [← h3] at c3 b3
            rw [← h4] at c4 b4
            have HE2 := Lib.hid (show x1 - x2 = x3 - x4 → ∀ j, j + 1 < k + 1 → ix xs (j + 1) = ix xs j + (ix xs 1 - ix xs 0) from fun he j hj => by
              by_cases hjq : j + 1 < k
              · exact HE.out rfl j hjq
              · obtain rfl : j = q := by omega
                rw [← hq, ← h1, ← h2, ← h3, ← h4]; omega)
            obtain ⟨bb', hbb⟩ : ∃ c, ((x1 - x2) == (x3 - x4)) = c := ⟨_, rfl⟩
            have HB := Lib.hid (show bb' = true → x1 - x2 = x3 - x4 from fun e => by rw [← hbb, beq_iff_eq] at e; exact e)
            have k1 : (k : Int) < 2 * (m : Int) := by omega
            have k2 : (q : Int) < 2 * (m : Int) := by omega
            have k3 : (0 : Int) ≤ (k : Int) := by omega
            have k4 : (0 : Int) ≤ (q : Int) := by omega
            have k5 : (1 : Int) < 2 * (m : Int) := by omega
            have k6 : (0 : Int) < 2 * (m : Int) := by omega
            have j1 : IntKind.i64.wrap ((k : Int) - 1) = (q : Int) := by rw [show (k : Int) - 1 = (q : Int) by omega]; exact IntWalk.i64_in _ (by omega)
            have j2 : IntKind.i64.wrap (x1 - x2) = x1 - x2 := IntWalk.i64_in _ (by omega)
            have j3 : IntKind.i64.wrap (x3 - x4) = x3 - x4 := IntWalk.i64_in _ (by omega)
            clear h1 h2 h3 h4 hq HE
            go_wp2
            go_quiet (fail)
            clear j1 j2 j3 hbb
            have p := p.below (below_drewN (Below.refl wr.heap.size wr) nq) (Nat.le_refl _)
            have o := o.below (below_drewN (Below.refl wr.heap.size wr) nq) (Nat.le_refl _)
            have bb := below_drewN bb nq
            have HE3 : Hid (bb' = true → ∀ j, j + 1 < k + 1 → ix xs (j + 1) = ix xs j + (ix xs 1 - ix xs 0)) := fun e => HE2.out (HB.out e)
            go_wp2
            go_roundw
            case rel => exact ⟨k + 1, bb', by omega, by omega, by go_num, rfl, HE3, p, o, bb⟩
            case measure => simp [intOf]; omega
          | false =>
            clear HE
            have HE3 : Hid (false = true → ∀ j, j + 1 < k + 1 → ix xs (j + 1) = ix xs j + (ix xs 1 - ix xs 0)) := fun e => absurd e (by simp)
            go_wp2
            go_quiet (fail)
            have p := p.below (below_drewN (Below.refl wr.heap.size wr) nq) (Nat.le_refl _)
            have o := o.below (below_drewN (Below.refl wr.heap.size wr) nq) (Nat.le_refl _)
            have bb := below_drewN bb nq
            go_wp2
            go_roundw
            case rel => exact ⟨k + 1, false, by omega, by omega, by go_num, rfl, HE3, p, o, bb⟩
            case measure => simp [intOf]; omega
        · obtain rfl : k = 2 * m := by omega
          clear hk0 hk
          go_wp2
          go_loop [8] (fun i => ∃ k : Nat, k ≤ m ∧ i = .int .i64 k) (fun i => m - (intOf i).toNat)
          case atStart => exact ⟨0, Nat.zero_le _, rfl⟩
          case round =>
            obtain ⟨k, hk, rfl⟩ := hrel
            by_cases hk1 : k + 1 < m
            · have k1 : (k : Int) + 1 < (m : Int) := by omega
              cases b with
              | true =>
                have c1 := p.cell (m + k) (by rw [HLY.out]; omega)
                rw [HMI.out k (by omega) (fun j hj => HE.out rfl j hj) hk1] at c1
                have q5 : (0 : Int) ≤ (m : Int) + (k : Int) := by omega
                have q6 : (m : Int) + (k : Int) < 2 * (m : Int) := by omega
                have q7 : IntKind.i64.wrap ((m : Int) + (k : Int)) = (m : Int) + (k : Int) := IntWalk.i64_in _ (by omega)
                have q8 : ((m : Int) + (k : Int)).toNat = m + k := by omega
                have q9 : m + k < 2 * m := by omega
                go_wp2
                go_round
                case rel => exact ⟨k + 1, by omega, by go_num⟩
                case measure => simp [intOf]; omega
              | false =>
                cases hv : vrB ys with
                | false =>
                  rw [hv] at HV
                  clear hv
                  go_wp2_with fail
                  refine (HV.out _ _ p.rd).mono ?_
                  rintro e w5 ⟨rfl, b5⟩
                  have bb := bel_nxt bb b5
                  go_wp2
                  go_ret
                  exact ⟨rfl, bb⟩
                | true =>
                  have HN := Lib.hid fun w (v : Value) (h : Rd w v ys) => implUnleapOf_any v ys w h hyM
                  rw [HNV.out hv] at HN
                  rw [hv] at HV
                  clear hv
                  go_wp2_with fail
                  refine (HV.out _ _ p.rd).mono ?_
                  rintro e w5 ⟨rfl, b5⟩
                  have o := o.below b5 (Nat.le_refl _)
                  have p := p.below b5 (Nat.le_refl _)
                  have bb := bel_nxt bb b5
                  go_wp2_with fail
                  refine (HN.out _ _ p.rd).mono ?_
                  rintro e w6 ⟨u6, rfl, p6, b6⟩
                  have o := o.below b6 (Nat.le_refl _)
                  have bb := bel_nxt bb b6
                  go_wp2_with fail
                  refine (HX.out _ _ _ p6.rd o.rd).mono ?_
                  rintro e w7 ⟨rfl, b7⟩
                  rw [eqB_self]
                  have bb := bel_nxt bb b7
                  go_wp2
                  go_ret
                  exact ⟨rfl, bb⟩
            · have k1 : ¬ (k : Int) + 1 < (m : Int) := by omega
              have k2 : (m : Int) ≤ (k : Int) + 1 := by omega
              cases hv : vrB ys with
              | false =>
                rw [hv] at HV
                clear hv
                go_wp2_with fail
                refine (HV.out _ _ p.rd).mono ?_
                rintro e w5 ⟨rfl, b5⟩
                have bb := bel_nxt bb b5
                go_wp2
                go_ret
                exact ⟨rfl, bb⟩
              | true =>
                have HN := Lib.hid fun w (v : Value) (h : Rd w v ys) => implUnleapOf_any v ys w h hyM
                rw [HNV.out hv] at HN
                rw [hv] at HV
                clear hv
                go_wp2_with fail
                refine (HV.out _ _ p.rd).mono ?_
                rintro e w5 ⟨rfl, b5⟩
                have o := o.below b5 (Nat.le_refl _)
                have p := p.below b5 (Nat.le_refl _)
                have bb := bel_nxt bb b5
                go_wp2_with fail
                refine (HN.out _ _ p.rd).mono ?_
                rintro e w6 ⟨u6, rfl, p6, b6⟩
                have o := o.below b6 (Nat.le_refl _)
                have bb := bel_nxt bb b6
                go_wp2_with fail
                refine (HX.out _ _ _ p6.rd o.rd).mono ?_
                rintro e w7 ⟨rfl, b7⟩
                rw [eqB_self]
                have bb := bel_nxt bb b7
                go_wp2
                go_ret
                exact ⟨rfl, bb⟩
  · clear h
    go_enter Try.func7, Try.ntmps7
    go_wp2
    go_ret
    exact ⟨rfl, Below.refl _ _⟩

end Go.Proofs.Ytgafiglfmkaniaa
