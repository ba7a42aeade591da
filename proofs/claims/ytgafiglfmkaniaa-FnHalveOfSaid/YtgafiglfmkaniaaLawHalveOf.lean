/-
  The law FnHalveOf, as a contract.
-/
import Derived.Test.YtgafiglfmkaniaaHelpF
import Derived.Test.YtgafiglfmkaniaaFnM
import Derived.Test.YtgafiglfmkaniaaDraw4
import Derived.Test.YtgafiglfmkaniaaHvI
import Derived.Test.YtgafiglfmkaniaaHvQ
namespace Go.Proofs.Ytgafiglfmkaniaa
open Go.RowKit
set_option linter.unusedVariables false

set_option maxHeartbeats 8000000 in
set_option maxRecDepth 100000 in
theorem lawHalveOf_any (v : Value) (n : Nat) (w : World) (h : RdB w v n) :
    Calls Try.prog 3 #[v] w (Says true w) := by
  have h0 := h
  obtain ⟨a, cap, rfl, h1, h2, -⟩ := h0
  unfold maxLen at h2
  by_cases hbig : n ≤ 1048576
  · go_enter Try.func3, Try.ntmps3
    go_wp2_with fail
    refine (drawHalveOf_any _ n _ h).mono ?_
    rintro e w1 ⟨v, xs, rfl, o, hl, hw, bb⟩
    clear h h1 h2 hbig
    have HI := Lib.hid fun w (v : Value) (h : Rd w v xs) => implHalveOf_any v xs w h (Own.max64 hl)
    have HS := Lib.hid fun w (v : Value) (h : Rd w v xs) => specHalveOf_any v xs w h (Own.max64 hl)
    have hM := Own.max64 hl
    obtain ⟨ys, hys⟩ : ∃ ys, ys = halF xs := ⟨_, rfl⟩
    rw [← hys] at HI HS
    have hyl : ys.length ≤ 64 := by rw [hys]; exact (by unfold halF; split <;> simp [len_halL]; exact hl)
    have hyM := Own.max64 hyl
    have HE := Lib.hid fun w (a b : Value) (h1 : Rd w a ys) (h2 : Rd w b ys) => equalInts_any a b ys ys w h1 h2 hyM hyM
    have HYS := Lib.hid hys
    clear hys
    go_wp2_with fail
    refine (HI.out _ _ o.rd).mono ?_
    rintro e w2 ⟨u, rfl, p, b2⟩
    have o := o.below b2 (Nat.le_refl _)
    have bb := bel_nxt bb b2
    go_wp2_with fail
    refine (HS.out _ _ o.rd).mono ?_
    rintro e w3 ⟨u3, rfl, p3, b3⟩
    have o := o.below b3 (Nat.le_refl _)
    have p := p.below b3 (Nat.le_refl _)
    have bb := bel_nxt bb b3
    go_wp2_with fail
    refine (HE.out _ _ _ p.rd p3.rd).mono ?_
    rintro e w4 ⟨rfl, b4⟩
    rw [eqB_self]
    have o := o.below b4 (Nat.le_refl _)
    have p := p.below b4 (Nat.le_refl _)
    have bb := bel_nxt bb b4
    clear b2 b3 b4 p3
    by_cases hy0 : ys.length = 0
    · obtain ⟨a1, c1, rfl⟩ := own_slD p
      rw [hy0]
      rw [hy0] at p
      go_wp2_with fail
      refine (HS.out _ _ o.rd).mono ?_
      rintro e w5 ⟨u5, rfl, p5, b5⟩
      have p := p.below b5 (Nat.le_refl _)
      have bb := bel_nxt bb b5
      go_wp2_with fail
      refine (HE.out _ _ _ p.rd p5.rd).mono ?_
      rintro e w6 ⟨rfl, b6⟩
      rw [eqB_self]
      have bb := bel_nxt bb b6
      go_wp2
      go_ret
      exact ⟨rfl, bb⟩
    · have hcb : evB xs = true := by
        cases hb : evB xs with
        | true => rfl
        | false => have q := HYS.out; rw [halF_no hb] at q; rw [q] at hy0; simp at hy0
      have hyL : ys = halL xs := by rw [HYS.out]; exact halF_yes hcb
      have hyn : ys.length = xs.length := by rw [hyL, len_halL]
      have hev := (evB_of hcb).2
      obtain ⟨m, hm⟩ : ∃ m, xs.length = 2 * m := ⟨xs.length / 2, half_two hev⟩
      have hbd := (vrB_of (evB_of hcb).1).2
      have h16 := (vrB_of (evB_of hcb).1).1
      have HV := Lib.hid fun w (v : Value) (h : Rd w v ys) => implValid_any v ys w h hyM
      have HX := Lib.hid fun w (a b : Value) (h1 : Rd w a xs) (h2 : Rd w b xs) => equalInts_any a b xs xs w h1 h2 hM hM
      have HNV := Lib.hid fun (hv : vrB ys = true) => show unhF ys = xs by
        rw [unhF_yes (show evB ys = true by rw [evB_eq hv, hyn]; exact decide_eq_true hev), hyL]; exact unh_hal hev
      have HLO := Lib.hid fun k (hk : k < m) => show ix ys k = ix xs (2 * k) + (ix xs (2 * k + 1) - ix xs (2 * k)) / 2 by
        rw [hyL, halL, ix_tab _ _ _ (by omega), hm, show 2 * m / 2 = m by omega, hS_low hk]
      have HMI := Lib.hid fun k (hk : k < m) => show ix ys (m + k) = ix xs (2 * k + 1) - ix xs (2 * k) by
        rw [hyL, halL, ix_tab _ _ _ (by omega), hm, show 2 * m / 2 = m by omega, hS_mid hk]
      obtain ⟨g1, d1, rfl, -, -⟩ := o.form (by intro e; rw [e] at hyn; exact hy0 hyn)
      obtain ⟨g2, d2, rfl, -, -⟩ := p.form (by intro e; rw [e] at hy0; simp at hy0)
      have HBD := Lib.hid hbd
      have HLX := Lib.hid hm
      have HLY := Lib.hid (hyn.trans hm)
      have hm1 : 1 ≤ m := by omega
      have hm8 : m ≤ 8 := by omega
      have i5 : (2 * (m : Int) == 0) = false := by rw [beq_eq_false_iff_ne]; omega
      rw [HLY.out] at p ⊢
      rw [hm] at o ⊢
      clear hyL hyn hev hcb hy0 hbd hm HI HS HYS h16
      go_wp2
      go_loopw [6] (fun i wr => ∃ k : Nat, k ≤ m ∧ i = .int .i64 k ∧ Own 3 w1.heap.size wr (.slice (some ⟨g2, 0, none⟩) (2 * m) d2) ys ∧ Own 3 w.heap.size wr (.slice (some ⟨g1, 0, none⟩) (2 * m) d1) xs ∧ Below w.heap.size w wr) (fun i _ => m - (intOf i).toNat)
      case atStart => exact ⟨0, Nat.zero_le _, rfl, p, o, bb⟩
      case round =>
        obtain ⟨k, hk, rfl, p, o, bb⟩ := hrel
        by_cases hlt : k < m
        · have c1 := p.cell (m + k) (by rw [HLY.out]; omega)
          have c2 := p.cell k (by rw [HLY.out]; omega)
          have c3 := o.cell (2 * k) (by rw [HLX.out]; omega)
          have c4 := o.cell (2 * k + 1) (by rw [HLX.out]; omega)
          rw [HMI.out k hlt] at c1
          rw [HLO.out k hlt] at c2
          have b3 := HBD.out (2 * k) (by rw [HLX.out]; omega)
          have b4 := HBD.out (2 * k + 1) (by rw [HLX.out]; omega)
          obtain ⟨x, hx⟩ : ∃ x, x = ix xs (2 * k) := ⟨_, rfl⟩
          obtain ⟨y, hy⟩ : ∃ y, y = ix xs (2 * k + 1) := ⟨_, rfl⟩
          rw [← hx, ← hy] at c1 c2
          rw [← hx] at c3 b3
          rw [← hy] at c4 b4
          obtain ⟨q, hq⟩ : ∃ q, q = 2 * k := ⟨_, rfl⟩
          rw [← hq] at c3 c4
          obtain ⟨d, hd⟩ : ∃ d, d = y - x := ⟨_, rfl⟩
          rw [← hd] at c1 c2
          obtain ⟨s, hs⟩ : ∃ s, s = x + d / 2 := ⟨_, rfl⟩
          rw [← hs] at c2
          have q1 : (0 : Int) ≤ (q : Int) := by omega
          have q2 : (q : Int) < 2 * (m : Int) := by omega
          have q3 : (0 : Int) ≤ (q : Int) + 1 := by omega
          have q4 : (q : Int) + 1 < 2 * (m : Int) := by omega
          have q5 : (0 : Int) ≤ (m : Int) + (k : Int) := by omega
          have q6 : (m : Int) + (k : Int) < 2 * (m : Int) := by omega
          have q7 : (0 : Int) ≤ (k : Int) := by omega
          have q8 : (k : Int) < 2 * (m : Int) := by omega
          have q9 : (k : Int) < (m : Int) := by omega
          have t1 : decide (x + y < 2 * s) = false := by simp; omega
          have t2 : decide (2 * s + 1 < x + y) = false := by simp; omega
          have t3 : (d != d) = false := by simp
          have j1 : IntKind.i64.wrap (2 * (k : Int)) = (q : Int) := by rw [hq]; exact IntWalk.i64_in _ (by omega)
          have j2 : IntKind.i64.wrap ((q : Int) + 1) = (q : Int) + 1 := IntWalk.i64_in _ (by omega)
          have j3 : ((q : Int) + 1).toNat = q + 1 := by omega
          have j4 : IntKind.i64.wrap ((m : Int) + (k : Int)) = (m : Int) + (k : Int) := IntWalk.i64_in _ (by omega)
          have j5 : ((m : Int) + (k : Int)).toNat = m + k := by omega
          have j6 : IntKind.i64.wrap (y - x) = d := by rw [← hd]; exact IntWalk.i64_in _ (by omega)
          have j7 : IntKind.i64.wrap (2 * s) = 2 * s := IntWalk.i64_in _ (by omega)
          have j8 : IntKind.i64.wrap (x + y) = x + y := IntWalk.i64_in _ (by omega)
          have j9 : IntKind.i64.wrap (2 * s + 1) = 2 * s + 1 := IntWalk.i64_in _ (by omega)
          clear hx hy hq hd hs
          go_wp2
          go_quiet (fail)
          clear j1 j2 j3 j4 j5 j6 j7 j8 j9 t1 t2 t3
          have p := p.below (below_drewN (Below.refl wr.heap.size wr) nq) (Nat.le_refl _)
          have o := o.below (below_drewN (Below.refl wr.heap.size wr) nq) (Nat.le_refl _)
          have bb := below_drewN bb nq
          go_wp2
          go_roundw
          case rel => exact ⟨k + 1, by omega, by go_num, p, o, bb⟩
          case measure => simp [intOf]; omega
        · obtain rfl : k = m := by omega
          cases hv : vrB ys with
          | false =>
            rw [hv] at HV
            clear hv
            go_wp2_with fail
            refine (HV.out _ _ p.rd).mono ?_
            rintro e w5 ⟨rfl, b5⟩
            have bb := bel_nxt bb b5
            go_wp2
            go_ret
            exact ⟨rfl, bb⟩
          | true =>
            have HN := Lib.hid fun w (v : Value) (h : Rd w v ys) => implUnhalveOf_any v ys w h hyM
            rw [HNV.out hv] at HN
            rw [hv] at HV
            clear hv
            go_wp2_with fail
            refine (HV.out _ _ p.rd).mono ?_
            rintro e w5 ⟨rfl, b5⟩
            have o := o.below b5 (Nat.le_refl _)
            have p := p.below b5 (Nat.le_refl _)
            have bb := bel_nxt bb b5
            go_wp2_with fail
            refine (HN.out _ _ p.rd).mono ?_
            rintro e w6 ⟨u6, rfl, p6, b6⟩
            have o := o.below b6 (Nat.le_refl _)
            have bb := bel_nxt bb b6
            go_wp2_with fail
            refine (HX.out _ _ _ p6.rd o.rd).mono ?_
            rintro e w7 ⟨rfl, b7⟩
            rw [eqB_self]
            have bb := bel_nxt bb b7
            go_wp2
            go_ret
            exact ⟨rfl, bb⟩
  · clear h
    go_enter Try.func3, Try.ntmps3
    go_wp2
    go_ret
    exact ⟨rfl, Below.refl _ _⟩

end Go.Proofs.Ytgafiglfmkaniaa
