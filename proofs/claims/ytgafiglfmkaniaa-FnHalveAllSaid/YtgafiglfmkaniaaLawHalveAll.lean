/-
  The law FnHalveAll, as a contract.
-/
import Derived.Test.YtgafiglfmkaniaaHelpF
import Derived.Test.YtgafiglfmkaniaaFnM
import Derived.Test.YtgafiglfmkaniaaDraw4
import Derived.Test.YtgafiglfmkaniaaHvS
import Derived.Test.YtgafiglfmkaniaaHvR
import Derived.Test.YtgafiglfmkaniaaCube
namespace Go.Proofs.Ytgafiglfmkaniaa
open Go.RowKit
set_option linter.unusedVariables false

set_option maxHeartbeats 8000000 in
set_option maxRecDepth 100000 in
theorem lawHalveAll_any (v : Value) (n : Nat) (w : World) (h : RdB w v n) :
    Calls Try.prog 5 #[v] w (Says true w) := by
  have h0 := h
  obtain ⟨a, cap, rfl, h1, h2, -⟩ := h0
  unfold maxLen at h2
  by_cases hbig : n ≤ 1048576
  · go_enter Try.func5, Try.ntmps5
    go_wp2_with fail
    refine (drawHalveAll_any _ n _ h).mono ?_
    rintro e w1 ⟨v, xs, rfl, o, hl, hw, bb⟩
    clear h h1 h2 hbig
    have HI := Lib.hid fun w (v : Value) (h : Rd w v xs) => implHalveAll_any v xs w h (Own.max64 hl)
    have HS := Lib.hid fun w (v : Value) (h : Rd w v xs) => specHalveAll_any v xs w h (Own.max64 hl)
    have hM := Own.max64 hl
    obtain ⟨ys, hys⟩ : ∃ ys, ys = hlaF xs := ⟨_, rfl⟩
    rw [← hys] at HI HS
    have hyl : ys.length ≤ 64 := by rw [hys]; exact (by unfold hlaF; split <;> simp [len_halA]; exact hl)
    have hyM := Own.max64 hyl
    have HE := Lib.hid fun w (a b : Value) (h1 : Rd w a ys) (h2 : Rd w b ys) => equalInts_any a b ys ys w h1 h2 hyM hyM
    have HYS := Lib.hid hys
    clear hys
    go_wp2_with fail
    refine (HI.out _ _ o.rd).mono ?_
    rintro e w2 ⟨u, rfl, p, b2⟩
    have o := o.below b2 (Nat.le_refl _)
    have bb := bel_nxt bb b2
    go_wp2_with fail
    refine (HS.out _ _ o.rd).mono ?_
    rintro e w3 ⟨u3, rfl, p3, b3⟩
    have o := o.below b3 (Nat.le_refl _)
    have p := p.below b3 (Nat.le_refl _)
    have bb := bel_nxt bb b3
    go_wp2_with fail
    refine (HE.out _ _ _ p.rd p3.rd).mono ?_
    rintro e w4 ⟨rfl, b4⟩
    rw [eqB_self]
    have o := o.below b4 (Nat.le_refl _)
    have p := p.below b4 (Nat.le_refl _)
    have bb := bel_nxt bb b4
    clear b2 b3 b4 p3
    by_cases hy0 : ys.length = 0
    · obtain ⟨a1, c1, rfl⟩ := own_slD p
      rw [hy0]
      rw [hy0] at p
      go_wp2_with fail
      refine (HS.out _ _ o.rd).mono ?_
      rintro e w5 ⟨u5, rfl, p5, b5⟩
      have p := p.below b5 (Nat.le_refl _)
      have bb := bel_nxt bb b5
      go_wp2_with fail
      refine (HE.out _ _ _ p.rd p5.rd).mono ?_
      rintro e w6 ⟨rfl, b6⟩
      rw [eqB_self]
      have bb := bel_nxt bb b6
      go_wp2
      go_ret
      exact ⟨rfl, bb⟩
    · have hcb : cubeB xs = true := by
        cases hb : cubeB xs with
        | true => rfl
        | false => have q := HYS.out; rw [hlaF_no hb] at q; rw [q] at hy0; simp at hy0
      have hyL : ys = halA (Nat.log2 xs.length) xs := by rw [HYS.out]; exact if_pos hcb
      have hyn : ys.length = xs.length := by rw [hyL, len_halA]
      have HME := Lib.hid fun (lo hi : Int) (q : ∀ j, j < xs.length → lo ≤ ix xs j ∧ ix xs j ≤ hi) => show lo ≤ ix ys 0 ∧ ix ys 0 ≤ hi by
        obtain ⟨_, k, _, hk⟩ := cubeB_of hcb
        rw [hyL, hk, Nat.log2_two_pow, halA, ix_tab _ _ _ (by rw [hk]; exact Nat.one_le_two_pow)]
        exact hAll_mean k _ _ _ (by rw [← hk]; exact q)
      have hbd := (vrB_of (cubeB_of hcb).1).2
      have h16 := (vrB_of (cubeB_of hcb).1).1
      have HV := Lib.hid fun w (v : Value) (h : Rd w v ys) => implValid_any v ys w h hyM
      have HX := Lib.hid fun w (a b : Value) (h1 : Rd w a xs) (h2 : Rd w b xs) => equalInts_any a b xs xs w h1 h2 hM hM
      have HNV := Lib.hid fun (hv : vrB ys = true) => show ulaF ys = xs by
        obtain ⟨_, k, _, hk⟩ := cubeB_of hcb
        have hcy : cubeB ys = true := by
          have q := hcb
          unfold cubeB at q ⊢
          rw [Bool.and_eq_true] at q
          rw [hyn, hv, q.2]; rfl
        unfold ulaF
        rw [if_pos hcy, hyn, hyL, hk, Nat.log2_two_pow]
        exact unhA_halA hk
      obtain ⟨g1, d1, rfl, -, -⟩ := o.form (by intro e; rw [e] at hyn; exact hy0 hyn)
      obtain ⟨g2, d2, rfl, -, -⟩ := p.form (by intro e; rw [e] at hy0; simp at hy0)
      have hn0 : 0 < xs.length := by omega
      have hn1 : (0 : Int) < (xs.length : Int) := by omega
      have hc00 := o.cell 0 hn0
      have hcy0 := p.cell 0 (by omega)
      have HBD := Lib.hid hbd
      obtain ⟨F, hF⟩ : ∃ F, F = ix xs := ⟨_, rfl⟩
      have HCX := Lib.hid fun j (hj : j < xs.length) => show w4.cell? ⟨g1, j, none⟩ = some (.int .i64 (F j)) by rw [hF]; exact o.cell j hj
      rw [← hF] at hc00 HBD HME
      obtain ⟨x0, hx0⟩ : ∃ x0, x0 = F 0 := ⟨_, rfl⟩
      rw [← hx0] at hc00
      have HX0 := Lib.hid hx0
      have hb0 := HBD.out 0 hn0
      rw [← hx0] at hb0
      have i5 : ((xs.length : Int) == 0) = false := by rw [beq_eq_false_iff_ne]; omega
      obtain ⟨y0, hyy0⟩ : ∃ y0, y0 = ix ys 0 := ⟨_, rfl⟩
      rw [← hyy0] at hcy0 HME
      rw [hyn] at p ⊢
      have HYN := Lib.hid hyn
      clear hyL hyn hcb hy0 hbd hF hx0 hyy0 HI HS HYS
      go_wp2
      go_loop [5, 6, 7] (fun a b i => ∃ (k : Nat) (lo hi : Int), 1 ≤ k ∧ k ≤ xs.length ∧ i = .int .i64 k ∧ a = .int .i64 lo ∧ b = .int .i64 hi ∧ Hid (∀ j, j < k → lo ≤ F j ∧ F j ≤ hi)) (fun _ _ i => xs.length - (intOf i).toNat)
      case atStart =>
        refine ⟨1, x0, x0, by omega, by omega, rfl, rfl, rfl, fun j hj => ?_⟩
        obtain rfl : j = 0 := by omega
        rw [HX0.out]
        exact ⟨Int.le_refl _, Int.le_refl _⟩
      case round =>
        obtain ⟨k, lo, hi, hk0, hk1, rfl, rfl, rfl, HLO⟩ := hrel
        by_cases hlt : k < xs.length
        · have hck := HCX.out k hlt
          have hbk := HBD.out k hlt
          have hlh := HLO.out 0 (by omega)
          have k1 : (k : Int) < (xs.length : Int) := by omega
          obtain ⟨x, hx⟩ : ∃ x, x = F k := ⟨_, rfl⟩
          rw [← hx] at hck hbk
          have HXK := Lib.hid hx
          have HLH := Lib.hid hlh
          clear hx hlh
          go_wp2
          go_round
          case rel =>
            refine ⟨k + 1, _, _, by omega, by omega, by go_num, rfl, rfl, fun j hj => ?_⟩
            by_cases q : j = k
            · subst q
              rw [← HXK.out]
              constructor <;> split <;> omega
            · have := HLO.out j (by omega)
              constructor <;> split <;> omega
          case measure => simp [intOf]; omega
        · obtain rfl : k = xs.length := by omega
          obtain ⟨m1, m2⟩ := HME.out lo hi HLO.out
          cases hv : vrB ys with
          | false =>
            rw [hv] at HV
            clear hv HCX HBD HLO
            go_wp2_with fail
            refine (HV.out _ _ p.rd).mono ?_
            rintro e w5 ⟨rfl, b5⟩
            have bb := bel_nxt bb b5
            go_wp2
            go_ret
            exact ⟨rfl, bb⟩
          | true =>
            have HN := Lib.hid fun w (v : Value) (h : Rd w v ys) => implUnhalveAll_any v ys w h hyM
            rw [HNV.out hv] at HN
            rw [hv] at HV
            clear hv HCX HBD HLO
            go_wp2_with fail
            refine (HV.out _ _ p.rd).mono ?_
            rintro e w5 ⟨rfl, b5⟩
            have o := o.below b5 (Nat.le_refl _)
            have p := p.below b5 (Nat.le_refl _)
            have bb := bel_nxt bb b5
            go_wp2_with fail
            refine (HN.out _ _ p.rd).mono ?_
            rintro e w6 ⟨u6, rfl, p6, b6⟩
            have o := o.below b6 (Nat.le_refl _)
            have bb := bel_nxt bb b6
            go_wp2_with fail
            refine (HX.out _ _ _ p6.rd o.rd).mono ?_
            rintro e w7 ⟨rfl, b7⟩
            rw [eqB_self]
            have bb := bel_nxt bb b7
            go_wp2
            go_ret
            exact ⟨rfl, bb⟩
  · clear h
    go_enter Try.func5, Try.ntmps5
    go_wp2
    go_ret
    exact ⟨rfl, Below.refl _ _⟩

end Go.Proofs.Ytgafiglfmkaniaa
