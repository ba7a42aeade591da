/-
  IsBent, by its contracts.
-/
import Derived.Test.YtpalmbcknjmmcaaSgP
namespace Go.Proofs.Ytpalmbcknjmmcaa
open Go.RowKit
set_option linter.unusedVariables false

/-- Are the numbers 1 and -1 alone? -/
def oneB (xs : List Int) : Bool := decide (∀ j, j < xs.length → ix xs j = 1 ∨ ix xs j = -1)
theorem oneB_yes {xs : List Int} (h : ∀ j, j < xs.length → ix xs j = 1 ∨ ix xs j = -1) : oneB xs = true := by simp only [oneB, decide_eq_true_eq]; exact h
theorem oneB_no {xs : List Int} (k : Nat) (hk : k < xs.length) (h : ¬ (ix xs k = 1 ∨ ix xs k = -1)) : oneB xs = false := by simp only [oneB, decide_eq_false_iff_not]; exact fun e => h (e k hk)
theorem oneB_of {xs : List Int} (h : oneB xs = true) : ∀ j, j < xs.length → ix xs j = 1 ∨ ix xs j = -1 := by simpa only [oneB, decide_eq_true_eq] using h
/-- Are all the same but for the sign? -/
def sameB (ys : List Int) : Bool := decide (∀ j, j < ys.length → ix ys j = ix ys 0 ∨ ix ys j = - ix ys 0)
theorem sameB_yes {ys : List Int} (h : ∀ j, j < ys.length → ix ys j = ix ys 0 ∨ ix ys j = - ix ys 0) : sameB ys = true := by simp only [sameB, decide_eq_true_eq]; exact h
theorem sameB_no {ys : List Int} (k : Nat) (hk : k < ys.length) (h : ¬ (ix ys k = ix ys 0 ∨ ix ys k = - ix ys 0)) : sameB ys = false := by simp only [sameB, decide_eq_false_iff_not]; exact fun e => h (e k hk)
theorem sameB_of {ys : List Int} (h : sameB ys = true) : ∀ j, j < ys.length → ix ys j = ix ys 0 ∨ ix ys j = - ix ys 0 := by simpa only [sameB, decide_eq_true_eq] using h
def bentB (xs : List Int) : Bool := cubeB xs && (oneB xs && sameB (signsL xs))

set_option maxHeartbeats 2000000 in
theorem isOfSigns_any (v : Value) (xs : List Int) (w : World) (h : Rd w v xs) (hl : xs.length ≤ 16) :
    Calls Try.prog 82 #[v] w fun e w' => e = .returned (.bool (oneB xs)) ∧ w = w' := by
  obtain ⟨a, cap, rfl, h⟩ := h
  have HX := Lib.hid h
  clear h
  go_enter Try.func82, Try.ntmps82
  go_wp2
  go_loop [7] (fun i => ∃ k : Nat, k ≤ xs.length ∧ i = .int .i64 k ∧ Hid (∀ j, j < k → ix xs j = 1 ∨ ix xs j = -1)) (fun i => xs.length - (intOf i).toNat)
  case atStart => exact ⟨0, Nat.zero_le _, rfl, fun j hj => absurd hj (Nat.not_lt_zero j)⟩
  case round =>
    obtain ⟨k, hk, rfl, hs⟩ := hrel
    by_cases hlt : k < xs.length
    · rcases HX.out with rfl | ⟨b, off, rfl, hb, hc⟩
      · simp at hlt
      have hcx := hc k hlt
      by_cases hz : ix xs k = 1 ∨ ix xs k = -1
      · have hs2 : Hid (∀ j, j < k + 1 → ix xs j = 1 ∨ ix xs j = -1) := by
          intro j hj
          by_cases e : j = k
          · rw [e]; exact hz
          · exact hs.out j (by omega)
        clear hs hc
        obtain ⟨z, hzz⟩ : ∃ z, ix xs k = z := ⟨_, rfl⟩
        rw [hzz] at hz hcx
        clear hzz
        rcases hz with rfl | rfl
        all_goals
          go_wp2
          go_round
          case rel => exact ⟨k + 1, by omega, by go_num, hs2⟩
          case measure => simp [intOf]; omega
      · have HN := Lib.hid (oneB_no k hlt hz)
        clear hs hc
        obtain ⟨z, hzz⟩ : ∃ z, ix xs k = z := ⟨_, rfl⟩
        rw [hzz] at hz hcx
        clear hzz
        have z1 : (z != 1) = true := by simp; omega
        have z2 : (z != -1) = true := by simp; omega
        clear hz
        go_wp2
        go_ret
        exact ⟨ret_bool HN.out.symm, rfl⟩
    · obtain rfl : k = xs.length := by omega
      have HY := Lib.hid (oneB_yes hs.out)
      clear hs
      go_wp2
      go_ret
      exact ⟨ret_bool HY.out.symm, rfl⟩

set_option maxHeartbeats 2000000 in
theorem implIsBent_any (v : Value) (xs : List Int) (w : World) (h : Rd w v xs) (hl : xs.length ≤ maxLen) (hw : ∀ n ∈ xs, (Lit.int .i64 n).wf = true) :
    Calls Try.prog 49 #[v] w (Says (bentB xs) w) := by
  have hv := isBinaryRow_any v xs w h hl
  cases hb : cubeB xs with
  | true =>
    rw [hb] at hv
    have hle := (vrB_of (cubeB_of hb).1).1
    have hpos := cube_pos hb
    have HSM := Lib.hid (signs_small hb)
    have hsF : signsF xs = signsL xs := by unfold signsF; exact if_pos hb
    have HV := Lib.hid fun w (v : Value) (h : Rd w v xs) => implSignsOf_any v xs w h hl hw
    rw [hsF] at HV
    have HO := Lib.hid fun w (v : Value) (h : Rd w v xs) => isOfSigns_any v xs w h hle
    clear hsF hw
    cases ho : oneB xs with
    | false =>
      have HB : Hid (bentB xs = false) := by show bentB xs = false; simp [bentB, ho]
      rw [ho] at HO
      clear ho hb
      go_enter Try.func49, Try.ntmps49
      go_wp2_with fail
      refine hv.mono ?_
      rintro e w1 ⟨rfl, b1⟩
      go_wp2_with fail
      refine (HO.out _ _ (h.below b1 (Nat.le_refl _))).mono ?_
      rintro e w2 ⟨rfl, rfl⟩
      go_wp2
      go_ret
      exact ⟨ret_bool HB.out.symm, b1⟩
    | true =>
      have HB : Hid (bentB xs = sameB (signsL xs)) := by show bentB xs = _; simp [bentB, ho, hb]
      rw [ho] at HO
      clear ho hb
      go_enter Try.func49, Try.ntmps49
      go_wp2_with fail
      refine hv.mono ?_
      rintro e w1 ⟨rfl, b1⟩
      go_wp2_with fail
      refine (HO.out _ _ (h.below b1 (Nat.le_refl _))).mono ?_
      rintro e w2 ⟨rfl, rfl⟩
      go_wp2_with fail
      refine (HV.out _ _ (h.below b1 (Nat.le_refl _))).mono ?_
      rintro e w3 ⟨v3, rfl, o3, b3⟩
      obtain ⟨ys, hys⟩ : ∃ ys, ys = signsL xs := ⟨_, rfl⟩
      rw [← hys] at HB HSM o3
      have hyl : ys.length = xs.length := by rw [hys, len_signsL]
      obtain ⟨g, c, rfl, hg, hgs⟩ := o3.form (by intro e; rw [e] at hyl; simp at hyl; omega)
      have bb := bel_nxt b1 b3
      clear hys hv h hl HO HV b1 b3
      have hc0 := o3.cell 0 (by omega)
      have hs0 := HSM.out 0 (by omega)
      obtain ⟨z0, hz0⟩ : ∃ z, z = ix ys 0 := ⟨_, rfl⟩
      rw [← hz0] at hc0 hs0
      obtain ⟨s1, s2, -⟩ := hs0
      have HZ := Lib.hid hz0
      have hyp : 0 < ys.length := by omega
      have hy16 : ys.length ≤ 16 := by omega
      clear hz0 hyl
      go_wp2
      go_loop [18] (fun i => ∃ k : Nat, k ≤ ys.length ∧ i = .int .i64 k ∧ Hid (∀ j, j < k → ix ys j = ix ys 0 ∨ ix ys j = - ix ys 0)) (fun i => ys.length - (intOf i).toNat)
      case atStart => exact ⟨0, Nat.zero_le _, rfl, fun j hj => absurd hj (Nat.not_lt_zero j)⟩
      case round =>
        obtain ⟨k, hk, rfl, hs⟩ := hrel
        by_cases hlt : k < ys.length
        · have hcx := o3.cell k hlt
          by_cases hz : ix ys k = ix ys 0 ∨ ix ys k = - ix ys 0
          · have hs2 : Hid (∀ j, j < k + 1 → ix ys j = ix ys 0 ∨ ix ys j = - ix ys 0) := by
              intro j hj
              by_cases e : j = k
              · rw [e]; exact hz
              · exact hs.out j (by omega)
            clear hs
            obtain ⟨z, hzz⟩ : ∃ z, ix ys k = z := ⟨_, rfl⟩
            rw [hzz, ← HZ.out] at hz
            rw [hzz] at hcx
            clear hzz
            by_cases h1 : z = z0
            · subst h1
              go_wp2
              go_round
              case rel => exact ⟨k + 1, by omega, by go_num, hs2⟩
              case measure => simp [intOf]; omega
            · obtain rfl : z = -z0 := by omega
              have e1 : (-z0 != z0) = true := by simp; omega
              clear hz h1
              go_wp2
              go_round
              case rel => exact ⟨k + 1, by omega, by go_num, hs2⟩
              case measure => simp [intOf]; omega
          · have HN := Lib.hid (sameB_no k hlt hz)
            clear hs
            obtain ⟨z, hzz⟩ : ∃ z, ix ys k = z := ⟨_, rfl⟩
            rw [hzz, ← HZ.out] at hz
            rw [hzz] at hcx
            clear hzz
            have e1 : (z != z0) = true := by simp; omega
            have e2 : (z != -z0) = true := by simp; omega
            clear hz
            go_wp2
            go_ret
            exact ⟨ret_bool (by rw [HB.out, HN.out]), bb⟩
        · obtain rfl : k = ys.length := by omega
          have HY := Lib.hid (sameB_yes hs.out)
          clear hs
          go_wp2
          go_ret
          exact ⟨ret_bool (by rw [HB.out, HY.out]), bb⟩
  | false =>
    rw [hb] at hv
    have HB : Hid (bentB xs = false) := by show bentB xs = false; simp [bentB, hb]
    go_enter Try.func49, Try.ntmps49
    go_wp2_with fail
    refine hv.mono ?_
    rintro e w1 ⟨rfl, b1⟩
    go_wp2
    go_ret
    exact ⟨ret_bool HB.out.symm, b1⟩

set_option maxHeartbeats 2000000 in
theorem specIsBent_any (v : Value) (xs : List Int) (w : World) (h : Rd w v xs) (hl : xs.length ≤ maxLen) :
    Calls Try.prog 50 #[v] w (Says (bentB xs) w) := by
  have hv := validCube_any v xs w h hl
  cases hb : cubeB xs with
  | true =>
    rw [hb] at hv
    have hle := (vrB_of (cubeB_of hb).1).1
    have hpos := cube_pos hb
    have HSM := Lib.hid (signs_small hb)
    have HV := Lib.hid fun w (v : Value) (h : Rd w v xs) => specsigns_any v xs w h hle hpos
    have HCU := Lib.hid hb
    clear hb
    obtain ⟨a, cap, rfl, hr⟩ := id h
    rcases hr with rfl | ⟨b, off, rfl, hbw, hc⟩
    · simp at hpos
    have HC := Lib.hid hc
    clear hc
    go_enter Try.func50, Try.ntmps50
    go_wp2_with fail
    refine hv.mono ?_
    rintro e w1 ⟨rfl, b1⟩
    clear hv
    have h1 := Lib.hid (h.below b1 (Nat.le_refl _))
    have HC1 : Hid (∀ j, j < xs.length → w1.cell? ⟨b, off + j, none⟩ = some (.int .i64 (ix xs j))) := fun j hj => (b1.cell (by exact hbw)).trans (HC.out j hj)
    clear h hl HC
    go_wp2
    go_loop [3] (fun i => ∃ k : Nat, k ≤ xs.length ∧ i = .int .i64 k ∧ Hid (∀ j, j < k → ix xs j = 1 ∨ ix xs j = -1)) (fun i => xs.length - (intOf i).toNat)
    case atStart => exact ⟨0, Nat.zero_le _, rfl, fun j hj => absurd hj (Nat.not_lt_zero j)⟩
    case round =>
      obtain ⟨k, hk, rfl, hs⟩ := hrel
      by_cases hlt : k < xs.length
      · have hcx := HC1.out k hlt
        by_cases hz : ix xs k = 1 ∨ ix xs k = -1
        · have hs2 : Hid (∀ j, j < k + 1 → ix xs j = 1 ∨ ix xs j = -1) := by
            intro j hj
            by_cases e : j = k
            · rw [e]; exact hz
            · exact hs.out j (by omega)
          clear hs
          obtain ⟨z, hzz⟩ : ∃ z, ix xs k = z := ⟨_, rfl⟩
          rw [hzz] at hz hcx
          clear hzz
          rcases hz with rfl | rfl
          all_goals
            go_wp2
            go_round
            case rel => exact ⟨k + 1, by omega, by go_num, hs2⟩
            case measure => simp [intOf]; omega
        · have HN := Lib.hid (oneB_no k hlt hz)
          have HB : Hid (bentB xs = false) := by show bentB xs = false; simp [bentB, HN.out]
          clear hs
          obtain ⟨z, hzz⟩ : ∃ z, ix xs k = z := ⟨_, rfl⟩
          rw [hzz] at hz hcx
          clear hzz
          have z1 : (z != 1) = true := by simp; omega
          have z2 : (z != -1) = true := by simp; omega
          clear hz
          go_wp2
          go_ret
          exact ⟨ret_bool HB.out.symm, b1⟩
      · obtain rfl : k = xs.length := by omega
        have HB : Hid (bentB xs = sameB (signsL xs)) := by show bentB xs = _; simp [bentB, oneB_yes hs.out, HCU.out]
        clear hs
        go_wp2_with fail
        refine (HV.out _ _ h1.out).mono ?_
        rintro e w3 ⟨v3, rfl, o3, b3⟩
        obtain ⟨ys, hys⟩ : ∃ ys, ys = signsL xs := ⟨_, rfl⟩
        rw [← hys] at HB HSM o3
        have hyl : ys.length = xs.length := by rw [hys, len_signsL]
        obtain ⟨g, c, rfl, hg, hgs⟩ := o3.form (by intro e; rw [e] at hyl; simp at hyl; omega)
        have bb := bel_nxt b1 b3
        clear hys HV b1 b3 h1 HC1
        have hc0 := o3.cell 0 (by omega)
        have hs0 := HSM.out 0 (by omega)
        obtain ⟨z0, hz0⟩ : ∃ z, z = ix ys 0 := ⟨_, rfl⟩
        rw [← hz0] at hc0 hs0
        obtain ⟨s1, s2, -⟩ := hs0
        have HZ := Lib.hid hz0
        have hyp : 0 < ys.length := by omega
        have hy16 : ys.length ≤ 16 := by omega
        clear hz0 hyl
        have HO3 := Lib.hid o3
        clear o3
        go_wp2
        go_loopw [5] (fun i wr => ∃ k : Nat, k ≤ ys.length ∧ i = .int .i64 k ∧ Below w3.heap.size w3 wr ∧ Hid (∀ j, j < k → ix ys j = ix ys 0 ∨ ix ys j = - ix ys 0)) (fun i _ => ys.length - (intOf i).toNat)
        case atStart => exact ⟨0, Nat.zero_le _, rfl, Below.refl _ _, fun j hj => absurd hj (Nat.not_lt_zero j)⟩
        case round =>
          obtain ⟨k, hk, rfl, hBr, hs⟩ := hrel
          have HBr := Lib.hid hBr
          clear hBr
          by_cases hlt : k < ys.length
          · have hcx := (HO3.out.below HBr.out (Nat.le_refl _)).cell k hlt
            have hc0 := (HO3.out.below HBr.out (Nat.le_refl _)).cell 0 hyp
            rw [← HZ.out] at hc0
            by_cases hz : ix ys k = ix ys 0 ∨ ix ys k = - ix ys 0
            · have hs2 : Hid (∀ j, j < k + 1 → ix ys j = ix ys 0 ∨ ix ys j = - ix ys 0) := by
                intro j hj
                by_cases e : j = k
                · rw [e]; exact hz
                · exact hs.out j (by omega)
              clear hs
              obtain ⟨z, hzz⟩ : ∃ z, ix ys k = z := ⟨_, rfl⟩
              rw [hzz, ← HZ.out] at hz
              rw [hzz] at hcx
              clear hzz
              by_cases h1 : z = z0
              · subst h1
                go_wp2_with fail
                go_quiet (fail)
                go_wp2
                go_roundw
                case rel => exact ⟨k + 1, by omega, by go_num, bel_drewN HBr.out _, hs2⟩
                case measure => simp [intOf]; omega
              · obtain rfl : z = -z0 := by omega
                have e1 : (-z0 != z0) = true := by simp; omega
                clear hz h1
                go_wp2_with fail
                go_quiet (fail)
                go_wp2
                go_roundw
                case rel => exact ⟨k + 1, by omega, by go_num, bel_drewN HBr.out _, hs2⟩
                case measure => simp [intOf]; omega
            · have HN := Lib.hid (sameB_no k hlt hz)
              clear hs
              obtain ⟨z, hzz⟩ : ∃ z, ix ys k = z := ⟨_, rfl⟩
              rw [hzz, ← HZ.out] at hz
              rw [hzz] at hcx
              clear hzz
              have e1 : (z != z0) = true := by simp; omega
              have e2 : (z != -z0) = true := by simp; omega
              clear hz
              go_wp2_with fail
              go_quiet (fail)
              go_wp2
              go_ret
              exact ⟨ret_bool (by rw [HB.out, HN.out]), bel_nxt bb (bel_drewN HBr.out _)⟩
          · obtain rfl : k = ys.length := by omega
            have HY := Lib.hid (sameB_yes hs.out)
            clear hs
            go_wp2
            go_ret
            exact ⟨ret_bool (by rw [HB.out, HY.out]), bel_nxt bb HBr.out⟩
  | false =>
    rw [hb] at hv
    have HB : Hid (bentB xs = false) := by show bentB xs = false; simp [bentB, hb]
    go_enter Try.func50, Try.ntmps50
    go_wp2_with fail
    refine hv.mono ?_
    rintro e w1 ⟨rfl, b1⟩
    go_wp2
    go_ret
    exact ⟨ret_bool HB.out.symm, b1⟩

end Go.Proofs.Ytpalmbcknjmmcaa
