/-
  The model's signs, quiet rows and pairs: by their lone contracts.
-/
import Derived.Test.YtagncoahobghpacUnI
namespace Go.Proofs.Ytagncoahobghpac
open Go.RowKit
set_option linter.unusedVariables false

set_option maxHeartbeats 2000000 in
theorem specOnlySigns_any (v : Value) (xs : List Int) (w : World) (h : Rd w v xs) (hl : xs.length ≤ maxLen) :
    Calls Try.prog 51 #[v] w (Says (sgnB xs) w) := by
  have HV := Lib.hid (specvalid_any v xs w h hl)
  unfold maxLen at hl
  obtain ⟨a, cap, rfl, h⟩ := h
  have HX := Lib.hid h
  clear h
  obtain ⟨n, hn⟩ : ∃ n, n = xs.length := ⟨_, rfl⟩
  have HN := Lib.hid hn
  rw [← hn] at hl HV ⊢
  clear hn
  go_enter Try.func51, Try.ntmps51
  go_wp2
  go_loop [3] (fun i => ∃ k : Nat, k ≤ n ∧ i = .int .i64 k ∧ Hid (∀ j, j < k → ix xs j = 1 ∨ ix xs j = -1)) (fun i => n - (intOf i).toNat)
  case atStart => exact ⟨0, Nat.zero_le _, rfl, Lib.hid fun j hj => absurd hj (Nat.not_lt_zero j)⟩
  case round =>
    obtain ⟨k, hk, rfl, hs⟩ := hrel
    by_cases hlt : k < n
    · rcases HX.out with hnil | ⟨b, off, rfl, hb, hc⟩
      · have := HN.out; rw [hnil] at this; simp at this; omega
      have hcx := hc k (by rw [← HN.out]; exact hlt)
      have k0 : (k : Int) < (n : Int) := by omega
      by_cases hz : ix xs k = 1 ∨ ix xs k = -1
      · have hs2 : Hid (∀ j, j < k + 1 → ix xs j = 1 ∨ ix xs j = -1) := Lib.hid fun j hj => by
          by_cases e : j = k
          · rw [e]; exact hz
          · exact hs.out j (by omega)
        clear hs hc
        obtain ⟨z, hzz⟩ : ∃ z, ix xs k = z := ⟨_, rfl⟩
        rw [hzz] at hz hcx
        clear hzz
        rcases hz with rfl | rfl
        all_goals
          go_wp2
          go_round
          case rel => exact ⟨k + 1, by omega, by go_num, hs2⟩
          case measure => simp [intOf]; omega
      · have HF := Lib.hid (show sgnB xs = false by unfold sgnB; rw [pmB_no k (by rw [← HN.out]; exact hlt) hz, Bool.and_false])
        clear hs hc
        obtain ⟨z, hzz⟩ : ∃ z, ix xs k = z := ⟨_, rfl⟩
        rw [hzz] at hz hcx
        clear hzz
        have z1 : (z != 1) = true := by simp; omega
        have z2 : (z != -1) = true := by simp; omega
        clear hz
        go_wp2
        go_ret
        exact ⟨ret_bool HF.out.symm, Below.refl _ _⟩
    · obtain rfl : k = n := by omega
      have HY := Lib.hid (show sgnB xs = vrB xs by unfold sgnB; rw [pmB_yes (by rw [← HN.out]; exact hs.out), Bool.and_true])
      clear hs
      go_wp2_with fail
      refine HV.out.mono ?_
      rintro e w1 ⟨rfl, b1⟩
      go_wp2
      go_ret
      exact ⟨ret_bool HY.out.symm, b1⟩

/-- Is it quiet? -/
def quB (xs : List Int) : Bool := decide (sgnB xs = true ∧ xs.length ≠ 0 ∧ ∀ d, d < xs.length → 0 < d → -1 ≤ ix (selL xs) d ∧ ix (selL xs) d ≤ 1)
theorem quB_yes {xs : List Int} (h1 : sgnB xs = true) (h2 : xs.length ≠ 0) (h3 : ∀ d, d < xs.length → 0 < d → -1 ≤ ix (selL xs) d ∧ ix (selL xs) d ≤ 1) : quB xs = true := by simp only [quB, decide_eq_true_eq]; exact ⟨h1, h2, h3⟩
theorem quB_of {xs : List Int} (h : quB xs = true) : sgnB xs = true ∧ xs.length ≠ 0 ∧ ∀ d, d < xs.length → 0 < d → -1 ≤ ix (selL xs) d ∧ ix (selL xs) d ≤ 1 := by simpa only [quB, decide_eq_true_eq] using h
theorem quB_no {xs : List Int} (h : ¬ (sgnB xs = true ∧ xs.length ≠ 0 ∧ ∀ d, d < xs.length → 0 < d → -1 ≤ ix (selL xs) d ∧ ix (selL xs) d ≤ 1)) : quB xs = false := by simp only [quB, decide_eq_false_iff_not]; exact h
/-- Are they a pair? -/
def paB (xs ys : List Int) : Bool := decide (sgnB xs = true ∧ sgnB ys = true ∧ xs.length = ys.length ∧ xs.length ≠ 0 ∧ ∀ d, d < xs.length → 0 < d → wrap64 (ix (selL xs) d + ix (selL ys) d) = 0)
theorem paB_yes {xs ys : List Int} (h : sgnB xs = true ∧ sgnB ys = true ∧ xs.length = ys.length ∧ xs.length ≠ 0 ∧ ∀ d, d < xs.length → 0 < d → wrap64 (ix (selL xs) d + ix (selL ys) d) = 0) : paB xs ys = true := by simp only [paB, decide_eq_true_eq]; exact h
theorem paB_of {xs ys : List Int} (h : paB xs ys = true) : sgnB xs = true ∧ sgnB ys = true ∧ xs.length = ys.length ∧ xs.length ≠ 0 ∧ ∀ d, d < xs.length → 0 < d → wrap64 (ix (selL xs) d + ix (selL ys) d) = 0 := by simpa only [paB, decide_eq_true_eq] using h
theorem paB_no {xs ys : List Int} (h : ¬ (sgnB xs = true ∧ sgnB ys = true ∧ xs.length = ys.length ∧ xs.length ≠ 0 ∧ ∀ d, d < xs.length → 0 < d → wrap64 (ix (selL xs) d + ix (selL ys) d) = 0)) : paB xs ys = false := by simp only [paB, decide_eq_false_iff_not]; exact h

set_option maxHeartbeats 8000000 in
theorem specpair_any (u v : Value) (xs ys : List Int) (w : World) (hx : Rd w u xs) (hy : Rd w v ys) (hl1 : xs.length ≤ maxLen) (hl2 : ys.length ≤ maxLen) :
    Calls Try.prog 39 #[u, v] w (Says (paB xs ys) w) := by
  have hv1 := specOnlySigns_any u xs w hx hl1
  have HV2 := Lib.hid fun w1 (b : Below w.heap.size w w1) => specOnlySigns_any v ys w1 (hy.below b (Nat.le_refl _)) hl2
  unfold maxLen at hl1 hl2
  have hx0 := hx
  have hy0 := hy
  obtain ⟨a, cap, rfl, -⟩ := hx0
  obtain ⟨a2, cap2, rfl, -⟩ := hy0
  cases hb : sgnB xs with
  | false =>
    rw [hb] at hv1
    have HF := Lib.hid (paB_no (xs := xs) (ys := ys) fun q => by rw [hb] at q; cases q.1)
    clear hb hx hy
    go_enter Try.func39, Try.ntmps39
    go_wp2_with fail
    refine hv1.mono ?_
    rintro e w1 ⟨rfl, b1⟩
    go_wp2
    go_ret
    exact ⟨ret_bool HF.out.symm, b1⟩
  | true =>
    rw [hb] at hv1
    cases hb2 : sgnB ys with
    | false =>
      rw [hb2] at HV2
      have HF := Lib.hid (paB_no (xs := xs) (ys := ys) fun q => by rw [hb2] at q; cases q.2.1)
      clear hb hb2 hx hy
      go_enter Try.func39, Try.ntmps39
      go_wp2_with fail
      refine hv1.mono ?_
      rintro e w1 ⟨rfl, b1⟩
      go_wp2_with fail
      refine (HV2.out _ b1).mono ?_
      rintro e w2 ⟨rfl, b2⟩
      have b1 := bel_nxt b1 b2
      clear b2
      go_wp2
      go_ret
      exact ⟨ret_bool HF.out.symm, b1⟩
    | true =>
      rw [hb2] at HV2
      have n1 := (vrB_of (sgnB_of hb).1).1
      have n2 := (vrB_of (sgnB_of hb2).1).1
      have HB := Lib.hid hb
      have HB2 := Lib.hid hb2
      by_cases hq : xs.length = ys.length
      · by_cases h0 : xs.length = 0
        · have HF := Lib.hid (paB_no (xs := xs) (ys := ys) fun q => q.2.2.2.1 h0)
          have h02 : ys.length = 0 := by omega
          rw [h0] at hv1 ⊢
          rw [h02] at HV2 ⊢
          clear hb hb2 hx hy h0 h02 hq n1 n2 hl1 hl2
          go_enter Try.func39, Try.ntmps39
          go_wp2_with fail
          refine hv1.mono ?_
          rintro e w1 ⟨rfl, b1⟩
          go_wp2_with fail
          refine (HV2.out _ b1).mono ?_
          rintro e w2 ⟨rfl, b2⟩
          have b1 := bel_nxt b1 b2
          clear b2
          go_wp2
          go_ret
          exact ⟨ret_bool HF.out.symm, b1⟩
        · have HI := Lib.hid fun w1 (b : Below w.heap.size w w1) => specitself_any _ xs w1 (hx.below b (Nat.le_refl _)) (by omega)
          have HI2 := Lib.hid fun w1 (b : Below w.heap.size w w1) => specitself_any _ ys w1 (hy.below b (Nat.le_refl _)) (by omega)
          have H0 := Lib.hid h0
          obtain ⟨zs, hzs⟩ : ∃ zs, zs = selL xs := ⟨_, rfl⟩
          obtain ⟨rs, hrs⟩ : ∃ rs, rs = selL ys := ⟨_, rfl⟩
          have HZ := Lib.hid hzs
          have HR := Lib.hid hrs
          have hzl : zs.length = xs.length := by rw [hzs, len_selL]
          have hrl : rs.length = xs.length := by rw [hrs, len_selL, hq]
          rw [← hzs] at HI
          rw [← hrs] at HI2
          obtain ⟨n, hn⟩ : ∃ n, n = xs.length := ⟨_, rfl⟩
          rw [← hq, ← hn] at HV2 HI2 ⊢
          have HQ := Lib.hid hq
          have HN := Lib.hid hn
          have HZL := Lib.hid hzl
          have HRL := Lib.hid hrl
          have e0 : ((n : Int) == 0) = false := by rw [beq_eq_false_iff_ne]; omega
          have e1 : ((n : Int) != (n : Int)) = false := by simp
          rw [← hn] at hv1 n1 HI
          clear hb hb2 hx hy h0 hq hzs hrs hzl hrl hn n2 hl1 hl2
          go_enter Try.func39, Try.ntmps39
          go_wp2_with fail
          refine hv1.mono ?_
          rintro e w1 ⟨rfl, b1⟩
          go_wp2_with fail
          refine (HV2.out _ b1).mono ?_
          rintro e w2 ⟨rfl, b2⟩
          have b1 := bel_nxt b1 b2
          clear b2
          go_wp2_with fail
          refine (HI.out _ b1).mono ?_
          rintro e w3 ⟨u3, rfl, o, b3⟩
          have b1 := bel_nxt b1 b3
          go_wp2_with fail
          refine (HI2.out _ b1).mono ?_
          rintro e w4 ⟨u4, rfl, o4, b4⟩
          have bb := bel_nxt b1 b4
          have o := o.below b4 (Nat.le_refl _)
          obtain ⟨a', c', rfl⟩ := own_slN o (by rw [HZL.out, ← HN.out])
          obtain ⟨a4, c4, rfl⟩ := own_slN o4 (by rw [HRL.out, ← HN.out])
          have HO := Lib.hid o
          have HO4 := Lib.hid o4
          clear o o4 b1 b3 b4 hv1 HI HI2 HV2
          go_wp2
          go_loopw [7] (fun i wr => ∃ k : Nat, 1 ≤ k ∧ k ≤ n ∧ i = .int .i64 k ∧ Hid (∀ d, d < k → 0 < d → wrap64 (ix zs d + ix rs d) = 0) ∧ Below w4.heap.size w4 wr) (fun i _ => n - (intOf i).toNat)
          case atStart => exact ⟨1, Nat.le_refl _, by have := H0.out; have := HN.out; omega, rfl, Lib.hid fun d h1 h2 => by omega, Below.refl _ _⟩
          case round =>
            obtain ⟨k, hk1, hk, rfl, hs, hB⟩ := hrel
            by_cases hlt : k < n
            · have k0 : (k : Int) < (n : Int) := by omega
              have o' := HO.out.below hB (Nat.le_refl _)
              have o4' := HO4.out.below hB (Nat.le_refl _)
              rcases o'.shape with ⟨_, hnil⟩ | ⟨g, cg, hgq, _, _⟩
              · have := HZL.out; rw [hnil] at this; have := HN.out; simp at *; omega
              obtain ⟨rfl, -, rfl⟩ : a' = some ⟨g, 0, none⟩ ∧ True ∧ c' = cg := by simp only [Value.slice.injEq] at hgq; exact ⟨hgq.1, trivial, hgq.2.2⟩
              rcases o4'.shape with ⟨_, hnil⟩ | ⟨g4, cg4, hgq4, _, _⟩
              · have := HRL.out; rw [hnil] at this; have := HN.out; simp at *; omega
              obtain ⟨rfl, -, rfl⟩ : a4 = some ⟨g4, 0, none⟩ ∧ True ∧ c4 = cg4 := by simp only [Value.slice.injEq] at hgq4; exact ⟨hgq4.1, trivial, hgq4.2.2⟩
              have d1 := o'.cell k (by rw [HZL.out, ← HN.out]; exact hlt)
              have d2 := o4'.cell k (by rw [HRL.out, ← HN.out]; exact hlt)
              obtain ⟨z, hzz⟩ : ∃ z, ix zs k = z := ⟨_, rfl⟩
              obtain ⟨r, hrr⟩ : ∃ r, ix rs k = r := ⟨_, rfl⟩
              rw [hzz] at d1
              rw [hrr] at d2
              obtain ⟨q, hqq⟩ : ∃ q, IntKind.i64.wrap (z + r) = q := ⟨_, rfl⟩
              have HK := Lib.hid (show wrap64 (ix zs k + ix rs k) = q by rw [hzz, hrr, ← hqq, IntKind.wrap_i64]; unfold wrap64; rfl)
              clear o' o4' hgq hgq4 hzz hrr
              by_cases hz : q = 0
              · have hz2 : (q != 0) = false := by simp [hz]
                have HZ0 := Lib.hid hz
                clear hz
                go_wp2_with go_quiet (fail)
                go_roundw
                case rel =>
                  refine ⟨k + 1, by omega, by omega, by go_num, Lib.hid fun d h1 h2 => ?_, bel_drewN hB _⟩
                  by_cases e : d = k
                  · rw [e, HK.out]; exact HZ0.out
                  · exact hs.out d (by omega) h2
                case measure => simp [intOf]; omega
              · have hz2 : (q != 0) = true := by simp [hz]
                have HF := Lib.hid (paB_no (xs := xs) (ys := ys) fun p => hz (by have := p.2.2.2.2 k (by rw [← HN.out]; exact hlt) (by omega); rw [← HZ.out, ← HR.out, HK.out] at this; exact this))
                clear hz
                go_wp2_with go_quiet (fail)
                go_ret
                exact ⟨ret_bool HF.out.symm, bel_nxt bb (bel_drewN hB _)⟩
            · obtain rfl : k = n := by omega
              have HF := Lib.hid (paB_yes (xs := xs) (ys := ys) ⟨HB.out, HB2.out, HQ.out, H0.out, by rw [← HN.out, ← HZ.out, ← HR.out]; exact hs.out⟩)
              clear hs
              go_wp2
              go_ret
              exact ⟨ret_bool HF.out.symm, bel_nxt bb hB⟩
      · have HF := Lib.hid (paB_no (xs := xs) (ys := ys) fun q => hq q.2.2.1)
        have e1 : ((xs.length : Int) != (ys.length : Int)) = true := by simp; omega
        clear hb hb2 hx hy
        go_enter Try.func39, Try.ntmps39
        go_wp2_with fail
        refine hv1.mono ?_
        rintro e w1 ⟨rfl, b1⟩
        go_wp2_with fail
        refine (HV2.out _ b1).mono ?_
        rintro e w2 ⟨rfl, b2⟩
        have b1 := bel_nxt b1 b2
        clear b2
        go_wp2
        go_ret
        exact ⟨ret_bool HF.out.symm, b1⟩

theorem specArePaired_any (u v : Value) (xs ys : List Int) (w : World) (hx : Rd w u xs) (hy : Rd w v ys) (hl1 : xs.length ≤ maxLen) (hl2 : ys.length ≤ maxLen) :
    Calls Try.prog 20 #[u, v] w (Says (paB xs ys) w) := by
  have HV := Lib.hid (specpair_any u v xs ys w hx hy hl1 hl2)
  clear hx hy
  go_enter Try.func20, Try.ntmps20
  go_wp2_with fail
  refine HV.out.mono ?_
  rintro e w1 ⟨rfl, b1⟩
  go_wp2
  go_ret
  exact ⟨rfl, b1⟩

end Go.Proofs.Ytagncoahobghpac
